/-
  What an ending makes of a word: the contracts of spec.l08Change and of the program's closures.
-/
import Derived.Test.YtippjomkbpiliaaEnS
import Derived.Test.YtippjomkbpiliaaSetPlain
namespace Go.Proofs.Ytippjomkbpiliaa
set_option linter.unusedVariables false
open Go.RowKit

def sufB (s p : ByteArray) : Bool := Lib.hasSuffix s.data.toList p.data.toList
def cutB (s p : ByteArray) : ByteArray := ⟨(Lib.trimSuffix s.data.toList p.data.toList).toArray⟩
def chT (word old new : ByteArray) : ByteArray := cutB word old ++ new
def chB (word old new : ByteArray) : Bool := sufB word old && wordB (chT word old new)
def chS (word old new : ByteArray) : ByteArray := if sufB word old then chT word old new else ByteArray.empty
theorem chS_no {word old new : ByteArray} (h : sufB word old = false) : chS word old new = ByteArray.empty := by unfold chS; rw [h]; rfl
theorem chS_ok {word old new : ByteArray} (h : sufB word old = true) : chS word old new = chT word old new := by unfold chS; rw [h]; rfl
theorem chS_yes {word old new : ByteArray} (h : chB word old new = true) : chS word old new = chT word old new := by unfold chB at h; rw [Bool.and_eq_true] at h; exact chS_ok h.1
def optV (o : Option ByteArray) : Value := match o with
  | some t => .tuple #[.string t, .bool true]
  | none => .tuple #[.string ByteArray.empty, .bool false]
def formO (word : ByteArray) (e : En) : Option ByteArray := if chB word e.1 e.2.1 then some (chT word e.1 e.2.1) else none
def baseO (word : ByteArray) (e : En) : Option ByteArray := if chB word e.2.1 e.1 then some (chT word e.2.1 e.1) else none
theorem baseO_rev (word : ByteArray) (e : En) : baseO word e = formO word (e.2.1, e.1, e.2.2) := rfl
theorem form_no (word : ByteArray) (e : En) (h : sufB word e.1 = false) : formO word e = none := by unfold formO chB; rw [h]; rfl
theorem form_bad (word : ByteArray) (e : En) (h : wordB (chT word e.1 e.2.1) = false) : formO word e = none := by unfold formO chB; rw [h, Bool.and_false]; rfl
theorem form_yes (word : ByteArray) (e : En) (h : sufB word e.1 = true) (k : wordB (chT word e.1 e.2.1) = true) : formO word e = some (chT word e.1 e.2.1) := by unfold formO chB; rw [h, k]; rfl
theorem suf_raw (s p : ByteArray) : sufB s p = (decide (p.size ≤ s.size) && ((s.extract (s.size - p.size) s.size).toList == p.toList)) := (Lib.hasSuffix_raw s p).symm
theorem cut_size (s p : ByteArray) : (cutB s p).size ≤ s.size := by
  unfold cutB Lib.trimSuffix
  split
  · show (s.data.toList.take _).toArray.size ≤ _
    rw [List.size_toArray, List.length_take]
    have : s.data.toList.length = s.size := by simp
    omega
  · exact Nat.le_refl _
theorem chT_size (word old new : ByteArray) : (chT word old new).size ≤ word.size + new.size := by
  unfold chT; rw [ByteArray.size_append]; have := cut_size word old; omega
theorem cut_yes (s p : ByteArray) (h : sufB s p = true) : cutB s p = s.extract 0 (s.size - p.size) := by
  unfold sufB at h
  unfold cutB Lib.trimSuffix
  rw [if_pos h]
  apply ByteArray.ext
  apply Array.toList_inj.1
  have h1 : s.data.toList.length = s.size := by simp
  have h2 : p.data.toList.length = p.size := by simp
  rw [h1, h2]
  simp [ByteArray.data_extract]
theorem form_size (word : ByteArray) (e : En) (t : ByteArray) (h : formO word e = some t) : wordB t = true := by
  unfold formO at h
  split at h
  · rename_i hc; cases h
    unfold chB at hc; rw [Bool.and_eq_true] at hc; exact hc.2
  · cases h

set_option maxHeartbeats 1000000 in
theorem cChange (word old new : ByteArray) (w : World) (h0 : word.size ≤ 1048576) (h1 : old.size ≤ 1048576) (h2 : new.size ≤ 1048576) :
    Calls Try.prog 42 #[.string word, .string old, .string new] w fun e w' => e = .returned (.tuple #[.string (chS word old new), .bool (chB word old new)]) ∧ w = w' := by
  by_cases hlt : word.size < old.size
  · have hs : sufB word old = false := by rw [suf_raw, decide_eq_false (by omega)]; rfl
    have HB : Hid (chB word old new = false) := Lib.hid (by unfold chB; rw [hs]; rfl)
    have HS : Hid (chS word old new = ByteArray.empty) := Lib.hid (chS_no hs)
    clear hs
    go_enter Try.func42, Try.ntmps42
    go_wp2_with fail
    go_ret2
    exact ⟨by rw [HB.out, HS.out]; rfl, rfl⟩
  obtain ⟨m, hm⟩ : ∃ m, word.size = old.size + m := ⟨word.size - old.size, by omega⟩
  have hz : (word.size : Int) - (old.size : Int) = (m : Int) := by omega
  have hmm : word.size - old.size = m := by omega
  have hml : m ≤ word.size := by omega
  have hraw := suf_raw word old
  rw [decide_eq_true (by omega), Bool.true_and, hmm] at hraw
  cases hv : ((word.extract m word.size).toList == old.toList)
  · have hs : sufB word old = false := by rw [hraw]; exact hv
    have HB : Hid (chB word old new = false) := Lib.hid (by unfold chB; rw [hs]; rfl)
    have HS : Hid (chS word old new = ByteArray.empty) := Lib.hid (chS_no hs)
    clear hs hraw hm hmm
    go_enter Try.func42, Try.ntmps42
    go_wp2_with fail
    go_ret2
    exact ⟨by rw [HB.out, HS.out]; rfl, rfl⟩
  · have hs : sufB word old = true := by rw [hraw]; exact hv
    have HT : Hid (chT word old new = word.extract 0 m ++ new) := Lib.hid (by unfold chT; rw [cut_yes _ _ hs, hmm])
    have HB : Hid (chB word old new = wordB (word.extract 0 m ++ new)) := Lib.hid (by unfold chB; rw [hs, Bool.true_and, HT.out])
    have HS : Hid (chS word old new = word.extract 0 m ++ new) := Lib.hid ((chS_ok hs).trans HT.out)
    have HSZ : Hid ((word.extract 0 m ++ new).size ≤ maxLen) := Lib.hid (by rw [← HT.out]; have := chT_size word old new; unfold maxLen; omega)
    have CW := Lib.hid (fun W => cIsWord_spec (word.extract 0 m ++ new) W HSZ.out)
    clear hs hraw hm hmm
    go_enter Try.func42, Try.ntmps42
    go_wp2_with (go_at_call 51; refine (CW.out _).mono ?_; rintro e w' ⟨rfl, rfl⟩)
    go_ret2
    exact ⟨by rw [HB.out, HS.out]; rfl, rfl⟩

set_option maxHeartbeats 1000000 in
theorem cFormFn (word : ByteArray) (e : En) (g : Nat) (w : World) (h0 : word.size ≤ 1048576) (h1 : e.1.size ≤ 1048576) (h2 : e.2.1.size ≤ 1048576) (hg : g < w.heap.size) (hc : w.cell? ⟨g, 0, none⟩ = some (.string word)) :
    Calls Try.prog 68 #[.agg #[.string e.1, .string e.2.1, .int .i64 e.2.2], .pointer (some ⟨g, 0, none⟩)] w fun e' w' => e' = .returned (optV (formO word e)) ∧ Below w.heap.size w w' := by
  obtain ⟨o, n, c⟩ := e
  change o.size ≤ 1048576 at h1
  change n.size ≤ 1048576 at h2
  have hb : Hid (Below w.heap.size w (w.alloc (.cells #[.string o, .string n, .int .i64 c] 60))) := Lib.hid ((Below.refl _ _).alloc (Nat.le_refl _) _)
  have hc2 : (w.alloc (.cells #[.string o, .string n, .int .i64 c] 60)).cell? ⟨g, 0, none⟩ = some (.string word) := (hb.out.cell (p := ⟨g, 0, none⟩) hg).trans hc
  have CS := Lib.hid (fun W => Try.strings_CutSuffix word o W (by omega))
  have HT : Hid (chT word o n = cutB word o ++ n) := Lib.hid rfl
  have HSZ : Hid ((cutB word o ++ n).size ≤ maxLen) := Lib.hid (by have := chT_size word o n; show (chT word o n).size ≤ _; unfold maxLen; omega)
  have CW := Lib.hid (fun W => cIsWord_impl (cutB word o ++ n) W HSZ.out)
  have F1 := Lib.hid (form_no word (o, n, c))
  have F2 := Lib.hid (form_bad word (o, n, c))
  have F3 := Lib.hid (form_yes word (o, n, c))
  change Hid (∀ W, Calls Try.prog 69 #[.string word, .string o] W fun e w' => e = .returned (.tuple #[.string (cutB word o), .bool (sufB word o)]) ∧ w' = W) at CS
  change Hid (sufB word o = false → formO word (o, n, c) = none) at F1
  change Hid (wordB (cutB word o ++ n) = false → formO word (o, n, c) = none) at F2
  change Hid (sufB word o = true → wordB (cutB word o ++ n) = true → formO word (o, n, c) = some (cutB word o ++ n)) at F3
  generalize formO word (o, n, c) = R at F1 F2 F3 ⊢
  generalize cutB word o = T at CS CW F2 F3 HSZ
  have hsz := HSZ.out
  rw [ByteArray.size_append] at hsz
  unfold maxLen at hsz
  clear HT hc
  cases hs : sufB word o
  · rw [hs] at CS
    have HR := Lib.hid (F1.out hs)
    clear hs F1 F2 F3
    go_enter Try.func68, Try.ntmps68
    go_wp2_with (go_at_call 69; refine (CS.out _).mono ?_; rintro e w' ⟨rfl, rfl⟩)
    go_ret2
    exact ⟨by rw [HR.out]; rfl, hb.out⟩
  · rw [hs] at CS
    cases hw : wordB (T ++ n)
    · rw [hw] at CW
      have HR := Lib.hid (F2.out hw)
      clear hs hw F1 F2 F3
      go_enter Try.func68, Try.ntmps68
      go_wp2_with (first
        | (go_at_call 69; refine (CS.out _).mono ?_; rintro e w' ⟨rfl, rfl⟩)
        | (go_at_call 38; refine (CW.out _).mono ?_; rintro e w' ⟨rfl, rfl⟩))
      go_ret2
      exact ⟨by rw [HR.out]; rfl, hb.out⟩
    · rw [hw] at CW
      have HR := Lib.hid (F3.out hs hw)
      clear hs hw F1 F2 F3
      go_enter Try.func68, Try.ntmps68
      go_wp2_with (first
        | (go_at_call 69; refine (CS.out _).mono ?_; rintro e w' ⟨rfl, rfl⟩)
        | (go_at_call 38; refine (CW.out _).mono ?_; rintro e w' ⟨rfl, rfl⟩))
      go_ret2
      exact ⟨by rw [HR.out]; rfl, hb.out⟩

theorem cReversed (o n : ByteArray) (c : Int) (w : World) :
    Calls Try.prog 67 #[.agg #[.string o, .string n, .int .i64 c]] w fun e w' => e = .returned (.agg #[.string n, .string o, .int .i64 c]) ∧ Below w.heap.size w w' := by
  go_enter Try.func67, Try.ntmps67
  go_wp2
  refine bodyPost_ret ?_ rfl ⟨rfl, ?_⟩
  · simp [results, Try.results67, go_sem]
  · exact ((Below.refl _ _).alloc (Nat.le_refl _) _).alloc (by simp) _

set_option maxHeartbeats 1000000 in
set_option maxRecDepth 100000 in
theorem cBaseFn (word : ByteArray) (e : En) (g p : Nat) (w : World) (h0 : word.size ≤ 1048576) (h1 : e.1.size ≤ 1048576) (h2 : e.2.1.size ≤ 1048576) (hg : g < w.heap.size) (hc : w.cell? ⟨g, 0, none⟩ = some (.string word))
    (hp : p < w.heap.size) (hcp : w.cell? ⟨p, 0, none⟩ = some (.func (.func 68) #[] #[.pointer (some ⟨g, 0, none⟩)])) :
    Calls Try.prog 66 #[.agg #[.string e.1, .string e.2.1, .int .i64 e.2.2], .pointer (some ⟨p, 0, none⟩)] w fun e' w' => e' = .returned (optV (baseO word e)) ∧ Below w.heap.size w w' := by
  obtain ⟨o, n, c⟩ := e
  change o.size ≤ 1048576 at h1
  change n.size ≤ 1048576 at h2
  have hb : Hid (Below w.heap.size w (w.alloc (.cells #[.string o, .string n, .int .i64 c] 60))) := Lib.hid ((Below.refl _ _).alloc (Nat.le_refl _) _)
  have hpa : (w.alloc (.cells #[.string o, .string n, .int .i64 c] 60)).cell? ⟨p, 0, none⟩ = some (.func (.func 68) #[] #[.pointer (some ⟨g, 0, none⟩)]) := (hb.out.cell (p := ⟨p, 0, none⟩) hp).trans hcp
  have n0 : (w.alloc (.cells #[.string o, .string n, .int .i64 c] 60)).cell? ⟨w.heap.size, 0, none⟩ = some (.string o) := by rw [World.cell?_alloc_at _ _ _ _ rfl]; rfl
  have n1 : (w.alloc (.cells #[.string o, .string n, .int .i64 c] 60)).cell? ⟨w.heap.size, 1, none⟩ = some (.string n) := by rw [World.cell?_alloc_at _ _ _ _ rfl]; rfl
  have n2 : (w.alloc (.cells #[.string o, .string n, .int .i64 c] 60)).cell? ⟨w.heap.size, 2, none⟩ = some (.int .i64 c) := by rw [World.cell?_alloc_at _ _ _ _ rfl]; rfl
  have q0 : w.heap.size < (w.alloc (.cells #[.string o, .string n, .int .i64 c] 60)).heap.size := by simp
  have hp2 : p < (w.alloc (.cells #[.string o, .string n, .int .i64 c] 60)).heap.size := by simp; omega
  have CR := Lib.hid (fun W => cReversed o n c W)
  have CF := Lib.hid (fun W (hW : Below w.heap.size w W) => cFormFn word (n, o, c) g W h0 h2 h1 (Nat.lt_of_lt_of_le hg hW.size) ((hW.cell (p := ⟨g, 0, none⟩) hg).trans hc))
  have HR : Hid (baseO word (o, n, c) = formO word (n, o, c)) := Lib.hid rfl
  generalize baseO word (o, n, c) = R0 at HR ⊢
  generalize formO word (n, o, c) = R at CF HR
  clear hc hcp hg
  cases R with
  | none =>
    dsimp only [optV] at CF
    go_enter Try.func66, Try.ntmps66
    go_wp2_with fail
    obtain ⟨T, f, t0, hT, ht0, hf, hback⟩ := class_of (w.alloc (.cells #[.string o, .string n, .int .i64 c] 60))
    have k0 : ∀ t, (f t).cell? ⟨w.heap.size, 0, none⟩ = some (.string o) := fun t => ((hf t).cell (p := ⟨w.heap.size, 0, none⟩) q0).trans n0
    have k1 : ∀ t, (f t).cell? ⟨w.heap.size, 1, none⟩ = some (.string n) := fun t => ((hf t).cell (p := ⟨w.heap.size, 1, none⟩) q0).trans n1
    have k2 : ∀ t, (f t).cell? ⟨w.heap.size, 2, none⟩ = some (.int .i64 c) := fun t => ((hf t).cell (p := ⟨w.heap.size, 2, none⟩) q0).trans n2
    have k3 : ∀ t, (f t).cell? ⟨p, 0, none⟩ = some (.func (.func 68) #[] #[.pointer (some ⟨g, 0, none⟩)]) := fun t => ((hf t).cell (p := ⟨p, 0, none⟩) hp2).trans hpa
    have CG := Lib.hid (fun t => CF.out (f t) (hb.out.trans ((hf t).mono hb.out.size)))
    have HF := Lib.hid hf
    have HK := Lib.hid hback
    clear hf hback
    refine wp_region_class f t0 ht0 (by kernel_rfl) (by kernel_rfl) ?_
    clear ht0
    repeat (go_big_quiet_step (first
      | (go_at_call 67; exact Calls.class_of HF.out HK.out (CR.out _))
      | (go_at_call 68; exact Calls.class_of HF.out HK.out (CG.out _))))
    refine wpQuiet_nil ?_
    rintro w' ⟨t, rfl⟩
    have hbt := hb.out.trans ((HF.out t).mono hb.out.size)
    go_wp2
    go_ret2
    exact ⟨by rw [HR.out]; rfl, hbt⟩
  | some s =>
    dsimp only [optV] at CF
    go_enter Try.func66, Try.ntmps66
    go_wp2_with fail
    obtain ⟨T, f, t0, hT, ht0, hf, hback⟩ := class_of (w.alloc (.cells #[.string o, .string n, .int .i64 c] 60))
    have k0 : ∀ t, (f t).cell? ⟨w.heap.size, 0, none⟩ = some (.string o) := fun t => ((hf t).cell (p := ⟨w.heap.size, 0, none⟩) q0).trans n0
    have k1 : ∀ t, (f t).cell? ⟨w.heap.size, 1, none⟩ = some (.string n) := fun t => ((hf t).cell (p := ⟨w.heap.size, 1, none⟩) q0).trans n1
    have k2 : ∀ t, (f t).cell? ⟨w.heap.size, 2, none⟩ = some (.int .i64 c) := fun t => ((hf t).cell (p := ⟨w.heap.size, 2, none⟩) q0).trans n2
    have k3 : ∀ t, (f t).cell? ⟨p, 0, none⟩ = some (.func (.func 68) #[] #[.pointer (some ⟨g, 0, none⟩)]) := fun t => ((hf t).cell (p := ⟨p, 0, none⟩) hp2).trans hpa
    have CG := Lib.hid (fun t => CF.out (f t) (hb.out.trans ((hf t).mono hb.out.size)))
    have HF := Lib.hid hf
    have HK := Lib.hid hback
    clear hf hback
    refine wp_region_class f t0 ht0 (by kernel_rfl) (by kernel_rfl) ?_
    clear ht0
    repeat (go_big_quiet_step (first
      | (go_at_call 67; exact Calls.class_of HF.out HK.out (CR.out _))
      | (go_at_call 68; exact Calls.class_of HF.out HK.out (CG.out _))))
    refine wpQuiet_nil ?_
    rintro w' ⟨t, rfl⟩
    have hbt := hb.out.trans ((HF.out t).mono hb.out.size)
    go_wp2
    go_ret2
    exact ⟨by rw [HR.out]; rfl, hbt⟩
end Go.Proofs.Ytippjomkbpiliaa
