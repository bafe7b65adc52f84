/-
  The contracts of impl.IsEndingTable and what it calls.
-/
import Derived.Test.YtippjomkbpiliaaEnPlain
import Derived.Test.YtippjomkbpiliaaIsWord
import Derived.Test.YtippjomkbpiliaaAlphaS
import Derived.Test.YtippjomkbpiliaaClass
import Derived.Test.YtippjomkbpiliaaShelf
import Derived.Laws.StructEq
import Derived.Deep.QuietTactic
import Derived.BigQuiet
namespace Go.Proofs.Ytippjomkbpiliaa
set_option linter.unusedVariables false
open Go.RowKit Go.Shelf Go.Lib

theorem cEt_impl (s : ByteArray) (w : World) (hs : s.size ≤ maxLen) :
    Calls Try.prog 74 #[.string s] w fun e w' => e = .returned (.bool (etB s)) ∧ w = w' := by
  have CL := Lib.hid (cLetters s w hs)
  unfold maxLen at hs
  by_cases h0 : s.size ≤ 6
  · have HX := Lib.hid (et_short s h0)
    go_enter Try.func74, Try.ntmps74
    go_wp2_with (go_at_call 63; refine CL.out.mono ?_; rintro e w' ⟨rfl, rfl⟩)
    go_ret
    exact ⟨ret_bool HX.out.symm, rfl⟩
  · have HX := Lib.hid (et_long s h0)
    go_enter Try.func74, Try.ntmps74
    go_wp2
    go_ret
    exact ⟨ret_bool HX.out.symm, rfl⟩

set_option maxHeartbeats 1000000 in
theorem cEndB_impl (o n : ByteArray) (c : Int) (w : World) (ho : o.size ≤ maxLen) (hn : n.size ≤ maxLen) :
    Calls Try.prog 52 #[.agg #[.string o, .string n, .int .i64 c]] w fun e w' => e = .returned (.bool (endB (o, n, c))) ∧ Below w.heap.size w w' := by
  have C1 := Lib.hid (fun W => cEt_impl o W ho)
  have C2 := Lib.hid (fun W => cEt_impl n W hn)
  have hb : Hid (Below w.heap.size w (w.alloc (.cells #[.string o, .string n, .int .i64 c] 60))) := Lib.hid ((Below.refl _ _).alloc (Nat.le_refl _) _)
  have HE : Hid (endB (o, n, c) = (etB o && etB n && !decide (o = n) && (decide (1 ≤ c) && decide (c ≤ 9)))) := Lib.hid rfl
  have ht : (o.toList == n.toList) = decide (o = n) := toList_beq o n
  have ht2 : (o.toList != n.toList) = !decide (o = n) := by rw [bne, toList_beq]
  generalize endB (o, n, c) = R at HE ⊢
  cases h1 : etB o
  · rw [h1] at C1 HE
    clear h1
    go_enter Try.func52, Try.ntmps52
    go_wp2_with (go_at_call_of 74 (Value.string o); refine (C1.out _).mono ?_; rintro e w' ⟨rfl, rfl⟩)
    go_ret
    exact ⟨ret_bool (by rw [HE.out]; first | (simp; done) | (simp; omega)), hb.out⟩
  rw [h1] at C1 HE
  clear h1
  cases h2 : etB n
  · rw [h2] at C2 HE
    clear h2
    go_enter Try.func52, Try.ntmps52
    go_wp2_with (first
      | (go_at_call_of 74 (Value.string o); refine (C1.out _).mono ?_; rintro e w' ⟨rfl, rfl⟩)
      | (go_at_call_of 74 (Value.string n); refine (C2.out _).mono ?_; rintro e w' ⟨rfl, rfl⟩))
    go_ret
    exact ⟨ret_bool (by rw [HE.out]; first | (simp; done) | (simp; omega)), hb.out⟩
  rw [h2] at C2 HE
  clear h2
  by_cases h3 : o = n
  · rw [decide_eq_true h3] at ht ht2 HE
    clear h3
    go_enter Try.func52, Try.ntmps52
    go_wp2_with (first
      | (go_at_call_of 74 (Value.string o); refine (C1.out _).mono ?_; rintro e w' ⟨rfl, rfl⟩)
      | (go_at_call_of 74 (Value.string n); refine (C2.out _).mono ?_; rintro e w' ⟨rfl, rfl⟩))
    go_ret
    exact ⟨ret_bool (by rw [HE.out]; first | (simp; done) | (simp; omega)), hb.out⟩
  rw [decide_eq_false h3] at ht ht2 HE
  clear h3
  by_cases h4 : 1 ≤ c
  · by_cases h5 : c ≤ 9
    · rw [decide_eq_true h4, decide_eq_true h5] at HE
      go_enter Try.func52, Try.ntmps52
      go_wp2_with (first
        | (go_at_call_of 74 (Value.string o); refine (C1.out _).mono ?_; rintro e w' ⟨rfl, rfl⟩)
        | (go_at_call_of 74 (Value.string n); refine (C2.out _).mono ?_; rintro e w' ⟨rfl, rfl⟩))
      go_ret
      exact ⟨ret_bool (by rw [HE.out]; first | (simp; done) | (simp; omega)), hb.out⟩
    · rw [decide_eq_true h4, decide_eq_false h5] at HE
      go_enter Try.func52, Try.ntmps52
      go_wp2_with (first
        | (go_at_call_of 74 (Value.string o); refine (C1.out _).mono ?_; rintro e w' ⟨rfl, rfl⟩)
        | (go_at_call_of 74 (Value.string n); refine (C2.out _).mono ?_; rintro e w' ⟨rfl, rfl⟩))
      go_ret
      exact ⟨ret_bool (by rw [HE.out]; first | (simp; done) | (simp; omega)), hb.out⟩
  · rw [decide_eq_false h4] at HE
    go_enter Try.func52, Try.ntmps52
    go_wp2_with (first
      | (go_at_call_of 74 (Value.string o); refine (C1.out _).mono ?_; rintro e w' ⟨rfl, rfl⟩)
      | (go_at_call_of 74 (Value.string n); refine (C2.out _).mono ?_; rintro e w' ⟨rfl, rfl⟩))
    go_ret
    exact ⟨ret_bool (by rw [HE.out]; first | (simp; done) | (simp; omega)), hb.out⟩

theorem eqE : EqlAt Try.prog 60 (fun x => .agg (encE x).toArray) (fun x y : En => (x.1.toList == y.1.toList) && ((x.2.1.toList == y.2.1.toList) && (x.2.2 == y.2.2))) := by
  refine ⟨fun x y w => ?_, GuardAt.agg _ (by kernel_rfl)⟩
  have u2 := Try.underlying2
  have a2 := Try.isAgg2
  have z2 := Try.sizeOf2
  have u9 := Try.underlying9
  have a9 := Try.isAgg9
  have z9 := Try.sizeOf9
  have hS : Try.prog.underlying 60 = some (.struct (Try.prog.fieldsOf 60)) := by kernel_rfl
  have hp : Try.prog.stoodInHeld 60 = false := by kernel_rfl
  simp only [encE]
  rw [run_eql_struct, show (10000 : Nat) = 9999 + 1 from rfl, run_equalIn_agg w 9999 60 _ _ hS hp]
  simp only [Program.fieldsOf, Try.underlying60]
  go_simp
  by_cases h1 : x.1.toList = y.1.toList <;> by_cases h2 : x.2.1.toList = y.2.1.toList <;> by_cases h3 : x.2.2 = y.2.2 <;> simp [h1, h2, h3]
theorem eqE_dec (x y : En) : ((x.1.toList == y.1.toList) && ((x.2.1.toList == y.2.1.toList) && (x.2.2 == y.2.2))) = decide (x = y) := by
  obtain ⟨a, b, c⟩ := x
  obtain ⟨a', b', c'⟩ := y
  show ((a.toList == a'.toList) && ((b.toList == b'.toList) && (c == c'))) = _
  rw [toList_beq, toList_beq]
  by_cases h1 : a = a' <;> by_cases h2 : b = b' <;> by_cases h3 : c = c' <;> simp [h1, h2, h3]
theorem anyE_dec (xs : List En) (x : En) : (xs.any fun y => (x.1.toList == y.1.toList) && ((x.2.1.toList == y.2.1.toList) && (x.2.2 == y.2.2))) = decide (x ∈ xs) := by
  simp only [eqE_dec]
  by_cases h : x ∈ xs
  · rw [decide_eq_true h, List.any_eq_true]; exact ⟨x, h, by simp⟩
  · rw [decide_eq_false h, List.any_eq_false]; intro y hy; simp; rintro rfl; exact h hy
instance inhEn : Inhabited En := ⟨(ByteArray.empty, ByteArray.empty, 0)⟩
theorem cContE (b o n c : Nat) (zs : List En) (x : En) (w : World) (hz : n ≤ zs.length) (hbig : n ≤ 1048576) (hc : ∀ (j : Nat) e, zs[j]? = some e → EnCell w b (o + j * 3) e) :
    Calls Try.prog 75 #[.slice (some ⟨b, o, none⟩) n c, .agg #[.string x.1, .string x.2.1, .int .i64 x.2.2]] w fun e w' => e = .returned (.bool (decide (x ∈ zs.take n))) ∧ Below w.heap.size w w' := by
  have h := AnyQ.slices_Contains Try.hasE 3 Try.isAgg60 Try.sizeOf60 encE (fun _ => rfl) _ eqE b o n c zs x w hz (by omega) (fun j hj i v hv => by
    have h0 : zs[j]! = zs[j] := getElem!_pos zs j hj
    have h1 := hc j zs[j] (List.getElem?_eq_getElem hj)
    rw [h0] at hv
    match i, hv with
    | 0, hv => obtain rfl : Value.string zs[j].1 = v := by simpa [encE] using hv
               exact h1.1
    | 1, hv => obtain rfl : Value.string zs[j].2.1 = v := by simpa [encE] using hv
               exact h1.2.1
    | 2, hv => obtain rfl : Value.int .i64 zs[j].2.2 = v := by simpa [encE] using hv
               exact h1.2.2
    | k + 3, hv => simp [encE] at hv)
  rw [anyE_dec] at h
  exact h
end Go.Proofs.Ytippjomkbpiliaa
