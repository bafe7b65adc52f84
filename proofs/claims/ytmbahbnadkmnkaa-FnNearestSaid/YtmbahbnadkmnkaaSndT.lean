/-
  Tables of sounds: the contracts of impl.soundTableOf, impl.IsSoundTable, impl.codeOfWords, impl.soundTableFor, spec.IsSoundTable and spec.l07Code.
-/
import Derived.Test.YtmbahbnadkmnkaaSndPlain
import Derived.Test.YtmbahbnadkmnkaaTexts
import Derived.Test.YtmbahbnadkmnkaaDpPlain
import Derived.StillTailTactics
import Derived.Deep.WholeRow
import Derived.Laws.CopyOwn
import Derived.Laws.Tables
namespace Go.Proofs.Ytmbahbnadkmnkaa
set_option linter.unusedVariables false
open Go.RowKit

def zs26 : Array Value := Array.replicate 26 (.int .i64 0)
theorem zs26_size : zs26.size = 26 := by simp [zs26]
theorem zs26_ne : ¬ zs26 = #[] := by intro h; have := zs26_size; rw [h] at this; simp at this
theorem zero26 (w : World) : (zeroValue 75).run Try.prog w = .ok (.agg zs26) w := by kernel_rfl
theorem size26 : (Try.prog.info? 75).map (·.size) = some 26 := by kernel_rfl
theorem info_i64' : (Try.prog.info? 2).map (·.size) = some 1 := by kernel_rfl
/-- The cells of a table; zeros for what is none. -/
def agC (xs : List Int) : Array Value := (intV xs).toArray
def tabC (xs : List Int) : Array Value := if tabB xs then agC xs else zs26
theorem tabC_yes {xs : List Int} (h : tabB xs = true) : tabC xs = agC xs := by unfold tabC; rw [if_pos h]
theorem tabC_no {xs : List Int} (h : tabB xs = false) : tabC xs = zs26 := by unfold tabC; rw [if_neg (by rw [h]; decide)]
theorem agC_size (xs : List Int) : (agC xs).size = xs.length := by simp [agC, intV]
theorem tabC_size (xs : List Int) : (tabC xs).size = 26 := by
  cases h : tabB xs
  · rw [tabC_no h, zs26_size]
  · rw [tabC_yes h, agC_size, tab_len h]
theorem zs26_cells : zs26.all (·.oneCell') = true := by
  rw [Array.all_eq_true_iff_forall_mem]
  intro v hv
  simp [zs26] at hv
  rw [hv]; rfl
theorem agC_cells (xs : List Int) : (agC xs).all (·.oneCell') = true := by
  rw [Array.all_eq_true_iff_forall_mem]
  intro v hv
  simp [agC, intV] at hv
  obtain ⟨j, _, rfl⟩ := hv
  rfl
theorem tabC_cells (xs : List Int) : (tabC xs).all (·.oneCell') = true := by
  cases h : tabB xs
  · rw [tabC_no h]; exact zs26_cells
  · rw [tabC_yes h]; exact agC_cells xs
theorem agC_at {xs : List Int} {k : Nat} {x : Int} (h : xs[k]? = some x) : (agC xs)[k]? = some (.int .i64 x) := by simp [agC, intV, h]
theorem TabAt.below {w w' : World} {g B : Nat} {t : TypeId} {cs : Array Value} (h : TabAt w g t cs) (hb : Below B w w') (hg : g < B) : TabAt w' g t cs := (hb.block g hg).trans h
theorem TabAt.setSame {w : World} {g : Nat} {t : TypeId} {old cs : Array Value} (h : TabAt w g t old) : TabAt (w.setRow g cs) g t cs := setRow_heap w g old cs t _ h
theorem splice_whole (l m : List Value) (h : l.length = m.length) : splice l 0 m = m := by
  unfold splice; rw [List.take_zero, List.nil_append, List.drop_of_length_le (by omega), List.append_nil]

/-- What a table's reading gives. -/
def TabOut (xs : List Int) (w : World) (e : Ending) (w' : World) : Prop := e = .returned (.tuple #[.agg (tabC xs), .bool (tabB xs)]) ∧ Below w.heap.size w w'

set_option maxHeartbeats 1000000 in
set_option maxRecDepth 100000 in
theorem cTabOf (A : Option Addr) (n c : Nat) (xs : List Int) (w : World) (hb : n ≤ maxLen) (h : NumAt w w.heap.size A n xs) :
    Calls Try.prog 56 #[.slice A n c] w (TabOut xs w) := by
  have CW := Lib.hid (fun (W : World) (hW : Below w.heap.size w W) => cWithin A n c w.heap.size xs 0 9 W hb (h.below hW (Nat.le_refl _)))
  unfold maxLen at hb
  have HN := Lib.hid h.1
  have H := Lib.hid h
  clear h
  have hz := zero26
  have hne := zs26_ne
  have bel0 : Below w.heap.size w ((w.alloc (.cells zs26 75)).alloc (.cells zs26 75)) := by go_grown
  have hs2 : ((w.alloc (.cells zs26 75)).alloc (.cells zs26 75)).heap.size = w.heap.size + 2 := by simp
  have tab0 : TabAt ((w.alloc (.cells zs26 75)).alloc (.cells zs26 75)) w.heap.size 75 zs26 := (TabAt.new w _ _).alloc _
  have tab1 : TabAt ((w.alloc (.cells zs26 75)).alloc (.cells zs26 75)) (w.heap.size + 1) 75 zs26 := by
    have := TabAt.new (w.alloc (.cells zs26 75)) 75 zs26
    simpa using this
  have CW2 := Lib.hid (CW.out _ bel0)
  have T0 := Lib.hid tab0
  have T1 := Lib.hid tab1
  have B0 := Lib.hid bel0
  clear CW bel0 hs2 tab0 tab1
  by_cases h26 : n = 26
  · subst h26
    cases ha : allW 0 9 xs
    · rw [ha] at CW2
      have HB : Hid (tabB xs = false) := Lib.hid (tab_bad ha)
      have HC : Hid (tabC xs = zs26) := Lib.hid (tabC_no HB.out)
      clear ha
      go_enter Try.func56, Try.ntmps56
      go_wp2_with (first
        | (go_at_call 72; refine CW2.out.mono ?_; rintro e w' ⟨rfl, rfl⟩)
        | (refine wpList_load_row rfl _ _ rfl (w.heap.size + 1) rfl 75 _ (0, 0) _ T1.out Try.underlying75 rfl (size26.trans (by rw [zs26_size])) ?_)
        | (refine wpList_store_row rfl _ _ _ rfl w.heap.size _ rfl rfl 75 _ T0.out (size26.trans (by rw [zs26_size])) (by rw [zs26_size]) zs26_cells ?_))
      have hld := run_loadVar_row (P := Try.prog) _ w.heap.size 75 75 zs26 (0, 0) _ (TabAt.setSame (cs := zs26) T0.out) Try.underlying75 rfl (size26.trans (by rw [zs26_size]))
      refine bodyPost_ret (v := .tuple #[.agg zs26, .bool false]) ?_ rfl ⟨by rw [HB.out, HC.out], below_setRow B0.out (Nat.le_refl _) _⟩
      simp [results, Try.results56, asAddr, hld]
    · rw [ha] at CW2
      have HB : Hid (tabB xs = true) := Lib.hid (by rw [tab_of HN.out.symm, ha])
      have HC : Hid (tabC xs = agC xs) := Lib.hid (tabC_yes HB.out)
      obtain ⟨b, o, rfl, hbl, hc⟩ := H.out.2 (by omega)
      have HP : Hid (∀ (j : Nat) v, (intV xs)[j]? = some v → ((w.alloc (.cells zs26 75)).alloc (.cells zs26 75)).cell? ((⟨b, o, none⟩ : Addr).add j) = some v) := Lib.hid (by
        intro j v hv
        unfold intV at hv
        rw [List.getElem?_map] at hv
        cases hx : xs[j]? with
        | none => rw [hx] at hv; cases hv
        | some x =>
          rw [hx] at hv
          obtain rfl : Value.int .i64 x = v := by simpa using hv
          rw [add_plain']
          exact (B0.out.cell (p := ⟨b, o + j, none⟩) hbl).trans (hc j x hx))
      have HL : Hid ((intV xs).length = Nat.min 26 26) := Lib.hid (by rw [intV_len, ← HN.out]; rfl)
      have H1 : Hid (∀ v ∈ intV xs, v.oneCell' = true) := Lib.hid (by
        intro v hv
        unfold intV at hv
        obtain ⟨x, _, rfl⟩ := List.mem_map.1 hv
        rfl)
      have HF : Hid (0 + (intV xs).length ≤ zs26.toList.length) := Lib.hid (by rw [intV_len, ← HN.out]; simp [zs26])
      have HG : Hid (((w.alloc (.cells zs26 75)).alloc (.cells zs26 75)).heap[w.heap.size + 1]? = some (.cells zs26.toList.toArray 75 (0, 0))) := Lib.hid (by rw [Array.toArray_toList]; exact T1.out)
      have HSP : Hid ((splice zs26.toList 0 (intV xs)).toArray = agC xs) := Lib.hid (by
        rw [splice_whole _ _ (by rw [intV_len, ← HN.out]; simp [zs26])]; rfl)
      have HAS : Hid ((agC xs).size = 26) := Lib.hid (by rw [agC_size, ← HN.out])
      clear ha hc
      go_enter Try.func56, Try.ntmps56
      go_wp2_with (first
        | (go_at_call 72; refine CW2.out.mono ?_; rintro e w' ⟨rfl, rfl⟩)
        | ((with_reducible refine wpList_copy_splice rfl (.tmp 14) (.tmp 15) 27 27 rfl 2 Try.underlying27 info_i64' _ _ 26 26 26 c rfl rfl (w.heap.size + 1) 0 zs26.toList 75 HG.out (intV xs) HL.out (fun _ => ⟨rfl, _, rfl, HP.out⟩) HF.out H1.out (w.heap.size + 1) _ (Below.refl _ _) (Nat.le_refl _) ?_); intro w3 hg3 hb3; have T3 : Hid (TabAt w3 (w.heap.size + 1) 75 (agC xs)) := (by have h3 := hg3.out; rw [HSP.out] at h3; exact Lib.hid h3); have T2 := Lib.hid (T0.out.below hb3 (Nat.lt_succ_self _)); have B3 := Lib.hid (B0.out.trans (hb3.mono (Nat.le_succ _))); clear hg3 hb3)
        | (refine wpList_load_row rfl _ _ rfl (w.heap.size + 1) rfl 75 _ (0, 0) _ T3.out Try.underlying75 rfl (size26.trans (by rw [HAS.out])) ?_)
        | (refine wpList_store_row rfl _ _ _ rfl w.heap.size _ rfl rfl 75 _ T2.out (size26.trans (by rw [HAS.out])) (by rw [zs26_size, HAS.out]) (agC_cells xs) ?_))
      have hld := run_loadVar_row (P := Try.prog) _ w.heap.size 75 75 (agC xs) (0, 0) _ (TabAt.setSame (cs := agC xs) T2.out) Try.underlying75 rfl (size26.trans (by rw [HAS.out]))
      refine bodyPost_ret (v := .tuple #[.agg (agC xs), .bool true]) ?_ rfl ⟨by rw [HB.out, HC.out], below_setRow B3.out (Nat.le_refl _) _⟩
      simp [results, Try.results56, asAddr, hld]
  · have HB : Hid (tabB xs = false) := Lib.hid (tab_short (by rw [← HN.out]; exact h26))
    have HC : Hid (tabC xs = zs26) := Lib.hid (tabC_no HB.out)
    have d1 : ((n : Int) != 26) = true := by simp; omega
    have d2 : (n != 26) = true := by simp; omega
    have d3 : ((n : Int) == 26) = false := by simp; omega
    go_enter Try.func56, Try.ntmps56
    go_wp2_with (first
      | (refine wpList_load_row rfl _ _ rfl (w.heap.size + 1) rfl 75 _ (0, 0) _ T1.out Try.underlying75 rfl (size26.trans (by rw [zs26_size])) ?_)
      | (refine wpList_store_row rfl _ _ _ rfl w.heap.size _ rfl rfl 75 _ T0.out (size26.trans (by rw [zs26_size])) (by rw [zs26_size]) zs26_cells ?_))
    have hld := run_loadVar_row (P := Try.prog) _ w.heap.size 75 75 zs26 (0, 0) _ (TabAt.setSame (cs := zs26) T0.out) Try.underlying75 rfl (size26.trans (by rw [zs26_size]))
    refine bodyPost_ret (v := .tuple #[.agg zs26, .bool false]) ?_ rfl ⟨by rw [HB.out, HC.out], below_setRow B0.out (Nat.le_refl _) _⟩
    simp [results, Try.results56, asAddr, hld]
end Go.Proofs.Ytmbahbnadkmnkaa
