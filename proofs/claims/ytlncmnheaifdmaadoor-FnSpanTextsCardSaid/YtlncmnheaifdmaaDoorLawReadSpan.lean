/-
  The law of ReadSpan: its call answers true.
-/
import Derived.Test.YtlncmnheaifdmaaDoorReadSpanS
import Derived.Test.YtlncmnheaifdmaaDoorTab
namespace Go.Proofs.YtlncmnheaifdmaaDoor
set_option linter.unusedVariables false
open Go.RowKit

theorem cEqSpan (x y : Int) (w : World) :
    Calls Tryd.prog 43 #[.agg #[.int .i64 x, .int .i64 y], .agg #[.int .i64 x, .int .i64 y]] w fun e w' => e = .returned (.bool true) ∧ Below w.heap.size w w' := by
  have hx : (x != x) = false := by simp
  have hy : (y != y) = false := by simp
  go_enter Tryd.func43, Tryd.ntmps43
  go_wp2
  go_ret
  exact ⟨rfl, ((Below.refl _ _).alloc (Nat.le_refl _) _).alloc (by simp) _⟩
theorem cut_len (l sep : List UInt8) : (Lib.cut l sep).1.length ≤ l.length ∧ (Lib.cut l sep).2.1.length ≤ l.length := by
  unfold Lib.cut
  split
  · exact ⟨by show (List.take _ l).length ≤ _; rw [List.length_take]; omega, by show (List.drop _ l).length ≤ _; rw [List.length_drop]; omega⟩
  · exact ⟨Nat.le_refl _, Nat.zero_le _⟩
theorem cCut (s : ByteArray) (W : World) (hs : s.size ≤ 1073741824) (h : W.ShapedOpen Tryd.prog) :
    Calls Tryd.prog 70 #[.string s, .string ⟨#[46, 46]⟩] W fun e w' => e = .returned (.tuple #[.string ⟨(Lib.cut s.data.toList [46, 46]).1.toArray⟩, .string ⟨(Lib.cut s.data.toList [46, 46]).2.1.toArray⟩, .bool (Lib.cut s.data.toList [46, 46]).2.2]) ∧ Below W.heap.size W w' := by
  refine (Tryd.strings_Cut_shaped s ⟨#[46, 46]⟩ W h (by omega)).mono ?_
  rintro e w' ⟨he, n, rfl⟩
  exact ⟨he, ⟨rfl, rfl, rfl, Nat.le_refl _, fun k hk => rfl⟩⟩
theorem rs_case (s : ByteArray) : ∃ x y c, (s = spanB x y ∧ spB x y = true ∧ c = (0 : Int)) ∨ ((∀ u v, spB u v = true → s ≠ spanB u v) ∧ x = 0 ∧ y = 0 ∧ c = 6) := by
  by_cases h : ∃ x y, spB x y = true ∧ s = spanB x y
  · obtain ⟨x, y, h1, h2⟩ := h
    exact ⟨x, y, 0, .inl ⟨h2, h1, rfl⟩⟩
  · exact ⟨0, 0, 6, .inr ⟨fun u v h1 h2 => h ⟨u, v, h1, h2⟩, rfl, rfl, rfl⟩⟩
theorem cRS_both (s : ByteArray) (x y c : Int) (w : World) (hs : s.size ≤ 1073741824) (hl : Laid w) (hsh : w.ShapedOpen Tryd.prog)
    (hcase : (s = spanB x y ∧ spB x y = true ∧ c = 0) ∨ ((∀ u v, spB u v = true → s ≠ spanB u v) ∧ x = 0 ∧ y = 0 ∧ c = 6)) :
    Calls Tryd.prog 36 #[.string s] w fun e w' => e = .returned (rsV x y c) ∧ Below w.heap.size w w' := by
  have hlen := cut_len s.data.toList [46, 46]
  have hz := size_list s
  refine cRS_impl s ⟨(Lib.cut s.data.toList [46, 46]).1.toArray⟩ ⟨(Lib.cut s.data.toList [46, 46]).2.1.toArray⟩ (Lib.cut s.data.toList [46, 46]).2.2 x y c w hl ?_ ?_ (fun W hW => cCut s W hs (shaped_below2 hsh hW)) ?_
  · show (Lib.cut s.data.toList [46, 46]).1.toArray.size ≤ _
    rw [List.size_toArray]; omega
  · show (Lib.cut s.data.toList [46, 46]).2.1.toArray.size ≤ _
    rw [List.size_toArray]; omega
  · rcases hcase with ⟨rfl, hv, hc⟩ | ⟨h, hx, hy, hc⟩
    · left
      have hb := spB_bd hv
      rw [cut_yes, arr_back, arr_back]
      exact ⟨rN_of x (by omega) (by omega), rN_of y (by omega) (by omega), hv, hc⟩
    · exact .inr ⟨fun u v hu hv => no_read s h u v hu hv, hx, hy, hc⟩

set_option maxHeartbeats 1000000 in
set_option maxRecDepth 100000 in
theorem wReadSpan (s : ByteArray) (w : World) (hs : s.size ≤ maxLen) (hl : Laid w) (hsh : w.ShapedOpen Tryd.prog) :
    Calls Tryd.prog 8 #[.string s] w fun e w' => e = .returned (.bool true) ∧ Below w.heap.size w w' := by
  unfold maxLen at hs
  by_cases h1 : 1048576 < s.size
  · have hd : decide ((1048576 : Int) < (s.size : Int)) = true := decide_eq_true (by omega)
    go_enter Tryd.func8, Tryd.ntmps8
    go_wp2_with fail
    go_ret
    exact ⟨rfl, Below.refl _ _⟩
  have hd : decide ((1048576 : Int) < (s.size : Int)) = false := decide_eq_false (by omega)
  obtain ⟨x, y, c, hcase⟩ := rs_case s
  have D1 := Lib.hid (fun W => cRS_spec s x y c W (by omega) hcase)
  have D2 := Lib.hid (fun W (hW : Below w.heap.size w W) => cRS_both s x y c W (by omega) (hl.below hW) (shaped_below2 hsh hW) hcase)
  have E1 := Lib.hid (fun W => cEqSpan x y W)
  unfold rsV at D1 D2
  clear hcase hl hsh
  go_enter Tryd.func8, Tryd.ntmps8
  go_wp2_with fail
  refine (D1.out _).mono ?_
  rintro e w1 ⟨rfl, g1⟩
  have K1 := BoxAt.new w1 x y 44
  have hb1 := g1.alloc g1.size (.cells #[.int .i64 x, .int .i64 y] 44)
  go_wp2_with fail
  refine (D2.out _ hb1).mono ?_
  rintro e w2 ⟨rfl, g2⟩
  have K2 := K1.below g2
  have hb2 := hb1.trans (g2.mono hb1.size)
  obtain ⟨l3, a0, a1⟩ := K2.below (below_alloc w2 (.cells #[.int .i64 x, .int .i64 y] 44))
  obtain ⟨l4, b0, b1⟩ := BoxAt.new w2 x y 44
  have hb3 := hb2.alloc hb2.size (.cells #[.int .i64 x, .int .i64 y] 44)
  go_wp2_with fail
  refine (E1.out _).mono ?_
  rintro e w3 ⟨rfl, g3⟩
  have hb4 := hb3.trans (g3.mono hb3.size)
  go_wp2_with fail
  go_ret
  exact ⟨rfl, hb4⟩
end Go.Proofs.YtlncmnheaifdmaaDoor
