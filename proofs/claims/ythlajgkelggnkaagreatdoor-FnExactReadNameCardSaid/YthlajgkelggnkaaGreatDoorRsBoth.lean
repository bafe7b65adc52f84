/-
  The contract of impl.ReadSpan in both cases.
-/
import Derived.Test.YthlajgkelggnkaaGreatDoorReadSpanS
import Derived.Test.YthlajgkelggnkaaGreatDoorTab
namespace Go.Proofs.YthlajgkelggnkaaGreatDoor
set_option linter.unusedVariables false
open Go.RowKit

theorem cEqSpan (x y : Int) (w : World) :
    Calls Tryz.prog 29 #[.agg #[.int .i64 x, .int .i64 y], .agg #[.int .i64 x, .int .i64 y]] w fun e w' => e = .returned (.bool true) ∧ Below w.heap.size w w' := by
  have hx : (x != x) = false := by simp
  have hy : (y != y) = false := by simp
  go_enter Tryz.func29, Tryz.ntmps29
  go_wp2
  go_ret
  exact ⟨rfl, ((Below.refl _ _).alloc (Nat.le_refl _) _).alloc (by simp) _⟩
theorem cut_len (l sep : List UInt8) : (Lib.cut l sep).1.length ≤ l.length ∧ (Lib.cut l sep).2.1.length ≤ l.length := by
  unfold Lib.cut
  split
  · exact ⟨by show (List.take _ l).length ≤ _; rw [List.length_take]; omega, by show (List.drop _ l).length ≤ _; rw [List.length_drop]; omega⟩
  · exact ⟨Nat.le_refl _, Nat.zero_le _⟩
theorem cCut (s : ByteArray) (W : World) (hs : s.size ≤ 1073741824) (h : W.ShapedOpen Tryz.prog) :
    Calls Tryz.prog 67 #[.string s, .string ⟨#[46, 46]⟩] W fun e w' => e = .returned (.tuple #[.string ⟨(Lib.cut s.data.toList [46, 46]).1.toArray⟩, .string ⟨(Lib.cut s.data.toList [46, 46]).2.1.toArray⟩, .bool (Lib.cut s.data.toList [46, 46]).2.2]) ∧ Below W.heap.size W w' := by
  refine (Tryz.strings_Cut_shaped s ⟨#[46, 46]⟩ W h (by omega)).mono ?_
  rintro e w' ⟨he, n, rfl⟩
  exact ⟨he, ⟨rfl, rfl, rfl, Nat.le_refl _, fun k hk => rfl⟩⟩
theorem rs_case (s : ByteArray) : ∃ x y c, (s = spanB x y ∧ spB x y = true ∧ c = (0 : Int)) ∨ ((∀ u v, spB u v = true → s ≠ spanB u v) ∧ x = 0 ∧ y = 0 ∧ c = 6) := by
  by_cases h : ∃ x y, spB x y = true ∧ s = spanB x y
  · obtain ⟨x, y, h1, h2⟩ := h
    exact ⟨x, y, 0, .inl ⟨h2, h1, rfl⟩⟩
  · exact ⟨0, 0, 6, .inr ⟨fun u v h1 h2 => h ⟨u, v, h1, h2⟩, rfl, rfl, rfl⟩⟩
theorem cRS_both (s : ByteArray) (x y c : Int) (w : World) (hs : s.size ≤ 1073741824) (hl : Laid w) (hsh : w.ShapedOpen Tryz.prog)
    (hcase : (s = spanB x y ∧ spB x y = true ∧ c = 0) ∨ ((∀ u v, spB u v = true → s ≠ spanB u v) ∧ x = 0 ∧ y = 0 ∧ c = 6)) :
    Calls Tryz.prog 48 #[.string s] w fun e w' => e = .returned (rsV x y c) ∧ Below w.heap.size w w' := by
  have hlen := cut_len s.data.toList [46, 46]
  have hz := size_list s
  refine cRS_impl s ⟨(Lib.cut s.data.toList [46, 46]).1.toArray⟩ ⟨(Lib.cut s.data.toList [46, 46]).2.1.toArray⟩ (Lib.cut s.data.toList [46, 46]).2.2 x y c w hl ?_ ?_ (fun W hW => cCut s W hs (shaped_below2 hsh hW)) ?_
  · show (Lib.cut s.data.toList [46, 46]).1.toArray.size ≤ _
    rw [List.size_toArray]; omega
  · show (Lib.cut s.data.toList [46, 46]).2.1.toArray.size ≤ _
    rw [List.size_toArray]; omega
  · rcases hcase with ⟨rfl, hv, hc⟩ | ⟨h, hx, hy, hc⟩
    · left
      have hb := spB_bd hv
      rw [cut_yes, arr_back, arr_back]
      exact ⟨rN_of x (by omega) (by omega), rN_of y (by omega) (by omega), hv, hc⟩
    · exact .inr ⟨fun u v hu hv => no_read s h u v hu hv, hx, hy, hc⟩

end Go.Proofs.YthlajgkelggnkaaGreatDoor
