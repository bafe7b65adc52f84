/-
  A table of the library that the text lays, as a fact of the world.
-/
import Derived.Test.YthlilfdndpnbkaaGreatDoorMg11
import GoSem.ClaimJoined
import Derived.Test.YthlilfdndpnbkaaGreatDoorReadSpanS
namespace Go.Proofs.YthlilfdndpnbkaaGreatDoor
section
set_option linter.unusedVariables false
open Go.RowKit

/-- A table that stands anywhere on the row's list. -/
theorem tabIs_mem {P : Program} {W : World} {name : String} {k : IntKind} {zs : List Int} {g : Nat} {t e : TypeId} {n : Nat}
    (hg : P.globalNamed name = some g) (hty : (P.globals[g]?).map (·.type) = some t) (ht : P.underlying t = some (.array n e)) (he : P.underlying e = some (.int k)) (hce : P.cellsOf e = 1) (hct : P.cellsOf t = n) :
    ∀ (laid : List (String × DataW Unit)) (ps : List MemPlace), DataW.LaidVars P W laid ps → (name, Lib.tabData k zs) ∈ laid → Lib.TabIs P W name k zs
  | [], _, _, hm => by simp at hm
  | (m, d) :: r, ps, h, hm => by
    obtain ⟨g', t', cs, fuel, p, q, hg', ht', hvar, hd, hr, _⟩ := h
    rw [List.mem_cons] at hm
    rcases hm with hm | hm
    · injection hm with h1 h2
      subst h1; subst h2
      obtain rfl := Option.some.inj (hg.symm.trans hg')
      obtain rfl := Option.some.inj (hty.symm.trans ht')
      unfold Lib.TabIs
      rw [hvar, ← Lib.cells_of_tab ht he hce hct hd]
    · exact tabIs_mem hg hty ht he hce hct r q hr hm

theorem powTab {W : World} {laid : List (String × DataW Unit)} (h : laidMet Tryz.prog laid W) (hm : ("internal/strconv.uint64pow10", Lib.tabData .u64 Lib.pow10Tab) ∈ laid) : Lib.TabIs Tryz.prog W "internal/strconv.uint64pow10" .u64 Lib.pow10Tab := by
  obtain ⟨ps, hv, _⟩ := h
  exact tabIs_mem (t := 196) (e := 68) pow_named (by kernel_rfl) Tryz.underlying196 Tryz.underlying68 (by kernel_rfl) (by kernel_rfl) laid ps hv hm
end
section
set_option linter.unusedVariables false
open Go.RowKit

theorem cut_len (l sep : List UInt8) : (Lib.cut l sep).1.length ≤ l.length ∧ (Lib.cut l sep).2.1.length ≤ l.length := by
  unfold Lib.cut
  split
  · exact ⟨by show (List.take _ l).length ≤ _; rw [List.length_take]; omega, by show (List.drop _ l).length ≤ _; rw [List.length_drop]; omega⟩
  · exact ⟨Nat.le_refl _, Nat.zero_le _⟩
theorem cCut (s : ByteArray) (W : World) (hs : s.size ≤ 1073741824) (h : W.ShapedOpen Tryz.prog) :
    Calls Tryz.prog 134 #[.string s, .string ⟨#[46, 46]⟩] W fun e w' => e = .returned (.tuple #[.string ⟨(Lib.cut s.data.toList [46, 46]).1.toArray⟩, .string ⟨(Lib.cut s.data.toList [46, 46]).2.1.toArray⟩, .bool (Lib.cut s.data.toList [46, 46]).2.2]) ∧ Below W.heap.size W w' := by
  refine (Tryz.strings_Cut_shaped s ⟨#[46, 46]⟩ W h (by omega)).mono ?_
  rintro e w' ⟨he, n, rfl⟩
  exact ⟨he, ⟨rfl, rfl, rfl, Nat.le_refl _, fun k hk => rfl⟩⟩
theorem rs_case (s : ByteArray) : ∃ x y c, (s = spanB x y ∧ spB x y = true ∧ c = (0 : Int)) ∨ ((∀ u v, spB u v = true → s ≠ spanB u v) ∧ x = 0 ∧ y = 0 ∧ c = 6) := by
  by_cases h : ∃ x y, spB x y = true ∧ s = spanB x y
  · obtain ⟨x, y, h1, h2⟩ := h
    exact ⟨x, y, 0, .inl ⟨h2, h1, rfl⟩⟩
  · exact ⟨0, 0, 6, .inr ⟨fun u v h1 h2 => h ⟨u, v, h1, h2⟩, rfl, rfl, rfl⟩⟩
theorem cRS_both (s : ByteArray) (x y c : Int) (w : World) (hs : s.size ≤ 1073741824) (hl : Laid w) (hsh : w.ShapedOpen Tryz.prog)
    (hcase : (s = spanB x y ∧ spB x y = true ∧ c = 0) ∨ ((∀ u v, spB u v = true → s ≠ spanB u v) ∧ x = 0 ∧ y = 0 ∧ c = 6)) :
    Calls Tryz.prog 98 #[.string s] w fun e w' => e = .returned (rsV x y c) ∧ Below w.heap.size w w' := by
  have hlen := cut_len s.data.toList [46, 46]
  have hz := size_list s
  refine cRS_impl s ⟨(Lib.cut s.data.toList [46, 46]).1.toArray⟩ ⟨(Lib.cut s.data.toList [46, 46]).2.1.toArray⟩ (Lib.cut s.data.toList [46, 46]).2.2 x y c w hl ?_ ?_ (fun W hW => cCut s W hs (shaped_below2 hsh hW)) ?_
  · show (Lib.cut s.data.toList [46, 46]).1.toArray.size ≤ _
    rw [List.size_toArray]; omega
  · show (Lib.cut s.data.toList [46, 46]).2.1.toArray.size ≤ _
    rw [List.size_toArray]; omega
  · rcases hcase with ⟨rfl, hv, hc⟩ | ⟨h, hx, hy, hc⟩
    · left
      have hb := spB_bd hv
      rw [cut_yes, arr_back, arr_back]
      exact ⟨rN_of x (by omega) (by omega), rN_of y (by omega) (by omega), hv, hc⟩
    · exact .inr ⟨fun u v hu hv => no_read s h u v hu hv, hx, hy, hc⟩

end
end Go.Proofs.YthlilfdndpnbkaaGreatDoor
