/-
  The law of ReadAlphabet: its call answers true, and nothing that was there changes.
-/
import Derived.Test.YtnodnjaajaemcabDoorReadAl
import Derived.Test.YtnodnjaajaemcabDoorExactS
namespace Go.Proofs.YtnodnjaajaemcabDoor
set_option linter.unusedVariables false
open Go.RowKit

theorem cReadAl_spec_no (s : ByteArray) (w : World) (hs : s.size ≤ 1073741824) (h : alphaB (spaceB s) = false) : Calls Tryd.prog 6 #[.string s] w (ReadNo w) := (cReadAl_spec s w hs).mono fun e w' hh => hh.1 h
theorem cReadAl_spec_yes (s : ByteArray) (w : World) (hs : s.size ≤ 1073741824) (h : alphaB (spaceB s) = true) : Calls Tryd.prog 6 #[.string s] w (ReadOut (spaceB s) w) := (cReadAl_spec s w hs).mono fun e w' hh => hh.2 h
theorem cReadAl_no (s : ByteArray) (w : World) (hs : s.size ≤ 1073741824) (hsh : w.ShapedOpen Tryd.prog) (h : alphaB (spaceB s) = false) : Calls Tryd.prog 7 #[.string s] w (ReadNo w) := (cReadAl s w hs hsh).mono fun e w' hh => hh.1 h
theorem cReadAl_yes (s : ByteArray) (w : World) (hs : s.size ≤ 1073741824) (hsh : w.ShapedOpen Tryd.prog) (h : alphaB (spaceB s) = true) : Calls Tryd.prog 7 #[.string s] w (ReadOut (spaceB s) w) := (cReadAl s w hs hsh).mono fun e w' hh => hh.2 h
theorem space_pos' (s : ByteArray) : 0 < (spaceB s).length := by unfold spaceB; rw [← rest_zero]; exact rest_pos _ _ _

set_option maxHeartbeats 1000000 in
theorem wReadAl (s : ByteArray) (hs : s.size ≤ maxLen) (w : World) (hsh : w.ShapedOpen Tryd.prog) :
    Calls Tryd.prog 3 #[.string s] w fun e w' => e = .returned (.bool true) ∧ Below w.heap.size w w' := by
  unfold maxLen at hs
  by_cases hbig : 1048576 < s.size
  · go_enter Tryd.func3, Tryd.ntmps3
    go_wp2_with fail
    go_ret
    exact ⟨rfl, Below.refl _ _⟩
  have hs2 : s.size ≤ 1073741824 := by omega
  have HSH := Lib.hid hsh
  clear hsh
  cases hp : alphaB (spaceB s)
  · have HP := Lib.hid hp
    clear hp
    go_enter Tryd.func3, Tryd.ntmps3
    go_wp2_with fail
    refine (cReadAl_spec_no s _ hs2 HP.out).mono ?_
    rintro e w1 ⟨rfl, hb1⟩
    go_wp2_with fail
    refine (cReadAl_no s _ hs2 (shaped_below HSH.out hb1) HP.out).mono ?_
    rintro e w2 ⟨rfl, hb2⟩
    have hb12 := hb1.trans (hb2.mono hb1.size)
    go_wp2_with fail
    refine (cEqS_none _ _ _ _ _).mono ?_
    rintro e w' ⟨rfl, rfl⟩
    go_wp2_with fail
    refine (cMarkS_none _ _ _ _).mono ?_
    rintro e w' ⟨rfl, rfl⟩
    go_wp2_with fail
    refine (cHeldS_none _ _ _ _).mono ?_
    rintro e w' ⟨rfl, rfl⟩
    go_wp2_with fail
    refine (cReadAl_no s _ hs2 (shaped_below HSH.out hb12) HP.out).mono ?_
    rintro e w3 ⟨rfl, hb3⟩
    go_wp2_with fail
    refine (cEqS_none _ _ _ _ _).mono ?_
    rintro e w' ⟨rfl, rfl⟩
    go_wp2_with fail
    refine (cHeldS_none _ _ _ _).mono ?_
    rintro e w' ⟨rfl, rfl⟩
    go_wp2_with fail
    go_ret
    exact ⟨rfl, hb12.trans (hb3.mono hb12.size)⟩
  · have HP := Lib.hid hp
    have hl : (spaceB s).length ≤ 40 := (alpha_len _ hp).2
    have hpos := space_pos' s
    have C1 := Lib.hid (fun W => cReadAl_spec_yes s W hs2 hp)
    have C2 := Lib.hid (fun W h => cReadAl_yes s W hs2 h hp)
    clear hp
    obtain ⟨xs, hxs⟩ : ∃ xs, xs = spaceB s := ⟨_, rfl⟩
    rw [← hxs] at hl hpos C1 C2
    clear hxs
    unfold ReadOut at C1 C2
    obtain ⟨n, hn⟩ : ∃ n, n = xs.length := ⟨_, rfl⟩
    rw [← hn] at hl hpos C1 C2
    have HN := Lib.hid hn
    clear hn
    go_enter Tryd.func3, Tryd.ntmps3
    go_wp2_with fail
    refine (C1.out _).mono ?_
    rintro e w1 ⟨g0, cap0, rfl, hg0, hl0, own1, hb1⟩
    have K0 : Hid (∀ j x, xs[j]? = some x → w1.cell? ⟨g0, j, none⟩ = some (.string x)) := Lib.hid (fun j x hx => (own1.cellAt j (by have := (List.getElem?_eq_some_iff.1 hx).1; have := HN.out; omega)).trans (strV_at _ _ _ hx))
    clear own1
    go_wp2_with fail
    refine (C2.out _ (shaped_below HSH.out hb1)).mono ?_
    rintro e w2 ⟨gA, capA, rfl, hgA, hlA, own2, hb2⟩
    have hb12 := hb1.trans (hb2.mono hb1.size)
    go_wp2_with fail
    refine (cEqS gA capA g0 cap0 n xs _ HN.out (by omega) (fun j x hx => (own2.cellAt j (by have := (List.getElem?_eq_some_iff.1 hx).1; have := HN.out; omega)).trans (strV_at _ _ _ hx)) (fun j x hx => (hb2.cell hl0).trans (K0.out j x hx))).mono ?_
    rintro e w' ⟨rfl, m1, rfl⟩
    go_wp2_with fail
    refine (cMarkS w1.heap.size gA capA n 1 _ (w2.drewN m1) (by omega) (by omega) hlA own2).mono ?_
    rintro e w3 ⟨rfl, own3, hgr3⟩
    have hb13 : Below w.heap.size w w3 := (below_dr0 hb12 m1).grown hgr3 hb12.size (fun k hk => by cases hk; exact Nat.le_trans hb1.size hgA)
    have hl3 : gA < w3.heap.size := Nat.lt_of_lt_of_le hlA hgr3.size
    have hl03 : g0 < w3.heap.size := by omega
    have K3 : Hid (∀ j x, xs[j]? = some x → w3.cell? ⟨g0, j, none⟩ = some (.string x)) := Lib.hid (fun j x hx => (hgr3.cell_far ⟨g0, j, none⟩ (Nat.lt_of_lt_of_le hl0 hb2.size) (by simp; omega)).trans ((hb2.cell hl0).trans (K0.out j x hx)))
    clear own2 hgr3 K0
    go_wp2_with fail
    refine (cHeldS w1.heap.size gA capA n 1 w3 (by omega) (by omega) hl3 own3).mono ?_
    rintro e w4 ⟨rfl, hb4⟩
    have own4 := own3.kept (below_grown hb4 none) (by simp [Value.ownBlock])
    have hb14 := hb13.trans (hb4.mono hb13.size)
    go_wp2_with fail
    refine (C2.out _ (shaped_below HSH.out hb14)).mono ?_
    rintro e w5 ⟨gB, capB, rfl, hgB, hlB, own5, hb5⟩
    have hb15 := hb14.trans (hb5.mono hb14.size)
    go_wp2_with fail
    refine (cEqS gB capB g0 cap0 n xs _ HN.out (by omega) (fun j x hx => (own5.cellAt j (by have := (List.getElem?_eq_some_iff.1 hx).1; have := HN.out; omega)).trans (strV_at _ _ _ hx)) (fun j x hx => (hb5.cell (Nat.lt_of_lt_of_le hl03 hb4.size)).trans ((hb4.cell hl03).trans (K3.out j x hx)))).mono ?_
    rintro e w' ⟨rfl, m2, rfl⟩
    have own5' := own4.kept (below_grown hb5 none) (by simp [Value.ownBlock])
    go_wp2_with fail
    refine (cHeldS w1.heap.size gA capA n 1 (w5.drewN m2) (by omega) (by omega) (Nat.lt_of_lt_of_le hl3 (Nat.le_trans hb4.size hb5.size)) own5').mono ?_
    rintro e w6 ⟨rfl, hb6⟩
    go_wp2_with fail
    go_ret
    exact ⟨rfl, (below_dr0 hb15 m2).trans (hb6.mono hb15.size)⟩
end Go.Proofs.YtnodnjaajaemcabDoor
