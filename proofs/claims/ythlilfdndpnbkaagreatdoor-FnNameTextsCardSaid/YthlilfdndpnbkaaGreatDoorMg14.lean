/-
  The contracts of codeOf.
-/
import Derived.Test.YthlilfdndpnbkaaGreatDoorChk9
import Derived.Test.YthlilfdndpnbkaaGreatDoorAs9
import Derived.Test.YthlilfdndpnbkaaGreatDoorMg13
import Derived.Test.YthlilfdndpnbkaaGreatDoorMg2
import Derived.Test.YthlilfdndpnbkaaGreatDoorShelf
import Derived.Lib.CutLaws
namespace Go.Proofs.YthlilfdndpnbkaaGreatDoor
section
set_option linter.unusedVariables false
open Go.RowKit

theorem cCodeNil (w : World) : Calls Tryz.prog 51 #[.nilIface] w fun e w' => e = .returned (.int .i64 0) ∧ Below w.heap.size w w' := by
  have CA := Lib.hid (fun t W => as_nil t W)
  have hb0 := (Below.refl w.heap.size w).alloc (Nat.le_refl _) (.cells #[.int .i64 0, .nilIface] 135)
  go_enter Tryz.func51, Tryz.ntmps51
  go_wp2_with fail
  refine (CA.out _ _).mono ?_
  rintro e w1 ⟨rfl, rfl⟩
  go_wp2_with fail
  go_ret
  exact ⟨rfl, hb0⟩
set_option maxHeartbeats 1000000 in
theorem cCodeRef (c : Int) (u : Value) (w : World) (hu : u.oneCell' = true) (het : Et w) :
    Calls Tryz.prog 51 #[.iface 135 (.agg #[.int .i64 c, u])] w fun e w' => e = .returned (.int .i64 c) ∧ Below w.heap.size w w' := by
  have hb0 := (Below.refl w.heap.size w).alloc (Nat.le_refl _) (.cells #[.int .i64 0, .nilIface] 135)
  have CA := Lib.hid (as_hit (.int .i64 c) u w.heap.size (.int .i64 0) .nilIface (w.alloc (.cells #[.int .i64 0, .nilIface] 135)) rfl hu (het.below hb0) (World.cell?_alloc_at _ _ _ _ rfl) (World.cell?_alloc_at _ _ _ _ rfl) (fun k => World.frozen?_alloc_new _ _ _ _))
  have HB := Lib.hid hb0
  clear hb0 het
  go_enter Tryz.func51, Tryz.ntmps51
  go_wp2_with fail
  refine CA.out.mono ?_
  rintro e w1 ⟨rfl, hw⟩
  have hc : w1.cell? ⟨w.heap.size, 0, none⟩ = some (.int .i64 c) := by
    rw [hw, World.cell?_setCell_other _ _ _ _ (by simp)]
    refine World.cell?_setCell_same' _ _ _ ?_
    rw [World.cell?_alloc_lt _ _ ⟨w.heap.size, 0, none⟩ (by simp; omega), World.cell?_alloc_lt _ _ ⟨w.heap.size, 0, none⟩ (by simp; omega), World.cell?_alloc_lt _ _ ⟨w.heap.size, 0, none⟩ (by simp; omega), World.cell?_alloc_lt _ _ ⟨w.heap.size, 0, none⟩ (by simp), World.cell?_alloc_at _ _ _ _ rfl]
    rfl
  have hbt : Below w.heap.size w w1 := by
    rw [hw]
    exact (((((HB.out.alloc (by simp) _).alloc (by simp; omega) _).alloc (by simp; omega) _).alloc (by simp; omega) _).setCell (p := ⟨w.heap.size, 0, none⟩) (Nat.le_refl _) _).setCell (p := ⟨w.heap.size, 1, none⟩) (Nat.le_refl _) _
  clear hw
  go_wp2_with fail
  go_ret
  exact ⟨rfl, hbt⟩

/-- What a question answers: no error, or a refusal with this code. -/
def RefV (c : Int) (v : Value) : Prop := (c = 0 ∧ v = .nilIface) ∨ (c ≠ 0 ∧ ∃ u, v = .iface 135 (.agg #[.int .i64 c, .iface 257 u]))
def RefOut (c : Int) (w : World) (e : Ending) (w' : World) : Prop := (∃ v, e = .returned v ∧ RefV c v) ∧ Below w.heap.size w w'

end
section
set_option linter.unusedVariables false
open Go.RowKit

def rsV (x y c : Int) : Value := .tuple #[.agg #[.int .i64 x, .int .i64 y], .int .i64 c]
theorem shaped_below2 {P : Program} {w w' : World} (h : w.ShapedOpen P) (hb : Below w.heap.size w w') : w'.ShapedOpen P := h.keptBut (hb.frame (fun _ => False)) (fun _ f => f.elim)

set_option maxHeartbeats 1000000 in
set_option maxRecDepth 100000 in
theorem cRS_impl (s f t : ByteArray) (b : Bool) (x y c : Int) (w : World) (hl : Laid w) (hf : f.size ≤ 1073741824) (ht : t.size ≤ 1073741824)
    (hcut : ∀ W, Below w.heap.size w W → Calls Tryz.prog 134 #[.string s, .string ⟨#[46, 46]⟩] W fun e w' => e = .returned (.tuple #[.string f, .string t, .bool b]) ∧ Below W.heap.size W w')
    (hcase : (rN f = some x ∧ rN t = some y ∧ spB x y = true ∧ c = 0) ∨ ((∀ u v, rN f = some u → rN t = some v → spB u v = false) ∧ x = 0 ∧ y = 0 ∧ c = 6)) :
    Calls Tryz.prog 98 #[.string s] w fun e w' => e = .returned (rsV x y c) ∧ Below w.heap.size w w' := by
  have HC := Lib.hid hcut
  have C1 := Lib.hid (fun W (hW : Below w.heap.size w W) => cRead f W hf (hl.below hW))
  have C2 := Lib.hid (fun W (hW : Below w.heap.size w W) => cRead t W ht (hl.below hW))
  have hb0 : Below w.heap.size w (w.alloc (.cells #[.int .i64 0, .int .i64 0] 25)) := (Below.refl _ _).alloc (Nat.le_refl _) _
  have K0 := ResAt.new w 0 0 25
  clear hcut hl hf ht
  cases h1 : rN f with
  | none =>
    rw [rV_none h1] at C1
    cases h2 : rN t with
    | none =>
      obtain ⟨rfl, rfl, rfl⟩ : x = 0 ∧ y = 0 ∧ c = 6 := by
        rcases hcase with ⟨e1, e2, e3, _⟩ | ⟨_, e⟩
        · first | (rw [h1] at e1; cases e1; done) | (rw [h2] at e2; cases e2; done)
        · exact e
      rw [rV_none h2] at C2
      clear hcase h1 h2
      go_enter Tryz.func98, Tryz.ntmps98
      go_wp2_with fail
      refine (HC.out _ hb0).mono ?_
      rintro e w1 ⟨rfl, g1⟩
      have hb1 := hb0.trans (g1.mono hb0.size)
      have K1 := K0.below g1
      go_wp2_with fail
      refine (C1.out _ hb1).mono ?_
      rintro e w2 ⟨rfl, g2⟩
      have hb2 := hb1.trans (g2.mono hb1.size)
      have K2 := K1.below g2
      go_wp2_with fail
      refine (C2.out _ hb2).mono ?_
      rintro e w3 ⟨rfl, g3⟩
      have hb3 := hb2.trans (g3.mono hb2.size)
      have K3 := K2.below g3
      have K4 := K3.below (below_alloc w3 (.cells #[.int .i64 0, .int .i64 0] 25))
      have hb4 := hb3.alloc hb3.size (.cells #[.int .i64 0, .int .i64 0] 25)
      obtain ⟨⟨l3, a0, a1⟩, f0, f1⟩ := K4
      go_wp2_with fail
      refine bodyPost_ret ?_ rfl ⟨rfl, below_set2 hb4 (Nat.le_refl _) _ _⟩
      simp [results, Tryz.results98, go_sem, a0, a1, rsV]
    | some v =>
      obtain ⟨rfl, rfl, rfl⟩ : x = 0 ∧ y = 0 ∧ c = 6 := by
        rcases hcase with ⟨e1, e2, e3, _⟩ | ⟨_, e⟩
        · first | (rw [h1] at e1; cases e1; done) | (rw [h2] at e2; cases e2; done)
        · exact e
      rw [rV_some h2] at C2
      clear hcase h1 h2
      go_enter Tryz.func98, Tryz.ntmps98
      go_wp2_with fail
      refine (HC.out _ hb0).mono ?_
      rintro e w1 ⟨rfl, g1⟩
      have hb1 := hb0.trans (g1.mono hb0.size)
      have K1 := K0.below g1
      go_wp2_with fail
      refine (C1.out _ hb1).mono ?_
      rintro e w2 ⟨rfl, g2⟩
      have hb2 := hb1.trans (g2.mono hb1.size)
      have K2 := K1.below g2
      go_wp2_with fail
      refine (C2.out _ hb2).mono ?_
      rintro e w3 ⟨rfl, g3⟩
      have hb3 := hb2.trans (g3.mono hb2.size)
      have K3 := K2.below g3
      have K4 := K3.below (below_alloc w3 (.cells #[.int .i64 0, .int .i64 v] 25))
      have hb4 := hb3.alloc hb3.size (.cells #[.int .i64 0, .int .i64 v] 25)
      obtain ⟨⟨l3, a0, a1⟩, f0, f1⟩ := K4
      go_wp2_with fail
      refine bodyPost_ret ?_ rfl ⟨rfl, below_set2 hb4 (Nat.le_refl _) _ _⟩
      simp [results, Tryz.results98, go_sem, a0, a1, rsV]
  | some u =>
    rw [rV_some h1] at C1
    cases h2 : rN t with
    | none =>
      obtain ⟨rfl, rfl, rfl⟩ : x = 0 ∧ y = 0 ∧ c = 6 := by
        rcases hcase with ⟨e1, e2, e3, _⟩ | ⟨_, e⟩
        · first | (rw [h1] at e1; cases e1; done) | (rw [h2] at e2; cases e2; done)
        · exact e
      rw [rV_none h2] at C2
      clear hcase h1 h2
      go_enter Tryz.func98, Tryz.ntmps98
      go_wp2_with fail
      refine (HC.out _ hb0).mono ?_
      rintro e w1 ⟨rfl, g1⟩
      have hb1 := hb0.trans (g1.mono hb0.size)
      have K1 := K0.below g1
      go_wp2_with fail
      refine (C1.out _ hb1).mono ?_
      rintro e w2 ⟨rfl, g2⟩
      have hb2 := hb1.trans (g2.mono hb1.size)
      have K2 := K1.below g2
      go_wp2_with fail
      refine (C2.out _ hb2).mono ?_
      rintro e w3 ⟨rfl, g3⟩
      have hb3 := hb2.trans (g3.mono hb2.size)
      have K3 := K2.below g3
      have K4 := K3.below (below_alloc w3 (.cells #[.int .i64 u, .int .i64 0] 25))
      have hb4 := hb3.alloc hb3.size (.cells #[.int .i64 u, .int .i64 0] 25)
      obtain ⟨⟨l3, a0, a1⟩, f0, f1⟩ := K4
      go_wp2_with fail
      refine bodyPost_ret ?_ rfl ⟨rfl, below_set2 hb4 (Nat.le_refl _) _ _⟩
      simp [results, Tryz.results98, go_sem, a0, a1, rsV]
    | some v =>
      rw [rV_some h2] at C2
      have C3 := Lib.hid (fun W => cValid u v W)
      cases hv : spB u v
      · obtain ⟨rfl, rfl, rfl⟩ : x = 0 ∧ y = 0 ∧ c = 6 := by
          rcases hcase with ⟨e1, e2, e3, _⟩ | ⟨_, e⟩
          · rw [h1] at e1; rw [h2] at e2
            obtain rfl := Option.some.inj e1
            obtain rfl := Option.some.inj e2
            rw [hv] at e3; cases e3
          · exact e
        rw [hv] at C3
        clear hcase h1 h2 hv
        go_enter Tryz.func98, Tryz.ntmps98
        go_wp2_with fail
        refine (HC.out _ hb0).mono ?_
        rintro e w1 ⟨rfl, g1⟩
        have hb1 := hb0.trans (g1.mono hb0.size)
        have K1 := K0.below g1
        go_wp2_with fail
        refine (C1.out _ hb1).mono ?_
        rintro e w2 ⟨rfl, g2⟩
        have hb2 := hb1.trans (g2.mono hb1.size)
        have K2 := K1.below g2
        go_wp2_with fail
        refine (C2.out _ hb2).mono ?_
        rintro e w3 ⟨rfl, g3⟩
        have hb3 := hb2.trans (g3.mono hb2.size)
        have K3 := K2.below g3
        have K4 := K3.below (below_alloc w3 (.cells #[.int .i64 u, .int .i64 v] 25))
        have hb4 := hb3.alloc hb3.size (.cells #[.int .i64 u, .int .i64 v] 25)
        have Q4 := BoxAt.new w3 u v 25
        go_wp2_with fail
        refine (C3.out _).mono ?_
        rintro e w5 ⟨rfl, g5⟩
        have hb5 := hb4.trans (g5.mono hb4.size)
        obtain ⟨⟨l3, a0, a1⟩, f0, f1⟩ := K4.below g5
        obtain ⟨l5, b0, b1⟩ := Q4.below g5
        go_wp2_with fail
        refine bodyPost_ret ?_ rfl ⟨rfl, below_set2 hb5 (Nat.le_refl _) _ _⟩
        simp [results, Tryz.results98, go_sem, a0, a1, rsV]
      · obtain ⟨rfl, rfl, rfl⟩ : u = x ∧ v = y ∧ c = 0 := by
          rcases hcase with ⟨e1, e2, e3, e4⟩ | ⟨e, _⟩
          · rw [h1] at e1; rw [h2] at e2
            exact ⟨Option.some.inj e1, Option.some.inj e2, e4⟩
          · have := e u v h1 h2
            rw [hv] at this; cases this
        rw [hv] at C3
        clear hcase h1 h2 hv
        go_enter Tryz.func98, Tryz.ntmps98
        go_wp2_with fail
        refine (HC.out _ hb0).mono ?_
        rintro e w1 ⟨rfl, g1⟩
        have hb1 := hb0.trans (g1.mono hb0.size)
        have K1 := K0.below g1
        go_wp2_with fail
        refine (C1.out _ hb1).mono ?_
        rintro e w2 ⟨rfl, g2⟩
        have hb2 := hb1.trans (g2.mono hb1.size)
        have K2 := K1.below g2
        go_wp2_with fail
        refine (C2.out _ hb2).mono ?_
        rintro e w3 ⟨rfl, g3⟩
        have hb3 := hb2.trans (g3.mono hb2.size)
        have K3 := K2.below g3
        have K4 := K3.below (below_alloc w3 (.cells #[.int .i64 u, .int .i64 v] 25))
        have hb4 := hb3.alloc hb3.size (.cells #[.int .i64 u, .int .i64 v] 25)
        have Q4 := BoxAt.new w3 u v 25
        go_wp2_with fail
        refine (C3.out _).mono ?_
        rintro e w5 ⟨rfl, g5⟩
        have hb5 := hb4.trans (g5.mono hb4.size)
        obtain ⟨⟨l3, a0, a1⟩, f0, f1⟩ := K4.below g5
        obtain ⟨l5, b0, b1⟩ := Q4.below g5
        go_wp2_with fail
        refine bodyPost_ret ?_ rfl ⟨rfl, below_set2 hb5 (Nat.le_refl _) _ _⟩
        simp [results, Tryz.results98, go_sem, a0, a1, rsV]
end
end Go.Proofs.YthlilfdndpnbkaaGreatDoor
