/-
  The law of ReadList: its call answers true.
-/
import Derived.Test.YtnodnjaajaemcaaDoorReadListS
import Derived.Test.YtnodnjaajaemcaaDoorTab
namespace Go.Proofs.YtnodnjaajaemcaaDoor
set_option linter.unusedVariables false
open Go.RowKit

set_option maxHeartbeats 4000000 in
set_option maxRecDepth 100000 in
theorem wReadList (s : ByteArray) (w : World) (hs : s.size ≤ maxLen) (hl : Laid w) (hsh : w.ShapedOpen Tryd.prog) :
    Calls Tryd.prog 7 #[.string s] w fun e w' => e = .returned (.bool true) ∧ Below w.heap.size w w' := by
  unfold maxLen at hs
  by_cases h1 : 1048576 < s.size
  · have hd : decide ((1048576 : Int) < (s.size : Int)) = true := decide_eq_true (by omega)
    go_enter Tryd.func7, Tryd.ntmps7
    go_wp2_with fail
    go_ret
    exact ⟨rfl, Below.refl _ _⟩
  have hd : decide ((1048576 : Int) < (s.size : Int)) = false := decide_eq_false (by omega)
  obtain ⟨xs, c, hcase⟩ := RL.have_ s
  have hlen := hcase.len
  have D1 := Lib.hid (fun W => cRL_spec s xs c W (by omega) hcase)
  have D2 := Lib.hid (fun W (hW : Below w.heap.size w W) => cRL_impl s xs c W (by omega) (hl.below hW) (shaped_below2 hsh hW) hcase)
  obtain ⟨n, hn⟩ : ∃ n, n = xs.length := ⟨_, rfl⟩
  unfold RLPost at D1 D2
  rw [← hn] at D1 D2 hlen
  have hcc : (c != c) = false := by simp
  have hmm : (((1 + n : Nat) : Int) != ((1 + n : Nat) : Int)) = false := by simp
  have hmz : decide (((1 + n : Nat) : Int) < 0) = false := decide_eq_false (by omega)
  clear hcase hl hsh hn
  go_enter Tryd.func7, Tryd.ntmps7
  go_wp2_with fail
  refine (D1.out _).mono ?_
  rintro e w1 ⟨A0, c0, rfl, own1, g1⟩
  have Q0 := RowI.of own1
  have L0 := fun x hx => (own1.lt x hx).2
  clear own1
  have HQ0 := Lib.hid Q0
  have HL0 := Lib.hid L0
  clear Q0 L0
  go_wp2_with fail
  refine (D2.out _ g1).mono ?_
  rintro e w2 ⟨A1, c1, rfl, own2, g2⟩
  have b2 := g1.trans (g2.mono g1.size)
  have HQ1 := Lib.hid (RowI.of own2)
  have HL1 := Lib.hid (fun x hx => own2.lt x hx)
  clear own2
  have HQ0 := Lib.hid (HQ0.out.below g2)
  go_wp2_with fail
  refine (cEqR A1 A0 c1 c0 n xs w2 (by omega) HQ1.out HQ0.out).mono ?_
  rintro e w3 ⟨rfl, g3⟩
  have b3 := b2.trans (g3.mono b2.size)
  have HQ0 := Lib.hid (HQ0.out.below g3)
  have HQ1 := Lib.hid (HQ1.out.below g3)
  go_wp2_with fail
  refine (show Calls _ _ #[.slice A1 n c1, .int .i64 1] _ (MarkIPost A1 n c1 1 w3) from cMarkI A1 n c1 1 xs w3 (by omega) HQ1.out).mono ?_
  rintro e w4 ⟨rfl, R1, g4⟩
  have b4 : Below w.heap.size w w4 := b3.grown g4 b3.size (fun x hx => Nat.le_trans g1.size (HL1.out x hx).1)
  have HR1 := Lib.hid R1
  have HQ0 := Lib.hid (HQ0.out.grown g4 (fun x hx e => by
    have h1 := HL0.out x hx
    have h2 := (HL1.out x e).1
    omega))
  clear R1
  generalize hm : ((1 + n : Nat) : Int) = m at *
  have HM := Lib.hid hm
  clear hm
  go_wp2_with fail
  refine (show Calls _ _ #[.slice A1 n c1, .int .i64 1] w4 (fun e w' => e = .returned (.int .i64 m) ∧ w4 = w') from by rw [← HM.out]; exact cHeldI A1 n c1 1 w4 (by omega) HR1.out).mono ?_
  rintro e w' ⟨rfl, rfl⟩
  go_wp2_with fail
  refine (D2.out _ b4).mono ?_
  rintro e w5 ⟨A2, c2, rfl, own5, g5⟩
  have b5 := b4.trans (g5.mono b4.size)
  have HQ2 := Lib.hid (RowI.of own5)
  clear own5
  have HQ0 := Lib.hid (HQ0.out.below g5)
  have HR1 := Lib.hid (HR1.out.below g5)
  go_wp2_with fail
  refine (cEqR A2 A0 c2 c0 n xs w5 (by omega) HQ2.out HQ0.out).mono ?_
  rintro e w6 ⟨rfl, g6⟩
  have b6 := b5.trans (g6.mono b5.size)
  have HR1 := Lib.hid (HR1.out.below g6)
  go_wp2_with fail
  refine (show Calls _ _ #[.slice A1 n c1, .int .i64 1] w6 (fun e w' => e = .returned (.int .i64 m) ∧ w6 = w') from by rw [← HM.out]; exact cHeldI A1 n c1 1 w6 (by omega) HR1.out).mono ?_
  rintro e w' ⟨rfl, rfl⟩
  go_wp2_with fail
  go_ret
  exact ⟨rfl, b6⟩
end Go.Proofs.YtnodnjaajaemcaaDoor
