/-
  The law of PutTogether: its call answers true.
-/
import Derived.Test.YtippjomkbpiliaaDoorPut
import Derived.Test.YtippjomkbpiliaaDoorChecked
import Derived.Deep.Strs
import Derived.ChangeSame
import Derived.Lib.SmallJoins
namespace Go.Proofs.YtippjomkbpiliaaDoor
set_option linter.unusedVariables false
open Go.ChangeShapes Go.WideShapes Go.Deep Go.RowKit

section
variable {H : Type} {enc : TypeId × Value → H} {w : World} {base : Nat} {spare : Nat → Bool} {held : Bool}
set_option maxRecDepth 100000 in
theorem openParts {r : Reach} {b0 : Nat} {v : Value} {d : DataW H} {p : List MemPlace} (hv : Value.okWide Tryd.prog w r b0 44 v) (h : DataW.Trod enc Tryd.prog w base spare held 44 v d p) :
    ∃ x y : ByteArray, v = .agg #[.string x, .string y] ∧ x.size ≤ maxLen ∧ y.size ≤ maxLen := by
  obtain ⟨v0, v1, y0, y1, n, rfl, _, _, h0, h1⟩ := Joins.open_agg2 Tryd.underlying44 (by kernel_rfl) (by kernel_rfl) hv h
  obtain ⟨x, hx, _, wx⟩ := DataW.trod_string Tryd.underlying9 h0
  obtain ⟨y, hy, _, wy⟩ := DataW.trod_string Tryd.underlying9 h1
  injection hx with hx _
  injection hy with hy _
  subst hx; subst hy
  exact ⟨x, y, rfl, wx, wy⟩
end

theorem szP (s t : ByteArray) (w : World) (h0 : s.size ≤ maxLen) (h1 : t.size ≤ maxLen) :
    Calls Tryd.prog 24 #[.agg #[.string s, .string t], .int .i64 1048576] w fun e w' => (∃ q : Int, e = .returned (.int .i64 q) ∧ (q < 0 ∨ (0 ≤ q ∧ s.size ≤ 1048576 ∧ t.size ≤ 1048576))) ∧ Below w.heap.size w w' := by
  unfold maxLen at h0 h1
  have hb : Hid (Below w.heap.size w (w.alloc (.cells #[.string s, .string t] 44))) := Lib.hid ((Below.refl _ _).alloc (Nat.le_refl _) _)
  by_cases h2 : 1048576 < s.size
  · go_enter Tryd.func24, Tryd.ntmps24
    go_wp2
    go_ret
    exact ⟨⟨-1, rfl, .inl (by omega)⟩, hb.out⟩
  have h1' : (s.size : Int) ≤ 1048576 := by omega
  by_cases h3 : 1048576 - (s.size : Int) < t.size
  · go_enter Tryd.func24, Tryd.ntmps24
    go_wp2
    go_ret
    exact ⟨⟨-1, rfl, .inl (by omega)⟩, hb.out⟩
  · go_enter Tryd.func24, Tryd.ntmps24
    go_wp2
    go_ret
    exact ⟨⟨1048576 - s.size - t.size, rfl, .inr ⟨by omega, by omega, by omega⟩⟩, hb.out⟩
theorem cToParts (s t : ByteArray) (w : World) :
    Calls Tryd.prog 25 #[.agg #[.string s, .string t]] w fun e w' => e = .returned (.agg #[.string s, .string t]) ∧ Below w.heap.size w w' := by
  go_enter Tryd.func25, Tryd.ntmps25
  go_wp2
  refine bodyPost_ret ?_ rfl ⟨rfl, ?_⟩
  · simp [results, Tryd.results25, go_sem]
  · exact (((Below.refl _ _).alloc (Nat.le_refl _) _).alloc (by simp) _).alloc (by simp; omega) _

def LB (b : Nat) (s t : ByteArray) (W : World) : Prop := b < W.heap.size ∧ W.cell? ⟨b, 0, none⟩ = some (.string s) ∧ W.cell? ⟨b, 1, none⟩ = some (.string t)
theorem LB.below {w w' : World} {b : Nat} {s t : ByteArray} (h : LB b s t w) (hb : Below w.heap.size w w') : LB b s t w' :=
  ⟨Nat.lt_of_lt_of_le h.1 hb.size, (hb.cell (p := ⟨b, 0, none⟩) h.1).trans h.2.1, (hb.cell (p := ⟨b, 1, none⟩) h.1).trans h.2.2⟩
set_option maxHeartbeats 2000000 in
set_option maxRecDepth 100000 in
theorem wPutTogether (s t : ByteArray) (first : Bool) (w : World) (h0 : s.size ≤ maxLen) (h1 : t.size ≤ maxLen) (hsh : w.ShapedOpen Tryd.prog) :
    Calls Tryd.prog 5 #[.agg #[.string s, .string t], .bool first] w fun e w' => e = .returned (.bool true) ∧ Below w.heap.size w w' := by
  have HB0 : Hid (Below w.heap.size w (w.alloc (.cells #[.string s, .string t] 44))) := Lib.hid ((Below.refl _ _).alloc (Nat.le_refl _) _)
  have HL0 : Hid (LB w.heap.size s t (w.alloc (.cells #[.string s, .string t] 44))) := Lib.hid ⟨by simp, by rw [World.cell?_alloc_at _ _ _ _ rfl]; rfl, by rw [World.cell?_alloc_at _ _ _ _ rfl]; rfl⟩
  have CZ := Lib.hid (fun W => szP s t W h0 h1)
  have CT := Lib.hid (fun W => cToParts s t W)
  have HSH := Lib.hid (fun W (hW : Below w.heap.size w W) => shaped_below hsh hW)
  clear hsh
  go_enter Tryd.func5, Tryd.ntmps5
  go_wp2_with fail
  refine (CZ.out _).mono ?_
  rintro e w1 ⟨⟨q, rfl, hq⟩, hb1⟩
  have B1 := bstepP HB0.out HB0.out.size hb1
  have L1 := Lib.hid (HL0.out.below hb1)
  clear hb1
  rcases hq with hq | ⟨hq, k0, k1⟩
  · go_wp2_with fail
    go_ret
    exact ⟨rfl, B1⟩
  have CS := Lib.hid (fun W => cPut_spec s t first W k0 k1)
  have CI := Lib.hid (fun W (hW : Below w.heap.size w W) => cPut_impl s t first W k0 k1 (HSH.out W hW))
  generalize ptS s t first = R at CS CI
  generalize ptC s t first = C at CS CI
  have hd1 : (C != C) = false := by simp
  have hd2 : (R.toList != R.toList) = false := by simp
  have hd3 : (R.toList == R.toList) = true := by simp
  clear h0 h1 CZ
  obtain ⟨l1, a1, b1⟩ := L1.out
  go_wp2_with fail
  refine (CT.out _).mono ?_
  rintro e w2 ⟨rfl, hb2⟩
  have B2 := bstepP B1 B1.size hb2
  have L2 := Lib.hid (L1.out.below hb2)
  clear hb2 l1 a1 b1
  go_wp2_with fail
  refine (CS.out _).mono ?_
  rintro e w3 ⟨rfl, hb3⟩
  have B3 := bstepP B2 B2.size hb3
  have L3 := Lib.hid (L2.out.below hb3)
  clear hb3
  obtain ⟨l1, a1, b1⟩ := L3.out
  go_wp2_with fail
  refine (CT.out _).mono ?_
  rintro e w4 ⟨rfl, hb4⟩
  have B4 := bstepP B3 B3.size hb4
  have CX := Lib.hid (CI.out w4 B4)
  clear hb4 l1 a1 b1
  go_wp2_with fail
  refine CX.out.mono ?_
  rintro e w5 ⟨rfl, hb5⟩
  have B5 := bstepP B4 B4.size hb5
  go_wp2_with fail
  go_ret
  exact ⟨rfl, B5⟩
end Go.Proofs.YtippjomkbpiliaaDoor
