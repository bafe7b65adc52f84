/-
  The contracts of spec.DrawNameText and spec.DrawReadName; two equal names compared as values.
-/
import Derived.Test.YthlilfdndpnbkaaGreatDoorNmD
import Derived.Test.YthlilfdndpnbkaaGreatDoorNText
import Derived.Test.YthlilfdndpnbkaaGreatDoorDamage
import Derived.Laws.StructEq
namespace Go.Proofs.YthlilfdndpnbkaaGreatDoor
set_option linter.unusedVariables false
open Go.RowKit

theorem fields_spanZ : ((Tryz.prog).fieldsOf 25).toList.map (fun f => (f.name == "_", f.type, f.offset)) = [(false, 2, 0), (false, 2, 1)] := by kernel_rfl
theorem under_spanZ : (Tryz.prog).underlying 25 = some (.struct ((Tryz.prog).fieldsOf 25)) := by kernel_rfl
theorem stood_spanZ : (Tryz.prog).stoodInHeld 25 = false := by kernel_rfl
theorem fields_nameZ : ((Tryz.prog).fieldsOf 27).toList.map (fun f => (f.name == "_", f.type, f.offset)) = [(false, 9, 0), (false, 9, 1), (false, 2, 2), (false, 25, 3)] := by kernel_rfl
theorem under_nameZ : (Tryz.prog).underlying 27 = some (.struct ((Tryz.prog).fieldsOf 27)) := by kernel_rfl
theorem stood_nameZ : (Tryz.prog).stoodInHeld 27 = false := by kernel_rfl
theorem guard_nameZ : (Tryz.prog).eqGuardType (Tryz.prog).depth 27 = false := by kernel_rfl
theorem len2Z {α : Type} {l : List α} (h : l.length = 2) : ∃ a b, l = [a, b] := by
  match l, h with
  | [a, b], _ => exact ⟨a, b, rfl⟩
theorem len4Z {α : Type} {l : List α} (h : l.length = 4) : ∃ a b c d, l = [a, b, c, d] := by
  match l, h with
  | [a, b, c, d], _ => exact ⟨a, b, c, d, rfl⟩
theorem run_neNmZ (x : Nm) (W : World) : (binOp .neq 27 (nmA x) (nmA x)).run Tryz.prog W = .ok (.bool false) W := by
  unfold nmA
  rw [run_neq_struct, run_equalIn_agg W 9999 _ _ _ under_nameZ stood_nameZ]
  obtain ⟨f0, f1, f2, f3, hf, h0, h1, h2, h3⟩ : ∃ f0 f1 f2 f3 : Field, ((Tryz.prog).fieldsOf 27).toList = [f0, f1, f2, f3] ∧ ((f0.name == "_") = false ∧ f0.type = 9 ∧ f0.offset = 0) ∧ ((f1.name == "_") = false ∧ f1.type = 9 ∧ f1.offset = 1) ∧ ((f2.name == "_") = false ∧ f2.type = 2 ∧ f2.offset = 2) ∧ (f3.name == "_") = false ∧ f3.type = 25 ∧ f3.offset = 3 := by
    have h := fields_nameZ
    generalize ((Tryz.prog).fieldsOf 27).toList = l at h
    obtain ⟨f0, f1, f2, f3, rfl⟩ := len4Z (by simpa using congrArg List.length h)
    simp only [List.map_cons, List.map_nil, List.cons.injEq, Prod.mk.injEq, and_true] at h
    exact ⟨f0, f1, f2, f3, rfl, h.1, h.2.1, h.2.2.1, h.2.2.2⟩
  obtain ⟨n0, t0, o0⟩ := h0
  obtain ⟨n1, t1, o1⟩ := h1
  obtain ⟨n2, t2, o2⟩ := h2
  obtain ⟨n3, t3, o3⟩ := h3
  rw [hf]
  have n0' : f0.name ≠ "_" := by simpa using n0
  have n1' : f1.name ≠ "_" := by simpa using n1
  have n2' : f2.name ≠ "_" := by simpa using n2
  have n3' : f3.name ≠ "_" := by simpa using n3
  have hi := Tryz.underlying2
  have hs := Tryz.underlying9
  have hz := Tryz.sizeOf25
  have ha := Tryz.isAgg25
  simp [Op.eqFields, n0', n1', n2', n3', t0, o0, t1, o1, t2, o2, t3, o3, go_sem, hi, hs, hz, ha]

theorem ntB_size (x : Nm) (h : nmB x = true) (ht : x.t.size ≤ 2000) (hl : x.l.size ≤ 8) : (ntB x).size ≤ 9000 := by
  obtain ⟨e1, e2, e3, e4, e5⟩ := nm_parts h
  have hbd := spB_bd e5
  have ls := numB_len x.s
  have lf := numB_len x.f
  have lu := numB_len x.u
  have lns : (numB x.s).size ≤ 4 := by omega
  have lsp : (spanB x.f x.u).size ≤ 6006 := by unfold spanB; rw [ByteArray.size_append, ByteArray.size_append]; have : (⟨#[46, 46]⟩ : ByteArray).size = 2 := rfl; omega
  have lsl : slB.size = 1 := rfl
  unfold ntB
  rw [ByteArray.size_append, ByteArray.size_append, ByteArray.size_append, ByteArray.size_append, ByteArray.size_append, ByteArray.size_append]
  omega
theorem CodeIn.belowZ {w w' : World} {A : Option Addr} {len : Nat} (h : CodeIn w A len) (hb : Below w.heap.size w w') : CodeIn w' A len := fun hp => by
  obtain ⟨b, o, hA, hlt, hc⟩ := h hp
  refine ⟨b, o, hA, Nat.lt_of_lt_of_le hlt hb.size, fun j hj => ?_⟩
  obtain ⟨z, h0, h1, h2⟩ := hc j hj
  exact ⟨z, h0, h1, (hb.cell (by exact hlt)).trans h2⟩
theorem Src.belowZ {w w' : World} {B len : Nat} (h : Src w B len) (hb : Below w.heap.size w w') : Src w' B len := by
  obtain ⟨A, cap, at_, seed, hT, h1, h2, h3, h4, hC⟩ := h
  refine ⟨A, cap, at_, seed, (hb.block B hT.lt).trans hT, h1, h2, h3, h4, fun hp => ?_⟩
  obtain ⟨b, o, hA, hne, hlt, hc⟩ := hC hp
  refine ⟨b, o, hA, hne, Nat.lt_of_lt_of_le hlt hb.size, fun j hj => ?_⟩
  obtain ⟨z, z0, z1, z2⟩ := hc j hj
  exact ⟨z, z0, z1, (hb.cell (by exact hlt)).trans z2⟩
theorem below_srcZ {w w1 w2 : World} {B : Nat} (h : Below w.heap.size w w1) (hB : w.heap.size ≤ B) (hg : w1.grownBy w2 (some B)) : Below w.heap.size w w2 := h.grown hg h.size (fun k hk => by cases hk; exact hB)
theorem below_put5 {w V : World} {b : Nat} {x : Nm} (h : Below w.heap.size w V) (hb : w.heap.size ≤ b) : Below w.heap.size w (put5 V b x) := ((((h.setCell hb _).setCell hb _).setCell hb _).setCell hb _).setCell hb _
/-- A drawn text, for the law. -/
def DTx (w : World) (e : Ending) (w' : World) : Prop := ∃ s : ByteArray, e = .returned (.string s) ∧ s.size ≤ 10000 ∧ Below w.heap.size w w'
set_option maxHeartbeats 2000000 in
set_option maxRecDepth 100000 in
theorem cDrawRN (A : Option Addr) (len cap : Nat) (w : World) (hlen : len ≤ 1048576) (h : CodeIn w A len) :
    Calls Tryz.prog 10 #[.slice A len cap] w (DTx w) := by
  have C0 := Lib.hid (cFrom A len cap w hlen h)
  obtain ⟨B, hB⟩ : ∃ B, B = w.heap.size := ⟨_, rfl⟩
  have HB := Lib.hid hB
  rw [← hB] at C0
  clear h hB
  go_enter Tryz.func10, Tryz.ntmps10
  go_wp2_with fail
  refine C0.out.mono ?_
  rintro e w1 ⟨rfl, hS1, hb1⟩
  have HB1 : Hid (Below w.heap.size w w1) := Lib.hid (by rw [← HB.out]; exact hb1)
  have CX := Lib.hid (cNmD B len w1 hlen hS1)
  clear hS1 hb1 C0
  go_wp2_with fail
  refine CX.out.mono ?_
  rintro e w2 ⟨x, rfl, hx, hS2, g2⟩
  have hx1 := hx.1
  have hx2 := hx.2.1
  have HB2 := Lib.hid (below_srcZ HB1.out (Nat.le_of_eq HB.out.symm) g2)
  have HS2 := Lib.hid hS2
  clear hS2 g2 HB1 CX hx
  obtain ⟨w3, hw3⟩ : ∃ w3, w3 = w2.alloc (.cells #[.string x.t, .string x.l, .int .i64 x.s, .int .i64 x.f, .int .i64 x.u] 27) := ⟨_, rfl⟩
  have HW3 := Lib.hid hw3
  have hT3 : TabAt w3 w2.heap.size 27 (celN x) := by rw [hw3]; exact TabAt.new w2 _ _
  have HB3 : Hid (Below w.heap.size w w3) := Lib.hid (by rw [hw3]; exact HB2.out.alloc HB2.out.size _)
  have HS3 : Hid (Src w3 B len) := Lib.hid (by rw [hw3]; exact HS2.out.alloc _)
  have HT3 := Lib.hid hT3
  have CI := Lib.hid (cIsName_spec x w3 (by omega) (by unfold maxLen; omega))
  clear hw3 hT3 HB2 HS2
  have b0 := (HT3.out.cell 0).trans (show (celN x)[0]? = some (.string x.t) from rfl)
  have b1 := (HT3.out.cell 1).trans (show (celN x)[1]? = some (.string x.l) from rfl)
  have b2 := (HT3.out.cell 2).trans (show (celN x)[2]? = some (.int .i64 x.s) from rfl)
  have b3 := (HT3.out.cell 3).trans (show (celN x)[3]? = some (.int .i64 x.f) from rfl)
  have b4 := (HT3.out.cell 4).trans (show (celN x)[4]? = some (.int .i64 x.u) from rfl)
  have CN := Lib.hid (fun (V : World) (n : Int) (hV : Src V B len) (h1 : -1000000000 ≤ n) (h2 : n ≤ 10000000000) => cNext B len n V hlen h1 h2 hV)
  have CD := Lib.hid (fun (V : World) (t : ByteArray) (ht : t.size ≤ 9000) (hV : Src V B len) => cDamage B len t V hlen (by omega) hV)
  have hBl : w.heap.size ≤ B := Nat.le_of_eq HB.out.symm
  cases hv : nmB x
  · rw [hv] at CI
    have hz : (⟨#[111, 108, 100, 32, 97, 115, 104, 47, 101, 110, 47, 48, 47, 49, 50, 48, 48, 46, 46, 49, 51, 48, 48]⟩ : ByteArray).size ≤ 9000 := by decide
    go_wp2_with fail
    rw [← HW3.out]
    go_wp2_with fail
    refine CI.out.mono ?_
    rintro e w4 ⟨rfl, hb4⟩
    have HB4 := Lib.hid (HB3.out.trans (hb4.mono HB3.out.size))
    have HS4 := Lib.hid (HS3.out.belowZ hb4)
    clear hb4 CI HB3 HS3
    go_wp2_with fail
    refine (CN.out _ 3 HS4.out (by omega) (by omega)).mono ?_
    rintro e w5 ⟨r, hr0, hr1, rfl, hS5, g5⟩
    have HB5 := Lib.hid (below_srcZ HB4.out hBl g5)
    have HS5 := Lib.hid hS5
    clear hS5 g5 HB4 HS4 hr1
    by_cases h0 : r = 0
    · subst h0
      go_wp2_with fail
      refine (CD.out _ _ hz HS5.out).mono ?_
      rintro e w6 ⟨s, hs, rfl, hS6, g6⟩
      have HB6 := Lib.hid (below_srcZ HB5.out hBl g6)
      clear hS6 g6
      go_wp2_with fail
      go_ret
      exact ⟨s, rfl, by omega, HB6.out⟩
    · have d0 : (r == 0) = false := by rw [beq_eq_false_iff_ne]; exact h0
      go_wp2_with fail
      go_ret
      exact ⟨_, rfl, by decide, HB5.out⟩
  · rw [hv] at CI
    have hz := ntB_size x hv hx1 hx2
    have CT := Lib.hid (fun V => cL09Text x V (by omega) (by omega) hv)
    go_wp2_with fail
    rw [← HW3.out]
    go_wp2_with fail
    refine CI.out.mono ?_
    rintro e w4 ⟨rfl, hb4⟩
    have HB4 := Lib.hid (HB3.out.trans (hb4.mono HB3.out.size))
    have HS4 := Lib.hid (HS3.out.belowZ hb4)
    have HT4 : Hid (TabAt w4 w2.heap.size 27 (celN x)) := Lib.hid ((hb4.block _ HT3.out.lt).trans HT3.out)
    clear hb4 CI HB3 HS3 b0 b1 b2 b3 b4 HT3
    have b0 := (HT4.out.cell 0).trans (show (celN x)[0]? = some (.string x.t) from rfl)
    have b1 := (HT4.out.cell 1).trans (show (celN x)[1]? = some (.string x.l) from rfl)
    have b2 := (HT4.out.cell 2).trans (show (celN x)[2]? = some (.int .i64 x.s) from rfl)
    have b3 := (HT4.out.cell 3).trans (show (celN x)[3]? = some (.int .i64 x.f) from rfl)
    have b4 := (HT4.out.cell 4).trans (show (celN x)[4]? = some (.int .i64 x.u) from rfl)
    go_wp2_with fail
    refine (CT.out _).mono ?_
    rintro e w5 ⟨rfl, hb5⟩
    have HB5 := Lib.hid (HB4.out.trans (hb5.mono HB4.out.size))
    have HS5 := Lib.hid (HS4.out.belowZ hb5)
    clear hb5 HB4 HS4 CT b0 b1 b2 b3 b4 HT4
    go_wp2_with fail
    refine (CN.out _ 3 HS5.out (by omega) (by omega)).mono ?_
    rintro e w6 ⟨r, hr0, hr1, rfl, hS6, g6⟩
    have HB6 := Lib.hid (below_srcZ HB5.out hBl g6)
    have HS6 := Lib.hid hS6
    clear hS6 g6 HB5 HS5 hr1
    by_cases h0 : r = 0
    · subst h0
      go_wp2_with fail
      refine (CD.out _ _ hz HS6.out).mono ?_
      rintro e w7 ⟨s, hs, rfl, hS7, g7⟩
      have HB7 := Lib.hid (below_srcZ HB6.out hBl g7)
      clear hS7 g7
      go_wp2_with fail
      go_ret
      exact ⟨s, rfl, by omega, HB7.out⟩
    · have d0 : (r == 0) = false := by rw [beq_eq_false_iff_ne]; exact h0
      go_wp2_with fail
      go_ret
      exact ⟨_, rfl, by omega, HB6.out⟩
end Go.Proofs.YthlilfdndpnbkaaGreatDoor
