/-
  The contracts of NameText of both packages.
-/
import Derived.Test.YthlilfdndpnbkaaGreatDoorMu10
import Derived.Test.YthlilfdndpnbkaaGreatDoorMu15
import Derived.Test.YthlilfdndpnbkaaGreatDoorNmD
import Derived.Test.YthlilfdndpnbkaaGreatDoorMu8
import Derived.Laws.StructEq
namespace Go.Proofs.YthlilfdndpnbkaaGreatDoor
section
set_option linter.unusedVariables false
open Go.RowKit

def slB : ByteArray := ⟨#[47]⟩
/-- The text of a name. -/
def ntB (x : Nm) : ByteArray := x.t ++ slB ++ x.l ++ slB ++ numB x.s ++ slB ++ spanB x.f x.u
def ntT (x : Nm) : ByteArray := if nmB x then ntB x else ByteArray.empty
def ntC (x : Nm) : Int := if nmB x then 0 else 1
theorem ntT_ok {x : Nm} (h : nmB x = true) : ntT x = ntB x := by unfold ntT; rw [if_pos h]
theorem ntT_no {x : Nm} (h : nmB x = false) : ntT x = ByteArray.empty := by unfold ntT; rw [if_neg (by simp [h])]
theorem ntC_ok {x : Nm} (h : nmB x = true) : ntC x = 0 := by unfold ntC; rw [if_pos h]
theorem ntC_no {x : Nm} (h : nmB x = false) : ntC x = 1 := by unfold ntC; rw [if_neg (by simp [h])]
theorem join4 (a b c d s : ByteArray) : (⟨(Lib.join ([a, b, c, d].map (·.data.toList)) s.data.toList).toArray⟩ : ByteArray) = a ++ s ++ b ++ s ++ c ++ s ++ d := by
  apply ByteArray.ext; apply Array.toList_inj.1; simp [Lib.join]
theorem join4_len (a b c d s : ByteArray) : (Lib.join ([a, b, c, d].map (·.data.toList)) s.data.toList).length = a.size + s.size + b.size + s.size + c.size + s.size + d.size := by
  have h := congrArg ByteArray.size (join4 a b c d s)
  simp only [ByteArray.size_append] at h
  rw [← h]; rfl
theorem list4_at {a b c d x : ByteArray} {W : World} {g : Nat} (h0 : W.cell? ⟨g, 0, none⟩ = some (.string a)) (h1 : W.cell? ⟨g, 1, none⟩ = some (.string b)) (h2 : W.cell? ⟨g, 2, none⟩ = some (.string c)) (h3 : W.cell? ⟨g, 3, none⟩ = some (.string d)) : ∀ (j : Nat), [a, b, c, d][j]? = some x → W.cell? ⟨g, 0 + j, none⟩ = some (.string x)
  | 0, h => by obtain rfl : a = x := by simpa using h
               exact h0
  | 1, h => by obtain rfl : b = x := by simpa using h
               exact h1
  | 2, h => by obtain rfl : c = x := by simpa using h
               exact h2
  | 3, h => by obtain rfl : d = x := by simpa using h
               exact h3
  | j + 4, h => by simp at h

set_option maxHeartbeats 2000000 in
set_option maxRecDepth 100000 in
theorem cNText_impl (x : Nm) (w : World) (ht : x.t.size ≤ 1048576) (hl : x.l.size ≤ 1048576) (hsh : w.ShapedOpen Tryz.prog) (her : Er4 w) (hgl : 10 < w.heap.size) (htab : Lib.TabIs Tryz.prog w "internal/strconv.uint64pow10" .u64 Lib.pow10Tab) :
    Calls Tryz.prog 8 #[nmA x] w fun e w' => e = .returned (.tuple #[.string (ntT x), .int .i64 (ntC x)]) ∧ Below w.heap.size w w' := by
  have hb0 := (Below.refl w.heap.size w).alloc (Nat.le_refl _) (.cells #[.string x.t, .string x.l, .int .i64 x.s, .int .i64 x.f, .int .i64 x.u] 27)
  have CI := Lib.hid (fun W (hW : Below w.heap.size w W) => cIsName_impl x W (by omega) (by unfold maxLen; omega) (shaped_below hsh hW) (her.below hW))
  have KB := Lib.hid (fun W hW => nm_box (w := w) (W := W) (x := x) (t := 27) hW)
  have HB := Lib.hid hb0
  have CT := Lib.hid (fun W (hW : Below w.heap.size w W) => cSpanText_impl x.f x.u W (Nat.lt_of_lt_of_le hgl hW.size) (tab_below hW pow_named hgl htab))
  have CF := Lib.hid (fun W (ho : okN x.s = true) (hW : Below w.heap.size w W) => cFormat x.s W ho (tab_below hW pow_named hgl htab))
  clear hb0 hsh her htab
  cases hv : nmB x
  · rw [ntT_no hv, ntC_no hv]
    rw [hv] at CI
    clear hv
    go_enter Tryz.func8, Tryz.ntmps8
    go_wp2_with fail
    refine (CI.out _ HB.out).mono ?_
    rintro e w1 ⟨rfl, g1⟩
    have t1 := bstep9 HB.out HB.out.size g1
    go_wp2_with fail
    go_ret2
    exact ⟨rfl, t1⟩
  obtain ⟨e1, e2, e3, e4, e5⟩ := nm_parts hv
  rw [ntT_ok hv, ntC_ok hv]
  rw [hv] at CI
  have hbd := spB_bd e5
  have ox : okN x.s = true := by unfold okN; rw [decide_eq_true (by omega), decide_eq_true (by omega)]; rfl
  have HF := Lib.hid (fun W hW => CF.out W ox hW)
  have HT : Hid (∀ W, Below w.heap.size w W → Calls Tryz.prog 43 #[.agg #[.int .i64 x.f, .int .i64 x.u]] W fun e w' => e = .returned (.tuple #[.string (spanB x.f x.u), .int .i64 0]) ∧ Below W.heap.size W w') := Lib.hid (by have h := CT.out; rw [spTV_ok e5] at h; exact h)
  have ls := numB_len x.s
  have lf := numB_len x.f
  have lu := numB_len x.u
  have lsp : (spanB x.f x.u).size ≤ 6006 := by unfold spanB; rw [ByteArray.size_append, ByteArray.size_append]; have : (⟨#[46, 46]⟩ : ByteArray).size = 2 := rfl; omega
  have HJL : Hid ((Lib.join ([x.t, x.l, numB x.s, spanB x.f x.u].map (·.data.toList)) slB.data.toList).length ≤ 140737488355328) := Lib.hid (by rw [join4_len]; have : slB.size = 1 := rfl; omega)
  have HR : Hid ((⟨(Lib.join ([x.t, x.l, numB x.s, spanB x.f x.u].map (·.data.toList)) slB.data.toList).toArray⟩ : ByteArray) = ntB x) := Lib.hid (join4 _ _ _ _ _)
  generalize hns : numB x.s = ns at *
  generalize hnp : spanB x.f x.u = np at *
  have CJ := Lib.hid (fun W (g : Nat) (h0 : W.cell? ⟨g, 0, none⟩ = some (.string x.t)) (h1 : W.cell? ⟨g, 1, none⟩ = some (.string x.l)) (h2 : W.cell? ⟨g, 2, none⟩ = some (.string ns)) (h3 : W.cell? ⟨g, 3, none⟩ = some (.string np)) => Tryz.strings_Join g 0 4 [x.t, x.l, ns, np] slB W (fun j y hy => list4_at h0 h1 h2 h3 j hy) (World.block_lt_of_cell? W _ h0) (by simp) (by simp) HJL.out)
  clear hv e1 e2 e3 e4 e5 hbd ox CF CT ls lf lu lsp hns hnp
  go_enter Tryz.func8, Tryz.ntmps8
  go_wp2_with fail
  refine (CI.out _ HB.out).mono ?_
  rintro e w1 ⟨rfl, g1⟩
  have t1 := bstep9 HB.out HB.out.size g1
  obtain ⟨k0, k1, k2, k3, k4⟩ := KB.out w1 g1
  go_wp2_with fail
  refine (HT.out _ t1).mono ?_
  rintro e w2 ⟨rfl, g2⟩
  have t2 := bstep9 t1 t1.size g2
  have b2 := bstep9 g1 g1.size g2
  clear k0 k1 k2 k3 k4 g1 g2 t1
  obtain ⟨k0, k1, k2, k3, k4⟩ := KB.out w2 b2
  go_wp2_with fail
  refine (HF.out _ t2).mono ?_
  rintro e w3 ⟨rfl, g3⟩
  have t3 := bstep9 t2 t2.size g3
  have b3 := bstep9 b2 b2.size g3
  clear k0 k1 k2 k3 k4 b2 g3 t2
  obtain ⟨k0, k1, k2, k3, k4⟩ := KB.out w3 b3
  have t4 := t3.alloc t3.size (.cells #[.string x.t, .string x.l, .string ns, .string np] 9)
  go_wp2_with fail
  refine (CJ.out _ w3.heap.size (World.cell?_alloc_at _ _ _ _ rfl) (World.cell?_alloc_at _ _ _ _ rfl) (World.cell?_alloc_at _ _ _ _ rfl) (World.cell?_alloc_at _ _ _ _ rfl)).mono ?_
  rintro e w5 ⟨rfl, g5⟩
  rw [HR.out]
  have t5 := bstep9 t4 t4.size g5
  go_wp2_with fail
  go_ret2
  exact ⟨rfl, t5⟩

set_option maxHeartbeats 2000000 in
set_option maxRecDepth 100000 in
theorem cL09Text (x : Nm) (w : World) (ht : x.t.size ≤ 1048576) (hl : x.l.size ≤ 1048576) (hv : nmB x = true) :
    Calls Tryz.prog 47 #[nmA x] w fun e w' => e = .returned (.string (ntB x)) ∧ Below w.heap.size w w' := by
  obtain ⟨e1, e2, e3, e4, e5⟩ := nm_parts hv
  have hbd := spB_bd e5
  have CD := cDec 2 x.s.toNat
  rw [show ((x.s.toNat : Nat) : Int) = x.s by omega, ← numB_pos x.s (by omega)] at CD
  have HD := Lib.hid (fun W => CD W (by omega) (by omega))
  have HT := Lib.hid (fun W => cText2 x.f x.u W (by omega) (by omega))
  have ls := numB_len x.s
  have lf := numB_len x.f
  have lu := numB_len x.u
  have lns : (numB x.s).size ≤ 4 := by omega
  have lsp : (spanB x.f x.u).size ≤ 6006 := by unfold spanB; rw [ByteArray.size_append, ByteArray.size_append]; have : (⟨#[46, 46]⟩ : ByteArray).size = 2 := rfl; omega
  have HR : Hid (x.t ++ slB ++ x.l ++ slB ++ numB x.s ++ slB ++ spanB x.f x.u = ntB x) := Lib.hid rfl
  have hb0 := (Below.refl w.heap.size w).alloc (Nat.le_refl _) (.cells #[.string x.t, .string x.l, .int .i64 x.s, .int .i64 x.f, .int .i64 x.u] 27)
  have KB := Lib.hid (fun W hW => nm_box (w := w) (W := W) (x := x) (t := 27) hW)
  have HB := Lib.hid hb0
  generalize hns : numB x.s = ns at *
  generalize hnp : spanB x.f x.u = np at *
  clear hv e1 e2 e3 e4 e5 hbd CD ls lf lu hns hnp hb0
  go_enter Tryz.func47, Tryz.ntmps47
  go_wp2_with fail
  obtain ⟨T, f, t0, hT, ht0, hf, hback⟩ := class_of (w.alloc (.cells #[.string x.t, .string x.l, .int .i64 x.s, .int .i64 x.f, .int .i64 x.u] 27))
  have k0 : ∀ t, (f t).cell? ⟨w.heap.size, 0, none⟩ = some (.string x.t) := fun t => (KB.out _ (hf t)).1
  have k1 : ∀ t, (f t).cell? ⟨w.heap.size, 1, none⟩ = some (.string x.l) := fun t => (KB.out _ (hf t)).2.1
  have k2 : ∀ t, (f t).cell? ⟨w.heap.size, 2, none⟩ = some (.int .i64 x.s) := fun t => (KB.out _ (hf t)).2.2.1
  have k3 : ∀ t, (f t).cell? ⟨w.heap.size, 3, none⟩ = some (.int .i64 x.f) := fun t => (KB.out _ (hf t)).2.2.2.1
  have k4 : ∀ t, (f t).cell? ⟨w.heap.size, 4, none⟩ = some (.int .i64 x.u) := fun t => (KB.out _ (hf t)).2.2.2.2
  have HF := Lib.hid hf
  have HK := Lib.hid hback
  clear hf hback
  refine wp_region_class f t0 ht0 (by kernel_rfl) (by kernel_rfl) ?_
  clear ht0
  repeat (go_big_quiet_step (first | (go_at_call 94; exact Calls.class_of HF.out HK.out (HD.out _)) | (go_at_call 95; exact Calls.class_of HF.out HK.out (HT.out _))))
  refine wpQuiet_nil ?_
  rintro w' ⟨t, rfl⟩
  go_wp2
  go_ret
  exact ⟨by rw [← HR.out]; rfl, bstep9 HB.out HB.out.size (HF.out t)⟩
theorem cNText_spec (x : Nm) (w : World) (ht : x.t.size ≤ 1048576) (hl : x.l.size ≤ 1048576) :
    Calls Tryz.prog 9 #[nmA x] w fun e w' => e = .returned (.tuple #[.string (ntT x), .int .i64 (ntC x)]) ∧ Below w.heap.size w w' := by
  have hb0 := (Below.refl w.heap.size w).alloc (Nat.le_refl _) (.cells #[.string x.t, .string x.l, .int .i64 x.s, .int .i64 x.f, .int .i64 x.u] 27)
  have CI := Lib.hid (fun W => cIsName_spec x W (by omega) (by unfold maxLen; omega))
  have CT := Lib.hid (fun W (h : nmB x = true) => cL09Text x W ht hl h)
  have KB := Lib.hid (fun W hW => nm_box (w := w) (W := W) (x := x) (t := 27) hW)
  have HB := Lib.hid hb0
  clear hb0
  cases hv : nmB x
  · rw [ntT_no hv, ntC_no hv]
    rw [hv] at CI
    clear hv
    go_enter Tryz.func9, Tryz.ntmps9
    go_wp2_with fail
    refine (CI.out _).mono ?_
    rintro e w1 ⟨rfl, g1⟩
    have t1 := bstep9 HB.out HB.out.size g1
    go_wp2_with fail
    go_ret2
    exact ⟨rfl, t1⟩
  have CX := Lib.hid (fun W => CT.out W hv)
  rw [ntT_ok hv, ntC_ok hv]
  rw [hv] at CI
  clear hv CT
  go_enter Tryz.func9, Tryz.ntmps9
  go_wp2_with fail
  refine (CI.out _).mono ?_
  rintro e w1 ⟨rfl, g1⟩
  have t1 := bstep9 HB.out HB.out.size g1
  obtain ⟨k0, k1, k2, k3, k4⟩ := KB.out w1 g1
  go_wp2_with fail
  refine (CX.out _).mono ?_
  rintro e w2 ⟨rfl, g2⟩
  have t2 := bstep9 t1 t1.size g2
  go_wp2_with fail
  go_ret2
  exact ⟨rfl, t2⟩
end
section
set_option linter.unusedVariables false
open Go.RowKit

theorem fields_spanZ : ((Tryz.prog).fieldsOf 25).toList.map (fun f => (f.name == "_", f.type, f.offset)) = [(false, 2, 0), (false, 2, 1)] := by kernel_rfl
theorem under_spanZ : (Tryz.prog).underlying 25 = some (.struct ((Tryz.prog).fieldsOf 25)) := by kernel_rfl
theorem stood_spanZ : (Tryz.prog).stoodInHeld 25 = false := by kernel_rfl
theorem fields_nameZ : ((Tryz.prog).fieldsOf 27).toList.map (fun f => (f.name == "_", f.type, f.offset)) = [(false, 9, 0), (false, 9, 1), (false, 2, 2), (false, 25, 3)] := by kernel_rfl
theorem under_nameZ : (Tryz.prog).underlying 27 = some (.struct ((Tryz.prog).fieldsOf 27)) := by kernel_rfl
theorem stood_nameZ : (Tryz.prog).stoodInHeld 27 = false := by kernel_rfl
theorem guard_nameZ : (Tryz.prog).eqGuardType (Tryz.prog).depth 27 = false := by kernel_rfl
theorem len2Z {α : Type} {l : List α} (h : l.length = 2) : ∃ a b, l = [a, b] := by
  match l, h with
  | [a, b], _ => exact ⟨a, b, rfl⟩
theorem len4Z {α : Type} {l : List α} (h : l.length = 4) : ∃ a b c d, l = [a, b, c, d] := by
  match l, h with
  | [a, b, c, d], _ => exact ⟨a, b, c, d, rfl⟩
theorem run_neNmZ (x : Nm) (W : World) : (binOp .neq 27 (nmA x) (nmA x)).run Tryz.prog W = .ok (.bool false) W := by
  unfold nmA
  rw [run_neq_struct, run_equalIn_agg W 9999 _ _ _ under_nameZ stood_nameZ]
  obtain ⟨f0, f1, f2, f3, hf, h0, h1, h2, h3⟩ : ∃ f0 f1 f2 f3 : Field, ((Tryz.prog).fieldsOf 27).toList = [f0, f1, f2, f3] ∧ ((f0.name == "_") = false ∧ f0.type = 9 ∧ f0.offset = 0) ∧ ((f1.name == "_") = false ∧ f1.type = 9 ∧ f1.offset = 1) ∧ ((f2.name == "_") = false ∧ f2.type = 2 ∧ f2.offset = 2) ∧ (f3.name == "_") = false ∧ f3.type = 25 ∧ f3.offset = 3 := by
    have h := fields_nameZ
    generalize ((Tryz.prog).fieldsOf 27).toList = l at h
    obtain ⟨f0, f1, f2, f3, rfl⟩ := len4Z (by simpa using congrArg List.length h)
    simp only [List.map_cons, List.map_nil, List.cons.injEq, Prod.mk.injEq, and_true] at h
    exact ⟨f0, f1, f2, f3, rfl, h.1, h.2.1, h.2.2.1, h.2.2.2⟩
  obtain ⟨n0, t0, o0⟩ := h0
  obtain ⟨n1, t1, o1⟩ := h1
  obtain ⟨n2, t2, o2⟩ := h2
  obtain ⟨n3, t3, o3⟩ := h3
  rw [hf]
  have n0' : f0.name ≠ "_" := by simpa using n0
  have n1' : f1.name ≠ "_" := by simpa using n1
  have n2' : f2.name ≠ "_" := by simpa using n2
  have n3' : f3.name ≠ "_" := by simpa using n3
  have hi := Tryz.underlying2
  have hs := Tryz.underlying9
  have hz := Tryz.sizeOf25
  have ha := Tryz.isAgg25
  simp [Op.eqFields, n0', n1', n2', n3', t0, o0, t1, o1, t2, o2, t3, o3, go_sem, hi, hs, hz, ha]

theorem ntB_size (x : Nm) (h : nmB x = true) (ht : x.t.size ≤ 2000) (hl : x.l.size ≤ 8) : (ntB x).size ≤ 9000 := by
  obtain ⟨e1, e2, e3, e4, e5⟩ := nm_parts h
  have hbd := spB_bd e5
  have ls := numB_len x.s
  have lf := numB_len x.f
  have lu := numB_len x.u
  have lns : (numB x.s).size ≤ 4 := by omega
  have lsp : (spanB x.f x.u).size ≤ 6006 := by unfold spanB; rw [ByteArray.size_append, ByteArray.size_append]; have : (⟨#[46, 46]⟩ : ByteArray).size = 2 := rfl; omega
  have lsl : slB.size = 1 := rfl
  unfold ntB
  rw [ByteArray.size_append, ByteArray.size_append, ByteArray.size_append, ByteArray.size_append, ByteArray.size_append, ByteArray.size_append]
  omega
theorem CodeIn.belowZ {w w' : World} {A : Option Addr} {len : Nat} (h : CodeIn w A len) (hb : Below w.heap.size w w') : CodeIn w' A len := fun hp => by
  obtain ⟨b, o, hA, hlt, hc⟩ := h hp
  refine ⟨b, o, hA, Nat.lt_of_lt_of_le hlt hb.size, fun j hj => ?_⟩
  obtain ⟨z, h0, h1, h2⟩ := hc j hj
  exact ⟨z, h0, h1, (hb.cell (by exact hlt)).trans h2⟩
theorem Src.belowZ {w w' : World} {B len : Nat} (h : Src w B len) (hb : Below w.heap.size w w') : Src w' B len := by
  obtain ⟨A, cap, at_, seed, hT, h1, h2, h3, h4, hC⟩ := h
  refine ⟨A, cap, at_, seed, (hb.block B hT.lt).trans hT, h1, h2, h3, h4, fun hp => ?_⟩
  obtain ⟨b, o, hA, hne, hlt, hc⟩ := hC hp
  refine ⟨b, o, hA, hne, Nat.lt_of_lt_of_le hlt hb.size, fun j hj => ?_⟩
  obtain ⟨z, z0, z1, z2⟩ := hc j hj
  exact ⟨z, z0, z1, (hb.cell (by exact hlt)).trans z2⟩
theorem below_srcZ {w w1 w2 : World} {B : Nat} (h : Below w.heap.size w w1) (hB : w.heap.size ≤ B) (hg : w1.grownBy w2 (some B)) : Below w.heap.size w w2 := h.grown hg h.size (fun k hk => by cases hk; exact hB)
theorem below_put5 {w V : World} {b : Nat} {x : Nm} (h : Below w.heap.size w V) (hb : w.heap.size ≤ b) : Below w.heap.size w (put5 V b x) := ((((h.setCell hb _).setCell hb _).setCell hb _).setCell hb _).setCell hb _
/-- A drawn text, for the law. -/
def DTx (w : World) (e : Ending) (w' : World) : Prop := ∃ s : ByteArray, e = .returned (.string s) ∧ s.size ≤ 10000 ∧ Below w.heap.size w w'
set_option maxHeartbeats 2000000 in
set_option maxRecDepth 100000 in
theorem cDrawRN (A : Option Addr) (len cap : Nat) (w : World) (hlen : len ≤ 1048576) (h : CodeIn w A len) :
    Calls Tryz.prog 10 #[.slice A len cap] w (DTx w) := by
  have C0 := Lib.hid (cFrom A len cap w hlen h)
  obtain ⟨B, hB⟩ : ∃ B, B = w.heap.size := ⟨_, rfl⟩
  have HB := Lib.hid hB
  rw [← hB] at C0
  clear h hB
  go_enter Tryz.func10, Tryz.ntmps10
  go_wp2_with fail
  refine C0.out.mono ?_
  rintro e w1 ⟨rfl, hS1, hb1⟩
  have HB1 : Hid (Below w.heap.size w w1) := Lib.hid (by rw [← HB.out]; exact hb1)
  have CX := Lib.hid (cNmD B len w1 hlen hS1)
  clear hS1 hb1 C0
  go_wp2_with fail
  refine CX.out.mono ?_
  rintro e w2 ⟨x, rfl, hx, hS2, g2⟩
  have hx1 := hx.1
  have hx2 := hx.2.1
  have HB2 := Lib.hid (below_srcZ HB1.out (Nat.le_of_eq HB.out.symm) g2)
  have HS2 := Lib.hid hS2
  clear hS2 g2 HB1 CX hx
  obtain ⟨w3, hw3⟩ : ∃ w3, w3 = w2.alloc (.cells #[.string x.t, .string x.l, .int .i64 x.s, .int .i64 x.f, .int .i64 x.u] 27) := ⟨_, rfl⟩
  have HW3 := Lib.hid hw3
  have hT3 : TabAt w3 w2.heap.size 27 (celN x) := by rw [hw3]; exact TabAt.new w2 _ _
  have HB3 : Hid (Below w.heap.size w w3) := Lib.hid (by rw [hw3]; exact HB2.out.alloc HB2.out.size _)
  have HS3 : Hid (Src w3 B len) := Lib.hid (by rw [hw3]; exact HS2.out.alloc _)
  have HT3 := Lib.hid hT3
  have CI := Lib.hid (cIsName_spec x w3 (by omega) (by unfold maxLen; omega))
  clear hw3 hT3 HB2 HS2
  have b0 := (HT3.out.cell 0).trans (show (celN x)[0]? = some (.string x.t) from rfl)
  have b1 := (HT3.out.cell 1).trans (show (celN x)[1]? = some (.string x.l) from rfl)
  have b2 := (HT3.out.cell 2).trans (show (celN x)[2]? = some (.int .i64 x.s) from rfl)
  have b3 := (HT3.out.cell 3).trans (show (celN x)[3]? = some (.int .i64 x.f) from rfl)
  have b4 := (HT3.out.cell 4).trans (show (celN x)[4]? = some (.int .i64 x.u) from rfl)
  have CN := Lib.hid (fun (V : World) (n : Int) (hV : Src V B len) (h1 : -1000000000 ≤ n) (h2 : n ≤ 10000000000) => cNext B len n V hlen h1 h2 hV)
  have CD := Lib.hid (fun (V : World) (t : ByteArray) (ht : t.size ≤ 9000) (hV : Src V B len) => cDamage B len t V hlen (by omega) hV)
  have hBl : w.heap.size ≤ B := Nat.le_of_eq HB.out.symm
  cases hv : nmB x
  · rw [hv] at CI
    have hz : (⟨#[111, 108, 100, 32, 97, 115, 104, 47, 101, 110, 47, 48, 47, 49, 50, 48, 48, 46, 46, 49, 51, 48, 48]⟩ : ByteArray).size ≤ 9000 := by decide
    go_wp2_with fail
    rw [← HW3.out]
    go_wp2_with fail
    refine CI.out.mono ?_
    rintro e w4 ⟨rfl, hb4⟩
    have HB4 := Lib.hid (HB3.out.trans (hb4.mono HB3.out.size))
    have HS4 := Lib.hid (HS3.out.belowZ hb4)
    clear hb4 CI HB3 HS3
    go_wp2_with fail
    refine (CN.out _ 3 HS4.out (by omega) (by omega)).mono ?_
    rintro e w5 ⟨r, hr0, hr1, rfl, hS5, g5⟩
    have HB5 := Lib.hid (below_srcZ HB4.out hBl g5)
    have HS5 := Lib.hid hS5
    clear hS5 g5 HB4 HS4 hr1
    by_cases h0 : r = 0
    · subst h0
      go_wp2_with fail
      refine (CD.out _ _ hz HS5.out).mono ?_
      rintro e w6 ⟨s, hs, rfl, hS6, g6⟩
      have HB6 := Lib.hid (below_srcZ HB5.out hBl g6)
      clear hS6 g6
      go_wp2_with fail
      go_ret
      exact ⟨s, rfl, by omega, HB6.out⟩
    · have d0 : (r == 0) = false := by rw [beq_eq_false_iff_ne]; exact h0
      go_wp2_with fail
      go_ret
      exact ⟨_, rfl, by decide, HB5.out⟩
  · rw [hv] at CI
    have hz := ntB_size x hv hx1 hx2
    have CT := Lib.hid (fun V => cL09Text x V (by omega) (by omega) hv)
    go_wp2_with fail
    rw [← HW3.out]
    go_wp2_with fail
    refine CI.out.mono ?_
    rintro e w4 ⟨rfl, hb4⟩
    have HB4 := Lib.hid (HB3.out.trans (hb4.mono HB3.out.size))
    have HS4 := Lib.hid (HS3.out.belowZ hb4)
    have HT4 : Hid (TabAt w4 w2.heap.size 27 (celN x)) := Lib.hid ((hb4.block _ HT3.out.lt).trans HT3.out)
    clear hb4 CI HB3 HS3 b0 b1 b2 b3 b4 HT3
    have b0 := (HT4.out.cell 0).trans (show (celN x)[0]? = some (.string x.t) from rfl)
    have b1 := (HT4.out.cell 1).trans (show (celN x)[1]? = some (.string x.l) from rfl)
    have b2 := (HT4.out.cell 2).trans (show (celN x)[2]? = some (.int .i64 x.s) from rfl)
    have b3 := (HT4.out.cell 3).trans (show (celN x)[3]? = some (.int .i64 x.f) from rfl)
    have b4 := (HT4.out.cell 4).trans (show (celN x)[4]? = some (.int .i64 x.u) from rfl)
    go_wp2_with fail
    refine (CT.out _).mono ?_
    rintro e w5 ⟨rfl, hb5⟩
    have HB5 := Lib.hid (HB4.out.trans (hb5.mono HB4.out.size))
    have HS5 := Lib.hid (HS4.out.belowZ hb5)
    clear hb5 HB4 HS4 CT b0 b1 b2 b3 b4 HT4
    go_wp2_with fail
    refine (CN.out _ 3 HS5.out (by omega) (by omega)).mono ?_
    rintro e w6 ⟨r, hr0, hr1, rfl, hS6, g6⟩
    have HB6 := Lib.hid (below_srcZ HB5.out hBl g6)
    have HS6 := Lib.hid hS6
    clear hS6 g6 HB5 HS5 hr1
    by_cases h0 : r = 0
    · subst h0
      go_wp2_with fail
      refine (CD.out _ _ hz HS6.out).mono ?_
      rintro e w7 ⟨s, hs, rfl, hS7, g7⟩
      have HB7 := Lib.hid (below_srcZ HB6.out hBl g7)
      clear hS7 g7
      go_wp2_with fail
      go_ret
      exact ⟨s, rfl, by omega, HB7.out⟩
    · have d0 : (r == 0) = false := by rw [beq_eq_false_iff_ne]; exact h0
      go_wp2_with fail
      go_ret
      exact ⟨_, rfl, by omega, HB6.out⟩
end
end Go.Proofs.YthlilfdndpnbkaaGreatDoor
