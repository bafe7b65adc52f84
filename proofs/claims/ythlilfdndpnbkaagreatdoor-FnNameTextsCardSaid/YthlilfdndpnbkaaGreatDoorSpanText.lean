/-
  The contracts of spec.l02Text, spec.SpanText and impl.SpanText.
-/
import Derived.Test.YthlilfdndpnbkaaGreatDoorMg11
import Derived.Test.YthlilfdndpnbkaaGreatDoorMg5
namespace Go.Proofs.YthlilfdndpnbkaaGreatDoor
set_option linter.unusedVariables false
open Go.RowKit

def spanB (x y : Int) : ByteArray := numB x ++ ⟨#[46, 46]⟩ ++ numB y
def spTV (x y : Int) : Value := if spB x y then .tuple #[.string (spanB x y), .int .i64 0] else .tuple #[.string ByteArray.empty, .int .i64 1]
theorem spTV_ok {x y : Int} (h : spB x y = true) : spTV x y = .tuple #[.string (spanB x y), .int .i64 0] := by unfold spTV; rw [if_pos h]
theorem spTV_no {x y : Int} (h : spB x y = false) : spTV x y = .tuple #[.string ByteArray.empty, .int .i64 1] := by unfold spTV; rw [if_neg (by simp [h])]

set_option maxHeartbeats 1000000 in
set_option maxRecDepth 100000 in
theorem cText2 (x y : Int) (w : World) (hx : -3000 ≤ x ∧ x ≤ 3000) (hy : -3000 ≤ y ∧ y ≤ 3000) :
    Calls Tryz.prog 95 #[.agg #[.int .i64 x, .int .i64 y]] w fun e w' => e = .returned (.string (spanB x y)) ∧ Below w.heap.size w w' := by
  obtain ⟨hx1, hx2⟩ := hx
  obtain ⟨hy1, hy2⟩ := hy
  have lx : (numB x).size ≤ 3002 := by have := numB_len x; omega
  have ly : (numB y).size ≤ 3002 := by have := numB_len y; omega
  have HR : Hid (numB x ++ ⟨#[46, 46]⟩ ++ numB y = spanB x y) := Lib.hid rfl
  have hb0 : Below w.heap.size w (w.alloc (.cells #[.int .i64 x, .int .i64 y] 25)) := (Below.refl _ _).alloc (Nat.le_refl _) _
  have n0 : (w.alloc (.cells #[.int .i64 x, .int .i64 y] 25)).cell? ⟨w.heap.size, 0, none⟩ = some (.int .i64 x) := World.cell?_alloc_at _ _ _ _ rfl
  have n1 : (w.alloc (.cells #[.int .i64 x, .int .i64 y] 25)).cell? ⟨w.heap.size, 1, none⟩ = some (.int .i64 y) := World.cell?_alloc_at _ _ _ _ rfl
  have q0 : w.heap.size < (w.alloc (.cells #[.int .i64 x, .int .i64 y] 25)).heap.size := by simp
  go_enter Tryz.func95, Tryz.ntmps95
  go_wp2_with fail
  obtain ⟨T, f, t0, hT, ht0, hf, hback⟩ := class_of (w.alloc (.cells #[.int .i64 x, .int .i64 y] 25))
  have k0 : ∀ t, (f t).cell? ⟨w.heap.size, 0, none⟩ = some (.int .i64 x) := fun t => ((hf t).cell (p := ⟨w.heap.size, 0, none⟩) q0).trans n0
  have k1 : ∀ t, (f t).cell? ⟨w.heap.size, 1, none⟩ = some (.int .i64 y) := fun t => ((hf t).cell (p := ⟨w.heap.size, 1, none⟩) q0).trans n1
  have HF := Lib.hid hf
  have HK := Lib.hid hback
  clear hf hback
  refine wp_region_class f t0 ht0 (by kernel_rfl) (by kernel_rfl) ?_
  clear ht0
  repeat (go_big_quiet_step (first | (go_at_call 131; exact Calls.class_of HF.out HK.out (cNumber _ _ (by omega) (by omega)))))
  refine wpQuiet_nil ?_
  rintro w' ⟨t, rfl⟩
  go_wp2
  go_ret
  exact ⟨by rw [← HR.out]; rfl, hb0.trans ((HF.out t).mono hb0.size)⟩

set_option maxHeartbeats 1000000 in
set_option maxRecDepth 100000 in
theorem cSpanText_impl (x y : Int) (w : World) (hgl : 10 < w.heap.size) (htab : Lib.TabIs Tryz.prog w "internal/strconv.uint64pow10" .u64 Lib.pow10Tab) :
    Calls Tryz.prog 43 #[.agg #[.int .i64 x, .int .i64 y]] w fun e w' => e = .returned (spTV x y) ∧ Below w.heap.size w w' := by
  have CV := Lib.hid (cValid x y)
  have HT := Lib.hid htab
  clear htab
  have hb0 : Below w.heap.size w (w.alloc (.cells #[.int .i64 x, .int .i64 y] 25)) := (Below.refl _ _).alloc (Nat.le_refl _) _
  have n0 : (w.alloc (.cells #[.int .i64 x, .int .i64 y] 25)).cell? ⟨w.heap.size, 0, none⟩ = some (.int .i64 x) := World.cell?_alloc_at _ _ _ _ rfl
  have n1 : (w.alloc (.cells #[.int .i64 x, .int .i64 y] 25)).cell? ⟨w.heap.size, 1, none⟩ = some (.int .i64 y) := World.cell?_alloc_at _ _ _ _ rfl
  have q0 : w.heap.size < (w.alloc (.cells #[.int .i64 x, .int .i64 y] 25)).heap.size := by simp
  cases hv : spB x y
  · have HV := Lib.hid (spTV_no hv)
    rw [hv] at CV
    clear hv
    go_enter Tryz.func43, Tryz.ntmps43
    go_wp2_with fail
    refine (CV.out _).mono ?_
    rintro e w1 ⟨rfl, hb1⟩
    go_wp2_with fail
    go_ret2
    exact ⟨by rw [HV.out]; rfl, hb0.trans (hb1.mono hb0.size)⟩
  · have HV := Lib.hid (spTV_ok hv)
    have hbd := spB_bd hv
    have lx : (numB x).size ≤ 3002 := by have := numB_len x; omega
    have ly : (numB y).size ≤ 3002 := by have := numB_len y; omega
    have ox : okN x = true := by unfold okN; rw [decide_eq_true (by omega), decide_eq_true (by omega)]; rfl
    have oy : okN y = true := by unfold okN; rw [decide_eq_true (by omega), decide_eq_true (by omega)]; rfl
    have CX := Lib.hid (fun W (hW : Below w.heap.size w W) => cFormat x W ox (tab_below hW pow_named hgl HT.out))
    have CY := Lib.hid (fun W (hW : Below w.heap.size w W) => cFormat y W oy (tab_below hW pow_named hgl HT.out))
    have HR : Hid (numB x ++ ⟨#[46, 46]⟩ ++ numB y = spanB x y) := Lib.hid rfl
    rw [hv] at CV
    generalize hnx : numB x = nx at *
    generalize hny : numB y = ny at *
    clear hv hbd hnx hny ox oy
    go_enter Tryz.func43, Tryz.ntmps43
    go_wp2_with fail
    refine (CV.out _).mono ?_
    rintro e w1 ⟨rfl, hb1⟩
    have q1 := Nat.lt_of_lt_of_le q0 hb1.size
    have c0 : w1.cell? ⟨w.heap.size, 0, none⟩ = some (.int .i64 x) := (hb1.cell (p := ⟨w.heap.size, 0, none⟩) q0).trans n0
    have c1 : w1.cell? ⟨w.heap.size, 1, none⟩ = some (.int .i64 y) := (hb1.cell (p := ⟨w.heap.size, 1, none⟩) q0).trans n1
    have hb01 := hb0.trans (hb1.mono hb0.size)
    go_wp2_with fail
    obtain ⟨T, f, t0, hT, ht0, hf, hback⟩ := class_of w1
    have k0 : ∀ t, (f t).cell? ⟨w.heap.size, 0, none⟩ = some (.int .i64 x) := fun t => ((hf t).cell (p := ⟨w.heap.size, 0, none⟩) q1).trans c0
    have k1 : ∀ t, (f t).cell? ⟨w.heap.size, 1, none⟩ = some (.int .i64 y) := fun t => ((hf t).cell (p := ⟨w.heap.size, 1, none⟩) q1).trans c1
    have HG := Lib.hid (fun t => hb01.trans ((hf t).mono hb01.size))
    have HF := Lib.hid hf
    have HK := Lib.hid hback
    clear hf hback
    refine wp_region_class f t0 ht0 (by kernel_rfl) (by kernel_rfl) ?_
    clear ht0
    repeat (go_big_quiet_step (first | (go_at_call 44; first | exact Calls.class_of HF.out HK.out (CX.out _ (HG.out _)) | exact Calls.class_of HF.out HK.out (CY.out _ (HG.out _)))))
    refine wpQuiet_nil ?_
    rintro w' ⟨t, rfl⟩
    go_wp2
    go_ret2
    exact ⟨by rw [HV.out, ← HR.out]; rfl, HG.out t⟩
end Go.Proofs.YthlilfdndpnbkaaGreatDoor
