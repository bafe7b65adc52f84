/-
  The contracts of NameText of both packages.
-/
import Derived.Test.YthlilfdndpnbkaaGreatDoorChk9
import Derived.Test.YthlilfdndpnbkaaGreatDoorSpanText
namespace Go.Proofs.YthlilfdndpnbkaaGreatDoor
set_option linter.unusedVariables false
open Go.RowKit

def slB : ByteArray := ⟨#[47]⟩
/-- The text of a name. -/
def ntB (x : Nm) : ByteArray := x.t ++ slB ++ x.l ++ slB ++ numB x.s ++ slB ++ spanB x.f x.u
def ntT (x : Nm) : ByteArray := if nmB x then ntB x else ByteArray.empty
def ntC (x : Nm) : Int := if nmB x then 0 else 1
theorem ntT_ok {x : Nm} (h : nmB x = true) : ntT x = ntB x := by unfold ntT; rw [if_pos h]
theorem ntT_no {x : Nm} (h : nmB x = false) : ntT x = ByteArray.empty := by unfold ntT; rw [if_neg (by simp [h])]
theorem ntC_ok {x : Nm} (h : nmB x = true) : ntC x = 0 := by unfold ntC; rw [if_pos h]
theorem ntC_no {x : Nm} (h : nmB x = false) : ntC x = 1 := by unfold ntC; rw [if_neg (by simp [h])]
theorem join4 (a b c d s : ByteArray) : (⟨(Lib.join ([a, b, c, d].map (·.data.toList)) s.data.toList).toArray⟩ : ByteArray) = a ++ s ++ b ++ s ++ c ++ s ++ d := by
  apply ByteArray.ext; apply Array.toList_inj.1; simp [Lib.join]
theorem join4_len (a b c d s : ByteArray) : (Lib.join ([a, b, c, d].map (·.data.toList)) s.data.toList).length = a.size + s.size + b.size + s.size + c.size + s.size + d.size := by
  have h := congrArg ByteArray.size (join4 a b c d s)
  simp only [ByteArray.size_append] at h
  rw [← h]; rfl
theorem list4_at {a b c d x : ByteArray} {W : World} {g : Nat} (h0 : W.cell? ⟨g, 0, none⟩ = some (.string a)) (h1 : W.cell? ⟨g, 1, none⟩ = some (.string b)) (h2 : W.cell? ⟨g, 2, none⟩ = some (.string c)) (h3 : W.cell? ⟨g, 3, none⟩ = some (.string d)) : ∀ (j : Nat), [a, b, c, d][j]? = some x → W.cell? ⟨g, 0 + j, none⟩ = some (.string x)
  | 0, h => by obtain rfl : a = x := by simpa using h
               exact h0
  | 1, h => by obtain rfl : b = x := by simpa using h
               exact h1
  | 2, h => by obtain rfl : c = x := by simpa using h
               exact h2
  | 3, h => by obtain rfl : d = x := by simpa using h
               exact h3
  | j + 4, h => by simp at h

set_option maxHeartbeats 2000000 in
set_option maxRecDepth 100000 in
theorem cNText_impl (x : Nm) (w : World) (ht : x.t.size ≤ 1048576) (hl : x.l.size ≤ 1048576) (hsh : w.ShapedOpen Tryz.prog) (her : Er4 w) (hgl : 10 < w.heap.size) (htab : Lib.TabIs Tryz.prog w "internal/strconv.uint64pow10" .u64 Lib.pow10Tab) :
    Calls Tryz.prog 8 #[nmA x] w fun e w' => e = .returned (.tuple #[.string (ntT x), .int .i64 (ntC x)]) ∧ Below w.heap.size w w' := by
  have hb0 := (Below.refl w.heap.size w).alloc (Nat.le_refl _) (.cells #[.string x.t, .string x.l, .int .i64 x.s, .int .i64 x.f, .int .i64 x.u] 27)
  have CI := Lib.hid (fun W (hW : Below w.heap.size w W) => cIsName_impl x W (by omega) (by unfold maxLen; omega) (shaped_below hsh hW) (her.below hW))
  have KB := Lib.hid (fun W hW => nm_box (w := w) (W := W) (x := x) (t := 27) hW)
  have HB := Lib.hid hb0
  have CT := Lib.hid (fun W (hW : Below w.heap.size w W) => cSpanText_impl x.f x.u W (Nat.lt_of_lt_of_le hgl hW.size) (tab_below hW pow_named hgl htab))
  have CF := Lib.hid (fun W (ho : okN x.s = true) (hW : Below w.heap.size w W) => cFormat x.s W ho (tab_below hW pow_named hgl htab))
  clear hb0 hsh her htab
  cases hv : nmB x
  · rw [ntT_no hv, ntC_no hv]
    rw [hv] at CI
    clear hv
    go_enter Tryz.func8, Tryz.ntmps8
    go_wp2_with fail
    refine (CI.out _ HB.out).mono ?_
    rintro e w1 ⟨rfl, g1⟩
    have t1 := bstep9 HB.out HB.out.size g1
    go_wp2_with fail
    go_ret2
    exact ⟨rfl, t1⟩
  obtain ⟨e1, e2, e3, e4, e5⟩ := nm_parts hv
  rw [ntT_ok hv, ntC_ok hv]
  rw [hv] at CI
  have hbd := spB_bd e5
  have ox : okN x.s = true := by unfold okN; rw [decide_eq_true (by omega), decide_eq_true (by omega)]; rfl
  have HF := Lib.hid (fun W hW => CF.out W ox hW)
  have HT : Hid (∀ W, Below w.heap.size w W → Calls Tryz.prog 43 #[.agg #[.int .i64 x.f, .int .i64 x.u]] W fun e w' => e = .returned (.tuple #[.string (spanB x.f x.u), .int .i64 0]) ∧ Below W.heap.size W w') := Lib.hid (by have h := CT.out; rw [spTV_ok e5] at h; exact h)
  have ls := numB_len x.s
  have lf := numB_len x.f
  have lu := numB_len x.u
  have lsp : (spanB x.f x.u).size ≤ 6006 := by unfold spanB; rw [ByteArray.size_append, ByteArray.size_append]; have : (⟨#[46, 46]⟩ : ByteArray).size = 2 := rfl; omega
  have HJL : Hid ((Lib.join ([x.t, x.l, numB x.s, spanB x.f x.u].map (·.data.toList)) slB.data.toList).length ≤ 140737488355328) := Lib.hid (by rw [join4_len]; have : slB.size = 1 := rfl; omega)
  have HR : Hid ((⟨(Lib.join ([x.t, x.l, numB x.s, spanB x.f x.u].map (·.data.toList)) slB.data.toList).toArray⟩ : ByteArray) = ntB x) := Lib.hid (join4 _ _ _ _ _)
  generalize hns : numB x.s = ns at *
  generalize hnp : spanB x.f x.u = np at *
  have CJ := Lib.hid (fun W (g : Nat) (h0 : W.cell? ⟨g, 0, none⟩ = some (.string x.t)) (h1 : W.cell? ⟨g, 1, none⟩ = some (.string x.l)) (h2 : W.cell? ⟨g, 2, none⟩ = some (.string ns)) (h3 : W.cell? ⟨g, 3, none⟩ = some (.string np)) => Tryz.strings_Join g 0 4 [x.t, x.l, ns, np] slB W (fun j y hy => list4_at h0 h1 h2 h3 j hy) (World.block_lt_of_cell? W _ h0) (by simp) (by simp) HJL.out)
  clear hv e1 e2 e3 e4 e5 hbd ox CF CT ls lf lu lsp hns hnp
  go_enter Tryz.func8, Tryz.ntmps8
  go_wp2_with fail
  refine (CI.out _ HB.out).mono ?_
  rintro e w1 ⟨rfl, g1⟩
  have t1 := bstep9 HB.out HB.out.size g1
  obtain ⟨k0, k1, k2, k3, k4⟩ := KB.out w1 g1
  go_wp2_with fail
  refine (HT.out _ t1).mono ?_
  rintro e w2 ⟨rfl, g2⟩
  have t2 := bstep9 t1 t1.size g2
  have b2 := bstep9 g1 g1.size g2
  clear k0 k1 k2 k3 k4 g1 g2 t1
  obtain ⟨k0, k1, k2, k3, k4⟩ := KB.out w2 b2
  go_wp2_with fail
  refine (HF.out _ t2).mono ?_
  rintro e w3 ⟨rfl, g3⟩
  have t3 := bstep9 t2 t2.size g3
  have b3 := bstep9 b2 b2.size g3
  clear k0 k1 k2 k3 k4 b2 g3 t2
  obtain ⟨k0, k1, k2, k3, k4⟩ := KB.out w3 b3
  have t4 := t3.alloc t3.size (.cells #[.string x.t, .string x.l, .string ns, .string np] 9)
  go_wp2_with fail
  refine (CJ.out _ w3.heap.size (World.cell?_alloc_at _ _ _ _ rfl) (World.cell?_alloc_at _ _ _ _ rfl) (World.cell?_alloc_at _ _ _ _ rfl) (World.cell?_alloc_at _ _ _ _ rfl)).mono ?_
  rintro e w5 ⟨rfl, g5⟩
  rw [HR.out]
  have t5 := bstep9 t4 t4.size g5
  go_wp2_with fail
  go_ret2
  exact ⟨rfl, t5⟩

set_option maxHeartbeats 2000000 in
set_option maxRecDepth 100000 in
theorem cL09Text (x : Nm) (w : World) (ht : x.t.size ≤ 1048576) (hl : x.l.size ≤ 1048576) (hv : nmB x = true) :
    Calls Tryz.prog 47 #[nmA x] w fun e w' => e = .returned (.string (ntB x)) ∧ Below w.heap.size w w' := by
  obtain ⟨e1, e2, e3, e4, e5⟩ := nm_parts hv
  have hbd := spB_bd e5
  have CD := cDec 2 x.s.toNat
  rw [show ((x.s.toNat : Nat) : Int) = x.s by omega, ← numB_pos x.s (by omega)] at CD
  have HD := Lib.hid (fun W => CD W (by omega) (by omega))
  have HT := Lib.hid (fun W => cText2 x.f x.u W (by omega) (by omega))
  have ls := numB_len x.s
  have lf := numB_len x.f
  have lu := numB_len x.u
  have lns : (numB x.s).size ≤ 4 := by omega
  have lsp : (spanB x.f x.u).size ≤ 6006 := by unfold spanB; rw [ByteArray.size_append, ByteArray.size_append]; have : (⟨#[46, 46]⟩ : ByteArray).size = 2 := rfl; omega
  have HR : Hid (x.t ++ slB ++ x.l ++ slB ++ numB x.s ++ slB ++ spanB x.f x.u = ntB x) := Lib.hid rfl
  have hb0 := (Below.refl w.heap.size w).alloc (Nat.le_refl _) (.cells #[.string x.t, .string x.l, .int .i64 x.s, .int .i64 x.f, .int .i64 x.u] 27)
  have KB := Lib.hid (fun W hW => nm_box (w := w) (W := W) (x := x) (t := 27) hW)
  have HB := Lib.hid hb0
  generalize hns : numB x.s = ns at *
  generalize hnp : spanB x.f x.u = np at *
  clear hv e1 e2 e3 e4 e5 hbd CD ls lf lu hns hnp hb0
  go_enter Tryz.func47, Tryz.ntmps47
  go_wp2_with fail
  obtain ⟨T, f, t0, hT, ht0, hf, hback⟩ := class_of (w.alloc (.cells #[.string x.t, .string x.l, .int .i64 x.s, .int .i64 x.f, .int .i64 x.u] 27))
  have k0 : ∀ t, (f t).cell? ⟨w.heap.size, 0, none⟩ = some (.string x.t) := fun t => (KB.out _ (hf t)).1
  have k1 : ∀ t, (f t).cell? ⟨w.heap.size, 1, none⟩ = some (.string x.l) := fun t => (KB.out _ (hf t)).2.1
  have k2 : ∀ t, (f t).cell? ⟨w.heap.size, 2, none⟩ = some (.int .i64 x.s) := fun t => (KB.out _ (hf t)).2.2.1
  have k3 : ∀ t, (f t).cell? ⟨w.heap.size, 3, none⟩ = some (.int .i64 x.f) := fun t => (KB.out _ (hf t)).2.2.2.1
  have k4 : ∀ t, (f t).cell? ⟨w.heap.size, 4, none⟩ = some (.int .i64 x.u) := fun t => (KB.out _ (hf t)).2.2.2.2
  have HF := Lib.hid hf
  have HK := Lib.hid hback
  clear hf hback
  refine wp_region_class f t0 ht0 (by kernel_rfl) (by kernel_rfl) ?_
  clear ht0
  repeat (go_big_quiet_step (first | (go_at_call 94; exact Calls.class_of HF.out HK.out (HD.out _)) | (go_at_call 95; exact Calls.class_of HF.out HK.out (HT.out _))))
  refine wpQuiet_nil ?_
  rintro w' ⟨t, rfl⟩
  go_wp2
  go_ret
  exact ⟨by rw [← HR.out]; rfl, bstep9 HB.out HB.out.size (HF.out t)⟩
theorem cNText_spec (x : Nm) (w : World) (ht : x.t.size ≤ 1048576) (hl : x.l.size ≤ 1048576) :
    Calls Tryz.prog 9 #[nmA x] w fun e w' => e = .returned (.tuple #[.string (ntT x), .int .i64 (ntC x)]) ∧ Below w.heap.size w w' := by
  have hb0 := (Below.refl w.heap.size w).alloc (Nat.le_refl _) (.cells #[.string x.t, .string x.l, .int .i64 x.s, .int .i64 x.f, .int .i64 x.u] 27)
  have CI := Lib.hid (fun W => cIsName_spec x W (by omega) (by unfold maxLen; omega))
  have CT := Lib.hid (fun W (h : nmB x = true) => cL09Text x W ht hl h)
  have KB := Lib.hid (fun W hW => nm_box (w := w) (W := W) (x := x) (t := 27) hW)
  have HB := Lib.hid hb0
  clear hb0
  cases hv : nmB x
  · rw [ntT_no hv, ntC_no hv]
    rw [hv] at CI
    clear hv
    go_enter Tryz.func9, Tryz.ntmps9
    go_wp2_with fail
    refine (CI.out _).mono ?_
    rintro e w1 ⟨rfl, g1⟩
    have t1 := bstep9 HB.out HB.out.size g1
    go_wp2_with fail
    go_ret2
    exact ⟨rfl, t1⟩
  have CX := Lib.hid (fun W => CT.out W hv)
  rw [ntT_ok hv, ntC_ok hv]
  rw [hv] at CI
  clear hv CT
  go_enter Tryz.func9, Tryz.ntmps9
  go_wp2_with fail
  refine (CI.out _).mono ?_
  rintro e w1 ⟨rfl, g1⟩
  have t1 := bstep9 HB.out HB.out.size g1
  obtain ⟨k0, k1, k2, k3, k4⟩ := KB.out w1 g1
  go_wp2_with fail
  refine (CX.out _).mono ?_
  rintro e w2 ⟨rfl, g2⟩
  have t2 := bstep9 t1 t1.size g2
  go_wp2_with fail
  go_ret2
  exact ⟨rfl, t2⟩
end Go.Proofs.YthlilfdndpnbkaaGreatDoor
