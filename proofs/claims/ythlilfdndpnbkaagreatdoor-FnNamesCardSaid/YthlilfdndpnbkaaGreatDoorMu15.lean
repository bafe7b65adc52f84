/-
  Texts of lists of numbers: what a walk needs ahead of the contracts.
-/
import Derived.Test.YthlilfdndpnbkaaGreatDoorMu14
import Derived.Test.YthlilfdndpnbkaaGreatDoorShelf
import Derived.WalkSmall
import Derived.Lib.LaidTab
import Derived.Test.YthlilfdndpnbkaaGreatDoorMu4
import Derived.Test.YthlilfdndpnbkaaGreatDoorMu11
namespace Go.Proofs.YthlilfdndpnbkaaGreatDoor
section
set_option linter.unusedVariables false
open Go.RowKit

def listB (xs : List Int) : ByteArray := comB (nums xs)
def listV (xs : List Int) : Value := if okAll xs then (if xs.length ≤ 60 then .tuple #[.string (listB xs), .int .i64 0] else .tuple #[.string ByteArray.empty, .int .i64 3]) else .tuple #[.string ByteArray.empty, .int .i64 2]
theorem listV_bad (xs : List Int) (h : okAll xs = false) : listV xs = .tuple #[.string ByteArray.empty, .int .i64 2] := by unfold listV; rw [if_neg (by simp [h])]
theorem listV_long (xs : List Int) (h : okAll xs = true) (hl : 60 < xs.length) : listV xs = .tuple #[.string ByteArray.empty, .int .i64 3] := by unfold listV; rw [if_pos h, if_neg (by omega)]
theorem listV_ok (xs : List Int) (h : okAll xs = true) (hl : xs.length ≤ 60) : listV xs = .tuple #[.string (listB xs), .int .i64 0] := by unfold listV; rw [if_pos h, if_pos hl]

theorem tab_below {P : Program} {B g : Nat} {W W' : World} {name : String} {k : IntKind} {zs : List Int} (h : Below B W W') (hg : P.globalNamed name = some g) (hgB : g < B) (hv : Lib.TabIs P W name k zs) : Lib.TabIs P W' name k zs :=
  var?_below h hg hgB hv
theorem pow_named : Tryz.prog.globalNamed "internal/strconv.uint64pow10" = some 10 := by kernel_rfl
theorem grow_below (w : World) (k : Nat) (os : Array Obj) : Below w.heap.size w (Sort.grow (w.drewN k) os) :=
  ⟨rfl, rfl, rfl, by show w.heap.size ≤ (w.heap ++ os).size; rw [Array.size_append]; omega, fun j hj => by show (w.heap ++ os)[j]? = w.heap[j]?; rw [Array.getElem?_append_left hj]⟩

/-- The first k numbers as texts, the rest empty. -/
def textV (xs : List Int) (n k : Nat) : List Value := strV (nums (xs.take k)) ++ List.replicate (n - k) (.string ByteArray.empty)
theorem textV_zero (xs : List Int) (n : Nat) : (madeCells #[Value.string ByteArray.empty] n).toList = textV xs n 0 := by
  apply List.ext_getElem?
  intro j
  by_cases h : j < n
  · simp [madeCells, textV, strV, nums, h, Nat.mod_one]
  · rw [List.getElem?_eq_none (by simp [madeCells]; omega), List.getElem?_eq_none (by simp [textV, strV, nums]; omega)]
theorem textV_step (xs : List Int) (n k : Nat) (x : Int) (hn : n = xs.length) (h : xs[k]? = some x) : (textV xs n k).set k (.string (numB x)) = textV xs n (k + 1) := by
  have hl := (List.getElem?_eq_some_iff.1 h).1
  unfold textV
  rw [nums_step xs k x h]
  unfold strV nums
  rw [List.set_append_right _ _ (by simp; omega), List.map_append, List.append_assoc]
  congr 1
  obtain ⟨d, hd⟩ : ∃ d, n - k = d + 1 := ⟨n - k - 1, by omega⟩
  rw [hd, show n - (k + 1) = d by omega, List.length_map, List.length_map, List.length_take, show k - min k xs.length = 0 by omega, List.replicate_succ, List.set_cons_zero]
  rfl
theorem textV_all (xs : List Int) (n : Nat) (hn : n = xs.length) : textV xs n n = strV (nums xs) := by
  unfold textV; rw [List.take_of_length_le (by omega), Nat.sub_self]; simp
theorem cFormat (n : Int) (w : World) (h : okN n = true) (htab : Lib.TabIs Tryz.prog w "internal/strconv.uint64pow10" .u64 Lib.pow10Tab) :
    Calls Tryz.prog 44 #[.int .i64 n, .int .i64 10] w fun e w' => e = .returned (.string (numB n)) ∧ Below w.heap.size w w' := by
  have hb := okN_bd n h
  refine (Tryz.strconv_FormatInt_10 n (by omega) (by omega) w htab).mono ?_
  rintro e w' ⟨he, k, os, hw⟩
  exact ⟨he, by rw [hw]; exact grow_below w k os⟩

end
section
set_option linter.unusedVariables false
open Go.RowKit

def jL (sp : UInt8) (l : List (List UInt8)) : List UInt8 := Lib.join l [sp]
def jB (sp : UInt8) (xs : List ByteArray) : ByteArray := ⟨(Lib.join (xs.map (·.data.toList)) (sepB sp).data.toList).toArray⟩
theorem jL_cons (sp : UInt8) (a b : List UInt8) (l : List (List UInt8)) : jL sp (a :: b :: l) = a ++ sp :: jL sp (b :: l) := by
  simp [jL, Lib.join, List.intercalate, List.intersperse]
theorem jL_one (sp : UInt8) (a : List UInt8) : jL sp [a] = a := by simp [jL, Lib.join, List.intercalate, List.intersperse]
theorem jL_snoc (sp : UInt8) : ∀ (a : List UInt8) (l : List (List UInt8)) (x : List UInt8), jL sp ((a :: l) ++ [x]) = jL sp (a :: l) ++ sp :: x
  | a, [], x => by rw [List.singleton_append, jL_cons sp, jL_one sp, jL_one sp]
  | a, b :: l, x => by
    rw [List.cons_append, List.cons_append, jL_cons sp, ← List.cons_append, jL_snoc sp b l x, jL_cons sp]; simp
theorem jB_data (sp : UInt8) (xs : List ByteArray) : (jB sp xs).data.toList = jL sp (xs.map (·.data.toList)) := by simp [jB, jL, sepB]
theorem jB_one (sp : UInt8) (x : ByteArray) : jB sp [x] = x := by
  apply ByteArray.ext; apply Array.toList_inj.1
  rw [jB_data sp]; exact jL_one sp _
theorem jB_snoc (sp : UInt8) (xs : List ByteArray) (x : ByteArray) (h : xs ≠ []) : jB sp (xs ++ [x]) = jB sp xs ++ ⟨#[sp]⟩ ++ x := by
  apply ByteArray.ext; apply Array.toList_inj.1
  rw [jB_data sp]
  cases xs with
  | nil => exact absurd rfl h
  | cons a l =>
    rw [List.map_append, List.map_cons, List.map_singleton, jL_snoc sp]
    simp [jB_data sp]
theorem j_step (sp : UInt8) (xs : List Int) (k : Nat) (x : Int) (hk : 0 < k) (h : xs[k]? = some x) : jB sp (nums (xs.take (k + 1))) = jB sp (nums (xs.take k)) ++ ⟨#[sp]⟩ ++ numB x := by
  have hl := (List.getElem?_eq_some_iff.1 h).1
  rw [nums_step xs k x h]
  exact jB_snoc sp _ _ (by intro e; have := congrArg List.length e; simp only [nums, List.length_map, List.length_take, List.length_nil] at this; omega)
theorem j_first (sp : UInt8) (xs : List Int) (x : Int) (h : xs[0]? = some x) : jB sp (nums (xs.take 1)) = ByteArray.empty ++ numB x := by
  rw [nums_step xs 0 x h, List.take_zero]
  show jB sp [numB x] = _
  rw [jB_one sp]
  apply ByteArray.ext; simp

theorem j_len (sp : UInt8) : ∀ (l : List (List UInt8)), (∀ y ∈ l, y.length ≤ 1000000000002) → (jL sp l).length ≤ l.length * 1000000000003
  | [], _ => by simp [jL, Lib.join, List.intercalate, List.intersperse]
  | [a], h => by rw [jL_one sp]; have := h a (by simp); simp; omega
  | a :: b :: l, h => by
    rw [jL_cons sp, List.length_append, List.length_cons]
    have h1 := h a (by simp)
    have h2 := j_len sp (b :: l) (fun y hy => h y (List.mem_cons_of_mem _ hy))
    simp only [List.length_cons] at h2 ⊢
    omega
theorem j_small (sp : UInt8) (xs : List Int) (h : okAll xs = true) (hn : xs.length ≤ 60) : (Lib.join ((nums xs).map (·.data.toList)) (sepB sp).data.toList).length ≤ 140737488355328 := by
  have h1 := j_len sp ((nums xs).map (·.data.toList)) (by
    intro y hy
    rw [List.mem_map] at hy
    obtain ⟨z, hz, rfl⟩ := hy
    unfold nums at hz
    rw [List.mem_map] at hz
    obtain ⟨v, hv, rfl⟩ := hz
    have h2 := numB_len v
    have h3 := size_list (numB v)
    have h4 := okAll_mem xs h v hv
    omega)
  have hl : ((nums xs).map (·.data.toList)).length = xs.length := by simp [nums]
  rw [hl] at h1
  have h2 : (Lib.join ((nums xs).map (·.data.toList)) (sepB sp).data.toList) = jL sp ((nums xs).map (·.data.toList)) := rfl
  rw [h2]; omega

end
section
set_option linter.unusedVariables false
open Go.RowKit

end
section
set_option linter.unusedVariables false
open Go.RowKit

def spanB (x y : Int) : ByteArray := numB x ++ ⟨#[46, 46]⟩ ++ numB y
def spTV (x y : Int) : Value := if spB x y then .tuple #[.string (spanB x y), .int .i64 0] else .tuple #[.string ByteArray.empty, .int .i64 1]
theorem spTV_ok {x y : Int} (h : spB x y = true) : spTV x y = .tuple #[.string (spanB x y), .int .i64 0] := by unfold spTV; rw [if_pos h]
theorem spTV_no {x y : Int} (h : spB x y = false) : spTV x y = .tuple #[.string ByteArray.empty, .int .i64 1] := by unfold spTV; rw [if_neg (by simp [h])]

set_option maxHeartbeats 1000000 in
set_option maxRecDepth 100000 in
theorem cText2 (x y : Int) (w : World) (hx : -3000 ≤ x ∧ x ≤ 3000) (hy : -3000 ≤ y ∧ y ≤ 3000) :
    Calls Tryz.prog 95 #[.agg #[.int .i64 x, .int .i64 y]] w fun e w' => e = .returned (.string (spanB x y)) ∧ Below w.heap.size w w' := by
  obtain ⟨hx1, hx2⟩ := hx
  obtain ⟨hy1, hy2⟩ := hy
  have lx : (numB x).size ≤ 3002 := by have := numB_len x; omega
  have ly : (numB y).size ≤ 3002 := by have := numB_len y; omega
  have HR : Hid (numB x ++ ⟨#[46, 46]⟩ ++ numB y = spanB x y) := Lib.hid rfl
  have hb0 : Below w.heap.size w (w.alloc (.cells #[.int .i64 x, .int .i64 y] 25)) := (Below.refl _ _).alloc (Nat.le_refl _) _
  have n0 : (w.alloc (.cells #[.int .i64 x, .int .i64 y] 25)).cell? ⟨w.heap.size, 0, none⟩ = some (.int .i64 x) := World.cell?_alloc_at _ _ _ _ rfl
  have n1 : (w.alloc (.cells #[.int .i64 x, .int .i64 y] 25)).cell? ⟨w.heap.size, 1, none⟩ = some (.int .i64 y) := World.cell?_alloc_at _ _ _ _ rfl
  have q0 : w.heap.size < (w.alloc (.cells #[.int .i64 x, .int .i64 y] 25)).heap.size := by simp
  go_enter Tryz.func95, Tryz.ntmps95
  go_wp2_with fail
  obtain ⟨T, f, t0, hT, ht0, hf, hback⟩ := class_of (w.alloc (.cells #[.int .i64 x, .int .i64 y] 25))
  have k0 : ∀ t, (f t).cell? ⟨w.heap.size, 0, none⟩ = some (.int .i64 x) := fun t => ((hf t).cell (p := ⟨w.heap.size, 0, none⟩) q0).trans n0
  have k1 : ∀ t, (f t).cell? ⟨w.heap.size, 1, none⟩ = some (.int .i64 y) := fun t => ((hf t).cell (p := ⟨w.heap.size, 1, none⟩) q0).trans n1
  have HF := Lib.hid hf
  have HK := Lib.hid hback
  clear hf hback
  refine wp_region_class f t0 ht0 (by kernel_rfl) (by kernel_rfl) ?_
  clear ht0
  repeat (go_big_quiet_step (first | (go_at_call 131; exact Calls.class_of HF.out HK.out (cNumber _ _ (by omega) (by omega)))))
  refine wpQuiet_nil ?_
  rintro w' ⟨t, rfl⟩
  go_wp2
  go_ret
  exact ⟨by rw [← HR.out]; rfl, hb0.trans ((HF.out t).mono hb0.size)⟩

set_option maxHeartbeats 1000000 in
set_option maxRecDepth 100000 in
theorem cSpanText_impl (x y : Int) (w : World) (hgl : 10 < w.heap.size) (htab : Lib.TabIs Tryz.prog w "internal/strconv.uint64pow10" .u64 Lib.pow10Tab) :
    Calls Tryz.prog 43 #[.agg #[.int .i64 x, .int .i64 y]] w fun e w' => e = .returned (spTV x y) ∧ Below w.heap.size w w' := by
  have CV := Lib.hid (cValid x y)
  have HT := Lib.hid htab
  clear htab
  have hb0 : Below w.heap.size w (w.alloc (.cells #[.int .i64 x, .int .i64 y] 25)) := (Below.refl _ _).alloc (Nat.le_refl _) _
  have n0 : (w.alloc (.cells #[.int .i64 x, .int .i64 y] 25)).cell? ⟨w.heap.size, 0, none⟩ = some (.int .i64 x) := World.cell?_alloc_at _ _ _ _ rfl
  have n1 : (w.alloc (.cells #[.int .i64 x, .int .i64 y] 25)).cell? ⟨w.heap.size, 1, none⟩ = some (.int .i64 y) := World.cell?_alloc_at _ _ _ _ rfl
  have q0 : w.heap.size < (w.alloc (.cells #[.int .i64 x, .int .i64 y] 25)).heap.size := by simp
  cases hv : spB x y
  · have HV := Lib.hid (spTV_no hv)
    rw [hv] at CV
    clear hv
    go_enter Tryz.func43, Tryz.ntmps43
    go_wp2_with fail
    refine (CV.out _).mono ?_
    rintro e w1 ⟨rfl, hb1⟩
    go_wp2_with fail
    go_ret2
    exact ⟨by rw [HV.out]; rfl, hb0.trans (hb1.mono hb0.size)⟩
  · have HV := Lib.hid (spTV_ok hv)
    have hbd := spB_bd hv
    have lx : (numB x).size ≤ 3002 := by have := numB_len x; omega
    have ly : (numB y).size ≤ 3002 := by have := numB_len y; omega
    have ox : okN x = true := by unfold okN; rw [decide_eq_true (by omega), decide_eq_true (by omega)]; rfl
    have oy : okN y = true := by unfold okN; rw [decide_eq_true (by omega), decide_eq_true (by omega)]; rfl
    have CX := Lib.hid (fun W (hW : Below w.heap.size w W) => cFormat x W ox (tab_below hW pow_named hgl HT.out))
    have CY := Lib.hid (fun W (hW : Below w.heap.size w W) => cFormat y W oy (tab_below hW pow_named hgl HT.out))
    have HR : Hid (numB x ++ ⟨#[46, 46]⟩ ++ numB y = spanB x y) := Lib.hid rfl
    rw [hv] at CV
    generalize hnx : numB x = nx at *
    generalize hny : numB y = ny at *
    clear hv hbd hnx hny ox oy
    go_enter Tryz.func43, Tryz.ntmps43
    go_wp2_with fail
    refine (CV.out _).mono ?_
    rintro e w1 ⟨rfl, hb1⟩
    have q1 := Nat.lt_of_lt_of_le q0 hb1.size
    have c0 : w1.cell? ⟨w.heap.size, 0, none⟩ = some (.int .i64 x) := (hb1.cell (p := ⟨w.heap.size, 0, none⟩) q0).trans n0
    have c1 : w1.cell? ⟨w.heap.size, 1, none⟩ = some (.int .i64 y) := (hb1.cell (p := ⟨w.heap.size, 1, none⟩) q0).trans n1
    have hb01 := hb0.trans (hb1.mono hb0.size)
    go_wp2_with fail
    obtain ⟨T, f, t0, hT, ht0, hf, hback⟩ := class_of w1
    have k0 : ∀ t, (f t).cell? ⟨w.heap.size, 0, none⟩ = some (.int .i64 x) := fun t => ((hf t).cell (p := ⟨w.heap.size, 0, none⟩) q1).trans c0
    have k1 : ∀ t, (f t).cell? ⟨w.heap.size, 1, none⟩ = some (.int .i64 y) := fun t => ((hf t).cell (p := ⟨w.heap.size, 1, none⟩) q1).trans c1
    have HG := Lib.hid (fun t => hb01.trans ((hf t).mono hb01.size))
    have HF := Lib.hid hf
    have HK := Lib.hid hback
    clear hf hback
    refine wp_region_class f t0 ht0 (by kernel_rfl) (by kernel_rfl) ?_
    clear ht0
    repeat (go_big_quiet_step (first | (go_at_call 44; first | exact Calls.class_of HF.out HK.out (CX.out _ (HG.out _)) | exact Calls.class_of HF.out HK.out (CY.out _ (HG.out _)))))
    refine wpQuiet_nil ?_
    rintro w' ⟨t, rfl⟩
    go_wp2
    go_ret2
    exact ⟨by rw [HV.out, ← HR.out]; rfl, HG.out t⟩
end
end Go.Proofs.YthlilfdndpnbkaaGreatDoor
