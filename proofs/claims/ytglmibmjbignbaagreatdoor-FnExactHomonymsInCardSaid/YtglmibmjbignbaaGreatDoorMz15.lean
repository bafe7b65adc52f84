/-
  The contracts of HasYear of both packages.
-/
import Derived.Test.YtglmibmjbignbaaGreatDoorMz14
import Derived.Test.YtglmibmjbignbaaGreatDoorMz6
import Derived.Laws.StructEq
import Derived.Test.YtglmibmjbignbaaGreatDoorMz13
import Derived.Test.YtglmibmjbignbaaGreatDoorMz11
namespace Go.Proofs.YtglmibmjbignbaaGreatDoor
section
set_option linter.unusedVariables false
open Go.RowKit

def inB (x y z : Int) : Bool := decide (x ≤ z) && decide (z ≤ y)
def hasB (xs : List Spn) (z : Int) : Bool := xs.any fun p => inB p.1 p.2 z
theorem hasB_step {xs : List Spn} {k : Nat} {p : Spn} {z : Int} (h : xs[k]? = some p) (ha : hasB (xs.take k) z = false) (hc : inB p.1 p.2 z = false) : hasB (xs.take (k + 1)) z = false := by
  have hl := (List.getElem?_eq_some_iff.1 h).1
  have he : xs[k] = p := (List.getElem?_eq_some_iff.1 h).2
  rw [List.take_succ_eq_append_getElem hl, he]; unfold hasB at *; rw [List.any_append, ha]; simp [hc]
theorem hasB_hit {xs : List Spn} {k : Nat} {p : Spn} {z : Int} (h : xs[k]? = some p) (hc : inB p.1 p.2 z = true) : hasB xs z = true := by
  unfold hasB; rw [List.any_eq_true]; exact ⟨p, List.mem_of_getElem? h, hc⟩
theorem inB_mem {xs : List Spn} {z : Int} : hasB xs z = true ↔ memS z xs := by
  unfold hasB memS inB; rw [List.any_eq_true]
  constructor
  · rintro ⟨p, hp, h⟩; simp at h; exact ⟨p, hp, h⟩
  · rintro ⟨p, hp, h⟩; exact ⟨p, hp, by simp; exact h⟩

theorem len2 {α : Type} {l : List α} (h : l.length = 2) : ∃ a b, l = [a, b] := by
  match l, h with
  | [a, b], _ => exact ⟨a, b, rfl⟩
theorem fields_span : ((Tryz.prog).fieldsOf 26).toList.map (fun f => (f.name == "_", f.type, f.offset)) = [(false, 2, 0), (false, 2, 1)] := by kernel_rfl
theorem under_span : (Tryz.prog).underlying 26 = some (.struct ((Tryz.prog).fieldsOf 26)) := by kernel_rfl
theorem stood_span : (Tryz.prog).stoodInHeld 26 = false := by kernel_rfl
theorem guard_span : (Tryz.prog).eqGuardType (Tryz.prog).depth 26 = false := by kernel_rfl
theorem run_eqSp (a b c d : Int) (W : World) : (binOp .eql 26 (.agg #[.int .i64 a, .int .i64 b]) (.agg #[.int .i64 c, .int .i64 d])).run Tryz.prog W = .ok (.bool (a == c && b == d)) W := by
  rw [run_eql_struct, run_equalIn_agg W 9999 _ _ _ under_span stood_span]
  obtain ⟨f0, f1, hf, h0, h1⟩ : ∃ f0 f1 : Field, ((Tryz.prog).fieldsOf 26).toList = [f0, f1] ∧ ((f0.name == "_") = false ∧ f0.type = 2 ∧ f0.offset = 0) ∧ (f1.name == "_") = false ∧ f1.type = 2 ∧ f1.offset = 1 := by
    have h := fields_span
    generalize ((Tryz.prog).fieldsOf 26).toList = l at h
    obtain ⟨f0, f1, rfl⟩ := len2 (by simpa using congrArg List.length h)
    simp only [List.map_cons, List.map_nil, List.cons.injEq, Prod.mk.injEq, and_true] at h
    exact ⟨f0, f1, rfl, h.1, h.2⟩
  obtain ⟨n0, t0, o0⟩ := h0
  obtain ⟨n1, t1, o1⟩ := h1
  rw [hf]
  have n0' : f0.name ≠ "_" := by simpa using n0
  have n1' : f1.name ≠ "_" := by simpa using n1
  have hi := Tryz.underlying2
  simp [Op.eqFields, n0', n1', t0, o0, t1, o1, go_sem, hi]
  by_cases h1 : a = c <;> by_cases h2 : b = d <;> simp [h1, h2]

theorem cHolds (x y z : Int) (w : World) :
    Calls Tryz.prog 124 #[.agg #[.int .i64 x, .int .i64 y], .agg #[.int .i64 z, .int .i64 z]] w fun e w' => e = .returned (.bool (inB x y z)) ∧ Below w.heap.size w w' := by
  have C1 := Lib.hid (fun W => cMeet x y z z W)
  obtain ⟨W0, hW0⟩ : ∃ W0 : World, W0 = (w.alloc (.cells #[.int .i64 x, .int .i64 y] 26)).alloc (.cells #[.int .i64 z, .int .i64 z] 26) := ⟨_, rfl⟩
  have B0 : Below w.heap.size w W0 := by rw [hW0]; exact ((Below.refl _ _).alloc (Nat.le_refl _) _).alloc (by simp) _
  have K1 : BoxAt W0 w.heap.size x y := by rw [hW0]; exact (BoxAt.new w x y _).alloc _
  have K2 : BoxAt W0 (w.heap.size + 1) z z := by rw [hW0]; have h := BoxAt.new (w.alloc (.cells #[.int .i64 x, .int .i64 y] 26)) z z 26; simpa using h
  have HW := Lib.hid hW0
  clear hW0
  go_enter Tryz.func124, Tryz.ntmps124
  go_wp2_with fail
  rw [← HW.out]
  clear HW
  obtain ⟨l1, a0, a1⟩ := K1
  obtain ⟨l2, b0, b1⟩ := K2
  obtain ⟨T, f, t0, hT, ht0, hf, hback⟩ := class_of W0
  have k0 : ∀ t, (f t).cell? ⟨w.heap.size, 0, none⟩ = some (.int .i64 x) := fun t => ((hf t).cell (p := ⟨w.heap.size, 0, none⟩) l1).trans a0
  have k1 : ∀ t, (f t).cell? ⟨w.heap.size, 1, none⟩ = some (.int .i64 y) := fun t => ((hf t).cell (p := ⟨w.heap.size, 1, none⟩) l1).trans a1
  have k2 : ∀ t, (f t).cell? ⟨w.heap.size + 1, 0, none⟩ = some (.int .i64 z) := fun t => ((hf t).cell (p := ⟨w.heap.size + 1, 0, none⟩) l2).trans b0
  have k3 : ∀ t, (f t).cell? ⟨w.heap.size + 1, 1, none⟩ = some (.int .i64 z) := fun t => ((hf t).cell (p := ⟨w.heap.size + 1, 1, none⟩) l2).trans b1
  have HF := Lib.hid hf
  have HK := Lib.hid hback
  clear hf hback
  refine wp_region_class f t0 ht0 (by kernel_rfl) (by kernel_rfl) ?_
  clear ht0
  have hEq := fun W => run_eqSp (max x z) (min y z) z z W
  have hGd := guard_span
  repeat (go_big_quiet_step (first | (go_at_call 125; exact Calls.class_of HF.out HK.out (C1.out _))))
  refine wpQuiet_nil ?_
  rintro w' ⟨t, rfl⟩
  have hbt := B0.trans ((HF.out t).mono B0.size)
  go_wp2
  go_ret
  refine ⟨ret_bool ?_, hbt⟩
  unfold inB
  rw [Bool.eq_iff_iff]
  simp
  omega

def hasV (xs : List Spn) (z : Int) : Value := if yearsB xs then .tuple #[.bool (hasB xs z), .int .i64 0] else .tuple #[.bool false, .int .i64 1]
theorem hasV_ok {xs : List Spn} {z : Int} (h : yearsB xs = true) : hasV xs z = .tuple #[.bool (hasB xs z), .int .i64 0] := by unfold hasV; rw [if_pos h]
theorem hasV_bad {xs : List Spn} {z : Int} (h : yearsB xs = false) : hasV xs z = .tuple #[.bool false, .int .i64 1] := by unfold hasV; rw [if_neg (by simp [h])]
theorem hasV_form (xs : List Spn) (z : Int) : ∃ (a : Bool) (c : Int), hasV xs z = .tuple #[.bool a, .int .i64 c] := by
  unfold hasV; split
  · exact ⟨_, _, rfl⟩
  · exact ⟨_, _, rfl⟩

end
section
set_option linter.unusedVariables false
open Go.RowKit

theorem cOffi (x : Nm) (l : ByteArray) (w : World) :
    Calls Tryz.prog 222 #[nmA x, .string l] w fun e w' => e = .returned (.bool (ofB l x)) ∧ Below w.heap.size w w' := by
  have hb0 := (Below.refl w.heap.size w).alloc (Nat.le_refl _) (.cells #[.string x.t, .string x.l, .int .i64 x.s, .int .i64 x.f, .int .i64 x.u] 100)
  have HX : Hid (ofB l x = (decide (x.s = 0) && decide (x.l = l))) := Lib.hid rfl
  by_cases hs : x.s = 0
  · have h0 : (x.s == 0) = true := by simp [hs]
    have h1 : (x.l.toList == l.toList) = decide (x.l = l) := toList_beq _ _
    have HS := Lib.hid hs
    clear hs
    go_enter Tryz.func222, Tryz.ntmps222
    go_wp2
    go_ret
    exact ⟨ret_bool (by rw [HX.out, decide_eq_true HS.out, Bool.true_and]), hb0⟩
  · have h0 : (x.s == 0) = false := by simp [hs]
    have HS := Lib.hid hs
    clear hs
    go_enter Tryz.func222, Tryz.ntmps222
    go_wp2
    go_ret
    exact ⟨ret_bool (by rw [HX.out, decide_eq_false HS.out, Bool.false_and]), hb0⟩
theorem cl_eq {x y : Nm} (hx : x.s = 0) : clB x y = (ofB x.l y && meetB x.f x.u y.f y.u) := by
  unfold clB ofB
  rw [decide_eq_true hx, Bool.true_and]
  congr 2
  rw [decide_eq_decide]
  exact eq_comm
theorem cl_no {x y : Nm} (hx : ¬ x.s = 0) : clB x y = false := by unfold clB; rw [decide_eq_false hx]; rfl

set_option maxHeartbeats 1000000 in
theorem cExcl (x y : Nm) (w : World) (h1 : spB x.f x.u = true) (h2 : spB y.f y.u = true) :
    Calls Tryz.prog 208 #[nmA x, nmA y] w fun e w' => e = .returned (.bool (clB x y)) ∧ Below w.heap.size w w' := by
  have CO := Lib.hid (fun W => cOffi y x.l W)
  have CM := Lib.hid (fun W => cMeet x.f x.u y.f y.u W)
  have CV := Lib.hid (fun W => cValid (max x.f y.f) (min x.u y.u) W)
  rw [meet_valid h1 h2] at CV
  obtain ⟨W0, hW0⟩ : ∃ W0 : World, W0 = (w.alloc (.cells #[.string x.t, .string x.l, .int .i64 x.s, .int .i64 x.f, .int .i64 x.u] 100)).alloc (.cells #[.string y.t, .string y.l, .int .i64 y.s, .int .i64 y.f, .int .i64 y.u] 100) := ⟨_, rfl⟩
  have B0 : Below w.heap.size w W0 := by rw [hW0]; exact ((Below.refl _ _).alloc (Nat.le_refl _) _).alloc (by simp) _
  have K1 : NmCell W0 w.heap.size 0 x := by rw [hW0]; exact (nm_new w x _).below ((Below.refl (w.heap.size + 1) _).alloc (by simp) _) (by simp)
  have K2 : NmCell W0 (w.heap.size + 1) 0 y := by rw [hW0]; have h := nm_new (w.alloc (.cells #[.string x.t, .string x.l, .int .i64 x.s, .int .i64 x.f, .int .i64 x.u] 100)) y 100; simpa using h
  have l1 : w.heap.size < W0.heap.size := by rw [hW0]; simp; omega
  have l2 : w.heap.size + 1 < W0.heap.size := by rw [hW0]; simp
  have HW := Lib.hid hW0
  have HK1 := Lib.hid K1
  have HK2 := Lib.hid K2
  clear hW0 K1 K2 h1 h2
  by_cases hs : x.s = 0
  · have HX := Lib.hid (cl_eq (y := y) hs)
    have h0 : (x.s == 0) = true := by simp [hs]
    clear hs
    obtain ⟨b, hb⟩ : ∃ b, b = ofB x.l y := ⟨_, rfl⟩
    rw [← hb] at CO HX
    clear hb
    have KC : Hid (∀ W, Below W0.heap.size W0 W → W.cell? ⟨w.heap.size, 1, none⟩ = some (.string x.l) ∧ W.cell? ⟨w.heap.size, 2, none⟩ = some (.int .i64 x.s) ∧ W.cell? ⟨w.heap.size, 3, none⟩ = some (.int .i64 x.f) ∧ W.cell? ⟨w.heap.size, 4, none⟩ = some (.int .i64 x.u) ∧ W.cell? ⟨w.heap.size + 1, 0, none⟩ = some (.string y.t) ∧ W.cell? ⟨w.heap.size + 1, 1, none⟩ = some (.string y.l) ∧ W.cell? ⟨w.heap.size + 1, 2, none⟩ = some (.int .i64 y.s) ∧ W.cell? ⟨w.heap.size + 1, 3, none⟩ = some (.int .i64 y.f) ∧ W.cell? ⟨w.heap.size + 1, 4, none⟩ = some (.int .i64 y.u)) := Lib.hid (fun W hW => by
      have a := HK1.out.below hW l1
      have b := HK2.out.below hW l2
      exact ⟨a.2.1, a.2.2.1, a.2.2.2.1, a.2.2.2.2, b.1, b.2.1, b.2.2.1, b.2.2.2.1, b.2.2.2.2⟩)
    obtain ⟨k1, k2, k3, k4, j0, j1, j2, j3, j4⟩ := KC.out W0 (Below.refl _ _)
    clear HK1 HK2
    go_enter Tryz.func208, Tryz.ntmps208
    go_wp2_with fail
    rw [← HW.out]
    clear HW
    refine (CO.out _).mono ?_
    rintro e w1 ⟨rfl, g1⟩
    clear k1 k2 k3 k4 j0 j1 j2 j3 j4
    have hbt := bstep9 B0 B0.size g1
    cases b
    · clear g1 KC
      go_wp2_with fail
      go_ret
      exact ⟨ret_bool (by rw [HX.out]; rfl), hbt⟩
    · obtain ⟨k1, k2, k3, k4, j0, j1, j2, j3, j4⟩ := KC.out w1 g1
      go_wp2_with fail
      refine (CM.out _).mono ?_
      rintro e w2 ⟨rfl, g2⟩
      have hbt2 := bstep9 hbt hbt.size g2
      clear k1 k2 k3 k4 j0 j1 j2 j3 j4 g1 hbt KC g2
      go_wp2_with fail
      refine (CV.out _).mono ?_
      rintro e w3 ⟨rfl, g3⟩
      have hbt3 := bstep9 hbt2 hbt2.size g3
      clear g3 hbt2
      go_wp2_with fail
      go_ret
      exact ⟨ret_bool (by rw [HX.out]; rfl), hbt3⟩
  · have HX := Lib.hid (cl_no (y := y) hs)
    have h0 : (x.s == 0) = false := by simp [hs]
    have c2 : W0.cell? ⟨w.heap.size, 2, none⟩ = some (.int .i64 x.s) := HK1.out.2.2.1
    clear hs HK1 HK2
    go_enter Tryz.func208, Tryz.ntmps208
    go_wp2_with fail
    all_goals
      go_ret
      exact ⟨ret_bool HX.out.symm, by have := HW.out; rw [← this]; exact B0⟩
end
section
set_option linter.unusedVariables false
open Go.RowKit

theorem any9_step {x y : Nm} {xs : List Nm} {k : Nat} (h : xs[k]? = some y) (ha : (xs.take k).any (clB x) = false) (hc : clB x y = false) : (xs.take (k + 1)).any (clB x) = false := by
  rw [take_snoc9 h, List.any_append, ha]; simp [hc]
theorem any9_hit {x y : Nm} {xs : List Nm} {k : Nat} (h : xs[k]? = some y) (hc : clB x y = true) : xs.any (clB x) = true := List.any_eq_true.2 ⟨y, List.mem_of_getElem? h, hc⟩
theorem any9_all {x : Nm} {xs : List Nm} {k : Nat} (hk : xs.length ≤ k) (ha : (xs.take k).any (clB x) = false) : xs.any (clB x) = false := by rwa [List.take_of_length_le hk] at ha
theorem any9_no {x : Nm} {xs : List Nm} (ha : xs.any (clB x) = false) : ∀ y ∈ xs, clB x y = false := fun y hy => by
  rw [List.any_eq_false] at ha; simpa using ha y hy
theorem any9_yes {x : Nm} {xs : List Nm} (ha : xs.any (clB x) = true) : ¬ ∀ y ∈ xs, clB x y = false := fun h => by
  obtain ⟨y, hy, hc⟩ := List.any_eq_true.1 ha; rw [h y hy] at hc; cases hc

def IdxX (x : Nm) (xs : List Nm) (w : World) (e : Ending) (w' : World) : Prop :=
  (∃ r : Int, e = .returned (.int .i64 r) ∧ ((xs.any (clB x) = true ∧ 0 ≤ r) ∨ (xs.any (clB x) = false ∧ r = -1))) ∧ Below w.heap.size w w'
set_option maxHeartbeats 1000000 in
set_option maxRecDepth 100000 in
theorem cIdxX (A : Option Addr) (n c : Nat) (x : Nm) (xs : List Nm) (w : World) (hb : n ≤ 1048576) (h1 : spB x.f x.u = true) (hx : ∀ y ∈ xs, spB y.f y.u = true) (h : NmAt w w.heap.size A n xs) :
    Calls Tryz.prog 221 #[.slice A n c, .func (.func 208) #[nmA x] #[]] w (IdxX x xs w) := by
  have C := Lib.hid (fun y W (hy : y ∈ xs) => cExcl x y W h1 (hx y hy))
  have HN := Lib.hid h.1
  have H := Lib.hid h
  clear h h1 hx
  go_enter Tryz.func221, Tryz.ntmps221
  go_wp2
  go_loopw [8] (fun i wr => ∃ k : Nat, k ≤ n ∧ i = .int .i64 k ∧ Hid ((xs.take k).any (clB x) = false) ∧ Below w.heap.size w wr) (fun i _ => n - (intOf i).toNat)
  case atStart => exact ⟨0, Nat.zero_le _, rfl, Lib.hid (by simp), Below.refl _ _⟩
  case round =>
    obtain ⟨k, hk, rfl, HA, hbw⟩ := hrel
    by_cases hlt : k < n
    · obtain ⟨y, hy⟩ : ∃ y, xs[k]? = some y := ⟨xs[k]'(by have := HN.out; omega), List.getElem?_eq_getElem _⟩
      obtain ⟨b, o, rfl, hbl, c0, c1, c2, c3, c4⟩ := (H.out.below hbw (Nat.le_refl _)).row hy
      have CC := Lib.hid (fun W => C.out y W (List.mem_of_getElem? hy))
      have HY := Lib.hid hy
      have u1 : (0 : Int) ≤ (k : Int) := Int.natCast_nonneg _
      have u2 : (k : Int) < (n : Int) := by omega
      clear hy
      cases hv : clB x y
      · rw [hv] at CC
        have HA2 := Lib.hid (any9_step HY.out HA.out hv)
        clear hv
        go_wp2_with fail
        refine (CC.out _).mono ?_
        rintro e w1 ⟨rfl, g1⟩
        have hbt := bstep9 hbw hbw.size g1
        clear g1 c0 c1 c2 c3 c4
        go_wp2_with fail
        go_roundw
        case rel => exact ⟨k + 1, by omega, by go_num, HA2, hbt⟩
        case measure => simp [intOf]; omega
      · rw [hv] at CC
        have HA2 := Lib.hid (any9_hit HY.out hv)
        clear hv
        go_wp2_with fail
        refine (CC.out _).mono ?_
        rintro e w1 ⟨rfl, g1⟩
        have hbt := bstep9 hbw hbw.size g1
        clear g1 c0 c1 c2 c3 c4
        go_wp2_with fail
        go_ret
        exact ⟨⟨_, rfl, .inl ⟨HA2.out, by omega⟩⟩, hbt⟩
    · have HA2 := Lib.hid (any9_all (x := x) (xs := xs) (k := k) (by have := HN.out; omega) HA.out)
      go_wp2
      go_ret
      exact ⟨⟨_, rfl, .inr ⟨HA2.out, rfl⟩⟩, hbw⟩
theorem cContX (A : Option Addr) (n c : Nat) (x : Nm) (xs : List Nm) (w : World) (hb : n ≤ 1048576) (h1 : spB x.f x.u = true) (hx : ∀ y ∈ xs, spB y.f y.u = true) (h : NmAt w w.heap.size A n xs) :
    Calls Tryz.prog 207 #[.slice A n c, .func (.func 208) #[nmA x] #[]] w fun e w' => e = .returned (.bool (xs.any (clB x))) ∧ Below w.heap.size w w' := by
  have C := Lib.hid (cIdxX A n c x xs w hb h1 hx h)
  clear h h1 hx
  go_enter Tryz.func207, Tryz.ntmps207
  go_wp2_with fail
  refine C.out.mono ?_
  rintro e w' ⟨⟨r, rfl, hc⟩, hb1⟩
  rcases hc with ⟨ha, hr⟩ | ⟨ha, rfl⟩
  · have HA := Lib.hid ha
    clear ha
    go_wp2_with fail
    go_ret
    exact ⟨ret_bool HA.out.symm, hb1⟩
  · have HA := Lib.hid ha
    clear ha
    go_wp2_with fail
    go_ret
    exact ⟨ret_bool HA.out.symm, hb1⟩

theorem nm_sp {x : Nm} (h : nmB x = true) : spB x.f x.u = true := (nm_parts h).2.2.2.2
theorem good9_sp {xs : List Nm} (h : Good xs) : ∀ y ∈ xs, spB y.f y.u = true := fun y hy => by
  obtain ⟨k, hk⟩ := List.mem_iff_getElem?.1 hy
  exact nm_sp (h k y hk).1
def Sz9 (xs : List Nm) : Prop := ∀ e ∈ xs, e.t.size ≤ 1048576 ∧ e.l.size ≤ 1048576

set_option maxHeartbeats 2000000 in
set_option maxRecDepth 100000 in
theorem cChkNames (A : Option Addr) (n c : Nat) (xs : List Nm) (w : World) (hb : n ≤ 1048576) (hz : Sz9 xs) (h : NmAt w w.heap.size A n xs) (hcap : n ≤ c) (hsh : w.ShapedOpen Tryz.prog) (her : Er6 w) :
    Calls Tryz.prog 188 #[.slice A n c] w (ChkOut (namesB xs) w) := by
  have HN := Lib.hid h.1
  have H := Lib.hid h
  have HE := Lib.hid (fun W (hW : Below w.heap.size w W) => her.below hW)
  have CC := Lib.hid (fun (x : Nm) (hx : x ∈ xs) W (hW : Below w.heap.size w W) => cCheck x W (by have := (hz x hx).1; omega) (by have := (hz x hx).2; unfold maxLen; omega) (shaped_below hsh hW) (her.below hW).e)
  clear h hsh her hz
  by_cases hlen : 12 < n
  · obtain ⟨v, hv⟩ := (HE.out w (Below.refl _ _)).m
    have HX := Lib.hid (names_long (xs := xs) (by have := HN.out; omega))
    have hd : decide ((12 : Int) < (n : Int)) = true := decide_eq_true (by omega)
    go_enter Tryz.func188, Tryz.ntmps188
    go_wp2_with fail
    go_ret
    exact ⟨⟨_, rfl, .inr ⟨HX.out, _, rfl⟩⟩, Below.refl _ _⟩
  have hd : decide ((12 : Int) < (n : Int)) = false := decide_eq_false (by omega)
  have HCAP := Lib.hid hcap
  clear hcap
  go_enter Tryz.func188, Tryz.ntmps188
  go_wp2_with fail
  go_loopw [12] (fun i wr => ∃ k : Nat, k ≤ n ∧ i = .int .i64 k ∧ Hid (Good (xs.take k)) ∧ Below w.heap.size w wr) (fun i _ => n - (intOf i).toNat)
  case atStart => exact ⟨0, Nat.zero_le _, rfl, Lib.hid (good9_zero xs), Below.refl _ _⟩
  case round =>
    obtain ⟨k, hk, rfl, HG, hbw⟩ := hrel
    by_cases hlt : k < n
    · obtain ⟨x, hx⟩ : ∃ x, xs[k]? = some x := ⟨xs[k]'(by have := HN.out; omega), List.getElem?_eq_getElem _⟩
      have HR := (H.out.below hbw (Nat.le_refl _)).row hx
      have HX := Lib.hid hx
      have u1 : (0 : Int) ≤ (k : Int) := Int.natCast_nonneg _
      have u2 : (k : Int) < (n : Int) := by omega
      have u3 : (k : Int) ≤ (c : Int) := by have := HCAP.out; omega
      have CX := Lib.hid (fun W hW => CC.out x (List.mem_of_getElem? hx) W hW)
      have KB := Lib.hid (fun W hW => nm_box (w := wr) (W := W) (x := x) (t := 100) hW)
      have hbo := hbw.alloc hbw.size (.cells #[.string x.t, .string x.l, .int .i64 x.s, .int .i64 x.f, .int .i64 x.u] 100)
      obtain ⟨b, o, rfl, hbl, c0, c1, c2, c3, c4⟩ := HR
      have HBO := Lib.hid hbo
      clear hx hbo
      go_wp2_with fail
      refine (CX.out _ HBO.out).mono ?_
      rintro e w1 ⟨⟨v, rfl, hv⟩, g1⟩
      have hbt := bstep9 HBO.out HBO.out.size g1
      obtain ⟨k0, k1, k2, k3, k4⟩ := KB.out w1 g1
      rcases hv with ⟨hnb, rfl⟩ | ⟨hnb, u, rfl⟩
      · have HNB := Lib.hid hnb
        have HBT := Lib.hid hbt
        have l1 : wr.heap.size < w1.heap.size := by have := g1.size; simp at this; omega
        have CY := Lib.hid (fun W (hW : Below w1.heap.size w1 W) => cContX (some ⟨b, o, none⟩) k c x (xs.take k) W (by omega) (nm_sp hnb) (good9_sp HG.out) (((H.out.below (bstep9 hbt hbt.size hW) (Nat.le_refl _)).more (bstep9 hbt hbt.size hW).size).pre (by omega)))
        clear hnb hbt c0 c1 c2 c3 c4 g1 KB CX
        go_wp2_with fail
        obtain ⟨T, f, t0, hT, ht0, hf, hback⟩ := class_of w1
        have j0 : ∀ t, (f t).cell? ⟨wr.heap.size, 0, none⟩ = some (.string x.t) := fun t => ((hf t).cell (p := ⟨wr.heap.size, 0, none⟩) l1).trans k0
        have j1 : ∀ t, (f t).cell? ⟨wr.heap.size, 1, none⟩ = some (.string x.l) := fun t => ((hf t).cell (p := ⟨wr.heap.size, 1, none⟩) l1).trans k1
        have j2 : ∀ t, (f t).cell? ⟨wr.heap.size, 2, none⟩ = some (.int .i64 x.s) := fun t => ((hf t).cell (p := ⟨wr.heap.size, 2, none⟩) l1).trans k2
        have j3 : ∀ t, (f t).cell? ⟨wr.heap.size, 3, none⟩ = some (.int .i64 x.f) := fun t => ((hf t).cell (p := ⟨wr.heap.size, 3, none⟩) l1).trans k3
        have j4 : ∀ t, (f t).cell? ⟨wr.heap.size, 4, none⟩ = some (.int .i64 x.u) := fun t => ((hf t).cell (p := ⟨wr.heap.size, 4, none⟩) l1).trans k4
        clear k0 k1 k2 k3 k4
        have HF := Lib.hid hf
        have HK := Lib.hid hback
        clear hf hback
        refine wp_region_class f t0 ht0 (by kernel_rfl) (by kernel_rfl) ?_
        clear ht0
        repeat (go_big_quiet_step (first | (go_at_call 207; exact Calls.class_of HF.out HK.out (CY.out _ (HF.out _)))))
        refine wpQuiet_nil ?_
        rintro w' ⟨t, rfl⟩
        have hbt2 := bstep9 HBT.out HBT.out.size (HF.out t)
        obtain ⟨q, hq⟩ : ∃ q, q = (xs.take k).any (clB x) := ⟨_, rfl⟩
        rw [← hq]
        cases q
        · have HG2 := Lib.hid (good9_step HX.out HG.out HNB.out (any9_no hq.symm))
          clear hq
          go_wp2_with fail
          go_roundw
          case rel => exact ⟨k + 1, by omega, by go_num, HG2, hbt2⟩
          case measure => simp [intOf]; omega
        · have HG2 := Lib.hid (names_no (good9_any HX.out (any9_yes hq.symm)))
          obtain ⟨v, hv⟩ := (HE.out _ hbt2).n
          clear hq
          go_wp2_with fail
          go_ret
          exact ⟨⟨_, rfl, .inr ⟨HG2.out, _, rfl⟩⟩, hbt2⟩
      · have HG2 := Lib.hid (names_no (good9_bad HX.out hnb))
        clear hnb c0 c1 c2 c3 c4 k0 k1 k2 k3 k4 g1
        go_wp2_with fail
        go_ret
        exact ⟨⟨_, rfl, .inr ⟨HG2.out, _, rfl⟩⟩, hbt⟩
    · have HG2 := Lib.hid (names_yes (xs := xs) (by have := HN.out; omega) (good9_end (k := k) (by have := HN.out; omega) HG.out))
      go_wp2_with fail
      go_ret
      exact ⟨⟨_, rfl, .inl ⟨HG2.out, rfl⟩⟩, hbw⟩
theorem cAreN_impl (A : Option Addr) (n c : Nat) (xs : List Nm) (w : World) (hb : n ≤ 1048576) (hz : Sz9 xs) (h : NmAt w w.heap.size A n xs) (hcap : n ≤ c) (hsh : w.ShapedOpen Tryz.prog) (her : Er6 w) :
    Calls Tryz.prog 169 #[.slice A n c] w fun e w' => e = .returned (.bool (namesB xs)) ∧ Below w.heap.size w w' := by
  have CC := Lib.hid (cChkNames A n c xs w hb hz h hcap hsh her)
  clear h hsh her hz
  obtain ⟨b, hb⟩ : ∃ b, b = namesB xs := ⟨_, rfl⟩
  rw [← hb] at CC ⊢
  clear hb
  go_enter Tryz.func169, Tryz.ntmps169
  go_wp2_with fail
  refine CC.out.mono ?_
  rintro e w1 ⟨⟨v, rfl, hv⟩, hbt⟩
  rcases hv with ⟨rfl, rfl⟩ | ⟨rfl, u, rfl⟩
  · go_wp2_with fail
    go_ret
    exact ⟨rfl, hbt⟩
  · go_wp2_with fail
    go_ret
    exact ⟨rfl, hbt⟩
end
end Go.Proofs.YtglmibmjbignbaaGreatDoor
