/-
  The contracts of IsKindOf, KindsOf, CommonKind and DistanceOf, of the program and of the reference.
-/
import Derived.Test.YtlogbgkbdjdkkaaTr10C
namespace Go.Proofs.Ytlogbgkbdjdkkaa
set_option linter.unusedVariables false
open Go.RowKit

theorem num_one10 (w : World) (a : Int) : NumAt (w.alloc (.cells #[.int .i64 a] 2)) (w.heap.size + 1) (some ⟨w.heap.size, 0, none⟩) 1 [a] := by
  refine ⟨rfl, fun _ => ⟨_, 0, rfl, by omega, fun j x hx => ?_⟩⟩
  rw [Nat.zero_add, World.cell?_alloc_at _ _ _ _ rfl]
  rcases j with _ | j
  · simp at hx; subst hx; rfl
  · simp at hx
theorem num_two10 (w : World) (a b : Int) : NumAt (w.alloc (.cells #[.int .i64 a, .int .i64 b] 2)) (w.heap.size + 1) (some ⟨w.heap.size, 0, none⟩) 2 [a, b] := by
  refine ⟨rfl, fun _ => ⟨_, 0, rfl, by omega, fun j x hx => ?_⟩⟩
  rw [Nat.zero_add, World.cell?_alloc_at _ _ _ _ rfl]
  rcases j with _ | _ | j
  · simp at hx; subst hx; rfl
  · simp at hx; subst hx; rfl
  · simp at hx
/-- A row of numbers of one's own and a code. -/
def Out10 (zs : List Int) (code : Int) (w : World) (e : Ending) (w' : World) : Prop :=
  ∃ A n c, e = .returned (.tuple #[.slice A n c, .int .i64 code]) ∧ w'.ownsRow w.heap.size 2 1 (.slice A n c) n (intV zs) ∧ Below w.heap.size w w'
theorem Out10.nil {w w' : World} {code : Int} {e : Ending} (he : e = .returned (.tuple #[.slice none 0 0, .int .i64 code])) (hb : Below w.heap.size w w') : Out10 [] code w e w' := ⟨none, 0, 0, he, World.ownsRow_nil _ _ _ _, hb⟩
theorem below_allocs {w : World} (o : Obj) : Below w.heap.size w (w.alloc o) := (Below.refl _ _).alloc (Nat.le_refl _) _
theorem below_thenA {a b c : World} (h : Below a.heap.size a b) (k : Below b.heap.size b c) : Below a.heap.size a c := h.trans (k.mono h.size)
/-- What a check of one class or of two says. -/
theorem cChk1 (A : Option Addr) (n c : Nat) (xs : List Int) (a : Int) (w : World) (hb : n ≤ 1048576) (h : NumAt w w.heap.size A n xs) :
    Calls Try.prog 48 #[.slice A n c, .slice (some ⟨w.heap.size, 0, none⟩) 1 1] (w.alloc (.cells #[.int .i64 a] 2)) fun e w' => e = .returned (.int .i64 (clsC xs [a])) ∧ Below w.heap.size w w' :=
  (cChk10 A _ n c 1 1 w.heap.size (w.heap.size + 1) xs [a] _ (by unfold maxLen; omega) (by unfold maxLen; omega) (h.below (below_allocs _) (Nat.le_refl _)) (num_one10 w a) (by simp) (by simp)).mono fun e w' hh => ⟨hh.1, below_thenA (below_allocs _) hh.2⟩
theorem cChk2 (A : Option Addr) (n c : Nat) (xs : List Int) (a b : Int) (w : World) (hb : n ≤ 1048576) (h : NumAt w w.heap.size A n xs) :
    Calls Try.prog 48 #[.slice A n c, .slice (some ⟨w.heap.size, 0, none⟩) 2 2] (w.alloc (.cells #[.int .i64 a, .int .i64 b] 2)) fun e w' => e = .returned (.int .i64 (clsC xs [a, b])) ∧ Below w.heap.size w w' :=
  (cChk10 A _ n c 2 2 w.heap.size (w.heap.size + 1) xs [a, b] _ (by unfold maxLen; omega) (by unfold maxLen; omega) (h.below (below_allocs _) (Nat.le_refl _)) (num_two10 w a b) (by simp) (by simp)).mono fun e w' hh => ⟨hh.1, below_thenA (below_allocs _) hh.2⟩
theorem cChk0 (A : Option Addr) (n c : Nat) (xs : List Int) (w : World) (hb : n ≤ 1048576) (h : NumAt w w.heap.size A n xs) :
    Calls Try.prog 48 #[.slice A n c, .slice none 0 0] w fun e w' => e = .returned (.int .i64 (clsC xs [])) ∧ Below w.heap.size w w' :=
  cChk10 A _ n c 0 0 w.heap.size w.heap.size xs [] _ (by unfold maxLen; omega) (by unfold maxLen; omega) h ⟨rfl, fun hp => by omega⟩ (Nat.le_refl _) (Nat.le_refl _)
theorem cCode1 (A : Option Addr) (n c : Nat) (xs : List Int) (a : Int) (w : World) (hb : n ≤ 1048576) (h : NumAt w w.heap.size A n xs) :
    Calls Try.prog 50 #[.slice A n c, .int .i64 a, .int .i64 a] w fun e w' => e = .returned (.int .i64 (clsC xs [a])) ∧ Below w.heap.size w w' := by
  have := cCode10 A n c w.heap.size xs a a w (by unfold maxLen; omega) h
  rwa [cls_same] at this

def kdZ (xs : List Int) (a : Int) : List Int := if clsC xs [a] = 0 then upF xs a else []
theorem kdZ_yes {xs : List Int} {a : Int} (h : clsC xs [a] = 0) : kdZ xs a = upF xs a := if_pos h
theorem kdZ_no {xs : List Int} {a : Int} (h : clsC xs [a] ≠ 0) : kdZ xs a = [] := if_neg h
theorem kdZ_len (xs : List Int) (a : Int) : (kdZ xs a).length ≤ 20 := by
  by_cases h : clsC xs [a] = 0
  · rw [kdZ_yes h]
    obtain ⟨hT, k, rfl, hk⟩ := clsC_one h
    have := (upF_len hT k hk).2
    have := hT.le
    omega
  · rw [kdZ_no h]; exact Nat.zero_le _
def isZ (xs : List Int) (a b : Int) : Bool := if clsC xs [a, b] = 0 then decide (b ∈ upF xs a) else false
theorem isZ_yes {xs : List Int} {a b : Int} (h : clsC xs [a, b] = 0) : isZ xs a b = decide (b ∈ upF xs a) := if_pos h
theorem isZ_no {xs : List Int} {a b : Int} (h : clsC xs [a, b] ≠ 0) : isZ xs a b = false := if_neg h
def comV (xs : List Int) (a b : Int) : Int := if clsC xs [a, b] = 0 then comZ xs a b else 0
theorem comV_yes {xs : List Int} {a b : Int} (h : clsC xs [a, b] = 0) : comV xs a b = comZ xs a b := if_pos h
theorem comV_no {xs : List Int} {a b : Int} (h : clsC xs [a, b] ≠ 0) : comV xs a b = 0 := if_neg h
def disV (xs : List Int) (a b : Int) : Int := if clsC xs [a, b] = 0 then disZ xs a b else 0
theorem disV_yes {xs : List Int} {a b : Int} (h : clsC xs [a, b] = 0) : disV xs a b = disZ xs a b := if_pos h
theorem disV_no {xs : List Int} {a b : Int} (h : clsC xs [a, b] ≠ 0) : disV xs a b = 0 := if_neg h
theorem dis_steps {xs : List Int} (hT : Tree xs) {a b c : Nat} (ha : a < xs.length) (hb : b < xs.length) (h1 : comZ xs (a : Int) (b : Int) = c) (h2 : (c : Int) ∈ upF xs (a : Int)) (h3 : (c : Int) ∈ upF xs (b : Int)) : stepZ xs (a : Int) (c : Int) + stepZ xs (b : Int) (c : Int) = disZ xs (a : Int) (b : Int) := by
  have e1 := upF_idx hT a ha h2
  have e2 := upF_idx hT b hb h3
  unfold stepZ disZ
  rw [h1]
  omega
theorem step_bd {xs : List Int} (hT : Tree xs) {a c : Nat} (ha : a < xs.length) (h2 : (c : Int) ∈ upF xs (a : Int)) : 0 ≤ stepZ xs (a : Int) (c : Int) ∧ stepZ xs (a : Int) (c : Int) ≤ 20 := by
  have e1 := upF_idx hT a ha h2
  have := (upF_len hT a ha).2
  have := hT.le
  unfold stepZ
  omega

set_option maxHeartbeats 1000000 in
set_option maxRecDepth 100000 in
theorem cKindsOf_impl (A : Option Addr) (n c : Nat) (xs : List Int) (a : Int) (w : World) (hb : n ≤ 1048576) (h : NumAt w w.heap.size A n xs) :
    Calls Try.prog 26 #[.slice A n c, .int .i64 a] w (Out10 (kdZ xs a) (clsC xs [a]) w) := by
  have CC := Lib.hid (cChk1 A n c xs a w hb h)
  have H : Hid (∀ V, Below w.heap.size w V → NumAt V w.heap.size A n xs) := Lib.hid (fun V hV => h.below hV (Nat.le_refl _))
  by_cases h0 : clsC xs [a] = 0
  · rw [kdZ_yes h0]
    rw [h0] at CC ⊢
    obtain ⟨hT, a, rfl, ha⟩ := clsC_one h0
    have CK : Hid (∀ V, Below w.heap.size w V → Calls Try.prog 58 #[.slice A n c, .int .i64 (a : Int)] V (OutR (upF xs (a : Int)) V)) := Lib.hid (fun V hV => cKinds_impl A n c w.heap.size xs a V hT ha hV.size (H.out V hV))
    obtain ⟨ks, hks⟩ : ∃ ks, ks = upF xs (a : Int) := ⟨_, rfl⟩
    rw [← hks] at CK ⊢
    unfold OutR at CK
    clear hT ha hks
    clear h h0
    go_enter Try.func26, Try.ntmps26
    go_wp2_with (first
      | (go_at_call 48; refine CC.out.mono ?_; rintro e w1 ⟨rfl, hb1⟩; have HB1 := Lib.hid hb1; clear hb1)
      | (go_at_call 58; refine (CK.out _ HB1.out).mono ?_; rintro e w2 ⟨A2, n2, c2, rfl, hO2, hb2⟩; have HO2 := Lib.hid hO2; have HB2 := Lib.hid hb2; clear hO2 hb2))
    go_ret2
    exact ⟨A2, n2, c2, rfl, rowBase HO2.out HB1.out.size, below_thenA HB1.out HB2.out⟩
  · rw [kdZ_no h0]
    obtain ⟨d, hd⟩ : ∃ d, d = clsC xs [a] := ⟨_, rfl⟩
    rw [← hd] at CC h0 ⊢
    have d1 : (d != 0) = true := by simp; exact h0
    have d2 : (d == 0) = false := by simp; exact h0
    clear h h0 hd
    go_enter Try.func26, Try.ntmps26
    go_wp2_with (go_at_call 48; refine CC.out.mono ?_; rintro e w1 ⟨rfl, hb1⟩; have HB1 := Lib.hid hb1; clear hb1)
    go_ret2
    exact Out10.nil rfl HB1.out

set_option maxHeartbeats 1000000 in
set_option maxRecDepth 100000 in
theorem cIsKindOf_impl (A : Option Addr) (n c : Nat) (xs : List Int) (a b : Int) (w : World) (hb : n ≤ 1048576) (h : NumAt w w.heap.size A n xs) :
    Calls Try.prog 21 #[.slice A n c, .int .i64 a, .int .i64 b] w fun e w' => e = .returned (.tuple #[.bool (isZ xs a b), .int .i64 (clsC xs [a, b])]) ∧ Below w.heap.size w w' := by
  have CC := Lib.hid (cChk2 A n c xs a b w hb h)
  have H : Hid (∀ V, Below w.heap.size w V → NumAt V w.heap.size A n xs) := Lib.hid (fun V hV => h.below hV (Nat.le_refl _))
  by_cases h0 : clsC xs [a, b] = 0
  · rw [isZ_yes h0]
    rw [h0] at CC ⊢
    obtain ⟨hT, ⟨a, rfl, ha⟩, b, rfl, hbb⟩ := clsC_two h0
    have CK : Hid (∀ V, Below w.heap.size w V → Calls Try.prog 58 #[.slice A n c, .int .i64 (a : Int)] V (OutR (upF xs (a : Int)) V)) := Lib.hid (fun V hV => cKinds_impl A n c w.heap.size xs a V hT ha hV.size (H.out V hV))
    have CH : Hid (∀ (B : Nat) (A1 : Option Addr) (n1 c1 : Nat) (V : World), V.ownsRow B 2 1 (.slice A1 n1 c1) n1 (intV (upF xs (a : Int))) → Calls Try.prog 57 #[.slice A1 n1 c1, .int .i64 (b : Int)] V fun e w' => e = .returned (.bool (decide ((b : Int) ∈ upF xs (a : Int)))) ∧ V = w') := Lib.hid (fun B A1 n1 c1 V hV => cContains10 A1 n1 c1 V.heap.size _ (b : Int) V (by have h1 := hV.1; rw [intV_len] at h1; have h2 := (upF_len hT a ha).2; have h3 := hT.le; unfold maxLen; omega) (own_num hV))
    obtain ⟨r, hr⟩ : ∃ r, r = decide ((b : Int) ∈ upF xs (a : Int)) := ⟨_, rfl⟩
    rw [← hr] at CH ⊢
    obtain ⟨ks, hks⟩ : ∃ ks, ks = upF xs (a : Int) := ⟨_, rfl⟩
    rw [← hks] at CK CH
    unfold OutR at CK
    clear hT ha hbb hks hr
    clear h h0
    go_enter Try.func21, Try.ntmps21
    go_wp2_with (first
      | (go_at_call 48; refine CC.out.mono ?_; rintro e w1 ⟨rfl, hb1⟩; have HB1 := Lib.hid hb1; clear hb1)
      | (go_at_call 58; refine (CK.out _ HB1.out).mono ?_; rintro e w2 ⟨A2, n2, c2, rfl, hO2, hb2⟩; have HO2 := Lib.hid hO2; have HB2 := Lib.hid hb2; clear hO2 hb2)
      | (go_at_call 57; refine (CH.out _ _ _ _ _ HO2.out).mono ?_; rintro e w3 ⟨rfl, rfl⟩))
    go_ret2
    exact ⟨rfl, below_thenA HB1.out HB2.out⟩
  · rw [isZ_no h0]
    obtain ⟨d, hd⟩ : ∃ d, d = clsC xs [a, b] := ⟨_, rfl⟩
    rw [← hd] at CC h0 ⊢
    have d1 : (d != 0) = true := by simp; exact h0
    have d2 : (d == 0) = false := by simp; exact h0
    clear h h0 hd
    go_enter Try.func21, Try.ntmps21
    go_wp2_with (go_at_call 48; refine CC.out.mono ?_; rintro e w1 ⟨rfl, hb1⟩; have HB1 := Lib.hid hb1; clear hb1)
    go_ret2
    exact ⟨rfl, HB1.out⟩

set_option maxHeartbeats 1000000 in
set_option maxRecDepth 100000 in
theorem cCommonKind_impl (A : Option Addr) (n c : Nat) (xs : List Int) (a b : Int) (w : World) (hb : n ≤ 1048576) (h : NumAt w w.heap.size A n xs) :
    Calls Try.prog 16 #[.slice A n c, .int .i64 a, .int .i64 b] w fun e w' => e = .returned (.tuple #[.int .i64 (comV xs a b), .int .i64 (clsC xs [a, b])]) ∧ Below w.heap.size w w' := by
  have CC := Lib.hid (cChk2 A n c xs a b w hb h)
  have H : Hid (∀ V, Below w.heap.size w V → NumAt V w.heap.size A n xs) := Lib.hid (fun V hV => h.below hV (Nat.le_refl _))
  by_cases h0 : clsC xs [a, b] = 0
  · rw [comV_yes h0]
    rw [h0] at CC ⊢
    obtain ⟨hT, ⟨a, rfl, ha⟩, b, rfl, hbb⟩ := clsC_two h0
    have CK : Hid (∀ V, Below w.heap.size w V → Calls Try.prog 49 #[.slice A n c, .int .i64 (a : Int), .int .i64 (b : Int)] V fun e w' => e = .returned (.int .i64 (comZ xs (a : Int) (b : Int))) ∧ Below V.heap.size V w') := Lib.hid (fun V hV => cCom_impl A n c w.heap.size xs a b V hT ha hbb hV.size (H.out V hV))
    obtain ⟨r, hr⟩ : ∃ r, r = comZ xs (a : Int) (b : Int) := ⟨_, rfl⟩
    rw [← hr] at CK ⊢
    clear hT ha hbb hr
    clear h h0
    go_enter Try.func16, Try.ntmps16
    go_wp2_with (first
      | (go_at_call 48; refine CC.out.mono ?_; rintro e w1 ⟨rfl, hb1⟩; have HB1 := Lib.hid hb1; clear hb1)
      | (go_at_call 49; refine (CK.out _ HB1.out).mono ?_; rintro e w2 ⟨rfl, hb2⟩; have HB2 := Lib.hid hb2; clear hb2))
    go_ret2
    exact ⟨rfl, below_thenA HB1.out HB2.out⟩
  · rw [comV_no h0]
    obtain ⟨d, hd⟩ : ∃ d, d = clsC xs [a, b] := ⟨_, rfl⟩
    rw [← hd] at CC h0 ⊢
    have d1 : (d != 0) = true := by simp; exact h0
    have d2 : (d == 0) = false := by simp; exact h0
    clear h h0 hd
    go_enter Try.func16, Try.ntmps16
    go_wp2_with (go_at_call 48; refine CC.out.mono ?_; rintro e w1 ⟨rfl, hb1⟩; have HB1 := Lib.hid hb1; clear hb1)
    go_ret2
    exact ⟨rfl, HB1.out⟩

set_option maxHeartbeats 1000000 in
set_option maxRecDepth 100000 in
theorem cDistanceOf_impl (A : Option Addr) (n c : Nat) (xs : List Int) (a b : Int) (w : World) (hb : n ≤ 1048576) (h : NumAt w w.heap.size A n xs) :
    Calls Try.prog 18 #[.slice A n c, .int .i64 a, .int .i64 b] w fun e w' => e = .returned (.tuple #[.int .i64 (disV xs a b), .int .i64 (clsC xs [a, b])]) ∧ Below w.heap.size w w' := by
  have CC := Lib.hid (cChk2 A n c xs a b w hb h)
  have H : Hid (∀ V, Below w.heap.size w V → NumAt V w.heap.size A n xs) := Lib.hid (fun V hV => h.below hV (Nat.le_refl _))
  by_cases h0 : clsC xs [a, b] = 0
  · rw [disV_yes h0]
    rw [h0] at CC ⊢
    obtain ⟨hT, ⟨a, rfl, ha⟩, b, rfl, hbb⟩ := clsC_two h0
    obtain ⟨q, hq, hql, hqa, hqb⟩ := com_mem hT ha hbb
    have CK : Hid (∀ V, Below w.heap.size w V → Calls Try.prog 49 #[.slice A n c, .int .i64 (a : Int), .int .i64 (b : Int)] V fun e w' => e = .returned (.int .i64 (q : Int)) ∧ Below V.heap.size V w') := Lib.hid (fun V hV => by have h9 := cCom_impl A n c w.heap.size xs a b V hT ha hbb hV.size (H.out V hV); rwa [hq] at h9)
    have CA : Hid (∀ V, Below w.heap.size w V → Calls Try.prog 52 #[.slice A n c, .int .i64 (a : Int), .int .i64 (q : Int)] V fun e w' => e = .returned (.int .i64 (stepZ xs (a : Int) (q : Int))) ∧ Below V.heap.size V w') := Lib.hid (fun V hV => cSteps A n c w.heap.size xs a q V hT ha hqa hV.size (H.out V hV))
    have CB : Hid (∀ V, Below w.heap.size w V → Calls Try.prog 52 #[.slice A n c, .int .i64 (b : Int), .int .i64 (q : Int)] V fun e w' => e = .returned (.int .i64 (stepZ xs (b : Int) (q : Int))) ∧ Below V.heap.size V w') := Lib.hid (fun V hV => cSteps A n c w.heap.size xs b q V hT hbb hqb hV.size (H.out V hV))
    have HR := Lib.hid (dis_steps hT ha hbb hq hqa hqb)
    obtain ⟨sa0, sa1⟩ := step_bd hT ha hqa
    obtain ⟨sb0, sb1⟩ := step_bd hT hbb hqb
    obtain ⟨sa, hsa⟩ : ∃ s, s = stepZ xs (a : Int) (q : Int) := ⟨_, rfl⟩
    obtain ⟨sb, hsb⟩ : ∃ s, s = stepZ xs (b : Int) (q : Int) := ⟨_, rfl⟩
    rw [← hsa] at CA HR sa0 sa1
    rw [← hsb] at CB HR sb0 sb1
    rw [← HR.out]
    clear hT ha hbb hq hql hqa hqb hsa hsb
    clear h h0
    go_enter Try.func18, Try.ntmps18
    go_wp2_with (first
      | (go_at_call 48; refine CC.out.mono ?_; rintro e w1 ⟨rfl, hb1⟩; have HB1 := Lib.hid hb1; clear hb1)
      | (go_at_call 49; refine (CK.out _ HB1.out).mono ?_; rintro e w2 ⟨rfl, hb2⟩; have HB2 := Lib.hid (below_thenA HB1.out hb2); clear hb2)
      | (go_at_call 52; refine (CA.out _ HB2.out).mono ?_; rintro e w3 ⟨rfl, hb3⟩; have HB3 := Lib.hid (below_thenA HB2.out hb3); clear hb3 CA)
      | (go_at_call 52; refine (CB.out _ HB3.out).mono ?_; rintro e w4 ⟨rfl, hb4⟩; have HB4 := Lib.hid (below_thenA HB3.out hb4); clear hb4))
    go_ret2
    exact ⟨rfl, HB4.out⟩
  · rw [disV_no h0]
    obtain ⟨d, hd⟩ : ∃ d, d = clsC xs [a, b] := ⟨_, rfl⟩
    rw [← hd] at CC h0 ⊢
    have d1 : (d != 0) = true := by simp; exact h0
    have d2 : (d == 0) = false := by simp; exact h0
    clear h h0 hd
    go_enter Try.func18, Try.ntmps18
    go_wp2_with (go_at_call 48; refine CC.out.mono ?_; rintro e w1 ⟨rfl, hb1⟩; have HB1 := Lib.hid hb1; clear hb1)
    go_ret2
    exact ⟨rfl, HB1.out⟩

/-- A slice of so many numbers. -/
def LenR (m : Nat) (w : World) (e : Ending) (w' : World) : Prop := ∃ A c, e = .returned (.slice A m c) ∧ Below w.heap.size w w'
theorem LenR.of {m : Nat} {zs : List Int} {w w' : World} {e : Ending} (hm : m = zs.length) (h : OutR zs w e w') : LenR m w e w' := by
  obtain ⟨A, n, c, rfl, hO, hb⟩ := h
  have := hO.1
  rw [intV_len] at this
  obtain rfl : m = n := by omega
  exact ⟨A, c, rfl, hb⟩

set_option maxHeartbeats 1000000 in
set_option maxRecDepth 100000 in
theorem cKindsOf_spec (A : Option Addr) (n c : Nat) (xs : List Int) (a : Int) (w : World) (hb : n ≤ 1048576) (h : NumAt w w.heap.size A n xs) :
    Calls Try.prog 27 #[.slice A n c, .int .i64 a] w (Out10 (kdZ xs a) (clsC xs [a]) w) := by
  have CC := Lib.hid (cCode1 A n c xs a w hb h)
  have H : Hid (∀ V, Below w.heap.size w V → NumAt V w.heap.size A n xs) := Lib.hid (fun V hV => h.below hV (Nat.le_refl _))
  by_cases h0 : clsC xs [a] = 0
  · rw [kdZ_yes h0]
    rw [h0] at CC ⊢
    obtain ⟨hT, a, rfl, ha⟩ := clsC_one h0
    have CK : Hid (∀ V, Below w.heap.size w V → Calls Try.prog 53 #[.slice A n c, .int .i64 (a : Int)] V (OutR (upF xs (a : Int)) V)) := Lib.hid (fun V hV => cKinds_spec A n c w.heap.size xs a V hT ha hV.size (H.out V hV))
    obtain ⟨ks, hks⟩ : ∃ ks, ks = upF xs (a : Int) := ⟨_, rfl⟩
    rw [← hks] at CK ⊢
    unfold OutR at CK
    clear hT ha hks
    clear h h0
    go_enter Try.func27, Try.ntmps27
    go_wp2_with (first
      | (go_at_call 50; refine CC.out.mono ?_; rintro e w1 ⟨rfl, hb1⟩; have HB1 := Lib.hid hb1; clear hb1)
      | (go_at_call 53; refine (CK.out _ HB1.out).mono ?_; rintro e w2 ⟨A2, n2, c2, rfl, hO2, hb2⟩; have HO2 := Lib.hid hO2; have HB2 := Lib.hid hb2; clear hO2 hb2))
    go_ret2
    exact ⟨A2, n2, c2, rfl, rowBase HO2.out HB1.out.size, below_thenA HB1.out HB2.out⟩
  · rw [kdZ_no h0]
    obtain ⟨d, hd⟩ : ∃ d, d = clsC xs [a] := ⟨_, rfl⟩
    rw [← hd] at CC h0 ⊢
    have d1 : (d != 0) = true := by simp; exact h0
    have d2 : (d == 0) = false := by simp; exact h0
    clear h h0 hd
    go_enter Try.func27, Try.ntmps27
    go_wp2_with (go_at_call 50; refine CC.out.mono ?_; rintro e w1 ⟨rfl, hb1⟩; have HB1 := Lib.hid hb1; clear hb1)
    go_ret2
    exact Out10.nil rfl HB1.out

set_option maxHeartbeats 1000000 in
set_option maxRecDepth 100000 in
theorem cIsKindOf_spec (A : Option Addr) (n c : Nat) (xs : List Int) (a b : Int) (w : World) (hb : n ≤ 1048576) (h : NumAt w w.heap.size A n xs) :
    Calls Try.prog 22 #[.slice A n c, .int .i64 a, .int .i64 b] w fun e w' => e = .returned (.tuple #[.bool (isZ xs a b), .int .i64 (clsC xs [a, b])]) ∧ Below w.heap.size w w' := by
  have CC := Lib.hid (cCode10 A n c w.heap.size xs a b w (by unfold maxLen; omega) h)
  have H : Hid (∀ V, Below w.heap.size w V → NumAt V w.heap.size A n xs) := Lib.hid (fun V hV => h.below hV (Nat.le_refl _))
  by_cases h0 : clsC xs [a, b] = 0
  · rw [isZ_yes h0]
    rw [h0] at CC ⊢
    obtain ⟨hT, ⟨a, rfl, ha⟩, b, rfl, hbb⟩ := clsC_two h0
    have CK : Hid (∀ V, Below w.heap.size w V → Calls Try.prog 53 #[.slice A n c, .int .i64 (a : Int)] V (OutR (upF xs (a : Int)) V)) := Lib.hid (fun V hV => cKinds_spec A n c w.heap.size xs a V hT ha hV.size (H.out V hV))
    have CH : Hid (∀ (B : Nat) (A1 : Option Addr) (n1 c1 : Nat) (V : World), V.ownsRow B 2 1 (.slice A1 n1 c1) n1 (intV (upF xs (a : Int))) → Calls Try.prog 59 #[.slice A1 n1 c1, .int .i64 (b : Int)] V fun e w' => e = .returned (.bool (decide ((b : Int) ∈ upF xs (a : Int)))) ∧ V = w') := Lib.hid (fun B A1 n1 c1 V hV => cHas10 A1 n1 c1 V.heap.size _ (b : Int) V (by have h1 := hV.1; rw [intV_len] at h1; have h2 := (upF_len hT a ha).2; have h3 := hT.le; unfold maxLen; omega) (own_num hV))
    obtain ⟨r, hr⟩ : ∃ r, r = decide ((b : Int) ∈ upF xs (a : Int)) := ⟨_, rfl⟩
    rw [← hr] at CH ⊢
    obtain ⟨ks, hks⟩ : ∃ ks, ks = upF xs (a : Int) := ⟨_, rfl⟩
    rw [← hks] at CK CH
    unfold OutR at CK
    clear hT ha hbb hks hr
    clear h h0
    go_enter Try.func22, Try.ntmps22
    go_wp2_with (first
      | (go_at_call 50; refine CC.out.mono ?_; rintro e w1 ⟨rfl, hb1⟩; have HB1 := Lib.hid hb1; clear hb1)
      | (go_at_call 53; refine (CK.out _ HB1.out).mono ?_; rintro e w2 ⟨A2, n2, c2, rfl, hO2, hb2⟩; have HO2 := Lib.hid hO2; have HB2 := Lib.hid hb2; clear hO2 hb2)
      | (go_at_call 59; refine (CH.out _ _ _ _ _ HO2.out).mono ?_; rintro e w3 ⟨rfl, rfl⟩))
    go_ret2
    exact ⟨rfl, below_thenA HB1.out HB2.out⟩
  · rw [isZ_no h0]
    obtain ⟨d, hd⟩ : ∃ d, d = clsC xs [a, b] := ⟨_, rfl⟩
    rw [← hd] at CC h0 ⊢
    have d1 : (d != 0) = true := by simp; exact h0
    have d2 : (d == 0) = false := by simp; exact h0
    clear h h0 hd
    go_enter Try.func22, Try.ntmps22
    go_wp2_with (go_at_call 50; refine CC.out.mono ?_; rintro e w1 ⟨rfl, hb1⟩; have HB1 := Lib.hid hb1; clear hb1)
    go_ret2
    exact ⟨rfl, HB1.out⟩

set_option maxHeartbeats 1000000 in
set_option maxRecDepth 100000 in
theorem cCommonKind_spec (A : Option Addr) (n c : Nat) (xs : List Int) (a b : Int) (w : World) (hb : n ≤ 1048576) (h : NumAt w w.heap.size A n xs) :
    Calls Try.prog 17 #[.slice A n c, .int .i64 a, .int .i64 b] w fun e w' => e = .returned (.tuple #[.int .i64 (comV xs a b), .int .i64 (clsC xs [a, b])]) ∧ Below w.heap.size w w' := by
  have CC := Lib.hid (cCode10 A n c w.heap.size xs a b w (by unfold maxLen; omega) h)
  have H : Hid (∀ V, Below w.heap.size w V → NumAt V w.heap.size A n xs) := Lib.hid (fun V hV => h.below hV (Nat.le_refl _))
  by_cases h0 : clsC xs [a, b] = 0
  · rw [comV_yes h0]
    rw [h0] at CC ⊢
    obtain ⟨hT, ⟨a, rfl, ha⟩, b, rfl, hbb⟩ := clsC_two h0
    have CK : Hid (∀ V, Below w.heap.size w V → Calls Try.prog 51 #[.slice A n c, .int .i64 (a : Int), .int .i64 (b : Int)] V fun e w' => e = .returned (.int .i64 (comZ xs (a : Int) (b : Int))) ∧ Below V.heap.size V w') := Lib.hid (fun V hV => cCom_spec A n c w.heap.size xs a b V hT ha hbb hV.size (H.out V hV))
    obtain ⟨r, hr⟩ : ∃ r, r = comZ xs (a : Int) (b : Int) := ⟨_, rfl⟩
    rw [← hr] at CK ⊢
    clear hT ha hbb hr
    clear h h0
    go_enter Try.func17, Try.ntmps17
    go_wp2_with (first
      | (go_at_call 50; refine CC.out.mono ?_; rintro e w1 ⟨rfl, hb1⟩; have HB1 := Lib.hid hb1; clear hb1)
      | (go_at_call 51; refine (CK.out _ HB1.out).mono ?_; rintro e w2 ⟨rfl, hb2⟩; have HB2 := Lib.hid hb2; clear hb2))
    go_ret2
    exact ⟨rfl, below_thenA HB1.out HB2.out⟩
  · rw [comV_no h0]
    obtain ⟨d, hd⟩ : ∃ d, d = clsC xs [a, b] := ⟨_, rfl⟩
    rw [← hd] at CC h0 ⊢
    have d1 : (d != 0) = true := by simp; exact h0
    have d2 : (d == 0) = false := by simp; exact h0
    clear h h0 hd
    go_enter Try.func17, Try.ntmps17
    go_wp2_with (go_at_call 50; refine CC.out.mono ?_; rintro e w1 ⟨rfl, hb1⟩; have HB1 := Lib.hid hb1; clear hb1)
    go_ret2
    exact ⟨rfl, HB1.out⟩

set_option maxHeartbeats 1000000 in
set_option maxRecDepth 100000 in
theorem cDistanceOf_spec (A : Option Addr) (n c : Nat) (xs : List Int) (a b : Int) (w : World) (hb : n ≤ 1048576) (h : NumAt w w.heap.size A n xs) :
    Calls Try.prog 19 #[.slice A n c, .int .i64 a, .int .i64 b] w fun e w' => e = .returned (.tuple #[.int .i64 (disV xs a b), .int .i64 (clsC xs [a, b])]) ∧ Below w.heap.size w w' := by
  have CC := Lib.hid (cCode10 A n c w.heap.size xs a b w (by unfold maxLen; omega) h)
  have H : Hid (∀ V, Below w.heap.size w V → NumAt V w.heap.size A n xs) := Lib.hid (fun V hV => h.below hV (Nat.le_refl _))
  by_cases h0 : clsC xs [a, b] = 0
  · rw [disV_yes h0]
    rw [h0] at CC ⊢
    obtain ⟨hT, ⟨a, rfl, ha⟩, b, rfl, hbb⟩ := clsC_two h0
    obtain ⟨q, hq, hql, hqa, hqb⟩ := com_mem hT ha hbb
    have CK : Hid (∀ V, Below w.heap.size w V → Calls Try.prog 51 #[.slice A n c, .int .i64 (a : Int), .int .i64 (b : Int)] V fun e w' => e = .returned (.int .i64 (q : Int)) ∧ Below V.heap.size V w') := Lib.hid (fun V hV => by have h9 := cCom_spec A n c w.heap.size xs a b V hT ha hbb hV.size (H.out V hV); rwa [hq] at h9)
    obtain ⟨ma, hma⟩ : ∃ m, m = (upF xs (a : Int)).length := ⟨_, rfl⟩
    obtain ⟨mb, hmb⟩ : ∃ m, m = (upF xs (b : Int)).length := ⟨_, rfl⟩
    obtain ⟨mq, hmq⟩ : ∃ m, m = (upF xs (q : Int)).length := ⟨_, rfl⟩
    have CKa : Hid (∀ V, Below w.heap.size w V → Calls Try.prog 53 #[.slice A n c, .int .i64 (a : Int)] V (LenR ma V)) := Lib.hid (fun V hV => (cKinds_spec A n c w.heap.size xs a V hT ha hV.size (H.out V hV)).mono (fun e w' hh => LenR.of hma hh))
    have CKb : Hid (∀ V, Below w.heap.size w V → Calls Try.prog 53 #[.slice A n c, .int .i64 (b : Int)] V (LenR mb V)) := Lib.hid (fun V hV => (cKinds_spec A n c w.heap.size xs b V hT hbb hV.size (H.out V hV)).mono (fun e w' hh => LenR.of hmb hh))
    have CKq : Hid (∀ V, Below w.heap.size w V → Calls Try.prog 53 #[.slice A n c, .int .i64 (q : Int)] V (LenR mq V)) := Lib.hid (fun V hV => (cKinds_spec A n c w.heap.size xs q V hT hql hV.size (H.out V hV)).mono (fun e w' hh => LenR.of hmq hh))
    have HR : Hid (disZ xs (a : Int) (b : Int) = (ma : Int) + mb - 2 * mq) := Lib.hid (by unfold disZ; rw [hq, hma, hmb, hmq])
    rw [HR.out]
    have la : ma ≤ 20 := by have h1 := (upF_len hT a ha).2; have h2 := hT.le; omega
    have lb : mb ≤ 20 := by have h1 := (upF_len hT b hbb).2; have h2 := hT.le; omega
    have lq : mq ≤ 20 := by have h1 := (upF_len hT q hql).2; have h2 := hT.le; omega
    unfold LenR at CKa CKb CKq
    clear hT ha hbb hq hql hqa hqb hma hmb hmq HR
    clear h h0
    go_enter Try.func19, Try.ntmps19
    go_wp2_with (first
      | (go_at_call 50; refine CC.out.mono ?_; rintro e w1 ⟨rfl, hb1⟩; have HB1 := Lib.hid hb1; clear hb1)
      | (go_at_call 51; refine (CK.out _ HB1.out).mono ?_; rintro e w2 ⟨rfl, hb2⟩; have HB2 := Lib.hid (below_thenA HB1.out hb2); clear hb2 CK)
      | (go_at_call 53; refine (CKa.out _ HB2.out).mono ?_; rintro e w3 ⟨A3, c3, rfl, hb3⟩; have HB3 := Lib.hid (below_thenA HB2.out hb3); clear hb3 CKa)
      | (go_at_call 53; refine (CKb.out _ HB3.out).mono ?_; rintro e w4 ⟨A4, c4, rfl, hb4⟩; have HB4 := Lib.hid (below_thenA HB3.out hb4); clear hb4 CKb)
      | (go_at_call 53; refine (CKq.out _ HB4.out).mono ?_; rintro e w5 ⟨A5, c5, rfl, hb5⟩; have HB5 := Lib.hid (below_thenA HB4.out hb5); clear hb5 CKq))
    go_ret2
    exact ⟨rfl, HB5.out⟩
  · rw [disV_no h0]
    obtain ⟨d, hd⟩ : ∃ d, d = clsC xs [a, b] := ⟨_, rfl⟩
    rw [← hd] at CC h0 ⊢
    have d1 : (d != 0) = true := by simp; exact h0
    have d2 : (d == 0) = false := by simp; exact h0
    clear h h0 hd
    go_enter Try.func19, Try.ntmps19
    go_wp2_with (go_at_call 50; refine CC.out.mono ?_; rintro e w1 ⟨rfl, hb1⟩; have HB1 := Lib.hid hb1; clear hb1)
    go_ret2
    exact ⟨rfl, HB1.out⟩

end Go.Proofs.Ytlogbgkbdjdkkaa
