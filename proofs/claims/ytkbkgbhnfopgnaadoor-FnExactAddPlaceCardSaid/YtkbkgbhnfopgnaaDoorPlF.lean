/-
  The contracts of searchCode of the program, with cmp.Compare at texts and slices.BinarySearchFunc at places.
-/
import Derived.Test.YtkbkgbhnfopgnaaDoorPlR
import Derived.Laws.Shifts
namespace Go.Proofs.YtkbkgbhnfopgnaaDoor
set_option linter.unusedVariables false
open Go.RowKit

theorem cNaN (a : ByteArray) (w : World) : Calls Tryd.prog 87 #[.string a] w fun e w' => e = .returned (.bool false) ∧ w = w' := by
  have h1 : (a.toList != a.toList) = false := by simp
  go_enter Tryd.func87, Tryd.ntmps87
  go_wp2_with fail
  go_ret
  exact ⟨rfl, rfl⟩
def cmpT (a b : ByteArray) : Int := if ltB a b then -1 else if a = b then 0 else 1
theorem cmp_lt {a b : ByteArray} (h : ltB a b = true) : cmpT a b = -1 := by unfold cmpT; rw [if_pos h]
theorem cmp_eq {a b : ByteArray} (h : ltB a b = false) (e : a = b) : cmpT a b = 0 := by unfold cmpT; rw [if_neg (by rw [h]; simp), if_pos e]
theorem cmp_gt {a b : ByteArray} (h : ltB a b = false) (e : a ≠ b) : cmpT a b = 1 := by unfold cmpT; rw [if_neg (by rw [h]; simp), if_neg e]
theorem cmp_neg (a b : ByteArray) : decide (cmpT a b < 0) = ltB a b := by
  unfold cmpT
  cases ltB a b
  · by_cases e : a = b
    · rw [if_neg (by simp), if_pos e]; rfl
    · rw [if_neg (by simp), if_neg e]; rfl
  · rw [if_pos rfl]; rfl
theorem cmp_zero (a b : ByteArray) : (cmpT a b == 0) = decide (a = b) := by
  unfold cmpT
  by_cases e : a = b
  · subst e
    have : ltB a a = false := (ltB_not _ _).2 (ltT_irr _)
    rw [this]; simp
  · cases ltB a b <;> simp [e]
theorem cCmp (a b : ByteArray) (w : World) : Calls Tryd.prog 75 #[.string a, .string b] w fun e w' => e = .returned (.int .i64 (cmpT a b)) ∧ w = w' := by
  have CA := Lib.hid (fun W => cNaN a W)
  have CB := Lib.hid (fun W => cNaN b W)
  cases hl : ltB a b
  · have h1 : Op.bytesLess a.toList b.toList = false := by rw [bytesLess11]; exact hl
    by_cases e : a = b
    · rw [cmp_eq hl e]
      have h2 : (a.toList == b.toList) = true := by rw [toList_beq]; exact decide_eq_true e
      clear hl e
      go_enter Tryd.func75, Tryd.ntmps75
      go_wp2_with fail
      refine (CA.out _).mono ?_
      rintro e w' ⟨rfl, rfl⟩
      go_wp2_with fail
      refine (CB.out _).mono ?_
      rintro e w' ⟨rfl, rfl⟩
      go_wp2_with fail
      go_ret
      exact ⟨rfl, rfl⟩
    · rw [cmp_gt hl e]
      have h2 : (a.toList == b.toList) = false := by rw [toList_beq]; exact decide_eq_false e
      clear hl e
      go_enter Tryd.func75, Tryd.ntmps75
      go_wp2_with fail
      refine (CA.out _).mono ?_
      rintro e w' ⟨rfl, rfl⟩
      go_wp2_with fail
      refine (CB.out _).mono ?_
      rintro e w' ⟨rfl, rfl⟩
      go_wp2_with fail
      go_ret
      exact ⟨rfl, rfl⟩
  · have h1 : Op.bytesLess a.toList b.toList = true := by rw [bytesLess11]; exact hl
    rw [cmp_lt hl]
    clear hl
    go_enter Tryd.func75, Tryd.ntmps75
    go_wp2_with fail
    refine (CA.out _).mono ?_
    rintro e w' ⟨rfl, rfl⟩
    go_wp2_with fail
    refine (CB.out _).mono ?_
    rintro e w' ⟨rfl, rfl⟩
    go_wp2_with fail
    go_ret
    exact ⟨rfl, rfl⟩
theorem cSearch1 (p : Pl) (A : Option Addr) (d : Nat) (s : ByteArray) (w : World) : Calls Tryd.prog 74 #[plv11 p A d, .string s] w fun e w' => e = .returned (.int .i64 (cmpT p.c s)) ∧ Below w.heap.size w w' := by
  have CC := Lib.hid (fun W => cCmp p.c s W)
  have HA := Lib.hid (below_alloc11 w (.cells #[.string p.c, .int .i64 p.k, .int .i64 p.f, .int .i64 p.u, .slice A p.ns.length d] 32))
  go_enter Tryd.func74, Tryd.ntmps74
  go_wp2_with fail
  refine (CC.out _).mono ?_
  rintro e w' ⟨rfl, rfl⟩
  go_wp2_with fail
  go_ret
  exact ⟨rfl, HA.out⟩

/-- The codes grow. -/
def Grows (ps : List Pl) : Prop := ∀ (i j : Nat) p q, i < j → ps[i]? = some p → ps[j]? = some q → ltT p.c q.c
theorem grows_of {ps : List Pl} (h : GoodP ps) : Grows ps := fun i j p q hij h1 h2 => goodP_pair h hij h1 h2
theorem at_low {ps : List Pl} {s : ByteArray} {m : Nat} {p : Pl} (hg : Grows ps) (hp : ps[m]? = some p) (hl : ltB p.c s = true) : m + 1 ≤ atP ps s := by
  rcases Nat.lt_or_ge m (atP ps s) with h | h
  · exact h
  · exfalso
    have hml := (List.getElem?_eq_some_iff.1 hp).1
    obtain ⟨q, hq⟩ : ∃ q, ps[atP ps s]? = some q := ⟨ps[atP ps s]'(by omega), List.getElem?_eq_getElem _⟩
    have h1 := atP_stop hq
    rcases Nat.lt_or_ge (atP ps s) m with h2 | h2
    · have h3 := hg _ _ _ _ h2 hq hp
      rw [ltB_not] at h1
      exact h1 (ltT_tr _ _ _ h3 ((ltB_iff _ _).1 hl))
    · obtain rfl : m = atP ps s := by omega
      rw [hp] at hq
      obtain rfl := Option.some.inj hq
      rw [hl] at h1; cases h1
theorem at_high {ps : List Pl} {s : ByteArray} {m : Nat} {p : Pl} (hp : ps[m]? = some p) (hl : ltB p.c s = false) : atP ps s ≤ m := by
  rcases Nat.lt_or_ge m (atP ps s) with h | h
  · have := atP_lt h hp; rw [hl] at this; cases this
  · exact h
theorem mid_facts (i j n : Nat) (h1 : i < j) (h2 : j ≤ n) (h3 : n ≤ 1048576) : i ≤ (i + j) / 2 ∧ (i + j) / 2 < j ∧ (i + j) / 2 < n := by omega
set_option maxHeartbeats 2000000 in
set_option maxRecDepth 100000 in
theorem cBin (A : Option Addr) (n c : Nat) (ps : List Pl) (s : ByteArray) (w : World) (hb : n ≤ 1048576) (hg : Grows ps) (h : PlAt w w.heap.size A n ps) :
    Calls Tryd.prog 73 #[.slice A n c, .string s, .func (.func 74) #[] #[]] w fun e w' => e = .returned (.tuple #[.int .i64 (atP ps s : Nat), .bool (thereB ps s)]) ∧ Below w.heap.size w w' := by
  have H := Lib.hid h
  have HN := Lib.hid h.1
  have HG := Lib.hid hg
  have CC := Lib.hid (fun p A d W => cSearch1 p A d s W)
  clear h hg
  obtain ⟨a, ha⟩ : ∃ a, a = atP ps s := ⟨_, rfl⟩
  have HAT : Hid (a = atP ps s) := Lib.hid ha
  have HLE : Hid (a ≤ n) := Lib.hid (by rw [ha, HN.out]; exact atP_le ps s)
  rw [← ha]
  clear ha
  go_enter Tryd.func73, Tryd.ntmps73
  go_wp2_with fail
  go_loopw [9, 10] (fun x y wr => ∃ i j : Nat, x = .int .i64 i ∧ y = .int .i64 j ∧ Hid (i ≤ a) ∧ Hid (a ≤ j) ∧ j ≤ n ∧ Below w.heap.size w wr) (fun x y _ => (intOf y).toNat - (intOf x).toNat)
  case atStart => exact ⟨0, n, rfl, rfl, Lib.hid (Nat.zero_le _), HLE, Nat.le_refl _, Below.refl _ _⟩
  case round =>
    obtain ⟨i, j, rfl, rfl, HI, HJ, hjn, hbw⟩ := hrel
    by_cases hlt : i < j
    · obtain ⟨m1, m2, m3⟩ := mid_facts i j n hlt hjn hb
      obtain ⟨p, hp⟩ : ∃ p, ps[(i + j) / 2]? = some p := ⟨ps[(i + j) / 2]'(by have := HN.out; omega), List.getElem?_eq_getElem _⟩
      obtain ⟨b, o, rfl, hbl, A1, d1, c0, c1, c2, c3, c4, hnm, _⟩ := (H.out.below hbw (Nat.le_refl _)).row hp
      have CX := Lib.hid (CC.out p A1 d1 wr)
      have HP := Lib.hid hp
      have u1 : (i : Int) < (j : Int) := by omega
      clear hp hnm
      go_wp2_with fail
      refine CX.out.mono ?_
      rintro e w1 ⟨rfl, g1⟩
      have hbt := bstep9 hbw hbw.size g1
      cases hl : ltB p.c s
      · have hneg : ¬ cmpT p.c s < 0 := by have := cmp_neg p.c s; rw [hl] at this; simpa using this
        have HJ2 : Hid (a ≤ (i + j) / 2) := Lib.hid (by rw [HAT.out]; exact at_high HP.out hl)
        clear hl g1
        go_wp2_with fail
        go_roundw
        case rel => exact ⟨i, (i + j) / 2, rfl, by rw [show ((i : Int) + (j : Int)) / 2 = (((i + j) / 2 : Nat) : Int) by omega], HI, HJ2, by omega, hbt⟩
        case measure => simp [intOf]; omega
      · have hneg : cmpT p.c s < 0 := by have := cmp_neg p.c s; rw [hl] at this; simpa using this
        have HI2 : Hid ((i + j) / 2 + 1 ≤ a) := Lib.hid (by rw [HAT.out]; exact at_low HG.out HP.out hl)
        clear hl g1
        go_wp2_with fail
        go_roundw
        case rel => exact ⟨(i + j) / 2 + 1, j, by rw [show ((i : Int) + (j : Int)) / 2 + 1 = (((i + j) / 2 + 1 : Nat) : Int) by omega], rfl, HI2, HJ, hjn, hbt⟩
        case measure => simp [intOf]; omega
    · obtain rfl : i = a := by have h1 := HI.out; have h2 := HJ.out; omega
      obtain rfl : i = j := by have h2 := HJ.out; omega
      by_cases hin : i < n
      · obtain ⟨p, hp⟩ : ∃ p, ps[i]? = some p := ⟨ps[i]'(by have := HN.out; omega), List.getElem?_eq_getElem _⟩
        obtain ⟨b, o, rfl, hbl, A1, d1, c0, c1, c2, c3, c4, hnm, _⟩ := (H.out.below hbw (Nat.le_refl _)).row hp
        have CX := Lib.hid (CC.out p A1 d1 wr)
        have HTH : Hid (thereB ps s = decide (p.c = s)) := Lib.hid (there_some (by rw [← HAT.out]; exact hp))
        have hz := cmp_zero p.c s
        obtain ⟨z, hzz⟩ : ∃ z, z = decide (p.c = s) := ⟨_, rfl⟩
        rw [← hzz] at HTH hz
        have u1 : (i : Int) < (n : Int) := by omega
        have u2 : (0 : Int) ≤ (i : Int) := Int.natCast_nonneg _
        clear hp hnm hzz
        go_wp2_with fail
        refine CX.out.mono ?_
        rintro e w1 ⟨rfl, g1⟩
        have hbt := bstep9 hbw hbw.size g1
        clear g1
        go_wp2_with fail
        go_ret2
        exact ⟨by rw [HTH.out]; rfl, hbt⟩
      · have HTH : Hid (thereB ps s = false) := Lib.hid (there_none (by rw [← HAT.out]; exact List.getElem?_eq_none (by have := HN.out; omega)))
        have u1 : ¬ (i : Int) < (n : Int) := by omega
        go_wp2_with fail
        go_ret2
        exact ⟨by rw [HTH.out]; rfl, hbw⟩
theorem cSearch (A : Option Addr) (n c : Nat) (ps : List Pl) (s : ByteArray) (w : World) (hb : n ≤ 1048576) (hg : Grows ps) (h : PlAt w w.heap.size A n ps) :
    Calls Tryd.prog 47 #[.slice A n c, .string s] w fun e w' => e = .returned (.tuple #[.int .i64 (atP ps s : Nat), .bool (thereB ps s)]) ∧ Below w.heap.size w w' := by
  have C := Lib.hid (cBin A n c ps s w hb hg h)
  clear h hg
  obtain ⟨a, ha⟩ : ∃ a, a = atP ps s := ⟨_, rfl⟩
  obtain ⟨t, ht⟩ : ∃ t, t = thereB ps s := ⟨_, rfl⟩
  rw [← ha, ← ht] at C ⊢
  clear ha ht
  go_enter Tryd.func47, Tryd.ntmps47
  go_wp2_with fail
  refine C.out.mono ?_
  rintro e w1 ⟨rfl, g1⟩
  go_wp2_with fail
  go_ret2
  exact ⟨rfl, g1⟩
end Go.Proofs.YtkbkgbhnfopgnaaDoor
