/-
  The contracts of searchCode of the program, with cmp.Compare at texts and slices.BinarySearchFunc at places.
-/
import Derived.Test.YtglmibmjbignbaaGreatDoorMz16
import Derived.Laws.Shifts
import Derived.Test.YtglmibmjbignbaaGreatDoorMz15
namespace Go.Proofs.YtglmibmjbignbaaGreatDoor
section
set_option linter.unusedVariables false
open Go.RowKit

theorem cNaN (a : ByteArray) (w : World) : Calls Tryz.prog 156 #[.string a] w fun e w' => e = .returned (.bool false) ∧ w = w' := by
  have h1 : (a.toList != a.toList) = false := by simp
  go_enter Tryz.func156, Tryz.ntmps156
  go_wp2_with fail
  go_ret
  exact ⟨rfl, rfl⟩
def cmpT (a b : ByteArray) : Int := if ltB a b then -1 else if a = b then 0 else 1
theorem cmp_lt {a b : ByteArray} (h : ltB a b = true) : cmpT a b = -1 := by unfold cmpT; rw [if_pos h]
theorem cmp_eq {a b : ByteArray} (h : ltB a b = false) (e : a = b) : cmpT a b = 0 := by unfold cmpT; rw [if_neg (by rw [h]; simp), if_pos e]
theorem cmp_gt {a b : ByteArray} (h : ltB a b = false) (e : a ≠ b) : cmpT a b = 1 := by unfold cmpT; rw [if_neg (by rw [h]; simp), if_neg e]
theorem cmp_neg (a b : ByteArray) : decide (cmpT a b < 0) = ltB a b := by
  unfold cmpT
  cases ltB a b
  · by_cases e : a = b
    · rw [if_neg (by simp), if_pos e]; rfl
    · rw [if_neg (by simp), if_neg e]; rfl
  · rw [if_pos rfl]; rfl
theorem cmp_zero (a b : ByteArray) : (cmpT a b == 0) = decide (a = b) := by
  unfold cmpT
  by_cases e : a = b
  · subst e
    have : ltB a a = false := (ltB_not _ _).2 (ltT_irr _)
    rw [this]; simp
  · cases ltB a b <;> simp [e]
theorem cCmp (a b : ByteArray) (w : World) : Calls Tryz.prog 119 #[.string a, .string b] w fun e w' => e = .returned (.int .i64 (cmpT a b)) ∧ w = w' := by
  have CA := Lib.hid (fun W => cNaN a W)
  have CB := Lib.hid (fun W => cNaN b W)
  cases hl : ltB a b
  · have h1 : Op.bytesLess a.toList b.toList = false := by rw [bytesLess11]; exact hl
    by_cases e : a = b
    · rw [cmp_eq hl e]
      have h2 : (a.toList == b.toList) = true := by rw [toList_beq]; exact decide_eq_true e
      clear hl e
      go_enter Tryz.func119, Tryz.ntmps119
      go_wp2_with fail
      refine (CA.out _).mono ?_
      rintro e w' ⟨rfl, rfl⟩
      go_wp2_with fail
      refine (CB.out _).mono ?_
      rintro e w' ⟨rfl, rfl⟩
      go_wp2_with fail
      go_ret
      exact ⟨rfl, rfl⟩
    · rw [cmp_gt hl e]
      have h2 : (a.toList == b.toList) = false := by rw [toList_beq]; exact decide_eq_false e
      clear hl e
      go_enter Tryz.func119, Tryz.ntmps119
      go_wp2_with fail
      refine (CA.out _).mono ?_
      rintro e w' ⟨rfl, rfl⟩
      go_wp2_with fail
      refine (CB.out _).mono ?_
      rintro e w' ⟨rfl, rfl⟩
      go_wp2_with fail
      go_ret
      exact ⟨rfl, rfl⟩
  · have h1 : Op.bytesLess a.toList b.toList = true := by rw [bytesLess11]; exact hl
    rw [cmp_lt hl]
    clear hl
    go_enter Tryz.func119, Tryz.ntmps119
    go_wp2_with fail
    refine (CA.out _).mono ?_
    rintro e w' ⟨rfl, rfl⟩
    go_wp2_with fail
    refine (CB.out _).mono ?_
    rintro e w' ⟨rfl, rfl⟩
    go_wp2_with fail
    go_ret
    exact ⟨rfl, rfl⟩
theorem cSearch1 (p : Pl) (A : Option Addr) (d : Nat) (s : ByteArray) (w : World) : Calls Tryz.prog 118 #[plv11 p A d, .string s] w fun e w' => e = .returned (.int .i64 (cmpT p.c s)) ∧ Below w.heap.size w w' := by
  have CC := Lib.hid (fun W => cCmp p.c s W)
  have HA := Lib.hid (below_alloc11 w (.cells #[.string p.c, .int .i64 p.k, .int .i64 p.f, .int .i64 p.u, .slice A p.ns.length d] 29))
  go_enter Tryz.func118, Tryz.ntmps118
  go_wp2_with fail
  refine (CC.out _).mono ?_
  rintro e w' ⟨rfl, rfl⟩
  go_wp2_with fail
  go_ret
  exact ⟨rfl, HA.out⟩

/-- The codes grow. -/
def Grows (ps : List Pl) : Prop := ∀ (i j : Nat) p q, i < j → ps[i]? = some p → ps[j]? = some q → ltT p.c q.c
theorem grows_of {ps : List Pl} (h : GoodP ps) : Grows ps := fun i j p q hij h1 h2 => goodP_pair h hij h1 h2
theorem at_low {ps : List Pl} {s : ByteArray} {m : Nat} {p : Pl} (hg : Grows ps) (hp : ps[m]? = some p) (hl : ltB p.c s = true) : m + 1 ≤ atP ps s := by
  rcases Nat.lt_or_ge m (atP ps s) with h | h
  · exact h
  · exfalso
    have hml := (List.getElem?_eq_some_iff.1 hp).1
    obtain ⟨q, hq⟩ : ∃ q, ps[atP ps s]? = some q := ⟨ps[atP ps s]'(by omega), List.getElem?_eq_getElem _⟩
    have h1 := atP_stop hq
    rcases Nat.lt_or_ge (atP ps s) m with h2 | h2
    · have h3 := hg _ _ _ _ h2 hq hp
      rw [ltB_not] at h1
      exact h1 (ltT_tr _ _ _ h3 ((ltB_iff _ _).1 hl))
    · obtain rfl : m = atP ps s := by omega
      rw [hp] at hq
      obtain rfl := Option.some.inj hq
      rw [hl] at h1; cases h1
theorem at_high {ps : List Pl} {s : ByteArray} {m : Nat} {p : Pl} (hp : ps[m]? = some p) (hl : ltB p.c s = false) : atP ps s ≤ m := by
  rcases Nat.lt_or_ge m (atP ps s) with h | h
  · have := atP_lt h hp; rw [hl] at this; cases this
  · exact h
theorem mid_facts (i j n : Nat) (h1 : i < j) (h2 : j ≤ n) (h3 : n ≤ 1048576) : i ≤ (i + j) / 2 ∧ (i + j) / 2 < j ∧ (i + j) / 2 < n := by omega
set_option maxHeartbeats 2000000 in
set_option maxRecDepth 100000 in
theorem cBin (A : Option Addr) (n c : Nat) (ps : List Pl) (s : ByteArray) (w : World) (hb : n ≤ 1048576) (hg : Grows ps) (h : PlAt w w.heap.size A n ps) :
    Calls Tryz.prog 117 #[.slice A n c, .string s, .func (.func 118) #[] #[]] w fun e w' => e = .returned (.tuple #[.int .i64 (atP ps s : Nat), .bool (thereB ps s)]) ∧ Below w.heap.size w w' := by
  have H := Lib.hid h
  have HN := Lib.hid h.1
  have HG := Lib.hid hg
  have CC := Lib.hid (fun p A d W => cSearch1 p A d s W)
  clear h hg
  obtain ⟨a, ha⟩ : ∃ a, a = atP ps s := ⟨_, rfl⟩
  have HAT : Hid (a = atP ps s) := Lib.hid ha
  have HLE : Hid (a ≤ n) := Lib.hid (by rw [ha, HN.out]; exact atP_le ps s)
  rw [← ha]
  clear ha
  go_enter Tryz.func117, Tryz.ntmps117
  go_wp2_with fail
  go_loopw [9, 10] (fun x y wr => ∃ i j : Nat, x = .int .i64 i ∧ y = .int .i64 j ∧ Hid (i ≤ a) ∧ Hid (a ≤ j) ∧ j ≤ n ∧ Below w.heap.size w wr) (fun x y _ => (intOf y).toNat - (intOf x).toNat)
  case atStart => exact ⟨0, n, rfl, rfl, Lib.hid (Nat.zero_le _), HLE, Nat.le_refl _, Below.refl _ _⟩
  case round =>
    obtain ⟨i, j, rfl, rfl, HI, HJ, hjn, hbw⟩ := hrel
    by_cases hlt : i < j
    · obtain ⟨m1, m2, m3⟩ := mid_facts i j n hlt hjn hb
      obtain ⟨p, hp⟩ : ∃ p, ps[(i + j) / 2]? = some p := ⟨ps[(i + j) / 2]'(by have := HN.out; omega), List.getElem?_eq_getElem _⟩
      obtain ⟨b, o, rfl, hbl, A1, d1, c0, c1, c2, c3, c4, hnm, _⟩ := (H.out.below hbw (Nat.le_refl _)).row hp
      have CX := Lib.hid (CC.out p A1 d1 wr)
      have HP := Lib.hid hp
      have u1 : (i : Int) < (j : Int) := by omega
      clear hp hnm
      go_wp2_with fail
      refine CX.out.mono ?_
      rintro e w1 ⟨rfl, g1⟩
      have hbt := bstep9 hbw hbw.size g1
      cases hl : ltB p.c s
      · have hneg : ¬ cmpT p.c s < 0 := by have := cmp_neg p.c s; rw [hl] at this; simpa using this
        have HJ2 : Hid (a ≤ (i + j) / 2) := Lib.hid (by rw [HAT.out]; exact at_high HP.out hl)
        clear hl g1
        go_wp2_with fail
        go_roundw
        case rel => exact ⟨i, (i + j) / 2, rfl, by rw [show ((i : Int) + (j : Int)) / 2 = (((i + j) / 2 : Nat) : Int) by omega], HI, HJ2, by omega, hbt⟩
        case measure => simp [intOf]; omega
      · have hneg : cmpT p.c s < 0 := by have := cmp_neg p.c s; rw [hl] at this; simpa using this
        have HI2 : Hid ((i + j) / 2 + 1 ≤ a) := Lib.hid (by rw [HAT.out]; exact at_low HG.out HP.out hl)
        clear hl g1
        go_wp2_with fail
        go_roundw
        case rel => exact ⟨(i + j) / 2 + 1, j, by rw [show ((i : Int) + (j : Int)) / 2 + 1 = (((i + j) / 2 + 1 : Nat) : Int) by omega], rfl, HI2, HJ, hjn, hbt⟩
        case measure => simp [intOf]; omega
    · obtain rfl : i = a := by have h1 := HI.out; have h2 := HJ.out; omega
      obtain rfl : i = j := by have h2 := HJ.out; omega
      by_cases hin : i < n
      · obtain ⟨p, hp⟩ : ∃ p, ps[i]? = some p := ⟨ps[i]'(by have := HN.out; omega), List.getElem?_eq_getElem _⟩
        obtain ⟨b, o, rfl, hbl, A1, d1, c0, c1, c2, c3, c4, hnm, _⟩ := (H.out.below hbw (Nat.le_refl _)).row hp
        have CX := Lib.hid (CC.out p A1 d1 wr)
        have HTH : Hid (thereB ps s = decide (p.c = s)) := Lib.hid (there_some (by rw [← HAT.out]; exact hp))
        have hz := cmp_zero p.c s
        obtain ⟨z, hzz⟩ : ∃ z, z = decide (p.c = s) := ⟨_, rfl⟩
        rw [← hzz] at HTH hz
        have u1 : (i : Int) < (n : Int) := by omega
        have u2 : (0 : Int) ≤ (i : Int) := Int.natCast_nonneg _
        clear hp hnm hzz
        go_wp2_with fail
        refine CX.out.mono ?_
        rintro e w1 ⟨rfl, g1⟩
        have hbt := bstep9 hbw hbw.size g1
        clear g1
        go_wp2_with fail
        go_ret2
        exact ⟨by rw [HTH.out]; rfl, hbt⟩
      · have HTH : Hid (thereB ps s = false) := Lib.hid (there_none (by rw [← HAT.out]; exact List.getElem?_eq_none (by have := HN.out; omega)))
        have u1 : ¬ (i : Int) < (n : Int) := by omega
        go_wp2_with fail
        go_ret2
        exact ⟨by rw [HTH.out]; rfl, hbw⟩
theorem cSearch (A : Option Addr) (n c : Nat) (ps : List Pl) (s : ByteArray) (w : World) (hb : n ≤ 1048576) (hg : Grows ps) (h : PlAt w w.heap.size A n ps) :
    Calls Tryz.prog 55 #[.slice A n c, .string s] w fun e w' => e = .returned (.tuple #[.int .i64 (atP ps s : Nat), .bool (thereB ps s)]) ∧ Below w.heap.size w w' := by
  have C := Lib.hid (cBin A n c ps s w hb hg h)
  clear h hg
  obtain ⟨a, ha⟩ : ∃ a, a = atP ps s := ⟨_, rfl⟩
  obtain ⟨t, ht⟩ : ∃ t, t = thereB ps s := ⟨_, rfl⟩
  rw [← ha, ← ht] at C ⊢
  clear ha ht
  go_enter Tryz.func55, Tryz.ntmps55
  go_wp2_with fail
  refine C.out.mono ?_
  rintro e w1 ⟨rfl, g1⟩
  go_wp2_with fail
  go_ret2
  exact ⟨rfl, g1⟩
end
section
set_option linter.unusedVariables false
open Go.RowKit

theorem cl_s {x y : Nm} (h : ¬ y.s = 0) : clB x y = false := by unfold clB; rw [decide_eq_false h]; simp
theorem cl_l {x y : Nm} (h : ¬ x.l = y.l) : clB x y = false := by unfold clB; rw [decide_eq_false h]; simp
theorem cl_m {x y : Nm} (h1 : x.s = 0) (h2 : y.s = 0) (h3 : x.l = y.l) : clB x y = meetB x.f x.u y.f y.u := by unfold clB; rw [decide_eq_true h1, decide_eq_true h2, decide_eq_true h3]; rfl
theorem cl_step {x : Nm} {y : Nm} {xs : List Nm} {m : Nat} (h : xs[m]? = some y) (ha : ∀ z ∈ xs.take m, clB x z = false) (hc : clB x y = false) : ∀ z ∈ xs.take (m + 1), clB x z = false := by
  rw [take_snoc9 h]; intro z hz; rw [List.mem_append] at hz
  rcases hz with hz | hz
  · exact ha z hz
  · obtain rfl : z = y := by simpa using hz
    exact hc

set_option maxHeartbeats 4000000 in
set_option maxRecDepth 100000 in
theorem cAreN_spec (A : Option Addr) (n c : Nat) (xs : List Nm) (w : World) (hb : n ≤ 1048576) (hz : Sz9 xs) (h : NmAt w w.heap.size A n xs) :
    Calls Tryz.prog 85 #[.slice A n c] w fun e w' => e = .returned (.bool (namesB xs)) ∧ Below w.heap.size w w' := by
  have HN := Lib.hid h.1
  have H := Lib.hid h
  have CC := Lib.hid (fun (x : Nm) (hx : x ∈ xs) W => cIsName_spec x W (by have := (hz x hx).1; omega) (by have := (hz x hx).2; unfold maxLen; omega))
  have CM := Lib.hid (fun (x y : Nm) W => cMeet_spec x.f x.u y.f y.u W)
  clear h hz
  go_enter Tryz.func85, Tryz.ntmps85
  go_wp2_with fail
  go_loopw [3] (fun i wr => ∃ k : Nat, k ≤ n ∧ i = .int .i64 k ∧ Hid (Good (xs.take k)) ∧ Below w.heap.size w wr) (fun i _ => n - (intOf i).toNat)
  case atStart => exact ⟨0, Nat.zero_le _, rfl, Lib.hid (good9_zero xs), Below.refl _ _⟩
  case round =>
    rename World => wo
    obtain ⟨k, hk, rfl, HG, hbw⟩ := hrel
    by_cases hlt : k < n
    · obtain ⟨x, hx⟩ : ∃ x, xs[k]? = some x := ⟨xs[k]'(by have := HN.out; omega), List.getElem?_eq_getElem _⟩
      have HR := (H.out.below hbw (Nat.le_refl _)).row hx
      have HX := Lib.hid hx
      have u1 : (0 : Int) ≤ (k : Int) := Int.natCast_nonneg _
      have u2 : (k : Int) < (n : Int) := by omega
      have CX := Lib.hid (fun W => CC.out x (List.mem_of_getElem? hx) W)
      have KB := Lib.hid (fun W hW => nm_box (w := wo) (W := W) (x := x) (t := 100) hW)
      have hbo := hbw.alloc hbw.size (.cells #[.string x.t, .string x.l, .int .i64 x.s, .int .i64 x.f, .int .i64 x.u] 100)
      obtain ⟨b, o, rfl, hbl, c0, c1, c2, c3, c4⟩ := HR
      have HBO := Lib.hid hbo
      have HBL := Lib.hid (show wo.heap.size < (wo.alloc (.cells #[.string x.t, .string x.l, .int .i64 x.s, .int .i64 x.f, .int .i64 x.u] 100)).heap.size by simp)
      clear hx hbo
      obtain ⟨q, hq⟩ : ∃ q, q = nmB x := ⟨_, rfl⟩
      rw [← hq] at CX
      go_wp2_with fail
      refine (CX.out _).mono ?_
      rintro e w1 ⟨rfl, g1⟩
      have hbt := bstep9 HBO.out HBO.out.size g1
      have HBT := Lib.hid hbt
      have HB1 := Lib.hid g1
      have HL1 := Lib.hid (Nat.lt_of_lt_of_le HBL.out g1.size)
      clear hbt g1 c0 c1 c2 c3 c4 CX
      cases q
      · have HG2 := Lib.hid (names_no (good9_bad HX.out hq.symm))
        clear hq
        go_wp2_with fail
        go_ret
        exact ⟨ret_bool HG2.out.symm, HBT.out⟩
      have HQ := Lib.hid hq
      clear hq
      go_wp2_with fail
      go_loopw [5] (fun i wq => ∃ m : Nat, m ≤ k ∧ i = .int .i64 m ∧ Hid (∀ z ∈ xs.take m, clB x z = false) ∧ Below w1.heap.size w1 wq) (fun i _ => k - (intOf i).toNat)
      case atStart => exact ⟨0, Nat.zero_le _, rfl, Lib.hid (by simp), Below.refl _ _⟩
      case round =>
        obtain ⟨m, hm, rfl, HA, hbq⟩ := hrel
        by_cases hlm : m < k
        · obtain ⟨y, hy⟩ : ∃ y, xs[m]? = some y := ⟨xs[m]'(by have := HN.out; omega), List.getElem?_eq_getElem _⟩
          have hbwq := bstep9 HBT.out HBT.out.size hbq
          obtain ⟨b2, o2, hA, hbl2, d0, d1, d2, d3, d4⟩ := (H.out.below hbwq (Nat.le_refl _)).row hy
          obtain ⟨rfl, rfl⟩ : b = b2 ∧ o = o2 := by injection hA with hA; injection hA with e1 e2; exact ⟨e1, e2⟩
          obtain ⟨k0, k1, k2, k3, k4⟩ := KB.out wr (HB1.out.trans (hbq.mono HB1.out.size))
          have HY := Lib.hid hy
          have u3 : (0 : Int) ≤ (m : Int) := Int.natCast_nonneg _
          have u4 : (m : Int) < (n : Int) := by omega
          have u5 : (m : Int) < (k : Int) := by omega
          have hlw : wo.heap.size < wr.heap.size := Nat.lt_of_lt_of_le HL1.out hbq.size
          have hbb := hbq.alloc hbq.size (.cells #[.string y.t, .string y.l, .int .i64 y.s, .int .i64 y.f, .int .i64 y.u] 100)
          have HBB := Lib.hid hbb
          have HBW := Lib.hid hbwq
          clear hy hA hbb hbwq
          by_cases s1 : x.s = 0
          · have z1 : (x.s == 0) = true := by simp [s1]
            by_cases s2 : y.s = 0
            · have z2 : (y.s == 0) = true := by simp [s2]
              by_cases s3 : x.l = y.l
              · have z3 : (x.l.toList == y.l.toList) = true := by rw [toList_beq]; exact decide_eq_true s3
                have HC := Lib.hid (cl_m s1 s2 s3)
                have CY := Lib.hid (CM.out x y)
                obtain ⟨v, hv⟩ : ∃ v, v = meetB x.f x.u y.f y.u := ⟨_, rfl⟩
                rw [← hv] at HC CY
                clear s1 s2 s3 hv
                go_wp2_with fail
                refine (CY.out _).mono ?_
                rintro e w2 ⟨rfl, g2⟩
                have hb2 := bstep9 HBB.out HBB.out.size g2
                clear g2
                cases v
                · have HA2 := Lib.hid (cl_step HY.out HA.out HC.out)
                  go_wp2_with fail
                  go_roundw
                  case rel => exact ⟨m + 1, by omega, by go_num, HA2, hb2⟩
                  case measure => simp [intOf]; omega
                · have HG2 := Lib.hid (names_no (good9_meet HX.out HY.out hlm HC.out))
                  go_wp2_with fail
                  go_ret
                  exact ⟨ret_bool HG2.out.symm, bstep9 HBT.out HBT.out.size hb2⟩
              · have z3 : (x.l.toList == y.l.toList) = false := by rw [toList_beq]; exact decide_eq_false s3
                have HA2 := Lib.hid (cl_step HY.out HA.out (cl_l s3))
                clear s1 s2 s3
                go_wp2_with fail
                go_roundw
                case rel => exact ⟨m + 1, by omega, by go_num, HA2, HBB.out⟩
                case measure => simp [intOf]; omega
            · have z2 : (y.s == 0) = false := by simp [s2]
              have HA2 := Lib.hid (cl_step HY.out HA.out (cl_s s2))
              clear s1 s2
              go_wp2_with fail
              go_roundw
              case rel => exact ⟨m + 1, by omega, by go_num, HA2, HBB.out⟩
              case measure => simp [intOf]; omega
          · have z1 : (x.s == 0) = false := by simp [s1]
            have HA2 := Lib.hid (cl_step HY.out HA.out (cl_no s1))
            clear s1
            go_wp2_with fail
            go_roundw
            case rel => exact ⟨m + 1, by omega, by go_num, HA2, HBB.out⟩
            case measure => simp [intOf]; omega
        · obtain rfl : m = k := by omega
          have HG2 := Lib.hid (good9_step HX.out HG.out HQ.out.symm HA.out)
          have hb2 := bstep9 HBT.out HBT.out.size hbq
          go_wp2_with fail
          go_roundw
          case rel => exact ⟨m + 1, by omega, by go_num, HG2, hb2⟩
          case measure => simp [intOf]; omega
    · have HG2 := Lib.hid (names_sum n HN.out (good9_end (k := k) (by have := HN.out; omega) HG.out))
      go_wp2_with fail
      go_ret
      exact ⟨ret_bool HG2.out.symm, hbw⟩
end
end Go.Proofs.YtglmibmjbignbaaGreatDoor
