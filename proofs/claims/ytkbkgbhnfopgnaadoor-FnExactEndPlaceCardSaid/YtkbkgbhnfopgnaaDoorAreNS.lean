/-
  The contract of spec.AreNames.
-/
import Derived.Test.YtkbkgbhnfopgnaaDoorAreN
namespace Go.Proofs.YtkbkgbhnfopgnaaDoor
set_option linter.unusedVariables false
open Go.RowKit

theorem cl_s {x y : Nm} (h : ¬ y.s = 0) : clB x y = false := by unfold clB; rw [decide_eq_false h]; simp
theorem cl_l {x y : Nm} (h : ¬ x.l = y.l) : clB x y = false := by unfold clB; rw [decide_eq_false h]; simp
theorem cl_m {x y : Nm} (h1 : x.s = 0) (h2 : y.s = 0) (h3 : x.l = y.l) : clB x y = meetB x.f x.u y.f y.u := by unfold clB; rw [decide_eq_true h1, decide_eq_true h2, decide_eq_true h3]; rfl
theorem cl_step {x : Nm} {y : Nm} {xs : List Nm} {m : Nat} (h : xs[m]? = some y) (ha : ∀ z ∈ xs.take m, clB x z = false) (hc : clB x y = false) : ∀ z ∈ xs.take (m + 1), clB x z = false := by
  rw [take_snoc9 h]; intro z hz; rw [List.mem_append] at hz
  rcases hz with hz | hz
  · exact ha z hz
  · obtain rfl : z = y := by simpa using hz
    exact hc

set_option maxHeartbeats 4000000 in
set_option maxRecDepth 100000 in
theorem cAreN_spec (A : Option Addr) (n c : Nat) (xs : List Nm) (w : World) (hb : n ≤ 1048576) (hz : Sz9 xs) (h : NmAt w w.heap.size A n xs) :
    Calls Tryd.prog 37 #[.slice A n c] w fun e w' => e = .returned (.bool (namesB xs)) ∧ Below w.heap.size w w' := by
  have HN := Lib.hid h.1
  have H := Lib.hid h
  have CC := Lib.hid (fun (x : Nm) (hx : x ∈ xs) W => cIsName_spec x W (by have := (hz x hx).1; omega) (by have := (hz x hx).2; unfold maxLen; omega))
  have CM := Lib.hid (fun (x y : Nm) W => cMeet_spec x.f x.u y.f y.u W)
  clear h hz
  go_enter Tryd.func37, Tryd.ntmps37
  go_wp2_with fail
  go_loopw [3] (fun i wr => ∃ k : Nat, k ≤ n ∧ i = .int .i64 k ∧ Hid (Good (xs.take k)) ∧ Below w.heap.size w wr) (fun i _ => n - (intOf i).toNat)
  case atStart => exact ⟨0, Nat.zero_le _, rfl, Lib.hid (good9_zero xs), Below.refl _ _⟩
  case round =>
    rename World => wo
    obtain ⟨k, hk, rfl, HG, hbw⟩ := hrel
    by_cases hlt : k < n
    · obtain ⟨x, hx⟩ : ∃ x, xs[k]? = some x := ⟨xs[k]'(by have := HN.out; omega), List.getElem?_eq_getElem _⟩
      have HR := (H.out.below hbw (Nat.le_refl _)).row hx
      have HX := Lib.hid hx
      have u1 : (0 : Int) ≤ (k : Int) := Int.natCast_nonneg _
      have u2 : (k : Int) < (n : Int) := by omega
      have CX := Lib.hid (fun W => CC.out x (List.mem_of_getElem? hx) W)
      have KB := Lib.hid (fun W hW => nm_box (w := wo) (W := W) (x := x) (t := 65) hW)
      have hbo := hbw.alloc hbw.size (.cells #[.string x.t, .string x.l, .int .i64 x.s, .int .i64 x.f, .int .i64 x.u] 65)
      obtain ⟨b, o, rfl, hbl, c0, c1, c2, c3, c4⟩ := HR
      have HBO := Lib.hid hbo
      have HBL := Lib.hid (show wo.heap.size < (wo.alloc (.cells #[.string x.t, .string x.l, .int .i64 x.s, .int .i64 x.f, .int .i64 x.u] 65)).heap.size by simp)
      clear hx hbo
      obtain ⟨q, hq⟩ : ∃ q, q = nmB x := ⟨_, rfl⟩
      rw [← hq] at CX
      go_wp2_with fail
      refine (CX.out _).mono ?_
      rintro e w1 ⟨rfl, g1⟩
      have hbt := bstep9 HBO.out HBO.out.size g1
      have HBT := Lib.hid hbt
      have HB1 := Lib.hid g1
      have HL1 := Lib.hid (Nat.lt_of_lt_of_le HBL.out g1.size)
      clear hbt g1 c0 c1 c2 c3 c4 CX
      cases q
      · have HG2 := Lib.hid (names_no (good9_bad HX.out hq.symm))
        clear hq
        go_wp2_with fail
        go_ret
        exact ⟨ret_bool HG2.out.symm, HBT.out⟩
      have HQ := Lib.hid hq
      clear hq
      go_wp2_with fail
      go_loopw [5] (fun i wq => ∃ m : Nat, m ≤ k ∧ i = .int .i64 m ∧ Hid (∀ z ∈ xs.take m, clB x z = false) ∧ Below w1.heap.size w1 wq) (fun i _ => k - (intOf i).toNat)
      case atStart => exact ⟨0, Nat.zero_le _, rfl, Lib.hid (by simp), Below.refl _ _⟩
      case round =>
        obtain ⟨m, hm, rfl, HA, hbq⟩ := hrel
        by_cases hlm : m < k
        · obtain ⟨y, hy⟩ : ∃ y, xs[m]? = some y := ⟨xs[m]'(by have := HN.out; omega), List.getElem?_eq_getElem _⟩
          have hbwq := bstep9 HBT.out HBT.out.size hbq
          obtain ⟨b2, o2, hA, hbl2, d0, d1, d2, d3, d4⟩ := (H.out.below hbwq (Nat.le_refl _)).row hy
          obtain ⟨rfl, rfl⟩ : b = b2 ∧ o = o2 := by injection hA with hA; injection hA with e1 e2; exact ⟨e1, e2⟩
          obtain ⟨k0, k1, k2, k3, k4⟩ := KB.out wr (HB1.out.trans (hbq.mono HB1.out.size))
          have HY := Lib.hid hy
          have u3 : (0 : Int) ≤ (m : Int) := Int.natCast_nonneg _
          have u4 : (m : Int) < (n : Int) := by omega
          have u5 : (m : Int) < (k : Int) := by omega
          have hlw : wo.heap.size < wr.heap.size := Nat.lt_of_lt_of_le HL1.out hbq.size
          have hbb := hbq.alloc hbq.size (.cells #[.string y.t, .string y.l, .int .i64 y.s, .int .i64 y.f, .int .i64 y.u] 65)
          have HBB := Lib.hid hbb
          have HBW := Lib.hid hbwq
          clear hy hA hbb hbwq
          by_cases s1 : x.s = 0
          · have z1 : (x.s == 0) = true := by simp [s1]
            by_cases s2 : y.s = 0
            · have z2 : (y.s == 0) = true := by simp [s2]
              by_cases s3 : x.l = y.l
              · have z3 : (x.l.toList == y.l.toList) = true := by rw [toList_beq]; exact decide_eq_true s3
                have HC := Lib.hid (cl_m s1 s2 s3)
                have CY := Lib.hid (CM.out x y)
                obtain ⟨v, hv⟩ : ∃ v, v = meetB x.f x.u y.f y.u := ⟨_, rfl⟩
                rw [← hv] at HC CY
                clear s1 s2 s3 hv
                go_wp2_with fail
                refine (CY.out _).mono ?_
                rintro e w2 ⟨rfl, g2⟩
                have hb2 := bstep9 HBB.out HBB.out.size g2
                clear g2
                cases v
                · have HA2 := Lib.hid (cl_step HY.out HA.out HC.out)
                  go_wp2_with fail
                  go_roundw
                  case rel => exact ⟨m + 1, by omega, by go_num, HA2, hb2⟩
                  case measure => simp [intOf]; omega
                · have HG2 := Lib.hid (names_no (good9_meet HX.out HY.out hlm HC.out))
                  go_wp2_with fail
                  go_ret
                  exact ⟨ret_bool HG2.out.symm, bstep9 HBT.out HBT.out.size hb2⟩
              · have z3 : (x.l.toList == y.l.toList) = false := by rw [toList_beq]; exact decide_eq_false s3
                have HA2 := Lib.hid (cl_step HY.out HA.out (cl_l s3))
                clear s1 s2 s3
                go_wp2_with fail
                go_roundw
                case rel => exact ⟨m + 1, by omega, by go_num, HA2, HBB.out⟩
                case measure => simp [intOf]; omega
            · have z2 : (y.s == 0) = false := by simp [s2]
              have HA2 := Lib.hid (cl_step HY.out HA.out (cl_s s2))
              clear s1 s2
              go_wp2_with fail
              go_roundw
              case rel => exact ⟨m + 1, by omega, by go_num, HA2, HBB.out⟩
              case measure => simp [intOf]; omega
          · have z1 : (x.s == 0) = false := by simp [s1]
            have HA2 := Lib.hid (cl_step HY.out HA.out (cl_no s1))
            clear s1
            go_wp2_with fail
            go_roundw
            case rel => exact ⟨m + 1, by omega, by go_num, HA2, HBB.out⟩
            case measure => simp [intOf]; omega
        · obtain rfl : m = k := by omega
          have HG2 := Lib.hid (good9_step HX.out HG.out HQ.out.symm HA.out)
          have hb2 := bstep9 HBT.out HBT.out.size hbq
          go_wp2_with fail
          go_roundw
          case rel => exact ⟨m + 1, by omega, by go_num, HG2, hb2⟩
          case measure => simp [intOf]; omega
    · have HG2 := Lib.hid (names_sum n HN.out (good9_end (k := k) (by have := HN.out; omega) HG.out))
      go_wp2_with fail
      go_ret
      exact ⟨ret_bool HG2.out.symm, hbw⟩
end Go.Proofs.YtkbkgbhnfopgnaaDoor
