/-
  The contracts of SharperTable, of the program and of the reference.
-/
import Derived.Test.YtmbahbnadkmnkaaSndS
namespace Go.Proofs.Ytmbahbnadkmnkaa
set_option linter.unusedVariables false
open Go.RowKit

def ruleR (xs ys : List Int) (i k : Nat) : Bool := !(xs[i]? == xs[k]?) || (ys[i]? == ys[k]?)
theorem ruleR_stop {xs ys : List Int} {i k : Nat} {a b c : Int} (h1 : xs[i]? = some a) (h2 : xs[k]? = some a) (h3 : ys[i]? = some b) (h4 : ys[k]? = some c) (h : b ≠ c) : ruleR xs ys i k = false := by
  unfold ruleR; rw [h1, h2, h3, h4]; simp [h]
theorem ruleR_go {xs ys : List Int} {i k : Nat} {a d b c : Int} (h1 : xs[i]? = some a) (h2 : xs[k]? = some d) (h3 : ys[i]? = some b) (h4 : ys[k]? = some c) (h : a ≠ d ∨ b = c) : ruleR xs ys i k = true := by
  unfold ruleR; rw [h1, h2, h3, h4]
  rcases h with h | h
  · simp [h]
  · simp [h]
def sharpI (xs ys : List Int) (i k : Nat) : Bool := (List.range k).all (ruleR xs ys i)
theorem sharpI_zero (xs ys : List Int) (i : Nat) : sharpI xs ys i 0 = true := rfl
theorem sharpI_step {xs ys : List Int} {i k : Nat} (h : sharpI xs ys i k = true) (h2 : ruleR xs ys i k = true) : sharpI xs ys i (k + 1) = true := by
  unfold sharpI at *; rw [List.range_succ, List.all_append, h]; simp [h2]
def sharpU (xs ys : List Int) (i : Nat) : Bool := (List.range i).all fun j => sharpI xs ys j 26
theorem sharpU_zero (xs ys : List Int) : sharpU xs ys 0 = true := rfl
theorem sharpU_step {xs ys : List Int} {i : Nat} (h : sharpU xs ys i = true) (h2 : sharpI xs ys i 26 = true) : sharpU xs ys (i + 1) = true := by
  unfold sharpU at *; rw [List.range_succ, List.all_append, h]; simp [h2]
theorem sharp_stop {xs ys : List Int} {i k : Nat} (hi : i < 26) (hk : k < 26) (h : ruleR xs ys i k = false) : sharpU xs ys 26 = false := by
  unfold sharpU; rw [List.all_eq_false]
  refine ⟨i, List.mem_range.2 hi, ?_⟩
  unfold sharpI
  rw [Bool.not_eq_true, List.all_eq_false]
  exact ⟨k, List.mem_range.2 hk, by rw [h]; decide⟩
def shpT (xs ys : List Int) : Bool := tabB xs && tabB ys
def shpZ (xs ys : List Int) : Bool := shpT xs ys && sharpU xs ys 26
def shpC (xs ys : List Int) : Int := if shpT xs ys then 0 else 1
theorem shp_no {xs ys : List Int} (h : shpT xs ys = false) : shpZ xs ys = false ∧ shpC xs ys = 1 := by unfold shpZ shpC; rw [h]; exact ⟨rfl, rfl⟩
theorem shp_yes {xs ys : List Int} (h : shpT xs ys = true) : shpZ xs ys = sharpU xs ys 26 ∧ shpC xs ys = 0 := by unfold shpZ shpC; rw [h]; exact ⟨rfl, rfl⟩
theorem shpT_no1 {xs ys : List Int} (h : tabB xs = false) : shpT xs ys = false := by unfold shpT; rw [h]; rfl
theorem shpT_no2 {xs ys : List Int} (h : tabB ys = false) : shpT xs ys = false := by unfold shpT; rw [h, Bool.and_false]
theorem num_at26 {w : World} {B b o : Nat} {xs : List Int} (h : NumAt w B (some ⟨b, o, none⟩) 26 xs) (k : Nat) (hk : k < 26) : ∃ x, xs[k]? = some x ∧ w.cell? ⟨b, o + k, none⟩ = some (.int .i64 x) := by
  obtain ⟨b', o', e, _, hc⟩ := h.2 (by omega)
  cases e
  have hl : k < xs.length := by rw [← h.1]; exact hk
  exact ⟨xs[k], List.getElem?_eq_getElem hl, hc k _ (List.getElem?_eq_getElem hl)⟩

set_option maxHeartbeats 2000000 in
set_option maxRecDepth 100000 in
theorem cSharp_impl (A A1 : Option Addr) (n c n1 c1 : Nat) (xs ys : List Int) (w : World) (hb : n ≤ maxLen) (h : NumAt w w.heap.size A n xs) (hb1 : n1 ≤ maxLen) (h1 : NumAt w w.heap.size A1 n1 ys) :
    Calls Try.prog 16 #[.slice A n c, .slice A1 n1 c1] w fun e w' => e = .returned (.tuple #[.bool (shpZ xs ys), .int .i64 (shpC xs ys)]) ∧ Below w.heap.size w w' := by
  have C1 := Lib.hid (cIsTab A n c xs w hb h)
  have C2 := Lib.hid (fun W (hW : Below w.heap.size w W) => cIsTab A1 n1 c1 ys W hb1 ((h1.below hW (Nat.le_refl _)).more hW.size))
  cases e1 : tabB xs
  · rw [e1] at C1
    obtain ⟨z1, z2⟩ := shp_no (shpT_no1 (ys := ys) e1)
    rw [z1, z2]
    clear e1 z1 z2 h h1
    go_enter Try.func16, Try.ntmps16
    go_wp2_with fail
    refine C1.out.mono ?_
    rintro e w1 ⟨rfl, g1⟩
    go_wp2_with fail
    go_ret2
    exact ⟨rfl, g1⟩
  cases e2 : tabB ys
  · rw [e1] at C1
    rw [e2] at C2
    obtain ⟨z1, z2⟩ := shp_no (shpT_no2 (xs := xs) e2)
    rw [z1, z2]
    clear e1 e2 z1 z2 h h1
    go_enter Try.func16, Try.ntmps16
    go_wp2_with fail
    refine C1.out.mono ?_
    rintro e w1 ⟨rfl, g1⟩
    go_wp2_with fail
    refine (C2.out _ g1).mono ?_
    rintro e w2 ⟨rfl, g2⟩
    go_wp2_with fail
    go_ret2
    exact ⟨rfl, g1.trans (g2.mono g1.size)⟩
  obtain ⟨z1, z2⟩ := shp_yes (show shpT xs ys = true by unfold shpT; rw [e1, e2]; rfl)
  rw [z1, z2]
  rw [e1] at C1
  rw [e2] at C2
  have hn26 : n = 26 := by rw [h.1, tab_len e1]
  have hn26' : n1 = 26 := by rw [h1.1, tab_len e2]
  subst hn26
  subst hn26'
  obtain ⟨b, o, rfl, hbl, _⟩ := h.2 (by omega)
  obtain ⟨b1, o1, rfl, hbl1, _⟩ := h1.2 (by omega)
  have HA : Hid (∀ (W : World), Below w.heap.size w W → ∀ k, k < 26 → ∃ x, xs[k]? = some x ∧ W.cell? ⟨b, o + k, none⟩ = some (.int .i64 x)) := Lib.hid (fun W hW k hk => num_at26 (h.below hW (Nat.le_refl _)) k hk)
  have HB : Hid (∀ (W : World), Below w.heap.size w W → ∀ k, k < 26 → ∃ x, ys[k]? = some x ∧ W.cell? ⟨b1, o1 + k, none⟩ = some (.int .i64 x)) := Lib.hid (fun W hW k hk => num_at26 (h1.below hW (Nat.le_refl _)) k hk)
  clear e1 e2 z1 z2 h h1
  go_enter Try.func16, Try.ntmps16
  go_wp2_with fail
  refine C1.out.mono ?_
  rintro e w1 ⟨rfl, g1⟩
  go_wp2_with fail
  refine (C2.out _ g1).mono ?_
  rintro e w2 ⟨rfl, g2⟩
  have B2 := g1.trans (g2.mono g1.size)
  clear g1 g2 C1 C2
  go_wp2_with fail
  go_loopw [6, 7, 18] (fun u v i wr => ∃ (k : Nat) (a d : Value), a = u ∧ d = v ∧ k ≤ 26 ∧ i = .int .i64 k ∧ Hid (sharpU xs ys k = true) ∧ Below w.heap.size w wr) (fun _ _ i _ => 26 - (intOf i).toNat)
  case atStart => exact ⟨0, _, _, rfl, rfl, by omega, rfl, Lib.hid rfl, B2⟩
  case round =>
    clear B2
    obtain ⟨i, u, v, rfl, rfl, hi, rfl, HU, hB⟩ := hrel
    by_cases hlt : i < 26
    · have i1 : (i : Int) < 26 := by omega
      go_wp2_with fail
      go_loopw [7, 23] (fun v q wr => ∃ (k : Nat) (d : Value), d = v ∧ k ≤ 26 ∧ q = .int .i64 k ∧ Hid (sharpI xs ys i k = true) ∧ Below w.heap.size w wr) (fun _ q _ => 26 - (intOf q).toNat)
      case atStart => exact ⟨0, _, rfl, by omega, rfl, Lib.hid rfl, hB⟩
      case round =>
        clear hB
        obtain ⟨k, v, rfl, hk, rfl, HI, hB⟩ := hrel
        by_cases hlt2 : k < 26
        · obtain ⟨xa, hxa, ca⟩ := HA.out _ hB i hlt
          obtain ⟨xd, hxd, cd⟩ := HA.out _ hB k hlt2
          obtain ⟨yb, hyb, cb⟩ := HB.out _ hB i hlt
          obtain ⟨yc, hyc, cc⟩ := HB.out _ hB k hlt2
          have HS := Lib.hid (fun h => ruleR_go hxa hxd hyb hyc h)
          have HT := Lib.hid (fun (e : xd = xa) (h : yb ≠ yc) => ruleR_stop hxa (e ▸ hxd) hyb hyc h)
          clear hxa hxd hyb hyc
          have i2 : (k : Int) < 26 := by omega
          by_cases hx : xa = xd
          · by_cases hy : yb = yc
            · have HR := Lib.hid (sharpI_step HI.out (HS.out (.inr hy)))
              subst hx
              subst hy
              go_wp2_with fail
              go_quiet (fail)
              go_wp2_with fail
              go_roundw
              case rel => exact ⟨k + 1, _, rfl, by omega, by go_num, HR, below_drN hB _⟩
              case measure => simp [intOf]; omega
            · have HR := Lib.hid (sharp_stop hlt hlt2 (HT.out hx.symm hy))
              subst hx
              have d1 : (yb == yc) = false := by simp; exact hy
              have d2 : (yb != yc) = true := by simp; exact hy
              go_wp2_with fail
              go_quiet (fail)
              go_wp2_with fail
              go_ret2
              exact ⟨congrArg (fun z => Ending.returned (.tuple #[.bool z, .int .i64 0])) HR.out.symm, below_drN hB _⟩
          · have HR := Lib.hid (sharpI_step HI.out (HS.out (.inl hx)))
            have d1 : (xa == xd) = false := by simp; exact hx
            have d2 : (xa != xd) = true := by simp; exact hx
            go_wp2_with fail
            go_quiet (fail)
            go_wp2_with fail
            go_roundw
            case rel => exact ⟨k + 1, _, rfl, by omega, by go_num, HR, below_drN hB _⟩
            case measure => simp [intOf]; omega
        · obtain rfl : k = 26 := by omega
          have HR := Lib.hid (sharpU_step HU.out HI.out)
          go_wp2_with fail
          go_roundw
          case rel => exact ⟨i + 1, _, _, rfl, rfl, by omega, by go_num, HR, hB⟩
          case measure => simp [intOf]; omega
    · obtain rfl : i = 26 := by omega
      go_wp2_with fail
      go_ret2
      exact ⟨congrArg (fun z => Ending.returned (.tuple #[.bool z, .int .i64 0])) HU.out.symm, hB⟩
set_option maxHeartbeats 2000000 in
set_option maxRecDepth 100000 in
theorem cSharp_spec (A A1 : Option Addr) (n c n1 c1 : Nat) (xs ys : List Int) (w : World) (hb : n ≤ maxLen) (h : NumAt w w.heap.size A n xs) (hb1 : n1 ≤ maxLen) (h1 : NumAt w w.heap.size A1 n1 ys) :
    Calls Try.prog 17 #[.slice A n c, .slice A1 n1 c1] w fun e w' => e = .returned (.tuple #[.bool (shpZ xs ys), .int .i64 (shpC xs ys)]) ∧ Below w.heap.size w w' := by
  have C1 := Lib.hid (cIsTabS A n c _ xs w hb h)
  have C2 := Lib.hid (cIsTabS A1 n1 c1 _ ys w hb1 h1)
  cases e1 : tabB xs
  · rw [e1] at C1
    obtain ⟨z1, z2⟩ := shp_no (shpT_no1 (ys := ys) e1)
    rw [z1, z2]
    clear e1 z1 z2 h h1
    go_enter Try.func17, Try.ntmps17
    go_wp2_with fail
    refine C1.out.mono ?_
    rintro e w1 ⟨rfl, rfl⟩
    go_wp2_with fail
    go_ret2
    exact ⟨rfl, Below.refl _ _⟩
  cases e2 : tabB ys
  · rw [e1] at C1
    rw [e2] at C2
    obtain ⟨z1, z2⟩ := shp_no (shpT_no2 (xs := xs) e2)
    rw [z1, z2]
    clear e1 e2 z1 z2 h h1
    go_enter Try.func17, Try.ntmps17
    go_wp2_with fail
    refine C1.out.mono ?_
    rintro e w1 ⟨rfl, rfl⟩
    go_wp2_with fail
    refine C2.out.mono ?_
    rintro e w2 ⟨rfl, rfl⟩
    go_wp2_with fail
    go_ret2
    exact ⟨rfl, Below.refl _ _⟩
  obtain ⟨z1, z2⟩ := shp_yes (show shpT xs ys = true by unfold shpT; rw [e1, e2]; rfl)
  rw [z1, z2]
  rw [e1] at C1
  rw [e2] at C2
  have hn26 : n = 26 := by rw [h.1, tab_len e1]
  have hn26' : n1 = 26 := by rw [h1.1, tab_len e2]
  subst hn26
  subst hn26'
  obtain ⟨b, o, rfl, hbl, _⟩ := h.2 (by omega)
  obtain ⟨b1, o1, rfl, hbl1, _⟩ := h1.2 (by omega)
  have HA : Hid (∀ (W : World), Below w.heap.size w W → ∀ k, k < 26 → ∃ x, xs[k]? = some x ∧ W.cell? ⟨b, o + k, none⟩ = some (.int .i64 x)) := Lib.hid (fun W hW k hk => num_at26 (h.below hW (Nat.le_refl _)) k hk)
  have HB : Hid (∀ (W : World), Below w.heap.size w W → ∀ k, k < 26 → ∃ x, ys[k]? = some x ∧ W.cell? ⟨b1, o1 + k, none⟩ = some (.int .i64 x)) := Lib.hid (fun W hW k hk => num_at26 (h1.below hW (Nat.le_refl _)) k hk)
  clear e1 e2 z1 z2 h h1
  go_enter Try.func17, Try.ntmps17
  go_wp2_with fail
  refine C1.out.mono ?_
  rintro e w1 ⟨rfl, rfl⟩
  go_wp2_with fail
  refine C2.out.mono ?_
  rintro e w2 ⟨rfl, rfl⟩
  have B2 := Below.refl w.heap.size w
  clear C1 C2
  go_wp2_with fail
  go_loopw [6, 7] (fun i v wr => ∃ (k : Nat) (d : Value), d = v ∧ k ≤ 26 ∧ i = .int .i64 k ∧ Hid (sharpU xs ys k = true) ∧ Below w.heap.size w wr) (fun i _ _ => 26 - (intOf i).toNat)
  case atStart => exact ⟨0, _, rfl, by omega, rfl, Lib.hid rfl, B2⟩
  case round =>
    clear B2
    obtain ⟨i, v, rfl, hi, rfl, HU, hB⟩ := hrel
    by_cases hlt : i < 26
    · have i1 : (i : Int) < 26 := by omega
      go_wp2_with fail
      go_loopw [7] (fun q wr => ∃ (k : Nat), k ≤ 26 ∧ q = .int .i64 k ∧ Hid (sharpI xs ys i k = true) ∧ Below w.heap.size w wr) (fun q _ => 26 - (intOf q).toNat)
      case atStart => exact ⟨0, by omega, rfl, Lib.hid rfl, hB⟩
      case round =>
        clear hB
        obtain ⟨k, hk, rfl, HI, hB⟩ := hrel
        by_cases hlt2 : k < 26
        · obtain ⟨xa, hxa, ca⟩ := HA.out _ hB i hlt
          obtain ⟨xd, hxd, cd⟩ := HA.out _ hB k hlt2
          obtain ⟨yb, hyb, cb⟩ := HB.out _ hB i hlt
          obtain ⟨yc, hyc, cc⟩ := HB.out _ hB k hlt2
          have HS := Lib.hid (fun h => ruleR_go hxa hxd hyb hyc h)
          have HT := Lib.hid (fun (e : xd = xa) (h : yb ≠ yc) => ruleR_stop hxa (e ▸ hxd) hyb hyc h)
          clear hxa hxd hyb hyc
          have i2 : (k : Int) < 26 := by omega
          by_cases hx : xa = xd
          · by_cases hy : yb = yc
            · have HR := Lib.hid (sharpI_step HI.out (HS.out (.inr hy)))
              subst hx
              subst hy
              go_wp2_with fail
              go_quiet (fail)
              go_wp2_with fail
              go_roundw
              case rel => exact ⟨k + 1, by omega, by go_num, HR, below_drN hB _⟩
              case measure => simp [intOf]; omega
            · have HR := Lib.hid (sharp_stop hlt hlt2 (HT.out hx.symm hy))
              subst hx
              have d1 : (yb == yc) = false := by simp; exact hy
              have d2 : (yb != yc) = true := by simp; exact hy
              go_wp2_with fail
              go_quiet (fail)
              go_wp2_with fail
              go_ret2
              exact ⟨congrArg (fun z => Ending.returned (.tuple #[.bool z, .int .i64 0])) HR.out.symm, below_drN hB _⟩
          · have HR := Lib.hid (sharpI_step HI.out (HS.out (.inl hx)))
            have d1 : (xa == xd) = false := by simp; exact hx
            have d2 : (xa != xd) = true := by simp; exact hx
            go_wp2_with fail
            go_quiet (fail)
            go_wp2_with fail
            go_roundw
            case rel => exact ⟨k + 1, by omega, by go_num, HR, below_drN hB _⟩
            case measure => simp [intOf]; omega
        · obtain rfl : k = 26 := by omega
          have HR := Lib.hid (sharpU_step HU.out HI.out)
          go_wp2_with fail
          go_roundw
          case rel => exact ⟨i + 1, _, rfl, by omega, by go_num, HR, hB⟩
          case measure => simp [intOf]; omega
    · obtain rfl : i = 26 := by omega
      go_wp2_with fail
      go_ret2
      exact ⟨congrArg (fun z => Ending.returned (.tuple #[.bool z, .int .i64 0])) HU.out.symm, hB⟩
end Go.Proofs.Ytmbahbnadkmnkaa
