/-
  The mathematics of the law of names: a renaming changes one year and what follows it alone. And likeNames.
-/
import Derived.Test.YthlilfdndpnbkaaGreatDoorRn9S
import Derived.Test.YthlilfdndpnbkaaGreatDoorBest9S
import Derived.Test.YthlilfdndpnbkaaGreatDoorLang
import Derived.Test.YthlilfdndpnbkaaGreatDoorMu16
namespace Go.Proofs.YthlilfdndpnbkaaGreatDoor
set_option linter.unusedVariables false
open Go.RowKit

theorem ou_parts {l : ByteArray} {z : Int} {a : Nm} (h : ouB l z a = true) : a.s = 0 ∧ a.l = l ∧ a.f ≤ z ∧ z ≤ a.u := by
  unfold ouB ofB usB at h
  simp only [Bool.and_eq_true, decide_eq_true_eq] at h
  exact ⟨h.1.1, h.1.2, h.2.1, h.2.2⟩
theorem ou_mk {l : ByteArray} {z : Int} {a : Nm} (h1 : a.s = 0) (h2 : a.l = l) (h3 : a.f ≤ z) (h4 : z ≤ a.u) : ouB l z a = true := by
  unfold ouB ofB usB
  simp only [Bool.and_eq_true, decide_eq_true_eq]
  exact ⟨⟨h1, h2⟩, h3, h4⟩
theorem off_uniq {xs : List Nm} (hg : Good xs) {l : ByteArray} {z : Int} {i j : Nat} {a b : Nm} (ha : xs[i]? = some a) (hb : xs[j]? = some b) (oa : ouB l z a = true) (ob : ouB l z b = true) : a = b := by
  by_cases hij : i = j
  · subst hij; exact Option.some.inj (ha.symm.trans hb)
  · have h := good9_two hg hij ha hb
    obtain ⟨a1, a2, a3, a4⟩ := ou_parts oa
    obtain ⟨b1, b2, b3, b4⟩ := ou_parts ob
    rw [cl_m a1 b1 (a2.trans b2.symm), meetB_yes (by omega) (by omega)] at h
    cases h
theorem off_at {xs : List Nm} (hn : namesB xs = true) {l : ByteArray} {z : Int} (hl : langB l = true) (hz : yrB z = true) {i : Nat} {a : Nm} (ha : xs[i]? = some a) (oa : ouB l z a = true) :
    offC xs l z = 0 ∧ ∃ k : Nat, offZ xs l z = (k : Int) ∧ xs[k]? = some a := by
  have hq : qC xs [l] z = 0 := qC_ok (by rw [hn]; simp [hl]) hz
  cases hf : offF xs l z with
  | none => rw [fst_none hf i a ha] at oa; cases oa
  | some k =>
    obtain ⟨b, hb, ob, _⟩ := fst_some hf
    obtain rfl := off_uniq (names_of hn).2 ha hb oa ob
    exact ⟨by unfold offC; rw [if_pos hq, hf], k, by unfold offZ; rw [if_pos hq, hf], hb⟩
theorem off_no {xs : List Nm} (hn : namesB xs = true) {l : ByteArray} {z : Int} (hl : langB l = true) (hz : yrB z = true) (h : ∀ (j : Nat) a, xs[j]? = some a → ouB l z a = false) : offC xs l z = 4 := by
  have hq : qC xs [l] z = 0 := qC_ok (by rw [hn]; simp [hl]) hz
  unfold offC; rw [if_pos hq, show offF xs l z = none from fst_miss h]
theorem rn_zero {xs : List Nm} {l t : ByteArray} {y : Int} (h : rnC xs l y t = 0) : ∃ (k : Nat) (x : Nm), xs[k]? = some x ∧ ouB l y x = true ∧ rnZ xs l y t = rnL xs k x y t l ∧ namesB xs = true ∧ langB l = true ∧ yrB y = true ∧ namesB (rnL xs k x y t l) = true := by
  by_cases hp : phraseB t = true
  · by_cases ho : offC xs l y = 0
    · obtain ⟨hq, k, hk⟩ := offC_zero ho
      obtain ⟨x, hx, hox, _⟩ := fst_some (p := ouB l y) hk
      obtain ⟨q1, q2, q3⟩ := qC_zero hq
      by_cases hl : (rnL xs k x y t l).length ≤ 12
      · exact ⟨k, x, hx, hox, rnZ_ok h hk hx, q1, q2, q3, names_yes hl (rn_good (names_of q1).2 hx hox hp q2 q3)⟩
      · rw [rnC_many hp ho hk hx (by omega)] at h; cases h
    · rw [rnC_off hp ho] at h; exact absurd h ho
  · rw [rnC_text (by simpa using hp)] at h; cases h
theorem rn_mem {xs : List Nm} {k i : Nat} {x a : Nm} {y : Int} (hx : xs[k]? = some x) (ha : xs[i]? = some a) (hik : i ≠ k) : a ∈ rnB xs k x y := by
  unfold rnB; split
  · exact List.mem_eraseIdx_iff_getElem?.2 ⟨i, hik, ha⟩
  · exact List.mem_of_getElem? (i := i) (by rw [List.getElem?_set_ne (Ne.symm hik)]; exact ha)
theorem rn_mem_old {xs : List Nm} {k : Nat} {x : Nm} {y : Int} (hx : xs[k]? = some x) (hf : ¬ x.f = y) : oldN x y ∈ rnB xs k x y := by
  unfold rnB; rw [if_neg hf]
  exact List.mem_of_getElem? (i := k) (by rw [List.getElem?_set_self (List.getElem?_eq_some_iff.1 hx).1])
/-- What the law of names asks of a renaming. -/
theorem rn_facts {xs : List Nm} {l t : ByteArray} {y : Int} (h : rnC xs l y t = 0) :
    namesB (rnZ xs l y t) = true ∧ (-3000 ≤ y ∧ y ≤ 3000) ∧ (offC (rnZ xs l y t) l y = 0 ∧ ∃ (k : Nat) (c : Nm), offZ (rnZ xs l y t) l y = (k : Int) ∧ (rnZ xs l y t)[k]? = some c ∧ c.t = t) ∧
    ∀ z, -3000 ≤ z → z < y → (offC xs l z = 4 ∧ offC (rnZ xs l y t) l z = 4) ∨ (offC xs l z = 0 ∧ offC (rnZ xs l y t) l z = 0 ∧ ∃ (i j : Nat) (a c : Nm), offZ xs l z = (i : Int) ∧ xs[i]? = some a ∧ offZ (rnZ xs l y t) l z = (j : Int) ∧ (rnZ xs l y t)[j]? = some c ∧ c.t = a.t) := by
  obtain ⟨k, x, hx, hox, hr, q1, q2, q3, q4⟩ := rn_zero h
  rw [hr]
  obtain ⟨x1, x2, x3, x4⟩ := ou_parts hox
  have hy : -3000 ≤ y ∧ y ≤ 3000 := by unfold yrB at q3; simpa using q3
  have hm : newN t l y x.u ∈ rnL xs k x y t l := by unfold rnL; simp
  refine ⟨q4, hy, ?_, fun z hz0 hz1 => ?_⟩
  · obtain ⟨j, hj⟩ := List.mem_iff_getElem?.1 hm
    obtain ⟨e1, m, e2, e3⟩ := off_at q4 q2 q3 hj (ou_mk (l := l) (z := y) rfl rfl (Int.le_refl _) x4)
    exact ⟨e1, m, _, e2, e3, rfl⟩
  · have hz : yrB z = true := by unfold yrB; simp; omega
    by_cases ha : ∃ (i : Nat) (a : Nm), xs[i]? = some a ∧ ouB l z a = true
    · right
      obtain ⟨i, a, ha, oa⟩ := ha
      obtain ⟨a1, a2, a3, a4⟩ := ou_parts oa
      obtain ⟨c, hc, hct, oc⟩ : ∃ c, c ∈ rnL xs k x y t l ∧ c.t = a.t ∧ ouB l z c = true := by
        by_cases hik : i = k
        · subst hik
          obtain rfl : x = a := Option.some.inj (hx.symm.trans ha)
          exact ⟨oldN x y, List.mem_append_left _ (rn_mem_old hx (by omega)), rfl, ou_mk a1 a2 a3 (by show z ≤ y - 1; omega)⟩
        · exact ⟨a, List.mem_append_left _ (rn_mem hx ha hik), rfl, oa⟩
      obtain ⟨j, hj⟩ := List.mem_iff_getElem?.1 hc
      obtain ⟨e1, m, e2, e3⟩ := off_at q1 q2 hz ha oa
      obtain ⟨f1, p, f2, f3⟩ := off_at q4 q2 hz hj oc
      exact ⟨e1, f1, m, p, a, c, e2, e3, f2, f3, hct⟩
    · left
      have hno : ∀ (j : Nat) a, xs[j]? = some a → ouB l z a = false := fun j a hj => by
        cases hb : ouB l z a
        · rfl
        · exact absurd ⟨j, a, hj, hb⟩ ha
      refine ⟨off_no q1 q2 hz hno, off_no q4 q2 hz fun j a hj => ?_⟩
      cases hb : ouB l z a
      · rfl
      · exfalso
        obtain ⟨b1, b2, b3, b4⟩ := ou_parts hb
        rcases List.mem_append.1 (List.mem_of_getElem? hj) with hm | hm
        · obtain ⟨j2, hj2⟩ := List.mem_iff_getElem?.1 hm
          rcases rnB_at hx hj2 with ⟨e, _, hf⟩ | ⟨i, _, hi, _⟩
          · subst e
            have : ouB l z x = true := ou_mk x1 x2 b3 (by omega)
            rw [hno k x hx] at this; cases this
          · rw [hno i a hi] at hb; cases hb
        · rw [List.mem_singleton] at hm
          subst hm
          have : y ≤ z := b3
          omega
theorem best_some {xs : List Nm} {y : Int} {b : Nat} : ∀ {ls : List ByteArray}, bestF xs y ls = some b → ∃ l ∈ ls, lsF xs l y xs.length = some b
  | [], h => by simp [bestF] at h
  | q :: ls, h => by
    cases hq : lsF xs q y xs.length with
    | some d =>
      simp only [bestF, hq] at h
      cases h
      exact ⟨q, List.mem_cons_self .., hq⟩
    | none =>
      simp only [bestF, hq] at h
      obtain ⟨l, hl, h1⟩ := best_some (ls := ls) h
      exact ⟨l, List.mem_cons_of_mem _ hl, h1⟩
/-- The best name's language is one of those asked for. -/
theorem be_facts {xs : List Nm} {ls : List ByteArray} {y : Int} (h : beC xs ls y = 0) : ∃ (b : Nat) (x : Nm), beZ xs ls y = (b : Int) ∧ xs[b]? = some x ∧ x.l ∈ ls := by
  by_cases hq : qC xs ls y = 0
  · unfold beC at h
    rw [if_pos hq] at h
    cases hb : bestF xs y ls with
    | none => rw [hb] at h; cases h
    | some b =>
      obtain ⟨l, hl, h1⟩ := best_some hb
      obtain ⟨_, x, hx, hxl⟩ := ls_lt xs l y xs.length b h1
      exact ⟨b, x, by unfold beZ; rw [if_pos hq, hb], hx, by rw [hxl]; exact hl⟩
  · unfold beC at h; rw [if_neg hq] at h; exact absurd h hq
theorem rn_sz {xs : List Nm} {l t : ByteArray} {y : Int} (h : Sz9 xs) (ht : t.size ≤ 1048576) (hl : l.size ≤ 1048576) : Sz9 (rnZ xs l y t) := by
  by_cases hc : rnC xs l y t = 0
  · obtain ⟨k, x, hx, _, hr, _⟩ := rn_zero hc
    rw [hr]
    intro e he
    rcases List.mem_append.1 he with hm | hm
    · obtain ⟨j, hj⟩ := List.mem_iff_getElem?.1 hm
      rcases rnB_at hx hj with ⟨e1, _, _⟩ | ⟨i, _, hi, _⟩
      · subst e1; exact h x (List.mem_of_getElem? hx)
      · exact h e (List.mem_of_getElem? hi)
    · rw [List.mem_singleton] at hm
      subst hm
      exact ⟨by show t.size ≤ _; first | exact ht | (unfold maxLen; omega) | omega, by show l.size ≤ _; first | exact hl | (unfold maxLen; omega) | omega⟩
  · rw [rnZ_no hc]; intro e he; cases he
theorem own_lenT {w : World} {R n c : Nat} {A : Option Addr} {t : TypeId} {zs : List ByteArray} (h : w.ownsRow R t 1 (.slice A n c) n (strV zs)) : n = zs.length := by
  have := h.1; rw [strV_len] at this; omega
theorem lg_code (xs : List Nm) : (namesB xs == (lgC xs == 0)) = true := by
  cases hv : namesB xs
  · rw [lgC_bad hv]; rfl
  · rw [lgC_ok hv]; rfl

set_option maxHeartbeats 2000000 in
set_option maxRecDepth 100000 in
theorem cLikeNm (A A' : Option Addr) (n n' cap cap' : Nat) (xs : List Nm) (w : World) (hbig : n ≤ 1048576) (h1 : NmAt w w.heap.size A n xs) (h2 : NmAt w w.heap.size A' n' xs) :
    Calls Tryz.prog 29 #[.slice A n cap, .slice A' n' cap'] w fun e w' => e = .returned (.bool true) ∧ Below w.heap.size w w' := by
  obtain rfl : n' = n := h2.1.trans h1.1.symm
  have H1 := Lib.hid h1
  have H2 := Lib.hid h2
  have hgd := guard_nameZ
  clear h1 h2
  go_enter Tryz.func29, Tryz.ntmps29
  go_wp2
  go_loopw [5] (fun i wr => ∃ j m : Nat, j ≤ n' ∧ i = .int .i64 j ∧ wr = w.drewN m) (fun i _ => n' - (intOf i).toNat)
  case atStart => exact ⟨0, 0, Nat.zero_le _, rfl, rfl⟩
  case round =>
    obtain ⟨j, m, hj, rfl, rfl⟩ := hrel
    by_cases hlt : j < n'
    · obtain ⟨x, hx⟩ : ∃ x, xs[j]? = some x := ⟨xs[j]'(by have := H1.out.1; omega), List.getElem?_eq_getElem _⟩
      obtain ⟨b, o, rfl, hbl, c0, c1, c2, c3, c4⟩ := H1.out.row hx
      obtain ⟨b', o', rfl, hbl', d0, d1, d2, d3, d4⟩ := H2.out.row hx
      clear hx
      have hne := run_neNmZ x
      have e1 : (0 : Int) ≤ (j : Int) := Int.natCast_nonneg _
      have e2 : (j : Int) < (n' : Int) := by omega
      go_wp2
      go_quiet (fail)
      go_wp2
      go_roundw
      case rel => exact ⟨j + 1, _, by omega, by go_num, rfl⟩
      case measure => simp [intOf]; omega
    · go_wp2
      go_ret
      exact ⟨rfl, ⟨rfl, rfl, rfl, Nat.le_refl _, fun _ _ => rfl⟩⟩
end Go.Proofs.YthlilfdndpnbkaaGreatDoor
