/-
  What the laws of chapter 10 ask of trees (plain), and the contract of laws.hasInt.
-/
import Derived.Test.YtlogbgkbdjdkkaaTr10B
namespace Go.Proofs.Ytlogbgkbdjdkkaa
set_option linter.unusedVariables false
open Go.RowKit

theorem disZ_bd {xs : List Int} (hT : Tree xs) {a b : Nat} (ha : a < xs.length) (hb : b < xs.length) : 0 ≤ disZ xs a b ∧ disZ xs a b ≤ 40 := by
  obtain ⟨c, h1, h2, h3, h4⟩ := com_mem hT ha hb
  have h5 := dis_steps hT ha hb h1 h3 h4
  have := step_bd hT ha h3
  have := step_bd hT hb h4
  omega
/-- What the common kind and the distances keep. -/
theorem com_facts {xs : List Int} {a b : Int} (h : clsC xs [a, b] = 0) : clsC xs [b, a] = 0 ∧ comV xs b a = comV xs a b ∧ clsC xs [a, comV xs a b] = 0 ∧ clsC xs [comV xs a b, b] = 0 ∧ disV xs a (comV xs a b) + disV xs (comV xs a b) b = disV xs a b ∧
    (0 ≤ disV xs a (comV xs a b) ∧ disV xs a (comV xs a b) ≤ 40) ∧ (0 ≤ disV xs (comV xs a b) b ∧ disV xs (comV xs a b) b ≤ 40) := by
  obtain ⟨hT, ⟨i, rfl, hi⟩, k, rfl, hk⟩ := clsC_two h
  obtain ⟨c, h1, h2, h3, h4⟩ := com_mem hT hi hk
  have n1 : clsC xs [(k : Int), (i : Int)] = 0 := clsC_nat hT (by intro x hx; simp at hx; rcases hx with rfl | rfl; exact ⟨k, rfl, hk⟩; exact ⟨i, rfl, hi⟩)
  have n2 : clsC xs [(i : Int), (c : Int)] = 0 := clsC_nat hT (by intro x hx; simp at hx; rcases hx with rfl | rfl; exact ⟨i, rfl, hi⟩; exact ⟨c, rfl, h2⟩)
  have n3 : clsC xs [(c : Int), (k : Int)] = 0 := clsC_nat hT (by intro x hx; simp at hx; rcases hx with rfl | rfl; exact ⟨c, rfl, h2⟩; exact ⟨k, rfl, hk⟩)
  have e1 : comV xs (i : Int) (k : Int) = c := by rw [comV_yes h, h1]
  have hs := dis_sum hT hi hk
  rw [h1] at hs
  rw [e1]
  refine ⟨n1, ?_, n2, n3, ?_, ?_, ?_⟩
  · rw [comV_yes n1, com_sym hT hk hi, h1]
  · rw [disV_yes n2, disV_yes n3, disV_yes h]; exact hs
  · rw [disV_yes n2]; exact disZ_bd hT hi h2
  · rw [disV_yes n3]; exact disZ_bd hT h2 hk
/-- The classes below one are those whose way up has it. -/
theorem sub_facts {xs : List Int} {v : Int} (h : clsC xs [v] = 0) {k : Nat} (hk : k < xs.length) : clsC xs [(k : Int), v] = 0 ∧ isZ xs (k : Int) v = decide ((k : Int) ∈ sbZ xs v) := by
  obtain ⟨hT, i, rfl, hi⟩ := clsC_one h
  have n1 : clsC xs [(k : Int), (i : Int)] = 0 := clsC_nat hT (by intro x hx; simp at hx; rcases hx with rfl | rfl; exact ⟨k, rfl, hk⟩; exact ⟨i, rfl, hi⟩)
  refine ⟨n1, ?_⟩
  rw [isZ_yes n1, sbZ_yes h, decide_eq_decide, sub_mem]
  constructor
  · intro h2; exact ⟨k, rfl, hk, h2⟩
  · rintro ⟨e, he, _, h2⟩
    obtain rfl : k = e := by omega
    exact h2
theorem Tree.lt {xs : List Int} (h : Tree xs) : ∀ x ∈ xs, x < (xs.length : Int) := by
  intro x hx
  obtain ⟨k, hk, rfl⟩ := List.mem_iff_getElem.1 hx
  rcases Nat.eq_zero_or_pos k with rfl | h0
  · have := h.root
    rw [List.getElem?_eq_getElem hk] at this
    have := Option.some.inj this
    omega
  · have := h.par k _ h0 (List.getElem?_eq_getElem hk); omega
theorem add_tree {xs : List Int} {p : Nat} (h : Tree xs) (hp : p < xs.length) (hl : xs.length ≠ 20) : Tree (xs ++ [(p : Int)]) := by
  refine ⟨by simp, by have := h.le; simp; omega, ?_, fun k x hk hx => ?_⟩
  · rw [List.getElem?_append_left h.pos]; exact h.root
  · by_cases hkl : k < xs.length
    · rw [List.getElem?_append_left hkl] at hx; exact h.par k x hk hx
    · have hk2 := (List.getElem?_eq_some_iff.1 hx).1
      rw [List.length_append, List.length_singleton] at hk2
      obtain rfl : k = xs.length := by omega
      rw [List.getElem?_append_right (Nat.le_refl _), Nat.sub_self] at hx
      simp at hx
      subst hx
      omega
theorem add_facts {xs : List Int} {p : Int} (h : addC xs p = 0) : clsC (addZ xs p) [] = 0 ∧ treeB (addZ xs p) = true ∧ ((xs.length : Nat) : Int) ∈ lvZ (addZ xs p) := by
  obtain ⟨h1, h2⟩ := addC_zero h
  obtain ⟨hT, k, rfl, hk⟩ := clsC_one h1
  have hA := add_tree hT hk h2
  rw [addZ_yes h]
  have ht := tree_is hA
  refine ⟨cls_tree ht, ht, ?_⟩
  rw [lvZ_yes (cls_tree ht), leaf_mem]
  refine ⟨xs.length, rfl, by simp, fun hm => ?_⟩
  rw [List.mem_append, List.mem_singleton] at hm
  rcases hm with hm | hm
  · have := hT.lt _ hm; omega
  · omega
theorem mov_tree {xs : List Int} {k p : Nat} (h : Tree xs) (hp : p < k) : Tree (xs.set k (p : Int)) := by
  refine ⟨by rw [List.length_set]; exact h.pos, by rw [List.length_set]; exact h.le, ?_, fun j x hj hx => ?_⟩
  · rw [List.getElem?_set_ne (by omega)]; exact h.root
  · by_cases e : k = j
    · subst e
      have hl := (List.getElem?_eq_some_iff.1 hx).1
      rw [List.length_set] at hl
      rw [List.getElem?_set_self hl] at hx
      have := Option.some.inj hx
      omega
    · rw [List.getElem?_set_ne e] at hx; exact h.par j x hj hx
theorem mov_facts {xs : List Int} {a p : Int} (h : movC xs a p = 0) : clsC (movZ xs a p) [a, p] = 0 ∧ isZ (movZ xs a p) a p = true ∧ treeB (movZ xs a p) = true := by
  obtain ⟨h1, h2⟩ := movC_zero h
  obtain ⟨hT, ⟨k, rfl, hk⟩, q, rfl, hq⟩ := clsC_two h1
  have hM := mov_tree (k := k) (p := q) hT (by omega)
  rw [movZ_yes h, Int.toNat_natCast]
  have n1 : clsC (xs.set k (q : Int)) [(k : Int), (q : Int)] = 0 := clsC_nat hM (by intro x hx; simp at hx; rcases hx with rfl | rfl; exact ⟨k, rfl, by rw [List.length_set]; exact hk⟩; exact ⟨q, rfl, by rw [List.length_set]; exact hq⟩)
  refine ⟨n1, ?_, tree_is hM⟩
  rw [isZ_yes n1, decide_eq_true_eq, upF_cons hM (List.getElem?_set_self hk)]
  exact List.mem_cons_of_mem _ (upF_self hM (by rw [List.length_set]; exact hq))

set_option maxHeartbeats 400000 in
theorem cHasInt (A : Option Addr) (n c B : Nat) (ig : List Int) (x : Int) (w : World) (hbig : n ≤ maxLen) (h : NumAt w B A n ig) :
    Calls Try.prog 31 #[.slice A n c, .int .i64 x] w fun e w' => e = .returned (.bool (decide (x ∈ ig))) ∧ w = w' := by
  unfold maxLen at hbig
  have HL := Lib.hid h.1
  have H := Lib.hid h
  clear h
  go_enter Try.func31, Try.ntmps31
  go_wp2
  go_loop [5] (fun i => ∃ k : Nat, k ≤ n ∧ i = .int .i64 k ∧ Hid (x ∉ ig.take k)) (fun i => n - (intOf i).toNat)
  case atStart => exact ⟨0, Nat.zero_le _, rfl, Lib.hid (by simp)⟩
  case round =>
    obtain ⟨k, hk, rfl, HA⟩ := hrel
    by_cases hlt : k < n
    · obtain ⟨y, hy⟩ := H.out.get hlt
      obtain ⟨b, o, rfl, _, hcx⟩ := H.out.row hy
      have HY := Lib.hid hy
      clear hy
      by_cases he : y = x
      · have hd : (y == x) = true := by simp [he]
        have HR := Lib.hid (show decide (x ∈ ig) = true from decide_eq_true (by rw [← he]; exact List.mem_of_getElem? HY.out))
        clear he
        go_wp2
        go_ret
        exact ⟨ret_bool HR.out.symm, rfl⟩
      · have hd : (y == x) = false := by simp [he]
        have HE := Lib.hid he
        clear he
        go_wp2
        go_round
        case rel => exact ⟨k + 1, by omega, by go_num, Lib.hid (nmem_step HY.out HA.out HE.out)⟩
        case measure => simp [intOf]; omega
    · have HR := Lib.hid (show decide (x ∈ ig) = false from decide_eq_false (nmem_all HA.out (by have := HL.out; omega)))
      go_wp2
      go_ret
      exact ⟨ret_bool HR.out.symm, rfl⟩
end Go.Proofs.Ytlogbgkbdjdkkaa
