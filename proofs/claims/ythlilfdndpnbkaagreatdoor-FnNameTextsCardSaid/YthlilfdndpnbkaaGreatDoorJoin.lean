/-
  The contract of spec.l01Words: texts joined by blanks. 'joinB xs' is that text.
-/
import Derived.Test.YthlilfdndpnbkaaGreatDoorMg4
import Derived.Handy
import Derived.Lib.Join
namespace Go.Proofs.YthlilfdndpnbkaaGreatDoor
set_option linter.unusedVariables false
open Go.RowKit

def joinL (l : List (List UInt8)) : List UInt8 := Lib.join l [32]
def joinB (xs : List ByteArray) : ByteArray := ⟨(Lib.join (xs.map (·.data.toList)) (sepB 32).data.toList).toArray⟩
theorem joinL_cons (a b : List UInt8) (l : List (List UInt8)) : joinL (a :: b :: l) = a ++ 32 :: joinL (b :: l) := by
  simp [joinL, Lib.join, List.intercalate, List.intersperse]
theorem joinL_one (a : List UInt8) : joinL [a] = a := by simp [joinL, Lib.join, List.intercalate, List.intersperse]
theorem joinL_snoc : ∀ (a : List UInt8) (l : List (List UInt8)) (x : List UInt8), joinL ((a :: l) ++ [x]) = joinL (a :: l) ++ 32 :: x
  | a, [], x => by rw [List.singleton_append, joinL_cons, joinL_one, joinL_one]
  | a, b :: l, x => by
    rw [List.cons_append, List.cons_append, joinL_cons, ← List.cons_append, joinL_snoc b l x, joinL_cons]; simp
theorem joinB_data (xs : List ByteArray) : (joinB xs).data.toList = joinL (xs.map (·.data.toList)) := by simp [joinB, joinL, sepB]
theorem joinB_one (x : ByteArray) : joinB [x] = x := by
  apply ByteArray.ext; apply Array.toList_inj.1
  rw [joinB_data]; exact joinL_one _
theorem joinB_snoc (xs : List ByteArray) (x : ByteArray) (h : xs ≠ []) : joinB (xs ++ [x]) = joinB xs ++ ⟨#[32]⟩ ++ x := by
  apply ByteArray.ext; apply Array.toList_inj.1
  rw [joinB_data]
  cases xs with
  | nil => exact absurd rfl h
  | cons a l =>
    rw [List.map_append, List.map_cons, List.map_singleton, joinL_snoc]
    simp [joinB_data]
theorem joinB_step (xs : List ByteArray) (k : Nat) (x : ByteArray) (hk : 0 < k) (h : xs[k]? = some x) : joinB (xs.take (k + 1)) = joinB (xs.take k) ++ ⟨#[32]⟩ ++ x := by
  have hl := (List.getElem?_eq_some_iff.1 h).1
  have hx : xs[k] = x := (List.getElem?_eq_some_iff.1 h).2
  rw [List.take_succ_eq_append_getElem hl, hx]
  exact joinB_snoc _ _ (by intro e; have := congrArg List.length e; rw [List.length_take, List.length_nil] at this; omega)
theorem joinB_first (xs : List ByteArray) (x : ByteArray) (h : xs[0]? = some x) : joinB (xs.take 1) = ByteArray.empty ++ x := by
  have hl := (List.getElem?_eq_some_iff.1 h).1
  have hx : xs[0] = x := (List.getElem?_eq_some_iff.1 h).2
  rw [List.take_succ_eq_append_getElem hl, hx, List.take_zero, List.nil_append, joinB_one]
  apply ByteArray.ext; simp

theorem join_len : ∀ (l : List (List UInt8)), (∀ y ∈ l, y.length ≤ 64) → (joinL l).length ≤ l.length * 65
  | [], _ => by simp [joinL, Lib.join, List.intercalate, List.intersperse]
  | [a], h => by rw [joinL_one]; have := h a (by simp); simp; omega
  | a :: b :: l, h => by
    rw [joinL_cons, List.length_append, List.length_cons]
    have h1 := h a (by simp)
    have h2 := join_len (b :: l) (fun y hy => h y (List.mem_cons_of_mem _ hy))
    simp only [List.length_cons] at h2 ⊢
    omega
theorem join_small (xs : List ByteArray) (h : ∀ y ∈ xs, y.size ≤ 16) (hn : xs.length ≤ 8) : (Lib.join (xs.map (·.data.toList)) (sepB 32).data.toList).length ≤ 140737488355328 := by
  have h1 := join_len (xs.map (·.data.toList)) (by
    intro y hy
    rw [List.mem_map] at hy
    obtain ⟨z, hz, rfl⟩ := hy
    have h2 := h z hz
    have h3 := size_list z
    omega)
  rw [List.length_map] at h1
  have h2 : (Lib.join (xs.map (·.data.toList)) (sepB 32).data.toList) = joinL (xs.map (·.data.toList)) := rfl
  rw [h2]; omega

set_option maxHeartbeats 1000000 in
theorem cWords (g o cap n : Nat) (xs : List ByteArray) (w : World) (hn : n = xs.length) (hn64 : n ≤ 64) (hsz : ∀ x ∈ xs, x.size ≤ 64)
    (hc : ∀ (j : Nat) x, xs[j]? = some x → w.cell? ⟨g, o + j, none⟩ = some (.string x)) :
    Calls Tryz.prog 124 #[.slice (some ⟨g, o, none⟩) n cap] w fun e w' => e = .returned (.string (joinB xs)) ∧ w = w' := by
  have HN := Lib.hid hn
  have HS := Lib.hid hsz
  have HC := Lib.hid hc
  clear hn hsz hc
  go_enter Tryz.func124, Tryz.ntmps124
  go_wp2
  go_loop [3, 4] (fun ou i => ∃ (k : Nat) (t : ByteArray), k ≤ n ∧ i = .int .i64 k ∧ ou = .string t ∧ t.size ≤ k * 65 ∧ Hid (t = joinB (xs.take k))) (fun _ i => n - (intOf i).toNat)
  case atStart => exact ⟨0, ⟨#[]⟩, Nat.zero_le _, rfl, rfl, Nat.zero_le _, Lib.hid rfl⟩
  case round =>
    obtain ⟨k, t, hk, rfl, rfl, ht, HT⟩ := hrel
    by_cases hlt : k < n
    · obtain ⟨x, hx⟩ : ∃ x, xs[k]? = some x := ⟨xs[k]'(by have := HN.out; omega), List.getElem?_eq_getElem _⟩
      have hcx := HC.out k x hx
      have hsx := HS.out x (List.mem_of_getElem? hx)
      have HX := Lib.hid hx
      clear hx
      by_cases hk0 : 0 < k
      · go_wp2
        go_round
        case rel => exact ⟨k + 1, _, by omega, by go_num, rfl, (by rw [ByteArray.size_append, ByteArray.size_append]; have h1 : (⟨#[32]⟩ : ByteArray).size = 1 := rfl; omega), Lib.hid (by rw [joinB_step xs k x hk0 HX.out, HT.out])⟩
        case measure => simp [intOf]; omega
      · have hk1 : k = 0 := by omega
        have HK := Lib.hid hk1
        clear hk1
        go_wp2
        go_round
        case rel => exact ⟨k + 1, _, by omega, by go_num, rfl, by simp; omega, Lib.hid (by have h := HX.out; have e := HT.out; rw [HK.out] at h e ⊢; rw [joinB_first xs x h, e]; rfl)⟩
        case measure => simp [intOf]; omega
    · obtain rfl : k = n := by omega
      go_wp2
      go_ret
      exact ⟨by rw [HT.out, List.take_of_length_le (by have := HN.out; omega)]; rfl, rfl⟩
end Go.Proofs.YthlilfdndpnbkaaGreatDoor
