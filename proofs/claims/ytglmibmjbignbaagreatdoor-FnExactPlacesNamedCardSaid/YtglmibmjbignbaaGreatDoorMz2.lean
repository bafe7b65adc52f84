/-
  Plain facts on cutting a text at every occurrence of one byte. 'piecesB c s': all pieces, in order.
-/
import Derived.Test.YtglmibmjbignbaaGreatDoorMz1
import Derived.Lib.Split
import Derived.Handy
import Derived.Lib.Join
namespace Go.Proofs.YtglmibmjbignbaaGreatDoor
section
set_option linter.unusedVariables false

def sepB (c : UInt8) : ByteArray := ⟨#[c]⟩
theorem sepB_size (c : UInt8) : (sepB c).size = 1 := rfl
def piecesB (c : UInt8) (s : ByteArray) : List ByteArray := Lib.splitB (sepB c) 0 s.size s

theorem occ_one (l : List UInt8) (c : UInt8) (i : Nat) : Lib.occAt l [c] i = decide (l[i]? = some c) := by
  unfold Lib.occAt
  rw [← List.head?_drop]
  cases h : l.drop i with
  | nil => simp [List.isPrefixOf]
  | cons x r =>
    show (c == x && true) = decide (some x = some c)
    rw [Bool.and_true, Bool.eq_iff_iff, beq_iff_eq, decide_eq_true_eq, Option.some.injEq]
    exact eq_comm
theorem size_list (s : ByteArray) : s.data.toList.length = s.size := by simp
theorem extract_get (s : ByteArray) (a b j : Nat) (hb : b ≤ s.size) (h : a + j < b) : (s.extract a b).data.toList[j]? = s.data.toList[a + j]? := by
  rw [Lib.extract_data]
  simp [List.getElem?_take, List.getElem?_drop]
  omega
theorem extract_size (s : ByteArray) (a b : Nat) (hb : b ≤ s.size) : (s.extract a b).size = b - a := by
  rw [ByteArray.size_extract]; omega
theorem index_hit (s : ByteArray) (c : UInt8) (a i : Nat) (ha : a ≤ i) (hi : i < s.size) (hc : s[i] = c) (hn : ∀ j, a ≤ j → j < i → s.data.toList[j]? ≠ some c) :
    Lib.indexB (s.extract a s.size) (sepB c) = ((i - a : Nat) : Int) := by
  show Lib.index _ [c] = _
  have hz := extract_size s a s.size (Nat.le_refl _)
  have hl : (s.extract a s.size).data.toList.length = s.size - a := (size_list _).trans hz
  refine Lib.index_first (by omega) ?_ ?_
  · rw [occ_one, extract_get s a s.size _ (Nat.le_refl _) (by omega), show a + (i - a) = i by omega, List.getElem?_eq_getElem (by simpa using hi)]
    simp only [decide_eq_true_eq, Option.some.injEq]; exact hc
  · intro j hj
    rw [occ_one, extract_get s a s.size _ (Nat.le_refl _) (by omega)]
    exact decide_eq_false (hn (a + j) (by omega) (by omega))
theorem index_miss (s : ByteArray) (c : UInt8) (a : Nat) (ha : a ≤ s.size) (hn : ∀ j, a ≤ j → j < s.size → s.data.toList[j]? ≠ some c) :
    Lib.indexB (s.extract a s.size) (sepB c) = -1 := by
  show Lib.index _ [c] = _
  have hz := extract_size s a s.size (Nat.le_refl _)
  have hl : (s.extract a s.size).data.toList.length = s.size - a := (size_list _).trans hz
  refine Lib.index_none (fun j hj => ?_)
  rw [occ_one]
  by_cases h : a + j < s.size
  · rw [extract_get s a s.size _ (Nat.le_refl _) h]
    exact decide_eq_false (hn (a + j) (by omega) h)
  · rw [List.getElem?_eq_none (by omega)]; rfl

theorem split_fuel (c : UInt8) : ∀ (k k' : Nat) (t : ByteArray), t.size ≤ k → t.size ≤ k' → Lib.splitB (sepB c) 0 k t = Lib.splitB (sepB c) 0 k' t := by
  intro k
  induction k with
  | zero =>
    intro k' t h h'
    rcases Lib.indexB_cases t (sepB c) with hm | ⟨i, hi, hr⟩
    · rw [Lib.splitB_miss _ _ _ _ hm, Lib.splitB_miss _ _ _ _ hm]
    · rw [sepB_size] at hr; omega
  | succ k ih =>
    intro k' t h h'
    rcases Lib.indexB_cases t (sepB c) with hm | ⟨i, hi, hr⟩
    · rw [Lib.splitB_miss _ _ _ _ hm, Lib.splitB_miss _ _ _ _ hm]
    · rw [sepB_size] at hr
      cases k' with
      | zero => omega
      | succ k' =>
        rw [Lib.splitB_hit _ _ _ _ i hi, Lib.splitB_hit _ _ _ _ i hi]
        have hz := extract_size t (i + (sepB c).size) t.size (Nat.le_refl _)
        rw [sepB_size] at hz ⊢
        rw [ih k' (t.extract (i + 1) t.size) (by omega) (by omega)]
theorem split_some (c : UInt8) : ∀ (m n : Nat) (t : ByteArray), m ≤ n → Lib.splitB (sepB c) 0 m t = Lib.splitB (sepB c) 0 n t ∨ ((Lib.splitB (sepB c) 0 m t).length = m + 1 ∧ m + 1 < (Lib.splitB (sepB c) 0 n t).length) := by
  intro m
  induction m with
  | zero =>
    intro n t h
    cases n with
    | zero => exact .inl rfl
    | succ n =>
      rcases Lib.indexB_cases t (sepB c) with hm | ⟨i, hi, hr⟩
      · rw [Lib.splitB_miss _ _ _ _ hm, Lib.splitB_miss _ _ _ _ hm]; exact .inl rfl
      · right
        rw [Lib.splitB_hit _ _ _ _ i hi]
        refine ⟨rfl, ?_⟩
        cases hq : Lib.splitB (sepB c) 0 n (t.extract (i + (sepB c).size) t.size) with
        | nil => cases n <;> simp [Lib.splitB] at hq; split at hq <;> cases hq
        | cons x r => simp
  | succ m ih =>
    intro n t h
    cases n with
    | zero => omega
    | succ n =>
      rcases Lib.indexB_cases t (sepB c) with hm | ⟨i, hi, hr⟩
      · rw [Lib.splitB_miss _ _ _ _ hm, Lib.splitB_miss _ _ _ _ hm]; exact .inl rfl
      · rw [Lib.splitB_hit _ _ _ _ i hi, Lib.splitB_hit _ _ _ _ i hi]
        rcases ih n (t.extract (i + (sepB c).size) t.size) (by omega) with he | ⟨h1, h2⟩
        · exact .inl (by rw [he])
        · right; simp only [List.length_cons]; omega

/-- What is left of the pieces from place a on. -/
def restB (c : UInt8) (s : ByteArray) (a : Nat) : List ByteArray := Lib.splitB (sepB c) 0 (s.size - a) (s.extract a s.size)
theorem extract_all (s : ByteArray) : s.extract 0 s.size = s := by
  apply ByteArray.ext
  rw [ByteArray.data_extract]
  simp
theorem rest_zero (c : UInt8) (s : ByteArray) : restB c s 0 = piecesB c s := by
  unfold restB piecesB; rw [extract_all]; rfl
theorem extract_extract (s : ByteArray) (a b d e : Nat) (hb : b ≤ s.size) (he : a + e ≤ b) : (s.extract a b).extract d e = s.extract (a + d) (a + e) := by
  apply ByteArray.ext
  simp only [ByteArray.data_extract, Array.extract_extract]
  congr 1; omega
theorem rest_hit (c : UInt8) (s : ByteArray) (a i : Nat) (ha : a ≤ i) (hi : i < s.size) (hc : s[i] = c) (hn : ∀ j, a ≤ j → j < i → s.data.toList[j]? ≠ some c) :
    restB c s a = s.extract a i :: restB c s (i + 1) := by
  have hx := index_hit s c a i ha hi hc hn
  unfold restB
  obtain ⟨k, hk⟩ : ∃ k, s.size - a = k + 1 := ⟨s.size - a - 1, by omega⟩
  have hz := extract_size s a s.size (Nat.le_refl _)
  rw [hk, Lib.splitB_hit _ _ _ _ (i - a) hx, sepB_size, hz, extract_extract s a s.size 0 _ (Nat.le_refl _) (by omega), extract_extract s a s.size _ _ (Nat.le_refl _) (by omega)]
  congr 1
  · congr 1; omega
  · rw [show a + (i - a + 1) = i + 1 by omega, show a + (s.size - a) = s.size by omega]
    exact split_fuel c _ _ _ (by rw [extract_size _ _ _ (Nat.le_refl _)]; omega) (by rw [extract_size _ _ _ (Nat.le_refl _)]; omega)
theorem rest_end (c : UInt8) (s : ByteArray) (a : Nat) (ha : a ≤ s.size) (hn : ∀ j, a ≤ j → j < s.size → s.data.toList[j]? ≠ some c) : restB c s a = [s.extract a s.size] := by
  unfold restB; exact Lib.splitB_miss _ _ _ _ (index_miss s c a ha hn)
theorem pieces_len (c : UInt8) (s : ByteArray) : (piecesB c s).length ≤ s.size + 1 := Lib.splitB_length_le _ _ _ _
theorem rest_pos (c : UInt8) (s : ByteArray) (a : Nat) : 0 < (restB c s a).length := by
  unfold restB
  cases s.size - a with
  | zero => simp [Lib.splitB]
  | succ n => unfold Lib.splitB; split <;> simp
end
section
set_option linter.unusedVariables false
open Go.RowKit

def joinL (l : List (List UInt8)) : List UInt8 := Lib.join l [32]
def joinB (xs : List ByteArray) : ByteArray := ⟨(Lib.join (xs.map (·.data.toList)) (sepB 32).data.toList).toArray⟩
theorem joinL_cons (a b : List UInt8) (l : List (List UInt8)) : joinL (a :: b :: l) = a ++ 32 :: joinL (b :: l) := by
  simp [joinL, Lib.join, List.intercalate, List.intersperse]
theorem joinL_one (a : List UInt8) : joinL [a] = a := by simp [joinL, Lib.join, List.intercalate, List.intersperse]
theorem joinL_snoc : ∀ (a : List UInt8) (l : List (List UInt8)) (x : List UInt8), joinL ((a :: l) ++ [x]) = joinL (a :: l) ++ 32 :: x
  | a, [], x => by rw [List.singleton_append, joinL_cons, joinL_one, joinL_one]
  | a, b :: l, x => by
    rw [List.cons_append, List.cons_append, joinL_cons, ← List.cons_append, joinL_snoc b l x, joinL_cons]; simp
theorem joinB_data (xs : List ByteArray) : (joinB xs).data.toList = joinL (xs.map (·.data.toList)) := by simp [joinB, joinL, sepB]
theorem joinB_one (x : ByteArray) : joinB [x] = x := by
  apply ByteArray.ext; apply Array.toList_inj.1
  rw [joinB_data]; exact joinL_one _
theorem joinB_snoc (xs : List ByteArray) (x : ByteArray) (h : xs ≠ []) : joinB (xs ++ [x]) = joinB xs ++ ⟨#[32]⟩ ++ x := by
  apply ByteArray.ext; apply Array.toList_inj.1
  rw [joinB_data]
  cases xs with
  | nil => exact absurd rfl h
  | cons a l =>
    rw [List.map_append, List.map_cons, List.map_singleton, joinL_snoc]
    simp [joinB_data]
theorem joinB_step (xs : List ByteArray) (k : Nat) (x : ByteArray) (hk : 0 < k) (h : xs[k]? = some x) : joinB (xs.take (k + 1)) = joinB (xs.take k) ++ ⟨#[32]⟩ ++ x := by
  have hl := (List.getElem?_eq_some_iff.1 h).1
  have hx : xs[k] = x := (List.getElem?_eq_some_iff.1 h).2
  rw [List.take_succ_eq_append_getElem hl, hx]
  exact joinB_snoc _ _ (by intro e; have := congrArg List.length e; rw [List.length_take, List.length_nil] at this; omega)
theorem joinB_first (xs : List ByteArray) (x : ByteArray) (h : xs[0]? = some x) : joinB (xs.take 1) = ByteArray.empty ++ x := by
  have hl := (List.getElem?_eq_some_iff.1 h).1
  have hx : xs[0] = x := (List.getElem?_eq_some_iff.1 h).2
  rw [List.take_succ_eq_append_getElem hl, hx, List.take_zero, List.nil_append, joinB_one]
  apply ByteArray.ext; simp

theorem join_len : ∀ (l : List (List UInt8)), (∀ y ∈ l, y.length ≤ 64) → (joinL l).length ≤ l.length * 65
  | [], _ => by simp [joinL, Lib.join, List.intercalate, List.intersperse]
  | [a], h => by rw [joinL_one]; have := h a (by simp); simp; omega
  | a :: b :: l, h => by
    rw [joinL_cons, List.length_append, List.length_cons]
    have h1 := h a (by simp)
    have h2 := join_len (b :: l) (fun y hy => h y (List.mem_cons_of_mem _ hy))
    simp only [List.length_cons] at h2 ⊢
    omega
theorem join_small (xs : List ByteArray) (h : ∀ y ∈ xs, y.size ≤ 16) (hn : xs.length ≤ 8) : (Lib.join (xs.map (·.data.toList)) (sepB 32).data.toList).length ≤ 140737488355328 := by
  have h1 := join_len (xs.map (·.data.toList)) (by
    intro y hy
    rw [List.mem_map] at hy
    obtain ⟨z, hz, rfl⟩ := hy
    have h2 := h z hz
    have h3 := size_list z
    omega)
  rw [List.length_map] at h1
  have h2 : (Lib.join (xs.map (·.data.toList)) (sepB 32).data.toList) = joinL (xs.map (·.data.toList)) := rfl
  rw [h2]; omega

set_option maxHeartbeats 1000000 in
theorem cWords (g o cap n : Nat) (xs : List ByteArray) (w : World) (hn : n = xs.length) (hn64 : n ≤ 64) (hsz : ∀ x ∈ xs, x.size ≤ 64)
    (hc : ∀ (j : Nat) x, xs[j]? = some x → w.cell? ⟨g, o + j, none⟩ = some (.string x)) :
    Calls Tryz.prog 173 #[.slice (some ⟨g, o, none⟩) n cap] w fun e w' => e = .returned (.string (joinB xs)) ∧ w = w' := by
  have HN := Lib.hid hn
  have HS := Lib.hid hsz
  have HC := Lib.hid hc
  clear hn hsz hc
  go_enter Tryz.func173, Tryz.ntmps173
  go_wp2
  go_loop [3, 4] (fun ou i => ∃ (k : Nat) (t : ByteArray), k ≤ n ∧ i = .int .i64 k ∧ ou = .string t ∧ t.size ≤ k * 65 ∧ Hid (t = joinB (xs.take k))) (fun _ i => n - (intOf i).toNat)
  case atStart => exact ⟨0, ⟨#[]⟩, Nat.zero_le _, rfl, rfl, Nat.zero_le _, Lib.hid rfl⟩
  case round =>
    obtain ⟨k, t, hk, rfl, rfl, ht, HT⟩ := hrel
    by_cases hlt : k < n
    · obtain ⟨x, hx⟩ : ∃ x, xs[k]? = some x := ⟨xs[k]'(by have := HN.out; omega), List.getElem?_eq_getElem _⟩
      have hcx := HC.out k x hx
      have hsx := HS.out x (List.mem_of_getElem? hx)
      have HX := Lib.hid hx
      clear hx
      by_cases hk0 : 0 < k
      · go_wp2
        go_round
        case rel => exact ⟨k + 1, _, by omega, by go_num, rfl, (by rw [ByteArray.size_append, ByteArray.size_append]; have h1 : (⟨#[32]⟩ : ByteArray).size = 1 := rfl; omega), Lib.hid (by rw [joinB_step xs k x hk0 HX.out, HT.out])⟩
        case measure => simp [intOf]; omega
      · have hk1 : k = 0 := by omega
        have HK := Lib.hid hk1
        clear hk1
        go_wp2
        go_round
        case rel => exact ⟨k + 1, _, by omega, by go_num, rfl, by simp; omega, Lib.hid (by have h := HX.out; have e := HT.out; rw [HK.out] at h e ⊢; rw [joinB_first xs x h, e]; rfl)⟩
        case measure => simp [intOf]; omega
    · obtain rfl : k = n := by omega
      go_wp2
      go_ret
      exact ⟨by rw [HT.out, List.take_of_length_le (by have := HN.out; omega)]; rfl, rfl⟩
end
end Go.Proofs.YtglmibmjbignbaaGreatDoor
