/-
  Plain facts on numbers that are read out of a text with separators: cutting it and joining it again.
-/
import Derived.Test.YthlilfdndpnbkaaGreatDoorRead
import Derived.Test.YthlilfdndpnbkaaGreatDoorMg4
import Derived.Test.YthlilfdndpnbkaaGreatDoorSigned
import Derived.Test.YthlilfdndpnbkaaGreatDoorMg7
import Derived.Lib.CutLaws
namespace Go.Proofs.YthlilfdndpnbkaaGreatDoor
set_option linter.unusedVariables false
open Go.RowKit

theorem arr_back9 (s : ByteArray) : (⟨s.data.toList.toArray⟩ : ByteArray) = s := by simp
theorem ext_data9 (s : ByteArray) (a b : Nat) (l : List UInt8) (h : (s.data.toList.drop a).take (b - a) = l) : s.extract a b = ⟨l.toArray⟩ := by
  apply ByteArray.ext
  apply Array.toList_inj.1
  rw [Lib.extract_data, h]
theorem get_at9 {s : ByteArray} {i : Nat} {c : UInt8} (hi : i < s.size) (h : s.data.toList[i]? = some c) : s[i] = c := by
  rw [List.getElem?_eq_getElem (by simpa using hi)] at h
  exact Option.some.inj h
theorem piece_sz9 (c : UInt8) (k : Nat) : ∀ (s x : ByteArray), x ∈ Lib.splitB (sepB c) 0 k s → x.size ≤ s.size := by
  induction k with
  | zero => intro s x h; simp [Lib.splitB] at h; subst h; exact Nat.le_refl _
  | succ k ih =>
    intro s x h
    rcases Lib.indexB_cases s (sepB c) with hm | ⟨i, hi, hr⟩
    · rw [Lib.splitB_miss _ _ _ _ hm] at h; simp at h; subst h; exact Nat.le_refl _
    · rw [Lib.splitB_hit _ _ _ _ i hi, List.mem_cons] at h
      rcases h with h | h
      · subst h; rw [ByteArray.size_extract]; omega
      · have := ih _ _ h
        rw [ByteArray.size_extract] at this; omega

theorem dig_in {l : List UInt8} (h : digAll l = true) {c : UInt8} (hc : c ∈ l) : 48 ≤ c.toNat ∧ c.toNat ≤ 57 := by
  unfold digAll at h
  rw [List.all_eq_true] at h
  have h1 := h c hc
  unfold digB at h1
  simp only [Bool.and_eq_true, decide_eq_true_eq] at h1
  omega
theorem num_in (n : Int) (c : UInt8) (h : c ∈ (numB n).data.toList) : c = 45 ∨ (48 ≤ c.toNat ∧ c.toNat ≤ 57) := by
  rw [numB_data] at h
  by_cases hn : n < 0
  · rw [itoa_head n hn, List.mem_cons] at h
    rcases h with rfl | h
    · exact .inl rfl
    · exact .inr (dig_in (dec_digits _).1 h)
  · rw [itoa_pos n hn] at h
    exact .inr (dig_in (dec_digits _).1 h)
/-- No number's text has the separator. -/
def NoS (sp : UInt8) : Prop := ∀ (n : Int) (c : UInt8), c ∈ (numB n).data.toList → c ≠ sp
theorem noS_of {sp : UInt8} (h1 : sp ≠ 45) (h2 : sp.toNat < 48 ∨ 57 < sp.toNat) : NoS sp := by
  rintro n c hc rfl
  rcases num_in n c hc with h | h
  · exact h1 h
  · omega
theorem noS_44 : NoS 44 := noS_of (by decide) (by decide)
theorem noS_43 : NoS 43 := noS_of (by decide) (by decide)
theorem pieces_one (sp : UInt8) (x : ByteArray) (h : ∀ c ∈ x.data.toList, c ≠ sp) : piecesB sp x = [x] := by
  have h1 := rest_end sp x 0 (Nat.zero_le _) (fun j _ hj => by
    intro e
    exact h _ (List.mem_of_getElem? e) rfl)
  rw [rest_zero, extract_all] at h1
  exact h1
theorem pieces_cons (sp : UInt8) (a r s : ByteArray) (ha : ∀ c ∈ a.data.toList, c ≠ sp) (hs : s.data.toList = a.data.toList ++ sp :: r.data.toList) : piecesB sp s = a :: piecesB sp r := by
  have hza := size_list a
  have hzr := size_list r
  have hz : s.size = a.size + 1 + r.size := by
    have h1 := congrArg List.length hs
    rw [size_list, List.length_append, List.length_cons, hza, hzr] at h1
    omega
  have g0 : s.data.toList[a.size]? = some sp := by rw [hs, ← hza, List.getElem?_append_right (Nat.le_refl _)]; simp
  rw [← rest_zero, rest_hit sp s 0 a.size (Nat.zero_le _) (by omega) (get_at9 (by omega) g0) (fun j _ hj => by
    rw [hs, List.getElem?_append_left (by omega)]
    intro e
    exact ha _ (List.mem_of_getElem? e) rfl)]
  have e1 : s.extract 0 a.size = a := by
    have h1 := ext_data9 s 0 a.size a.data.toList (by rw [hs, List.drop_zero, Nat.sub_zero, List.take_left' hza])
    rw [h1, arr_back9]
  have e2 : s.extract (a.size + 1) s.size = r := by
    have h1 := ext_data9 s (a.size + 1) s.size r.data.toList (by
      have hd : s.data.toList.drop (a.size + 1) = r.data.toList := by
        rw [hs, ← List.drop_drop, List.drop_left' hza]; rfl
      rw [hd]
      exact List.take_of_length_le (by omega))
    rw [h1, arr_back9]
  rw [e1]
  unfold restB piecesB
  rw [e2, show s.size - (a.size + 1) = r.size by omega]
theorem pieces_join (sp : UInt8) (hsp : NoS sp) : ∀ (x : Int) (xs : List Int), piecesB sp (jB sp (nums (x :: xs))) = nums (x :: xs)
  | x, [] => by
    show piecesB sp (jB sp [numB x]) = [numB x]
    rw [jB_one sp]
    exact pieces_one sp _ (fun c hc => hsp x c hc)
  | x, y :: l => by
    have h := pieces_cons sp (numB x) (jB sp (nums (y :: l))) (jB sp (nums (x :: y :: l))) (fun c hc => hsp x c hc) (by
      rw [jB_data sp, jB_data sp]
      exact jL_cons sp _ _ _)
    rw [h, pieces_join sp hsp y l]; rfl
theorem pieces_nums (sp : UInt8) (hsp : NoS sp) (xs : List Int) (h : 0 < xs.length) : piecesB sp (jB sp (nums xs)) = nums xs := by
  cases xs with
  | nil => simp at h
  | cons x l => exact pieces_join sp hsp x l
theorem pieces_pos (sp : UInt8) (s : ByteArray) : 0 < (piecesB sp s).length := by rw [← rest_zero]; exact rest_pos _ _ _
theorem join_pieces (sp : UInt8) : ∀ (n : Nat) (s : ByteArray), s.size ≤ n → jB sp (piecesB sp s) = s := by
  intro n
  induction n with
  | zero =>
    intro s hs
    have h : piecesB sp s = [s] := pieces_one sp s (fun c hc => by
      have hz := size_list s
      have : s.data.toList = [] := List.eq_nil_of_length_eq_zero (by omega)
      rw [this] at hc; simp at hc)
    rw [h, jB_one sp]
  | succ n ih =>
    intro s hs
    rcases Lib.index_spec s.data.toList [sp] with ⟨_, hno⟩ | ⟨i, _, hi, ho, hno⟩
    · have h : piecesB sp s = [s] := pieces_one sp s (fun c hc => by
        intro e0; rw [e0] at hc
        obtain ⟨j, hj, he⟩ := List.mem_iff_getElem.1 hc
        have h1 := hno j (by omega)
        rw [occ_one] at h1
        have h2 := of_decide_eq_false h1
        exact h2 (by rw [List.getElem?_eq_getElem hj, he]))
      rw [h, jB_one sp]
    · rw [occ_one] at ho
      have h0 := of_decide_eq_true ho
      have hil := (List.getElem?_eq_some_iff.1 h0).1
      have hie := (List.getElem?_eq_some_iff.1 h0).2
      have hz := size_list s
      have hs2 : s.data.toList = (⟨(s.data.toList.take i).toArray⟩ : ByteArray).data.toList ++ sp :: (⟨(s.data.toList.drop (i + 1)).toArray⟩ : ByteArray).data.toList := by
        have h1 := (List.take_append_drop i s.data.toList).symm
        rw [List.drop_eq_getElem_cons hil, hie] at h1
        exact h1
      have h := pieces_cons sp ⟨(s.data.toList.take i).toArray⟩ ⟨(s.data.toList.drop (i + 1)).toArray⟩ s (fun c hc => by
        intro e0; rw [e0] at hc
        obtain ⟨j, hj, he⟩ := List.mem_iff_getElem.1 hc
        have hj1 : j < (s.data.toList.take i).length := hj
        rw [List.length_take] at hj1
        have h1 := hno j (by omega)
        rw [occ_one] at h1
        have h2 := of_decide_eq_false h1
        have h3 : (s.data.toList.take i)[j]? = some sp := by rw [List.getElem?_eq_getElem hj]; exact congrArg some he
        rw [List.getElem?_take, if_pos (by omega)] at h3
        exact h2 h3) hs2
      have hr : (⟨(s.data.toList.drop (i + 1)).toArray⟩ : ByteArray).size ≤ n := by
        show (s.data.toList.drop (i + 1)).toArray.size ≤ n
        rw [List.size_toArray, List.length_drop]; omega
      have h4 := ih _ hr
      rw [h]
      apply ByteArray.ext
      apply Array.toList_inj.1
      have hp := pieces_pos sp ⟨(s.data.toList.drop (i + 1)).toArray⟩
      cases hps : piecesB sp ⟨(s.data.toList.drop (i + 1)).toArray⟩ with
      | nil => rw [hps] at hp; simp at hp
      | cons y l =>
        rw [hps] at h4
        have h5 := congrArg (fun b => b.data.toList) h4
        simp only [jB_data sp, List.map_cons] at h5
        rw [jB_data sp, List.map_cons, List.map_cons, jL_cons sp, h5]
        exact hs2.symm
def cutN (sp : UInt8) (k : Nat) (s : ByteArray) : List ByteArray := Lib.splitB (sepB sp) 0 (min k (s.size + 1) - 1) s
theorem cutN_facts (sp : UInt8) (k : Nat) (s : ByteArray) (hk : 1 ≤ k) : 0 < (cutN sp k s).length ∧ (cutN sp k s).length ≤ k ∧ ((cutN sp k s).length < k → cutN sp k s = piecesB sp s) ∧ ((piecesB sp s).length ≤ k → cutN sp k s = piecesB sp s) := by
  have hl : (cutN sp k s).length ≤ (min k (s.size + 1) - 1) + 1 := Lib.splitB_length_le _ _ _ _
  have hp := pieces_pos sp s
  rcases split_some sp (min k (s.size + 1) - 1) s.size s (by omega) with h | ⟨h1, h2⟩
  · have hq : cutN sp k s = piecesB sp s := h
    rw [hq] at hl ⊢
    exact ⟨hp, by omega, fun _ => rfl, fun _ => rfl⟩
  · have h1' : (cutN sp k s).length = (min k (s.size + 1) - 1) + 1 := h1
    have h2' : (min k (s.size + 1) - 1) + 1 < (piecesB sp s).length := h2
    have hm : min k (s.size + 1) - 1 + 1 = k := by
      have := pieces_len sp s
      omega
    exact ⟨by omega, by omega, fun h => by omega, fun h => by omega⟩
def zeroI (vs : List Int) (n : Nat) : List Value := intV vs ++ List.replicate (n - vs.length) (.int .i64 0)
theorem zeroI_nil (n : Nat) : (madeCells #[Value.int .i64 0] n).toList = zeroI [] n := by
  apply List.ext_getElem?
  intro j
  by_cases h : j < n
  · simp [madeCells, zeroI, intV, h, Nat.mod_one]
  · rw [List.getElem?_eq_none (by simp [madeCells]; omega), List.getElem?_eq_none (by simp [zeroI, intV]; omega)]
theorem zeroI_step (vs : List Int) (n : Nat) (v : Int) (h : vs.length < n) : (zeroI vs n).set vs.length (.int .i64 v) = zeroI (vs ++ [v]) n := by
  unfold zeroI
  obtain ⟨d, hd⟩ : ∃ d, n - vs.length = d + 1 := ⟨n - vs.length - 1, by omega⟩
  have e : n - (vs ++ [v]).length = d := by rw [List.length_append, List.length_singleton]; omega
  rw [hd, e, List.set_append_right _ _ (by rw [intV_len]; exact Nat.le_refl _), intV_len, Nat.sub_self, List.replicate_succ, List.set_cons_zero, ← intV_snoc, List.append_assoc]
  rfl
theorem zeroI_all (vs : List Int) (n : Nat) (h : n = vs.length) : zeroI vs n = intV vs := by unfold zeroI; rw [h, Nat.sub_self]; simp
theorem readAll_nums {Q : List ByteArray} {vs : List Int} (h : Q.map rN = vs.map some) : Q = nums vs := by
  apply List.ext_getElem?
  intro i
  have h1 := congrArg (fun l => l[i]?) h
  simp only [List.getElem?_map] at h1
  unfold nums
  rw [List.getElem?_map]
  cases hq : Q[i]? with
  | none => rw [hq] at h1; cases hv : vs[i]? with
    | none => rfl
    | some v => rw [hv] at h1; simp at h1
  | some q =>
    rw [hq] at h1
    cases hv : vs[i]? with
    | none => rw [hv] at h1; simp at h1
    | some v =>
      rw [hv] at h1
      have h2 : rN q = some v := by simpa using h1
      rw [← (rN_some h2).1]; rfl
theorem somes_inj {a b : List Int} (h : a.map some = b.map some) : a = b := by
  apply List.ext_getElem?
  intro i
  have h1 := congrArg (fun l => l[i]?) h
  simp only [List.getElem?_map] at h1
  cases ha : a[i]? <;> cases hb : b[i]? <;> rw [ha, hb] at h1 <;> simp_all
theorem read_nums2 {xs : List Int} (h : ∀ x ∈ xs, -9223372036854775808 ≤ x ∧ x ≤ 9223372036854775807) : (nums xs).map rN = xs.map some := by
  unfold nums
  rw [List.map_map]
  apply List.map_congr_left
  intro v hv
  exact rN_of v (h v hv).1 (h v hv).2
theorem map_take_step {Q : List ByteArray} {vs : List Int} {k : Nat} {x : ByteArray} {v : Int} (h : (Q.take k).map rN = vs.map some) (hx : Q[k]? = some x) (hv : rN x = some v) : (Q.take (k + 1)).map rN = (vs ++ [v]).map some := by
  have hl := (List.getElem?_eq_some_iff.1 hx).1
  have he : Q[k] = x := (List.getElem?_eq_some_iff.1 hx).2
  rw [List.take_succ_eq_append_getElem hl, he, List.map_append, List.map_append, h]
  simp [hv]

end Go.Proofs.YthlilfdndpnbkaaGreatDoor
