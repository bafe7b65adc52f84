/-
  Plain facts on signs and rules: no program is named here. A rule is a pair of its signs and its text.
-/
import Derived.Test.YtnodnjaajaemcabPlain
namespace Go.Proofs.Ytnodnjaajaemcab
set_option linter.unusedVariables false
open Go.RowKit

abbrev Ru := List Int × ByteArray
def signB (x : Int) : Bool := decide (0 ≤ x) && decide (x ≤ 19)
theorem signB_yes {x : Int} (h1 : 0 ≤ x) (h2 : x < 20) : signB x = true := by unfold signB; simp; omega
theorem signB_no {x : Int} (h : x < 0 ∨ 20 ≤ x) : signB x = false := by unfold signB; simp; omega
theorem signB_bd {x : Int} (h : signB x = true) : 0 ≤ x ∧ x ≤ 19 := by unfold signB at h; simp at h; exact h
def allS (xs : List Int) : Bool := xs.all signB
theorem allS_zero (xs : List Int) : allS (xs.take 0) = true := rfl
theorem allS_step {xs : List Int} {k : Nat} {x : Int} (h : xs[k]? = some x) (ha : allS (xs.take k) = true) (hb : signB x = true) : allS (xs.take (k + 1)) = true := by
  have hk := (List.getElem?_eq_some_iff.1 h).1
  have hx : xs[k] = x := (List.getElem?_eq_some_iff.1 h).2
  rw [List.take_succ_eq_append_getElem hk, hx]; unfold allS at *; simp [List.all_append, ha, hb]
theorem allS_stop {xs : List Int} {k : Nat} {x : Int} (h : xs[k]? = some x) (hb : signB x = false) : allS xs = false := by
  unfold allS; rw [List.all_eq_false]; exact ⟨x, List.mem_of_getElem? h, by simp [hb]⟩
theorem allS_end {xs : List Int} {k : Nat} (h : xs.length ≤ k) : allS (xs.take k) = allS xs := by rw [List.take_of_length_le h]
/-- Between 1 and m signs. -/
def signsB (m : Nat) (xs : List Int) : Bool := allS xs && (decide (1 ≤ xs.length) && decide (xs.length ≤ m))
theorem signs_bad (m : Nat) (xs : List Int) (h : allS xs = false) : signsB m xs = false := by unfold signsB; rw [h]; rfl
theorem signs_none (m : Nat) (xs : List Int) (h : xs.length < 1) : signsB m xs = false := by unfold signsB; rw [decide_eq_false (by omega : ¬ 1 ≤ xs.length)]; simp
theorem signs_long (m : Nat) (xs : List Int) (h : m < xs.length) : signsB m xs = false := by unfold signsB; rw [decide_eq_false (by omega : ¬ xs.length ≤ m)]; simp
theorem signs_yes (m : Nat) (xs : List Int) (h : allS xs = true) (h1 : 1 ≤ xs.length) (h2 : xs.length ≤ m) : signsB m xs = true := by unfold signsB; rw [h, decide_eq_true h1, decide_eq_true h2]; rfl
theorem signs_sum (m : Nat) (xs : List Int) (h : allS xs = true) : signsB m xs = (decide ((1 : Int) ≤ (xs.length : Int)) && decide ((xs.length : Int) ≤ (m : Int))) := by
  unfold signsB; rw [h, Bool.true_and]
  congr 1 <;> (rw [decide_eq_decide]; omega)
theorem signs_len {m : Nat} {xs : List Int} (h : signsB m xs = true) : 1 ≤ xs.length ∧ xs.length ≤ m := by
  unfold signsB at h; rw [Bool.and_eq_true, Bool.and_eq_true, decide_eq_true_eq, decide_eq_true_eq] at h; exact h.2
theorem signs_all {m : Nat} {xs : List Int} (h : signsB m xs = true) : ∀ x ∈ xs, 0 ≤ x ∧ x ≤ 19 := by
  unfold signsB at h; rw [Bool.and_eq_true] at h
  intro x hx
  have := h.1; unfold allS at this; rw [List.all_eq_true] at this
  exact signB_bd (this x hx)
theorem signs_mk {m : Nat} {xs : List Int} (h1 : 1 ≤ xs.length) (h2 : xs.length ≤ m) (h : ∀ x ∈ xs, 0 ≤ x ∧ x ≤ 19) : signsB m xs = true :=
  signs_yes m xs (by unfold allS; rw [List.all_eq_true]; intro x hx; have := h x hx; exact signB_yes this.1 (by omega)) h1 h2

/-- The text of a rule. -/
def romB (s : ByteArray) : Bool := decide (s.size ≤ 4) && lowAll s.data.toList
theorem rom_stop (s : ByteArray) (k : Nat) (h : k < s.size) (hc : lowB s[k] = false) : romB s = false := by
  unfold romB; rw [lowAll_stop s k h hc]; simp
theorem rom_long (s : ByteArray) (h : 4 < s.size) : romB s = false := by
  unfold romB; rw [show decide (s.size ≤ 4) = false from decide_eq_false (by omega)]; rfl
theorem rom_sum (s : ByteArray) (h : lowAll s.data.toList = true) : romB s = (decide ((0 : Int) ≤ (s.size : Int)) && decide ((s.size : Int) ≤ 4)) := by
  unfold romB; rw [h, Bool.and_true, decide_eq_true (by omega : (0 : Int) ≤ (s.size : Int)), Bool.true_and, decide_eq_decide]; omega
theorem rom_none (s : ByteArray) (h : s.size = 0) : romB s = true := by
  unfold romB lowAll
  have : s.data.toList = [] := List.length_eq_zero_iff.1 (by simpa using h)
  rw [this, h]; rfl
theorem rom_word (s : ByteArray) (h1 : 1 ≤ s.size) (h2 : s.size ≤ 4) : wordB s = romB s := by
  unfold wordB romB
  rw [show decide (1 ≤ s.size) = true from decide_eq_true h1, show decide (s.size ≤ 16) = true from decide_eq_true (by omega), show decide (s.size ≤ 4) = true from decide_eq_true h2]; rfl
theorem rom_len {s : ByteArray} (h : romB s = true) : s.size ≤ 4 := by unfold romB at h; rw [Bool.and_eq_true, decide_eq_true_eq] at h; exact h.1
theorem rom_low {s : ByteArray} (h : romB s = true) : lowAll s.data.toList = true := by unfold romB at h; rw [Bool.and_eq_true] at h; exact h.2

def ruleB (r : Ru) : Bool := romB r.2 && signsB 3 r.1
theorem rule_signs {r : Ru} (h : ruleB r = true) : signsB 3 r.1 = true := by unfold ruleB at h; rw [Bool.and_eq_true] at h; exact h.2
theorem rule_rom {r : Ru} (h : ruleB r = true) : romB r.2 = true := by unfold ruleB at h; rw [Bool.and_eq_true] at h; exact h.1

/-- The place of a list of signs among some. -/
def posK : List (List Int) → List Int → Nat
  | [], _ => 0
  | x :: xs, s => if x = s then 0 else posK xs s + 1
theorem posK_at : ∀ (xs : List (List Int)) (k : Nat) (s : List Int), xs[k]? = some s → s ∉ xs.take k → posK xs s = k
  | [], k, s, h, _ => by simp at h
  | x :: xs, 0, s, h, _ => by simp at h; simp [posK, h]
  | x :: xs, k + 1, s, h, hn => by
    simp at h hn
    have hne : ¬ x = s := fun e => hn.1 e.symm
    rw [posK, if_neg hne, posK_at xs k s h hn.2]
theorem posK_lt : ∀ (xs : List (List Int)) (s : List Int), s ∈ xs → posK xs s < xs.length ∧ xs[posK xs s]? = some s
  | [], s, h => by simp at h
  | x :: xs, s, h => by
    unfold posK
    by_cases e : x = s
    · rw [if_pos e]; simp [e]
    · rw [if_neg e]
      have h' : s ∈ xs := by
        rcases List.mem_cons.1 h with h | h
        · exact absurd h.symm e
        · exact h
      have := posK_lt xs s h'
      exact ⟨by simp; exact this.1, by simpa using this.2⟩
theorem posK_app : ∀ (a b : List (List Int)) (s : List Int), s ∈ a → posK (a ++ b) s = posK a s
  | [], b, s, h => by simp at h
  | y :: a, b, s, h => by
    simp only [List.cons_append, posK]
    by_cases e : y = s
    · simp [e]
    · rw [if_neg e, if_neg e, posK_app a b s (by rcases List.mem_cons.1 h with h | h
                                                 · exact absurd h.symm e
                                                 · exact h)]
def findK (xs : List (List Int)) (s : List Int) : Int := if s ∈ xs then (posK xs s : Int) else -1
theorem findK_hit (xs : List (List Int)) (k : Nat) (s : List Int) (h : xs[k]? = some s) (hn : s ∉ xs.take k) : findK xs s = (k : Int) := by
  unfold findK; rw [if_pos (List.mem_of_getElem? h), posK_at xs k s h hn]
theorem findK_miss (xs : List (List Int)) (s : List Int) (h : s ∉ xs) : findK xs s = -1 := by unfold findK; rw [if_neg h]
theorem findK_earlier (xs : List (List Int)) (k : Nat) (s : List Int) (h : xs[k]? = some s) (hn : s ∈ xs.take k) : findK xs s ≠ (k : Int) := by
  have hp := posK_lt (xs.take k) s hn
  have hm : s ∈ xs := List.mem_of_getElem? h
  unfold findK; rw [if_pos hm]
  have hk : (xs.take k).length ≤ k := by simp; omega
  have : posK xs s = posK (xs.take k) s := (congrArg (fun l => posK l s) (List.take_append_drop k xs).symm).trans (posK_app _ _ _ hn)
  omega
theorem takeK_snoc {α : Type} {xs : List α} {k : Nat} {x : α} (h : xs[k]? = some x) : xs.take (k + 1) = xs.take k ++ [x] := by
  have hk := (List.getElem?_eq_some_iff.1 h).1
  have hx : xs[k] = x := (List.getElem?_eq_some_iff.1 h).2
  rw [List.take_succ_eq_append_getElem hk, hx]

def keys (rs : List Ru) : List (List Int) := rs.map Prod.fst
theorem keys_at {rs : List Ru} {k : Nat} {r : Ru} (h : rs[k]? = some r) : (keys rs)[k]? = some r.1 := by simp [keys, h]
theorem keys_len (rs : List Ru) : (keys rs).length = rs.length := by simp [keys]
theorem keys_take (rs : List Ru) (k : Nat) : keys (rs.take k) = (keys rs).take k := by simp [keys, List.map_take]
def goodT (rs : List Ru) : Bool := rs.all ruleB && decide (keys rs).Nodup
theorem goodT_zero (rs : List Ru) : goodT (rs.take 0) = true := by simp [goodT, keys]
theorem goodT_step {rs : List Ru} {k : Nat} {r : Ru} (h : rs[k]? = some r) (ha : goodT (rs.take k) = true) (hl : ruleB r = true) (hn : r.1 ∉ (keys rs).take k) : goodT (rs.take (k + 1)) = true := by
  rw [takeK_snoc h]; rw [← keys_take] at hn; unfold goodT at *
  rw [Bool.and_eq_true, decide_eq_true_eq] at *
  refine ⟨by simp only [List.all_append, ha.1, List.all_cons, List.all_nil, hl, Bool.and_true], ?_⟩
  unfold keys at *
  rw [List.map_append, List.nodup_append]
  exact ⟨ha.2, by simp, fun a h1 b h2 e => by
    simp at h2; subst h2; subst e; exact hn h1⟩
theorem goodT_bad {rs : List Ru} {k : Nat} {r : Ru} (h : rs[k]? = some r) (hl : ruleB r = false) : goodT rs = false := by
  unfold goodT
  rw [show rs.all ruleB = false from by rw [List.all_eq_false]; exact ⟨r, List.mem_of_getElem? h, by simp [hl]⟩]; rfl
theorem nodup_not_before {α : Type} {xs : List α} {k : Nat} {x : α} (h : xs[k]? = some x) (hd : xs.Nodup) : x ∉ xs.take k := by
  intro hn
  have hk := (List.getElem?_eq_some_iff.1 h).1
  have hx : xs[k] = x := (List.getElem?_eq_some_iff.1 h).2
  rw [(List.take_append_drop k xs).symm, List.nodup_append] at hd
  refine hd.2.2 x hn x ?_ rfl
  rw [List.drop_eq_getElem_cons hk, hx]; simp
theorem goodT_twice {rs : List Ru} {k : Nat} {r : Ru} (h : rs[k]? = some r) (hn : r.1 ∈ (keys rs).take k) : goodT rs = false := by
  unfold goodT
  rw [show decide (keys rs).Nodup = false from decide_eq_false (fun hd => nodup_not_before (keys_at h) hd hn), Bool.and_false]
theorem goodT_end {rs : List Ru} {k : Nat} (h : rs.length ≤ k) : goodT (rs.take k) = goodT rs := by rw [List.take_of_length_le h]
theorem goodT_mem {rs : List Ru} (h : goodT rs = true) {r : Ru} (hx : r ∈ rs) : ruleB r = true := by
  unfold goodT at h; rw [Bool.and_eq_true, List.all_eq_true] at h; exact h.1 r hx
theorem goodT_nodup {rs : List Ru} (h : goodT rs = true) : (keys rs).Nodup := by
  unfold goodT at h; rw [Bool.and_eq_true, decide_eq_true_eq] at h; exact h.2
/-- The list is a table. -/
def tableB (rs : List Ru) : Bool := goodT rs && decide (rs.length ≤ 30)
theorem table_bad {rs : List Ru} (h : goodT rs = false) : tableB rs = false := by unfold tableB; rw [h]; rfl
theorem table_long {rs : List Ru} (h : 30 < rs.length) : tableB rs = false := by unfold tableB; rw [decide_eq_false (by omega : ¬ rs.length ≤ 30), Bool.and_false]
theorem table_yes {rs : List Ru} (h : goodT rs = true) (h2 : rs.length ≤ 30) : tableB rs = true := by unfold tableB; rw [h, decide_eq_true h2]; rfl
theorem table_sum {rs : List Ru} (h : goodT rs = true) : tableB rs = decide ((rs.length : Int) ≤ 30) := by
  unfold tableB; rw [h, Bool.true_and, decide_eq_decide]; omega
theorem table_good {rs : List Ru} (h : tableB rs = true) : goodT rs = true := by unfold tableB at h; rw [Bool.and_eq_true] at h; exact h.1
theorem table_len {rs : List Ru} (h : tableB rs = true) : rs.length ≤ 30 := by unfold tableB at h; rw [Bool.and_eq_true, decide_eq_true_eq] at h; exact h.2
end Go.Proofs.Ytnodnjaajaemcab
