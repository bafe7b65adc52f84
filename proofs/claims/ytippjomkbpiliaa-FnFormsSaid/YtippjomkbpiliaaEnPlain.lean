/-
  Plain facts on endings: an ending as a triple (Old, New, Case), a slice's cells, what makes a table.
-/
import Derived.Test.YtippjomkbpiliaaAlphaPlain
import Derived.Test.YtippjomkbpiliaaArgs
import Derived.Below
import Derived.OwnWalk
import Derived.Laws.OwnMore
import Derived.Deep.AppendLies
namespace Go.Proofs.Ytippjomkbpiliaa
set_option linter.unusedVariables false
open Go.RowKit

abbrev En := ByteArray × ByteArray × Int
instance decEn : DecidableEq En := inferInstanceAs (DecidableEq (ByteArray × ByteArray × Int))
instance memEn (x : En) (xs : List En) : Decidable (x ∈ xs) := @List.instDecidableMemOfLawfulBEq En (@instBEqOfDecidableEq _ decEn) inferInstance x xs
def encE (e : En) : List Value := [.string e.1, .string e.2.1, .int .i64 e.2.2]
def enV (xs : List En) : List Value := xs.flatMap encE
theorem enV_cons (p : En) (xs : List En) : enV (p :: xs) = .string p.1 :: .string p.2.1 :: .int .i64 p.2.2 :: enV xs := by simp [enV, encE]
theorem enV_len : ∀ xs : List En, (enV xs).length = xs.length * 3
  | [] => rfl
  | p :: xs => by rw [enV_cons, List.length_cons, List.length_cons, List.length_cons, enV_len xs, List.length_cons]; omega
theorem enV_app (xs ys : List En) : enV (xs ++ ys) = enV xs ++ enV ys := by simp [enV]
theorem enV_one (p : En) : enV [p] = [.string p.1, .string p.2.1, .int .i64 p.2.2] := by simp [enV, encE]
theorem enV_at : ∀ (xs : List En) (k : Nat) (p : En), xs[k]? = some p → (enV xs)[k * 3]? = some (.string p.1) ∧ (enV xs)[k * 3 + 1]? = some (.string p.2.1) ∧ (enV xs)[k * 3 + 2]? = some (.int .i64 p.2.2)
  | [], k, p, h => by simp at h
  | q :: xs, 0, p, h => by
    obtain rfl : q = p := by simpa using h
    rw [enV_cons]; exact ⟨rfl, rfl, rfl⟩
  | q :: xs, k + 1, p, h => by
    have ih := enV_at xs k p (by simpa using h)
    rw [enV_cons, show (k + 1) * 3 = k * 3 + 1 + 1 + 1 by omega]
    simpa using ih

/-- Three cells hold an ending. -/
def EnCell (w : World) (b o : Nat) (e : En) : Prop := w.cell? ⟨b, o, none⟩ = some (.string e.1) ∧ w.cell? ⟨b, o + 1, none⟩ = some (.string e.2.1) ∧ w.cell? ⟨b, o + 2, none⟩ = some (.int .i64 e.2.2)
theorem EnCell.below {w w' : World} {C b o : Nat} {e : En} (h : EnCell w b o e) (hb : Below C w w') (h1 : b < C) : EnCell w' b o e :=
  ⟨(hb.cell (p := ⟨b, o, none⟩) h1).trans h.1, (hb.cell (p := ⟨b, o + 1, none⟩) h1).trans h.2.1, (hb.cell (p := ⟨b, o + 2, none⟩) h1).trans h.2.2⟩
/-- A slice that holds the endings xs, below block B. -/
def EnAt (w : World) (B : Nat) (A : Option Addr) (n : Nat) (xs : List En) : Prop :=
  n = xs.length ∧ (0 < n → ∃ b o, A = some ⟨b, o, none⟩ ∧ b < B ∧ ∀ (j : Nat) e, xs[j]? = some e → EnCell w b (o + j * 3) e)
theorem EnAt.below {w w' : World} {B C : Nat} {A : Option Addr} {n : Nat} {xs : List En} (h : EnAt w B A n xs) (hb : Below C w w') (hBC : B ≤ C) : EnAt w' B A n xs :=
  ⟨h.1, fun hp => by obtain ⟨b, o, h1, h2, h3⟩ := h.2 hp; exact ⟨b, o, h1, h2, fun j e he => (h3 j e he).below hb (by omega)⟩⟩
theorem EnAt.more {w : World} {B C : Nat} {A : Option Addr} {n : Nat} {xs : List En} (h : EnAt w B A n xs) (hBC : B ≤ C) : EnAt w C A n xs :=
  ⟨h.1, fun hp => by obtain ⟨b, o, h1, h2, h3⟩ := h.2 hp; exact ⟨b, o, h1, Nat.lt_of_lt_of_le h2 hBC, h3⟩⟩
theorem EnAt.grow {w w' : World} {A : Option Addr} {n : Nat} {xs : List En} (h : EnAt w w.heap.size A n xs) (hb : Below w.heap.size w w') : EnAt w' w'.heap.size A n xs := (h.below hb (Nat.le_refl _)).more hb.size
theorem EnAt.row {w : World} {B n : Nat} {A : Option Addr} {xs : List En} (h : EnAt w B A n xs) {k : Nat} {e : En} (he : xs[k]? = some e) :
    ∃ b o, A = some ⟨b, o, none⟩ ∧ b < B ∧ EnCell w b (o + k * 3) e := by
  have := (List.getElem?_eq_some_iff.1 he).1
  obtain ⟨b, o, h1, h2, h3⟩ := h.2 (by have := h.1; omega)
  exact ⟨b, o, h1, h2, h3 k e he⟩
theorem own_en {w : World} {lo n c : Nat} {A : Option Addr} {xs : List En} {t : TypeId} (h : w.ownsRow lo t 3 (.slice A n c) n (enV xs)) : EnAt w w.heap.size A n xs := by
  have hl : xs.length = n := by have := h.1; rw [enV_len] at this; omega
  refine ⟨hl.symm, fun hp => ?_⟩
  obtain ⟨g, cap, hv, _, hlt⟩ := World.ownsRow.form h hp
  have hA : A = some ⟨g, 0, none⟩ := by injection hv
  subst hA
  refine ⟨g, 0, rfl, hlt, fun k p hk => ?_⟩
  have hkl := (List.getElem?_eq_some_iff.1 hk).1
  have hc := enV_at xs k p hk
  rw [Nat.zero_add]
  exact ⟨(World.ownsRow.cellAt h (k * 3) (by omega)).trans hc.1, (World.ownsRow.cellAt h (k * 3 + 1) (by omega)).trans hc.2.1, (World.ownsRow.cellAt h (k * 3 + 2) (by omega)).trans hc.2.2⟩

/-- The text is an Old or a New. -/
def etB (s : ByteArray) : Bool := decide (s.size ≤ 6) && lowAll s.data.toList
theorem et_long (s : ByteArray) (h : ¬ s.size ≤ 6) : etB s = false := by unfold etB; rw [decide_eq_false h]; rfl
theorem et_short (s : ByteArray) (h : s.size ≤ 6) : etB s = lowAll s.data.toList := by unfold etB; rw [decide_eq_true h]; rfl
theorem et_stop (s : ByteArray) (k : Nat) (h : k < s.size) (hc : lowB s[k] = false) : etB s = false := by unfold etB; rw [lowAll_stop s k h hc, Bool.and_false]
theorem et_sum (s : ByteArray) (h : lowAll s.data.toList = true) : etB s = (decide ((0 : Int) ≤ (s.size : Int)) && decide ((s.size : Int) ≤ 6)) := by
  unfold etB; rw [h, Bool.and_true, decide_eq_true (by omega : (0 : Int) ≤ (s.size : Int)), Bool.true_and, decide_eq_decide]; omega
/-- The triple is an ending. -/
def endB (e : En) : Bool := etB e.1 && etB e.2.1 && !decide (e.1 = e.2.1) && (decide (1 ≤ e.2.2) && decide (e.2.2 ≤ 9))
def endsB (xs : List En) : Bool := xs.all endB
theorem ends_step {xs : List En} {k : Nat} {x : En} (h : xs[k]? = some x) (ha : endsB (xs.take k) = true) (hb : endB x = true) : endsB (xs.take (k + 1)) = true := by
  have hk : k < xs.length := (List.getElem?_eq_some_iff.1 h).1
  have hx : xs[k] = x := (List.getElem?_eq_some_iff.1 h).2
  rw [List.take_succ_eq_append_getElem hk, hx]; unfold endsB at *; rw [List.all_append, ha]; simp [hb]
theorem ends_stop {xs : List En} {k : Nat} {x : En} (h : xs[k]? = some x) (hb : endB x = false) : endsB xs = false := by
  unfold endsB; rw [List.all_eq_false]; exact ⟨x, List.mem_of_getElem? h, by simp [hb]⟩
theorem ends_all {xs : List En} {k : Nat} (h : xs.length ≤ k) (ha : endsB (xs.take k) = true) : endsB xs = true := by rwa [List.take_of_length_le h] at ha
/-- The list is a table of endings. -/
def tabE (xs : List En) : Bool := decide (xs.length ≤ 16) && (endsB xs && decide xs.Nodup)
theorem tabE_long (xs : List En) (h : 16 < xs.length) : tabE xs = false := by unfold tabE; rw [decide_eq_false (by omega)]; rfl
theorem tabE_bad (xs : List En) (h : endsB xs = false) : tabE xs = false := by unfold tabE; rw [h]; simp
theorem tabE_twice (xs : List En) (h : ¬ xs.Nodup) : tabE xs = false := by unfold tabE; rw [decide_eq_false h]; simp
theorem tabE_dif (xs : List En) (h1 : xs.length ≤ 16) (h : endsB xs = true) : tabE xs = decide xs.Nodup := by unfold tabE; rw [h, decide_eq_true h1]; rfl
theorem tabE_sum (xs : List En) (n : Nat) (hn : n = xs.length) (h : endsB xs = true) (hd : xs.Nodup) : tabE xs = decide ((n : Int) ≤ 16) := by
  unfold tabE; rw [h, decide_eq_true hd, ← hn]; simp; omega
theorem tabE_len (xs : List En) (h : tabE xs = true) : xs.length ≤ 16 := by unfold tabE at h; simp at h; exact h.1
theorem tabE_ends (xs : List En) (h : tabE xs = true) : endsB xs = true := by unfold tabE at h; simp at h; exact h.2.1
theorem end_mem (xs : List En) (h : endsB xs = true) (e : En) (he : e ∈ xs) : endB e = true := by unfold endsB at h; rw [List.all_eq_true] at h; exact h e he
theorem end_case (e : En) (h : endB e = true) : 1 ≤ e.2.2 ∧ e.2.2 ≤ 9 := by unfold endB at h; simp at h; exact h.2
theorem end_size (e : En) (h : endB e = true) : e.1.size ≤ 6 ∧ e.2.1.size ≤ 6 := by unfold endB etB at h; simp at h; exact ⟨h.1.1.1.1, h.1.1.2.1⟩
theorem take_snocE {xs : List En} {k : Nat} {x : En} (h : xs[k]? = some x) : xs.take (k + 1) = xs.take k ++ [x] := by
  have hk : k < xs.length := (List.getElem?_eq_some_iff.1 h).1
  have hx : xs[k] = x := (List.getElem?_eq_some_iff.1 h).2
  rw [List.take_succ_eq_append_getElem hk, hx]
theorem nodupE_step {xs : List En} {k : Nat} {x : En} (h : xs[k]? = some x) (hd : (xs.take k).Nodup) (hn : x ∉ xs.take k) : (xs.take (k + 1)).Nodup := by
  rw [take_snocE h, List.nodup_append]
  exact ⟨hd, by simp, fun a h1 b h2 e => by rw [List.mem_singleton] at h2; subst h2; subst e; exact hn h1⟩
theorem nodupE_stop {xs : List En} {k : Nat} {x : En} (h : xs[k]? = some x) (hn : x ∈ xs.take k) : ¬ xs.Nodup := by
  intro hd
  have hk : k < xs.length := (List.getElem?_eq_some_iff.1 h).1
  have hx : xs[k] = x := (List.getElem?_eq_some_iff.1 h).2
  have e : xs = xs.take k ++ xs.drop k := (List.take_append_drop k xs).symm
  rw [e, List.nodup_append] at hd
  refine hd.2.2 x hn x ?_ rfl
  rw [List.drop_eq_getElem_cons hk, hx]; simp
end Go.Proofs.Ytippjomkbpiliaa
