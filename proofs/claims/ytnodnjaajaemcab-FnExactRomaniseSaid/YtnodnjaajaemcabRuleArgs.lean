/-
  What a walk is told of a rule that came in by value and of a slice of rules; the contracts of the laws' helpers at one rule.
-/
import Derived.Test.YtnodnjaajaemcabRule
import Derived.Deep.Slices
import Derived.Deep.Fields
import Derived.ChangeSame
import Derived.Lib.SmallJoins
import Derived.Below
namespace Go.Proofs.Ytnodnjaajaemcab
set_option linter.unusedVariables false
open Go.ChangeShapes Go.WideShapes Go.Deep Go.RowKit

theorem exists_listR {α : Type} {Q : Nat → α → Prop} : ∀ (n : Nat), (∀ i, i < n → ∃ p, Q i p) → ∃ l : List α, l.length = n ∧ ∀ (i : Nat) p, l[i]? = some p → Q i p
  | 0, _ => ⟨[], rfl, fun i p h => by simp at h⟩
  | n + 1, h => by
    obtain ⟨l, hl, hq⟩ := exists_listR n (fun i hi => h i (by omega))
    obtain ⟨p, hp⟩ := h n (by omega)
    refine ⟨l ++ [p], by simp [hl], fun i q hi => ?_⟩
    by_cases hlt : i < n
    · rw [List.getElem?_append_left (by omega)] at hi; exact hq i q hi
    · rw [List.getElem?_append_right (by omega)] at hi
      have hil := (List.getElem?_eq_some_iff.1 hi).1
      simp at hil
      have hin : i = n := by omega
      subst hin
      rw [hl, Nat.sub_self] at hi
      obtain rfl : p = q := by simpa using hi
      exact hp

/-- Two cells hold the slice and the text of the rule r; the slice's numbers lie below block B. -/
def RuleCell (w : World) (B b o : Nat) (r : Ru) : Prop :=
  ∃ A n c, w.cell? ⟨b, o, none⟩ = some (.slice A n c) ∧ w.cell? ⟨b, o + 1, none⟩ = some (.string r.2) ∧ NumAt w B A n r.1 ∧ n ≤ maxLen ∧ r.2.size ≤ maxLen
theorem RuleCell.below {w w' : World} {B C b o : Nat} {r : Ru} (h : RuleCell w B b o r) (hb : Below C w w') (h1 : b < C) (h2 : B ≤ C) : RuleCell w' B b o r := by
  obtain ⟨A, n, c, k1, k2, k3, k4, k5⟩ := h
  exact ⟨A, n, c, (hb.cell (p := ⟨b, o, none⟩) h1).trans k1, (hb.cell (p := ⟨b, o + 1, none⟩) h1).trans k2, k3.below hb h2, k4, k5⟩
theorem RuleCell.more {w : World} {B C b o : Nat} {r : Ru} (h : RuleCell w B b o r) (h2 : B ≤ C) : RuleCell w C b o r := by
  obtain ⟨A, n, c, k1, k2, k3, k4, k5⟩ := h
  exact ⟨A, n, c, k1, k2, k3.more h2, k4, k5⟩
/-- A slice that holds the rules rs, all below block B. -/
def RulesAt (w : World) (B : Nat) (A : Option Addr) (n : Nat) (rs : List Ru) : Prop :=
  n = rs.length ∧ (0 < n → ∃ b o, A = some ⟨b, o, none⟩ ∧ b < B ∧ ∀ (j : Nat) r, rs[j]? = some r → RuleCell w B b (o + j * 2) r)
theorem RulesAt.below {w w' : World} {B C : Nat} {A : Option Addr} {n : Nat} {rs : List Ru} (h : RulesAt w B A n rs) (hb : Below C w w') (hBC : B ≤ C) : RulesAt w' B A n rs :=
  ⟨h.1, fun hp => by obtain ⟨b, o, h1, h2, h3⟩ := h.2 hp; exact ⟨b, o, h1, h2, fun j r hr => (h3 j r hr).below hb (by omega) hBC⟩⟩
theorem RulesAt.more {w : World} {B C : Nat} {A : Option Addr} {n : Nat} {rs : List Ru} (h : RulesAt w B A n rs) (hBC : B ≤ C) : RulesAt w C A n rs :=
  ⟨h.1, fun hp => by obtain ⟨b, o, h1, h2, h3⟩ := h.2 hp; exact ⟨b, o, h1, Nat.lt_of_lt_of_le h2 hBC, fun j r hr => (h3 j r hr).more hBC⟩⟩
theorem RulesAt.row {w : World} {B n : Nat} {A : Option Addr} {rs : List Ru} (h : RulesAt w B A n rs) {k : Nat} {r : Ru} (hr : rs[k]? = some r) :
    ∃ b o, A = some ⟨b, o, none⟩ ∧ b < B ∧ RuleCell w B b (o + k * 2) r := by
  have := (List.getElem?_eq_some_iff.1 hr).1
  obtain ⟨b, o, h1, h2, h3⟩ := h.2 (by have := h.1; omega)
  exact ⟨b, o, h1, h2, h3 k r hr⟩
theorem RulesAt.drewN {w : World} {B : Nat} {A : Option Addr} {n : Nat} {rs : List Ru} (h : RulesAt w B A n rs) (m : Nat) : RulesAt (w.drewN m) B A n rs := h

section
variable {H : Type} {enc : TypeId × Value → H} {w : World} {base : Nat} {held : Bool}
set_option maxRecDepth 100000 in
theorem ints_of {fuel : Nat} {v : Value} {x : DataW H × List MemPlace} (h : DataW.trod enc Try.prog w base (fun _ => true) held fuel 23 [v] = some x) :
    ∃ a n c xs, v = .slice a n c ∧ n ≤ maxLen ∧ NumAt w w.heap.size a n xs := by
  rcases open_ints Try.underlying23 Try.underlying2 (by kernel_rfl) h with ⟨hcs, _⟩ | ⟨a, l, c, zs, hcs, _, hl, hm, hz, _, hcell, hwz⟩
  · simp at hcs
    exact ⟨none, 0, 0, [], hcs, Nat.zero_le _, rfl, fun h => absurd h (by omega)⟩
  · simp at hcs
    have hi : IsInts .i64 w (some a) l c zs := .inr ⟨a, rfl, hl, hm, by simpa using hz, hcell, hwz⟩
    obtain ⟨h1, h2⟩ := numAt_arg hi
    exact ⟨some a, l, c, _, hcs, h1, h2⟩
set_option maxRecDepth 100000 in
theorem openRule {r : Reach} {b0 : Nat} {v : Value} {d : DataW H} {p : List MemPlace} (hv : Value.okWide Try.prog w r b0 40 v) (h : DataW.Trod enc Try.prog w base (fun _ => true) held 40 v d p) :
    ∃ (a : Option Addr) (n c : Nat) (xs : List Int) (s : ByteArray), v = .agg #[.slice a n c, .string s] ∧ n ≤ maxLen ∧ s.size ≤ maxLen ∧ NumAt w w.heap.size a n xs := by
  obtain ⟨v0, v1, y0, y1, n, rfl, _, _, h0, h1⟩ := Joins.open_agg2 Try.underlying40 (by kernel_rfl) (by kernel_rfl) hv h
  obtain ⟨a, m, c, xs, rfl, hm, hn⟩ := ints_of h0
  obtain ⟨s, hs, _, hl⟩ := DataW.trod_string Try.underlying9 h1
  simp at hs
  subst hs
  exact ⟨a, m, c, xs, s, rfl, hm, hl, hn⟩

set_option maxRecDepth 100000 in
theorem openRules {r : Reach} {b0 : Nat} {v : Value} {d : DataW H} {p : List MemPlace} (hv : Value.okWide Try.prog w r b0 22 v) (h : DataW.Trod enc Try.prog w base (fun _ => true) held 22 v d p) :
    ∃ (a : Option Addr) (len cap : Nat) (rs : List Ru), v = .slice a len cap ∧ len ≤ maxLen ∧ RulesAt w w.heap.size a len rs := by
  obtain ⟨a, len, cap, rfl⟩ := okWide_slice Try.underlying22 hv
  obtain ⟨fuel, hf⟩ := h
  rcases open_slice Try.underlying22 hf with ⟨hcs, _⟩ | ⟨x, l, c, m, n, D, Pl, hcs, _, hl, hm, hmm, _, hi⟩
  · simp [Value.cells] at hcs
    obtain ⟨rfl, rfl, rfl⟩ := hcs
    exact ⟨none, 0, 0, [], rfl, Nat.zero_le _, rfl, fun h => absurd h (by omega)⟩
  · simp [Value.cells] at hcs
    obtain ⟨rfl, rfl, rfl⟩ := hcs
    have hC : (Try.prog).cellsOf 40 = 2 := by kernel_rfl
    have hm2 : m = cap := by simpa using hmm
    have key0 : ∀ i, i < len → ∃ q : Ru, ∃ A' n' c', w.cell? ((x.add (i * 2)).add 0) = some (.slice A' n' c') ∧ w.cell? ((x.add (i * 2)).add 1) = some (.string q.2) ∧ NumAt w w.heap.size A' n' q.1 ∧ n' ≤ maxLen ∧ q.2.size ≤ maxLen := by
      intro i hil
      obtain ⟨cs', hc, ht⟩ := hi i (by omega)
      rw [hC] at hc
      obtain ⟨_, hcl, hat⟩ := World.cells?_some hc
      obtain ⟨y0, y1, n', _, _, h0, h1⟩ := trod_struct2 Try.underlying40 ht
      have hc0 := hat 0 (by omega)
      have hc1 := hat 1 (by omega)
      match cs', hcl with
      | [c0, c1], _ =>
        have k0 : (Try.prog).cellsOf 23 = 1 := by kernel_rfl
        have k1 : (Try.prog).cellsOf 9 = 1 := by kernel_rfl
        simp only [k0, k1, List.drop_zero, List.drop_succ_cons, List.take_succ_cons, List.take_zero] at h0 h1
        obtain ⟨A', n', c', xs, rfl, hm', hn'⟩ := ints_of h0
        obtain ⟨s, hs, _, hsl⟩ := DataW.trod_string Try.underlying9 h1
        simp at hs
        subst hs
        rw [List.getElem?_cons_zero] at hc0
        rw [show ([Value.slice A' n' c', .string s] : List Value)[1]? = some (.string s) from rfl] at hc1
        exact ⟨(xs, s), A', n', c', hc0, hc1, hn', hm', hsl⟩
    obtain ⟨b, o, spot⟩ := x
    have key : ∀ i, i < len → ∃ q : Ru, ∃ b' o', (some ⟨b, o, spot⟩ : Option Addr) = some ⟨b', o', none⟩ ∧ b' < w.heap.size ∧ RuleCell w w.heap.size b' (o' + i * 2) q := by
      intro i hil
      have hsp : spot = none := by
        obtain ⟨_, _, _, _, h0, _⟩ := key0 0 (by omega)
        simpa [Addr.add] using World.cell?_spot h0
      subst hsp
      obtain ⟨q, A', n', c', h0, h1, h2, h3, h4⟩ := key0 i hil
      rw [add_plain', add_plain', Nat.add_zero] at h0
      rw [add_plain', add_plain'] at h1
      exact ⟨q, b, o, rfl, World.block_lt_of_cell? w _ h0, A', n', c', h0, h1, h2, h3, h4⟩
    obtain ⟨rs, hzl, hz⟩ := exists_listR len key
    refine ⟨some ⟨b, o, spot⟩, len, cap, rs, rfl, by omega, hzl.symm, fun hp => ?_⟩
    obtain ⟨q, hq⟩ : ∃ q, rs[0]? = some q := ⟨rs[0]'(by omega), List.getElem?_eq_getElem _⟩
    obtain ⟨b', o', e, hlt, _⟩ := hz 0 q hq
    refine ⟨b', o', e, hlt, fun j r hr => ?_⟩
    obtain ⟨b2, o2, e2, _, h2⟩ := hz j r hr
    rw [e] at e2
    cases e2
    exact h2
end

/-- A block of two cells. -/
def PairAt (w : World) (B : Nat) (u v : Value) : Prop := B < w.heap.size ∧ w.cell? ⟨B, 0, none⟩ = some u ∧ w.cell? ⟨B, 1, none⟩ = some v
theorem PairAt.below {w w' : World} {B : Nat} {u v : Value} (h : PairAt w B u v) (hb : Below w.heap.size w w') : PairAt w' B u v :=
  ⟨Nat.lt_of_lt_of_le h.1 hb.size, (hb.cell (p := ⟨B, 0, none⟩) h.1).trans h.2.1, (hb.cell (p := ⟨B, 1, none⟩) h.1).trans h.2.2⟩
theorem PairAt.new (w : World) (u v : Value) (t : TypeId) : PairAt (w.alloc (.cells #[u, v] t)) w.heap.size u v :=
  ⟨by simp, by rw [World.cell?_alloc_at _ _ _ _ rfl]; rfl, by rw [World.cell?_alloc_at _ _ _ _ rfl]; rfl⟩
theorem alloc_below (w : World) (o : Obj) : Below w.heap.size w (w.alloc o) := (Below.refl _ _).alloc (Nat.le_refl _) _
theorem PairAt.alloc {w : World} {B : Nat} {u v : Value} (h : PairAt w B u v) (o : Obj) : PairAt (w.alloc o) B u v := h.below (alloc_below w o)
/-- One that may be written. -/
def PairW (w : World) (B : Nat) (u v : Value) : Prop := PairAt w B u v ∧ w.frozen? ⟨B, 0, none⟩ = false ∧ w.frozen? ⟨B, 1, none⟩ = false
theorem PairW.below {w w' : World} {B : Nat} {u v : Value} (h : PairW w B u v) (hb : Below w.heap.size w w') : PairW w' B u v :=
  ⟨h.1.below hb, (hb.frozen (p := ⟨B, 0, none⟩) h.1.1).trans h.2.1, (hb.frozen (p := ⟨B, 1, none⟩) h.1.1).trans h.2.2⟩
theorem PairW.new (w : World) (u v : Value) (t : TypeId) : PairW (w.alloc (.cells #[u, v] t)) w.heap.size u v :=
  ⟨PairAt.new w u v t, by unfold World.frozen?; rw [heap_alloc_new]; simp, by unfold World.frozen?; rw [heap_alloc_new]; simp⟩
theorem PairW.alloc {w : World} {B : Nat} {u v : Value} (h : PairW w B u v) (o : Obj) : PairW (w.alloc o) B u v := h.below (alloc_below w o)

/-- What szRule answers for a slice of n numbers and a text of m letters. -/
def szR (left : Int) (n m : Nat) : Int := if left < (n : Int) then -1 else if left - n < (m : Int) then -1 else left - n - m
theorem szR_ok {left : Int} {n m : Nat} (h : ¬ szR left n m < 0) : (n : Int) + m ≤ left ∧ szR left n m = left - n - m := by
  unfold szR at *
  split at h
  · omega
  · rename_i h1
    rw [if_neg h1]
    split at h
    · omega
    · rename_i h2
      rw [if_neg h2]
      omega
theorem szR_le {left : Int} {n m : Nat} (h : left ≤ 1048576) : szR left n m ≤ 1048576 := by
  unfold szR; split
  · omega
  · split <;> omega
theorem cSzI (A : Option Addr) (n c : Nat) (left : Int) (w : World) (hn : n ≤ maxLen) (h0 : 0 ≤ left) (hl : left ≤ 1048576) :
    Calls Try.prog 29 #[.slice A n c, .int .i64 left] w fun e w' => e = .returned (.int .i64 (if left < (n : Int) then -1 else left - n)) ∧ w = w' := by
  unfold maxLen at hn
  by_cases h : left < (n : Int)
  · rw [if_pos h]
    go_enter Try.func29, Try.ntmps29
    go_wp2
    go_ret
    exact ⟨rfl, rfl⟩
  · rw [if_neg h]
    go_enter Try.func29, Try.ntmps29
    go_wp2
    go_ret
    exact ⟨rfl, rfl⟩
theorem cSzR (A : Option Addr) (n c : Nat) (s : ByteArray) (left : Int) (w : World) (hn : n ≤ maxLen) (hs : s.size ≤ maxLen) (h0 : 0 ≤ left) (hl : left ≤ 1048576) :
    Calls Try.prog 17 #[.agg #[.slice A n c, .string s], .int .i64 left] w fun e w' => e = .returned (.int .i64 (szR left n s.size)) ∧ Below w.heap.size w w' := by
  have C := Lib.hid (fun W => cSzI A n c left W hn h0 hl)
  unfold maxLen at hn hs
  unfold szR
  by_cases h1 : left < (n : Int)
  · rw [if_pos h1] at C ⊢
    go_enter Try.func17, Try.ntmps17
    go_wp2_with (go_at_call 29; refine (C.out _).mono ?_; rintro e w' ⟨rfl, rfl⟩)
    go_ret
    exact ⟨rfl, alloc_below _ _⟩
  · rw [if_neg h1] at C ⊢
    have h1' : (n : Int) ≤ left := by omega
    by_cases h2 : left - n < (s.size : Int)
    · rw [if_pos h2]
      go_enter Try.func17, Try.ntmps17
      go_wp2_with (go_at_call 29; refine (C.out _).mono ?_; rintro e w' ⟨rfl, rfl⟩)
      go_ret
      exact ⟨rfl, alloc_below _ _⟩
    · rw [if_neg h2]
      have h2' : (s.size : Int) ≤ left - n := by omega
      go_enter Try.func17, Try.ntmps17
      go_wp2_with (go_at_call 29; refine (C.out _).mono ?_; rintro e w' ⟨rfl, rfl⟩)
      go_ret
      exact ⟨rfl, alloc_below _ _⟩

theorem cToI_none2 (A : Option Addr) (cap : Nat) (w : World) :
    Calls Try.prog 8 #[.slice A 0 cap] w fun e w' => e = .returned (.slice (some ⟨w.heap.size, 0, none⟩) 0 0) ∧ w.heap.size < w'.heap.size ∧ Below w.heap.size w w' := by
  obtain ⟨i0, hi0, hz0, hz1, hz2⟩ := info_parts info_i64
  go_enter Try.func8, Try.ntmps8
  go_wp2_with (at_make; refine wpList_make_full _ rfl _ _ 23 rfl w.heap.size 2 i0 _ 1 Try.underlying23 hi0 hz0 hz1 _ _ _ _ 0 rfl rfl (by simp) (by simp) ?b2 ?b3 (Nat.le_refl _) ?_)
  case b2 => rw [hz2]; omega
  case b3 => unfold maxLen; omega
  intro w0 hown0 hgrow0
  have hb0 : Below w.heap.size w w0 := (Below.refl _ _).grown hgrow0 (Nat.le_refl _) (fun k h => by cases h)
  have hlt0 := (World.ownsRow.lt hown0 _ rfl).2
  clear hown0 hgrow0
  go_wp2
  refine wp_loop_rounds 1 ?_
  rw [rounds_succ]
  go_wp2
  go_ret
  exact ⟨rfl, hlt0, hb0⟩
theorem tToI2 (A : Option Addr) (n cap : Nat) (xs : List Int) (w : World) (hbig : n ≤ 1048576) (h : NumAt w w.heap.size A n xs) :
    Calls Try.prog 8 #[.slice A n cap] w fun e w' => e = .returned (.slice (some ⟨w.heap.size, 0, none⟩) n n) ∧
      NumAt w' w'.heap.size (some ⟨w.heap.size, 0, none⟩) n xs ∧ (0 < n → w'.ownsRow w.heap.size 2 1 (.slice (some ⟨w.heap.size, 0, none⟩) n n) n (intV xs)) ∧ w.heap.size < w'.heap.size ∧ Below w.heap.size w w' := by
  rcases Nat.eq_zero_or_pos n with rfl | hp
  · refine (cToI_none2 A cap w).mono ?_
    rintro e w' ⟨rfl, hlt, hb⟩
    exact ⟨rfl, ⟨h.1, fun hp => absurd hp (by omega)⟩, fun hp => absurd hp (by omega), hlt, hb⟩
  · obtain ⟨b, o, rfl, hb, hc⟩ := h.2 hp
    refine (cToI b o n cap xs w h.1 hbig hb hc).mono ?_
    rintro e w' ⟨rfl, own, hbw⟩
    refine ⟨rfl, ⟨h.1, fun _ => ⟨_, 0, rfl, (own.lt _ rfl).2, fun j x hx => ?_⟩⟩, fun _ => own, (own.lt _ rfl).2, hbw⟩
    rw [Nat.zero_add]
    exact (own.cellAt j (by have := (List.getElem?_eq_some_iff.1 hx).1; have := h.1; omega)).trans (intV_at _ _ _ hx)

def box3 (w : World) (u v : Value) : World :=
  ((w.alloc (.cells #[u, v] 40)).alloc (.cells #[.slice none 0 0, .string ByteArray.empty] 44)).alloc (.cells #[.slice none 0 0, .string ByteArray.empty] 44)
theorem box3_size (w : World) (u v : Value) : (box3 w u v).heap.size = w.heap.size + 1 + 1 + 1 := by simp [box3]
theorem box3_facts (w : World) (u v : Value) : Below w.heap.size w (box3 w u v) ∧ PairAt (box3 w u v) w.heap.size u v ∧ PairW (box3 w u v) (w.heap.size + 1) (.slice none 0 0) (.string ByteArray.empty) ∧ PairW (box3 w u v) (w.heap.size + 1 + 1) (.slice none 0 0) (.string ByteArray.empty) := by
  refine ⟨(((Below.refl _ _).alloc (Nat.le_refl _) _).alloc (by simp) _).alloc (by simp; omega) _, ((PairAt.new w u v _).alloc _).alloc _, ?_, ?_⟩
  · have h := (PairW.new (w.alloc (.cells #[u, v] 40)) (.slice none 0 0) (.string ByteArray.empty) 44).alloc (.cells #[.slice none 0 0, .string ByteArray.empty] 44)
    simpa [box3] using h
  · have h := PairW.new ((w.alloc (.cells #[u, v] 40)).alloc (.cells #[.slice none 0 0, .string ByteArray.empty] 44)) (.slice none 0 0) (.string ByteArray.empty) 44
    have e : ((w.alloc (.cells #[u, v] 40)).alloc (.cells #[.slice none 0 0, .string ByteArray.empty] 44)).heap.size = w.heap.size + 1 + 1 := by simp
    rw [e] at h
    exact h
end Go.Proofs.Ytnodnjaajaemcab
