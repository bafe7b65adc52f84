/-
  Slices of numbers of any length: what a walk holds of one, and the contracts of the laws' toInt64S and eqInt64S at it.
-/
import Derived.Test.YthlilfdndpnbkaaGreatDoorMg7
import Derived.Test.YthlilfdndpnbkaaGreatDoorMg1
namespace Go.Proofs.YthlilfdndpnbkaaGreatDoor
section
set_option linter.unusedVariables false
open Go.RowKit

/-- A slice that holds the numbers xs, in a block below B. -/
def NumAt (w : World) (B : Nat) (A : Option Addr) (n : Nat) (xs : List Int) : Prop :=
  n = xs.length ∧ (0 < n → ∃ b o, A = some ⟨b, o, none⟩ ∧ b < B ∧ ∀ (j : Nat) x, xs[j]? = some x → w.cell? ⟨b, o + j, none⟩ = some (.int .i64 x))
theorem NumAt.below {w w' : World} {B C : Nat} {A : Option Addr} {n : Nat} {xs : List Int} (h : NumAt w B A n xs) (hb : Below C w w') (hBC : B ≤ C) : NumAt w' B A n xs :=
  ⟨h.1, fun hp => by obtain ⟨b, o, h1, h2, h3⟩ := h.2 hp; exact ⟨b, o, h1, h2, fun j x hx => (hb.cell (by exact Nat.lt_of_lt_of_le h2 hBC)).trans (h3 j x hx)⟩⟩
theorem NumAt.more {w : World} {B C : Nat} {A : Option Addr} {n : Nat} {xs : List Int} (h : NumAt w B A n xs) (hBC : B ≤ C) : NumAt w C A n xs :=
  ⟨h.1, fun hp => by obtain ⟨b, o, h1, h2, h3⟩ := h.2 hp; exact ⟨b, o, h1, Nat.lt_of_lt_of_le h2 hBC, h3⟩⟩
theorem IsInts.row {k : IntKind} {w : World} {a : Option Addr} {len cap : Nat} {zs : List Int} (h : IsInts k w a len cap zs) (hp : 0 < len) :
    ∃ b o, a = some ⟨b, o, none⟩ ∧ b < w.heap.size ∧ (zs.take len).length = len ∧ len ≤ maxLen ∧ (∀ (j : Nat) x, (zs.take len)[j]? = some x → w.cell? ⟨b, o + j, none⟩ = some (.int k x)) ∧ ∀ n ∈ zs.take len, (Lit.int k n).wf = true := by
  rcases h with ⟨_, h, _⟩ | ⟨x, rfl, hl, hm, hz, hc, hs⟩
  · omega
  · obtain ⟨b, o, spot⟩ := x
    have hspot : spot = none := by simpa [Addr.add] using World.cell?_spot (hc 0 (by omega))
    subst hspot
    have h0 := hc 0 (by omega)
    rw [add_plain'] at h0
    refine ⟨b, o, rfl, World.block_lt_of_cell? w _ h0, by simp; omega, by omega, fun j y hj => ?_, fun s hs' => hs s (List.mem_of_mem_take hs')⟩
    have hjl := (List.getElem?_eq_some_iff.1 hj).1
    rw [List.length_take] at hjl
    have h1 := hc j (by omega)
    rw [add_plain'] at h1
    rw [h1]
    rw [List.getElem?_take, if_pos (by omega)] at hj
    simp [List.getD, hj]

def copyI (xs : List Int) (n k : Nat) : List Value := intV (xs.take k) ++ List.replicate (n - k) (.int .i64 0)
theorem copyI_zero (xs : List Int) (n : Nat) : (madeCells #[Value.int .i64 0] n).toList = copyI xs n 0 := by
  apply List.ext_getElem?
  intro j
  by_cases h : j < n
  · simp [madeCells, copyI, intV, h, Nat.mod_one]
  · rw [List.getElem?_eq_none (by simp [madeCells]; omega), List.getElem?_eq_none (by simp [copyI, intV]; omega)]
theorem copyI_step (xs : List Int) (n k : Nat) (x : Int) (hn : n = xs.length) (h : xs[k]? = some x) : (copyI xs n k).set k (.int .i64 x) = copyI xs n (k + 1) := by
  have hl := (List.getElem?_eq_some_iff.1 h).1
  have he : xs[k] = x := (List.getElem?_eq_some_iff.1 h).2
  unfold copyI intV
  rw [List.set_append_right _ _ (by simp; omega), List.take_succ_eq_append_getElem hl, he, List.map_append, List.append_assoc]
  congr 1
  obtain ⟨d, hd⟩ : ∃ d, n - k = d + 1 := ⟨n - k - 1, by omega⟩
  rw [hd, show n - (k + 1) = d by omega, List.length_map, List.length_take, show k - min k xs.length = 0 by omega, List.replicate_succ, List.set_cons_zero]
  rfl
theorem copyI_all (xs : List Int) (n : Nat) (hn : n = xs.length) : copyI xs n n = intV xs := by
  unfold copyI; rw [List.take_of_length_le (by omega), Nat.sub_self]; simp

theorem numAt_arg {w : World} {a : Option Addr} {n cap : Nat} {zs : List Int} (h : IsInts .i64 w a n cap zs) : n ≤ maxLen ∧ NumAt w w.heap.size a n (zs.take n) := by
  rcases Nat.eq_zero_or_pos n with rfl | hp
  · exact ⟨Nat.zero_le _, by simp, fun h => absurd h (by omega)⟩
  · obtain ⟨b, o, rfl, hb, hl, hm, hc, _⟩ := h.row hp
    exact ⟨hm, hl.symm, fun _ => ⟨b, o, rfl, hb, hc⟩⟩
end
section
set_option linter.unusedVariables false
open Go.RowKit

theorem NumAt.row {w : World} {B n : Nat} {A : Option Addr} {xs : List Int} (h : NumAt w B A n xs) {k : Nat} {x : Int} (hx : xs[k]? = some x) :
    ∃ b o, A = some ⟨b, o, none⟩ ∧ b < B ∧ w.cell? ⟨b, o + k, none⟩ = some (.int .i64 x) := by
  have := (List.getElem?_eq_some_iff.1 hx).1
  obtain ⟨b, o, h1, h2, h3⟩ := h.2 (by have := h.1; omega)
  exact ⟨b, o, h1, h2, h3 k x hx⟩

def allW (lo hi : Int) (xs : List Int) : Bool := xs.all fun x => decide (lo ≤ x) && decide (x ≤ hi)
theorem allW_zero (lo hi : Int) (xs : List Int) : allW lo hi (xs.take 0) = true := rfl
theorem allW_step {lo hi : Int} {xs : List Int} {k : Nat} {x : Int} (h : xs[k]? = some x) (ha : allW lo hi (xs.take k) = true) (h1 : lo ≤ x) (h2 : x ≤ hi) : allW lo hi (xs.take (k + 1)) = true := by
  have hk := (List.getElem?_eq_some_iff.1 h).1
  have hx : xs[k] = x := (List.getElem?_eq_some_iff.1 h).2
  rw [List.take_succ_eq_append_getElem hk, hx]; unfold allW at *; simp only [List.all_append, ha, List.all_cons, List.all_nil, decide_eq_true h1, decide_eq_true h2]; rfl
theorem allW_stop {lo hi : Int} {xs : List Int} {k : Nat} {x : Int} (h : xs[k]? = some x) (hb : x < lo ∨ hi < x) : allW lo hi xs = false := by
  unfold allW; rw [List.all_eq_false]
  refine ⟨x, List.mem_of_getElem? h, ?_⟩
  rw [Bool.and_eq_true, decide_eq_true_eq, decide_eq_true_eq]; omega
theorem allW_end {lo hi : Int} {xs : List Int} {k : Nat} (h : xs.length ≤ k) : allW lo hi (xs.take k) = allW lo hi xs := by rw [List.take_of_length_le h]
theorem allW_mem {lo hi : Int} {xs : List Int} (h : allW lo hi xs = true) {x : Int} (hx : x ∈ xs) : lo ≤ x ∧ x ≤ hi := by
  unfold allW at h; rw [List.all_eq_true] at h
  have := h x hx
  rw [Bool.and_eq_true, decide_eq_true_eq, decide_eq_true_eq] at this; exact this

end
end Go.Proofs.YthlilfdndpnbkaaGreatDoor
