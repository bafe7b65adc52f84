/-
  The contract of spec.l01DrawTwo and spec.DrawEditDistance: two texts of bounded length.
-/
import Derived.Test.YtdbbolnmcbhflaaDraw
import Derived.Deep.RegionWith
import Derived.IntWalk
namespace Go.Proofs.Ytdbbolnmcbhflaa
set_option linter.unusedVariables false
open Go.RowKit

def tab3 : Nat → ByteArray
  | 0 => ⟨#[]⟩
  | 1 => ⟨#[120]⟩
  | _ => ⟨#[115, 104]⟩
theorem tab3_size : ∀ j, (tab3 j).size ≤ 2
  | 0 => by decide
  | 1 => by decide
  | _ + 2 => Nat.le_refl _
theorem tab3_cell (W : World) (j : Nat) (h : j < 3) : (W.alloc (.cells #[.string ⟨#[]⟩, .string ⟨#[120]⟩, .string ⟨#[115, 104]⟩] 9)).cell? ⟨W.heap.size, j, none⟩ = some (.string (tab3 j)) := by
  rw [World.cell?_alloc_at _ _ _ _ rfl]
  have h : j = 0 ∨ j = 1 ∨ j = 2 := by omega
  rcases h with rfl | rfl | rfl
  all_goals rfl
def minN (a k j : Nat) : Nat := if k + j < a then k + j else a
theorem minN_le (a k j : Nat) : minN a k j ≤ a := by unfold minN; split <;> omega
theorem minN_eq (a k j : Nat) : (if (k : Int) + (j : Int) < (a : Int) then (k : Int) + (j : Int) else (a : Int)) = ((minN a k j : Nat) : Int) := by
  unfold minN; split <;> split <;> omega
theorem gdr {w w' : World} {row : Option Nat} (h : w.grownBy w' row) : w.grownBy w'.drew row := ⟨h.os, h.tape, h.output, h.size, h.block⟩
theorem Src.drew_ {w : World} {B len : Nat} (h : Src w B len) : Src w.drew B len := h
theorem use_fact2 {T Q : Prop} (h : T) (k : T → Q) : Q := k h
theorem some_ne {x y : Nat} (h : x ≠ y) : some x ≠ some y := fun e => h (Option.some.inj e)
theorem tab3_lst (j : Nat) (h : j < 3) : ([Value.string ⟨#[]⟩, .string ⟨#[120]⟩, .string ⟨#[115, 104]⟩] : List Value)[j]? = some (.string (tab3 j)) := by
  have h : j = 0 ∨ j = 1 ∨ j = 2 := by omega
  rcases h with rfl | rfl | rfl
  all_goals rfl
theorem tab3_lit (j : Nat) (h : j < 3) : (#[Value.string ⟨#[]⟩, .string ⟨#[120]⟩, .string ⟨#[115, 104]⟩] : Array Value)[j]? = some (.string (tab3 j)) := by
  rw [List.getElem?_toArray]; exact tab3_lst j h
theorem tab3_get (j : Nat) (h : j < ([Value.string ⟨#[]⟩, .string ⟨#[120]⟩, .string ⟨#[115, 104]⟩] : List Value).length) : ([Value.string ⟨#[]⟩, .string ⟨#[120]⟩, .string ⟨#[115, 104]⟩] : List Value)[j] = .string (tab3 j) :=
  Option.some.inj ((List.getElem?_eq_getElem h).symm.trans (tab3_lst j h))
theorem tab3_getA (j : Nat) (h : j < (#[Value.string ⟨#[]⟩, .string ⟨#[120]⟩, .string ⟨#[115, 104]⟩] : Array Value).size) : (#[Value.string ⟨#[]⟩, .string ⟨#[120]⟩, .string ⟨#[115, 104]⟩] : Array Value)[j] = .string (tab3 j) :=
  Option.some.inj ((Array.getElem?_eq_getElem h).symm.trans (tab3_lit j h))
def NextPostB (n : Int) (w0 w : World) (B len : Nat) (e : Ending) (w' : World) : Prop := ∃ r : Int, 0 ≤ r ∧ (r < n ∨ r = 0) ∧ e = .returned (.int .i64 r) ∧ Src w' B len ∧ w0.grownBy w' (some B) ∧ w.grownBy w' (some B)
theorem cNextB (B len : Nat) (n : Int) (w0 w : World) (hlen : len ≤ 1048576) (hn1 : -1000000000 ≤ n) (hn : n ≤ 10000000000) (hG : w0.grownBy w (some B)) (h : Src w B len) :
    Calls Try.prog 41 #[.pointer (some ⟨B, 0, none⟩), .int .i64 n] w (NextPostB n w0 w B len) :=
  (cNext B len n w hlen hn1 hn h).mono fun e w' ⟨r, h0, h1, he, hS, hg⟩ => ⟨r, h0, h1, he, hS, hG.trans hg, hg⟩
def TwoPost (m : Nat) (w : World) (e : Ending) (w' : World) : Prop := ∃ a b : ByteArray, a.size ≤ m ∧ b.size ≤ m ∧ e = .returned (.tuple #[.string a, .string b]) ∧ Below w.heap.size w w'

set_option maxHeartbeats 4000000 in
set_option maxRecDepth 100000 in
theorem cDrawTwo (A : Option Addr) (len cap : Nat) (w : World) (hlen : len ≤ 1048576) (h : CodeIn w A len) :
    Calls Try.prog 27 #[.slice A len cap] w (TwoPost 256 w) := by
  have C0 := Lib.hid (cFrom A len cap w hlen h)
  clear h
  go_enter Try.func27, Try.ntmps27
  go_wp2_with fail
  refine C0.out.mono ?_
  rintro e w1 ⟨rfl, hS1, hb1⟩
  have HS1 := Lib.hid hS1
  clear hS1
  go_wp2_with fail
  refine (cDrawWord w.heap.size len _ hlen HS1.out).mono ?_
  rintro e w2 ⟨a, ha, rfl, hS2, hg2⟩
  have HS2 := Lib.hid hS2
  clear hS2
  go_wp2_with fail
  refine (cDrawWord w.heap.size len _ hlen HS2.out).mono ?_
  rintro e w3 ⟨b, hb, rfl, hS3, hg3⟩
  have HS3 := Lib.hid hS3
  have G3 := Lib.hid (hg2.trans hg3)
  clear hS3 hg2 hg3
  by_cases h1 : 1 < a.size
  · have hd : decide ((1 : Int) < (a.size : Int)) = true := decide_eq_true (by omega)
    go_wp2_with fail
    refine (cNextB w.heap.size len 2 w1 _ hlen (by omega) (by omega) G3.out HS3.out).mono ?_
    rintro e w4 ⟨r, hr0, hr1, rfl, hS4, hgB, _⟩
    have HS4 := Lib.hid hS4
    have G4 := Lib.hid hgB
    clear hS4 hgB
    by_cases h0 : r = 0
    · have hd0 : (r == 0) = true := by simp [h0]
      clear h0
      go_wp2_with fail
      refine (cNextB w.heap.size len a.size w1 _ hlen (by omega) (by omega) G4.out HS4.out).mono ?_
      rintro e w5 ⟨q, hq0, hq1, rfl, hS5, hgB, _⟩
      have hq2 : q < a.size := by omega
      obtain ⟨k, rfl⟩ : ∃ k : Nat, q = k := ⟨q.toNat, by omega⟩
      have HS5 := Lib.hid hS5
      have G5 := Lib.hid hgB
      clear hS5 hgB hq1
      have hlt5 := HS5.out.lt
      have e1 : (0 : Int) ≤ (k : Int) := Int.natCast_nonneg _
      have e2 : (k : Int) ≤ (a.size : Int) := by omega
      have hwr : ∀ j : Nat, j < 3 → IntKind.i64.wrap ((k : Int) + (j : Int)) = (k : Int) + (j : Int) := fun j hj => IntWalk.i64_in _ (by omega)
      have hmn : ∀ (j : Nat) (W : World), (Builtin.min_ #[2, 2] 2 #[.int .i64 a.size, .int .i64 ((k : Int) + (j : Int))]).run Try.prog W = .ok (.int .i64 ((minN a.size k j : Nat) : Int)) W := fun j W => by
        rw [run_min_int2]
        exact congrArg (fun x => Result.ok (Value.int .i64 x) W) (minN_eq a.size k j)
      have hm1 : ∀ j, ((minN a.size k j : Nat) : Int) ≤ (a.size : Int) := fun j => by have := minN_le a.size k j; omega
      have hm2 : ∀ j, minN a.size k j ≤ a.size := fun j => minN_le a.size k j
      have hT : ∀ (W : World) (i : Nat), i < 3 → (W.alloc (.cells #[.string ⟨#[]⟩, .string ⟨#[120]⟩, .string ⟨#[115, 104]⟩] 9)).cell? ⟨W.heap.size, i, none⟩ = some (.string (tab3 i)) := tab3_cell
      go_wp2_with fail
      go_region_with ((go_at_call 41; refine (cNextB w.heap.size len 3 w1 _ hlen (by omega) (by omega) ?hg ?hs).mono ?_; (case hg => first | exact gdr (G5.out.trans (World.grownBy_alloc _ _ _)) | exact hgB | exact gdr G5.out | exact hgB.trans (World.grownBy_alloc _ _ _)); (case hs => first | exact Src.drew_ (HS5.out.alloc _) | exact hSB | exact Src.drew_ HS5.out | exact hSB.alloc _); (try (have hne6 : w6.heap.size ≠ w.heap.size := Nat.ne_of_gt hSB.lt; have hTc := tab3_cell w6)); rintro e w6 ⟨q, hq0, hq1, rfl, hSB, hgB, hgC⟩; (try (have hTd := fun (i : Nat) (hi : i < 3) => hgC.cell (hTc i hi) (some_ne hne6))); (have hq2 : q < 3 := by omega); (obtain ⟨j, rfl⟩ : ∃ j : Nat, q = j := ⟨q.toNat, by omega⟩); (have hj : j < 3 := by omega); (have ht3 := tab3_size j); (try (refine use_fact2 (T := ∀ i, i < 3 → w6.cell? ⟨w5.heap.size, i, none⟩ = some (.string (tab3 i))) ?hk ?_; (case hk => first | exact fun i hi => hgC.cell (tab3_cell w5 i hi) (some_ne (Nat.ne_of_gt hlt5)) | exact fun i hi => hgC.cell (hTb i hi) (some_ne (Nat.ne_of_gt hlt5))); intro hTb))))
      go_goals
      all_goals
        go_wp2
        go_ret2
        refine ⟨a, _, by omega, ?_, rfl, ?_⟩
        · simp only [ByteArray.size_append, ByteArray.size_extract]
          omega
        · first
            | exact hb1.grown hgB hb1.size (fun x hx => by cases hx; exact Nat.le_refl _)
            | exact hb1.grown (hgB.trans (World.grownBy_alloc _ _ _)) hb1.size (fun x hx => by cases hx; exact Nat.le_refl _)
    · have hd0 : (r == 0) = false := by rw [beq_eq_false_iff_ne]; exact h0
      clear h0
      go_wp2_with fail
      go_ret2
      exact ⟨a, b, by omega, by omega, rfl, hb1.grown G4.out hb1.size (fun x hx => by cases hx; exact Nat.le_refl _)⟩
  · have hd : decide ((1 : Int) < (a.size : Int)) = false := decide_eq_false (by omega)
    go_wp2_with fail
    go_ret2
    exact ⟨a, b, by omega, by omega, rfl, hb1.grown G3.out hb1.size (fun x hx => by cases hx; exact Nat.le_refl _)⟩
end Go.Proofs.Ytdbbolnmcbhflaa
