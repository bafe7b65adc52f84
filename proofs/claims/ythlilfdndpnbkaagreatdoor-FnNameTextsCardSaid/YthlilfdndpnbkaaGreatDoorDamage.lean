/-
  The contract of spec.l01Damage: a text of at most one letter more.
-/
import Derived.Test.YthlilfdndpnbkaaGreatDoorMg2
import Derived.Deep.RegionWith
import Derived.IntWalk
namespace Go.Proofs.YthlilfdndpnbkaaGreatDoor
set_option linter.unusedVariables false
open Go.RowKit

def tab8 : Nat → ByteArray
  | 0 => ⟨#[48]⟩
  | 1 => ⟨#[35]⟩
  | 2 => ⟨#[46]⟩
  | 3 => ⟨#[47]⟩
  | 4 => ⟨#[32]⟩
  | 5 => ⟨#[97]⟩
  | 6 => ⟨#[45]⟩
  | _ => ⟨#[10]⟩
theorem tab8_size : ∀ j, (tab8 j).size ≤ 1
  | 0 => by decide
  | 1 => by decide
  | 2 => by decide
  | 3 => by decide
  | 4 => by decide
  | 5 => by decide
  | 6 => by decide
  | _ + 7 => Nat.le_refl _
theorem tab8_cell (W : World) (j : Nat) (h : j < 8) : (W.alloc (.cells #[.string ⟨#[48]⟩, .string ⟨#[35]⟩, .string ⟨#[46]⟩, .string ⟨#[47]⟩, .string ⟨#[32]⟩, .string ⟨#[97]⟩, .string ⟨#[45]⟩, .string ⟨#[10]⟩] 9)).cell? ⟨W.heap.size, j, none⟩ = some (.string (tab8 j)) := by
  rw [World.cell?_alloc_at _ _ _ _ rfl]
  have h : j = 0 ∨ j = 1 ∨ j = 2 ∨ j = 3 ∨ j = 4 ∨ j = 5 ∨ j = 6 ∨ j = 7 := by omega
  rcases h with rfl | rfl | rfl | rfl | rfl | rfl | rfl | rfl
  all_goals rfl
theorem tab8_lst (j : Nat) (h : j < 8) : ([Value.string ⟨#[48]⟩, .string ⟨#[35]⟩, .string ⟨#[46]⟩, .string ⟨#[47]⟩, .string ⟨#[32]⟩, .string ⟨#[97]⟩, .string ⟨#[45]⟩, .string ⟨#[10]⟩] : List Value)[j]? = some (.string (tab8 j)) := by
  have h : j = 0 ∨ j = 1 ∨ j = 2 ∨ j = 3 ∨ j = 4 ∨ j = 5 ∨ j = 6 ∨ j = 7 := by omega
  rcases h with rfl | rfl | rfl | rfl | rfl | rfl | rfl | rfl
  all_goals rfl
theorem tab8_lit (j : Nat) (h : j < 8) : (#[Value.string ⟨#[48]⟩, .string ⟨#[35]⟩, .string ⟨#[46]⟩, .string ⟨#[47]⟩, .string ⟨#[32]⟩, .string ⟨#[97]⟩, .string ⟨#[45]⟩, .string ⟨#[10]⟩] : Array Value)[j]? = some (.string (tab8 j)) := by
  rw [List.getElem?_toArray]; exact tab8_lst j h
theorem tab8_get (j : Nat) (h : j < ([Value.string ⟨#[48]⟩, .string ⟨#[35]⟩, .string ⟨#[46]⟩, .string ⟨#[47]⟩, .string ⟨#[32]⟩, .string ⟨#[97]⟩, .string ⟨#[45]⟩, .string ⟨#[10]⟩] : List Value).length) : ([Value.string ⟨#[48]⟩, .string ⟨#[35]⟩, .string ⟨#[46]⟩, .string ⟨#[47]⟩, .string ⟨#[32]⟩, .string ⟨#[97]⟩, .string ⟨#[45]⟩, .string ⟨#[10]⟩] : List Value)[j] = .string (tab8 j) :=
  Option.some.inj ((List.getElem?_eq_getElem h).symm.trans (tab8_lst j h))
theorem tab8_getA (j : Nat) (h : j < (#[Value.string ⟨#[48]⟩, .string ⟨#[35]⟩, .string ⟨#[46]⟩, .string ⟨#[47]⟩, .string ⟨#[32]⟩, .string ⟨#[97]⟩, .string ⟨#[45]⟩, .string ⟨#[10]⟩] : Array Value).size) : (#[Value.string ⟨#[48]⟩, .string ⟨#[35]⟩, .string ⟨#[46]⟩, .string ⟨#[47]⟩, .string ⟨#[32]⟩, .string ⟨#[97]⟩, .string ⟨#[45]⟩, .string ⟨#[10]⟩] : Array Value)[j] = .string (tab8 j) :=
  Option.some.inj ((Array.getElem?_eq_getElem h).symm.trans (tab8_lit j h))
theorem gdr_ {w w' : World} {row : Option Nat} (h : w.grownBy w' row) : w.grownBy w'.drew row := ⟨h.os, h.tape, h.output, h.size, h.block⟩
theorem Src.drw {w : World} {B len : Nat} (h : Src w B len) : Src w.drew B len := h
theorem use_fact3 {T Q : Prop} (h : T) (k : T → Q) : Q := k h
theorem some_ne3 {x y : Nat} (h : x ≠ y) : some x ≠ some y := fun e => h (Option.some.inj e)
def NextPostC (n : Int) (w0 w : World) (B len : Nat) (e : Ending) (w' : World) : Prop := ∃ r : Int, 0 ≤ r ∧ (r < n ∨ r = 0) ∧ e = .returned (.int .i64 r) ∧ Src w' B len ∧ w0.grownBy w' (some B) ∧ w.grownBy w' (some B)
theorem cNextC (B len : Nat) (n : Int) (w0 w : World) (hlen : len ≤ 1048576) (hn1 : -1000000000 ≤ n) (hn : n ≤ 10000000000) (hG : w0.grownBy w (some B)) (h : Src w B len) :
    Calls Tryz.prog 48 #[.pointer (some ⟨B, 0, none⟩), .int .i64 n] w (NextPostC n w0 w B len) :=
  (cNext B len n w hlen hn1 hn h).mono fun e w' ⟨r, h0, h1, he, hS, hg⟩ => ⟨r, h0, h1, he, hS, hG.trans hg, hg⟩

set_option maxHeartbeats 4000000 in
set_option maxRecDepth 100000 in
theorem cDamage (B len : Nat) (t : ByteArray) (w : World) (hlen : len ≤ 1048576) (ht : t.size ≤ 1000000) (h : Src w B len) :
    Calls Tryz.prog 49 #[.pointer (some ⟨B, 0, none⟩), .string t] w (TextPost (t.size + 1) w B len) := by
  have hB := h.lt
  have C1 := Lib.hid (cNext B len ((t.size : Int) + 1) w hlen (by omega) (by omega) h)
  clear h
  go_enter Tryz.func49, Tryz.ntmps49
  go_wp2_with fail
  refine C1.out.mono ?_
  rintro e w1 ⟨q, hq0, hq1, rfl, hS1, g1⟩
  have hq2 : q ≤ t.size := by omega
  obtain ⟨k, rfl⟩ : ∃ k : Nat, q = k := ⟨q.toNat, by omega⟩
  have hk : k ≤ t.size := by omega
  have C2 := Lib.hid (cNext B len 8 w1 hlen (by omega) (by omega) hS1)
  clear hS1 hq1 C1
  go_wp2_with fail
  refine C2.out.mono ?_
  rintro e w2 ⟨r, hr0, hr1, rfl, hS2, g2⟩
  have HS2 := Lib.hid hS2
  have G2 := Lib.hid (g1.trans g2)
  have hB2 : B < w2.heap.size := hS2.lt
  have e1 : (0 : Int) ≤ (k : Int) := Int.natCast_nonneg _
  have e2 : (k : Int) ≤ (t.size : Int) := by omega
  clear hS2 g1 g2 C2
  by_cases h0 : r = 0
  · have z0 : (r == 0) = true := by simp [h0]
    clear h0
    go_wp2_with fail
    go_ret
    exact ⟨t.extract 0 k, by rw [ByteArray.size_extract]; omega, rfl, HS2.out, G2.out⟩
  have z0 : (r == 0) = false := by rw [beq_eq_false_iff_ne]; exact h0
  clear h0
  by_cases h1 : r = 1
  · have z1 : (r == 1) = true := by simp [h1]
    clear h1
    have hT : ∀ (W : World) (i : Nat), i < 8 → (W.alloc (.cells #[.string ⟨#[48]⟩, .string ⟨#[35]⟩, .string ⟨#[46]⟩, .string ⟨#[47]⟩, .string ⟨#[32]⟩, .string ⟨#[97]⟩, .string ⟨#[45]⟩, .string ⟨#[10]⟩] 9)).cell? ⟨W.heap.size, i, none⟩ = some (.string (tab8 i)) := tab8_cell
    go_wp2_with fail
    go_region_with ((go_at_call 48; refine (cNextC B len 8 w _ hlen (by omega) (by omega) ?hg ?hs).mono ?_; (case hg => first | exact gdr_ (G2.out.trans (World.grownBy_alloc _ _ _)) | exact gdr_ G2.out | exact G2.out.trans (World.grownBy_alloc _ _ _) | exact G2.out); (case hs => first | exact Src.drw (HS2.out.alloc _) | exact Src.drw HS2.out | exact HS2.out.alloc _ | exact HS2.out); rintro e w6 ⟨q, hq0, hq1, rfl, hSB, hgB, hgC⟩; (have hq2 : q < 8 := by omega); (obtain ⟨j, rfl⟩ : ∃ j : Nat, q = j := ⟨q.toNat, by omega⟩); (have hj : j < 8 := by omega); (have ht3 := tab8_size j); (try (refine use_fact3 (T := ∀ i, i < 8 → w6.cell? ⟨w2.heap.size, i, none⟩ = some (.string (tab8 i))) ?hk ?_; (case hk => exact fun i hi => hgC.cell (tab8_cell w2 i hi) (some_ne3 (Nat.ne_of_gt hB2))); intro hTb))))
    go_goals
    all_goals
      go_wp2
      go_ret
      refine ⟨_, ?_, rfl, ?_, ?_⟩
      · simp only [ByteArray.size_append, ByteArray.size_extract]
        omega
      · first
          | exact hSB
          | exact hSB.alloc _
      · first
          | exact hgB
          | exact hgB.trans (World.grownBy_alloc _ _ _)
  have z1 : (r == 1) = false := by rw [beq_eq_false_iff_ne]; exact h1
  clear h1
  by_cases h2 : r = 2
  · have z2 : (r == 2) = true := by simp [h2]
    clear h2
    by_cases hkl : k < t.size
    · have z3 : decide ((k : Int) < (t.size : Int)) = true := decide_eq_true (by omega)
      go_wp2_with fail
      go_quiet (fail)
      go_wp2
      go_ret
      exact ⟨_, by simp only [ByteArray.size_append, ByteArray.size_extract]; omega, rfl, HS2.out, grown_dr G2.out _⟩
    · have z3 : decide ((k : Int) < (t.size : Int)) = false := decide_eq_false (by omega)
      go_wp2_with fail
      go_ret
      exact ⟨t, by omega, rfl, HS2.out, G2.out⟩
  · have z2 : (r == 2) = false := by rw [beq_eq_false_iff_ne]; exact h2
    clear h2
    go_wp2_with fail
    go_ret
    exact ⟨t, by omega, rfl, HS2.out, G2.out⟩
end Go.Proofs.YthlilfdndpnbkaaGreatDoor
