/-
  The contract of spec.l01Damage: a text of at most one letter more.
-/
import Derived.Test.YthlilfdndpnbkaaGreatDoorMu3
import Derived.Deep.RegionWith
import Derived.IntWalk
import Derived.Test.YthlilfdndpnbkaaGreatDoorMu5
import Derived.Handy
import Derived.Lib.Join
namespace Go.Proofs.YthlilfdndpnbkaaGreatDoor
section
set_option linter.unusedVariables false
open Go.RowKit

def tab8 : Nat → ByteArray
  | 0 => ⟨#[48]⟩
  | 1 => ⟨#[35]⟩
  | 2 => ⟨#[46]⟩
  | 3 => ⟨#[47]⟩
  | 4 => ⟨#[32]⟩
  | 5 => ⟨#[97]⟩
  | 6 => ⟨#[45]⟩
  | _ => ⟨#[10]⟩
theorem tab8_size : ∀ j, (tab8 j).size ≤ 1
  | 0 => by decide
  | 1 => by decide
  | 2 => by decide
  | 3 => by decide
  | 4 => by decide
  | 5 => by decide
  | 6 => by decide
  | _ + 7 => Nat.le_refl _
theorem tab8_cell (W : World) (j : Nat) (h : j < 8) : (W.alloc (.cells #[.string ⟨#[48]⟩, .string ⟨#[35]⟩, .string ⟨#[46]⟩, .string ⟨#[47]⟩, .string ⟨#[32]⟩, .string ⟨#[97]⟩, .string ⟨#[45]⟩, .string ⟨#[10]⟩] 9)).cell? ⟨W.heap.size, j, none⟩ = some (.string (tab8 j)) := by
  rw [World.cell?_alloc_at _ _ _ _ rfl]
  have h : j = 0 ∨ j = 1 ∨ j = 2 ∨ j = 3 ∨ j = 4 ∨ j = 5 ∨ j = 6 ∨ j = 7 := by omega
  rcases h with rfl | rfl | rfl | rfl | rfl | rfl | rfl | rfl
  all_goals rfl
theorem tab8_lst (j : Nat) (h : j < 8) : ([Value.string ⟨#[48]⟩, .string ⟨#[35]⟩, .string ⟨#[46]⟩, .string ⟨#[47]⟩, .string ⟨#[32]⟩, .string ⟨#[97]⟩, .string ⟨#[45]⟩, .string ⟨#[10]⟩] : List Value)[j]? = some (.string (tab8 j)) := by
  have h : j = 0 ∨ j = 1 ∨ j = 2 ∨ j = 3 ∨ j = 4 ∨ j = 5 ∨ j = 6 ∨ j = 7 := by omega
  rcases h with rfl | rfl | rfl | rfl | rfl | rfl | rfl | rfl
  all_goals rfl
theorem tab8_lit (j : Nat) (h : j < 8) : (#[Value.string ⟨#[48]⟩, .string ⟨#[35]⟩, .string ⟨#[46]⟩, .string ⟨#[47]⟩, .string ⟨#[32]⟩, .string ⟨#[97]⟩, .string ⟨#[45]⟩, .string ⟨#[10]⟩] : Array Value)[j]? = some (.string (tab8 j)) := by
  rw [List.getElem?_toArray]; exact tab8_lst j h
theorem tab8_get (j : Nat) (h : j < ([Value.string ⟨#[48]⟩, .string ⟨#[35]⟩, .string ⟨#[46]⟩, .string ⟨#[47]⟩, .string ⟨#[32]⟩, .string ⟨#[97]⟩, .string ⟨#[45]⟩, .string ⟨#[10]⟩] : List Value).length) : ([Value.string ⟨#[48]⟩, .string ⟨#[35]⟩, .string ⟨#[46]⟩, .string ⟨#[47]⟩, .string ⟨#[32]⟩, .string ⟨#[97]⟩, .string ⟨#[45]⟩, .string ⟨#[10]⟩] : List Value)[j] = .string (tab8 j) :=
  Option.some.inj ((List.getElem?_eq_getElem h).symm.trans (tab8_lst j h))
theorem tab8_getA (j : Nat) (h : j < (#[Value.string ⟨#[48]⟩, .string ⟨#[35]⟩, .string ⟨#[46]⟩, .string ⟨#[47]⟩, .string ⟨#[32]⟩, .string ⟨#[97]⟩, .string ⟨#[45]⟩, .string ⟨#[10]⟩] : Array Value).size) : (#[Value.string ⟨#[48]⟩, .string ⟨#[35]⟩, .string ⟨#[46]⟩, .string ⟨#[47]⟩, .string ⟨#[32]⟩, .string ⟨#[97]⟩, .string ⟨#[45]⟩, .string ⟨#[10]⟩] : Array Value)[j] = .string (tab8 j) :=
  Option.some.inj ((Array.getElem?_eq_getElem h).symm.trans (tab8_lit j h))
theorem gdr_ {w w' : World} {row : Option Nat} (h : w.grownBy w' row) : w.grownBy w'.drew row := ⟨h.os, h.tape, h.output, h.size, h.block⟩
theorem Src.drw {w : World} {B len : Nat} (h : Src w B len) : Src w.drew B len := h
theorem use_fact3 {T Q : Prop} (h : T) (k : T → Q) : Q := k h
theorem some_ne3 {x y : Nat} (h : x ≠ y) : some x ≠ some y := fun e => h (Option.some.inj e)
def NextPostC (n : Int) (w0 w : World) (B len : Nat) (e : Ending) (w' : World) : Prop := ∃ r : Int, 0 ≤ r ∧ (r < n ∨ r = 0) ∧ e = .returned (.int .i64 r) ∧ Src w' B len ∧ w0.grownBy w' (some B) ∧ w.grownBy w' (some B)
theorem cNextC (B len : Nat) (n : Int) (w0 w : World) (hlen : len ≤ 1048576) (hn1 : -1000000000 ≤ n) (hn : n ≤ 10000000000) (hG : w0.grownBy w (some B)) (h : Src w B len) :
    Calls Tryz.prog 48 #[.pointer (some ⟨B, 0, none⟩), .int .i64 n] w (NextPostC n w0 w B len) :=
  (cNext B len n w hlen hn1 hn h).mono fun e w' ⟨r, h0, h1, he, hS, hg⟩ => ⟨r, h0, h1, he, hS, hG.trans hg, hg⟩

set_option maxHeartbeats 4000000 in
set_option maxRecDepth 100000 in
theorem cDamage (B len : Nat) (t : ByteArray) (w : World) (hlen : len ≤ 1048576) (ht : t.size ≤ 1000000) (h : Src w B len) :
    Calls Tryz.prog 49 #[.pointer (some ⟨B, 0, none⟩), .string t] w (TextPost (t.size + 1) w B len) := by
  have hB := h.lt
  have C1 := Lib.hid (cNext B len ((t.size : Int) + 1) w hlen (by omega) (by omega) h)
  clear h
  go_enter Tryz.func49, Tryz.ntmps49
  go_wp2_with fail
  refine C1.out.mono ?_
  rintro e w1 ⟨q, hq0, hq1, rfl, hS1, g1⟩
  have hq2 : q ≤ t.size := by omega
  obtain ⟨k, rfl⟩ : ∃ k : Nat, q = k := ⟨q.toNat, by omega⟩
  have hk : k ≤ t.size := by omega
  have C2 := Lib.hid (cNext B len 8 w1 hlen (by omega) (by omega) hS1)
  clear hS1 hq1 C1
  go_wp2_with fail
  refine C2.out.mono ?_
  rintro e w2 ⟨r, hr0, hr1, rfl, hS2, g2⟩
  have HS2 := Lib.hid hS2
  have G2 := Lib.hid (g1.trans g2)
  have hB2 : B < w2.heap.size := hS2.lt
  have e1 : (0 : Int) ≤ (k : Int) := Int.natCast_nonneg _
  have e2 : (k : Int) ≤ (t.size : Int) := by omega
  clear hS2 g1 g2 C2
  by_cases h0 : r = 0
  · have z0 : (r == 0) = true := by simp [h0]
    clear h0
    go_wp2_with fail
    go_ret
    exact ⟨t.extract 0 k, by rw [ByteArray.size_extract]; omega, rfl, HS2.out, G2.out⟩
  have z0 : (r == 0) = false := by rw [beq_eq_false_iff_ne]; exact h0
  clear h0
  by_cases h1 : r = 1
  · have z1 : (r == 1) = true := by simp [h1]
    clear h1
    have hT : ∀ (W : World) (i : Nat), i < 8 → (W.alloc (.cells #[.string ⟨#[48]⟩, .string ⟨#[35]⟩, .string ⟨#[46]⟩, .string ⟨#[47]⟩, .string ⟨#[32]⟩, .string ⟨#[97]⟩, .string ⟨#[45]⟩, .string ⟨#[10]⟩] 9)).cell? ⟨W.heap.size, i, none⟩ = some (.string (tab8 i)) := tab8_cell
    go_wp2_with fail
    go_region_with ((go_at_call 48; refine (cNextC B len 8 w _ hlen (by omega) (by omega) ?hg ?hs).mono ?_; (case hg => first | exact gdr_ (G2.out.trans (World.grownBy_alloc _ _ _)) | exact gdr_ G2.out | exact G2.out.trans (World.grownBy_alloc _ _ _) | exact G2.out); (case hs => first | exact Src.drw (HS2.out.alloc _) | exact Src.drw HS2.out | exact HS2.out.alloc _ | exact HS2.out); rintro e w6 ⟨q, hq0, hq1, rfl, hSB, hgB, hgC⟩; (have hq2 : q < 8 := by omega); (obtain ⟨j, rfl⟩ : ∃ j : Nat, q = j := ⟨q.toNat, by omega⟩); (have hj : j < 8 := by omega); (have ht3 := tab8_size j); (try (refine use_fact3 (T := ∀ i, i < 8 → w6.cell? ⟨w2.heap.size, i, none⟩ = some (.string (tab8 i))) ?hk ?_; (case hk => exact fun i hi => hgC.cell (tab8_cell w2 i hi) (some_ne3 (Nat.ne_of_gt hB2))); intro hTb))))
    go_goals
    all_goals
      go_wp2
      go_ret
      refine ⟨_, ?_, rfl, ?_, ?_⟩
      · simp only [ByteArray.size_append, ByteArray.size_extract]
        omega
      · first
          | exact hSB
          | exact hSB.alloc _
      · first
          | exact hgB
          | exact hgB.trans (World.grownBy_alloc _ _ _)
  have z1 : (r == 1) = false := by rw [beq_eq_false_iff_ne]; exact h1
  clear h1
  by_cases h2 : r = 2
  · have z2 : (r == 2) = true := by simp [h2]
    clear h2
    by_cases hkl : k < t.size
    · have z3 : decide ((k : Int) < (t.size : Int)) = true := decide_eq_true (by omega)
      go_wp2_with fail
      go_quiet (fail)
      go_wp2
      go_ret
      exact ⟨_, by simp only [ByteArray.size_append, ByteArray.size_extract]; omega, rfl, HS2.out, grown_dr G2.out _⟩
    · have z3 : decide ((k : Int) < (t.size : Int)) = false := decide_eq_false (by omega)
      go_wp2_with fail
      go_ret
      exact ⟨t, by omega, rfl, HS2.out, G2.out⟩
  · have z2 : (r == 2) = false := by rw [beq_eq_false_iff_ne]; exact h2
    clear h2
    go_wp2_with fail
    go_ret
    exact ⟨t, by omega, rfl, HS2.out, G2.out⟩
end
section
set_option linter.unusedVariables false
open Go.RowKit

def joinL (l : List (List UInt8)) : List UInt8 := Lib.join l [32]
def joinB (xs : List ByteArray) : ByteArray := ⟨(Lib.join (xs.map (·.data.toList)) (sepB 32).data.toList).toArray⟩
theorem joinL_cons (a b : List UInt8) (l : List (List UInt8)) : joinL (a :: b :: l) = a ++ 32 :: joinL (b :: l) := by
  simp [joinL, Lib.join, List.intercalate, List.intersperse]
theorem joinL_one (a : List UInt8) : joinL [a] = a := by simp [joinL, Lib.join, List.intercalate, List.intersperse]
theorem joinL_snoc : ∀ (a : List UInt8) (l : List (List UInt8)) (x : List UInt8), joinL ((a :: l) ++ [x]) = joinL (a :: l) ++ 32 :: x
  | a, [], x => by rw [List.singleton_append, joinL_cons, joinL_one, joinL_one]
  | a, b :: l, x => by
    rw [List.cons_append, List.cons_append, joinL_cons, ← List.cons_append, joinL_snoc b l x, joinL_cons]; simp
theorem joinB_data (xs : List ByteArray) : (joinB xs).data.toList = joinL (xs.map (·.data.toList)) := by simp [joinB, joinL, sepB]
theorem joinB_one (x : ByteArray) : joinB [x] = x := by
  apply ByteArray.ext; apply Array.toList_inj.1
  rw [joinB_data]; exact joinL_one _
theorem joinB_snoc (xs : List ByteArray) (x : ByteArray) (h : xs ≠ []) : joinB (xs ++ [x]) = joinB xs ++ ⟨#[32]⟩ ++ x := by
  apply ByteArray.ext; apply Array.toList_inj.1
  rw [joinB_data]
  cases xs with
  | nil => exact absurd rfl h
  | cons a l =>
    rw [List.map_append, List.map_cons, List.map_singleton, joinL_snoc]
    simp [joinB_data]
theorem joinB_step (xs : List ByteArray) (k : Nat) (x : ByteArray) (hk : 0 < k) (h : xs[k]? = some x) : joinB (xs.take (k + 1)) = joinB (xs.take k) ++ ⟨#[32]⟩ ++ x := by
  have hl := (List.getElem?_eq_some_iff.1 h).1
  have hx : xs[k] = x := (List.getElem?_eq_some_iff.1 h).2
  rw [List.take_succ_eq_append_getElem hl, hx]
  exact joinB_snoc _ _ (by intro e; have := congrArg List.length e; rw [List.length_take, List.length_nil] at this; omega)
theorem joinB_first (xs : List ByteArray) (x : ByteArray) (h : xs[0]? = some x) : joinB (xs.take 1) = ByteArray.empty ++ x := by
  have hl := (List.getElem?_eq_some_iff.1 h).1
  have hx : xs[0] = x := (List.getElem?_eq_some_iff.1 h).2
  rw [List.take_succ_eq_append_getElem hl, hx, List.take_zero, List.nil_append, joinB_one]
  apply ByteArray.ext; simp

theorem join_len : ∀ (l : List (List UInt8)), (∀ y ∈ l, y.length ≤ 64) → (joinL l).length ≤ l.length * 65
  | [], _ => by simp [joinL, Lib.join, List.intercalate, List.intersperse]
  | [a], h => by rw [joinL_one]; have := h a (by simp); simp; omega
  | a :: b :: l, h => by
    rw [joinL_cons, List.length_append, List.length_cons]
    have h1 := h a (by simp)
    have h2 := join_len (b :: l) (fun y hy => h y (List.mem_cons_of_mem _ hy))
    simp only [List.length_cons] at h2 ⊢
    omega
theorem join_small (xs : List ByteArray) (h : ∀ y ∈ xs, y.size ≤ 16) (hn : xs.length ≤ 8) : (Lib.join (xs.map (·.data.toList)) (sepB 32).data.toList).length ≤ 140737488355328 := by
  have h1 := join_len (xs.map (·.data.toList)) (by
    intro y hy
    rw [List.mem_map] at hy
    obtain ⟨z, hz, rfl⟩ := hy
    have h2 := h z hz
    have h3 := size_list z
    omega)
  rw [List.length_map] at h1
  have h2 : (Lib.join (xs.map (·.data.toList)) (sepB 32).data.toList) = joinL (xs.map (·.data.toList)) := rfl
  rw [h2]; omega

set_option maxHeartbeats 1000000 in
theorem cWords (g o cap n : Nat) (xs : List ByteArray) (w : World) (hn : n = xs.length) (hn64 : n ≤ 64) (hsz : ∀ x ∈ xs, x.size ≤ 64)
    (hc : ∀ (j : Nat) x, xs[j]? = some x → w.cell? ⟨g, o + j, none⟩ = some (.string x)) :
    Calls Tryz.prog 124 #[.slice (some ⟨g, o, none⟩) n cap] w fun e w' => e = .returned (.string (joinB xs)) ∧ w = w' := by
  have HN := Lib.hid hn
  have HS := Lib.hid hsz
  have HC := Lib.hid hc
  clear hn hsz hc
  go_enter Tryz.func124, Tryz.ntmps124
  go_wp2
  go_loop [3, 4] (fun ou i => ∃ (k : Nat) (t : ByteArray), k ≤ n ∧ i = .int .i64 k ∧ ou = .string t ∧ t.size ≤ k * 65 ∧ Hid (t = joinB (xs.take k))) (fun _ i => n - (intOf i).toNat)
  case atStart => exact ⟨0, ⟨#[]⟩, Nat.zero_le _, rfl, rfl, Nat.zero_le _, Lib.hid rfl⟩
  case round =>
    obtain ⟨k, t, hk, rfl, rfl, ht, HT⟩ := hrel
    by_cases hlt : k < n
    · obtain ⟨x, hx⟩ : ∃ x, xs[k]? = some x := ⟨xs[k]'(by have := HN.out; omega), List.getElem?_eq_getElem _⟩
      have hcx := HC.out k x hx
      have hsx := HS.out x (List.mem_of_getElem? hx)
      have HX := Lib.hid hx
      clear hx
      by_cases hk0 : 0 < k
      · go_wp2
        go_round
        case rel => exact ⟨k + 1, _, by omega, by go_num, rfl, (by rw [ByteArray.size_append, ByteArray.size_append]; have h1 : (⟨#[32]⟩ : ByteArray).size = 1 := rfl; omega), Lib.hid (by rw [joinB_step xs k x hk0 HX.out, HT.out])⟩
        case measure => simp [intOf]; omega
      · have hk1 : k = 0 := by omega
        have HK := Lib.hid hk1
        clear hk1
        go_wp2
        go_round
        case rel => exact ⟨k + 1, _, by omega, by go_num, rfl, by simp; omega, Lib.hid (by have h := HX.out; have e := HT.out; rw [HK.out] at h e ⊢; rw [joinB_first xs x h, e]; rfl)⟩
        case measure => simp [intOf]; omega
    · obtain rfl : k = n := by omega
      go_wp2
      go_ret
      exact ⟨by rw [HT.out, List.take_of_length_le (by have := HN.out; omega)]; rfl, rfl⟩
end
end Go.Proofs.YthlilfdndpnbkaaGreatDoor
