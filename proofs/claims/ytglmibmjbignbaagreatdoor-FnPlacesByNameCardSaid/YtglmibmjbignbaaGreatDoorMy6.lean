/-
  The contract of spec.l01Damage: a text of at most one letter more.
-/
import Derived.Test.YtglmibmjbignbaaGreatDoorMy2
import Derived.Deep.RegionWith
import Derived.IntWalk
import Derived.Test.YtglmibmjbignbaaGreatDoorMy4
import Derived.Handy
import Derived.Lib.Join
import Derived.Test.YtglmibmjbignbaaGreatDoorMy1
import Derived.OwnWalk
import Derived.Laws.OwnMore
import Derived.Deep.AppendLies
import Derived.Test.YtglmibmjbignbaaGreatDoorMy5
import Derived.BigQuiet
import Derived.Deep.QuietTactic
namespace Go.Proofs.YtglmibmjbignbaaGreatDoor
section
set_option linter.unusedVariables false
open Go.RowKit

def tab8 : Nat → ByteArray
  | 0 => ⟨#[48]⟩
  | 1 => ⟨#[35]⟩
  | 2 => ⟨#[46]⟩
  | 3 => ⟨#[47]⟩
  | 4 => ⟨#[32]⟩
  | 5 => ⟨#[97]⟩
  | 6 => ⟨#[45]⟩
  | _ => ⟨#[10]⟩
theorem tab8_size : ∀ j, (tab8 j).size ≤ 1
  | 0 => by decide
  | 1 => by decide
  | 2 => by decide
  | 3 => by decide
  | 4 => by decide
  | 5 => by decide
  | 6 => by decide
  | _ + 7 => Nat.le_refl _
theorem tab8_cell (W : World) (j : Nat) (h : j < 8) : (W.alloc (.cells #[.string ⟨#[48]⟩, .string ⟨#[35]⟩, .string ⟨#[46]⟩, .string ⟨#[47]⟩, .string ⟨#[32]⟩, .string ⟨#[97]⟩, .string ⟨#[45]⟩, .string ⟨#[10]⟩] 9)).cell? ⟨W.heap.size, j, none⟩ = some (.string (tab8 j)) := by
  rw [World.cell?_alloc_at _ _ _ _ rfl]
  have h : j = 0 ∨ j = 1 ∨ j = 2 ∨ j = 3 ∨ j = 4 ∨ j = 5 ∨ j = 6 ∨ j = 7 := by omega
  rcases h with rfl | rfl | rfl | rfl | rfl | rfl | rfl | rfl
  all_goals rfl
theorem tab8_lst (j : Nat) (h : j < 8) : ([Value.string ⟨#[48]⟩, .string ⟨#[35]⟩, .string ⟨#[46]⟩, .string ⟨#[47]⟩, .string ⟨#[32]⟩, .string ⟨#[97]⟩, .string ⟨#[45]⟩, .string ⟨#[10]⟩] : List Value)[j]? = some (.string (tab8 j)) := by
  have h : j = 0 ∨ j = 1 ∨ j = 2 ∨ j = 3 ∨ j = 4 ∨ j = 5 ∨ j = 6 ∨ j = 7 := by omega
  rcases h with rfl | rfl | rfl | rfl | rfl | rfl | rfl | rfl
  all_goals rfl
theorem tab8_lit (j : Nat) (h : j < 8) : (#[Value.string ⟨#[48]⟩, .string ⟨#[35]⟩, .string ⟨#[46]⟩, .string ⟨#[47]⟩, .string ⟨#[32]⟩, .string ⟨#[97]⟩, .string ⟨#[45]⟩, .string ⟨#[10]⟩] : Array Value)[j]? = some (.string (tab8 j)) := by
  rw [List.getElem?_toArray]; exact tab8_lst j h
theorem tab8_get (j : Nat) (h : j < ([Value.string ⟨#[48]⟩, .string ⟨#[35]⟩, .string ⟨#[46]⟩, .string ⟨#[47]⟩, .string ⟨#[32]⟩, .string ⟨#[97]⟩, .string ⟨#[45]⟩, .string ⟨#[10]⟩] : List Value).length) : ([Value.string ⟨#[48]⟩, .string ⟨#[35]⟩, .string ⟨#[46]⟩, .string ⟨#[47]⟩, .string ⟨#[32]⟩, .string ⟨#[97]⟩, .string ⟨#[45]⟩, .string ⟨#[10]⟩] : List Value)[j] = .string (tab8 j) :=
  Option.some.inj ((List.getElem?_eq_getElem h).symm.trans (tab8_lst j h))
theorem tab8_getA (j : Nat) (h : j < (#[Value.string ⟨#[48]⟩, .string ⟨#[35]⟩, .string ⟨#[46]⟩, .string ⟨#[47]⟩, .string ⟨#[32]⟩, .string ⟨#[97]⟩, .string ⟨#[45]⟩, .string ⟨#[10]⟩] : Array Value).size) : (#[Value.string ⟨#[48]⟩, .string ⟨#[35]⟩, .string ⟨#[46]⟩, .string ⟨#[47]⟩, .string ⟨#[32]⟩, .string ⟨#[97]⟩, .string ⟨#[45]⟩, .string ⟨#[10]⟩] : Array Value)[j] = .string (tab8 j) :=
  Option.some.inj ((Array.getElem?_eq_getElem h).symm.trans (tab8_lit j h))
theorem gdr_ {w w' : World} {row : Option Nat} (h : w.grownBy w' row) : w.grownBy w'.drew row := ⟨h.os, h.tape, h.output, h.size, h.block⟩
theorem Src.drw {w : World} {B len : Nat} (h : Src w B len) : Src w.drew B len := h
theorem use_fact3 {T Q : Prop} (h : T) (k : T → Q) : Q := k h
theorem some_ne3 {x y : Nat} (h : x ≠ y) : some x ≠ some y := fun e => h (Option.some.inj e)
def NextPostC (n : Int) (w0 w : World) (B len : Nat) (e : Ending) (w' : World) : Prop := ∃ r : Int, 0 ≤ r ∧ (r < n ∨ r = 0) ∧ e = .returned (.int .i64 r) ∧ Src w' B len ∧ w0.grownBy w' (some B) ∧ w.grownBy w' (some B)
theorem cNextC (B len : Nat) (n : Int) (w0 w : World) (hlen : len ≤ 1048576) (hn1 : -1000000000 ≤ n) (hn : n ≤ 10000000000) (hG : w0.grownBy w (some B)) (h : Src w B len) :
    Calls Tryz.prog 61 #[.pointer (some ⟨B, 0, none⟩), .int .i64 n] w (NextPostC n w0 w B len) :=
  (cNext B len n w hlen hn1 hn h).mono fun e w' ⟨r, h0, h1, he, hS, hg⟩ => ⟨r, h0, h1, he, hS, hG.trans hg, hg⟩

set_option maxHeartbeats 4000000 in
set_option maxRecDepth 100000 in
theorem cDamage (B len : Nat) (t : ByteArray) (w : World) (hlen : len ≤ 1048576) (ht : t.size ≤ 1000000) (h : Src w B len) :
    Calls Tryz.prog 140 #[.pointer (some ⟨B, 0, none⟩), .string t] w (TextPost (t.size + 1) w B len) := by
  have hB := h.lt
  have C1 := Lib.hid (cNext B len ((t.size : Int) + 1) w hlen (by omega) (by omega) h)
  clear h
  go_enter Tryz.func140, Tryz.ntmps140
  go_wp2_with fail
  refine C1.out.mono ?_
  rintro e w1 ⟨q, hq0, hq1, rfl, hS1, g1⟩
  have hq2 : q ≤ t.size := by omega
  obtain ⟨k, rfl⟩ : ∃ k : Nat, q = k := ⟨q.toNat, by omega⟩
  have hk : k ≤ t.size := by omega
  have C2 := Lib.hid (cNext B len 8 w1 hlen (by omega) (by omega) hS1)
  clear hS1 hq1 C1
  go_wp2_with fail
  refine C2.out.mono ?_
  rintro e w2 ⟨r, hr0, hr1, rfl, hS2, g2⟩
  have HS2 := Lib.hid hS2
  have G2 := Lib.hid (g1.trans g2)
  have hB2 : B < w2.heap.size := hS2.lt
  have e1 : (0 : Int) ≤ (k : Int) := Int.natCast_nonneg _
  have e2 : (k : Int) ≤ (t.size : Int) := by omega
  clear hS2 g1 g2 C2
  by_cases h0 : r = 0
  · have z0 : (r == 0) = true := by simp [h0]
    clear h0
    go_wp2_with fail
    go_ret
    exact ⟨t.extract 0 k, by rw [ByteArray.size_extract]; omega, rfl, HS2.out, G2.out⟩
  have z0 : (r == 0) = false := by rw [beq_eq_false_iff_ne]; exact h0
  clear h0
  by_cases h1 : r = 1
  · have z1 : (r == 1) = true := by simp [h1]
    clear h1
    have hT : ∀ (W : World) (i : Nat), i < 8 → (W.alloc (.cells #[.string ⟨#[48]⟩, .string ⟨#[35]⟩, .string ⟨#[46]⟩, .string ⟨#[47]⟩, .string ⟨#[32]⟩, .string ⟨#[97]⟩, .string ⟨#[45]⟩, .string ⟨#[10]⟩] 9)).cell? ⟨W.heap.size, i, none⟩ = some (.string (tab8 i)) := tab8_cell
    go_wp2_with fail
    go_region_with ((go_at_call 61; refine (cNextC B len 8 w _ hlen (by omega) (by omega) ?hg ?hs).mono ?_; (case hg => first | exact gdr_ (G2.out.trans (World.grownBy_alloc _ _ _)) | exact gdr_ G2.out | exact G2.out.trans (World.grownBy_alloc _ _ _) | exact G2.out); (case hs => first | exact Src.drw (HS2.out.alloc _) | exact Src.drw HS2.out | exact HS2.out.alloc _ | exact HS2.out); rintro e w6 ⟨q, hq0, hq1, rfl, hSB, hgB, hgC⟩; (have hq2 : q < 8 := by omega); (obtain ⟨j, rfl⟩ : ∃ j : Nat, q = j := ⟨q.toNat, by omega⟩); (have hj : j < 8 := by omega); (have ht3 := tab8_size j); (try (refine use_fact3 (T := ∀ i, i < 8 → w6.cell? ⟨w2.heap.size, i, none⟩ = some (.string (tab8 i))) ?hk ?_; (case hk => exact fun i hi => hgC.cell (tab8_cell w2 i hi) (some_ne3 (Nat.ne_of_gt hB2))); intro hTb))))
    go_goals
    all_goals
      go_wp2
      go_ret
      refine ⟨_, ?_, rfl, ?_, ?_⟩
      · simp only [ByteArray.size_append, ByteArray.size_extract]
        omega
      · first
          | exact hSB
          | exact hSB.alloc _
      · first
          | exact hgB
          | exact hgB.trans (World.grownBy_alloc _ _ _)
  have z1 : (r == 1) = false := by rw [beq_eq_false_iff_ne]; exact h1
  clear h1
  by_cases h2 : r = 2
  · have z2 : (r == 2) = true := by simp [h2]
    clear h2
    by_cases hkl : k < t.size
    · have z3 : decide ((k : Int) < (t.size : Int)) = true := decide_eq_true (by omega)
      go_wp2_with fail
      go_quiet (fail)
      go_wp2
      go_ret
      exact ⟨_, by simp only [ByteArray.size_append, ByteArray.size_extract]; omega, rfl, HS2.out, grown_dr G2.out _⟩
    · have z3 : decide ((k : Int) < (t.size : Int)) = false := decide_eq_false (by omega)
      go_wp2_with fail
      go_ret
      exact ⟨t, by omega, rfl, HS2.out, G2.out⟩
  · have z2 : (r == 2) = false := by rw [beq_eq_false_iff_ne]; exact h2
    clear h2
    go_wp2_with fail
    go_ret
    exact ⟨t, by omega, rfl, HS2.out, G2.out⟩
end
section
set_option linter.unusedVariables false
open Go.RowKit

def joinL (l : List (List UInt8)) : List UInt8 := Lib.join l [32]
def joinB (xs : List ByteArray) : ByteArray := ⟨(Lib.join (xs.map (·.data.toList)) (sepB 32).data.toList).toArray⟩
theorem joinL_cons (a b : List UInt8) (l : List (List UInt8)) : joinL (a :: b :: l) = a ++ 32 :: joinL (b :: l) := by
  simp [joinL, Lib.join, List.intercalate, List.intersperse]
theorem joinL_one (a : List UInt8) : joinL [a] = a := by simp [joinL, Lib.join, List.intercalate, List.intersperse]
theorem joinL_snoc : ∀ (a : List UInt8) (l : List (List UInt8)) (x : List UInt8), joinL ((a :: l) ++ [x]) = joinL (a :: l) ++ 32 :: x
  | a, [], x => by rw [List.singleton_append, joinL_cons, joinL_one, joinL_one]
  | a, b :: l, x => by
    rw [List.cons_append, List.cons_append, joinL_cons, ← List.cons_append, joinL_snoc b l x, joinL_cons]; simp
theorem joinB_data (xs : List ByteArray) : (joinB xs).data.toList = joinL (xs.map (·.data.toList)) := by simp [joinB, joinL, sepB]
theorem joinB_one (x : ByteArray) : joinB [x] = x := by
  apply ByteArray.ext; apply Array.toList_inj.1
  rw [joinB_data]; exact joinL_one _
theorem joinB_snoc (xs : List ByteArray) (x : ByteArray) (h : xs ≠ []) : joinB (xs ++ [x]) = joinB xs ++ ⟨#[32]⟩ ++ x := by
  apply ByteArray.ext; apply Array.toList_inj.1
  rw [joinB_data]
  cases xs with
  | nil => exact absurd rfl h
  | cons a l =>
    rw [List.map_append, List.map_cons, List.map_singleton, joinL_snoc]
    simp [joinB_data]
theorem joinB_step (xs : List ByteArray) (k : Nat) (x : ByteArray) (hk : 0 < k) (h : xs[k]? = some x) : joinB (xs.take (k + 1)) = joinB (xs.take k) ++ ⟨#[32]⟩ ++ x := by
  have hl := (List.getElem?_eq_some_iff.1 h).1
  have hx : xs[k] = x := (List.getElem?_eq_some_iff.1 h).2
  rw [List.take_succ_eq_append_getElem hl, hx]
  exact joinB_snoc _ _ (by intro e; have := congrArg List.length e; rw [List.length_take, List.length_nil] at this; omega)
theorem joinB_first (xs : List ByteArray) (x : ByteArray) (h : xs[0]? = some x) : joinB (xs.take 1) = ByteArray.empty ++ x := by
  have hl := (List.getElem?_eq_some_iff.1 h).1
  have hx : xs[0] = x := (List.getElem?_eq_some_iff.1 h).2
  rw [List.take_succ_eq_append_getElem hl, hx, List.take_zero, List.nil_append, joinB_one]
  apply ByteArray.ext; simp

theorem join_len : ∀ (l : List (List UInt8)), (∀ y ∈ l, y.length ≤ 64) → (joinL l).length ≤ l.length * 65
  | [], _ => by simp [joinL, Lib.join, List.intercalate, List.intersperse]
  | [a], h => by rw [joinL_one]; have := h a (by simp); simp; omega
  | a :: b :: l, h => by
    rw [joinL_cons, List.length_append, List.length_cons]
    have h1 := h a (by simp)
    have h2 := join_len (b :: l) (fun y hy => h y (List.mem_cons_of_mem _ hy))
    simp only [List.length_cons] at h2 ⊢
    omega
theorem join_small (xs : List ByteArray) (h : ∀ y ∈ xs, y.size ≤ 16) (hn : xs.length ≤ 8) : (Lib.join (xs.map (·.data.toList)) (sepB 32).data.toList).length ≤ 140737488355328 := by
  have h1 := join_len (xs.map (·.data.toList)) (by
    intro y hy
    rw [List.mem_map] at hy
    obtain ⟨z, hz, rfl⟩ := hy
    have h2 := h z hz
    have h3 := size_list z
    omega)
  rw [List.length_map] at h1
  have h2 : (Lib.join (xs.map (·.data.toList)) (sepB 32).data.toList) = joinL (xs.map (·.data.toList)) := rfl
  rw [h2]; omega

set_option maxHeartbeats 1000000 in
theorem cWords (g o cap n : Nat) (xs : List ByteArray) (w : World) (hn : n = xs.length) (hn64 : n ≤ 64) (hsz : ∀ x ∈ xs, x.size ≤ 64)
    (hc : ∀ (j : Nat) x, xs[j]? = some x → w.cell? ⟨g, o + j, none⟩ = some (.string x)) :
    Calls Tryz.prog 173 #[.slice (some ⟨g, o, none⟩) n cap] w fun e w' => e = .returned (.string (joinB xs)) ∧ w = w' := by
  have HN := Lib.hid hn
  have HS := Lib.hid hsz
  have HC := Lib.hid hc
  clear hn hsz hc
  go_enter Tryz.func173, Tryz.ntmps173
  go_wp2
  go_loop [3, 4] (fun ou i => ∃ (k : Nat) (t : ByteArray), k ≤ n ∧ i = .int .i64 k ∧ ou = .string t ∧ t.size ≤ k * 65 ∧ Hid (t = joinB (xs.take k))) (fun _ i => n - (intOf i).toNat)
  case atStart => exact ⟨0, ⟨#[]⟩, Nat.zero_le _, rfl, rfl, Nat.zero_le _, Lib.hid rfl⟩
  case round =>
    obtain ⟨k, t, hk, rfl, rfl, ht, HT⟩ := hrel
    by_cases hlt : k < n
    · obtain ⟨x, hx⟩ : ∃ x, xs[k]? = some x := ⟨xs[k]'(by have := HN.out; omega), List.getElem?_eq_getElem _⟩
      have hcx := HC.out k x hx
      have hsx := HS.out x (List.mem_of_getElem? hx)
      have HX := Lib.hid hx
      clear hx
      by_cases hk0 : 0 < k
      · go_wp2
        go_round
        case rel => exact ⟨k + 1, _, by omega, by go_num, rfl, (by rw [ByteArray.size_append, ByteArray.size_append]; have h1 : (⟨#[32]⟩ : ByteArray).size = 1 := rfl; omega), Lib.hid (by rw [joinB_step xs k x hk0 HX.out, HT.out])⟩
        case measure => simp [intOf]; omega
      · have hk1 : k = 0 := by omega
        have HK := Lib.hid hk1
        clear hk1
        go_wp2
        go_round
        case rel => exact ⟨k + 1, _, by omega, by go_num, rfl, by simp; omega, Lib.hid (by have h := HX.out; have e := HT.out; rw [HK.out] at h e ⊢; rw [joinB_first xs x h, e]; rfl)⟩
        case measure => simp [intOf]; omega
    · obtain rfl : k = n := by omega
      go_wp2
      go_ret
      exact ⟨by rw [HT.out, List.take_of_length_le (by have := HN.out; omega)]; rfl, rfl⟩
end
section
set_option linter.unusedVariables false
open Go.RowKit

theorem info_str0 : (Tryz.prog.info? 9).map (fun i => (i.zero, i.size, i.bytes)) = some (some (.string ByteArray.empty), 1, 16) := by kernel_rfl
def vals (xs : List ByteArray) : List Value := xs.map Value.string
theorem vals_at (xs : List ByteArray) (j : Nat) (x : ByteArray) (h : xs[j]? = some x) : (vals xs)[j]? = some (.string x) := by simp [vals, h]
/-- What szStringS answers allows the walk to go on only for small slices. -/
def SmallS (n : Nat) (xs : List ByteArray) (r : Int) : Prop := r ≤ 1048576 ∧ (r < 0 ∨ (n ≤ 1048576 ∧ ∀ x ∈ xs, x.size ≤ 1048576))

set_option maxHeartbeats 400000 in
theorem cSzS_none (A : Option Addr) (cap : Nat) (w : World) :
    Calls Tryz.prog 50 #[.slice A 0 cap, .int .i64 1048576] w fun e w' => e = .returned (.int .i64 1048576) ∧ w = w' := by
  go_enter Tryz.func50, Tryz.ntmps50
  go_wp2
  refine wp_loop_rounds 1 ?_
  rw [rounds_succ]
  go_wp2
  go_ret
  exact ⟨rfl, rfl⟩

def SomeR (P : Int → Prop) (w : World) (e : Ending) (w' : World) : Prop := ∃ r : Int, P r ∧ e = .returned (.int .i64 r) ∧ w = w'
set_option maxHeartbeats 1000000 in
theorem cSzS (b o n cap : Nat) (xs : List ByteArray) (w : World) (hn : n = xs.length) (hbig : n ≤ maxLen) (hsz : ∀ x ∈ xs, x.size ≤ maxLen)
    (hc : ∀ (j : Nat) x, xs[j]? = some x → w.cell? ⟨b, o + j, none⟩ = some (.string x)) :
    Calls Tryz.prog 50 #[.slice (some ⟨b, o, none⟩) n cap, .int .i64 1048576] w (SomeR (SmallS n xs) w) := by
  unfold maxLen at hbig
  have HN := Lib.hid hn
  have HS := Lib.hid hsz
  have HC := Lib.hid hc
  clear hn hsz hc
  by_cases h1 : 1048576 < n
  · go_enter Tryz.func50, Tryz.ntmps50
    go_wp2
    go_ret
    exact ⟨-1, ⟨by omega, .inl (by omega)⟩, rfl, rfl⟩
  go_enter Tryz.func50, Tryz.ntmps50
  go_wp2
  go_loop [1, 5] (fun l i => ∃ (k : Nat) (r : Int), k ≤ n ∧ i = .int .i64 k ∧ l = .int .i64 r ∧ 0 ≤ r ∧ r ≤ 1048576 ∧ Hid (∀ x ∈ xs.take k, x.size ≤ 1048576)) (fun _ i => n - (intOf i).toNat)
  case atStart => exact ⟨0, _, Nat.zero_le _, rfl, rfl, by omega, by omega, Lib.hid (by simp)⟩
  case round =>
    obtain ⟨k, r, hk, rfl, rfl, hr0, hr1, HA⟩ := hrel
    by_cases hlt : k < n
    · obtain ⟨x, hx⟩ : ∃ x, xs[k]? = some x := ⟨xs[k]'(by have := HN.out; omega), List.getElem?_eq_getElem _⟩
      have hcx := HC.out k x hx
      have hsx := HS.out x (List.mem_of_getElem? hx)
      unfold maxLen at hsx
      have HX := Lib.hid hx
      clear hx
      by_cases h2 : r < x.size
      · go_wp2
        go_ret
        exact ⟨-1, ⟨by omega, .inl (by omega)⟩, rfl, rfl⟩
      · have h2' : (x.size : Int) ≤ r := by omega
        go_wp2
        go_round
        case rel => exact ⟨k + 1, _, by omega, by go_num, rfl, by omega, by omega, Lib.hid (by
          have hl := (List.getElem?_eq_some_iff.1 HX.out).1
          have he : xs[k] = x := (List.getElem?_eq_some_iff.1 HX.out).2
          rw [List.take_succ_eq_append_getElem hl, he]
          intro y hy
          rw [List.mem_append, List.mem_singleton] at hy
          rcases hy with hy | rfl
          · exact HA.out y hy
          · omega)⟩
        case measure => simp [intOf]; omega
    · have hall : xs.take k = xs := List.take_of_length_le (by have := HN.out; omega)
      have hfin : SmallS n xs r := ⟨hr1, .inr ⟨by omega, by rw [← hall]; exact HA.out⟩⟩
      have HF := Lib.hid hfin
      clear hall hfin
      go_wp2
      go_ret
      exact ⟨r, HF.out, rfl, rfl⟩

/-- The first k texts copied, the rest empty. -/
def copyV (xs : List ByteArray) (n k : Nat) : List Value := vals (xs.take k) ++ List.replicate (n - k) (.string ByteArray.empty)
theorem copyV_zero (xs : List ByteArray) (n : Nat) : (madeCells #[Value.string ByteArray.empty] n).toList = copyV xs n 0 := by
  apply List.ext_getElem?
  intro j
  by_cases h : j < n
  · simp [madeCells, copyV, vals, h, Nat.mod_one]
  · rw [List.getElem?_eq_none (by simp [madeCells]; omega), List.getElem?_eq_none (by simp [copyV, vals]; omega)]
theorem copyV_step (xs : List ByteArray) (n k : Nat) (x : ByteArray) (hn : n = xs.length) (h : xs[k]? = some x) : (copyV xs n k).set k (.string x) = copyV xs n (k + 1) := by
  have hl := (List.getElem?_eq_some_iff.1 h).1
  have he : xs[k] = x := (List.getElem?_eq_some_iff.1 h).2
  unfold copyV vals
  rw [List.set_append_right _ _ (by simp; omega), List.take_succ_eq_append_getElem hl, he, List.map_append, List.append_assoc]
  congr 1
  obtain ⟨d, hd⟩ : ∃ d, n - k = d + 1 := ⟨n - k - 1, by omega⟩
  rw [hd, show n - (k + 1) = d by omega, List.length_map, List.length_take, show k - min k xs.length = 0 by omega, List.replicate_succ, List.set_cons_zero]
  rfl
theorem copyV_all (xs : List ByteArray) (n : Nat) (hn : n = xs.length) : copyV xs n n = vals xs := by
  unfold copyV; rw [List.take_of_length_le (by omega), Nat.sub_self]; simp

theorem cToS_none (A : Option Addr) (cap : Nat) (w : World) :
    Calls Tryz.prog 51 #[.slice A 0 cap] w fun e w' => e = .returned (.slice (some ⟨w.heap.size, 0, none⟩) 0 0) ∧ Below w.heap.size w w' := by
  obtain ⟨i0, hi0, hz0, hz1, hz2⟩ := info_parts info_str0
  go_enter Tryz.func51, Tryz.ntmps51
  go_wp2_with (at_make; refine wpList_make_full _ rfl _ _ 38 rfl w.heap.size 9 i0 _ 1 Tryz.underlying38 hi0 hz0 hz1 _ _ _ _ 0 rfl rfl (by simp) (by simp) ?b2 ?b3 (Nat.le_refl _) ?_)
  case b2 => rw [hz2]; omega
  case b3 => unfold maxLen; omega
  intro w0 hown0 hgrow0
  have hb0 : Below w.heap.size w w0 := (Below.refl _ _).grown hgrow0 (Nat.le_refl _) (fun k h => by cases h)
  clear hown0 hgrow0
  go_wp2
  refine wp_loop_rounds 1 ?_
  rw [rounds_succ]
  go_wp2
  go_ret
  exact ⟨rfl, hb0⟩

set_option maxHeartbeats 1000000 in
theorem cToS (b o n cap : Nat) (xs : List ByteArray) (w : World) (hn : n = xs.length) (hbig : n ≤ 1048576) (hb : b < w.heap.size)
    (hc : ∀ (j : Nat) x, xs[j]? = some x → w.cell? ⟨b, o + j, none⟩ = some (.string x)) :
    Calls Tryz.prog 51 #[.slice (some ⟨b, o, none⟩) n cap] w fun e w' => e = .returned (.slice (some ⟨w.heap.size, 0, none⟩) n n) ∧
      w'.ownsRow w.heap.size 9 1 (.slice (some ⟨w.heap.size, 0, none⟩) n n) n (vals xs) ∧ Below w.heap.size w w' := by
  obtain ⟨i0, hi0, hz0, hz1, hz2⟩ := info_parts info_str0
  have HN := Lib.hid hn
  have HC := Lib.hid hc
  clear hn hc
  go_enter Tryz.func51, Tryz.ntmps51
  go_wp2_with (at_make; refine wpList_make_full _ rfl _ _ 38 rfl w.heap.size 9 i0 _ 1 Tryz.underlying38 hi0 hz0 hz1 _ _ _ _ n rfl rfl (by simp) (by simp) ?b2 ?b3 (Nat.le_refl _) ?_)
  case b2 => rw [hz2]; omega
  case b3 => unfold maxLen; omega
  intro w0 hown0 hgrow0
  rw [copyV_zero xs] at hown0
  have hb0 : Below w.heap.size w w0 := (Below.refl _ _).grown hgrow0 (Nat.le_refl _) (fun k h => by cases h)
  clear hgrow0
  go_wp2
  go_loopw [4] (fun i wr => ∃ k : Nat, k ≤ n ∧ i = .int .i64 k ∧ wr.ownsRow w.heap.size 9 1 (.slice (some ⟨w.heap.size, 0, none⟩) n n) n (copyV xs n k) ∧ Below w.heap.size w wr) (fun i _ => n - (intOf i).toNat)
  case atStart => exact ⟨0, Nat.zero_le _, rfl, hown0, hb0⟩
  case round =>
    clear hown0 hb0
    obtain ⟨k, hk, rfl, hown, hbw⟩ := hrel
    by_cases hlt : k < n
    · obtain ⟨x, hx⟩ : ∃ x, xs[k]? = some x := ⟨xs[k]'(by have := HN.out; omega), List.getElem?_eq_getElem _⟩
      have hcx := (hbw.cell (by exact hb)).trans (HC.out k x hx)
      have f4 := hown.frozenAt k
      obtain ⟨v4, c4⟩ : ∃ v, wr.cell? ⟨w.heap.size, k, none⟩ = some v := by
        have hl : k < (copyV xs n k).length := by rw [hown.1]; omega
        exact ⟨_, (hown.cellAt k (by omega)).trans (List.getElem?_eq_getElem hl)⟩
      have hst := (hown.stored k (.string x)).1
      rw [copyV_step xs n k x HN.out hx] at hst
      have hbw1 : Below w.heap.size w (wr.setCell ⟨w.heap.size, k, none⟩ (.string x)) := hbw.setCell (Nat.le_refl _) _
      have e1 : (0 : Int) ≤ (k : Int) := Int.natCast_nonneg _
      have e2 : (k : Int) < (n : Int) := by omega
      clear hx hown
      go_wp2
      go_roundw
      case rel => exact ⟨k + 1, by omega, by go_num, hst, hbw1⟩
      case measure => simp [intOf]; omega
    · obtain rfl : k = n := by omega
      rw [copyV_all xs k HN.out] at hown
      go_wp2
      go_ret
      exact ⟨rfl, hown, hbw⟩
end
section
set_option linter.unusedVariables false
open Go.RowKit

set_option maxHeartbeats 1000000 in
set_option maxRecDepth 100000 in
/-- Two slices with the same texts are equal. -/
theorem cEqS (g cap g' cap' n : Nat) (xs : List ByteArray) (w : World) (hn : n = xs.length) (hbig : n ≤ 1099511627776)
    (h1 : ∀ j x, xs[j]? = some x → w.cell? ⟨g, j, none⟩ = some (.string x)) (h2 : ∀ j x, xs[j]? = some x → w.cell? ⟨g', j, none⟩ = some (.string x)) :
    Calls Tryz.prog 42 #[.slice (some ⟨g, 0, none⟩) n cap, .slice (some ⟨g', 0, none⟩) n cap'] w fun e w' => e = .returned (.bool true) ∧ ∃ m, w' = w.drewN m := by
  have HN := Lib.hid hn
  have H1 := Lib.hid h1
  have H2 := Lib.hid h2
  clear hn h1 h2
  go_enter Tryz.func42, Tryz.ntmps42
  go_wp2
  go_loopw [5] (fun i wr => ∃ j m : Nat, j ≤ n ∧ i = .int .i64 j ∧ wr = w.drewN m) (fun i _ => n - (intOf i).toNat)
  case atStart => exact ⟨0, 0, Nat.zero_le _, rfl, rfl⟩
  case round =>
    obtain ⟨j, m, hj, rfl, rfl⟩ := hrel
    by_cases hlt : j < n
    · obtain ⟨x, hx⟩ : ∃ x, xs[j]? = some x := ⟨xs[j]'(by have := HN.out; omega), List.getElem?_eq_getElem _⟩
      have c1 : w.cell? ⟨g, j, none⟩ = some (.string x) := H1.out j x hx
      have c2 : w.cell? ⟨g', j, none⟩ = some (.string x) := H2.out j x hx
      clear hx
      have e1 : (0 : Int) ≤ (j : Int) := Int.natCast_nonneg _
      have e2 : (j : Int) < (n : Int) := by omega
      go_wp2
      go_quiet (fail)
      go_wp2
      go_roundw
      case rel => exact ⟨j + 1, _, by omega, by go_num, rfl⟩
      case measure => simp [intOf]; omega
    · go_wp2
      go_ret
      exact ⟨rfl, m, rfl⟩
/-- Two slices of length 0 are equal. -/
theorem cEqS_none (A A' : Option Addr) (cap cap' : Nat) (w : World) :
    Calls Tryz.prog 42 #[.slice A 0 cap, .slice A' 0 cap'] w fun e w' => e = .returned (.bool true) ∧ w = w' := by
  go_enter Tryz.func42, Tryz.ntmps42
  go_wp2
  refine wp_loop_rounds 1 ?_
  rw [rounds_succ]
  go_wp2
  go_ret
  exact ⟨rfl, rfl⟩
end
section
set_option linter.unusedVariables false
open Go.RowKit

theorem info_i64 : (Tryz.prog.info? 2).map (fun i => (i.zero, i.size, i.bytes)) = some (some (.int .i64 0), 1, 8) := by kernel_rfl
def intV (xs : List Int) : List Value := xs.map (Value.int .i64)
theorem intV_len (xs : List Int) : (intV xs).length = xs.length := by simp [intV]
theorem intV_at (xs : List Int) (j : Nat) (x : Int) (h : xs[j]? = some x) : (intV xs)[j]? = some (.int .i64 x) := by simp [intV, h]
theorem intV_snoc (xs : List Int) (x : Int) : intV xs ++ [.int .i64 x] = intV (xs ++ [x]) := by simp [intV]
theorem rowBase {w : World} {b b' : Nat} {t : TypeId} {s n : Nat} {v : Value} {xs : List Value} (h : w.ownsRow b t s v n xs) (hb : b' ≤ b) : w.ownsRow b' t s v n xs := by
  refine ⟨h.1, ?_⟩
  rcases h.2 with h2 | ⟨g, cap, cur, h1, h2, h3⟩
  · exact .inl h2
  · exact .inr ⟨g, cap, cur, h1, Nat.le_trans hb h2, h3⟩
theorem bgr {w w' : World} (h : Below w.heap.size w w') (row : Option Nat) : w.grownBy w' row := ⟨h.os, h.tape, h.output, h.size, fun k hk _ => h.block k hk⟩
/-- A row of numbers of one's own. -/
def RowI (w : World) (A : Option Addr) (n c : Nat) (xs : List Int) : Prop := w.ownsRow 0 2 1 (.slice A n c) n (intV xs)
theorem RowI.of {w : World} {A : Option Addr} {n c b : Nat} {xs : List Int} (h : w.ownsRow b 2 1 (.slice A n c) n (intV xs)) : RowI w A n c xs := rowBase h (Nat.zero_le _)
theorem RowI.nil (w : World) : RowI w none 0 0 [] := World.ownsRow_nil w 0 _ 1
theorem RowI.len {w : World} {A : Option Addr} {n c : Nat} {xs : List Int} (h : RowI w A n c xs) : xs.length = n := by have := h.1; rw [intV_len] at this; omega
theorem RowI.grown {w w' : World} {A : Option Addr} {n c : Nat} {xs : List Int} {row : Option Nat} (h : RowI w A n c xs) (hg : w.grownBy w' row) (hne : ∀ x, (Value.slice A n c).ownBlock = some x → row ≠ some x) : RowI w' A n c xs := by
  refine World.ownsRow.kept h hg ?_
  cases hC : (Value.slice A n c).ownBlock with
  | none => exact .inl rfl
  | some x => exact .inr (fun e => hne x hC e.symm)
theorem RowI.below {w w' : World} {A : Option Addr} {n c : Nat} {xs : List Int} (h : RowI w A n c xs) (hb : Below w.heap.size w w') : RowI w' A n c xs := h.grown (bgr hb none) (fun _ _ e => by cases e)
theorem RowI.cells {w : World} {A : Option Addr} {n c : Nat} {xs : List Int} (h : RowI w A n c xs) (hp : 0 < n) : ∃ g, A = some ⟨g, 0, none⟩ ∧ g < w.heap.size ∧ ∀ (j : Nat) x, xs[j]? = some x → w.cell? ⟨g, j, none⟩ = some (.int .i64 x) := by
  obtain ⟨g, cc, hv, _, hgl⟩ := World.ownsRow.form h hp
  obtain ⟨rfl, rfl⟩ : A = some ⟨g, 0, none⟩ ∧ c = cc := by injection hv with h1 h2 h3; exact ⟨h1, h3⟩
  refine ⟨g, rfl, hgl, fun j x hx => ?_⟩
  have hj := (List.getElem?_eq_some_iff.1 hx).1
  have hl := h.len
  exact (World.ownsRow.cellAt h j (by omega)).trans (intV_at _ _ _ hx)

def marksI (k n : Nat) : List Int := (List.range n).map fun (i : Nat) => ((k + i : Nat) : Int)
theorem marksI_len (k n : Nat) : (marksI k n).length = n := by simp [marksI]
theorem marksI_at (k n j : Nat) (h : j < n) : (marksI k n)[j]? = some ((k + j : Nat) : Int) := by simp [marksI, h]
theorem marksI_succ (k j : Nat) : marksI k (j + 1) = marksI k j ++ [((k + j : Nat) : Int)] := by unfold marksI; rw [List.range_succ, List.map_append]; rfl
def markI (k j : Nat) (xs : List Int) : List Int := marksI k j ++ xs.drop j
theorem markI_step (k j : Nat) (xs : List Int) (h : j < xs.length) : (intV (markI k j xs)).set j (.int .i64 ((k + j : Nat) : Int)) = intV (markI k (j + 1) xs) := by
  unfold markI intV
  rw [List.map_append, List.set_append_right _ _ (by rw [List.length_map, marksI_len]; exact Nat.le_refl _), List.length_map, marksI_len, Nat.sub_self, List.drop_eq_getElem_cons h, List.map_cons, List.set_cons_zero, marksI_succ, List.append_assoc, List.map_append]
  rfl

theorem cMarkI_none (A : Option Addr) (c : Nat) (k : Int) (w : World) :
    Calls Tryz.prog 49 #[.slice A 0 c, .int .i64 k] w fun e w' => e = .returned (.int .i64 k) ∧ w = w' := by
  go_enter Tryz.func49, Tryz.ntmps49
  go_wp2
  refine wp_loop_rounds 1 ?_
  rw [rounds_succ]
  go_wp2
  go_ret
  exact ⟨rfl, rfl⟩
def MarkIPost (A : Option Addr) (n c k : Nat) (w : World) (e : Ending) (w' : World) : Prop :=
  e = .returned (.int .i64 ((k + n : Nat) : Int)) ∧ RowI w' A n c (marksI k n) ∧ w.grownBy w' (Value.slice A n c).ownBlock

set_option maxHeartbeats 1000000 in
set_option maxRecDepth 100000 in
theorem cMarkI (A : Option Addr) (n c k : Nat) (xs : List Int) (w : World) (hkn : k + n ≤ 1099511627776) (h : RowI w A n c xs) :
    Calls Tryz.prog 49 #[.slice A n c, .int .i64 k] w (MarkIPost A n c k w) := by
  rcases Nat.eq_zero_or_pos n with rfl | hp
  · refine (cMarkI_none A c k w).mono ?_
    rintro e w' ⟨rfl, rfl⟩
    have hx : xs = [] := List.eq_nil_of_length_eq_zero h.len
    subst hx
    exact ⟨rfl, h, World.grownBy.refl _ _⟩
  obtain ⟨g, cc, hv, _, hgl⟩ := World.ownsRow.form h hp
  obtain ⟨rfl, rfl⟩ : A = some ⟨g, 0, none⟩ ∧ c = cc := by injection hv with h1 h2 h3; exact ⟨h1, h3⟩
  have HLEN := Lib.hid h.len
  have H := Lib.hid h
  clear hv h
  go_enter Tryz.func49, Tryz.ntmps49
  go_wp2_with fail
  go_loopw [1, 5] (fun kk i wr => ∃ j : Nat, j ≤ n ∧ i = .int .i64 j ∧ kk = .int .i64 ((k : Int) + j) ∧ Hid (RowI wr (some ⟨g, 0, none⟩) n c (markI k j xs)) ∧ w.grownBy wr (some g)) (fun _ i _ => n - (intOf i).toNat)
  case atStart => exact ⟨0, Nat.zero_le _, rfl, by simp, H, World.grownBy.refl _ _⟩
  case round =>
    obtain ⟨j, hj, rfl, rfl, HR, hgr⟩ := hrel
    by_cases hlt : j < n
    · have hr := HR.out
      have hl1 := hr.1
      obtain ⟨v0, d0⟩ : ∃ v, wr.cell? ⟨g, j, none⟩ = some v := ⟨_, (World.ownsRow.cellAt hr j (by omega)).trans (List.getElem?_eq_getElem (by omega))⟩
      have f0 := World.ownsRow.frozenAt hr j
      have hs1 := World.ownsRow.stored hr j (.int .i64 ((k + j : Nat) : Int))
      have hst := hs1.1
      rw [markI_step k j xs (by rw [HLEN.out]; exact hlt)] at hst
      have hgr2 := hgr.trans hs1.2
      rw [show ((k + j : Nat) : Int) = (k : Int) + (j : Int) by omega] at hst hgr2
      have HST := Lib.hid hst
      have u1 : (0 : Int) ≤ (j : Int) := Int.natCast_nonneg _
      have u2 : (j : Int) < (n : Int) := by omega
      have u3 : (0 : Int) ≤ (k : Int) := Int.natCast_nonneg _
      have u4 : (k : Int) + (j : Int) ≤ 1099511627776 := by omega
      clear hr hl1 hs1 hst hgr
      go_wp2_with fail
      go_roundw
      case rel => exact ⟨j + 1, by omega, by go_num, by go_num, Lib.hid HST.out, hgr2⟩
      case measure => simp [intOf]; omega
    · obtain rfl : j = n := by omega
      have hr := HR.out
      have he : markI k j xs = marksI k j := by unfold markI; rw [List.drop_of_length_le (by rw [HLEN.out]; exact Nat.le_refl _), List.append_nil]
      rw [he] at hr
      have HR2 := Lib.hid hr
      clear he hr
      go_wp2_with fail
      go_ret
      exact ⟨ret_int (by omega), HR2.out, hgr⟩

theorem cEqI_none (A A' : Option Addr) (cap cap' : Nat) (w : World) :
    Calls Tryz.prog 48 #[.slice A 0 cap, .slice A' 0 cap'] w fun e w' => e = .returned (.bool true) ∧ w = w' := by
  go_enter Tryz.func48, Tryz.ntmps48
  go_wp2
  refine wp_loop_rounds 1 ?_
  rw [rounds_succ]
  go_wp2
  go_ret
  exact ⟨rfl, rfl⟩
set_option maxHeartbeats 1000000 in
theorem cEqR (A A' : Option Addr) (cap cap' n : Nat) (xs : List Int) (w : World) (hbig : n ≤ 1099511627776) (h : RowI w A n cap xs) (h' : RowI w A' n cap' xs) :
    Calls Tryz.prog 48 #[.slice A n cap, .slice A' n cap'] w fun e w' => e = .returned (.bool true) ∧ Below w.heap.size w w' := by
  rcases Nat.eq_zero_or_pos n with rfl | hp
  · exact (cEqI_none A A' cap cap' w).mono fun e w' ⟨he, hw⟩ => ⟨he, hw ▸ Below.refl _ _⟩
  have HN := Lib.hid h.len
  obtain ⟨g, rfl, _, h1⟩ := h.cells hp
  obtain ⟨g', rfl, _, h2⟩ := h'.cells hp
  have H1 := Lib.hid h1
  have H2 := Lib.hid h2
  clear h1 h2 h h'
  go_enter Tryz.func48, Tryz.ntmps48
  go_wp2
  go_loopw [5] (fun i wr => ∃ j m : Nat, j ≤ n ∧ i = .int .i64 j ∧ wr = w.drewN m) (fun i _ => n - (intOf i).toNat)
  case atStart => exact ⟨0, 0, Nat.zero_le _, rfl, rfl⟩
  case round =>
    obtain ⟨j, m, hj, rfl, rfl⟩ := hrel
    by_cases hlt : j < n
    · obtain ⟨x, hx⟩ : ∃ x, xs[j]? = some x := ⟨xs[j]'(by have := HN.out; omega), List.getElem?_eq_getElem _⟩
      have c1 : w.cell? ⟨g, j, none⟩ = some (.int .i64 x) := H1.out j x hx
      have c2 : w.cell? ⟨g', j, none⟩ = some (.int .i64 x) := H2.out j x hx
      clear hx
      have e1 : (0 : Int) ≤ (j : Int) := Int.natCast_nonneg _
      have e2 : (j : Int) < (n : Int) := by omega
      have hd : (x != x) = false := by simp
      go_wp2
      go_quiet (fail)
      go_wp2
      go_roundw
      case rel => exact ⟨j + 1, _, by omega, by go_num, rfl⟩
      case measure => simp [intOf]; omega
    · go_wp2
      go_ret
      exact ⟨rfl, ⟨rfl, rfl, rfl, Nat.le_refl _, fun _ _ => rfl⟩⟩
end
end Go.Proofs.YtglmibmjbignbaaGreatDoor
