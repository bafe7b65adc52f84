/-
  The contracts of the laws' helpers szStringS and toStringS.
-/
import Derived.Test.YtglmibmjbignbaaGreatDoorMz1
import Derived.Test.YtglmibmjbignbaaGreatDoorMz2
import Derived.OwnWalk
import Derived.Laws.OwnMore
import Derived.Deep.AppendLies
import Derived.Handy
namespace Go.Proofs.YtglmibmjbignbaaGreatDoor
section
set_option linter.unusedVariables false
open Go.RowKit

theorem info_str0 : (Tryz.prog.info? 9).map (fun i => (i.zero, i.size, i.bytes)) = some (some (.string ByteArray.empty), 1, 16) := by kernel_rfl
def vals (xs : List ByteArray) : List Value := xs.map Value.string
theorem vals_at (xs : List ByteArray) (j : Nat) (x : ByteArray) (h : xs[j]? = some x) : (vals xs)[j]? = some (.string x) := by simp [vals, h]
/-- What szStringS answers allows the walk to go on only for small slices. -/
def SmallS (n : Nat) (xs : List ByteArray) (r : Int) : Prop := r ≤ 1048576 ∧ (r < 0 ∨ (n ≤ 1048576 ∧ ∀ x ∈ xs, x.size ≤ 1048576))

set_option maxHeartbeats 400000 in
theorem cSzS_none (A : Option Addr) (cap : Nat) (w : World) :
    Calls Tryz.prog 50 #[.slice A 0 cap, .int .i64 1048576] w fun e w' => e = .returned (.int .i64 1048576) ∧ w = w' := by
  go_enter Tryz.func50, Tryz.ntmps50
  go_wp2
  refine wp_loop_rounds 1 ?_
  rw [rounds_succ]
  go_wp2
  go_ret
  exact ⟨rfl, rfl⟩

def SomeR (P : Int → Prop) (w : World) (e : Ending) (w' : World) : Prop := ∃ r : Int, P r ∧ e = .returned (.int .i64 r) ∧ w = w'
set_option maxHeartbeats 1000000 in
theorem cSzS (b o n cap : Nat) (xs : List ByteArray) (w : World) (hn : n = xs.length) (hbig : n ≤ maxLen) (hsz : ∀ x ∈ xs, x.size ≤ maxLen)
    (hc : ∀ (j : Nat) x, xs[j]? = some x → w.cell? ⟨b, o + j, none⟩ = some (.string x)) :
    Calls Tryz.prog 50 #[.slice (some ⟨b, o, none⟩) n cap, .int .i64 1048576] w (SomeR (SmallS n xs) w) := by
  unfold maxLen at hbig
  have HN := Lib.hid hn
  have HS := Lib.hid hsz
  have HC := Lib.hid hc
  clear hn hsz hc
  by_cases h1 : 1048576 < n
  · go_enter Tryz.func50, Tryz.ntmps50
    go_wp2
    go_ret
    exact ⟨-1, ⟨by omega, .inl (by omega)⟩, rfl, rfl⟩
  go_enter Tryz.func50, Tryz.ntmps50
  go_wp2
  go_loop [1, 5] (fun l i => ∃ (k : Nat) (r : Int), k ≤ n ∧ i = .int .i64 k ∧ l = .int .i64 r ∧ 0 ≤ r ∧ r ≤ 1048576 ∧ Hid (∀ x ∈ xs.take k, x.size ≤ 1048576)) (fun _ i => n - (intOf i).toNat)
  case atStart => exact ⟨0, _, Nat.zero_le _, rfl, rfl, by omega, by omega, Lib.hid (by simp)⟩
  case round =>
    obtain ⟨k, r, hk, rfl, rfl, hr0, hr1, HA⟩ := hrel
    by_cases hlt : k < n
    · obtain ⟨x, hx⟩ : ∃ x, xs[k]? = some x := ⟨xs[k]'(by have := HN.out; omega), List.getElem?_eq_getElem _⟩
      have hcx := HC.out k x hx
      have hsx := HS.out x (List.mem_of_getElem? hx)
      unfold maxLen at hsx
      have HX := Lib.hid hx
      clear hx
      by_cases h2 : r < x.size
      · go_wp2
        go_ret
        exact ⟨-1, ⟨by omega, .inl (by omega)⟩, rfl, rfl⟩
      · have h2' : (x.size : Int) ≤ r := by omega
        go_wp2
        go_round
        case rel => exact ⟨k + 1, _, by omega, by go_num, rfl, by omega, by omega, Lib.hid (by
          have hl := (List.getElem?_eq_some_iff.1 HX.out).1
          have he : xs[k] = x := (List.getElem?_eq_some_iff.1 HX.out).2
          rw [List.take_succ_eq_append_getElem hl, he]
          intro y hy
          rw [List.mem_append, List.mem_singleton] at hy
          rcases hy with hy | rfl
          · exact HA.out y hy
          · omega)⟩
        case measure => simp [intOf]; omega
    · have hall : xs.take k = xs := List.take_of_length_le (by have := HN.out; omega)
      have hfin : SmallS n xs r := ⟨hr1, .inr ⟨by omega, by rw [← hall]; exact HA.out⟩⟩
      have HF := Lib.hid hfin
      clear hall hfin
      go_wp2
      go_ret
      exact ⟨r, HF.out, rfl, rfl⟩

/-- The first k texts copied, the rest empty. -/
def copyV (xs : List ByteArray) (n k : Nat) : List Value := vals (xs.take k) ++ List.replicate (n - k) (.string ByteArray.empty)
theorem copyV_zero (xs : List ByteArray) (n : Nat) : (madeCells #[Value.string ByteArray.empty] n).toList = copyV xs n 0 := by
  apply List.ext_getElem?
  intro j
  by_cases h : j < n
  · simp [madeCells, copyV, vals, h, Nat.mod_one]
  · rw [List.getElem?_eq_none (by simp [madeCells]; omega), List.getElem?_eq_none (by simp [copyV, vals]; omega)]
theorem copyV_step (xs : List ByteArray) (n k : Nat) (x : ByteArray) (hn : n = xs.length) (h : xs[k]? = some x) : (copyV xs n k).set k (.string x) = copyV xs n (k + 1) := by
  have hl := (List.getElem?_eq_some_iff.1 h).1
  have he : xs[k] = x := (List.getElem?_eq_some_iff.1 h).2
  unfold copyV vals
  rw [List.set_append_right _ _ (by simp; omega), List.take_succ_eq_append_getElem hl, he, List.map_append, List.append_assoc]
  congr 1
  obtain ⟨d, hd⟩ : ∃ d, n - k = d + 1 := ⟨n - k - 1, by omega⟩
  rw [hd, show n - (k + 1) = d by omega, List.length_map, List.length_take, show k - min k xs.length = 0 by omega, List.replicate_succ, List.set_cons_zero]
  rfl
theorem copyV_all (xs : List ByteArray) (n : Nat) (hn : n = xs.length) : copyV xs n n = vals xs := by
  unfold copyV; rw [List.take_of_length_le (by omega), Nat.sub_self]; simp

theorem cToS_none (A : Option Addr) (cap : Nat) (w : World) :
    Calls Tryz.prog 51 #[.slice A 0 cap] w fun e w' => e = .returned (.slice (some ⟨w.heap.size, 0, none⟩) 0 0) ∧ Below w.heap.size w w' := by
  obtain ⟨i0, hi0, hz0, hz1, hz2⟩ := info_parts info_str0
  go_enter Tryz.func51, Tryz.ntmps51
  go_wp2_with (at_make; refine wpList_make_full _ rfl _ _ 38 rfl w.heap.size 9 i0 _ 1 Tryz.underlying38 hi0 hz0 hz1 _ _ _ _ 0 rfl rfl (by simp) (by simp) ?b2 ?b3 (Nat.le_refl _) ?_)
  case b2 => rw [hz2]; omega
  case b3 => unfold maxLen; omega
  intro w0 hown0 hgrow0
  have hb0 : Below w.heap.size w w0 := (Below.refl _ _).grown hgrow0 (Nat.le_refl _) (fun k h => by cases h)
  clear hown0 hgrow0
  go_wp2
  refine wp_loop_rounds 1 ?_
  rw [rounds_succ]
  go_wp2
  go_ret
  exact ⟨rfl, hb0⟩

set_option maxHeartbeats 1000000 in
theorem cToS (b o n cap : Nat) (xs : List ByteArray) (w : World) (hn : n = xs.length) (hbig : n ≤ 1048576) (hb : b < w.heap.size)
    (hc : ∀ (j : Nat) x, xs[j]? = some x → w.cell? ⟨b, o + j, none⟩ = some (.string x)) :
    Calls Tryz.prog 51 #[.slice (some ⟨b, o, none⟩) n cap] w fun e w' => e = .returned (.slice (some ⟨w.heap.size, 0, none⟩) n n) ∧
      w'.ownsRow w.heap.size 9 1 (.slice (some ⟨w.heap.size, 0, none⟩) n n) n (vals xs) ∧ Below w.heap.size w w' := by
  obtain ⟨i0, hi0, hz0, hz1, hz2⟩ := info_parts info_str0
  have HN := Lib.hid hn
  have HC := Lib.hid hc
  clear hn hc
  go_enter Tryz.func51, Tryz.ntmps51
  go_wp2_with (at_make; refine wpList_make_full _ rfl _ _ 38 rfl w.heap.size 9 i0 _ 1 Tryz.underlying38 hi0 hz0 hz1 _ _ _ _ n rfl rfl (by simp) (by simp) ?b2 ?b3 (Nat.le_refl _) ?_)
  case b2 => rw [hz2]; omega
  case b3 => unfold maxLen; omega
  intro w0 hown0 hgrow0
  rw [copyV_zero xs] at hown0
  have hb0 : Below w.heap.size w w0 := (Below.refl _ _).grown hgrow0 (Nat.le_refl _) (fun k h => by cases h)
  clear hgrow0
  go_wp2
  go_loopw [4] (fun i wr => ∃ k : Nat, k ≤ n ∧ i = .int .i64 k ∧ wr.ownsRow w.heap.size 9 1 (.slice (some ⟨w.heap.size, 0, none⟩) n n) n (copyV xs n k) ∧ Below w.heap.size w wr) (fun i _ => n - (intOf i).toNat)
  case atStart => exact ⟨0, Nat.zero_le _, rfl, hown0, hb0⟩
  case round =>
    clear hown0 hb0
    obtain ⟨k, hk, rfl, hown, hbw⟩ := hrel
    by_cases hlt : k < n
    · obtain ⟨x, hx⟩ : ∃ x, xs[k]? = some x := ⟨xs[k]'(by have := HN.out; omega), List.getElem?_eq_getElem _⟩
      have hcx := (hbw.cell (by exact hb)).trans (HC.out k x hx)
      have f4 := hown.frozenAt k
      obtain ⟨v4, c4⟩ : ∃ v, wr.cell? ⟨w.heap.size, k, none⟩ = some v := by
        have hl : k < (copyV xs n k).length := by rw [hown.1]; omega
        exact ⟨_, (hown.cellAt k (by omega)).trans (List.getElem?_eq_getElem hl)⟩
      have hst := (hown.stored k (.string x)).1
      rw [copyV_step xs n k x HN.out hx] at hst
      have hbw1 : Below w.heap.size w (wr.setCell ⟨w.heap.size, k, none⟩ (.string x)) := hbw.setCell (Nat.le_refl _) _
      have e1 : (0 : Int) ≤ (k : Int) := Int.natCast_nonneg _
      have e2 : (k : Int) < (n : Int) := by omega
      clear hx hown
      go_wp2
      go_roundw
      case rel => exact ⟨k + 1, by omega, by go_num, hst, hbw1⟩
      case measure => simp [intOf]; omega
    · obtain rfl : k = n := by omega
      rw [copyV_all xs k HN.out] at hown
      go_wp2
      go_ret
      exact ⟨rfl, hown, hbw⟩
end
section
set_option linter.unusedVariables false
open Go.RowKit

set_option maxHeartbeats 1000000 in
set_option maxRecDepth 100000 in
/-- Two slices with the same texts are equal. -/
theorem cEqS (g cap g' cap' n : Nat) (xs : List ByteArray) (w : World) (hn : n = xs.length) (hbig : n ≤ 1099511627776)
    (h1 : ∀ j x, xs[j]? = some x → w.cell? ⟨g, j, none⟩ = some (.string x)) (h2 : ∀ j x, xs[j]? = some x → w.cell? ⟨g', j, none⟩ = some (.string x)) :
    Calls Tryz.prog 42 #[.slice (some ⟨g, 0, none⟩) n cap, .slice (some ⟨g', 0, none⟩) n cap'] w fun e w' => e = .returned (.bool true) ∧ ∃ m, w' = w.drewN m := by
  have HN := Lib.hid hn
  have H1 := Lib.hid h1
  have H2 := Lib.hid h2
  clear hn h1 h2
  go_enter Tryz.func42, Tryz.ntmps42
  go_wp2
  go_loopw [5] (fun i wr => ∃ j m : Nat, j ≤ n ∧ i = .int .i64 j ∧ wr = w.drewN m) (fun i _ => n - (intOf i).toNat)
  case atStart => exact ⟨0, 0, Nat.zero_le _, rfl, rfl⟩
  case round =>
    obtain ⟨j, m, hj, rfl, rfl⟩ := hrel
    by_cases hlt : j < n
    · obtain ⟨x, hx⟩ : ∃ x, xs[j]? = some x := ⟨xs[j]'(by have := HN.out; omega), List.getElem?_eq_getElem _⟩
      have c1 : w.cell? ⟨g, j, none⟩ = some (.string x) := H1.out j x hx
      have c2 : w.cell? ⟨g', j, none⟩ = some (.string x) := H2.out j x hx
      clear hx
      have e1 : (0 : Int) ≤ (j : Int) := Int.natCast_nonneg _
      have e2 : (j : Int) < (n : Int) := by omega
      go_wp2
      go_quiet (fail)
      go_wp2
      go_roundw
      case rel => exact ⟨j + 1, _, by omega, by go_num, rfl⟩
      case measure => simp [intOf]; omega
    · go_wp2
      go_ret
      exact ⟨rfl, m, rfl⟩
/-- Two slices of length 0 are equal. -/
theorem cEqS_none (A A' : Option Addr) (cap cap' : Nat) (w : World) :
    Calls Tryz.prog 42 #[.slice A 0 cap, .slice A' 0 cap'] w fun e w' => e = .returned (.bool true) ∧ w = w' := by
  go_enter Tryz.func42, Tryz.ntmps42
  go_wp2
  refine wp_loop_rounds 1 ?_
  rw [rounds_succ]
  go_wp2
  go_ret
  exact ⟨rfl, rfl⟩
end
section
set_option linter.unusedVariables false
open Go.RowKit

theorem info_str : (Tryz.prog.info? 9).map (fun i => (i.zero, i.size, i.bytes)) = some (some (.string ByteArray.empty), 1, 16) := by kernel_rfl
theorem one_cell' (w : World) (B : Nat) (u : Value) (h : w.cell? ⟨B, 0, none⟩ = some u) : ∀ (j : Nat) x, [u][j]? = some x → w.cell? ((⟨B, 0, none⟩ : Addr).add j) = some x := by
  intro j x hx
  match j, hx with
  | 0, hx => obtain rfl : u = x := by simpa using hx
             simpa [Addr.add] using h
theorem new_one (w : World) (v : Value) (t : TypeId) : (w.alloc (.cells #[v] t)).cell? ⟨w.heap.size, 0, none⟩ = some v := by
  rw [World.cell?_alloc_at _ _ _ _ rfl]; rfl
def strV (xs : List ByteArray) : List Value := xs.map Value.string
theorem strV_len (xs : List ByteArray) : (strV xs).length = xs.length := by simp [strV]
theorem strV_snoc (xs : List ByteArray) (x : ByteArray) : strV xs ++ [.string x] = strV (xs ++ [x]) := by simp [strV]
theorem strV_at (xs : List ByteArray) (j : Nat) (x : ByteArray) (h : xs[j]? = some x) : (strV xs)[j]? = some (.string x) := by simp [strV, h]

/-- No byte c of s from place a up to place i. -/
def NoSep (c : UInt8) (s : ByteArray) (a i : Nat) : Prop := ∀ j, a ≤ j → j < i → s.data.toList[j]? ≠ some c
theorem NoSep.nil (c : UInt8) (s : ByteArray) (a : Nat) : NoSep c s a a := fun j h1 h2 => by omega
theorem NoSep.step {c : UInt8} {s : ByteArray} {a i : Nat} (h : NoSep c s a i) (hi : i < s.size) (hc : s[i] ≠ c) : NoSep c s a (i + 1) := fun j h1 h2 => by
  by_cases e : j < i
  · exact h j h1 e
  · obtain rfl : j = i := by omega
    rw [List.getElem?_eq_getElem (by simpa using hi)]
    intro hh; exact hc (Option.some.inj hh)

set_option maxHeartbeats 1000000 in
set_option maxRecDepth 100000 in
theorem cSplit (c : UInt8) (n : Int) (hn : n = (c.toNat : Int)) (s : ByteArray) (w : World) (hs : s.size ≤ 1073741824) :
    Calls Tryz.prog 174 #[.string s, .int .u8 n] w fun e w' => ∃ v, e = .returned v ∧ w'.ownsRow w.heap.size 9 1 v (piecesB c s).length (strV (piecesB c s)) ∧ Below w.heap.size w w' := by
  obtain ⟨i0, hi0, hz0, hz1, hz2⟩ := info_parts info_str
  have HN := Lib.hid hn
  clear hn
  go_enter Tryz.func174, Tryz.ntmps174
  go_wp2
  go_loopw [5, 6, 7] (fun o f i wr => ∃ (k a m : Nat) (v : Value) (xs : List ByteArray), k ≤ s.size + 1 ∧ i = .int .i64 k ∧ f = .int .i64 a ∧ o = v ∧ Hid (m = xs.length) ∧ Hid ((k ≤ s.size ∧ a ≤ k ∧ m ≤ a ∧ NoSep c s a k ∧ xs ++ restB c s a = piecesB c s) ∨ (k = s.size + 1 ∧ xs = piecesB c s)) ∧
      wr.ownsRow w.heap.size 9 1 v m (strV xs) ∧ Below w.heap.size w wr) (fun _ _ i _ => s.size + 1 - (intOf i).toNat)
  case atStart =>
    exact ⟨0, 0, 0, _, [], Nat.zero_le _, rfl, rfl, rfl, Lib.hid rfl, Lib.hid (.inl ⟨Nat.zero_le _, Nat.le_refl _, Nat.le_refl _, NoSep.nil _ _ _, by rw [rest_zero]; rfl⟩), World.ownsRow_lit (e := 9) (base := w.heap.size) (size := 1) w #[] 0 (Nat.le_refl _) (by decide) rfl, (Below.refl _ _).alloc (Nat.le_refl _) _⟩
  case round =>
    obtain ⟨k, a, m, v, xs, hk, rfl, rfl, rfl, HM, HR, hown, hbw⟩ := hrel
    by_cases hlt : k ≤ s.size
    · obtain ⟨h1, h2, h3, h4, h5⟩ : k ≤ s.size ∧ a ≤ k ∧ m ≤ a ∧ NoSep c s a k ∧ xs ++ restB c s a = piecesB c s := by
        rcases HR.out with h | h
        · exact h
        · omega
      have H4 := Lib.hid h4
      have H5 := Lib.hid h5
      clear h4 h5 HR
      by_cases he : k = s.size
      · have HE := Lib.hid he
        have hd : ((k : Int) == (s.size : Int)) = true := by simp [he]
        clear he
        go_wp2_with (at_builtin; refine wpList_append_own _ rfl _ _ 38 rfl w.heap.size 9 i0 _ 1 16 Tryz.underlying38 hi0 hz0 hz1 hz2 rfl (by decide) _ _ _ rfl (hown.alloc _) ⟨wr.heap.size, 0, none⟩ 1 1 [.string (s.extract a k)] rfl rfl ?c1 ?c2 ?c3 ?c4 ?c5 ?_)
        case c1 => exact one_cell' _ _ _ (new_one _ _ _)
        case c2 => intro u hu; simp at hu; subst hu; rfl
        case c3 => unfold maxLen; omega
        case c4 => omega
        case c5 => have := hbw.size; simp; omega
        intro v' w1 hown1 hgrow1 _
        rw [strV_snoc] at hown1
        have hb1 : Below w.heap.size w w1 := (hbw.alloc hbw.size _).grown hgrow1 (by have := hbw.size; simp; omega) (fun x hx => (hown.lt x hx).1)
        go_wp2
        go_roundw
        case rel => exact ⟨k + 1, k + 1, m + 1, v', xs ++ [s.extract a k], by omega, by go_num, by go_num, rfl, Lib.hid (by rw [List.length_append, HM.out]; rfl), Lib.hid (.inr ⟨by rw [HE.out], by rw [← H5.out, rest_end c s a (by omega) (by rw [← HE.out]; exact H4.out), HE.out]⟩), hown1, hb1⟩
        case measure => simp [intOf]; omega
      · have hkl : k < s.size := by omega
        have hd : ((k : Int) == (s.size : Int)) = false := by rw [beq_eq_false_iff_ne]; omega
        clear he
        by_cases hc : s[k] = c
        · have HC := Lib.hid hc
          have hd2 : ((s[k].toNat : Int) == n) = true := by rw [HN.out, hc]; simp
          clear hc
          go_wp2_with (at_builtin; refine wpList_append_own _ rfl _ _ 38 rfl w.heap.size 9 i0 _ 1 16 Tryz.underlying38 hi0 hz0 hz1 hz2 rfl (by decide) _ _ _ rfl (hown.alloc _) ⟨wr.heap.size, 0, none⟩ 1 1 [.string (s.extract a k)] rfl rfl ?d1 ?d2 ?d3 ?d4 ?d5 ?_)
          case d1 => exact one_cell' _ _ _ (new_one _ _ _)
          case d2 => intro u hu; simp at hu; subst hu; rfl
          case d3 => unfold maxLen; omega
          case d4 => omega
          case d5 => have := hbw.size; simp; omega
          intro v' w1 hown1 hgrow1 _
          rw [strV_snoc] at hown1
          have hb1 : Below w.heap.size w w1 := (hbw.alloc hbw.size _).grown hgrow1 (by have := hbw.size; simp; omega) (fun x hx => (hown.lt x hx).1)
          go_wp2
          go_roundw
          case rel => exact ⟨k + 1, k + 1, m + 1, v', xs ++ [s.extract a k], by omega, by go_num, by go_num, rfl, Lib.hid (by rw [List.length_append, HM.out]; rfl), Lib.hid (.inl ⟨by omega, Nat.le_refl _, by omega, NoSep.nil _ _ _, by rw [← H5.out, rest_hit c s a k h2 hkl HC.out H4.out, List.append_assoc]; rfl⟩), hown1, hb1⟩
          case measure => simp [intOf]; omega
        · have HC := Lib.hid hc
          have hd2 : ((s[k].toNat : Int) == n) = false := by
            rw [HN.out, beq_eq_false_iff_ne]; intro hh; exact hc (UInt8.toNat_inj.1 (by omega))
          clear hc
          go_wp2
          go_roundw
          case rel => exact ⟨k + 1, a, m, _, xs, by omega, by go_num, rfl, rfl, HM, Lib.hid (.inl ⟨by omega, by omega, by omega, H4.out.step hkl HC.out, H5.out⟩), hown, hbw⟩
          case measure => simp [intOf]; omega
    · have hx : xs = piecesB c s := by
        rcases HR.out with h | h
        · omega
        · exact h.2
      go_wp2
      go_ret
      refine ⟨_, rfl, ?_, hbw⟩
      rw [← hx, ← HM.out]; exact hown
end
end Go.Proofs.YtglmibmjbignbaaGreatDoor
