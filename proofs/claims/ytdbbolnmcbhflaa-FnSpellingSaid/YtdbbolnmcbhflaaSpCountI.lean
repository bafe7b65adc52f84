/-
  The contract of impl.CountSpellings: the last entry of the table of the numbers of ways.
-/
import Derived.Test.YtdbbolnmcbhflaaSpCountPlain
import Derived.Test.YtdbbolnmcbhflaaSpellW
import Derived.Test.YtdbbolnmcbhflaaIter
import Derived.Test.YtdbbolnmcbhflaaDpPlain
import Derived.StillTailTactics
namespace Go.Proofs.Ytdbbolnmcbhflaa
set_option linter.unusedVariables false
open Go.RowKit

def z17 : Array Value := Array.replicate 17 (.int .i64 0)
theorem z17_size : z17.size = 17 := by simp [z17]
theorem z17_ne : ¬ z17 = #[] := by intro h; have := z17_size; rw [h] at this; simp at this
theorem z17_at (i : Nat) (h : i < 17) : z17[i]? = some (.int .i64 0) := by simp [z17, h]
theorem zero17 (w : World) : (zeroValue 45).run Try.prog w = .ok (.agg z17) w := by kernel_rfl

/-- The table after k whole entries, m starts being done for the next. -/
def TabF (xs : List ByteArray) (s : ByteArray) (k m : Nat) (cs : Array Value) : Prop :=
  cs.size = 17 ∧ (∀ j, j < k → j ≤ 16 → cs[j]? = some (.int .i64 (ways xs s j))) ∧ (k ≤ 16 → cs[k]? = some (.int .i64 (partF xs s k m))) ∧ ∀ j, k < j → j ≤ 16 → cs[j]? = some (.int .i64 0)
theorem TabF.start (xs : List ByteArray) (s : ByteArray) : TabF xs s 0 0 (z17.setIfInBounds 0 (.int .i64 1)) := by
  refine ⟨by simp [z17_size], fun j h => absurd h (by omega), fun _ => ?_, fun j h1 h2 => ?_⟩
  · rw [Array.getElem?_setIfInBounds_self_of_lt (by rw [z17_size]; omega), partF_zero]; rfl
  · rw [Array.getElem?_setIfInBounds_ne (by omega)]; exact z17_at j (by omega)
theorem TabF.next {xs : List ByteArray} {s : ByteArray} {k : Nat} {cs : Array Value} (h : TabF xs s k k cs) (hk : k ≤ 16) : TabF xs s (k + 1) 0 cs := by
  refine ⟨h.1, fun j h1 h2 => ?_, fun h1 => ?_, fun j h1 h2 => h.2.2.2 j (by omega) h2⟩
  · by_cases e : j = k
    · subst e; rw [h.2.2.1 hk, partF_full]
    · exact h.2.1 j (by omega) h2
  · rw [h.2.2.2 (k + 1) (by omega) h1, partF_zero, if_neg (by omega)]
theorem TabF.miss {xs : List ByteArray} {s : ByteArray} {k m : Nat} {cs : Array Value} (h : TabF xs s k m cs) (hm : s.extract m k ∉ xs) : TabF xs s k (m + 1) cs :=
  ⟨h.1, h.2.1, fun h1 => by rw [partF_miss xs s k m hm]; exact h.2.2.1 h1, h.2.2.2⟩
theorem TabF.hit {xs : List ByteArray} {s : ByteArray} {k m : Nat} {cs : Array Value} (h : TabF xs s k m cs) (hk : k ≤ 16) (hm : s.extract m k ∈ xs) : TabF xs s k (m + 1) (cs.setIfInBounds k (.int .i64 (partF xs s k m + ways xs s m))) := by
  refine ⟨by simp [h.1], fun j h1 h2 => ?_, fun _ => ?_, fun j h1 h2 => ?_⟩
  · rw [Array.getElem?_setIfInBounds_ne (by omega)]; exact h.2.1 j h1 h2
  · rw [Array.getElem?_setIfInBounds_self_of_lt (by rw [h.1]; omega), partF_hit xs s k m hm]
  · rw [Array.getElem?_setIfInBounds_ne (by omega)]; exact h.2.2.2 j h1 h2
def cspV (xs : List ByteArray) (s : ByteArray) : Value := if okW xs s then .tuple #[.int .i64 (ways xs s s.size), .int .i64 0] else .tuple #[.int .i64 0, .int .i64 1]
theorem cspV_yes (xs : List ByteArray) (s : ByteArray) (h : okW xs s = true) : cspV xs s = .tuple #[.int .i64 (ways xs s s.size), .int .i64 0] := by unfold cspV; rw [if_pos h]
theorem cspV_no (xs : List ByteArray) (s : ByteArray) (h : okW xs s = false) : cspV xs s = .tuple #[.int .i64 0, .int .i64 1] := by unfold cspV; rw [if_neg (by simp [h])]

theorem tCsp_bad (A : Option Addr) (n cap : Nat) (xs : List ByteArray) (s : ByteArray) (w : World) (hbig : n ≤ 1048576) (hs : ∀ x ∈ xs, x.size ≤ maxLen) (h : TextAt w w.heap.size A n xs) (hz : s.size ≤ 1048576) (hok : okW xs s = false) :
    Calls Try.prog 18 #[.slice A n cap, .string s] w fun e w' => e = .returned (cspV xs s) ∧ Below w.heap.size w w' := by
  have CA := Lib.hid (tAlphaOf A n cap xs w hbig hs h)
  have CW := Lib.hid (fun W => cIsWord_impl s W (by unfold maxLen; omega))
  rw [cspV_no xs s hok]
  unfold okW at hok
  clear h hs
  cases ha : alphaB xs
  · rw [ha] at CA
    clear hok ha
    go_enter Try.func18, Try.ntmps18
    go_wp2_with (go_at_call 36; refine (show Calls Try.prog _ _ _ (fun e w' => e = .returned (.tuple #[.map none, .bool false]) ∧ _ ∧ Below w.heap.size w w') from CA.out).mono ?_; rintro e w1 ⟨rfl, _, hb1⟩)
    go_ret2
    exact ⟨rfl, hb1⟩
  · rw [ha] at CA
    have hw : wordB s = false := by rw [ha] at hok; simpa using hok
    rw [hw] at CW
    clear hok ha hw
    go_enter Try.func18, Try.ntmps18
    go_wp2_with (first
      | (go_at_call 36; refine (show Calls Try.prog _ _ _ (fun e w' => e = .returned (.tuple #[.map (some w.heap.size), .bool true]) ∧ _ ∧ Below w.heap.size w w') from CA.out).mono ?_; rintro e w1 ⟨rfl, _, hb1⟩)
      | (go_at_call 37; refine (CW.out _).mono ?_; rintro e w' ⟨rfl, rfl⟩))
    go_ret2
    exact ⟨rfl, hb1⟩

set_option maxHeartbeats 2000000 in
set_option maxRecDepth 100000 in
theorem tCsp_ok (A : Option Addr) (n cap : Nat) (xs : List ByteArray) (s : ByteArray) (w : World) (hbig : n ≤ 1048576) (hs : ∀ x ∈ xs, x.size ≤ maxLen) (h : TextAt w w.heap.size A n xs) (hok : okW xs s = true) :
    Calls Try.prog 18 #[.slice A n cap, .string s] w fun e w' => e = .returned (cspV xs s) ∧ Below w.heap.size w w' := by
  have CA := Lib.hid (tAlphaOf A n cap xs w hbig hs h)
  have ha : alphaB xs = true := by unfold okW at hok; rw [Bool.and_eq_true] at hok; exact hok.1
  have hw : wordB s = true := by unfold okW at hok; rw [Bool.and_eq_true] at hok; exact hok.2
  have hs16 := (word_size s hw).2
  have CW := Lib.hid (fun W => cIsWord_impl s W (by unfold maxLen; omega))
  have HV := Lib.hid (cspV_yes xs s hok)
  rw [ha] at CA
  rw [hw] at CW
  clear h hs hok ha hw
  go_enter Try.func18, Try.ntmps18
  go_wp2_with fail
  refine (show Calls Try.prog _ _ _ (fun e w' => e = .returned (.tuple #[.map (some w.heap.size), .bool true]) ∧ (True → Dict w' w.heap.size xs) ∧ Below w.heap.size w w') from CA.out).mono ?_
  rintro e w1 ⟨rfl, hD0, hb1⟩
  have hD := hD0 trivial
  have hmb : w.heap.size < w1.heap.size := hD.lt
  obtain ⟨g, hg⟩ : ∃ g, g = w1.heap.size := ⟨_, rfl⟩
  have tab0 : TabAt (w1.alloc (.cells z17 45)) g 45 z17 := by rw [hg]; exact TabAt.new w1 _ _
  have tab1 : TabAt (w1.alloc (.cells (z17.setIfInBounds 0 (.int .i64 1)) 45)) g 45 (z17.setIfInBounds 0 (.int .i64 1)) := by rw [hg]; exact TabAt.new w1 _ _
  have dict1 : Dict (w1.alloc (.cells (z17.setIfInBounds 0 (.int .i64 1)) 45)) w.heap.size xs := hD.alloc _
  have bel1 : Below w.heap.size w (w1.alloc (.cells (z17.setIfInBounds 0 (.int .i64 1)) 45)) := hb1.alloc hb1.size _
  have f0 := tab0.frozen 0
  have c0 : (w1.alloc (.cells z17 45)).cell? ⟨g, 0, none⟩ = some (.int .i64 0) := (tab0.cell 0).trans (z17_at 0 (by omega))
  have hgw : w.heap.size ≤ g := by omega
  have hgn : w.heap.size ≠ g := by omega
  have T1 := Lib.hid tab1
  have D1 := Lib.hid dict1
  have B1 := Lib.hid bel1
  have HG := Lib.hid hg
  rw [hg] at f0 c0
  clear hD0 hD tab0 tab1 dict1 bel1 hg
  have hz := zero17
  have hne := z17_ne
  go_wp2_with fail
  refine (CW.out _).mono ?_
  rintro e w' ⟨rfl, rfl⟩
  go_wp2
  clear hz hne f0 c0
  rw [← HG.out]
  go_loopw [29] (fun i wr => ∃ (k : Nat) (cs : Array Value), k ≤ s.size + 1 ∧ i = .int .i64 k ∧ Hid (TabAt wr g 45 cs) ∧ Hid (TabF xs s k 0 cs) ∧ Hid (Dict wr w.heap.size xs) ∧ Hid (Below w.heap.size w wr)) (fun i _ => s.size + 1 - (intOf i).toNat)
  case atStart => exact ⟨0, _, Nat.zero_le _, rfl, T1, Lib.hid (TabF.start xs s), D1, B1⟩
  case round =>
    obtain ⟨k, cs, hk, rfl, HT, HO, HD, HB⟩ := hrel
    clear T1 D1 B1
    obtain ⟨wo, rfl⟩ : ∃ wo : World, wo = wr := ⟨_, rfl⟩
    by_cases hlt : k ≤ s.size
    · go_wp2
      go_loopw [33] (fun i wr => ∃ (m : Nat) (cs : Array Value), m ≤ k ∧ i = .int .i64 m ∧ Hid (TabAt wr g 45 cs) ∧ Hid (TabF xs s k m cs) ∧ Hid (Dict wr w.heap.size xs) ∧ Hid (Below w.heap.size w wr)) (fun i _ => k - (intOf i).toNat)
      case atStart => exact ⟨0, cs, Nat.zero_le _, rfl, HT, HO, HD, HB⟩
      case round =>
        clear HT HO HD HB
        obtain ⟨m, cs, hm, rfl, HT, HO, HD, HB⟩ := hrel
        by_cases hlt2 : m < k
        · have hes : (s.extract m k).size = k - m := ext_size s m k hlt
          have hl := HD.out.look (s.extract m k) (by unfold maxLen; omega)
          clear hes
          by_cases hin : s.extract m k ∈ xs
          · rw [decide_eq_true hin] at hl
            have c1 : wr.cell? ⟨g, k, none⟩ = some (.int .i64 (partF xs s k m)) := (HT.out.cell _).trans (HO.out.2.2.1 (by omega))
            have c2 : wr.cell? ⟨g, m, none⟩ = some (.int .i64 (ways xs s m)) := (HT.out.cell _).trans (HO.out.2.1 m hlt2 (by omega))
            have f1 := HT.out.frozen k
            have b1 := partF_bd xs s k m (by omega)
            have b2 := ways_small xs s m (by omega)
            have HN := Lib.hid (HO.out.hit (by omega) hin)
            have HT2 := Lib.hid (HT.out.set k (.int .i64 (partF xs s k m + ways xs s m)))
            clear hin
            obtain ⟨p, hp⟩ : ∃ p, p = partF xs s k m := ⟨_, rfl⟩
            obtain ⟨q, hq⟩ : ∃ q, q = ways xs s m := ⟨_, rfl⟩
            rw [← hp] at c1 b1
            rw [← hq] at c2 b2
            rw [← hp, ← hq] at HN HT2
            clear hp hq
            go_wp2
            go_region
            go_wp2
            go_roundw
            case rel => exact ⟨m + 1, _, by omega, by go_num, HT2, HN, Lib.hid (HD.out.blk (w' := (wr.setCell ⟨g, k, none⟩ (.int .i64 (p + q))).drew) (Below.heap_setCell _ _ _ _ hgn)), Lib.hid (Below.drew (HB.out.setCell (by exact hgw) _))⟩
            case measure => simp [intOf]; omega
          · rw [decide_eq_false hin] at hl
            have HN := Lib.hid (HO.out.miss hin)
            clear hin
            go_wp2
            go_roundw
            case rel => exact ⟨m + 1, cs, by omega, by go_num, HT, HN, HD, HB⟩
            case measure => simp [intOf]; omega
        · obtain rfl : m = k := by omega
          go_wp2
          go_roundw
          case rel => exact ⟨m + 1, cs, by omega, by go_num, HT, Lib.hid (HO.out.next (by omega)), HD, HB⟩
          case measure => simp [intOf]; omega
    · obtain rfl : k = s.size + 1 := by omega
      have c1 : wo.cell? ⟨g, s.size, none⟩ = some (.int .i64 (ways xs s s.size)) := (HT.out.cell _).trans (HO.out.2.1 s.size (by omega) hs16)
      go_wp2
      go_ret2
      exact ⟨by rw [HV.out]; rfl, HB.out⟩
end Go.Proofs.Ytdbbolnmcbhflaa
