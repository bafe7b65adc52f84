/-
  impl.alphabet.spell: the iterator that yields each letter's index and what is left behind it.
-/
import Derived.RangeFuncNested
import Derived.RangeFuncBound
import Derived.RangeFuncCalls
import Derived.RangeFuncLeaves
import Derived.RangeFuncBox
import Derived.Shelf.Abstract
import Derived.Shelf.RegionOpen
import Derived.OwnWalkIn
import Derived.TacticsInMore
import Derived.LoopNIn
import Derived.LoopIn
import Derived.Test.YtdbbolnmcbhflaaSpellW
import Derived.Test.YtdbbolnmcbhflaaLongest
namespace Go.Proofs.Ytdbbolnmcbhflaa
set_option linter.unusedVariables false
open Go.RowKit Go.Shelf
attribute [local go_sem] Oper.semAt_some

theorem cSpellMake (mb : Nat) (s : ByteArray) (w : World) :
    Calls Try.prog 56 #[.map (some mb), .string s] w fun e w' =>
      e = .returned (.func (.func 62) #[] #[.pointer (some ⟨w.heap.size + 1, 0, none⟩), .pointer (some ⟨w.heap.size, 0, none⟩)]) ∧ w' = (w.alloc (.cells #[.map (some mb)] 55)).alloc (.cells #[.string s] 9) := by
  go_enter Try.func56, Try.ntmps56
  go_wp2
  go_ret
  exact ⟨rfl, rfl⟩

theorem Dict.blk {w w' : World} {b : Nat} {xs : List ByteArray} (h : Dict w b xs) (he : w'.heap[b]? = w.heap[b]?) : Dict w' b xs := by
  obtain ⟨D, ⟨es, clock, h1, h2⟩, h3⟩ := h
  exact ⟨D, ⟨es, clock, he.trans h1, h2⟩, h3⟩

/-- What a round keeps: all below n₀, and the blocks mb and Bk. -/
def KeepY (n₀ mb Bk : Nat) (W W' : World) : Prop := Below n₀ W W' ∧ W'.heap[mb]? = W.heap[mb]? ∧ W'.heap[Bk]? = W.heap[Bk]?
theorem KeepY.refl (n₀ mb Bk : Nat) (W : World) : KeepY n₀ mb Bk W W := ⟨Below.refl _ _, rfl, rfl⟩
theorem KeepY.trans {n₀ mb Bk : Nat} {A B C : World} (h : KeepY n₀ mb Bk A B) (k : KeepY n₀ mb Bk B C) : KeepY n₀ mb Bk A C := ⟨h.1.trans k.1, k.2.1.trans h.2.1, k.2.2.trans h.2.2⟩
theorem cell_of_block {w w' : World} {b : Nat} (he : w'.heap[b]? = w.heap[b]?) (o : Nat) : w'.cell? ⟨b, o, none⟩ = w.cell? ⟨b, o, none⟩ := by
  simp only [World.cell?, he]

abbrev encsY (x : Int × ByteArray) : Array Value := #[.int .i64 x.1, .string x.2]

set_option maxRecDepth 100000 in
set_option maxHeartbeats 1000000 in
theorem spell1_in (n : Nat) (hn : 1 ≤ n) (l Bs Bk n₀ mb : Nat) (xs : List ByteArray) (s : ByteArray) (hs : s.size ≤ 1048576) (J Jx : List (Int × ByteArray) → World → Prop)
    (hY : ∀ pre x W, J pre W → pre.length < (seqL xs s).length → YieldAt Fence.wide (n - 1) Try.prog l (encsY x) W fun e W' =>
      (e = .returned (.bool true) ∧ J (pre ++ [x]) W' ∧ KeepY n₀ mb Bk W W') ∨ (e = .returned (.bool false) ∧ Jx (pre ++ [x]) W'))
    (W : World) (hBs : W.cell? ⟨Bs, 0, none⟩ = some (.string s)) (hBk : W.cell? ⟨Bk, 0, none⟩ = some (.map (some mb))) (hD : Dict W mb xs) (h0 : J [] W) :
    CallsIn Fence.wide n Try.prog 62 #[.func (.yield l) #[] #[], .pointer (some ⟨Bs, 0, none⟩), .pointer (some ⟨Bk, 0, none⟩)] W fun e W' => (∃ v, e = .returned v) ∧
      ((∃ ys, ys = seqL xs s ∧ J ys W') ∨ (∃ pre, pre <+: seqL xs s ∧ Jx pre W')) := by
  have HD := Lib.hid hD
  have HY := Lib.hid hY
  have H0 := Lib.hid h0
  clear hD hY h0
  refine callsIn_of_wp Try.func62 rfl trivial ?_ rfl
  simp only [Try.ntmps62, List.size_toArray, List.length_cons, List.length_nil, Nat.reduceAdd, Nat.reduceSub, Array.replicate_succ, Array.replicate_zero, List.push_toArray, List.append_toArray, List.nil_append, List.cons_append]
  gi_wp2
  gi_loopw [4] (fun p wr => ∃ (pre : List (Int × ByteArray)) (cur : ByteArray), p = .string cur ∧ cur.size ≤ 1048576 ∧ Hid (seqL xs s = pre ++ seqL xs cur) ∧ Hid (J pre wr) ∧ Hid (KeepY n₀ mb Bk W wr))
    (fun p _ => strSz p)
  case atStart =>
    exact ⟨[], s, rfl, hs, Lib.hid rfl, H0, Lib.hid (KeepY.refl _ _ _ _)⟩
  case round =>
    obtain ⟨pre, cur, rfl, hcs, HX, HJ, HB⟩ := hrel
    have hbk : wr.cell? ⟨Bk, 0, none⟩ = some (.map (some mb)) := (cell_of_block HB.out.2.2 0).trans hBk
    have HDr : Hid (Dict wr mb xs) := Lib.hid (HD.out.blk HB.out.2.1)
    have CL := Lib.hid (cLongest mb xs cur wr (by unfold maxLen; omega) HDr.out)
    by_cases he : cur.size = 0
    · have hd : cur.toList.isEmpty = true := by rw [empty_is]; exact decide_eq_true he
      have HE := Lib.hid he
      clear he
      gi_wp2
      go_end0
      refine ⟨⟨_, rfl⟩, .inl ⟨_, rfl, ?_⟩⟩
      have hx := HX.out
      rw [seqL_stop xs cur (by have := nextN_le xs cur; have := HE.out; omega), List.append_nil] at hx
      rw [hx]; exact HJ.out
    · have hd : cur.toList.isEmpty = false := by rw [empty_is]; exact decide_eq_false he
      rcases Nat.eq_zero_or_pos (nextN xs cur) with hz | hz
      · rw [longV_no xs cur hz] at CL
        have HZ := Lib.hid (seqL_stop xs cur hz)
        clear hz he
        gi_wp2_with (refine ⟨trivial, ?_⟩; gi_at_call 63; refine (callsIn_wide.2 CL.out).mono ?_; rintro e w' ⟨rfl, rfl⟩)
        refine bodyPost_ret (results_none rfl _ _ _) rfl ?_
        refine ⟨⟨_, rfl⟩, .inl ⟨_, rfl, ?_⟩⟩
        have hx := HX.out
        rw [HZ.out, List.append_nil] at hx
        rw [hx]; exact HJ.out
      · rw [longV_yes xs cur hz] at CL
        have hle := nextN_le xs cur
        have hle1 := hle.1
        have hle2 := hle.2
        have hlen := letter_len xs cur
        have hrs := rest_size xs cur
        have HST := Lib.hid (seqL_step xs cur hz)
        have hl0 := HDr.out.look0 (letterL xs cur) (by unfold maxLen; omega)
        have HR : Hid (restN xs cur = cur.extract (nextN xs cur) cur.size) := Lib.hid rfl
        obtain ⟨y, hy⟩ : ∃ y, y = letterL xs cur := ⟨_, rfl⟩
        obtain ⟨rst, hrst⟩ : ∃ rst, rst = restN xs cur := ⟨_, rfl⟩
        obtain ⟨q, hq⟩ : ∃ q, q = lookI xs (letterL xs cur) := ⟨_, rfl⟩
        rw [← hq, ← hrst] at HST
        rw [← hq, ← hy] at hl0
        rw [← hy] at CL hlen
        rw [← hrst] at HR hrs
        obtain ⟨L, hL⟩ : ∃ L, L = nextN xs cur := ⟨_, rfl⟩
        rw [← hL] at hle1 hle2 hlen hrs hz HR
        obtain ⟨fn, tmps, assign, body, hy1, hR⟩ := HY.out pre (q, rst) wr HJ.out (by rw [HX.out, HST.out]; simp)
        dsimp only [encsY] at hy1
        rw [HR.out] at hy1
        have HLEN := Lib.hid hlen
        have hlI : (y.size : Int) = (L : Int) := by rw [HLEN.out]
        have HRR : Hid (cur.extract L cur.size = rst) := Lib.hid HR.out.symm
        clear hle hy hrst hq hL he hlen
        gi_wp2_with (refine ⟨trivial, ?_⟩; gi_at_call 63; refine (callsIn_wide.2 CL.out).mono ?_; rintro e w' ⟨rfl, rfl⟩)
        refine hR.mono ?_
        rintro e W3 (⟨rfl, hJ3, hk3⟩ | ⟨rfl, hJx3⟩)
        · have HJ3 := Lib.hid hJ3
          have HB3 := Lib.hid (HB.out.trans hk3)
          have HX3 : Hid (seqL xs s = (pre ++ [(q, rst)]) ++ seqL xs rst) := Lib.hid (by rw [HX.out, HST.out, List.append_assoc]; rfl)
          have hrz : rst.size ≤ 1048576 := by omega
          have hrl : rst.size < cur.size := by omega
          rw [HR.out] at hrz hrl
          clear hJ3 hk3 HB HJ HX hR
          gi_wp2
          go_roundw
          case rel => exact ⟨pre ++ [(q, rst)], _, rfl, hrz, by rw [HR.out] at HX3 ⊢; exact HX3, HJ3, HB3⟩
          case measure => simp only [strSz]; exact hrl
        · gi_wp2
          refine bodyPost_ret (results_none rfl _ _ _) rfl ?_
          exact ⟨⟨_, rfl⟩, .inr ⟨pre ++ [(q, rst)], ⟨seqL xs rst, by rw [HX.out, HST.out, List.append_assoc]; rfl⟩, hJx3⟩⟩

theorem spell_stops (n : Nat) (hn : 1 ≤ n) (Bs Bk n₀ mb : Nat) (xs : List ByteArray) (s : ByteArray) (hs : s.size ≤ 1048576) (w : World) (hBsl : Bs < w.heap.size) (hBkl : Bk < w.heap.size)
    (hBs : w.cell? ⟨Bs, 0, none⟩ = some (.string s)) (hBk : w.cell? ⟨Bk, 0, none⟩ = some (.map (some mb))) (hD : Dict w mb xs) :
    SeqStopsK Fence.wide n Try.prog 62 #[.pointer (some ⟨Bs, 0, none⟩), .pointer (some ⟨Bk, 0, none⟩)] encsY (KeepY n₀ mb Bk) (fun ys => ys = seqL xs s) (fun pre => pre <+: seqL xs s) (seqL xs s).length w := fun l J Jx W hW _ _ hY h0 =>
  spell1_in n hn l Bs Bk n₀ mb xs s hs J Jx hY W ((hW.cell (p := ⟨Bs, 0, none⟩) hBsl).trans hBs) ((hW.cell (p := ⟨Bk, 0, none⟩) hBkl).trans hBk) (hD.blk (hW.block mb hD.lt)) h0
end Go.Proofs.Ytdbbolnmcbhflaa
