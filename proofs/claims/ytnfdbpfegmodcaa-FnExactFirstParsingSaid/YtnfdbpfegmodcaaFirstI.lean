/-
  The contract of impl.FirstParsing, with its closure and slices.IndexFunc at it.
-/
import Derived.Test.YtnfdbpfegmodcaaCntP
import Derived.Test.YtnfdbpfegmodcaaFirstPlain
import Derived.Test.YtnfdbpfegmodcaaRowLaw
namespace Go.Proofs.Ytnfdbpfegmodcaa
set_option linter.unusedVariables false
open Go.RowKit

theorem good_no {rs : List ByteArray} {t : List UInt8} {k : Nat} {r : ByteArray} (h : fitR r (restL t k) = false) : goodP rs t k r = false := by unfold goodP; rw [h]; rfl
theorem good_is {rs : List ByteArray} {t : List UInt8} {k : Nat} {r : ByteArray} (h : fitR r (restL t k) = true) : goodP rs t k r = decide (0 < cntW rs t (k - r.size)) := by unfold goodP; rw [h]; rfl

set_option maxHeartbeats 1000000 in
theorem cFirstFn (A : Option Addr) (n c pr pc k N : Nat) (p t : ByteArray) (rs : List ByteArray) (u : List UInt8) (w : World) (hp : p.size ≤ maxLen) (hN : N ≤ 48) (hk : k ≤ N) (ht1 : t.size = k) (ht2 : t.data.toList = restL u k) (hu : u.length = N)
    (hr : w.cell? ⟨pr, 0, none⟩ = some (.string t)) (hc : TabAt w pc 94 (cntC (cntW rs u) (N + 1) 0)) (hl : pr < w.heap.size) :
    Calls Try.prog 90 #[.agg #[.slice A n c, .string p], .pointer (some ⟨pr, 0, none⟩), .pointer (some ⟨pc, 0, none⟩)] w fun e w' => e = .returned (.bool (goodP rs u k p)) ∧ Below w.heap.size w w' := by
  have B0 := alloc_below w (.cells #[.slice A n c, .string p] 35)
  have P0 := PairAt.new w (.slice A n c) (.string p) 35
  have k1 := (B0.cell (p := ⟨pr, 0, none⟩) hl).trans hr
  have CC := Lib.hid (fun W => cCutFrom A n c t p W (by unfold maxLen; omega) hp)
  have HC := Lib.hid (hc.below B0)
  have HB := Lib.hid B0
  have HT2 := Lib.hid ht2
  have HT1 := Lib.hid ht1
  obtain ⟨f, hf⟩ : ∃ f, f = cntW rs u := ⟨_, rfl⟩
  rw [← hf] at HC
  have HF := Lib.hid hf
  clear hc hr B0 ht2 hf ht1
  go_enter Try.func90, Try.ntmps90
  go_wp2_with fail
  refine (CC.out _).mono ?_
  rintro e w1 ⟨hb1, hcase⟩
  have HC1 := Lib.hid (HC.out.below hb1)
  have HB1 := Lib.hid (HB.out.trans (hb1.mono HB.out.size))
  clear HC HB hb1 P0 k1
  rcases hcase with ⟨hfit, rfl⟩ | ⟨hfit, v, rfl⟩
  · rw [HT2.out] at hfit
    have hle := (fit_le hfit).2.1
    rw [restL_len (by omega)] at hle
    obtain ⟨m, hm⟩ : ∃ m, (t.extract p.size t.size).size = m := ⟨_, rfl⟩
    have hmk : m = k - p.size := by rw [← hm, ext_len _ _ _ (Nat.le_refl _), HT1.out]
    have hg := good_is (rs := rs) hfit
    rw [← hmk, ← HF.out] at hg
    have HG := Lib.hid hg
    have c2 : w1.cell? ⟨pc, m, none⟩ = some (.int .i64 (f m)) := (HC1.out.cell _).trans (cntC_lt (by omega) (by omega))
    have e1 : m < 49 := by omega
    clear hfit hle hmk hg
    by_cases hpos : 0 < f m
    · have HX : Hid (goodP rs u k p = true) := Lib.hid (by rw [HG.out, decide_eq_true hpos])
      go_wp2_with fail
      go_ret
      exact ⟨ret_bool HX.out.symm, HB1.out⟩
    · go_wp2_with fail
      go_ret
      exact ⟨ret_bool HG.out.symm, HB1.out⟩
  · rw [HT2.out] at hfit
    have HX := Lib.hid (good_no (rs := rs) hfit)
    clear hfit
    go_wp2_with fail
    go_ret
    exact ⟨ret_bool HX.out.symm, HB1.out⟩

/-- Of the first j rules none is good. -/
def noneP (rs : List ByteArray) (u : List UInt8) (k i : Nat) : Prop := ∀ j q, j < i → rs[j]? = some q → goodP rs u k q = false
theorem noneP_step {rs : List ByteArray} {u : List UInt8} {k i : Nat} {r : ByteArray} (h : noneP rs u k i) (hi : rs[i]? = some r) (hg : goodP rs u k r = false) : noneP rs u k (i + 1) := by
  intro j q hj hq
  rcases Nat.lt_or_ge j i with h1 | h1
  · exact h j q h1 hq
  · obtain rfl : j = i := by omega
    rw [hi] at hq; cases hq; exact hg
theorem noneP_end {rs : List ByteArray} {u : List UInt8} {k : Nat} (h : noneP rs u k rs.length) (h0 : 0 < k) (hk : k ≤ u.length) (hc : 0 < cntW rs u k) : False := by
  obtain ⟨r, hr, hg⟩ := good_some h0 hk hc
  obtain ⟨j, hj, he⟩ := List.getElem_of_mem hr
  have := h j r hj (by rw [List.getElem?_eq_getElem hj, he])
  rw [hg] at this; cases this
def IdxRPost (rs : List ByteArray) (u : List UInt8) (k : Nat) (w : World) (e : Ending) (w' : World) : Prop :=
  Below w.heap.size w w' ∧ ∃ (i : Nat) (r : ByteArray), e = .returned (.int .i64 (i : Int)) ∧ rs[i]? = some r ∧ goodP rs u k r = true ∧ noneP rs u k i
set_option maxHeartbeats 1000000 in
set_option maxRecDepth 100000 in
theorem cIdxR (A : Option Addr) (n c pr pc k N : Nat) (t : ByteArray) (rs : List Ru) (u : List UInt8) (w : World) (hb : n ≤ maxLen) (hN : N ≤ 48) (h0 : 0 < k) (hk : k ≤ N) (ht1 : t.size = k) (ht2 : t.data.toList = restL u k) (hu : u.length = N)
    (hpos : 0 < cntW (roms rs) u k) (h : RulesAt w w.heap.size A n rs) (hr : w.cell? ⟨pr, 0, none⟩ = some (.string t)) (hc : TabAt w pc 94 (cntC (cntW (roms rs) u) (N + 1) 0)) (hl : pr < w.heap.size) :
    Calls Try.prog 89 #[.slice A n c, .func (.func 90) #[] #[.pointer (some ⟨pr, 0, none⟩), .pointer (some ⟨pc, 0, none⟩)]] w (IdxRPost (roms rs) u k w) := by
  unfold maxLen at hb
  have HL := Lib.hid h.1
  have H := Lib.hid h
  have HR := Lib.hid hr
  have HC := Lib.hid hc
  have HT2 := Lib.hid ht2
  have HU := Lib.hid hu
  have HP := Lib.hid hpos
  clear h hr hc ht2 hu hpos
  go_enter Try.func89, Try.ntmps89
  go_wp2
  go_loopw [8] (fun i wr => ∃ j : Nat, j ≤ n ∧ i = .int .i64 j ∧ Hid (noneP (roms rs) u k j) ∧ Hid (Below w.heap.size w wr)) (fun i _ => n - (intOf i).toNat)
  case atStart => exact ⟨0, Nat.zero_le _, rfl, Lib.hid (fun j q hj _ => by omega), Lib.hid (Below.refl _ _)⟩
  case round =>
    obtain ⟨j, hj, rfl, HA, HB⟩ := hrel
    by_cases hlt : j < n
    · obtain ⟨q, hq⟩ : ∃ q, rs[j]? = some q := ⟨rs[j]'(by have := HL.out; omega), List.getElem?_eq_getElem _⟩
      obtain ⟨b, o, rfl, hbl, A1, n1, c1, k0, k1, k2, k3, k4⟩ := (H.out.below HB.out (Nat.le_refl _)).row hq
      have CF := Lib.hid (cFirstFn A1 n1 c1 pr pc k N q.2 t (roms rs) u wr k4 hN hk ht1 HT2.out HU.out ((HB.out.cell (p := ⟨pr, 0, none⟩) hl).trans HR.out) ((HB.out.block pc HC.out.lt).trans HC.out) (Nat.lt_of_lt_of_le hl HB.out.size))
      have HQ := Lib.hid (roms_at hq)
      clear hq k2 k3 k4
      cases hg : goodP (roms rs) u k q.2
      · rw [hg] at CF
        have HA2 := Lib.hid (noneP_step HA.out HQ.out hg)
        clear hg
        go_wp2_with (go_at_call 90; refine CF.out.mono ?_; rintro e w' ⟨rfl, hb1⟩)
        go_roundw
        case rel => exact ⟨j + 1, by omega, by go_num, HA2, Lib.hid (HB.out.trans (hb1.mono HB.out.size))⟩
        case measure => simp [intOf]; omega
      · rw [hg] at CF
        have HG := Lib.hid hg
        clear hg
        go_wp2_with (go_at_call 90; refine CF.out.mono ?_; rintro e w' ⟨rfl, hb1⟩)
        go_ret
        exact ⟨HB.out.trans (hb1.mono HB.out.size), j, q.2, rfl, HQ.out, HG.out, HA.out⟩
    · exact (noneP_end (by have := HA.out; rwa [show j = (roms rs).length from by rw [roms_len, ← HL.out]; omega] at this) h0 (by rw [HU.out]; exact hk) HP.out).elim

/-- What FirstParsing gives. -/
def fstZ (rs : List Ru) (s : ByteArray) : List Int := if ok5 rs s && decide (numP rs s ≠ 0) then firstP (roms rs) s.data.toList s.size else []
def fstE (rs : List Ru) (s : ByteArray) : Int := if ok5 rs s then (if numP rs s = 0 then 4 else 0) else 1
theorem fst_bad {rs : List Ru} {s : ByteArray} (h : ok5 rs s = false) : fstZ rs s = [] ∧ fstE rs s = 1 := by unfold fstZ fstE; rw [h]; exact ⟨rfl, rfl⟩
theorem fst_none {rs : List Ru} {s : ByteArray} (h : ok5 rs s = true) (h0 : numP rs s = 0) : fstZ rs s = [] ∧ fstE rs s = 4 := by
  unfold fstZ fstE; rw [h, h0]; exact ⟨rfl, rfl⟩
theorem fst_some {rs : List Ru} {s : ByteArray} (h : ok5 rs s = true) (h0 : numP rs s ≠ 0) : fstZ rs s = firstP (roms rs) s.data.toList s.size ∧ fstE rs s = 0 := by
  unfold fstZ fstE; rw [h, decide_eq_true h0, if_neg h0]; exact ⟨rfl, rfl⟩
theorem fstZ_len (rs : List Ru) (s : ByteArray) : (fstZ rs s).length ≤ 48 := by
  cases h : ok5 rs s
  · rw [(fst_bad h).1]; exact Nat.zero_le _
  · by_cases h0 : numP rs s = 0
    · rw [(fst_none h h0).1]; exact Nat.zero_le _
    · rw [(fst_some h h0).1]
      exact Nat.le_trans (firstP_len _ _ _ _ (Nat.le_refl _)) (okT_len (ok5_text h))
end Go.Proofs.Ytnfdbpfegmodcaa
