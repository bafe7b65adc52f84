/-
  The contracts of spec.l03Spell, spec.l03Code, spec.SpellWord and spec.CanWrite.
-/
import Derived.Test.YtdbbolnmcbhflaaNextS
import Derived.Test.YtdbbolnmcbhflaaNumAt
import Derived.Test.YtdbbolnmcbhflaaTexts
namespace Go.Proofs.Ytdbbolnmcbhflaa
set_option linter.unusedVariables false
open Go.RowKit

def strSz : Value → Nat
  | .string t => t.size
  | _ => 0
theorem empty_is (s : ByteArray) : s.toList.isEmpty = decide (s.size = 0) := by
  rw [ByteArray.toList_eq]
  have h : s.data.toList.length = s.size := size_list s
  cases hl : s.data.toList with
  | nil => rw [hl, List.length_nil] at h; rw [decide_eq_true h.symm]; rfl
  | cons a l => rw [hl, List.length_cons] at h; rw [decide_eq_false (by omega)]; rfl
theorem nextI_at (xs : List ByteArray) (s : ByteArray) (h : 0 < nextN xs s) : ∃ q : Nat, lookI xs (letterL xs s) = (q : Int) ∧ nextI xs s = (q : Int) ∧ q < xs.length ∧ xs[q]? = some (letterL xs s) := by
  have hm : letterL xs s ∈ xs := nextN_in xs s h
  have hp := pos_lt xs _ hm
  refine ⟨posL xs (letterL xs s), ?_, ?_, hp.1, hp.2⟩
  · unfold lookI; rw [if_pos hm]
  · unfold nextI lookI; rw [if_pos h, if_pos hm]

def SpellPost (xs : List ByteArray) (s : ByteArray) (w : World) (code : Value) (bad : Value) (e : Ending) (w' : World) : Prop :=
  (spellsB xs s = false ∧ e = .returned (.tuple #[.slice none 0 0, bad]) ∧ Below w.heap.size w w') ∨
  (spellsB xs s = true ∧ ∃ v, e = .returned (.tuple #[v, code]) ∧ w'.ownsRow w.heap.size 2 1 v (idxL xs s).length (intV (idxL xs s)) ∧ Below w.heap.size w w')

set_option maxHeartbeats 1000000 in
set_option maxRecDepth 100000 in
theorem cSpellS (b o c n : Nat) (xs : List ByteArray) (s : ByteArray) (w : World) (hn : n = xs.length) (hg : goodB xs = true) (hbig : n ≤ 40) (hs : s.size ≤ 1048576) (hb : b < w.heap.size)
    (hc : ∀ (j : Nat) x, xs[j]? = some x → w.cell? ⟨b, o + j, none⟩ = some (.string x)) :
    Calls Try.prog 40 #[.slice (some ⟨b, o, none⟩) n c, .string s] w (SpellPost xs s w (.bool true) (.bool false)) := by
  obtain ⟨i0, hi0, hz0, hz1, hz2⟩ := info_parts info_i64
  have HN := Lib.hid hn
  have HC := Lib.hid hc
  have HG := Lib.hid hg
  clear hn hc hg
  go_enter Try.func40, Try.ntmps40
  go_wp2
  go_loopw [1, 6] (fun cv ov wr => ∃ (cur : ByteArray) (v : Value) (pre : List Int) (m : Nat), cv = .string cur ∧ ov = v ∧ Hid (m = pre.length) ∧ Hid (pre ++ idxL xs cur = idxL xs s) ∧ Hid (spellsB xs cur = spellsB xs s) ∧ m + cur.size ≤ s.size ∧
      wr.ownsRow w.heap.size 2 1 v m (intV pre) ∧ Below w.heap.size w wr) (fun cv _ _ => strSz cv)
  case atStart => exact ⟨s, _, [], 0, rfl, rfl, Lib.hid rfl, Lib.hid rfl, Lib.hid rfl, by omega, World.ownsRow_lit (e := 2) (base := w.heap.size) (size := 1) w #[] 0 (Nat.le_refl _) (by decide) rfl, (Below.refl _ _).alloc (Nat.le_refl _) _⟩
  case round =>
    obtain ⟨cur, v, pre, m, rfl, rfl, HM, HI, HS, hms, hown, hbw⟩ := hrel
    by_cases he : cur.size = 0
    · have hd : cur.toList.isEmpty = true := by rw [empty_is]; exact decide_eq_true he
      have HE := Lib.hid he
      clear he
      go_wp2
      go_ret2
      have hI := HI.out
      rw [idx_end xs cur HE.out, List.append_nil] at hI
      refine .inr ⟨by rw [← HS.out]; exact spells_end xs cur HE.out, _, rfl, ?_, hbw⟩
      rw [← hI, ← HM.out]; exact hown
    · have hd : cur.toList.isEmpty = false := by rw [empty_is]; exact decide_eq_false he
      have CN := Lib.hid (cNextS b o c n xs cur wr HN.out HG.out hbig (by unfold maxLen; omega) (fun j x hx => (hbw.cell (by exact hb)).trans (HC.out j x hx)))
      rcases Nat.eq_zero_or_pos (nextN xs cur) with h0 | h0
      · rw [show nextI xs cur = -1 from by unfold nextI; rw [if_neg (by omega)]] at CN
        have HF := Lib.hid (spells_stop xs cur h0 (by omega))
        clear h0 he
        go_wp2_with (go_at_call 58; refine CN.out.mono ?_; rintro e w1 ⟨rfl, mm, rfl⟩)
        go_ret2
        exact .inl ⟨by rw [← HS.out]; exact HF.out, rfl, below_drN hbw mm⟩
      · obtain ⟨q, hq1, hq2, hq3, hq4⟩ := nextI_at xs cur h0
        rw [hq2] at CN
        have hle := nextN_le xs cur
        have hle1 := hle.1
        have hle2 := hle.2
        have hqn : q < n := by have := HN.out; omega
        have hcq := (hbw.cell (by exact hb)).trans (HC.out q _ hq4)
        have hlen := letter_len xs cur
        have hrs := rest_size xs cur
        have HST := Lib.hid (spells_step xs cur h0)
        have HIS := Lib.hid (idx_step xs cur h0)
        have HQ := Lib.hid hq1
        have HR : Hid (restN xs cur = cur.extract (nextN xs cur) cur.size) := Lib.hid rfl
        obtain ⟨y, hy⟩ : ∃ y, y = letterL xs cur := ⟨_, rfl⟩
        rw [← hy] at hcq hlen
        have HY := Lib.hid hy
        obtain ⟨rst, hrst⟩ : ∃ rst, rst = restN xs cur := ⟨_, rfl⟩
        rw [← hrst] at HR hrs
        have HRS := Lib.hid hrst
        obtain ⟨L, hL⟩ : ∃ L, L = nextN xs cur := ⟨_, rfl⟩
        rw [← hL] at hle1 hle2 hlen hrs h0 HR
        have HLEN := Lib.hid hlen
        clear hle hq1 hq2 hq3 hq4 hy hrst hL he hlen
        have e1 : (0 : Int) ≤ (q : Int) := Int.natCast_nonneg _
        have e2 : (q : Int) < (n : Int) := by omega
        have hlI : (y.size : Int) = (L : Int) := by rw [HLEN.out]
        go_wp2_with (first
          | (go_at_call 58; refine CN.out.mono ?_; rintro e w1 ⟨rfl, mm, rfl⟩)
          | (at_builtin; refine wpList_append_own _ rfl _ _ 33 rfl w.heap.size 2 i0 _ 1 8 Try.underlying33 hi0 hz0 hz1 hz2 rfl (by decide) _ _ _ rfl (World.ownsRow.alloc (w := wr.drewN mm) hown _) ⟨wr.heap.size, 0, none⟩ 1 1 [.int .i64 (q : Int)] rfl rfl ?c1 ?c2 ?c3 ?c4 ?c5 ?_))
        case c1 => exact one_cell' _ _ _ (new_one (wr.drewN mm) _ _)
        case c2 => intro u hu; simp at hu; subst hu; rfl
        case c3 => unfold maxLen; omega
        case c4 => omega
        case c5 => have := hbw.size; simp; omega
        intro v' w1 hown1 hgrow1 _
        rw [intV_snoc] at hown1
        have hb1 : Below w.heap.size w w1 := ((below_drN hbw mm).alloc hbw.size _).grown hgrow1 (by have := hbw.size; simp; omega) (fun x hx => (hown.lt x hx).1)
        have hcq1 : w1.cell? ⟨b, o + q, none⟩ = some (.string y) := (hb1.cell (by exact hb)).trans ((hbw.cell (by exact hb)).symm.trans hcq)
        clear hcq hown hgrow1 CN
        go_wp2
        go_roundw
        case rel => exact ⟨rst, v', pre ++ [(q : Int)], m + 1, by first | (rw [HR.out, HLEN.out]; done) | (rw [HR.out]; done) | (rw [HR.out, HLEN.out]; rfl), rfl, Lib.hid (by rw [List.length_append, HM.out]; rfl), Lib.hid (by rw [← HI.out, HIS.out, HQ.out, HRS.out, List.append_assoc]; rfl), Lib.hid (by rw [HRS.out, ← HST.out]; exact HS.out), by omega, hown1, hb1⟩
        case measure => simp [strSz]; omega
end Go.Proofs.Ytdbbolnmcbhflaa
