/-
  The contract of spec.l06Code.
-/
import Derived.Test.YtjockiedganokaaDoorKeyRows
import Derived.Test.YtjockiedganokaaDoorIsPhraseS
import Derived.Test.YtjockiedganokaaDoorSpellW
namespace Go.Proofs.YtjockiedganokaaDoor
set_option linter.unusedVariables false
open Go.RowKit

theorem TextAt.row {w : World} {B n : Nat} {A : Option Addr} {xs : List ByteArray} (h : TextAt w B A n xs) {k : Nat} {x : ByteArray} (hx : xs[k]? = some x) :
    ∃ b o, A = some ⟨b, o, none⟩ ∧ b < B ∧ w.cell? ⟨b, o + k, none⟩ = some (.string x) := by
  have := (List.getElem?_eq_some_iff.1 hx).1
  obtain ⟨b, o, h1, h2, h3⟩ := h.2 (by have := h.1; omega)
  exact ⟨b, o, h1, h2, h3 k x hx⟩
theorem canAll_step (xs ps : List ByteArray) (k : Nat) (x : ByteArray) (h : ps[k]? = some x) (ha : (ps.take k).all (canP xs) = true) (hc : canP xs x = true) : (ps.take (k + 1)).all (canP xs) = true := by
  have hl := (List.getElem?_eq_some_iff.1 h).1
  have he : ps[k] = x := (List.getElem?_eq_some_iff.1 h).2
  rw [List.take_succ_eq_append_getElem hl, he, List.all_append, ha]; simp [hc]
theorem canAll_stop (xs ps : List ByteArray) (x : ByteArray) (h : x ∈ ps) (hc : canP xs x = false) : ps.all (canP xs) = false := by
  rw [List.all_eq_false]; exact ⟨x, h, by simp [hc]⟩

set_option maxHeartbeats 4000000 in
set_option maxRecDepth 100000 in
theorem cCode6 (A A1 A2 : Option Addr) (n n1 n2 c c1 c2 : Nat) (xs ls : List ByteArray) (ig : List Int) (w : World) (hbig : n ≤ 1048576) (hs : ∀ x ∈ xs, x.size ≤ maxLen) (h : TextAt w w.heap.size A n xs)
    (h1 : TextAt w w.heap.size A1 n1 ls) (hb1 : n1 ≤ 2097152) (hs1 : ∀ x ∈ ls, x.size ≤ 1048576) (h2 : NumAt w w.heap.size A2 n2 ig) (hb2 : n2 ≤ maxLen) :
    Calls Tryd.prog 44 #[.slice A n c, .slice A1 n1 c1, .slice A2 n2 c2] w fun e w' => e = .returned (.int .i64 (codeK xs ls ig n1)) ∧ Below w.heap.size w w' := by
  have CI := Lib.hid (tIsAlpha_spec A n c _ xs w hbig hs h)
  unfold maxLen at hb2
  cases ha : alphaB xs
  · rw [ha] at CI
    have hcode : codeK xs ls ig n1 = 1 := by unfold codeK; rw [ha]; rfl
    have HC := Lib.hid hcode
    clear h h1 h2 hs hs1 ha hcode
    go_enter Tryd.func44, Tryd.ntmps44
    go_wp2_with (go_at_call 49; refine CI.out.mono ?_; rintro e w' ⟨rfl, rfl⟩)
    go_ret
    exact ⟨by rw [HC.out]; rfl, Below.refl _ _⟩
  rw [ha] at CI
  have hlx := alpha_len xs ha
  have hx40 : n ≤ 40 := by have := h.1; omega
  have HA := Lib.hid ha
  have HNX := Lib.hid h.1
  have HN1 := Lib.hid h1.1
  have HN2 := Lib.hid h2.1
  have H := Lib.hid h
  have H1 := Lib.hid h1
  have H2 := Lib.hid h2
  have HS1 := Lib.hid hs1
  clear h h1 h2 hs hs1 ha hlx hbig
  go_enter Tryd.func44, Tryd.ntmps44
  go_wp2_with (go_at_call 49; refine CI.out.mono ?_; rintro e w' ⟨rfl, rfl⟩)
  clear CI
  go_loopw [7] (fun i wr => ∃ k : Nat, k ≤ n1 ∧ i = .int .i64 k ∧ Hid (phrasesB (ls.take k) = true) ∧ Below w.heap.size w wr) (fun i _ => n1 - (intOf i).toNat)
  case atStart => exact ⟨0, Nat.zero_le _, rfl, Lib.hid rfl, Below.refl _ _⟩
  case round =>
    obtain ⟨k, hk, rfl, HP, hbw⟩ := hrel
    by_cases hlt : k < n1
    · obtain ⟨x, hx⟩ : ∃ x, ls[k]? = some x := ⟨ls[k]'(by have := HN1.out; omega), List.getElem?_eq_getElem _⟩
      obtain ⟨b, o, rfl, hbb, hcx0⟩ := H1.out.row hx
      have hcx := (hbw.cell (by exact hbb)).trans hcx0
      have CP := Lib.hid (cIsPhrase_spec x wr (by have := HS1.out x (List.mem_of_getElem? hx); omega))
      have HX := Lib.hid hx
      clear hx hcx0
      cases hb : phraseB x
      · rw [hb] at CP
        have hf := phrasesB_stop ls k x HX.out hb
        have hcode : codeK xs ls ig n1 = 1 := by unfold codeK; rw [hf, Bool.and_false]; rfl
        have HC := Lib.hid hcode
        clear hb hf hcode
        go_wp2_with (go_at_call 80; refine CP.out.mono ?_; rintro e w1 ⟨rfl, hb1⟩)
        go_ret
        exact ⟨by rw [HC.out]; rfl, hbw.trans (hb1.mono hbw.size)⟩
      · rw [hb] at CP
        have HST := Lib.hid (phrasesB_step ls k x HX.out HP.out hb)
        clear hb
        go_wp2_with (go_at_call 80; refine CP.out.mono ?_; rintro e w1 ⟨rfl, hb1⟩)
        go_roundw
        case rel => exact ⟨k + 1, by omega, by go_num, HST, hbw.trans (hb1.mono hbw.size)⟩
        case measure => simp [intOf]; omega
    · have hall := HP.out
      rw [phrasesB_end ls k (by have := HN1.out; omega)] at hall
      have HPH := Lib.hid hall
      clear hall HP
      go_wp2_with fail
      go_loopw [8] (fun i wr2 => ∃ j : Nat, j ≤ n2 ∧ i = .int .i64 j ∧ Hid (allW 0 ((xs.length : Int) - 1) (ig.take j) = true) ∧ wr2 = wr) (fun i _ => n2 - (intOf i).toNat)
      case atStart => exact ⟨0, Nat.zero_le _, rfl, Lib.hid rfl, rfl⟩
      case round =>
        obtain ⟨j, hj, rfl, HW, rfl⟩ := hrel
        by_cases hjl : j < n2
        · obtain ⟨x, hx⟩ : ∃ x, ig[j]? = some x := ⟨ig[j]'(by have := HN2.out; omega), List.getElem?_eq_getElem _⟩
          obtain ⟨b, o, rfl, hbb, hcx0⟩ := H2.out.row hx
          have hcx := (hbw.cell (by exact hbb)).trans hcx0
          have CN := Lib.hid (cIn_any x 0 ((n : Int) - 1))
          have HX := Lib.hid hx
          clear hx hcx0
          cases hin : (decide ((0 : Int) ≤ x) && decide (x ≤ (n : Int) - 1))
          · rw [hin] at CN
            have hf : allW 0 ((xs.length : Int) - 1) ig = false := allW_stop HX.out (by
              rw [Bool.and_eq_false_iff, decide_eq_false_iff_not, decide_eq_false_iff_not] at hin
              have := HNX.out
              omega)
            have hcode : codeK xs ls ig n1 = 2 := by unfold codeK; rw [HA.out, HPH.out, hf]; rfl
            have HC := Lib.hid hcode
            clear hin hf hcode
            go_wp2_with (go_at_call 81; refine (CN.out _).mono ?_; rintro e w' ⟨rfl, rfl⟩)
            go_ret
            exact ⟨by rw [HC.out]; rfl, hbw⟩
          · rw [hin] at CN
            have hok : 0 ≤ x ∧ x ≤ (xs.length : Int) - 1 := by
              rw [Bool.and_eq_true, decide_eq_true_eq, decide_eq_true_eq] at hin
              have := HNX.out
              omega
            have HST := Lib.hid (allW_step HX.out HW.out hok.1 hok.2)
            clear hin hok
            go_wp2_with (go_at_call 81; refine (CN.out _).mono ?_; rintro e w' ⟨rfl, rfl⟩)
            go_roundw
            case rel => exact ⟨j + 1, by omega, by go_num, HST, by first | rfl | trivial⟩
            case measure => simp [intOf]; omega
        · have hall := HW.out
          rw [allW_end (by have := HN2.out; omega)] at hall
          have HAW := Lib.hid hall
          clear hall HW
          have hcode : codeK xs ls ig n1 = if ls.all (canP xs) then (if 20 < n1 then 3 else 0) else 4 := by unfold codeK; rw [HA.out, HPH.out, HAW.out]; rfl
          have HCODE := Lib.hid hcode
          clear hcode
          go_wp2_with fail
          go_loopw [9] (fun i wr3 => ∃ q : Nat, q ≤ n1 ∧ i = .int .i64 q ∧ Hid ((ls.take q).all (canP xs) = true) ∧ Below w.heap.size w wr3) (fun i _ => n1 - (intOf i).toNat)
          case atStart => exact ⟨0, Nat.zero_le _, rfl, Lib.hid rfl, hbw⟩
          case round =>
            clear hbw
            obtain ⟨q, hq, rfl, HCA, hbw⟩ := hrel
            by_cases hql : q < n1
            · obtain ⟨x, hx⟩ : ∃ x, ls[q]? = some x := ⟨ls[q]'(by have := HN1.out; omega), List.getElem?_eq_getElem _⟩
              obtain ⟨b, o, rfl, hbb, hcx0⟩ := H1.out.row hx
              have hcx := (hbw.cell (by exact hbb)).trans hcx0
              have hmem := List.mem_of_getElem? hx
              have hxs := HS1.out x hmem
              have hpx := phrase_parts x (phrasesB_mem ls HPH.out x hmem)
              have hwd := words_le _ hpx.1
              have CP := Lib.hid (cPhrase_ok x wr (by omega) hpx.1)
              rw [decide_eq_true hpx.2.1] at CP
              have HX := Lib.hid hx
              have HMEM := Lib.hid hmem
              have HWD := Lib.hid hwd
              have hwl := hpx.2.1
              have hwp := hpx.2.2
              clear hx hcx0 hpx hwd hmem
              have HCP : Hid (∀ r, canP xs x = r ↔ canW xs (spaceB x) = r) := Lib.hid (fun r => Iff.rfl)
              obtain ⟨ws, hws⟩ : ∃ ws, ws = spaceB x := ⟨_, rfl⟩
              rw [← hws] at CP HWD hwl hwp HCP
              clear hws
              obtain ⟨m, hm⟩ : ∃ m, m = ws.length := ⟨_, rfl⟩
              rw [← hm] at CP hwl hwp
              have HM := Lib.hid hm
              clear hm
              go_wp2_with fail
              refine CP.out.mono ?_
              rintro e w1 ⟨v, rfl, hown, hb1⟩
              obtain ⟨g, cap, rfl, hg1, hg2⟩ := World.ownsRow.form hown hwp
              have HC1 : Hid (∀ (j : Nat) x, ws[j]? = some x → w1.cell? ⟨g, j, none⟩ = some (.string x)) := Lib.hid (fun j x hx => (hown.cellAt j (by have := (List.getElem?_eq_some_iff.1 hx).1; have := HM.out; omega)).trans (strV_at _ _ _ hx))
              have hb2 : Below w.heap.size w w1 := hbw.trans (hb1.mono hbw.size)
              clear hown CP hb1
              go_wp2_with fail
              go_loopw [12] (fun i wr4 => ∃ t : Nat, t ≤ m ∧ i = .int .i64 t ∧ Hid (canW xs (ws.take t) = true) ∧ Below w1.heap.size w1 wr4) (fun i _ => m - (intOf i).toNat)
              case atStart => exact ⟨0, Nat.zero_le _, rfl, Lib.hid rfl, Below.refl _ _⟩
              case round =>
                obtain ⟨t, ht, rfl, HCW, hb4⟩ := hrel
                have hb5 : Below w.heap.size w wr := hb2.trans (hb4.mono hb2.size)
                by_cases htl : t < m
                · obtain ⟨y, hy⟩ : ∃ y, ws[t]? = some y := ⟨ws[t]'(by have := HM.out; omega), List.getElem?_eq_getElem _⟩
                  have hcy := (hb4.cell (p := ⟨g, t, none⟩) hg2).trans (HC1.out t y hy)
                  have hys := HWD.out y (List.mem_of_getElem? hy)
                  have HT := Lib.hid ((H.out.below hb5 (Nat.le_refl _)).more hb5.size)
                  have HY := Lib.hid hy
                  clear hy
                  cases hsp : spellsB xs y
                  · have CS := Lib.hid (tSpell_no A n c xs y wr HA.out (by omega) HT.out hsp)
                    have hcf : canP xs x = false := (HCP.out false).2 (canW_stop xs ws t y HY.out hsp)
                    have hc4 : codeK xs ls ig n1 = 4 := by rw [HCODE.out, canAll_stop xs ls x HMEM.out hcf]; rfl
                    have HC4 := Lib.hid hc4
                    clear hsp hcf hc4
                    go_wp2_with (go_at_call 51; refine CS.out.mono ?_; rintro e w5 ⟨rfl, hb6⟩)
                    go_ret
                    exact ⟨by rw [HC4.out]; rfl, hb5.trans (hb6.mono hb5.size)⟩
                  · have CS := Lib.hid (tSpell_yes A n c xs y wr HA.out (by omega) HT.out hsp)
                    have HST := Lib.hid (canW_step xs ws t y HY.out HCW.out hsp)
                    clear hsp
                    go_wp2_with (go_at_call 51; refine CS.out.mono ?_; rintro e w5 ⟨v5, rfl, _, hb6⟩)
                    go_roundw
                    case rel => exact ⟨t + 1, by omega, by go_num, HST, hb4.trans (hb6.mono hb4.size)⟩
                    case measure => simp [intOf]; omega
                · have hcw := HCW.out
                  rw [List.take_of_length_le (by have := HM.out; omega)] at hcw
                  have HST := Lib.hid (canAll_step xs ls q x HX.out HCA.out ((HCP.out true).2 hcw))
                  clear hcw
                  go_wp2_with fail
                  go_roundw
                  case rel => exact ⟨q + 1, by omega, by go_num, HST, hb5⟩
                  case measure => simp [intOf]; omega
            · have hca := HCA.out
              rw [List.take_of_length_le (by have := HN1.out; omega)] at hca
              have hc := HCODE.out
              rw [hca, if_pos rfl] at hc
              clear hca
              by_cases h20 : 20 < n1
              · rw [if_pos h20] at hc
                have HC := Lib.hid hc
                clear hc
                go_wp2_with fail
                go_ret
                exact ⟨by rw [HC.out]; rfl, hbw⟩
              · rw [if_neg h20] at hc
                have HC := Lib.hid hc
                clear hc
                go_wp2_with fail
                go_ret
                exact ⟨by rw [HC.out]; rfl, hbw⟩
end Go.Proofs.YtjockiedganokaaDoor
