/-
  The contract of impl.ReplaceWord.
-/
import Derived.Test.YtdbbolnmcbhflaaDoorReplace
namespace Go.Proofs.YtdbbolnmcbhflaaDoor
set_option linter.unusedVariables false
open Go.RowKit

theorem cReplace_impl_bad (s old new : ByteArray) (w : World) (hs : s.size ≤ 1073741824) (hsh : w.ShapedOpen Tryd.prog) (ho : old.size ≤ maxLen) (hw : new.size ≤ maxLen) (h : (phraseB s && (wordB old && wordB new)) = false) :
    Calls Tryd.prog 14 #[.string s, .string old, .string new] w fun e w' => e = .returned (.tuple #[.string ByteArray.empty, .int .i64 1]) ∧ Below w.heap.size w w' := by
  have HC := Lib.hid (cIsPhrase_impl s w hs hsh)
  clear hsh
  cases h1 : phraseB s
  · rw [h1] at HC
    clear h h1
    go_enter Tryd.func14, Tryd.ntmps14
    go_wp2_with fail
    refine HC.out.mono ?_
    rintro e w1 ⟨rfl, hb⟩
    go_wp2_with fail
    go_ret2
    exact ⟨rfl, hb⟩
  · rw [h1] at HC h
    have h2 : twoE old new = false := by simpa [twoE] using h
    have H2 := Lib.hid h2
    clear h h1 h2
    go_enter Tryd.func14, Tryd.ntmps14
    go_wp2_with fail
    refine HC.out.mono ?_
    rintro e w1 ⟨rfl, hb⟩
    go_wp2_with fail
    refine (cAreWords2 old new _ ho hw).mono ?_
    rintro e w' ⟨rfl, rfl⟩
    rw [H2.out]
    go_wp2_with fail
    go_ret2
    exact ⟨rfl, hb.alloc hb.size _⟩

set_option maxHeartbeats 1000000 in
set_option maxRecDepth 100000 in
theorem cReplace_impl_ok (s old new : ByteArray) (w : World) (hs : s.size ≤ 1073741824) (hsh : w.ShapedOpen Tryd.prog) (ho : old.size ≤ maxLen) (hw : new.size ≤ maxLen) (h : phraseB s = true) (h1 : wordB old = true) (h2 : wordB new = true) :
    Calls Tryd.prog 14 #[.string s, .string old, .string new] w fun e w' => e = .returned (replV old new (spaceB s)) ∧ Below w.heap.size w w' := by
  have HC := Lib.hid (cIsPhrase_impl s w hs hsh)
  rw [h] at HC
  have HS := Lib.hid (fun W => cSplitLib s W hs)
  have hp := phraseB_parts s h
  have hl := hp.2
  have hpos := space_pos s
  have HW := Lib.hid (fun x hx => word_size x (space_word s x hp.1 hx))
  have hnew := (word_size new h2).2
  have H2 : Hid (twoE old new = true) := Lib.hid (by unfold twoE; rw [h1, h2]; rfl)
  have HSH := Lib.hid hsh
  clear hsh h hp h1 h2
  obtain ⟨xs, hxs⟩ : ∃ xs, xs = spaceB s := ⟨_, rfl⟩
  rw [← hxs] at HS HW hl hpos ⊢
  clear hxs
  obtain ⟨n, hn⟩ : ∃ n, n = xs.length := ⟨_, rfl⟩
  rw [← hn] at HS hl hpos
  have HN := Lib.hid hn
  clear hn
  go_enter Tryd.func14, Tryd.ntmps14
  go_wp2_with fail
  refine HC.out.mono ?_
  rintro e w1 ⟨rfl, hb⟩
  go_wp2_with fail
  refine (cAreWords2 old new _ ho hw).mono ?_
  rintro e w' ⟨rfl, rfl⟩
  rw [H2.out]
  go_wp2_with fail
  have hb2 := hb.alloc hb.size (.cells #[.string old, .string new] 9)
  refine (show Calls Tryd.prog 38 #[.string s, .string (sepB 32)] _ _ from HS.out _ (shaped_below HSH.out hb2)).mono ?_
  rintro e w2 ⟨rfl, rfl⟩
  have hown0 := World.ownsRow_lit (e := 9) (base := w.heap.size) (size := 1) (w1.alloc (.cells #[.string old, .string new] 9)) (strV xs).toArray n hb2.size (by unfold maxLen; omega) (by simp [strV, HN.out])
  have hb3 := hb2.alloc hb2.size (.cells (strV xs).toArray 9)
  have hl3 : (w1.alloc (.cells #[.string old, .string new] 9)).heap.size < ((w1.alloc (.cells #[.string old, .string new] 9)).alloc (.cells (strV xs).toArray 9)).heap.size := by simp
  have hg0 : w.heap.size ≤ (w1.alloc (.cells #[.string old, .string new] 9)).heap.size := hb2.size
  generalize (w1.alloc (.cells #[.string old, .string new] 9)).alloc (.cells (strV xs).toArray 9) = W3 at *
  generalize (w1.alloc (.cells #[.string old, .string new] 9)).heap.size = g at *
  have hown1 : W3.ownsRow w.heap.size 9 1 (.slice (some ⟨g, 0, none⟩) n n) n (mixV old new xs 0) := by rw [mixV_zero]; simpa using hown0
  have HSH3 := HSH.out
  clear hown0 HSH3 hb2 hb
  go_wp2_with fail
  go_loopw [9, 25] (fun f i wr => ∃ k : Nat, k ≤ n ∧ i = .int .i64 k ∧ f = .bool (hasB old (xs.take k)) ∧ wr.ownsRow w.heap.size 9 1 (.slice (some ⟨g, 0, none⟩) n n) n (mixV old new xs k) ∧ g < wr.heap.size ∧ Below w.heap.size w wr) (fun _ i _ => n - (intOf i).toNat)
  case atStart => exact ⟨0, Nat.zero_le _, rfl, rfl, hown1, hl3, hb3⟩
  case round =>
    clear hown1 hl3 hb3
    obtain ⟨k, hk, rfl, rfl, hown, hgl, hbw⟩ := hrel
    by_cases hlt : k < n
    · obtain ⟨x, hx⟩ : ∃ x, xs[k]? = some x := ⟨xs[k]'(by have := HN.out; omega), List.getElem?_eq_getElem _⟩
      have hcx : wr.cell? ⟨g, k, none⟩ = some (.string x) := (hown.cellAt k (by omega)).trans (mixV_at old new xs k x hx)
      have hfx := hown.frozenAt k
      have HX := Lib.hid hx
      clear hx
      by_cases he : x = old
      · have hd := eqB_yes x old he
        have HF := Lib.hid (hasB_hit old xs k x HX.out he)
        have hst := hown.stored k (.string new)
        rw [mixV_set old new xs k x HX.out he] at hst
        have hst1 := hst.1
        have hbw1 : Below w.heap.size w (wr.setCell ⟨g, k, none⟩ (.string new)) := hbw.setCell hg0 _
        clear he hst hown
        go_wp2
        go_roundw
        case rel => exact ⟨k + 1, by omega, by go_num, by rw [HF.out], hst1, by simpa using hgl, hbw1⟩
        case measure => simp [intOf]; omega
      · have hd := eqB_no x old he
        have HF := Lib.hid (hasB_miss old xs k x HX.out he)
        rw [← mixV_keep old new xs k x HX.out he] at hown
        clear he
        go_wp2
        go_roundw
        case rel => exact ⟨k + 1, by omega, by go_num, by rw [HF.out], hown, hgl, hbw⟩
        case measure => simp [intOf]; omega
    · obtain rfl : k = n := by omega
      have hall : xs.take k = xs := List.take_of_length_le (by have := HN.out; omega)
      rw [mixV_all old new xs k HN.out] at hown
      cases hf : hasB old xs
      · have hf' : hasB old (xs.take k) = false := by rw [hall]; exact hf
        have HR := Lib.hid (replV_no old new xs hf)
        clear hall hf
        go_wp2
        go_ret2
        exact ⟨by rw [HR.out]; rfl, hbw⟩
      · have hf' : hasB old (xs.take k) = true := by rw [hall]; exact hf
        have HR := Lib.hid (replV_yes old new xs hf)
        clear hall hf
        have hsl : (swapL old new xs).length = k := by rw [swapL_len]; exact HN.out.symm
        have hsz : ∀ y ∈ swapL old new xs, y.size ≤ 16 := by
          intro y hy
          unfold swapL at hy
          rw [List.mem_map] at hy
          obtain ⟨z, hz, rfl⟩ := hy
          unfold swap
          have := HW.out z hz
          split <;> omega
        have hj := Tryd.strings_Join g 0 k (swapL old new xs) (sepB 32) wr (by
          intro j y hy
          rw [Nat.zero_add]
          exact (hown.cellAt j (by have := (List.getElem?_eq_some_iff.1 hy).1; omega)).trans (strV_at _ _ _ hy)) hgl (by omega) (by omega) (join_small _ hsz (by omega))
        rw [hsl] at hj
        have HJ := Lib.hid hj
        clear hj hsz hsl
        go_wp2_with fail
        refine (show Calls Tryd.prog 43 #[.slice (some ⟨g, 0, none⟩) k k, .string (sepB 32)] _ _ from HJ.out).mono ?_
        rintro e w2 ⟨rfl, hb2⟩
        go_wp2_with fail
        go_ret2
        exact ⟨by rw [HR.out]; rfl, hbw.trans (hb2.mono hbw.size)⟩
end Go.Proofs.YtdbbolnmcbhflaaDoor
