/-
  The contracts of spec.l01Same, slices.Equal, spec.IsSpelling and impl.IsSpelling.
-/
import Derived.Test.YtdbbolnmcbhflaaLawSpell
import Derived.Test.YtdbbolnmcbhflaaLawJoinL
namespace Go.Proofs.Ytdbbolnmcbhflaa
set_option linter.unusedVariables false
open Go.RowKit

theorem same_step (xs ys : List Int) (k : Nat) (x : Int) (hl : xs.length = ys.length) (hx : xs[k]? = some x) (hy : ys[k]? = some x) (h : xs.take k = ys.take k) : xs.take (k + 1) = ys.take (k + 1) := by
  have h1 := (List.getElem?_eq_some_iff.1 hx)
  have h2 := (List.getElem?_eq_some_iff.1 hy)
  obtain ⟨a1, a2⟩ := h1
  obtain ⟨b1, b2⟩ := h2
  rw [List.take_succ_eq_append_getElem a1, List.take_succ_eq_append_getElem b1, h, a2, b2]
theorem same_stop (xs ys : List Int) (k : Nat) (x y : Int) (hx : xs[k]? = some x) (hy : ys[k]? = some y) (hne : x ≠ y) : decide (xs = ys) = false := by
  refine decide_eq_false (fun h => hne ?_)
  rw [h, hy] at hx
  exact (Option.some.inj hx).symm
theorem same_end (xs ys : List Int) (k n : Nat) (h1 : n = xs.length) (h2 : n = ys.length) (hk : n ≤ k) (h : xs.take k = ys.take k) : decide (xs = ys) = true := by
  rw [List.take_of_length_le (by omega), List.take_of_length_le (by omega)] at h
  exact decide_eq_true h
theorem same_len (xs ys : List Int) (n m : Nat) (h1 : n = xs.length) (h2 : m = ys.length) (h : n ≠ m) : decide (xs = ys) = false :=
  decide_eq_false (fun e => h (by rw [h1, h2, e]))

set_option maxHeartbeats 1000000 in
set_option maxRecDepth 100000 in
theorem tSame (A A' : Option Addr) (cap cap' n m B C : Nat) (xs ys : List Int) (w : World) (hn : n ≤ 1048576) (hm : m ≤ 1048576) (h1 : NumAt w B A n xs) (h2 : NumAt w C A' m ys) :
    Calls Try.prog 51 #[.slice A n cap, .slice A' m cap'] w fun e w' => e = .returned (.bool (decide (xs = ys))) ∧ ∃ j, w' = w.drewN j := by
  by_cases hnm : n = m
  · subst hnm
    have HN1 := Lib.hid h1.1
    have HN2 := Lib.hid h2.1
    have HA := Lib.hid h1.2
    have HA' := Lib.hid h2.2
    clear h1 h2
    go_enter Try.func51, Try.ntmps51
    go_wp2
    go_loopw [5] (fun i wr => ∃ k j : Nat, k ≤ n ∧ i = .int .i64 k ∧ wr = w.drewN j ∧ Hid (xs.take k = ys.take k)) (fun i _ => n - (intOf i).toNat)
    case atStart => exact ⟨0, 0, Nat.zero_le _, rfl, rfl, Lib.hid rfl⟩
    case round =>
      obtain ⟨k, j, hk, rfl, rfl, HS⟩ := hrel
      by_cases hlt : k < n
      · obtain ⟨b, o, rfl, hb, hc⟩ := HA.out (by omega)
        obtain ⟨b', o', rfl, hb', hc'⟩ := HA'.out (by omega)
        obtain ⟨x, hx⟩ : ∃ x, xs[k]? = some x := ⟨xs[k]'(by have := HN1.out; omega), List.getElem?_eq_getElem _⟩
        obtain ⟨y, hy⟩ : ∃ y, ys[k]? = some y := ⟨ys[k]'(by have := HN2.out; omega), List.getElem?_eq_getElem _⟩
        have c1 : w.cell? ⟨b, o + k, none⟩ = some (.int .i64 x) := hc k x hx
        have c2 : w.cell? ⟨b', o' + k, none⟩ = some (.int .i64 y) := hc' k y hy
        have HX := Lib.hid hx
        have HY := Lib.hid hy
        clear hx hy hc hc'
        have e1 : (0 : Int) ≤ (k : Int) := Int.natCast_nonneg _
        have e2 : (k : Int) < (n : Int) := by omega
        by_cases hxy : x = y
        · subst hxy
          have hd : (x != x) = false := by simp
          go_wp2
          go_quiet (fail)
          go_wp2
          go_roundw
          case rel => exact ⟨k + 1, _, by omega, by go_num, rfl, Lib.hid (same_step xs ys k x (by rw [← HN1.out, ← HN2.out]) HX.out HY.out HS.out)⟩
          case measure => simp [intOf]; omega
        · have hd : (x != y) = true := by simp [hxy]
          have HNE := Lib.hid hxy
          clear hxy
          go_wp2
          go_quiet (fail)
          go_wp2
          go_ret
          exact ⟨ret_bool (same_stop xs ys k x y HX.out HY.out HNE.out).symm, _, World.drewN_drewN _ _ _⟩
      · go_wp2
        go_ret
        exact ⟨ret_bool (same_end xs ys k n HN1.out HN2.out (by omega) HS.out).symm, j, rfl⟩
  · have HD := Lib.hid (same_len xs ys n m h1.1 h2.1 hnm)
    have hd : ((n : Int) != (m : Int)) = true := by simp; omega
    clear h1 h2 hnm
    go_enter Try.func51, Try.ntmps51
    go_wp2
    go_ret
    exact ⟨ret_bool HD.out.symm, 0, rfl⟩

set_option maxHeartbeats 1000000 in
set_option maxRecDepth 100000 in
theorem tEqual (A A' : Option Addr) (cap cap' n m B C : Nat) (xs ys : List Int) (w : World) (hn : n ≤ 1048576) (hm : m ≤ 1048576) (h1 : NumAt w B A n xs) (h2 : NumAt w C A' m ys) :
    Calls Try.prog 49 #[.slice A n cap, .slice A' m cap'] w fun e w' => e = .returned (.bool (decide (xs = ys))) ∧ ∃ j, w' = w.drewN j := by
  by_cases hnm : n = m
  · subst hnm
    have HN1 := Lib.hid h1.1
    have HN2 := Lib.hid h2.1
    have HA := Lib.hid h1.2
    have HA' := Lib.hid h2.2
    clear h1 h2
    go_enter Try.func49, Try.ntmps49
    go_wp2
    go_loopw [13] (fun i wr => ∃ k j : Nat, k ≤ n ∧ i = .int .i64 k ∧ wr = w.drewN j ∧ Hid (xs.take k = ys.take k)) (fun i _ => n - (intOf i).toNat)
    case atStart => exact ⟨0, 0, Nat.zero_le _, rfl, rfl, Lib.hid rfl⟩
    case round =>
      obtain ⟨k, j, hk, rfl, rfl, HS⟩ := hrel
      by_cases hlt : k < n
      · obtain ⟨b, o, rfl, hb, hc⟩ := HA.out (by omega)
        obtain ⟨b', o', rfl, hb', hc'⟩ := HA'.out (by omega)
        obtain ⟨x, hx⟩ : ∃ x, xs[k]? = some x := ⟨xs[k]'(by have := HN1.out; omega), List.getElem?_eq_getElem _⟩
        obtain ⟨y, hy⟩ : ∃ y, ys[k]? = some y := ⟨ys[k]'(by have := HN2.out; omega), List.getElem?_eq_getElem _⟩
        have c1 : w.cell? ⟨b, o + k, none⟩ = some (.int .i64 x) := hc k x hx
        have c2 : w.cell? ⟨b', o' + k, none⟩ = some (.int .i64 y) := hc' k y hy
        have HX := Lib.hid hx
        have HY := Lib.hid hy
        clear hx hy hc hc'
        have e1 : (0 : Int) ≤ (k : Int) := Int.natCast_nonneg _
        have e2 : (k : Int) < (n : Int) := by omega
        by_cases hxy : x = y
        · subst hxy
          have hd : (x != x) = false := by simp
          go_wp2
          go_quiet (fail)
          go_wp2
          go_roundw
          case rel => exact ⟨k + 1, _, by omega, by go_num, rfl, Lib.hid (same_step xs ys k x (by rw [← HN1.out, ← HN2.out]) HX.out HY.out HS.out)⟩
          case measure => simp [intOf]; omega
        · have hd : (x != y) = true := by simp [hxy]
          have HNE := Lib.hid hxy
          clear hxy
          go_wp2
          go_quiet (fail)
          go_wp2
          go_ret
          exact ⟨ret_bool (same_stop xs ys k x y HX.out HY.out HNE.out).symm, _, World.drewN_drewN _ _ _⟩
      · go_wp2
        go_ret
        exact ⟨ret_bool (same_end xs ys k n HN1.out HN2.out (by omega) HS.out).symm, j, rfl⟩
  · have HD := Lib.hid (same_len xs ys n m h1.1 h2.1 hnm)
    have hd : ((n : Int) != (m : Int)) = true := by simp; omega
    clear h1 h2 hnm
    go_enter Try.func49, Try.ntmps49
    go_wp2
    go_ret
    exact ⟨ret_bool HD.out.symm, 0, rfl⟩

def isSpV (xs : List ByteArray) (zs : List Int) : Value :=
  if alphaB xs then (if zs.length ≤ 16 ∧ goodI xs zs = true then .tuple #[.bool (wordB (catI xs zs) && spellsB xs (catI xs zs) && decide (idxL xs (catI xs zs) = zs)), .int .i64 0] else .tuple #[.bool false, .int .i64 2]) else .tuple #[.bool false, .int .i64 1]
theorem isSpV_form (xs : List ByteArray) (zs : List Int) : ∃ b c, isSpV xs zs = .tuple #[.bool b, .int .i64 c] := by
  unfold isSpV; split
  · split
    · exact ⟨_, _, rfl⟩
    · exact ⟨_, _, rfl⟩
  · exact ⟨_, _, rfl⟩
/-- The three cases. -/
theorem isSp_cases (xs : List ByteArray) (zs : List Int) :
    (∃ c : Int, (c = 1 ∨ c = 2) ∧ joinLV xs zs = .tuple #[.string ByteArray.empty, .int .i64 c] ∧ isSpV xs zs = .tuple #[.bool false, .int .i64 c]) ∨
    (alphaB xs = true ∧ zs.length ≤ 16 ∧ goodI xs zs = true ∧ joinLV xs zs = .tuple #[.string (catI xs zs), .int .i64 0] ∧
      isSpV xs zs = .tuple #[.bool (wordB (catI xs zs) && spellsB xs (catI xs zs) && decide (idxL xs (catI xs zs) = zs)), .int .i64 0]) := by
  unfold isSpV joinLV
  by_cases ha : alphaB xs = true
  · rw [if_pos ha, if_pos ha]
    by_cases h : zs.length ≤ 16 ∧ goodI xs zs = true
    · rw [if_pos h, if_pos h]; exact .inr ⟨ha, h.1, h.2, rfl, rfl⟩
    · rw [if_neg h, if_neg h]; exact .inl ⟨2, .inr rfl, rfl, rfl⟩
  · rw [if_neg ha, if_neg ha]; exact .inl ⟨1, .inl rfl, rfl, rfl⟩
theorem catI_size (xs : List ByteArray) (ha : alphaB xs = true) : ∀ (zs : List Int), goodI xs zs = true → (catI xs zs).size ≤ zs.length * 3 := by
  intro zs
  have key : ∀ k, k ≤ zs.length → goodI xs zs = true → (catI xs (zs.take k)).size ≤ k * 3 := by
    intro k
    induction k with
    | zero => intro _ _; exact Nat.zero_le _
    | succ k ih =>
      intro hk hg
      have hkl : k < zs.length := by omega
      have hx : zs[k]? = some zs[k] := List.getElem?_eq_getElem hkl
      have hin : inR xs zs[k] = true := by unfold goodI at hg; rw [List.all_eq_true] at hg; exact hg _ (List.getElem_mem hkl)
      obtain ⟨m, x, _, _, h3, h4⟩ := inR_nat xs _ hin
      rw [catI_step xs zs k _ hx, ByteArray.size_append, h4]
      have := (alpha_size xs ha x (List.mem_of_getElem? h3)).2
      have := ih (by omega) hg
      omega
  intro hg
  have := key zs.length (Nat.le_refl _) hg
  rwa [List.take_length] at this

theorem numAt_row {w : World} {A : Option Addr} {n c : Nat} {zs : List Int} (h : RowI w A n c zs) : NumAt w w.heap.size A n zs :=
  ⟨h.len.symm, fun hp => by obtain ⟨g, h1, h2, h3⟩ := h.cells hp; exact ⟨g, 0, h1, h2, fun j x hx => by rw [Nat.zero_add]; exact h3 j x hx⟩⟩

set_option maxHeartbeats 1000000 in
theorem tIsSp_spec (A : Option Addr) (n cap : Nat) (xs : List ByteArray) (A' : Option Addr) (m cap' : Nat) (zs : List Int) (w : World) (hbig : n ≤ 1048576) (hs : ∀ x ∈ xs, x.size ≤ maxLen) (h : TextAt w w.heap.size A n xs) (hm : m ≤ 1048576) (hz : NumAt w w.heap.size A' m zs) :
    Calls Try.prog 25 #[.slice A n cap, .slice A' m cap'] w fun e w' => e = .returned (isSpV xs zs) ∧ Below w.heap.size w w' := by
  have CJ := Lib.hid (tJoinL_spec A n cap _ xs A' m cap' _ zs w hbig hs h hm hz)
  rcases isSp_cases xs zs with ⟨c, hc, hj, hv⟩ | ⟨ha, hl, hg, hj, hv⟩
  · rw [hj] at CJ
    rw [hv]
    have hd : (c != 0) = true := by rcases hc with rfl | rfl <;> decide
    clear hj hv hc h hs hz
    go_enter Try.func25, Try.ntmps25
    go_wp2_with (go_at_call 47; refine CJ.out.mono ?_; rintro e w' ⟨rfl, rfl⟩)
    go_ret2
    exact ⟨rfl, Below.refl _ _⟩
  · rw [hj] at CJ
    rw [hv]
    have hts := catI_size xs ha zs hg
    obtain ⟨t, ht⟩ : ∃ t, t = catI xs zs := ⟨_, rfl⟩
    rw [← ht] at CJ hts ⊢
    have CW := Lib.hid (fun W => cIsWord_spec t W (by unfold maxLen; omega))
    have HZ := Lib.hid hz
    clear hj hv hg ht
    cases hsp : spellsB xs t
    · have CS := Lib.hid (tSpell_no A n cap xs t w ha (by omega) h hsp)
      clear h hs hz ha hsp
      cases hw : wordB t
      all_goals
        rw [hw] at CW
        clear hw
        go_enter Try.func25, Try.ntmps25
        go_wp2_with (first
          | (go_at_call 47; refine CJ.out.mono ?_; rintro e w' ⟨rfl, rfl⟩)
          | (go_at_call 40; refine CS.out.mono ?_; rintro e w1 ⟨rfl, hb1⟩)
          | (go_at_call 50; refine (CW.out _).mono ?_; rintro e w' ⟨rfl, rfl⟩))
        go_ret2
        exact ⟨by simp, hb1⟩
    · have CS := Lib.hid (tSpell_yes A n cap xs t w ha (by omega) h hsp)
      have hil := idx_len xs t
      clear h hs hz ha hsp
      obtain ⟨ys, hys⟩ : ∃ ys, ys = idxL xs t := ⟨_, rfl⟩
      rw [← hys] at CS hil ⊢
      clear hys
      have HIL := Lib.hid hil
      clear hil
      cases hw : wordB t
      · rw [hw] at CW
        clear hw
        go_enter Try.func25, Try.ntmps25
        go_wp2_with (first
          | (go_at_call 47; refine CJ.out.mono ?_; rintro e w' ⟨rfl, rfl⟩)
          | (go_at_call 40; refine CS.out.mono ?_; rintro e w1 ⟨v, rfl, hown, hb1⟩)
          | (go_at_call 50; refine (CW.out _).mono ?_; rintro e w' ⟨rfl, rfl⟩))
        go_ret2
        exact ⟨by simp, hb1⟩
      · rw [hw] at CW
        clear hw
        go_enter Try.func25, Try.ntmps25
        go_wp2_with fail
        refine CJ.out.mono ?_
        rintro e w' ⟨rfl, rfl⟩
        go_wp2_with fail
        refine CS.out.mono ?_
        rintro e w1 ⟨v, rfl, hown, hb1⟩
        obtain ⟨A1, c1, rfl⟩ := row_form hown
        have CE := Lib.hid (tSame A1 A' c1 cap' ys.length m _ _ ys zs w1 (by have := HIL.out; omega) hm (numAt_row (RowI.of hown)) (HZ.out.below hb1 (Nat.le_refl _)))
        clear hown
        go_wp2_with fail
        refine (CW.out _).mono ?_
        rintro e w' ⟨rfl, rfl⟩
        go_wp2_with fail
        refine CE.out.mono ?_
        rintro e w' ⟨rfl, j, rfl⟩
        go_wp2_with fail
        go_ret2
        exact ⟨by simp, below_drN hb1 j⟩

set_option maxHeartbeats 1000000 in
theorem tIsSp (A : Option Addr) (n cap : Nat) (xs : List ByteArray) (A' : Option Addr) (m cap' : Nat) (zs : List Int) (w : World) (hbig : n ≤ 1048576) (hs : ∀ x ∈ xs, x.size ≤ maxLen) (h : TextAt w w.heap.size A n xs) (hm : m ≤ 1048576) (hz : NumAt w w.heap.size A' m zs) :
    Calls Try.prog 24 #[.slice A n cap, .slice A' m cap'] w fun e w' => e = .returned (isSpV xs zs) ∧ Below w.heap.size w w' := by
  have CJ := Lib.hid (tJoinL A n cap xs A' m cap' zs w hbig hs h hm hz)
  rcases isSp_cases xs zs with ⟨c, hc, hj, hv⟩ | ⟨ha, hl, hg, hj, hv⟩
  · rw [hj] at CJ
    rw [hv]
    have hd : (c != 0) = true := by rcases hc with rfl | rfl <;> decide
    clear hj hv hc h hs hz
    go_enter Try.func24, Try.ntmps24
    go_wp2_with (go_at_call 21; refine CJ.out.mono ?_; rintro e w1 ⟨rfl, hb1⟩)
    go_ret2
    exact ⟨rfl, hb1⟩
  · rw [hj] at CJ
    rw [hv]
    have hts := catI_size xs ha zs hg
    obtain ⟨t, ht⟩ : ∃ t, t = catI xs zs := ⟨_, rfl⟩
    rw [← ht] at CJ hts ⊢
    have HZ := Lib.hid hz
    have hCW := fun W (hW : Below w.heap.size w W) => tSW_impl A n cap xs t W hbig hs ((h.below hW (Nat.le_refl _)).more hW.size) (by omega)
    unfold zsW codeW okW at hCW
    rw [ha, Bool.true_and] at hCW
    have hil := idx_len xs t
    have HIL := Lib.hid hil
    clear hj hv hg ht hs h hz ha hil
    cases hw : wordB t
    · rw [hw] at hCW
      have CW := Lib.hid hCW
      clear hCW hw
      go_enter Try.func24, Try.ntmps24
      go_wp2_with fail
      refine CJ.out.mono ?_
      rintro e w1 ⟨rfl, hb1⟩
      go_wp2_with fail
      refine (show Calls Try.prog _ _ _ (SWOut [] 1 w1) from CW.out w1 hb1).mono ?_
      rintro e w2 ⟨A1, n1, c1, rfl, _, hb2⟩
      go_wp2_with fail
      go_ret2
      exact ⟨by simp, hb1.trans (hb2.mono hb1.size)⟩
    · rw [hw] at hCW
      cases hsp : spellsB xs t
      · rw [hsp] at hCW
        have CW := Lib.hid hCW
        clear hCW hw hsp
        go_enter Try.func24, Try.ntmps24
        go_wp2_with fail
        refine CJ.out.mono ?_
        rintro e w1 ⟨rfl, hb1⟩
        go_wp2_with fail
        refine (show Calls Try.prog _ _ _ (SWOut [] 4 w1) from CW.out w1 hb1).mono ?_
        rintro e w2 ⟨A1, n1, c1, rfl, _, hb2⟩
        go_wp2_with fail
        go_ret2
        exact ⟨by simp, hb1.trans (hb2.mono hb1.size)⟩
      · rw [hsp] at hCW
        have CW := Lib.hid hCW
        clear hCW hw hsp
        obtain ⟨ys, hys⟩ : ∃ ys, ys = idxL xs t := ⟨_, rfl⟩
        rw [← hys] at HIL ⊢
        go_enter Try.func24, Try.ntmps24
        go_wp2_with fail
        refine CJ.out.mono ?_
        rintro e w1 ⟨rfl, hb1⟩
        go_wp2_with fail
        refine (show Calls Try.prog _ _ _ (SWOut ys 0 w1) from by rw [hys]; exact CW.out w1 hb1).mono ?_
        rintro e w2 ⟨A1, n1, c1, rfl, hown, hb2⟩
        have hb12 := hb1.trans (hb2.mono hb1.size)
        have hr := RowI.of hown
        have hn1 : n1 = ys.length := hr.len.symm
        have CE := Lib.hid (tEqual A1 A' c1 cap' n1 m _ _ ys zs w2 (by have := HIL.out; omega) hm (numAt_row hr) (HZ.out.below hb12 (Nat.le_refl _)))
        clear hown hr hn1 hys
        go_wp2_with fail
        refine CE.out.mono ?_
        rintro e w' ⟨rfl, j, rfl⟩
        go_wp2_with fail
        go_ret2
        exact ⟨by simp, below_drN hb12 j⟩
end Go.Proofs.Ytdbbolnmcbhflaa
