/-
  The contract of spec.CasesOf.
-/
import Derived.Test.YtippjomkbpiliaaCs
namespace Go.Proofs.Ytippjomkbpiliaa
set_option linter.unusedVariables false
open Go.RowKit

def anyC (base word : ByteArray) (xs : List En) (c : Int) : Bool := xs.any fun e => hitB base word e && decide (e.2.2 = c)
def upTo (base word : ByteArray) (xs : List En) (q : Nat) : List Int := ((List.range q).map fun (i : Nat) => (i : Int) + 1).filter (anyC base word xs)
theorem upTo_step (base word : ByteArray) (xs : List En) (q : Nat) : upTo base word xs (q + 1) = upTo base word xs q ++ (if anyC base word xs ((q : Int) + 1) then [(q : Int) + 1] else []) := by
  unfold upTo
  rw [List.range_succ, List.map_append, List.filter_append]
  congr 1
  cases h : anyC base word xs ((q : Int) + 1) <;> simp [h]
theorem upTo_len (base word : ByteArray) (xs : List En) (q : Nat) : (upTo base word xs q).length ≤ q := by
  unfold upTo
  refine Nat.le_trans (List.length_filter_le _ _) ?_
  simp
theorem anyC_step {base word : ByteArray} {xs : List En} {k : Nat} {x : En} (h : xs[k]? = some x) (c : Int) : anyC base word (xs.take (k + 1)) c = (anyC base word (xs.take k) c || (hitB base word x && decide (x.2.2 = c))) := by
  unfold anyC; rw [take_snocE h, List.any_append]; simp
theorem anyC_all (base word : ByteArray) (xs : List En) (k : Nat) (c : Int) (h : xs.length ≤ k) : anyC base word (xs.take k) c = anyC base word xs c := by rw [List.take_of_length_le h]
theorem upTo_set (base word : ByteArray) (xs : List En) (h : ∀ e ∈ xs, 1 ≤ e.2.2 ∧ e.2.2 ≤ 9) : IsSetI (upTo base word xs 9) (caseL base word xs) := by
  refine ⟨?_, fun x => ?_⟩
  · unfold upTo
    refine List.Pairwise.filter _ ?_
    rw [List.pairwise_map]
    exact List.pairwise_lt_range.imp fun h => by omega
  · unfold upTo caseL
    rw [List.mem_filter, List.mem_map, List.mem_map]
    constructor
    · rintro ⟨_, h2⟩
      unfold anyC at h2
      rw [List.any_eq_true] at h2
      obtain ⟨e, he, h3⟩ := h2
      rw [Bool.and_eq_true, decide_eq_true_eq] at h3
      exact ⟨e, List.mem_filter.2 ⟨he, h3.1⟩, h3.2⟩
    · rintro ⟨e, he, rfl⟩
      obtain ⟨h1, h2⟩ := List.mem_filter.1 he
      have h3 := h e h1
      refine ⟨⟨(e.2.2 - 1).toNat, List.mem_range.2 (by omega), by omega⟩, ?_⟩
      unfold anyC
      rw [List.any_eq_true]
      exact ⟨e, h1, by rw [h2]; simp⟩

set_option maxHeartbeats 4000000 in
set_option maxRecDepth 100000 in
theorem tCases_spec (A : Option Addr) (n c : Nat) (xs : List En) (base word : ByteArray) (w : World) (hbig : n ≤ 1048576) (hs : ∀ e ∈ xs, e.1.size ≤ 1048576 ∧ e.2.1.size ≤ 1048576) (hw0 : base.size ≤ 1048576) (hw : word.size ≤ 1048576) (h : EnAt w w.heap.size A n xs) :
    Calls Try.prog 17 #[.slice A n c, .string base, .string word] w (OutI (csZ xs base word) (csC xs base word) w) := by
  obtain ⟨i0, hi0, hz0, hz1, hz2⟩ := info_parts info_i64
  have CC := Lib.hid (cCode8 A n c xs word w hbig hs hw h)
  have CW := Lib.hid (fun W => cIsWord_spec base W (by unfold maxLen; omega))
  have H := Lib.hid h
  have HN := Lib.hid h.1
  have HS := Lib.hid hs
  clear h hs
  cases hv : (tabE xs && wordB word)
  · have ho : okC xs base word = false := by
      unfold okC
      cases h1 : tabE xs
      · rfl
      · rw [h1] at hv
        have : wordB word = false := by simpa using hv
        rw [this]; simp
    rw [csZ_bad ho, csC_bad ho]
    rw [fmC_bad hv] at CC
    clear hv ho
    go_enter Try.func17, Try.ntmps17
    go_wp2_with fail
    refine CC.out.mono ?_
    rintro e w1 ⟨rfl, hb1⟩
    go_wp2_with fail
    go_ret2
    exact ⟨none, 0, 0, rfl, World.ownsRow_nil _ _ _ _, hb1⟩
  rw [fmC_ok hv] at CC
  rw [Bool.and_eq_true] at hv
  cases hwb : wordB base
  · have ho : okC xs base word = false := by unfold okC; rw [hwb]; simp
    rw [csZ_bad ho, csC_bad ho]
    rw [hwb] at CW
    clear hv ho hwb
    go_enter Try.func17, Try.ntmps17
    go_wp2_with fail
    refine CC.out.mono ?_
    rintro e w1 ⟨rfl, hb1⟩
    go_wp2_with (go_at_call 51; refine (CW.out _).mono ?_; rintro e w' ⟨rfl, rfl⟩)
    go_ret2
    exact ⟨none, 0, 0, rfl, World.ownsRow_nil _ _ _ _, hb1⟩
  have ho : okC xs base word = true := by unfold okC; rw [hv.1, hv.2, hwb]; rfl
  rw [csZ_ok ho, csC_ok ho]
  rw [hwb] at CW
  have HSET := Lib.hid (setI_eq (upTo_set base word xs (fun e he => end_case e (end_mem xs (tabE_ends xs hv.1) e he))))
  have HLN : Hid (n ≤ 16) := Lib.hid (by have := tabE_len xs hv.1; have := HN.out; omega)
  clear hv ho hwb
  go_enter Try.func17, Try.ntmps17
  go_wp2_with fail
  refine CC.out.mono ?_
  rintro e w1 ⟨rfl, hb1⟩
  have hO := World.ownsRow_lit (e := 2) (base := w.heap.size) (size := 1) w1 #[] 0 hb1.size (by decide) rfl
  have HO0 := Lib.hid hO
  have hb1a := hb1.alloc hb1.size (.cells #[] 2)
  clear hO
  go_wp2_with (go_at_call 51; refine (CW.out _).mono ?_; rintro e w' ⟨rfl, rfl⟩)
  go_loopw [9, 10] (fun o i wr => ∃ (q m d : Nat) (B : Option Addr), q ≤ 9 ∧ i = .int .i64 ((q : Int) + 1) ∧ o = .slice B m d ∧ Hid (m ≤ q) ∧ Hid (wr.ownsRow w.heap.size 2 1 (.slice B m d) m (intV (upTo base word xs q))) ∧ Below w.heap.size w wr) (fun _ i _ => 10 - (intOf i).toNat)
  case atStart => exact ⟨0, 0, 0, _, Nat.zero_le _, rfl, rfl, Lib.hid (Nat.le_refl _), HO0, hb1a⟩
  case round =>
    clear HO0 hb1a hb1 CC
    obtain ⟨q, m, d, B, hq, rfl, rfl, HM, HO, hbw⟩ := hrel
    by_cases hlt : q < 9
    · obtain ⟨wo, hwo⟩ : ∃ wo, wo = wr := ⟨_, rfl⟩
      have hbo := hbw
      rw [← hwo] at hbo
      have HOo := HO
      rw [← hwo] at HOo
      have d9 : decide ((q : Int) + 1 ≤ 9) = true := decide_eq_true (by omega)
      have v0 : (0 : Int) ≤ (q : Int) := Int.natCast_nonneg _
      rw [← hwo]
      clear hbw HO hwo
      go_wp2_with fail
      go_loopw [11, 12] (fun f i wq => ∃ (k : Nat) (bb : Bool), k ≤ n ∧ i = .int .i64 k ∧ f = .bool bb ∧ Hid (bb = anyC base word (xs.take k) ((q : Int) + 1)) ∧ Below wo.heap.size wo wq) (fun _ i _ => n - (intOf i).toNat)
      case atStart => exact ⟨0, false, Nat.zero_le _, rfl, rfl, Lib.hid rfl, Below.refl _ _⟩
      case round =>
        obtain ⟨k, bb, hk, rfl, rfl, HBB, hbq⟩ := hrel
        have hbt := bstep hbo hbo.size hbq
        by_cases hlk : k < n
        · obtain ⟨x, hx⟩ : ∃ x, xs[k]? = some x := ⟨xs[k]'(by have := HN.out; omega), List.getElem?_eq_getElem _⟩
          obtain ⟨b, o, rfl, hbl, c0, c1, c2⟩ := (H.out.below hbt (Nat.le_refl _)).row hx
          have hsx := HS.out x (List.mem_of_getElem? hx)
          have HST := Lib.hid (anyC_step (base := base) (word := word) hx ((q : Int) + 1))
          obtain ⟨xo, xn, xc⟩ := x
          have CH := Lib.hid (fun W => cChange base xo xn W hw0 hsx.1 hsx.2)
          have CY : Hid (chB base xo xn = true → chS base xo xn = chT base xo xn) := Lib.hid chS_yes
          have HHB : Hid (hitB base word (xo, xn, xc) = (chB base xo xn && decide (chT base xo xn = word))) := Lib.hid rfl
          have u1 : (0 : Int) ≤ (k : Int) := Int.natCast_nonneg _
          have u2 : (k : Int) < (n : Int) := by omega
          clear hx hsx
          cases bb
          · cases hf : chB base xo xn
            · rw [hf] at CH HHB
              have HB2 : Hid (false = anyC base word (xs.take (k + 1)) ((q : Int) + 1)) := Lib.hid (by rw [HST.out, ← HBB.out, HHB.out]; rfl)
              clear hf CY
              generalize chS base xo xn = T at CH
              go_wp2_with fail
              go_quiet ((go_at_call 42; exact Calls.quiet_of_same ((CH.out _).mono (fun _ _ h => ⟨h.1, h.2.symm⟩))))
              go_wp2_with fail
              go_roundw
              case rel => exact ⟨k + 1, false, by omega, by go_num, rfl, HB2, below_drewN_q hbq _⟩
              case measure => simp [intOf]; omega
            · rw [hf] at CH HHB
              rw [CY.out hf] at CH
              have hq2 : (((chT base xo xn).toList == word.toList)) = decide (chT base xo xn = word) := toList_beq' _ _
              by_cases he : chT base xo xn = word
              · rw [decide_eq_true he] at hq2 HHB
                clear hf CY he
                generalize chT base xo xn = T at CH hq2
                have hd : (xc == (q : Int) + 1) = decide (xc = (q : Int) + 1) := by rw [Bool.eq_iff_iff]; simp
                by_cases hc : xc = (q : Int) + 1
                · rw [decide_eq_true hc] at hd
                  have HB2 : Hid (true = anyC base word (xs.take (k + 1)) ((q : Int) + 1)) := Lib.hid (by rw [HST.out, HHB.out, decide_eq_true hc]; simp)
                  clear hc
                  go_wp2_with fail
                  go_quiet ((go_at_call 42; exact Calls.quiet_of_same ((CH.out _).mono (fun _ _ h => ⟨h.1, h.2.symm⟩))))
                  go_wp2_with fail
                  go_roundw
                  case rel => exact ⟨k + 1, true, by omega, by go_num, rfl, HB2, below_drewN_q hbq _⟩
                  case measure => simp [intOf]; omega
                · rw [decide_eq_false hc] at hd
                  have HB2 : Hid (false = anyC base word (xs.take (k + 1)) ((q : Int) + 1)) := Lib.hid (by rw [HST.out, ← HBB.out, HHB.out, decide_eq_false hc]; rfl)
                  clear hc
                  go_wp2_with fail
                  go_quiet ((go_at_call 42; exact Calls.quiet_of_same ((CH.out _).mono (fun _ _ h => ⟨h.1, h.2.symm⟩))))
                  go_wp2_with fail
                  go_roundw
                  case rel => exact ⟨k + 1, false, by omega, by go_num, rfl, HB2, below_drewN_q hbq _⟩
                  case measure => simp [intOf]; omega
              · rw [decide_eq_false he] at hq2 HHB
                have HB2 : Hid (false = anyC base word (xs.take (k + 1)) ((q : Int) + 1)) := Lib.hid (by rw [HST.out, ← HBB.out, HHB.out]; rfl)
                clear hf CY he
                generalize chT base xo xn = T at CH hq2
                go_wp2_with fail
                go_quiet ((go_at_call 42; exact Calls.quiet_of_same ((CH.out _).mono (fun _ _ h => ⟨h.1, h.2.symm⟩))))
                go_wp2_with fail
                go_roundw
                case rel => exact ⟨k + 1, false, by omega, by go_num, rfl, HB2, below_drewN_q hbq _⟩
                case measure => simp [intOf]; omega
          · have HB2 : Hid (true = anyC base word (xs.take (k + 1)) ((q : Int) + 1)) := Lib.hid (by rw [HST.out, ← HBB.out]; rfl)
            clear CY HHB HST
            generalize chS base xo xn = T at CH
            generalize chB base xo xn = T2 at CH
            go_wp2_with fail
            go_quiet ((go_at_call 42; exact Calls.quiet_of_same ((CH.out _).mono (fun _ _ h => ⟨h.1, h.2.symm⟩))))
            go_wp2_with fail
            go_roundw
            case rel => exact ⟨k + 1, true, by omega, by go_num, rfl, HB2, below_drewN_q hbq _⟩
            case measure => simp [intOf]; omega
        · have HE : Hid (bb = anyC base word xs ((q : Int) + 1)) := Lib.hid (by rw [← anyC_all base word xs k _ (by have := HN.out; omega)]; exact HBB.out)
          have HUP := Lib.hid (upTo_step base word xs q)
          rw [← HE.out] at HUP
          have hown := kept_none HOo.out hbq
          have hmq := HM.out
          cases bb
          · have HO2 : Hid (wr.ownsRow w.heap.size 2 1 (.slice B m d) m (intV (upTo base word xs (q + 1)))) := Lib.hid (by rw [HUP.out]; simpa using hown)
            clear hown
            go_wp2_with fail
            go_roundw
            case rel => exact ⟨q + 1, m, d, B, by omega, by go_num, rfl, Lib.hid (by omega), HO2, hbt⟩
            case measure => simp [intOf]; omega
          · go_wp2_with (at_builtin; refine wpList_append_own _ rfl _ _ 32 rfl w.heap.size 2 i0 _ 1 8 Try.underlying32 hi0 hz0 hz1 hz2 rfl (by decide) _ _ _ rfl (hown.alloc _) ⟨wr.heap.size, 0, none⟩ 1 1 [.int .i64 ((q : Int) + 1)] rfl rfl (one_cell' _ _ _ (new_one _ _ _)) (fun u hu => (by simp at hu; subst hu; rfl)) (by unfold maxLen; omega) (by omega) (by have := hbt.size; simp; omega) ?_)
            intro v' w5 hown3 hgrow3 _
            rw [intV_snoc] at hown3
            have hb5 : Below w.heap.size w w5 := (hbt.alloc hbt.size _).grown hgrow3 (by have := hbt.size; simp; omega) (fun x hx => (hown.lt x hx).1)
            have HO3 : Hid (w5.ownsRow w.heap.size 2 1 v' (m + 1) (intV (upTo base word xs (q + 1)))) := Lib.hid (by rw [HUP.out]; exact hown3)
            obtain ⟨g', c', rfl, _, _⟩ := World.ownsRow.form HO3.out (by omega)
            clear hown3 hown hgrow3
            go_wp2_with fail
            go_roundw
            case rel => exact ⟨q + 1, m + 1, c', some ⟨g', 0, none⟩, by omega, by go_num, rfl, Lib.hid (by omega), HO3, hb5⟩
            case measure => simp [intOf]; omega
    · obtain rfl : q = 9 := by omega
      have HO2 : Hid (wr.ownsRow w.heap.size 2 1 (.slice B m d) m (intV (setI (caseL base word xs)))) := Lib.hid (by rw [← HSET.out]; exact HO.out)
      go_wp2_with fail
      go_ret2
      exact ⟨B, m, d, rfl, HO2.out, hbw⟩
end Go.Proofs.Ytippjomkbpiliaa
