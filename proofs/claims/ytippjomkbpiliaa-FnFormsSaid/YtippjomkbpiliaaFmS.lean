/-
  The contracts of spec.FormsOf and spec.BasesOf.
-/
import Derived.Test.YtippjomkbpiliaaFm
import Derived.Test.YtippjomkbpiliaaInsS
namespace Go.Proofs.Ytippjomkbpiliaa
set_option linter.unusedVariables false
open Go.RowKit

theorem cCode8 (A : Option Addr) (n c : Nat) (xs : List En) (word : ByteArray) (w : World) (hbig : n ≤ 1048576) (hs : ∀ e ∈ xs, e.1.size ≤ 1048576 ∧ e.2.1.size ≤ 1048576) (hw : word.size ≤ 1048576) (h : EnAt w w.heap.size A n xs) :
    Calls Try.prog 41 #[.slice A n c, .string word] w fun e w' => e = .returned (.int .i64 (fmC xs word)) ∧ Below w.heap.size w w' := by
  have CT := Lib.hid (tTabE_spec A n c xs w hbig (fun e he => by have := hs e he; unfold maxLen; omega) h)
  have CW := Lib.hid (fun W => cIsWord_spec word W (by unfold maxLen; omega))
  clear h hs
  cases hv : (tabE xs && wordB word)
  · rw [fmC_bad hv]
    cases ht : tabE xs
    · rw [ht] at CT
      clear hv ht
      go_enter Try.func41, Try.ntmps41
      go_wp2_with fail
      refine CT.out.mono ?_
      rintro e w1 ⟨rfl, hb1⟩
      go_wp2_with fail
      go_ret
      exact ⟨rfl, hb1⟩
    · have hwf : wordB word = false := by rw [ht] at hv; simpa using hv
      rw [ht] at CT
      rw [hwf] at CW
      clear hv ht hwf
      go_enter Try.func41, Try.ntmps41
      go_wp2_with fail
      refine CT.out.mono ?_
      rintro e w1 ⟨rfl, hb1⟩
      go_wp2_with (go_at_call 51; refine (CW.out _).mono ?_; rintro e w' ⟨rfl, rfl⟩)
      go_ret
      exact ⟨rfl, hb1⟩
  · rw [fmC_ok hv]
    rw [Bool.and_eq_true] at hv
    rw [hv.1] at CT
    rw [hv.2] at CW
    clear hv
    go_enter Try.func41, Try.ntmps41
    go_wp2_with fail
    refine CT.out.mono ?_
    rintro e w1 ⟨rfl, hb1⟩
    go_wp2_with (go_at_call 51; refine (CW.out _).mono ?_; rintro e w' ⟨rfl, rfl⟩)
    go_ret
    exact ⟨rfl, hb1⟩

set_option maxHeartbeats 2000000 in
set_option maxRecDepth 100000 in
theorem tForms_spec (A : Option Addr) (n c : Nat) (xs : List En) (word : ByteArray) (w : World) (hbig : n ≤ 1048576) (hs : ∀ e ∈ xs, e.1.size ≤ 1048576 ∧ e.2.1.size ≤ 1048576) (hw : word.size ≤ 1048576) (h : EnAt w w.heap.size A n xs) :
    Calls Try.prog 14 #[.slice A n c, .string word] w (OutT (formsZ xs word) (fmC xs word) w) := by
  have CC := Lib.hid (cCode8 A n c xs word w hbig hs hw h)
  have H := Lib.hid h
  have HN := Lib.hid h.1
  have HS := Lib.hid hs
  clear h hs
  cases hv : (tabE xs && wordB word)
  · rw [formsZ_bad hv]
    rw [fmC_bad hv] at CC ⊢
    clear hv
    go_enter Try.func14, Try.ntmps14
    go_wp2_with fail
    refine CC.out.mono ?_
    rintro e w1 ⟨rfl, hb1⟩
    go_wp2_with fail
    go_ret2
    exact ⟨none, 0, 0, rfl, World.ownsRow_nil _ _ _ _, hb1⟩
  rw [formsZ_ok hv]
  rw [fmC_ok hv] at CC ⊢
  clear hv
  go_enter Try.func14, Try.ntmps14
  go_wp2_with fail
  refine CC.out.mono ?_
  rintro e w1 ⟨rfl, hb1⟩
  have hO := World.ownsRow_lit (e := 9) (base := w.heap.size) (size := 1) w1 #[] 0 hb1.size (by decide) rfl
  have HO0 := Lib.hid hO
  have hb1a := hb1.alloc hb1.size (.cells #[] 9)
  clear hO
  go_wp2_with fail
  go_loopw [7, 8] (fun o i wr => ∃ (k g m d : Nat) (zs : List ByteArray), k ≤ n ∧ i = .int .i64 k ∧ o = .slice (some ⟨g, 0, none⟩) m d ∧ Hid (m ≤ k) ∧ Hid (RowT wr w.heap.size g m d zs) ∧ Hid (IsSetT zs ((xs.take k).filterMap (formO word))) ∧ Below w.heap.size w wr) (fun _ i _ => n - (intOf i).toNat)
  case atStart => exact ⟨0, w1.heap.size, 0, 0, [], Nat.zero_le _, rfl, rfl, Lib.hid (Nat.le_refl _), HO0, Lib.hid ⟨List.Pairwise.nil, by simp⟩, hb1a⟩
  case round =>
    clear HO0 hb1a hb1 CC
    obtain ⟨k, g, m, d, zs, hk, rfl, rfl, HM, HO, HZ, hbw⟩ := hrel
    by_cases hlt : k < n
    · obtain ⟨x, hx⟩ : ∃ x, xs[k]? = some x := ⟨xs[k]'(by have := HN.out; omega), List.getElem?_eq_getElem _⟩
      obtain ⟨b, o, rfl, hbl, c0, c1, c2⟩ := (H.out.below hbw (Nat.le_refl _)).row hx
      have hsx := HS.out x (List.mem_of_getElem? hx)
      have hst := fm_take_step (formO word) xs k x hx
      obtain ⟨xo, xn, xc⟩ := x
      have CH := Lib.hid (fun W => cChange word xo xn W hw hsx.1 hsx.2)
      have CY : Hid (chB word xo xn = true → chS word xo xn = chT word xo xn) := Lib.hid chS_yes
      have HST : Hid ((xs.take (k + 1)).filterMap (formO word) = (xs.take k).filterMap (formO word) ++ (if chB word xo xn then [chT word xo xn] else [])) := Lib.hid (by
        rw [hst]
        congr 1
        unfold formO
        dsimp only
        cases chB word xo xn <;> rfl)
      have hmk := HM.out
      have u1 : (0 : Int) ≤ (k : Int) := Int.natCast_nonneg _
      have u2 : (k : Int) < (n : Int) := by omega
      clear hx hst hsx
      cases hf : chB word xo xn
      · rw [hf] at CH HST
        have HZ2 : Hid (IsSetT zs ((xs.take (k + 1)).filterMap (formO word))) := Lib.hid (by rw [HST.out]; simpa using HZ.out)
        clear hf CY
        generalize chS word xo xn = T at CH
        go_wp2_with fail
        go_quiet ((go_at_call 42; exact Calls.quiet_of_same ((CH.out _).mono (fun _ _ h => ⟨h.1, h.2.symm⟩))))
        go_wp2_with fail
        go_roundw
        case rel => exact ⟨k + 1, g, m, d, zs, by omega, by go_num, rfl, Lib.hid (by omega), HO, HZ2, below_drewN_q hbw _⟩
        case measure => simp [intOf]; omega
      · rw [hf] at CH HST
        rw [CY.out hf] at CH
        have HZ2 : Hid (∀ ys', IsSetT ys' ((xs.take k).filterMap (formO word) ++ [chT word xo xn]) → IsSetT ys' ((xs.take (k + 1)).filterMap (formO word))) := Lib.hid (fun ys' h => by rw [HST.out]; exact h)
        clear hf CY HST
        generalize chT word xo xn = T at CH HZ2
        go_wp2_with fail
        go_quiet ((go_at_call 42; exact Calls.quiet_of_same ((CH.out _).mono (fun _ _ h => ⟨h.1, h.2.symm⟩))))
        have HOq : Hid (RowT (wr.drewN nq) w.heap.size g m d zs) := HO
        have hbq : Below w.heap.size w (wr.drewN nq) := below_drewN_q hbw _
        have CI := Lib.hid (cIns w.heap.size g m d zs ((xs.take k).filterMap (formO word)) T (wr.drewN nq) (by omega) hbq.size HOq.out HZ.out)
        have HZL : Hid (zs.length = m) := Lib.hid (by have := HO.out.1; rw [strV_len] at this; omega)
        go_wp2_with fail
        refine CI.out.mono ?_
        rintro e w3 ⟨g3, m3, d3, zs3, rfl, hm3, hown3, hz3, hb3⟩
        have hbt := bstep hbq hbq.size hb3
        have HO3 := Lib.hid hown3
        have HZ3 := Lib.hid (HZ2.out _ hz3)
        have HM3 : Hid (m3 ≤ k + 1) := Lib.hid (by have := HZL.out; omega)
        clear hown3 hz3 hb3 hm3 hbq
        go_wp2_with fail
        go_roundw
        case rel => exact ⟨k + 1, g3, m3, d3, zs3, by omega, by go_num, rfl, HM3, HO3, HZ3, hbt⟩
        case measure => simp [intOf]; omega
    · have HE : Hid (zs = setT (xs.filterMap (formO word))) := Lib.hid (setT_eq (by have := HZ.out; rwa [fm_all _ xs k (by have := HN.out; omega)] at this))
      have HO2 : Hid (wr.ownsRow w.heap.size 9 1 (.slice (some ⟨g, 0, none⟩) m d) m (strV (setT (xs.filterMap (formO word))))) := Lib.hid (by rw [← HE.out]; exact HO.out)
      go_wp2_with fail
      go_ret2
      exact ⟨_, m, d, rfl, HO2.out, hbw⟩

set_option maxHeartbeats 2000000 in
set_option maxRecDepth 100000 in
theorem tBases_spec (A : Option Addr) (n c : Nat) (xs : List En) (word : ByteArray) (w : World) (hbig : n ≤ 1048576) (hs : ∀ e ∈ xs, e.1.size ≤ 1048576 ∧ e.2.1.size ≤ 1048576) (hw : word.size ≤ 1048576) (h : EnAt w w.heap.size A n xs) :
    Calls Try.prog 12 #[.slice A n c, .string word] w (OutT (basesZ xs word) (fmC xs word) w) := by
  have CC := Lib.hid (cCode8 A n c xs word w hbig hs hw h)
  have H := Lib.hid h
  have HN := Lib.hid h.1
  have HS := Lib.hid hs
  clear h hs
  cases hv : (tabE xs && wordB word)
  · rw [basesZ_bad hv]
    rw [fmC_bad hv] at CC ⊢
    clear hv
    go_enter Try.func12, Try.ntmps12
    go_wp2_with fail
    refine CC.out.mono ?_
    rintro e w1 ⟨rfl, hb1⟩
    go_wp2_with fail
    go_ret2
    exact ⟨none, 0, 0, rfl, World.ownsRow_nil _ _ _ _, hb1⟩
  rw [basesZ_ok hv]
  rw [fmC_ok hv] at CC ⊢
  clear hv
  go_enter Try.func12, Try.ntmps12
  go_wp2_with fail
  refine CC.out.mono ?_
  rintro e w1 ⟨rfl, hb1⟩
  have hO := World.ownsRow_lit (e := 9) (base := w.heap.size) (size := 1) w1 #[] 0 hb1.size (by decide) rfl
  have HO0 := Lib.hid hO
  have hb1a := hb1.alloc hb1.size (.cells #[] 9)
  clear hO
  go_wp2_with fail
  go_loopw [7, 8] (fun o i wr => ∃ (k g m d : Nat) (zs : List ByteArray), k ≤ n ∧ i = .int .i64 k ∧ o = .slice (some ⟨g, 0, none⟩) m d ∧ Hid (m ≤ k) ∧ Hid (RowT wr w.heap.size g m d zs) ∧ Hid (IsSetT zs ((xs.take k).filterMap (baseO word))) ∧ Below w.heap.size w wr) (fun _ i _ => n - (intOf i).toNat)
  case atStart => exact ⟨0, w1.heap.size, 0, 0, [], Nat.zero_le _, rfl, rfl, Lib.hid (Nat.le_refl _), HO0, Lib.hid ⟨List.Pairwise.nil, by simp⟩, hb1a⟩
  case round =>
    clear HO0 hb1a hb1 CC
    obtain ⟨k, g, m, d, zs, hk, rfl, rfl, HM, HO, HZ, hbw⟩ := hrel
    by_cases hlt : k < n
    · obtain ⟨x, hx⟩ : ∃ x, xs[k]? = some x := ⟨xs[k]'(by have := HN.out; omega), List.getElem?_eq_getElem _⟩
      obtain ⟨b, o, rfl, hbl, c0, c1, c2⟩ := (H.out.below hbw (Nat.le_refl _)).row hx
      have hsx := HS.out x (List.mem_of_getElem? hx)
      have hst := fm_take_step (baseO word) xs k x hx
      obtain ⟨xo, xn, xc⟩ := x
      have CH := Lib.hid (fun W => cChange word xn xo W hw hsx.2 hsx.1)
      have CY : Hid (chB word xn xo = true → chS word xn xo = chT word xn xo) := Lib.hid chS_yes
      have HST : Hid ((xs.take (k + 1)).filterMap (baseO word) = (xs.take k).filterMap (baseO word) ++ (if chB word xn xo then [chT word xn xo] else [])) := Lib.hid (by
        rw [hst]
        congr 1
        unfold baseO
        dsimp only
        cases chB word xn xo <;> rfl)
      have hmk := HM.out
      have u1 : (0 : Int) ≤ (k : Int) := Int.natCast_nonneg _
      have u2 : (k : Int) < (n : Int) := by omega
      clear hx hst hsx
      cases hf : chB word xn xo
      · rw [hf] at CH HST
        have HZ2 : Hid (IsSetT zs ((xs.take (k + 1)).filterMap (baseO word))) := Lib.hid (by rw [HST.out]; simpa using HZ.out)
        clear hf CY
        generalize chS word xn xo = T at CH
        go_wp2_with fail
        go_quiet ((go_at_call 42; exact Calls.quiet_of_same ((CH.out _).mono (fun _ _ h => ⟨h.1, h.2.symm⟩))))
        go_wp2_with fail
        go_roundw
        case rel => exact ⟨k + 1, g, m, d, zs, by omega, by go_num, rfl, Lib.hid (by omega), HO, HZ2, below_drewN_q hbw _⟩
        case measure => simp [intOf]; omega
      · rw [hf] at CH HST
        rw [CY.out hf] at CH
        have HZ2 : Hid (∀ ys', IsSetT ys' ((xs.take k).filterMap (baseO word) ++ [chT word xn xo]) → IsSetT ys' ((xs.take (k + 1)).filterMap (baseO word))) := Lib.hid (fun ys' h => by rw [HST.out]; exact h)
        clear hf CY HST
        generalize chT word xn xo = T at CH HZ2
        go_wp2_with fail
        go_quiet ((go_at_call 42; exact Calls.quiet_of_same ((CH.out _).mono (fun _ _ h => ⟨h.1, h.2.symm⟩))))
        have HOq : Hid (RowT (wr.drewN nq) w.heap.size g m d zs) := HO
        have hbq : Below w.heap.size w (wr.drewN nq) := below_drewN_q hbw _
        have CI := Lib.hid (cIns w.heap.size g m d zs ((xs.take k).filterMap (baseO word)) T (wr.drewN nq) (by omega) hbq.size HOq.out HZ.out)
        have HZL : Hid (zs.length = m) := Lib.hid (by have := HO.out.1; rw [strV_len] at this; omega)
        go_wp2_with fail
        refine CI.out.mono ?_
        rintro e w3 ⟨g3, m3, d3, zs3, rfl, hm3, hown3, hz3, hb3⟩
        have hbt := bstep hbq hbq.size hb3
        have HO3 := Lib.hid hown3
        have HZ3 := Lib.hid (HZ2.out _ hz3)
        have HM3 : Hid (m3 ≤ k + 1) := Lib.hid (by have := HZL.out; omega)
        clear hown3 hz3 hb3 hm3 hbq
        go_wp2_with fail
        go_roundw
        case rel => exact ⟨k + 1, g3, m3, d3, zs3, by omega, by go_num, rfl, HM3, HO3, HZ3, hbt⟩
        case measure => simp [intOf]; omega
    · have HE : Hid (zs = setT (xs.filterMap (baseO word))) := Lib.hid (setT_eq (by have := HZ.out; rwa [fm_all _ xs k (by have := HN.out; omega)] at this))
      have HO2 : Hid (wr.ownsRow w.heap.size 9 1 (.slice (some ⟨g, 0, none⟩) m d) m (strV (setT (xs.filterMap (baseO word))))) := Lib.hid (by rw [← HE.out]; exact HO.out)
      go_wp2_with fail
      go_ret2
      exact ⟨_, m, d, rfl, HO2.out, hbw⟩
end Go.Proofs.Ytippjomkbpiliaa
