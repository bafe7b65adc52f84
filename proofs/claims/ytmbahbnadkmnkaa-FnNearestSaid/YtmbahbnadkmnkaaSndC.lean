/-
  The contract of spec.l07Sound.
-/
import Derived.Test.YtmbahbnadkmnkaaSndS
import Derived.Test.YtmbahbnadkmnkaaSndI
namespace Go.Proofs.Ytmbahbnadkmnkaa
set_option linter.unusedVariables false
open Go.RowKit

def strSz : Value → Nat
  | .string t => t.size
  | _ => 0
theorem toL_app (a b : ByteArray) : (a ++ b).data.toList = a.data.toList ++ b.data.toList := by simp
theorem size_toL' (s : ByteArray) : s.size = s.data.toList.length := by simp
theorem dec_dig (q : Int) (h0 : 0 ≤ q) (h9 : q ≤ 9) : (decB q.toNat).data.toList = [digC q] := by
  rw [decB_small _ (by omega)]; rfl
theorem snd_is {xs : List Int} {s t l : ByteArray} (h : sndL xs s = t.data.toList) : sndB xs s = t := by
  unfold sndB; rw [h]

set_option maxHeartbeats 2000000 in
set_option maxRecDepth 100000 in
theorem cSoundS (A : Option Addr) (n c B : Nat) (xs : List Int) (s : ByteArray) (w : World) (h : NumAt w B A n xs) (hB : B ≤ w.heap.size) (ht : tabB xs = true) (hw : wordB s = true) :
    Calls Try.prog 57 #[.slice A n c, .string s] w fun e w' => e = .returned (.string (sndB xs s)) ∧ Below w.heap.size w w' := by
  have hws := word_size s hw
  have hp1 := hws.1
  have hp2 := hws.2
  have HLOW := Lib.hid (word_low hw)
  have HTB := Lib.hid ht
  have hn26 : n = 26 := by rw [h.1, tab_len ht]
  subst hn26
  have HX := Lib.hid (show (26 : Nat) = xs.length from h.1)
  obtain ⟨b, o, rfl, hbl, hc⟩ := h.2 (by omega)
  have hbw : b < w.heap.size := by omega
  have HC := Lib.hid hc
  have p0 : (0 : Int) < (s.size : Int) := by omega
  have p1 : (1 : Int) ≤ (s.size : Int) := by omega
  have HFST := Lib.hid (sndU_first xs s hp1)
  have h1t : (s.extract 0 1).data.toList = sndU xs s 0 := by
    rw [Lib.extract_data]; simp [sndU]
  have h1s : (s.extract 0 1).size = 1 := extract_size s 0 1 hp1
  obtain ⟨t1, ht1⟩ : ∃ t1, t1 = s.extract 0 1 := ⟨_, rfl⟩
  have HT1 := Lib.hid ht1
  rw [← ht1] at h1t h1s
  have H1T := Lib.hid h1t
  have H1S := Lib.hid h1s
  clear h ht hw hws hc hbl h1t h1s ht1
  go_enter Try.func57, Try.ntmps57
  go_wp2_with fail
  rw [← HT1.out]
  go_loopw [5, 6, 7] (fun ov i nv wr => ∃ (k m : Nat) (t : ByteArray) (u : Value), ov = .string t ∧ u = nv ∧ k < s.size ∧ i = .int .i64 ((k : Int) + 1) ∧ Hid (t.data.toList = sndU xs s k) ∧ Hid (t.size = m) ∧ m ≤ 4 ∧ Hid (Below w.heap.size w wr)) (fun _ i _ _ => s.size + 1 - (intOf i).toNat)
  case atStart => exact ⟨0, 1, t1, _, rfl, rfl, hp1, rfl, H1T, H1S, by omega, Lib.hid (Below.refl _ _)⟩
  case round =>
    clear H1T H1S HT1
    obtain ⟨k, m, t, u, rfl, rfl, hk, rfl, HT, HM, hm, HB⟩ := hrel
    by_cases hA : k + 1 < s.size ∧ m < 4
    · obtain ⟨hlt, hm4⟩ := hA
      have c1 := low_at HLOW.out hlt
      have c2 := low_at HLOW.out hk
      have hq := numK_bd HTB.out s (k + 1)
      have hq0 := numK_bd HTB.out s k
      have x1 := numK_cell HTB.out HLOW.out hlt
      have x0 := numK_cell HTB.out HLOW.out hk
      have HGY : Hid (numK xs s (k + 1) ≠ 0 → numK xs s (k + 1) ≠ numK xs s k → sndU xs s (k + 1) = sndU xs s k ++ [digC (numK xs s (k + 1))]) := Lib.hid (fun a b => sndU_yes (gives_yes a (by rw [Nat.add_sub_cancel]; exact b)))
      have HGN : Hid ((numK xs s (k + 1) = 0 ∨ numK xs s (k + 1) = numK xs s k) → sndU xs s (k + 1) = sndU xs s k) := Lib.hid (fun a => sndU_no (gives_no (by rw [Nat.add_sub_cancel]; exact a)))
      obtain ⟨q, hqe⟩ : ∃ q, q = numK xs s (k + 1) := ⟨_, rfl⟩
      obtain ⟨q0, hqe0⟩ : ∃ q0, q0 = numK xs s k := ⟨_, rfl⟩
      rw [← hqe] at hq x1 HGY HGN
      rw [← hqe0] at hq0 x0 HGY HGN
      obtain ⟨m1, hm1⟩ : ∃ m1, m1 = s[k + 1].toNat - 97 := ⟨_, rfl⟩
      obtain ⟨m0, hm0⟩ : ∃ m0, m0 = s[k].toNat - 97 := ⟨_, rfl⟩
      have f1 : IntKind.u8.wrap ((s[k + 1].toNat : Int) - 97) = (m1 : Int) := by rw [IntWalk.u8_in _ (by omega)]; omega
      have f0 : IntKind.u8.wrap ((s[k].toNat : Int) - 97) = (m0 : Int) := by rw [IntWalk.u8_in _ (by omega)]; omega
      rw [← hm1] at x1
      rw [← hm0] at x0
      have k1 : wr.cell? ⟨b, o + m1, none⟩ = some (.int .i64 q) := (HB.out.cell (p := ⟨b, o + m1, none⟩) hbw).trans (HC.out _ _ x1)
      have k0 : wr.cell? ⟨b, o + m0, none⟩ = some (.int .i64 q0) := (HB.out.cell (p := ⟨b, o + m0, none⟩) hbw).trans (HC.out _ _ x0)
      have g1 : m1 < 26 := by omega
      have g0 : m0 < 26 := by omega
      have i1 : (0 : Int) ≤ (k : Int) + 1 := by omega
      have i2 : (k : Int) + 1 < (s.size : Int) := by omega
      have i3 : ((k : Int) + 1).toNat = k + 1 := by omega
      have i4 : (k : Int) + 1 - 1 = (k : Int) := by omega
      have i5 : (0 : Int) ≤ (k : Int) := Int.natCast_nonneg _
      have i6 : (k : Int) < (s.size : Int) := by omega
      have tm : t.size = m := HM.out
      clear c1 c2 hqe hqe0 hm1 hm0 x1 x0
      by_cases hq0' : q = 0
      · have HG2 := Lib.hid (HGN.out (.inl hq0'))
        subst hq0'
        go_wp2_with fail
        go_roundw
        case rel => exact ⟨k + 1, m, t, _, rfl, rfl, hlt, by go_num, Lib.hid (by rw [HG2.out]; exact HT.out), HM, hm, HB⟩
        case measure => simp [intOf]; omega
      · have d0 : (0 : Int) < q := by omega
        by_cases hqq : q = q0
        · have HG2 := Lib.hid (HGN.out (.inr hqq))
          subst hqq
          go_wp2_with fail
          go_roundw
          case rel => exact ⟨k + 1, m, t, _, rfl, rfl, hlt, by go_num, Lib.hid (by rw [HG2.out]; exact HT.out), HM, hm, HB⟩
          case measure => simp [intOf]; omega
        · have HG2 := Lib.hid (HGY.out hq0' hqq)
          have HD := Lib.hid (dec_dig q hq.1 hq.2)
          have d3 : (q != q0) = true := by simp; exact hqq
          have d4 : (q == q0) = false := by simp; exact hqq
          have CD := Lib.hid (fun W => cDec q.toNat q.toNat W (Nat.le_refl _) (by omega))
          rw [show ((q.toNat : Nat) : Int) = q by omega] at CD
          obtain ⟨d, hd⟩ : ∃ d, d = decB q.toNat := ⟨_, rfl⟩
          rw [← hd] at HD CD
          have HSZ : Hid ((t ++ d).size = m + 1) := Lib.hid (by rw [size_toL', toL_app, List.length_append, HD.out, ← size_toL', HM.out]; rfl)
          have HT2 : Hid ((t ++ d).data.toList = sndU xs s (k + 1)) := Lib.hid (by rw [toL_app, HD.out, HG2.out, HT.out])
          have hd1 : d.size ≤ 1 := by rw [size_toL', HD.out]; exact Nat.le_refl _
          have ht4 : t.size < 4 := by omega
          clear hd tm
          go_wp2_with (go_at_call 73; refine (CD.out _).mono ?_; rintro e w1 ⟨rfl, hb1⟩)
          go_roundw
          case rel => exact ⟨k + 1, m + 1, t ++ d, _, rfl, rfl, hlt, by go_num, HT2, HSZ, by omega, Lib.hid (HB.out.trans (hb1.mono HB.out.size))⟩
          case measure => simp [intOf]; omega
    · have HFL : Hid (sndL xs s = fillL t.data.toList) := Lib.hid (by
        rw [HT.out]
        unfold sndL
        rcases Nat.lt_or_ge (k + 1) s.size with h | h
        · have h4 : 4 ≤ (sndU xs s k).length := by rw [← HT.out, ← size_toL', HM.out]; omega
          have hp := sndU_pre xs s k (s.size - 1 - k)
          rw [show k + (s.size - 1 - k) = s.size - 1 by omega] at hp
          exact fillL_stop h4 hp
        · rw [show s.size - 1 = k by omega])
      have HM1 : Hid (1 ≤ m) := Lib.hid (by rw [← HM.out, size_toL', HT.out]; exact sndU_pos xs s k hp1)
      have tm : t.size = m := HM.out
      have HTL : Hid (t.data.toList.length = m) := Lib.hid (by rw [← size_toL', tm])
      have H0 : Hid (t.data.toList = t.data.toList ++ List.replicate 0 48) := Lib.hid (by simp)
      obtain ⟨l, hl⟩ : ∃ l, l = t.data.toList := ⟨_, rfl⟩
      rw [← hl] at HFL HTL
      have H00 : Hid (t.data.toList = l ++ List.replicate 0 48) := Lib.hid (by rw [hl]; exact H0.out)
      have hor : (s.size ≤ k + 1) ∨ (k + 1 < s.size ∧ 4 ≤ m) := by omega
      clear hA hl H0
      rcases hor with hge | ⟨hlt, h4⟩
      all_goals
        go_wp2_with fail
        go_loopw [5] (fun ov wr => ∃ (j z : Nat) (y : ByteArray), ov = .string y ∧ Hid (y.data.toList = l ++ List.replicate j 48) ∧ Hid (y.size = z) ∧ z ≤ 4 ∧ Hid (z = m + j) ∧ Hid (Below w.heap.size w wr)) (fun ov _ => 4 - strSz ov)
        case atStart => exact ⟨0, m, t, rfl, H00, HM, hm, Lib.hid rfl, HB⟩
        case round =>
          clear HB HM HT tm H00
          obtain ⟨j, z, y, rfl, HY, HZ, hz, HJ, HB⟩ := hrel
          have yz : y.size = z := HZ.out
          by_cases hz4 : z < 4
          · have HSZ : Hid ((y ++ ⟨#[48]⟩).size = z + 1) := Lib.hid (by rw [size_toL', toL_app, List.length_append, ← size_toL', HZ.out]; rfl)
            have HT2 : Hid ((y ++ ⟨#[48]⟩).data.toList = l ++ List.replicate (j + 1) 48) := Lib.hid (by rw [toL_app, HY.out, List.append_assoc, List.replicate_succ'])
            go_wp2_with fail
            go_roundw
            case rel => exact ⟨j + 1, z + 1, y ++ ⟨#[48]⟩, rfl, HT2, HSZ, by omega, Lib.hid (by have := HJ.out; omega), HB⟩
            case measure =>
              have h1 := HZ.out
              have h2 := HSZ.out
              show 4 - (y ++ ⟨#[48]⟩).size < 4 - y.size
              omega
          · have HR : Hid (sndB xs s = y) := Lib.hid (snd_is (l := y) (by
              rw [HFL.out, HY.out, fill_of (j := j) (by have := HTL.out; have := HM1.out; omega) (by have := HTL.out; have := HJ.out; omega) (.inr (by have := HTL.out; have := HJ.out; omega)), List.take_of_length_le (by rw [List.length_append, List.length_replicate]; have := HTL.out; have := HJ.out; omega)]))
            go_wp2_with fail
            go_ret
            exact ⟨congrArg (fun z => Ending.returned (.string z)) HR.out.symm, HB.out⟩
end Go.Proofs.Ytmbahbnadkmnkaa
