/-
  The contracts of spec.l03Joined, spec.JoinLetters and impl.JoinLetters.
-/
import Derived.Test.YtdbbolnmcbhflaaAlphaText
import Derived.Test.YtdbbolnmcbhflaaNumAt
import Derived.Test.YtdbbolnmcbhflaaWithin
namespace Go.Proofs.Ytdbbolnmcbhflaa
set_option linter.unusedVariables false
open Go.RowKit

def inR (xs : List ByteArray) (i : Int) : Bool := decide (0 ≤ i) && decide (i < (xs.length : Int))
def pickL (xs : List ByteArray) (i : Int) : ByteArray := (xs[i.toNat]?).getD ByteArray.empty
def catL (l : List ByteArray) : ByteArray := l.foldl (· ++ ·) ByteArray.empty
def catI (xs : List ByteArray) (zs : List Int) : ByteArray := catL (zs.map (pickL xs))
theorem catI_zero (xs : List ByteArray) (zs : List Int) : catI xs (zs.take 0) = ⟨#[]⟩ := rfl
theorem catI_snoc (xs : List ByteArray) (zs : List Int) (i : Int) : catI xs (zs ++ [i]) = catI xs zs ++ pickL xs i := by
  unfold catI catL; rw [List.map_append, List.foldl_append]; rfl
theorem catI_step (xs : List ByteArray) (zs : List Int) (k : Nat) (i : Int) (h : zs[k]? = some i) : catI xs (zs.take (k + 1)) = catI xs (zs.take k) ++ pickL xs i := by
  have hk : k < zs.length := (List.getElem?_eq_some_iff.1 h).1
  have hx : zs[k] = i := (List.getElem?_eq_some_iff.1 h).2
  rw [List.take_succ_eq_append_getElem hk, hx, catI_snoc]
def goodI (xs : List ByteArray) (zs : List Int) : Bool := zs.all (inR xs)
theorem goodI_step (xs : List ByteArray) (zs : List Int) (k : Nat) (i : Int) (h : zs[k]? = some i) (ha : goodI xs (zs.take k) = true) (hi : inR xs i = true) : goodI xs (zs.take (k + 1)) = true := by
  have hk : k < zs.length := (List.getElem?_eq_some_iff.1 h).1
  have hx : zs[k] = i := (List.getElem?_eq_some_iff.1 h).2
  rw [List.take_succ_eq_append_getElem hk, hx]; unfold goodI at *
  rw [List.all_append, ha]; simp [hi]
theorem goodI_stop (xs : List ByteArray) (zs : List Int) (k : Nat) (i : Int) (h : zs[k]? = some i) (hi : inR xs i = false) : goodI xs zs = false := by
  unfold goodI; rw [List.all_eq_false]; exact ⟨i, List.mem_of_getElem? h, by simp [hi]⟩
def joinLV (xs : List ByteArray) (zs : List Int) : Value :=
  if alphaB xs then (if zs.length ≤ 16 ∧ goodI xs zs = true then .tuple #[.string (catI xs zs), .int .i64 0] else .tuple #[.string ByteArray.empty, .int .i64 2]) else .tuple #[.string ByteArray.empty, .int .i64 1]
theorem joinLV_inv (xs : List ByteArray) (zs : List Int) (h : alphaB xs = false) : joinLV xs zs = .tuple #[.string ByteArray.empty, .int .i64 1] := by unfold joinLV; rw [if_neg (by simp [h])]
theorem joinLV_long (xs : List ByteArray) (zs : List Int) (h : alphaB xs = true) (h2 : 16 < zs.length) : joinLV xs zs = .tuple #[.string ByteArray.empty, .int .i64 2] := by unfold joinLV; rw [if_pos h, if_neg (by omega)]
theorem joinLV_out (xs : List ByteArray) (zs : List Int) (h : alphaB xs = true) (h2 : goodI xs zs = false) : joinLV xs zs = .tuple #[.string ByteArray.empty, .int .i64 2] := by unfold joinLV; rw [if_pos h, if_neg (by simp [h2])]
theorem joinLV_yes (xs : List ByteArray) (zs : List Int) (h : alphaB xs = true) (h1 : zs.length ≤ 16) (h2 : goodI xs zs = true) : joinLV xs zs = .tuple #[.string (catI xs zs), .int .i64 0] := by unfold joinLV; rw [if_pos h, if_pos ⟨h1, h2⟩]
theorem inR_nat (xs : List ByteArray) (i : Int) (h : inR xs i = true) : ∃ (m : Nat) (x : ByteArray), i = (m : Int) ∧ m < xs.length ∧ xs[m]? = some x ∧ pickL xs i = x := by
  unfold inR at h; rw [Bool.and_eq_true, decide_eq_true_eq, decide_eq_true_eq] at h
  obtain ⟨m, rfl⟩ := Int.eq_ofNat_of_zero_le h.1
  have hm : m < xs.length := by omega
  exact ⟨m, xs[m], rfl, hm, List.getElem?_eq_getElem hm, by unfold pickL; rw [Int.toNat_natCast, List.getElem?_eq_getElem hm]; rfl⟩
theorem inR_cases (xs : List ByteArray) (i : Int) (h : inR xs i = false) : i < 0 ∨ (0 ≤ i ∧ (xs.length : Int) ≤ i) := by
  by_cases h0 : 0 ≤ i
  · refine .inr ⟨h0, ?_⟩
    unfold inR at h; rw [decide_eq_true h0, Bool.true_and, decide_eq_false_iff_not] at h; omega
  · exact .inl (by omega)
theorem inR_in (xs : List ByteArray) (n : Nat) (i : Int) (hn : n = xs.length) : (decide ((0 : Int) ≤ i) && decide (i ≤ (n : Int) - 1)) = inR xs i := by
  subst hn; unfold inR; congr 1; rw [decide_eq_decide]; omega

set_option maxHeartbeats 1000000 in
set_option maxRecDepth 100000 in
theorem tJoinL_spec (A : Option Addr) (n cap B : Nat) (xs : List ByteArray) (A' : Option Addr) (m cap' B' : Nat) (zs : List Int) (w : World) (hbig : n ≤ 1048576) (hs : ∀ x ∈ xs, x.size ≤ maxLen) (h : TextAt w B A n xs) (hm : m ≤ 1048576) (hz : NumAt w B' A' m zs) :
    Calls Try.prog 47 #[.slice A n cap, .slice A' m cap'] w fun e w' => e = .returned (joinLV xs zs) ∧ w = w' := by
  have CI := Lib.hid (tIsAlpha_spec A n cap B xs w hbig hs h)
  cases ha : alphaB xs
  · rw [ha] at CI
    have HJ := Lib.hid (joinLV_inv xs zs ha)
    clear ha h hs hz
    go_enter Try.func47, Try.ntmps47
    go_wp2_with (go_at_call 57; refine CI.out.mono ?_; rintro e w' ⟨rfl, rfl⟩)
    go_ret2
    exact ⟨by rw [HJ.out]; rfl, rfl⟩
  rw [ha] at CI
  by_cases h16 : 16 < m
  · have HJ := Lib.hid (joinLV_long xs zs ha (by have := hz.1; omega))
    clear ha h hs hz
    go_enter Try.func47, Try.ntmps47
    go_wp2_with (go_at_call 57; refine CI.out.mono ?_; rintro e w' ⟨rfl, rfl⟩)
    go_ret2
    exact ⟨by rw [HJ.out]; rfl, rfl⟩
  have hl := alpha_len xs ha
  have hsz := Lib.hid (fun x hx => (alpha_size xs ha x hx).2)
  have hN := h.1
  obtain ⟨b, o, rfl, hb, hc⟩ := h.2 (by omega)
  have HC := Lib.hid hc
  have HZ := Lib.hid hz
  have HA := Lib.hid ha
  have HN := Lib.hid hN
  have CIN := Lib.hid (fun i W => by have := cIn_any i 0 ((n : Int) - 1) W; rw [inR_in xs n i hN] at this; exact this)
  have hn1 : 1 ≤ n := by omega
  have hn40 : n ≤ 40 := by omega
  clear ha h hs hz hc hN hl
  go_enter Try.func47, Try.ntmps47
  go_wp2_with (go_at_call 57; refine CI.out.mono ?_; rintro e w' ⟨rfl, rfl⟩)
  go_loop [6, 7] (fun ou i => ∃ (k : Nat) (t : ByteArray), k ≤ m ∧ i = .int .i64 k ∧ ou = .string t ∧ t.size ≤ k * 3 ∧ Hid (t = catI xs (zs.take k)) ∧ Hid (goodI xs (zs.take k) = true)) (fun _ i => m - (intOf i).toNat)
  case atStart => exact ⟨0, ⟨#[]⟩, Nat.zero_le _, rfl, rfl, Nat.zero_le _, Lib.hid rfl, Lib.hid rfl⟩
  case round =>
    obtain ⟨k, t, hk, rfl, rfl, ht, HT, HG⟩ := hrel
    by_cases hlt : k < m
    · obtain ⟨i, hi⟩ : ∃ i, zs[k]? = some i := ⟨zs[k]'(by have := HZ.out.1; omega), List.getElem?_eq_getElem _⟩
      obtain ⟨b', o', rfl, hb', hc'⟩ := HZ.out.2 (by omega)
      have hci := hc' k i hi
      have HI := Lib.hid hi
      clear hi hc'
      cases hr : inR xs i
      · have CI1 := Lib.hid (fun W => by have := CIN.out i W; rw [hr] at this; exact this)
        have HJ := Lib.hid (joinLV_out xs zs HA.out (goodI_stop xs zs k i HI.out hr))
        clear hr
        go_wp2_with (go_at_call 61; refine (CI1.out _).mono ?_; rintro e w' ⟨rfl, rfl⟩)
        go_ret2
        exact ⟨by rw [HJ.out]; rfl, rfl⟩
      · have CI1 := Lib.hid (fun W => by have := CIN.out i W; rw [hr] at this; exact this)
        obtain ⟨q, x, rfl, hq, hx, hp⟩ := inR_nat xs i hr
        have hcx := HC.out q x hx
        have hx3 : x.size ≤ 3 := hsz.out x (List.mem_of_getElem? hx)
        have HP := Lib.hid hp
        have HR := Lib.hid hr
        have hqn : q < n := by have := HN.out; omega
        clear hr hx hp hq
        go_wp2_with (go_at_call 61; refine (CI1.out _).mono ?_; rintro e w' ⟨rfl, rfl⟩)
        go_round
        case rel => exact ⟨k + 1, _, by omega, by go_num, rfl, by rw [ByteArray.size_append]; omega, Lib.hid (by rw [catI_step xs zs k _ HI.out, HP.out, HT.out]), Lib.hid (goodI_step xs zs k _ HI.out HG.out HR.out)⟩
        case measure => simp [intOf]; omega
    · obtain rfl : k = m := by omega
      have hw : zs.take k = zs := List.take_of_length_le (by have := HZ.out.1; omega)
      have HJ := Lib.hid (joinLV_yes xs zs HA.out (by have := HZ.out.1; omega) (by rw [← hw]; exact HG.out))
      have HW := Lib.hid hw
      clear hw
      go_wp2
      go_ret2
      exact ⟨by rw [HJ.out, HT.out, HW.out]; rfl, rfl⟩

theorem jAreIdx (A : Option Addr) (n c B m : Nat) (ig : List Int) (w : World) (hbig : n ≤ maxLen) (hm : m ≤ 1048576) (h : NumAt w B A n ig) :
    Calls Try.prog 44 #[.slice A n c, .int .i64 m] w fun e w' => e = .returned (.bool (allW 0 ((m : Int) - 1) ig)) ∧ w = w' := by
  have CW := Lib.hid (cWithin A n c B ig 0 ((m : Int) - 1) w hbig h)
  clear h
  generalize allW 0 ((m : Int) - 1) ig = r at CW ⊢
  go_enter Try.func44, Try.ntmps44
  go_wp2_with (go_at_call 59; refine CW.out.mono ?_; rintro e w' ⟨rfl, rfl⟩)
  go_ret
  exact ⟨rfl, rfl⟩

set_option maxHeartbeats 1000000 in
set_option maxRecDepth 100000 in
theorem tJoinL (A : Option Addr) (n cap : Nat) (xs : List ByteArray) (A' : Option Addr) (m cap' : Nat) (zs : List Int) (w : World) (hbig : n ≤ 1048576) (hs : ∀ x ∈ xs, x.size ≤ maxLen) (h : TextAt w w.heap.size A n xs) (hm : m ≤ 1048576) (hz : NumAt w w.heap.size A' m zs) :
    Calls Try.prog 21 #[.slice A n cap, .slice A' m cap'] w fun e w' => e = .returned (joinLV xs zs) ∧ Below w.heap.size w w' := by
  have CI := Lib.hid (tIsAlpha A n cap xs w hbig hs h)
  cases ha : alphaB xs
  · rw [ha] at CI
    have HJ := Lib.hid (joinLV_inv xs zs ha)
    clear ha h hs hz
    go_enter Try.func21, Try.ntmps21
    go_wp2_with (go_at_call 43; refine CI.out.mono ?_; rintro e w1 ⟨rfl, hb1⟩)
    go_ret2
    exact ⟨by rw [HJ.out]; rfl, hb1⟩
  rw [ha] at CI
  by_cases h16 : 16 < m
  · have HJ := Lib.hid (joinLV_long xs zs ha (by have := hz.1; omega))
    clear ha h hs hz
    go_enter Try.func21, Try.ntmps21
    go_wp2_with (go_at_call 43; refine CI.out.mono ?_; rintro e w1 ⟨rfl, hb1⟩)
    go_ret2
    exact ⟨by rw [HJ.out]; rfl, hb1⟩
  have hgi : allW 0 ((n : Int) - 1) zs = goodI xs zs := by
    unfold allW goodI
    congr 1
    funext x
    exact inR_in xs n x h.1
  have CX := Lib.hid (fun W (hW : Below w.heap.size w W) => jAreIdx A' m cap' W.heap.size n zs W (by unfold maxLen; omega) hbig ((hz.below hW (Nat.le_refl _)).more hW.size))
  rw [hgi] at CX
  clear hgi
  cases hg : goodI xs zs
  · rw [hg] at CX
    have HJ := Lib.hid (joinLV_out xs zs ha hg)
    clear ha h hs hz hg
    go_enter Try.func21, Try.ntmps21
    go_wp2_with (first
      | (go_at_call 43; refine CI.out.mono ?_; rintro e w1 ⟨rfl, hb1⟩)
      | (go_at_call 44; refine (CX.out _ hb1).mono ?_; rintro e w' ⟨rfl, rfl⟩))
    go_ret2
    exact ⟨by rw [HJ.out]; rfl, hb1⟩
  rw [hg] at CX
  have HGI := Lib.hid hg
  clear hg
  have hl := alpha_len xs ha
  have hsz := Lib.hid (fun x hx => (alpha_size xs ha x hx).2)
  have hN := h.1
  obtain ⟨b, o, rfl, hb, hc⟩ := h.2 (by omega)
  have HC := Lib.hid hc
  have HZ := Lib.hid hz
  have HA := Lib.hid ha
  have HN := Lib.hid hN
  have hn1 : 1 ≤ n := by omega
  have hn40 : n ≤ 40 := by omega
  clear ha h hs hz hc hN hl
  go_enter Try.func21, Try.ntmps21
  go_wp2_with fail
  refine CI.out.mono ?_
  rintro e w1 ⟨rfl, hb1⟩
  go_wp2_with fail
  refine (CX.out w1 hb1).mono ?_
  rintro e w' ⟨rfl, rfl⟩
  obtain ⟨Bb, hBb⟩ : ∃ Bb, Bb = w1.heap.size := ⟨_, rfl⟩
  have hB1 : w.heap.size ≤ Bb := by rw [hBb]; exact hb1.size
  have fresh := Lib.fresh_isBuilder 70 5 w1
  rw [← hBb] at fresh
  have FR := Lib.hid fresh
  have BA := Lib.hid ((Below.refl Bb w1).alloc (Nat.le_of_eq hBb) (.cells #[.pointer none, .slice none 0 0] 70))
  have HBB := Lib.hid hBb
  clear fresh hBb
  go_wp2_with fail
  rw [← HBB.out]
  go_loopw [24] (fun i wr => ∃ k : Nat, k ≤ m ∧ i = .int .i64 k ∧ Hid (Lib.IsBuilder 70 5 Bb Bb (Lib.byteCells (catI xs (zs.take k)).data.toList) wr) ∧ (catI xs (zs.take k)).size ≤ k * 3 ∧ Hid (goodI xs (zs.take k) = true) ∧ Hid (Below Bb w1 wr)) (fun i _ => m - (intOf i).toNat)
  case atStart => exact ⟨0, Nat.zero_le _, rfl, FR, Nat.zero_le _, Lib.hid rfl, BA⟩
  case round =>
    obtain ⟨k, hk, rfl, HB, ht, HG, HW⟩ := hrel
    have hbw : Below w.heap.size w wr := hb1.trans (HW.out.mono hB1)
    by_cases hlt : k < m
    · obtain ⟨i, hi⟩ : ∃ i, zs[k]? = some i := ⟨zs[k]'(by have := HZ.out.1; omega), List.getElem?_eq_getElem _⟩
      obtain ⟨b', o', rfl, hb', hc'⟩ := HZ.out.2 (by omega)
      have hci := (hbw.cell (by exact hb')).trans (hc' k i hi)
      have HI := Lib.hid hi
      clear hc'
      have hr : inR xs i = true := by
        have h9 := HGI.out
        unfold goodI at h9
        rw [List.all_eq_true] at h9
        exact h9 i (List.mem_of_getElem? hi)
      clear hi
      obtain ⟨q, x, rfl, hq, hx, hp⟩ := inR_nat xs i hr
      have hcx := (hbw.cell (by exact hb)).trans (HC.out q x hx)
      have hx3 : x.size ≤ 3 := hsz.out x (List.mem_of_getElem? hx)
      have HP := Lib.hid hp
      have HR := Lib.hid hr
      have hqn : q < n := by have := HN.out; omega
      have hcl : (Lib.byteCells (catI xs (zs.take k)).data.toList).length = (catI xs (zs.take k)).size := by rw [Lib.byteCells_length]; exact size_list _
      have WS := Lib.hid (Try.Builder_WriteString Bb Bb _ x wr HB.out (by rw [hcl]; omega) (Nat.le_trans (Nat.le_of_eq HBB.out) HW.out.size))
      have hnext : (catI xs (zs.take (k + 1))).size ≤ (k + 1) * 3 := by rw [catI_step xs zs k _ HI.out, HP.out, ByteArray.size_append]; omega
      clear hr hx hp hq hcl
      go_wp2_with fail
      refine WS.out.mono ?_
      rintro e w2 ⟨rfl, hB2, hb2⟩
      have HB2 : Hid (Lib.IsBuilder 70 5 Bb Bb (Lib.byteCells (catI xs (zs.take (k + 1))).data.toList) w2) := Lib.hid (.inr (by
        rw [catI_step xs zs k _ HI.out, HP.out, ByteArray.data_append, Array.toList_append, Lib.byteCells_append]; exact hB2))
      have HW2 := Lib.hid (HW.out.trans hb2)
      clear hB2 hb2
      go_wp2
      go_roundw
      case rel => exact ⟨k + 1, by omega, by go_num, HB2, hnext, Lib.hid (goodI_step xs zs k _ HI.out HG.out HR.out), HW2⟩
      case measure => simp [intOf]; omega
    · obtain rfl : k = m := by omega
      have hw : zs.take k = zs := List.take_of_length_le (by have := HZ.out.1; omega)
      have HJ := Lib.hid (joinLV_yes xs zs HA.out (by have := HZ.out.1; omega) (by rw [← hw]; exact HG.out))
      have hBS := Try.Builder_String_any Bb Bb _ wr HB.out (Nat.le_trans (Nat.le_of_eq HBB.out) HW.out.size)
      rw [hw] at hBS
      rw [show (⟨(catI xs zs).data.toList.toArray⟩ : ByteArray) = catI xs zs from rfl] at hBS
      have BS := Lib.hid hBS
      clear hw hBS
      go_wp2_with fail
      refine BS.out.mono ?_
      rintro e w2 ⟨rfl, hb2⟩
      go_wp2_with fail
      go_ret2
      exact ⟨by rw [HJ.out]; rfl, hbw.trans (hb2.mono hB1)⟩
end Go.Proofs.Ytdbbolnmcbhflaa
