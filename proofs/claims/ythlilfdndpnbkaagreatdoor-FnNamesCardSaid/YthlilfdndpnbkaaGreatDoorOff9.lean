/-
  The contracts of OfficialIn of both packages.
-/
import Derived.Test.YthlilfdndpnbkaaGreatDoorUsed9
namespace Go.Proofs.YthlilfdndpnbkaaGreatDoor
set_option linter.unusedVariables false
open Go.RowKit

theorem offC_bad {xs : List Nm} {l : ByteArray} {y : Int} (h : qC xs [l] y ≠ 0) : offC xs l y = qC xs [l] y := by unfold offC; rw [if_neg h]
theorem offC_hit {xs : List Nm} {l : ByteArray} {y : Int} {k : Nat} (h : qC xs [l] y = 0) (hk : offF xs l y = some k) : offC xs l y = 0 := by unfold offC; rw [if_pos h, hk]
theorem offC_miss {xs : List Nm} {l : ByteArray} {y : Int} (h : qC xs [l] y = 0) (hk : offF xs l y = none) : offC xs l y = 4 := by unfold offC; rw [if_pos h, hk]
theorem offZ_bad {xs : List Nm} {l : ByteArray} {y : Int} (h : qC xs [l] y ≠ 0) : offZ xs l y = 0 := by unfold offZ; rw [if_neg h]
theorem offZ_hit {xs : List Nm} {l : ByteArray} {y : Int} {k : Nat} (h : qC xs [l] y = 0) (hk : offF xs l y = some k) : offZ xs l y = (k : Int) := by unfold offZ; rw [if_pos h, hk]
theorem offZ_miss {xs : List Nm} {l : ByteArray} {y : Int} (h : qC xs [l] y = 0) (hk : offF xs l y = none) : offZ xs l y = 0 := by unfold offZ; rw [if_pos h, hk]
theorem ou_no1 {l : ByteArray} {y : Int} {x : Nm} (h : ofB l x = false) : ouB l y x = false := by unfold ouB; rw [h]; rfl
theorem ou_two {l : ByteArray} {y : Int} {x : Nm} (h : ofB l x = true) : ouB l y x = usB x y := by unfold ouB; rw [h]; rfl
/-- Before k there is none. -/
def NoneTo (p : Nm → Bool) (xs : List Nm) (k : Nat) : Prop := ∀ (j : Nat) z, j < k → xs[j]? = some z → p z = false
theorem none_step {p : Nm → Bool} {xs : List Nm} {k : Nat} {x : Nm} (h : NoneTo p xs k) (hx : xs[k]? = some x) (hp : p x = false) : NoneTo p xs (k + 1) := fun j z hj hz => by
  by_cases hlt : j < k
  · exact h j z hlt hz
  · obtain rfl : j = k := by omega
    rw [hx] at hz; obtain rfl := Option.some.inj hz; exact hp
theorem none_end {p : Nm → Bool} {xs : List Nm} {k : Nat} (h : NoneTo p xs k) (hk : xs.length ≤ k) : fstF p xs = none := fst_miss fun j z hz => h j z (by have := (List.getElem?_eq_some_iff.1 hz).1; omega) hz

/-- What findOfficial answers: an index and an error. -/
def FindOut (z c : Int) (w : World) (e : Ending) (w' : World) : Prop := (∃ v, e = .returned (.tuple #[.int .i64 z, v]) ∧ RefV c v) ∧ Below w.heap.size w w'

set_option maxHeartbeats 4000000 in
set_option maxRecDepth 100000 in
theorem cFindOff (A : Option Addr) (n c : Nat) (xs : List Nm) (l : ByteArray) (y : Int) (w : World) (hb : n ≤ 1048576) (hz : Sz9 xs) (hl : l.size ≤ maxLen) (h : NmAt w w.heap.size A n xs) (hcap : n ≤ c) (hsh : w.ShapedOpen Tryz.prog) (her : Er8 w) :
    Calls Tryz.prog 68 #[.slice A n c, .string l, .int .i64 y] w (FindOut (offZ xs l y) (offC xs l y) w) := by
  have hb0 := (Below.refl w.heap.size w).alloc (Nat.le_refl _) (.cells #[.string l] 9)
  have HB0 := Lib.hid hb0
  have CQ := Lib.hid (cQuest A (some ⟨w.heap.size, 0, none⟩) n c 1 1 xs [l] y (w.alloc (.cells #[.string l] 9)) hb (by omega) hz (by simpa using hl) ((h.below hb0 (Nat.le_refl _)).more hb0.size) hcap
    ⟨rfl, fun _ => ⟨w.heap.size, 0, rfl, by simp, fun j x hx => by
      match j, hx with
      | 0, hx => obtain rfl : l = x := by simpa using hx
                 exact new_one _ _ _⟩⟩ (shaped_below hsh hb0) (her.below hb0).e)
  have H := Lib.hid h
  have HN := Lib.hid h.1
  have CO := Lib.hid (fun x W => cOffi x l W)
  have CU := Lib.hid (fun x W => cUsed1 x y W)
  have HE := Lib.hid (fun W (hW : Below w.heap.size w W) => (her.below hW).k)
  clear h hsh her hz hb0
  obtain ⟨q, hq⟩ : ∃ q, q = qC xs [l] y := ⟨_, rfl⟩
  rw [← hq] at CQ
  go_enter Tryz.func68, Tryz.ntmps68
  go_wp2_with fail
  refine CQ.out.mono ?_
  rintro e w1 ⟨⟨v, rfl, hv⟩, g1⟩
  have hb1 := bstep9 HB0.out HB0.out.size g1
  rcases hv with ⟨rfl, rfl⟩ | ⟨hne, u, rfl⟩
  rotate_left
  · have HZ := Lib.hid (offZ_bad (xs := xs) (l := l) (y := y) (by rw [← hq]; exact hne))
    have HC : Hid (offC xs l y = q) := Lib.hid ((offC_bad (by rw [← hq]; exact hne)).trans hq.symm)
    have HQ := Lib.hid hne
    clear hq hne g1
    go_wp2_with fail
    go_ret2
    exact ⟨⟨.iface 135 (.agg #[.int .i64 q, .iface 257 u]), by rw [HZ.out]; rfl, .inr ⟨by rw [HC.out]; exact HQ.out, u, by rw [HC.out]⟩⟩, hb1⟩
  have HQ := Lib.hid hq.symm
  have HB1 := Lib.hid hb1
  clear hq hb1 g1 CQ
  go_wp2_with fail
  go_loopw [21] (fun i wr => ∃ k : Nat, k ≤ n ∧ i = .int .i64 k ∧ Hid (NoneTo (ouB l y) xs k) ∧ Below w.heap.size w wr) (fun i _ => n - (intOf i).toNat)
  case atStart => exact ⟨0, Nat.zero_le _, rfl, Lib.hid (fun j z hj => by omega), HB1.out⟩
  case round =>
    obtain ⟨k, hk, rfl, HA, hbw⟩ := hrel
    by_cases hlt : k < n
    · obtain ⟨x, hx⟩ : ∃ x, xs[k]? = some x := ⟨xs[k]'(by have := HN.out; omega), List.getElem?_eq_getElem _⟩
      obtain ⟨b, o, rfl, hbl, c0, c1, c2, c3, c4⟩ := (H.out.below hbw (Nat.le_refl _)).row hx
      have hb1 := hbw.alloc hbw.size (.cells #[.string x.t, .string x.l, .int .i64 x.s, .int .i64 x.f, .int .i64 x.u] 27)
      have KB := Lib.hid (fun W hW => nm_box (w := wr) (W := W) (x := x) (t := 27) hW)
      have HB := Lib.hid hb1
      have HX := Lib.hid hx
      have CX := Lib.hid (fun W => CO.out x W)
      have CY := Lib.hid (fun W => CU.out x W)
      have u1 : (0 : Int) ≤ (k : Int) := Int.natCast_nonneg _
      have u2 : (k : Int) < (n : Int) := by omega
      clear hx hb1
      cases hf : ofB l x
      · rw [hf] at CX
        have HA2 := Lib.hid (none_step HA.out HX.out (ou_no1 hf))
        clear hf
        go_wp2_with fail
        refine (CX.out _).mono ?_
        rintro e w2 ⟨rfl, g2⟩
        have hbt := bstep9 HB.out HB.out.size g2
        clear g2 c0 c1 c2 c3 c4
        go_wp2_with fail
        go_roundw
        case rel => exact ⟨k + 1, by omega, by go_num, HA2, hbt⟩
        case measure => simp [intOf]; omega
      · rw [hf] at CX
        have HU := Lib.hid (ou_two (y := y) hf)
        clear hf
        go_wp2_with fail
        refine (CX.out _).mono ?_
        rintro e w2 ⟨rfl, g2⟩
        obtain ⟨k0, k1, k2, k3, k4⟩ := KB.out w2 g2
        have hbt := bstep9 HB.out HB.out.size g2
        clear g2 c0 c1 c2 c3 c4
        cases hu : usB x y
        · rw [hu] at CY
          have HA2 := Lib.hid (none_step HA.out HX.out (HU.out.trans hu))
          clear hu
          go_wp2_with fail
          refine (CY.out _).mono ?_
          rintro e w3 ⟨rfl, g3⟩
          have hb3 := bstep9 hbt hbt.size g3
          clear g3 k0 k1 k2 k3 k4 hbt
          go_wp2_with fail
          go_roundw
          case rel => exact ⟨k + 1, by omega, by go_num, HA2, hb3⟩
          case measure => simp [intOf]; omega
        · rw [hu] at CY
          have HF := Lib.hid (fst_hit HX.out (HU.out.trans hu) HA.out)
          clear hu
          go_wp2_with fail
          refine (CY.out _).mono ?_
          rintro e w3 ⟨rfl, g3⟩
          have hb3 := bstep9 hbt hbt.size g3
          clear g3 k0 k1 k2 k3 k4 hbt
          go_wp2_with fail
          go_ret2
          exact ⟨⟨.nilIface, by rw [offZ_hit HQ.out HF.out]; rfl, .inl ⟨offC_hit HQ.out HF.out, rfl⟩⟩, hb3⟩
    · have HF := Lib.hid (none_end HA.out (by have := HN.out; omega))
      obtain ⟨v, hv⟩ := HE.out wr hbw
      go_wp2_with fail
      go_quiet (fail)
      go_wp2_with fail
      go_ret2
      exact ⟨⟨.iface 135 (.agg #[.int .i64 4, .iface 257 v]), by rw [offZ_miss HQ.out HF.out]; rfl, .inr ⟨by rw [offC_miss HQ.out HF.out]; decide, v, by rw [offC_miss HQ.out HF.out]⟩⟩, below_drN_r hbw _⟩

set_option maxHeartbeats 1000000 in
theorem cOff_impl (A : Option Addr) (n c : Nat) (xs : List Nm) (l : ByteArray) (y : Int) (w : World) (hb : n ≤ 1048576) (hz : Sz9 xs) (hl : l.size ≤ maxLen) (h : NmAt w w.heap.size A n xs) (hcap : n ≤ c) (hsh : w.ShapedOpen Tryz.prog) (her : Er8 w) :
    Calls Tryz.prog 21 #[.slice A n c, .string l, .int .i64 y] w fun e w' => e = .returned (.tuple #[.int .i64 (offZ xs l y), .int .i64 (offC xs l y)]) ∧ Below w.heap.size w w' := by
  have CF := Lib.hid (cFindOff A n c xs l y w hb hz hl h hcap hsh her)
  have CN := Lib.hid (fun W => cCodeNil W)
  have CR := Lib.hid (fun (q : Int) u W (hW : Below w.heap.size w W) => cCodeRef q (.iface 257 u) W rfl (her.e.t.below hW))
  clear h hsh her hz
  obtain ⟨z, hz⟩ : ∃ z, z = offZ xs l y := ⟨_, rfl⟩
  obtain ⟨q, hq⟩ : ∃ q, q = offC xs l y := ⟨_, rfl⟩
  rw [← hz, ← hq] at CF ⊢
  clear hz hq
  go_enter Tryz.func21, Tryz.ntmps21
  go_wp2_with fail
  refine CF.out.mono ?_
  rintro e w1 ⟨⟨v, rfl, hv⟩, hb1⟩
  rcases hv with ⟨rfl, rfl⟩ | ⟨_, u, rfl⟩
  · go_wp2_with fail
    refine (CN.out _).mono ?_
    rintro e w2 ⟨rfl, hb2⟩
    go_wp2_with fail
    go_ret2
    exact ⟨rfl, bstep9 hb1 hb1.size hb2⟩
  · go_wp2_with fail
    refine (CR.out _ _ _ hb1).mono ?_
    rintro e w2 ⟨rfl, hb2⟩
    go_wp2_with fail
    go_ret2
    exact ⟨rfl, bstep9 hb1 hb1.size hb2⟩
end Go.Proofs.YthlilfdndpnbkaaGreatDoor
