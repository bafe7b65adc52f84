/-
  The contracts of findBest and impl.BestIn.
-/
import Derived.Test.YtjofndiofacjjaaDoorBest9
namespace Go.Proofs.YtjofndiofacjjaaDoor
set_option linter.unusedVariables false
open Go.RowKit

set_option maxHeartbeats 4000000 in
set_option maxRecDepth 100000 in
theorem cFindBest (A B : Option Addr) (n c n2 c2 : Nat) (xs : List Nm) (ls : List ByteArray) (y : Int) (w : World) (hb : n ≤ 1048576) (hb2 : n2 ≤ 1048576) (hz : Sz9 xs) (hl : ∀ x ∈ ls, x.size ≤ maxLen) (h : NmAt w w.heap.size A n xs) (hcap : n ≤ c) (h2 : TextAt w w.heap.size B n2 ls) (hsh : w.ShapedOpen Tryd.prog) (her : Er8 w) :
    Calls Tryd.prog 66 #[.slice A n c, .slice B n2 c2, .int .i64 y] w (FindOut (beZ xs ls y) (beC xs ls y) w) := by
  have CQ := Lib.hid (cQuest A B n c n2 c2 xs ls y w hb hb2 hz hl h hcap h2 hsh her.e)
  have HN2 := Lib.hid h2.1
  have H2 := Lib.hid h2
  have CL := Lib.hid (fun l W (hW : Below w.heap.size w W) => cLeast9 A n c xs l y W hb ((h.below hW (Nat.le_refl _)).more hW.size))
  have HE := Lib.hid (fun W (hW : Below w.heap.size w W) => (her.below hW).k)
  clear h h2 hsh her hz hl
  obtain ⟨q, hq⟩ : ∃ q, q = qC xs ls y := ⟨_, rfl⟩
  rw [← hq] at CQ
  go_enter Tryd.func66, Tryd.ntmps66
  go_wp2_with fail
  refine CQ.out.mono ?_
  rintro e w1 ⟨⟨v, rfl, hv⟩, hb1⟩
  rcases hv with ⟨rfl, rfl⟩ | ⟨hne, u, rfl⟩
  rotate_left
  · have HZ := Lib.hid (beZ_bad (xs := xs) (ls := ls) (y := y) (by rw [← hq]; exact hne))
    have HC : Hid (beC xs ls y = q) := Lib.hid ((beC_bad (by rw [← hq]; exact hne)).trans hq.symm)
    have HQ := Lib.hid hne
    clear hq hne
    go_wp2_with fail
    go_ret2
    exact ⟨⟨.iface 106 (.agg #[.int .i64 q, .iface 218 u]), by rw [HZ.out]; rfl, .inr ⟨by rw [HC.out]; exact HQ.out, u, by rw [HC.out]⟩⟩, hb1⟩
  have HQ := Lib.hid hq.symm
  have HB1 := Lib.hid hb1
  clear hq hb1 CQ
  go_wp2_with fail
  go_loopw [22] (fun i wr => ∃ k : Nat, k ≤ n2 ∧ i = .int .i64 k ∧ Hid (∀ (j : Nat) z, j < k → ls[j]? = some z → lsF xs z y xs.length = none) ∧ Below w.heap.size w wr) (fun i _ => n2 - (intOf i).toNat)
  case atStart => exact ⟨0, Nat.zero_le _, rfl, Lib.hid (fun j z hj => by omega), HB1.out⟩
  case round =>
    obtain ⟨k, hk, rfl, HA, hbw⟩ := hrel
    by_cases hlt : k < n2
    · obtain ⟨l, hx⟩ : ∃ x, ls[k]? = some x := ⟨ls[k]'(by have := HN2.out; omega), List.getElem?_eq_getElem _⟩
      obtain ⟨b, o, rfl, hbl, c0⟩ := (H2.out.below hbw (Nat.le_refl _)).row2 hx
      have HX := Lib.hid hx
      have CX := Lib.hid (CL.out l wr hbw)
      have u1 : (0 : Int) ≤ (k : Int) := Int.natCast_nonneg _
      have u2 : (k : Int) < (n2 : Int) := by omega
      clear hx
      cases ho : lsF xs l y xs.length with
      | none =>
        rw [ho] at CX
        dsimp only [leastV] at CX
        have HA2 : Hid (∀ (j : Nat) z, j < k + 1 → ls[j]? = some z → lsF xs z y xs.length = none) := Lib.hid (fun j z hj hjz => by
          by_cases hl : j < k
          · exact HA.out j z hl hjz
          · obtain rfl : j = k := by omega
            rw [HX.out] at hjz; obtain rfl := Option.some.inj hjz; exact ho)
        clear ho
        go_wp2_with fail
        refine CX.out.mono ?_
        rintro e w2 ⟨rfl, g2⟩
        have hbt := bstep9 hbw hbw.size g2
        clear g2 CX
        go_wp2_with fail
        go_roundw
        case rel => exact ⟨k + 1, by omega, by go_num, HA2, hbt⟩
        case measure => simp [intOf]; omega
      | some m =>
        rw [ho] at CX
        dsimp only [leastV] at CX
        have HF := Lib.hid (best_hit ho HX.out HA.out)
        clear ho
        go_wp2_with fail
        refine CX.out.mono ?_
        rintro e w2 ⟨rfl, g2⟩
        have hbt := bstep9 hbw hbw.size g2
        clear g2 CX
        go_wp2_with fail
        go_ret2
        exact ⟨⟨.nilIface, by rw [beZ_hit HQ.out HF.out]; rfl, .inl ⟨beC_hit HQ.out HF.out, rfl⟩⟩, hbt⟩
    · have HF := Lib.hid (best_miss (xs := xs) (y := y) (ls := ls) (fun j z hj => HA.out j z (by have h1 := (List.getElem?_eq_some_iff.1 hj).1; have := HN2.out; omega) hj))
      obtain ⟨v, hv⟩ := HE.out wr hbw
      go_wp2_with fail
      go_quiet (fail)
      go_wp2_with fail
      go_ret2
      exact ⟨⟨.iface 106 (.agg #[.int .i64 4, .iface 218 v]), by rw [beZ_miss HQ.out HF.out]; rfl, .inr ⟨by rw [beC_miss HQ.out HF.out]; decide, v, by rw [beC_miss HQ.out HF.out]⟩⟩, below_drN_r hbw _⟩

set_option maxHeartbeats 1000000 in
theorem cBest_impl (A B : Option Addr) (n c n2 c2 : Nat) (xs : List Nm) (ls : List ByteArray) (y : Int) (w : World) (hb : n ≤ 1048576) (hb2 : n2 ≤ 1048576) (hz : Sz9 xs) (hl : ∀ x ∈ ls, x.size ≤ maxLen) (h : NmAt w w.heap.size A n xs) (hcap : n ≤ c) (h2 : TextAt w w.heap.size B n2 ls) (hsh : w.ShapedOpen Tryd.prog) (her : Er8 w) :
    Calls Tryd.prog 32 #[.slice A n c, .slice B n2 c2, .int .i64 y] w fun e w' => e = .returned (.tuple #[.int .i64 (beZ xs ls y), .int .i64 (beC xs ls y)]) ∧ Below w.heap.size w w' := by
  have CF := Lib.hid (cFindBest A B n c n2 c2 xs ls y w hb hb2 hz hl h hcap h2 hsh her)
  have CN := Lib.hid (fun W => cCodeNil W)
  have CR := Lib.hid (fun (q : Int) u W (hW : Below w.heap.size w W) => cCodeRef q (.iface 218 u) W rfl (her.e.t.below hW))
  clear h h2 hsh her hz
  obtain ⟨z, hz⟩ : ∃ z, z = beZ xs ls y := ⟨_, rfl⟩
  obtain ⟨q, hq⟩ : ∃ q, q = beC xs ls y := ⟨_, rfl⟩
  rw [← hz, ← hq] at CF ⊢
  clear hz hq
  go_enter Tryd.func32, Tryd.ntmps32
  go_wp2_with fail
  refine CF.out.mono ?_
  rintro e w1 ⟨⟨v, rfl, hv⟩, hb1⟩
  rcases hv with ⟨rfl, rfl⟩ | ⟨_, u, rfl⟩
  · go_wp2_with fail
    refine (CN.out _).mono ?_
    rintro e w2 ⟨rfl, hb2⟩
    go_wp2_with fail
    go_ret2
    exact ⟨rfl, bstep9 hb1 hb1.size hb2⟩
  · go_wp2_with fail
    refine (CR.out _ _ _ hb1).mono ?_
    rintro e w2 ⟨rfl, hb2⟩
    go_wp2_with fail
    go_ret2
    exact ⟨rfl, bstep9 hb1 hb1.size hb2⟩
end Go.Proofs.YtjofndiofacjjaaDoor
