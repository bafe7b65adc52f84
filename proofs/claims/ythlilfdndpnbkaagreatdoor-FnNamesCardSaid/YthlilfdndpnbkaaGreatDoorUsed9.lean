/-
  The contracts of UsedIn of both packages.
-/
import Derived.Test.YthlilfdndpnbkaaGreatDoorMu17
import Derived.Test.YthlilfdndpnbkaaGreatDoorMu13
import Derived.Deep.Onto
namespace Go.Proofs.YthlilfdndpnbkaaGreatDoor
set_option linter.unusedVariables false
open Go.RowKit

def OutN9 (zs : List Int) (code : Int) (w : World) (e : Ending) (w' : World) : Prop :=
  ∃ A n c, e = .returned (.tuple #[.slice A n c, .int .i64 code]) ∧ w'.ownsRow w.heap.size 2 1 (.slice A n c) n (intV zs) ∧ Below w.heap.size w w'
theorem intV_snoc9 (xs : List Int) (x : Int) : intV xs ++ [.int .i64 x] = intV (xs ++ [x]) := by simp [intV]
theorem qC_aa (xs : List Nm) (y : Int) : qC xs [⟨#[97, 97]⟩] y = qC xs [] y := by
  have : langB ⟨#[97, 97]⟩ = true := by decide
  unfold qC; simp [this]
theorem usZ_ok {xs : List Nm} {y : Int} (h : qC xs [] y = 0) : usZ xs y = usP xs y xs.length := by unfold usZ; rw [if_pos h]
theorem usZ_no {xs : List Nm} {y : Int} (h : qC xs [] y ≠ 0) : usZ xs y = [] := by unfold usZ; rw [if_neg h]
theorem usZ_len9 (xs : List Nm) (y : Int) : (usZ xs y).length ≤ 1048576 := by have := usZ_len xs y; omega
theorem kept9 {w w' : World} {base n : Nat} {A : Option Addr} {m d : Nat} {t : TypeId} {xs : List Value} {sz : Nat} (h : w.ownsRow base t sz (.slice A m d) n xs) (hb : Below w.heap.size w w') : w'.ownsRow base t sz (.slice A m d) n xs :=
  h.kept ⟨hb.os, hb.tape, hb.output, hb.size, fun j hj _ => hb.block j hj⟩ (row := none) (by
    rcases hh : (Value.slice A m d).ownBlock with _ | q
    · exact .inl rfl
    · exact .inr (fun e => by cases e))

set_option maxHeartbeats 2000000 in
set_option maxRecDepth 100000 in
theorem cUsedIn_impl (A : Option Addr) (n c : Nat) (xs : List Nm) (y : Int) (w : World) (hb : n ≤ 1048576) (hz : Sz9 xs) (h : NmAt w w.heap.size A n xs) (hcap : n ≤ c) (hsh : w.ShapedOpen Tryz.prog) (her : Er7 w) :
    Calls Tryz.prog 18 #[.slice A n c, .int .i64 y] w (OutN9 (usZ xs y) (qC xs [] y) w) := by
  obtain ⟨i0, hi0, hz0, hz1, hz2⟩ := info_parts info_i64
  have CQ := Lib.hid (cQuest A none n c 0 0 xs [] y w hb (by omega) hz (by simp) h hcap ⟨rfl, fun h => absurd h (by omega)⟩ hsh her)
  have H := Lib.hid h
  have HN := Lib.hid h.1
  have CU := Lib.hid (fun x W => cUsed1 x y W)
  have CR := Lib.hid (fun (q : Int) u W (hW : Below w.heap.size w W) => cCodeRef q (.iface 257 u) W rfl (her.t.below hW))
  clear h hsh her hz
  obtain ⟨q, hq⟩ : ∃ q, q = qC xs [] y := ⟨_, rfl⟩
  rw [← hq] at CQ ⊢
  go_enter Tryz.func18, Tryz.ntmps18
  go_wp2_with fail
  refine CQ.out.mono ?_
  rintro e w1 ⟨⟨v, rfl, hv⟩, hb1⟩
  rcases hv with ⟨rfl, rfl⟩ | ⟨hne, u, rfl⟩
  rotate_left
  · have HZ := Lib.hid (usZ_no (xs := xs) (y := y) (by rw [← hq]; exact hne))
    clear hq hne
    go_wp2_with fail
    refine (CR.out _ _ _ hb1).mono ?_
    rintro e w2 ⟨rfl, hb2⟩
    go_wp2_with fail
    go_ret2
    exact ⟨none, 0, 0, rfl, by rw [HZ.out]; exact World.ownsRow_nil _ _ _ _, bstep9 hb1 hb1.size hb2⟩
  have HZ := Lib.hid (usZ_ok hq.symm)
  clear hq
  have HB1 := Lib.hid hb1
  clear hb1 CQ
  go_wp2_with fail
  go_loopw [7, 19] (fun o i wr => ∃ (k m d : Nat) (B : Option Addr), k ≤ n ∧ i = .int .i64 k ∧ o = .slice B m d ∧ Hid (m ≤ k) ∧ Hid (wr.ownsRow w.heap.size 2 1 (.slice B m d) m (intV (usP xs y k))) ∧ Below w.heap.size w wr) (fun _ i _ => n - (intOf i).toNat)
  case atStart => exact ⟨0, 0, 0, none, Nat.zero_le _, rfl, rfl, Lib.hid (Nat.le_refl _), Lib.hid (World.ownsRow_nil _ _ _ _), HB1.out⟩
  case round =>
    obtain ⟨k, m, d, B, hk, rfl, rfl, HM, HO, hbw⟩ := hrel
    by_cases hlt : k < n
    · obtain ⟨x, hx⟩ : ∃ x, xs[k]? = some x := ⟨xs[k]'(by have := HN.out; omega), List.getElem?_eq_getElem _⟩
      obtain ⟨b, o, rfl, hbl, c0, c1, c2, c3, c4⟩ := (H.out.below hbw (Nat.le_refl _)).row hx
      have hb1 := hbw.alloc hbw.size (.cells #[.string x.t, .string x.l, .int .i64 x.s, .int .i64 x.f, .int .i64 x.u] 27)
      have HB := Lib.hid hb1
      have HX := Lib.hid hx
      have CX := Lib.hid (fun W => CU.out x W)
      have HO1 := Lib.hid (HO.out.alloc (.cells #[.string x.t, .string x.l, .int .i64 x.s, .int .i64 x.f, .int .i64 x.u] 27))
      have u1 : (0 : Int) ≤ (k : Int) := Int.natCast_nonneg _
      have u2 : (k : Int) < (n : Int) := by omega
      clear hx hb1
      cases hf : usB x y
      · rw [hf] at CX
        have HST := Lib.hid (usP_no HX.out hf)
        clear hf
        go_wp2_with fail
        refine (CX.out _).mono ?_
        rintro e w2 ⟨rfl, hb2⟩
        have hbt := bstep9 HB.out HB.out.size hb2
        have HO2 : Hid (w2.ownsRow w.heap.size 2 1 (.slice B m d) m (intV (usP xs y (k + 1)))) := Lib.hid (by rw [HST.out]; exact kept9 HO1.out hb2)
        clear hb2
        go_wp2_with fail
        go_roundw
        case rel => exact ⟨k + 1, m, d, B, by omega, by go_num, rfl, Lib.hid (by have := HM.out; omega), HO2, hbt⟩
        case measure => simp [intOf]; omega
      · rw [hf] at CX
        have HST := Lib.hid (usP_yes HX.out hf)
        clear hf
        go_wp2_with fail
        refine (CX.out _).mono ?_
        rintro e w2 ⟨rfl, hb2⟩
        have hbt := bstep9 HB.out HB.out.size hb2
        have hown := kept9 HO1.out hb2
        have hmk := HM.out
        clear hb2
        go_wp2_with (at_builtin; refine wpList_append_own _ rfl _ _ 41 rfl w.heap.size 2 i0 _ 1 8 Tryz.underlying41 hi0 hz0 hz1 hz2 rfl (by decide) _ _ _ rfl (hown.alloc _) ⟨w2.heap.size, 0, none⟩ 1 1 [.int .i64 (k : Int)] rfl rfl ?d1 ?d2 ?d3 ?d4 ?d5 ?_)
        case d1 => exact one_cell' _ _ _ (new_one _ _ _)
        case d2 => intro u hu; simp at hu; subst hu; rfl
        case d3 => unfold maxLen; omega
        case d4 => omega
        case d5 => have := hbt.size; simp; omega
        intro v' w3 hown3 hgrow3 _
        rw [intV_snoc9] at hown3
        have hb3 : Below w.heap.size w w3 := (hbt.alloc hbt.size _).grown hgrow3 (by have := hbt.size; simp; omega) (fun x hx => (hown.lt x hx).1)
        have HO3 : Hid (w3.ownsRow w.heap.size 2 1 v' (m + 1) (intV (usP xs y (k + 1)))) := Lib.hid (by rw [HST.out]; exact hown3)
        obtain ⟨g', c', rfl, _, _⟩ := World.ownsRow.form HO3.out (by omega)
        clear hown3 hown hgrow3
        go_wp2_with fail
        go_roundw
        case rel => exact ⟨k + 1, m + 1, c', some ⟨g', 0, none⟩, by omega, by go_num, rfl, Lib.hid (by omega), HO3, hb3⟩
        case measure => simp [intOf]; omega
    · obtain rfl : k = n := by omega
      go_wp2_with fail
      go_ret2
      exact ⟨B, m, d, rfl, by rw [HZ.out, ← HN.out]; exact HO.out, hbw⟩

set_option maxHeartbeats 1000000 in
theorem cL09Code (A : Option Addr) (n c : Nat) (xs : List Nm) (l : ByteArray) (y : Int) (w : World) (hb : n ≤ 1048576) (hz : Sz9 xs) (hl : l.size ≤ maxLen) (h : NmAt w w.heap.size A n xs) :
    Calls Tryz.prog 59 #[.slice A n c, .string l, .int .i64 y] w fun e w' => e = .returned (.int .i64 (qC xs [l] y)) ∧ Below w.heap.size w w' := by
  have CN := Lib.hid (cAreN_spec A n c xs w hb hz h)
  have CL := Lib.hid (fun W => cL09 l W hl)
  have CY := Lib.hid (fun W => cYear y W)
  clear h hz
  rcases qC_cases xs [l] y with ⟨hq, e1⟩ | ⟨hq, e1, e2⟩ | ⟨hq, e1, e2, e3⟩ | ⟨hq, e1, e2, e3⟩
  · rw [hq]
    rw [e1] at CN
    clear hq e1
    go_enter Tryz.func59, Tryz.ntmps59
    go_wp2_with fail
    refine CN.out.mono ?_
    rintro e w1 ⟨rfl, hbt⟩
    go_wp2_with fail
    go_ret
    exact ⟨rfl, hbt⟩
  all_goals
    rw [show [l].all langB = langB l from by simp] at e2
    rw [hq]
    rw [e1] at CN
    rw [e2] at CL
    clear hq e1 e2
    go_enter Tryz.func59, Tryz.ntmps59
    go_wp2_with fail
    refine CN.out.mono ?_
    rintro e w1 ⟨rfl, hbt⟩
  · go_wp2_with (go_at_call 70; refine (CL.out _).mono ?_; rintro e w' ⟨rfl, rfl⟩)
    go_ret
    exact ⟨rfl, hbt⟩
  · have e5 : (decide (-3000 ≤ y) && decide (y ≤ 3000)) = false := e3
    rw [e5] at CY
    clear e3 e5
    go_wp2_with (first | (go_at_call 70; refine (CL.out _).mono ?_; rintro e w' ⟨rfl, rfl⟩) | (go_at_call 105; refine (CY.out _).mono ?_; rintro e w' ⟨rfl, rfl⟩))
    go_ret
    exact ⟨rfl, hbt⟩
  · have e5 : (decide (-3000 ≤ y) && decide (y ≤ 3000)) = true := e3
    rw [e5] at CY
    clear e3 e5
    go_wp2_with (first | (go_at_call 70; refine (CL.out _).mono ?_; rintro e w' ⟨rfl, rfl⟩) | (go_at_call 105; refine (CY.out _).mono ?_; rintro e w' ⟨rfl, rfl⟩))
    go_ret
    exact ⟨rfl, hbt⟩

def UsedOut (xs : List Nm) (y : Int) (n : Nat) (w : World) (e : Ending) (w' : World) : Prop :=
  ∃ A m d, e = .returned (.slice A m d) ∧ w'.ownsRow w.heap.size 2 1 (.slice A m d) m (intV (usP xs y n)) ∧ Below w.heap.size w w'
set_option maxHeartbeats 2000000 in
set_option maxRecDepth 100000 in
theorem cL09Used (A : Option Addr) (n c : Nat) (xs : List Nm) (y : Int) (w : World) (hb : n ≤ 1048576) (h : NmAt w w.heap.size A n xs) :
    Calls Tryz.prog 66 #[.slice A n c, .int .i64 y] w (UsedOut xs y n w) := by
  obtain ⟨i0, hi0, hz0, hz1, hz2⟩ := info_parts info_i64
  have H := Lib.hid h
  have HN := Lib.hid h.1
  have CU := Lib.hid (fun (x : Nm) W => cIn_any y x.f x.u W)
  clear h
  have hO := World.ownsRow_lit (e := 2) (base := w.heap.size) (size := 1) w #[] 0 (Nat.le_refl _) (by decide) rfl
  have HO0 := Lib.hid hO
  have hb1a := (Below.refl w.heap.size w).alloc (Nat.le_refl _) (.cells #[] 2)
  clear hO
  go_enter Tryz.func66, Tryz.ntmps66
  go_wp2_with fail
  go_loopw [5, 6] (fun o i wr => ∃ (k m d : Nat) (B : Option Addr), k ≤ n ∧ i = .int .i64 k ∧ o = .slice B m d ∧ Hid (m ≤ k) ∧ Hid (wr.ownsRow w.heap.size 2 1 (.slice B m d) m (intV (usP xs y k))) ∧ Below w.heap.size w wr) (fun _ i _ => n - (intOf i).toNat)
  case atStart => exact ⟨0, 0, 0, _, Nat.zero_le _, rfl, rfl, Lib.hid (Nat.le_refl _), HO0, hb1a⟩
  case round =>
    clear HO0 hb1a
    obtain ⟨k, m, d, B, hk, rfl, rfl, HM, HO, hbw⟩ := hrel
    by_cases hlt : k < n
    · obtain ⟨x, hx⟩ : ∃ x, xs[k]? = some x := ⟨xs[k]'(by have := HN.out; omega), List.getElem?_eq_getElem _⟩
      obtain ⟨b, o, rfl, hbl, c0, c1, c2, c3, c4⟩ := (H.out.below hbw (Nat.le_refl _)).row hx
      have HX := Lib.hid hx
      have CX := Lib.hid (fun W => CU.out x W)
      have u1 : (0 : Int) ≤ (k : Int) := Int.natCast_nonneg _
      have u2 : (k : Int) < (n : Int) := by omega
      clear hx
      cases hf : usB x y
      · rw [show (decide (x.f ≤ y) && decide (y ≤ x.u)) = false from hf] at CX
        have HST := Lib.hid (usP_no HX.out hf)
        clear hf
        go_wp2_with fail
        go_quiet ((go_at_call 92; exact Calls.quiet_of_same ((CX.out _).mono (fun _ _ h => ⟨h.1, h.2.symm⟩))))
        have HO2 : Hid ((wr.drewN nq).ownsRow w.heap.size 2 1 (.slice B m d) m (intV (usP xs y (k + 1)))) := Lib.hid (by rw [HST.out]; exact HO.out)
        go_wp2_with fail
        go_roundw
        case rel => exact ⟨k + 1, m, d, B, by omega, by go_num, rfl, Lib.hid (by have := HM.out; omega), HO2, below_drN_r hbw _⟩
        case measure => simp [intOf]; omega
      · rw [show (decide (x.f ≤ y) && decide (y ≤ x.u)) = true from hf] at CX
        have HST := Lib.hid (usP_yes HX.out hf)
        clear hf
        go_wp2_with fail
        go_quiet ((go_at_call 92; exact Calls.quiet_of_same ((CX.out _).mono (fun _ _ h => ⟨h.1, h.2.symm⟩))))
        have hown : (wr.drewN nq).ownsRow w.heap.size 2 1 (.slice B m d) m (intV (usP xs y k)) := HO.out
        have hbt : Below w.heap.size w (wr.drewN nq) := below_drN_r hbw _
        have hmk := HM.out
        go_wp2_with (at_builtin; refine wpList_append_own _ rfl _ _ 41 rfl w.heap.size 2 i0 _ 1 8 Tryz.underlying41 hi0 hz0 hz1 hz2 rfl (by decide) _ _ _ rfl (hown.alloc _) ⟨(wr.drewN nq).heap.size, 0, none⟩ 1 1 [.int .i64 (k : Int)] rfl rfl ?d1 ?d2 ?d3 ?d4 ?d5 ?_)
        case d1 => exact one_cell' _ _ _ (new_one _ _ _)
        case d2 => intro u hu; simp at hu; subst hu; rfl
        case d3 => unfold maxLen; omega
        case d4 => omega
        case d5 => have := hbw.size; simp; omega
        intro v' w3 hown3 hgrow3 _
        rw [intV_snoc9] at hown3
        have hb3 : Below w.heap.size w w3 := (hbt.alloc hbt.size _).grown hgrow3 (by have := hbw.size; simp; omega) (fun x hx => (hown.lt x hx).1)
        have HO3 : Hid (w3.ownsRow w.heap.size 2 1 v' (m + 1) (intV (usP xs y (k + 1)))) := Lib.hid (by rw [HST.out]; exact hown3)
        obtain ⟨g', c', rfl, _, _⟩ := World.ownsRow.form HO3.out (by omega)
        clear hown3 hown hgrow3
        go_wp2_with fail
        go_roundw
        case rel => exact ⟨k + 1, m + 1, c', some ⟨g', 0, none⟩, by omega, by go_num, rfl, Lib.hid (by omega), HO3, hb3⟩
        case measure => simp [intOf]; omega
    · obtain rfl : k = n := by omega
      go_wp2_with fail
      go_ret
      exact ⟨B, m, d, rfl, HO.out, hbw⟩

set_option maxHeartbeats 1000000 in
theorem cUsedIn_spec (A : Option Addr) (n c : Nat) (xs : List Nm) (y : Int) (w : World) (hb : n ≤ 1048576) (hz : Sz9 xs) (h : NmAt w w.heap.size A n xs) :
    Calls Tryz.prog 19 #[.slice A n c, .int .i64 y] w (OutN9 (usZ xs y) (qC xs [] y) w) := by
  have CC := Lib.hid (cL09Code A n c xs ⟨#[97, 97]⟩ y w hb hz (by decide) h)
  rw [qC_aa] at CC
  have CU := Lib.hid (fun W (hW : Below w.heap.size w W) => cL09Used A n c xs y W hb ((h.below hW (Nat.le_refl _)).more hW.size))
  have HN := Lib.hid h.1
  clear h hz
  obtain ⟨q, hq⟩ : ∃ q, q = qC xs [] y := ⟨_, rfl⟩
  rw [← hq] at CC ⊢
  by_cases h0 : q = 0
  · subst h0
    rw [usZ_ok hq.symm]
    clear hq
    go_enter Tryz.func19, Tryz.ntmps19
    go_wp2_with fail
    refine CC.out.mono ?_
    rintro e w1 ⟨rfl, hb1⟩
    go_wp2_with fail
    refine (CU.out _ hb1).mono ?_
    rintro e w2 ⟨B, m, d, rfl, hown, hb2⟩
    rw [HN.out] at hown
    have HO := Lib.hid (World.ownsRow.mono hown hb1.size)
    clear hown
    go_wp2_with fail
    go_ret2
    exact ⟨B, m, d, rfl, HO.out, bstep9 hb1 hb1.size hb2⟩
  · rw [usZ_no (by rw [← hq]; exact h0)]
    have hd : (q != 0) = true := by simp [h0]
    clear hq h0
    go_enter Tryz.func19, Tryz.ntmps19
    go_wp2_with fail
    refine CC.out.mono ?_
    rintro e w1 ⟨rfl, hb1⟩
    go_wp2_with fail
    go_ret2
    exact ⟨none, 0, 0, rfl, World.ownsRow_nil _ _ _ _, hb1⟩
end Go.Proofs.YthlilfdndpnbkaaGreatDoor
