/-
  The contracts of impl.IsName, check and isLanguage, and of spec.IsName and l09Language.
-/
import Derived.Test.YtkbkgbhnfopgnaaDoorNmPlain
import Derived.Test.YtkbkgbhnfopgnaaDoorErr9
import Derived.Test.YtkbkgbhnfopgnaaDoorMq7
import Derived.LoopTactic
namespace Go.Proofs.YtkbkgbhnfopgnaaDoor
set_option linter.unusedVariables false
open Go.RowKit

theorem bstep9 {B : Nat} {a b c : World} (h : Below B a b) (hB : B ≤ b.heap.size) (k : Below b.heap.size b c) : Below B a c := h.trans (k.mono hB)
theorem cLang_impl (s : ByteArray) (w : World) (hs : s.size ≤ maxLen) :
    Calls Tryd.prog 99 #[.string s] w fun e w' => e = .returned (.bool (langB s)) ∧ w = w' := by
  have CL := Lib.hid (cLetters s w hs)
  unfold maxLen at hs
  by_cases h0 : 2 ≤ s.size
  · by_cases h1 : s.size ≤ 3
    · have HX := Lib.hid (lang_mid s h0 h1)
      go_enter Tryd.func99, Tryd.ntmps99
      go_wp2_with (go_at_call 72; refine CL.out.mono ?_; rintro e w' ⟨rfl, rfl⟩)
      go_ret
      exact ⟨ret_bool HX.out.symm, rfl⟩
    · have HX := Lib.hid (lang_long s h1)
      go_enter Tryd.func99, Tryd.ntmps99
      go_wp2
      go_ret
      exact ⟨ret_bool HX.out.symm, rfl⟩
  · have HX := Lib.hid (lang_short s h0)
    go_enter Tryd.func99, Tryd.ntmps99
    go_wp2
    go_ret
    exact ⟨ret_bool HX.out.symm, rfl⟩

/-- A box that holds a name. -/
theorem nm_new (w : World) (x : Nm) (t : TypeId) : NmCell (w.alloc (.cells #[.string x.t, .string x.l, .int .i64 x.s, .int .i64 x.f, .int .i64 x.u] t)) w.heap.size 0 x :=
  ⟨by rw [World.cell?_alloc_at _ _ _ _ rfl]; rfl, by rw [World.cell?_alloc_at _ _ _ _ rfl]; rfl, by rw [World.cell?_alloc_at _ _ _ _ rfl]; rfl, by rw [World.cell?_alloc_at _ _ _ _ rfl]; rfl, by rw [World.cell?_alloc_at _ _ _ _ rfl]; rfl⟩
theorem nm_box {w W : World} {x : Nm} {t : TypeId} (h : Below (w.alloc (.cells #[.string x.t, .string x.l, .int .i64 x.s, .int .i64 x.f, .int .i64 x.u] t)).heap.size (w.alloc (.cells #[.string x.t, .string x.l, .int .i64 x.s, .int .i64 x.f, .int .i64 x.u] t)) W) :
    W.cell? ⟨w.heap.size, 0, none⟩ = some (.string x.t) ∧ W.cell? ⟨w.heap.size, 1, none⟩ = some (.string x.l) ∧ W.cell? ⟨w.heap.size, 2, none⟩ = some (.int .i64 x.s) ∧ W.cell? ⟨w.heap.size, 3, none⟩ = some (.int .i64 x.f) ∧ W.cell? ⟨w.heap.size, 4, none⟩ = some (.int .i64 x.u) :=
  (nm_new w x t).below h (by simp)
/-- What check answers. -/
def ChkOut (b : Bool) (w : World) (e : Ending) (w' : World) : Prop := (∃ v, e = .returned v ∧ ((b = true ∧ v = .nilIface) ∨ (b = false ∧ ∃ u, v = .iface 135 u))) ∧ Below w.heap.size w w'

set_option maxHeartbeats 1000000 in
theorem cCheck (x : Nm) (w : World) (ht : x.t.size ≤ 1073741824) (hl : x.l.size ≤ maxLen) (hsh : w.ShapedOpen Tryd.prog) (her : Er4 w) :
    Calls Tryd.prog 95 #[nmA x] w (ChkOut (nmB x) w) := by
  have hb0 := (Below.refl w.heap.size w).alloc (Nat.le_refl _) (.cells #[.string x.t, .string x.l, .int .i64 x.s, .int .i64 x.f, .int .i64 x.u] 65)
  have CP := Lib.hid (cIsPhrase_impl x.t (w.alloc (.cells #[.string x.t, .string x.l, .int .i64 x.s, .int .i64 x.f, .int .i64 x.u] 65)) ht (shaped_below hsh hb0))
  have CL := Lib.hid (fun W => cLang_impl x.l W hl)
  have CV := Lib.hid (fun W => cValid x.f x.u W)
  have KB := Lib.hid (fun W hW => nm_box (w := w) (W := W) (x := x) (t := 65) hW)
  have HB := Lib.hid hb0
  have HE := Lib.hid (fun W (hW : Below w.heap.size w W) => her.below hW)
  clear hb0 her hsh
  rcases nm_cases x with ⟨hv, e1, e2, e3, e4, e5⟩ | ⟨hv, hr⟩
  · rw [hv]
    rw [e1] at CP
    rw [e2] at CL
    rw [e5] at CV
    clear hv e1 e2 e5
    have d3 : decide (x.s < 0) = false := decide_eq_false (by omega)
    have d4 : decide (2 < x.s) = false := decide_eq_false (by omega)
    go_enter Tryd.func95, Tryd.ntmps95
    go_wp2_with fail
    refine CP.out.mono ?_
    rintro e w1 ⟨rfl, hb1⟩
    obtain ⟨k0, k1, k2, k3, k4⟩ := KB.out w1 hb1
    have hbt := bstep9 HB.out HB.out.size hb1
    clear hb1
    go_wp2_with (go_at_call 99; refine (CL.out _).mono ?_; rintro e w' ⟨rfl, rfl⟩)
    refine (CV.out _).mono ?_
    rintro e w2 ⟨rfl, hb2⟩
    have hbt2 := bstep9 hbt hbt.size hb2
    clear hb2
    go_wp2_with fail
    go_ret
    exact ⟨⟨_, rfl, .inl ⟨rfl, rfl⟩⟩, hbt2⟩
  rw [hv]
  clear hv
  rcases hr with h1 | ⟨h1, h2 | ⟨h2, h3 | ⟨h3, h4, h5⟩⟩⟩
  · rw [h1] at CP
    clear h1
    go_enter Tryd.func95, Tryd.ntmps95
    go_wp2_with fail
    refine CP.out.mono ?_
    rintro e w1 ⟨rfl, hb1⟩
    have hbt := bstep9 HB.out HB.out.size hb1
    obtain ⟨v, hv⟩ := (HE.out w1 hbt).p
    clear hb1
    go_wp2_with fail
    go_ret
    exact ⟨⟨_, rfl, .inr ⟨rfl, _, rfl⟩⟩, hbt⟩
  · rw [h1] at CP
    rw [h2] at CL
    clear h1 h2
    go_enter Tryd.func95, Tryd.ntmps95
    go_wp2_with fail
    refine CP.out.mono ?_
    rintro e w1 ⟨rfl, hb1⟩
    obtain ⟨k0, k1, k2, k3, k4⟩ := KB.out w1 hb1
    have hbt := bstep9 HB.out HB.out.size hb1
    obtain ⟨v, hv⟩ := (HE.out w1 hbt).l
    clear hb1
    go_wp2_with (go_at_call 99; refine (CL.out _).mono ?_; rintro e w' ⟨rfl, rfl⟩)
    go_ret
    exact ⟨⟨_, rfl, .inr ⟨rfl, _, rfl⟩⟩, hbt⟩
  · rw [h1] at CP
    rw [h2] at CL
    clear h1 h2
    have h3' : x.s < 0 ∨ 2 < x.s := by
      rcases Int.lt_or_le x.s 0 with h | h
      · exact .inl h
      · rw [decide_eq_true h, Bool.true_and] at h3; have := of_decide_eq_false h3; exact .inr (by omega)
    clear h3
    go_enter Tryd.func95, Tryd.ntmps95
    go_wp2_with fail
    refine CP.out.mono ?_
    rintro e w1 ⟨rfl, hb1⟩
    obtain ⟨k0, k1, k2, k3, k4⟩ := KB.out w1 hb1
    have hbt := bstep9 HB.out HB.out.size hb1
    obtain ⟨v, hv⟩ := (HE.out w1 hbt).s
    clear hb1
    rcases h3' with h3 | h3
    · have d3 : decide (x.s < 0) = true := decide_eq_true h3
      go_wp2_with (go_at_call 99; refine (CL.out _).mono ?_; rintro e w' ⟨rfl, rfl⟩)
      go_ret
      exact ⟨⟨_, rfl, .inr ⟨rfl, _, rfl⟩⟩, hbt⟩
    · have d3 : decide (x.s < 0) = false := decide_eq_false (by omega)
      have d4 : decide (2 < x.s) = true := decide_eq_true h3
      go_wp2_with (go_at_call 99; refine (CL.out _).mono ?_; rintro e w' ⟨rfl, rfl⟩)
      go_ret
      exact ⟨⟨_, rfl, .inr ⟨rfl, _, rfl⟩⟩, hbt⟩
  · rw [h1] at CP
    rw [h2] at CL
    rw [h5] at CV
    clear h1 h2 h5
    have d3 : decide (x.s < 0) = false := decide_eq_false (by omega)
    have d4 : decide (2 < x.s) = false := decide_eq_false (by omega)
    go_enter Tryd.func95, Tryd.ntmps95
    go_wp2_with fail
    refine CP.out.mono ?_
    rintro e w1 ⟨rfl, hb1⟩
    obtain ⟨k0, k1, k2, k3, k4⟩ := KB.out w1 hb1
    have hbt := bstep9 HB.out HB.out.size hb1
    clear hb1
    go_wp2_with (go_at_call 99; refine (CL.out _).mono ?_; rintro e w' ⟨rfl, rfl⟩)
    refine (CV.out _).mono ?_
    rintro e w2 ⟨rfl, hb2⟩
    have hbt2 := bstep9 hbt hbt.size hb2
    obtain ⟨v, hv⟩ := (HE.out w2 hbt2).y
    clear hb2
    go_wp2_with fail
    go_ret
    exact ⟨⟨_, rfl, .inr ⟨rfl, _, rfl⟩⟩, hbt2⟩

set_option maxHeartbeats 400000 in
theorem cLang_spec (s : ByteArray) (w : World) (hs : s.size ≤ maxLen) :
    Calls Tryd.prog 90 #[.string s, .int .i64 2, .int .i64 3] w fun e w' => e = .returned (.bool (langB s)) ∧ w = w' := by
  unfold maxLen at hs
  go_enter Tryd.func90, Tryd.ntmps90
  go_wp2
  go_loop [7] (fun i => ∃ k : Nat, k ≤ s.size ∧ i = .int .i64 k ∧ Hid (lowAll (s.data.toList.take k) = true)) (fun i => s.size - (intOf i).toNat)
  case atStart => exact ⟨0, Nat.zero_le _, rfl, Lib.hid (lowAll_zero s)⟩
  case round =>
    obtain ⟨k, hk, rfl, HA⟩ := hrel
    by_cases hlt : k < s.size
    · go_wp2
      all_goals first
        | (have hno : (s[k].toNat : Int) < 97 ∨ (122 : Int) < (s[k].toNat : Int) := by first | assumption | omega
           go_ret
           exact ⟨ret_bool (lang_stop s k hlt (lowB_no _ hno)).symm, rfl⟩)
        | (go_round
           case rel => exact ⟨k + 1, by omega, by go_num, Lib.hid (lowAll_step s k hlt HA.out (lowB_yes _ (by omega) (by omega)))⟩
           case measure => simp [intOf]; omega)
    · go_wp2_with (go_at_call 35; refine (cIn_any _ _ _ _).mono ?_; rintro e w' ⟨rfl, rfl⟩)
      go_ret
      exact ⟨ret_bool (lang_sum s ((lowAll_end s k (by omega)).symm.trans HA.out)).symm, rfl⟩
theorem cL09 (s : ByteArray) (w : World) (hs : s.size ≤ maxLen) :
    Calls Tryd.prog 83 #[.string s] w fun e w' => e = .returned (.bool (langB s)) ∧ w = w' := by
  have CL := Lib.hid (cLang_spec s w hs)
  go_enter Tryd.func83, Tryd.ntmps83
  go_wp2_with (go_at_call 90; refine CL.out.mono ?_; rintro e w' ⟨rfl, rfl⟩)
  go_ret
  exact ⟨rfl, rfl⟩

set_option maxHeartbeats 1000000 in
theorem cIsName_spec (x : Nm) (w : World) (ht : x.t.size ≤ 1073741824) (hl : x.l.size ≤ maxLen) :
    Calls Tryd.prog 66 #[nmA x] w fun e w' => e = .returned (.bool (nmB x)) ∧ Below w.heap.size w w' := by
  have hb0 := (Below.refl w.heap.size w).alloc (Nat.le_refl _) (.cells #[.string x.t, .string x.l, .int .i64 x.s, .int .i64 x.f, .int .i64 x.u] 65)
  have CP := Lib.hid (cIsPhrase_spec x.t (w.alloc (.cells #[.string x.t, .string x.l, .int .i64 x.s, .int .i64 x.f, .int .i64 x.u] 65)) ht)
  have CL := Lib.hid (fun W => cL09 x.l W hl)
  have CI := Lib.hid (fun W => cIn_any x.s 0 2 W)
  have CV := Lib.hid (fun W => cIsSpan_spec x.f x.u W)
  have KB := Lib.hid (fun W hW => nm_box (w := w) (W := W) (x := x) (t := 65) hW)
  have HB := Lib.hid hb0
  clear hb0
  rcases nm_cases x with ⟨hv, e1, e2, e3, e4, e5⟩ | ⟨hv, hr⟩
  · rw [hv]
    rw [e1] at CP
    rw [e2] at CL
    rw [e5] at CV
    rw [decide_eq_true e3, decide_eq_true e4] at CI
    clear hv e1 e2 e5 e3 e4
    go_enter Tryd.func66, Tryd.ntmps66
    go_wp2_with fail
    refine CP.out.mono ?_
    rintro e w1 ⟨rfl, hb1⟩
    obtain ⟨k0, k1, k2, k3, k4⟩ := KB.out w1 hb1
    have hbt := bstep9 HB.out HB.out.size hb1
    clear hb1
    go_wp2_with (first | (go_at_call 83; refine (CL.out _).mono ?_; rintro e w' ⟨rfl, rfl⟩) | (go_at_call 35; refine (CI.out _).mono ?_; rintro e w' ⟨rfl, rfl⟩))
    refine (CV.out _).mono ?_
    rintro e w2 ⟨rfl, hb2⟩
    have hbt2 := bstep9 hbt hbt.size hb2
    clear hb2
    go_wp2_with fail
    go_ret
    exact ⟨rfl, hbt2⟩
  rw [hv]
  clear hv
  rcases hr with h1 | ⟨h1, h2 | ⟨h2, h3 | ⟨h3, h4, h5⟩⟩⟩
  · rw [h1] at CP
    clear h1
    go_enter Tryd.func66, Tryd.ntmps66
    go_wp2_with fail
    refine CP.out.mono ?_
    rintro e w1 ⟨rfl, hb1⟩
    have hbt := bstep9 HB.out HB.out.size hb1
    clear hb1
    go_wp2_with fail
    go_ret
    exact ⟨rfl, hbt⟩
  · rw [h1] at CP
    rw [h2] at CL
    clear h1 h2
    go_enter Tryd.func66, Tryd.ntmps66
    go_wp2_with fail
    refine CP.out.mono ?_
    rintro e w1 ⟨rfl, hb1⟩
    obtain ⟨k0, k1, k2, k3, k4⟩ := KB.out w1 hb1
    have hbt := bstep9 HB.out HB.out.size hb1
    clear hb1
    go_wp2_with (go_at_call 83; refine (CL.out _).mono ?_; rintro e w' ⟨rfl, rfl⟩)
    go_ret
    exact ⟨rfl, hbt⟩
  · rw [h1] at CP
    rw [h2] at CL
    rw [h3] at CI
    clear h1 h2 h3
    go_enter Tryd.func66, Tryd.ntmps66
    go_wp2_with fail
    refine CP.out.mono ?_
    rintro e w1 ⟨rfl, hb1⟩
    obtain ⟨k0, k1, k2, k3, k4⟩ := KB.out w1 hb1
    have hbt := bstep9 HB.out HB.out.size hb1
    clear hb1
    go_wp2_with (first | (go_at_call 83; refine (CL.out _).mono ?_; rintro e w' ⟨rfl, rfl⟩) | (go_at_call 35; refine (CI.out _).mono ?_; rintro e w' ⟨rfl, rfl⟩))
    go_ret
    exact ⟨rfl, hbt⟩
  · rw [h1] at CP
    rw [h2] at CL
    rw [h5] at CV
    rw [decide_eq_true h3, decide_eq_true h4] at CI
    clear h1 h2 h5 h3 h4
    go_enter Tryd.func66, Tryd.ntmps66
    go_wp2_with fail
    refine CP.out.mono ?_
    rintro e w1 ⟨rfl, hb1⟩
    obtain ⟨k0, k1, k2, k3, k4⟩ := KB.out w1 hb1
    have hbt := bstep9 HB.out HB.out.size hb1
    clear hb1
    go_wp2_with (first | (go_at_call 83; refine (CL.out _).mono ?_; rintro e w' ⟨rfl, rfl⟩) | (go_at_call 35; refine (CI.out _).mono ?_; rintro e w' ⟨rfl, rfl⟩))
    refine (CV.out _).mono ?_
    rintro e w2 ⟨rfl, hb2⟩
    have hbt2 := bstep9 hbt hbt.size hb2
    clear hb2
    go_wp2_with fail
    go_ret
    exact ⟨rfl, hbt2⟩
end Go.Proofs.YtkbkgbhnfopgnaaDoor
