/-
  The contract of impl.IsPhrase: it returns 'phraseB s'.
-/
import Derived.Test.YtglmibmjbignbaaGreatDoorMy5
import Derived.Test.YtglmibmjbignbaaGreatDoorShelf
import Derived.ChangeAgain
import Derived.Test.YtglmibmjbignbaaGreatDoorErr9
import Derived.LoopTactic
namespace Go.Proofs.YtglmibmjbignbaaGreatDoor
section
set_option linter.unusedVariables false
open Go.RowKit

theorem shaped_below {P : Program} {w w' : World} (h : w.ShapedOpen P) (hb : Below w.heap.size w w') : w'.ShapedOpen P := h.keptBut (hb.frame (fun _ => False)) (fun _ f => f.elim)
theorem phrase_bad (s : ByteArray) (h : wordsB (spaceB s) = false) : phraseB s = false := by unfold phraseB; rw [h]; rfl
theorem phrase_ok (s : ByteArray) (h : wordsB (spaceB s) = true) : phraseB s = decide ((spaceB s).length ≤ 8) := by unfold phraseB; rw [h]; rfl

/-- What strings.SplitN at 9 gives decides whether s is a phrase. -/
theorem phrase_nine (s : ByteArray) : let Q := Lib.splitB (sepB 32) 0 (min 9 (s.size + 1) - 1) s
    phraseB s = (decide (Q.length ≤ 8) && wordsB Q) ∧ Q.length ≤ 9 := by
  intro Q
  have hl : Q.length ≤ (min 9 (s.size + 1) - 1) + 1 := Lib.splitB_length_le _ _ _ _
  refine ⟨?_, by omega⟩
  rcases split_some 32 (min 9 (s.size + 1) - 1) s.size s (by omega) with h | ⟨h1, h2⟩
  · have hq : Q = spaceB s := h
    rw [hq]; unfold phraseB; rw [Bool.and_comm]
  · have hm : min 9 (s.size + 1) - 1 = 8 := by
      by_cases e : 9 ≤ s.size + 1
      · omega
      · have e1 : min 9 (s.size + 1) - 1 = s.size := by omega
        rw [e1] at h1 h2
        omega
    rw [hm] at h1 h2
    have hq : Q.length = 9 := by show (Lib.splitB (sepB 32) 0 (min 9 (s.size + 1) - 1) s).length = 9; rw [hm]; exact h1
    have hp : (8 : Nat) < (spaceB s).length := by show 8 < (Lib.splitB (sepB 32) 0 s.size s).length; omega
    unfold phraseB
    rw [decide_eq_false (show ¬ (spaceB s).length ≤ 8 by omega), decide_eq_false (show ¬ Q.length ≤ 8 by omega)]
    simp

theorem cellsOf_at (Q : List ByteArray) (N j : Nat) (x : ByteArray) (h : Q[j]? = some x) : (Lib.cellsOf Q N)[j]? = some (.string x) := by
  have hj := (List.getElem?_eq_some_iff.1 h).1
  unfold Lib.cellsOf
  rw [List.getElem?_toArray, List.getElem?_append_left (by simpa using hj)]
  simp [h]

set_option maxHeartbeats 400000 in
theorem cIsPhrase_impl (s : ByteArray) (w : World) (hs : s.size ≤ 1073741824) (hsh : w.ShapedOpen Tryz.prog) :
    Calls Tryz.prog 86 #[.string s] w fun e w' => e = .returned (.bool (phraseB s)) ∧ Below w.heap.size w w' := by
  obtain ⟨hp, h9⟩ := phrase_nine s
  have hc := Tryz.strings_SplitN_shaped s (sepB 32) 9 w hsh (by omega) (by decide) (by decide) (by decide)
  have hsz : ∀ x ∈ Lib.splitB (sepB 32) 0 (min 9 (s.size + 1) - 1) s, x.size ≤ maxLen := fun x hx => by have := piece_size 32 _ s x hx; unfold maxLen; omega
  obtain ⟨Q, hQ⟩ : ∃ Q, Q = Lib.splitB (sepB 32) 0 (min 9 (s.size + 1) - 1) s := ⟨_, rfl⟩
  obtain ⟨N, hN⟩ : ∃ N, N = min 9 (s.size + 1) := ⟨_, rfl⟩
  rw [← hQ] at hp h9 hc hsz
  rw [← hN] at hc
  clear hQ hN
  obtain ⟨n, hn⟩ : ∃ n, n = Q.length := ⟨_, rfl⟩
  rw [← hn] at h9 hc hp
  have HP := Lib.hid hp
  have HN := Lib.hid hn
  have HC := Lib.hid hc
  have HS := Lib.hid hsz
  clear hp hn hc hsz hsh
  by_cases h8 : n ≤ 8
  · have hd : decide ((n : Int) ≤ 8) = true := decide_eq_true (by omega)
    go_enter Tryz.func86, Tryz.ntmps86
    go_wp2_with fail
    refine (show Calls Tryz.prog 135 #[.string s, .string (sepB 32), .int .i64 9] _ _ from HC.out).mono ?_
    rintro e w1 ⟨rfl, rfl⟩
    go_wp2_with fail
    refine (cAreWords w.heap.size 0 _ n Q _ HN.out (by omega) HS.out ?_).mono ?_
    · intro j x hx
      rw [Nat.zero_add, World.cell?_alloc_at _ _ _ _ rfl]
      exact cellsOf_at _ _ _ _ hx
    rintro e w1 ⟨rfl, rfl⟩
    go_wp2_with fail
    go_ret
    exact ⟨ret_bool (by rw [HP.out, decide_eq_true h8]; simp), by go_grown⟩
  · have hd : decide ((n : Int) ≤ 8) = false := decide_eq_false (by omega)
    go_enter Tryz.func86, Tryz.ntmps86
    go_wp2_with fail
    refine (show Calls Tryz.prog 135 #[.string s, .string (sepB 32), .int .i64 9] _ _ from HC.out).mono ?_
    rintro e w1 ⟨rfl, rfl⟩
    go_wp2_with fail
    go_ret
    exact ⟨ret_bool (by rw [HP.out, decide_eq_false h8]; simp), by go_grown⟩
end
section
set_option linter.unusedVariables false
open Go.RowKit

theorem cIsPhrase_spec (s : ByteArray) (w : World) (hs : s.size ≤ 1073741824) :
    Calls Tryz.prog 91 #[.string s] w fun e w' => e = .returned (.bool (phraseB s)) ∧ Below w.heap.size w w' := by
  cases h : wordsB (spaceB s)
  · have HP := Lib.hid (phrase_bad s h)
    have H := Lib.hid h
    clear h
    go_enter Tryz.func91, Tryz.ntmps91
    go_wp2_with fail
    refine (cPhrase_bad s _ hs H.out).mono ?_
    rintro e w1 ⟨rfl, hb⟩
    go_wp2_with fail
    go_ret
    exact ⟨ret_bool HP.out.symm, hb⟩
  · have HP := Lib.hid (phrase_ok s h)
    have H := Lib.hid h
    clear h
    have hc := cPhrase_ok s
    rw [← HP.out] at hc
    have HC := Lib.hid hc
    clear hc
    go_enter Tryz.func91, Tryz.ntmps91
    go_wp2_with fail
    refine (HC.out _ hs H.out).mono ?_
    rintro e w1 ⟨v, rfl, hown, hb⟩
    go_wp2_with fail
    go_ret
    exact ⟨rfl, hb⟩

end
section
set_option linter.unusedVariables false
open Go.RowKit

theorem bstep9 {B : Nat} {a b c : World} (h : Below B a b) (hB : B ≤ b.heap.size) (k : Below b.heap.size b c) : Below B a c := h.trans (k.mono hB)
theorem cLang_impl (s : ByteArray) (w : World) (hs : s.size ≤ maxLen) :
    Calls Tryz.prog 103 #[.string s] w fun e w' => e = .returned (.bool (langB s)) ∧ w = w' := by
  have CL := Lib.hid (cLetters s w hs)
  unfold maxLen at hs
  by_cases h0 : 2 ≤ s.size
  · by_cases h1 : s.size ≤ 3
    · have HX := Lib.hid (lang_mid s h0 h1)
      go_enter Tryz.func103, Tryz.ntmps103
      go_wp2_with (go_at_call 138; refine CL.out.mono ?_; rintro e w' ⟨rfl, rfl⟩)
      go_ret
      exact ⟨ret_bool HX.out.symm, rfl⟩
    · have HX := Lib.hid (lang_long s h1)
      go_enter Tryz.func103, Tryz.ntmps103
      go_wp2
      go_ret
      exact ⟨ret_bool HX.out.symm, rfl⟩
  · have HX := Lib.hid (lang_short s h0)
    go_enter Tryz.func103, Tryz.ntmps103
    go_wp2
    go_ret
    exact ⟨ret_bool HX.out.symm, rfl⟩

/-- A box that holds a name. -/
theorem nm_new (w : World) (x : Nm) (t : TypeId) : NmCell (w.alloc (.cells #[.string x.t, .string x.l, .int .i64 x.s, .int .i64 x.f, .int .i64 x.u] t)) w.heap.size 0 x :=
  ⟨by rw [World.cell?_alloc_at _ _ _ _ rfl]; rfl, by rw [World.cell?_alloc_at _ _ _ _ rfl]; rfl, by rw [World.cell?_alloc_at _ _ _ _ rfl]; rfl, by rw [World.cell?_alloc_at _ _ _ _ rfl]; rfl, by rw [World.cell?_alloc_at _ _ _ _ rfl]; rfl⟩
theorem nm_box {w W : World} {x : Nm} {t : TypeId} (h : Below (w.alloc (.cells #[.string x.t, .string x.l, .int .i64 x.s, .int .i64 x.f, .int .i64 x.u] t)).heap.size (w.alloc (.cells #[.string x.t, .string x.l, .int .i64 x.s, .int .i64 x.f, .int .i64 x.u] t)) W) :
    W.cell? ⟨w.heap.size, 0, none⟩ = some (.string x.t) ∧ W.cell? ⟨w.heap.size, 1, none⟩ = some (.string x.l) ∧ W.cell? ⟨w.heap.size, 2, none⟩ = some (.int .i64 x.s) ∧ W.cell? ⟨w.heap.size, 3, none⟩ = some (.int .i64 x.f) ∧ W.cell? ⟨w.heap.size, 4, none⟩ = some (.int .i64 x.u) :=
  (nm_new w x t).below h (by simp)
/-- What check answers. -/
def ChkOut (b : Bool) (w : World) (e : Ending) (w' : World) : Prop := (∃ v, e = .returned v ∧ ((b = true ∧ v = .nilIface) ∨ (b = false ∧ ∃ u, v = .iface 257 u))) ∧ Below w.heap.size w w'

set_option maxHeartbeats 1000000 in
theorem cCheck (x : Nm) (w : World) (ht : x.t.size ≤ 1073741824) (hl : x.l.size ≤ maxLen) (hsh : w.ShapedOpen Tryz.prog) (her : Er4 w) :
    Calls Tryz.prog 206 #[nmA x] w (ChkOut (nmB x) w) := by
  have hb0 := (Below.refl w.heap.size w).alloc (Nat.le_refl _) (.cells #[.string x.t, .string x.l, .int .i64 x.s, .int .i64 x.f, .int .i64 x.u] 100)
  have CP := Lib.hid (cIsPhrase_impl x.t (w.alloc (.cells #[.string x.t, .string x.l, .int .i64 x.s, .int .i64 x.f, .int .i64 x.u] 100)) ht (shaped_below hsh hb0))
  have CL := Lib.hid (fun W => cLang_impl x.l W hl)
  have CV := Lib.hid (fun W => cValid x.f x.u W)
  have KB := Lib.hid (fun W hW => nm_box (w := w) (W := W) (x := x) (t := 100) hW)
  have HB := Lib.hid hb0
  have HE := Lib.hid (fun W (hW : Below w.heap.size w W) => her.below hW)
  clear hb0 her hsh
  rcases nm_cases x with ⟨hv, e1, e2, e3, e4, e5⟩ | ⟨hv, hr⟩
  · rw [hv]
    rw [e1] at CP
    rw [e2] at CL
    rw [e5] at CV
    clear hv e1 e2 e5
    have d3 : decide (x.s < 0) = false := decide_eq_false (by omega)
    have d4 : decide (2 < x.s) = false := decide_eq_false (by omega)
    go_enter Tryz.func206, Tryz.ntmps206
    go_wp2_with fail
    refine CP.out.mono ?_
    rintro e w1 ⟨rfl, hb1⟩
    obtain ⟨k0, k1, k2, k3, k4⟩ := KB.out w1 hb1
    have hbt := bstep9 HB.out HB.out.size hb1
    clear hb1
    go_wp2_with (go_at_call 103; refine (CL.out _).mono ?_; rintro e w' ⟨rfl, rfl⟩)
    refine (CV.out _).mono ?_
    rintro e w2 ⟨rfl, hb2⟩
    have hbt2 := bstep9 hbt hbt.size hb2
    clear hb2
    go_wp2_with fail
    go_ret
    exact ⟨⟨_, rfl, .inl ⟨rfl, rfl⟩⟩, hbt2⟩
  rw [hv]
  clear hv
  rcases hr with h1 | ⟨h1, h2 | ⟨h2, h3 | ⟨h3, h4, h5⟩⟩⟩
  · rw [h1] at CP
    clear h1
    go_enter Tryz.func206, Tryz.ntmps206
    go_wp2_with fail
    refine CP.out.mono ?_
    rintro e w1 ⟨rfl, hb1⟩
    have hbt := bstep9 HB.out HB.out.size hb1
    obtain ⟨v, hv⟩ := (HE.out w1 hbt).p
    clear hb1
    go_wp2_with fail
    go_ret
    exact ⟨⟨_, rfl, .inr ⟨rfl, _, rfl⟩⟩, hbt⟩
  · rw [h1] at CP
    rw [h2] at CL
    clear h1 h2
    go_enter Tryz.func206, Tryz.ntmps206
    go_wp2_with fail
    refine CP.out.mono ?_
    rintro e w1 ⟨rfl, hb1⟩
    obtain ⟨k0, k1, k2, k3, k4⟩ := KB.out w1 hb1
    have hbt := bstep9 HB.out HB.out.size hb1
    obtain ⟨v, hv⟩ := (HE.out w1 hbt).l
    clear hb1
    go_wp2_with (go_at_call 103; refine (CL.out _).mono ?_; rintro e w' ⟨rfl, rfl⟩)
    go_ret
    exact ⟨⟨_, rfl, .inr ⟨rfl, _, rfl⟩⟩, hbt⟩
  · rw [h1] at CP
    rw [h2] at CL
    clear h1 h2
    have h3' : x.s < 0 ∨ 2 < x.s := by
      rcases Int.lt_or_le x.s 0 with h | h
      · exact .inl h
      · rw [decide_eq_true h, Bool.true_and] at h3; have := of_decide_eq_false h3; exact .inr (by omega)
    clear h3
    go_enter Tryz.func206, Tryz.ntmps206
    go_wp2_with fail
    refine CP.out.mono ?_
    rintro e w1 ⟨rfl, hb1⟩
    obtain ⟨k0, k1, k2, k3, k4⟩ := KB.out w1 hb1
    have hbt := bstep9 HB.out HB.out.size hb1
    obtain ⟨v, hv⟩ := (HE.out w1 hbt).s
    clear hb1
    rcases h3' with h3 | h3
    · have d3 : decide (x.s < 0) = true := decide_eq_true h3
      go_wp2_with (go_at_call 103; refine (CL.out _).mono ?_; rintro e w' ⟨rfl, rfl⟩)
      go_ret
      exact ⟨⟨_, rfl, .inr ⟨rfl, _, rfl⟩⟩, hbt⟩
    · have d3 : decide (x.s < 0) = false := decide_eq_false (by omega)
      have d4 : decide (2 < x.s) = true := decide_eq_true h3
      go_wp2_with (go_at_call 103; refine (CL.out _).mono ?_; rintro e w' ⟨rfl, rfl⟩)
      go_ret
      exact ⟨⟨_, rfl, .inr ⟨rfl, _, rfl⟩⟩, hbt⟩
  · rw [h1] at CP
    rw [h2] at CL
    rw [h5] at CV
    clear h1 h2 h5
    have d3 : decide (x.s < 0) = false := decide_eq_false (by omega)
    have d4 : decide (2 < x.s) = false := decide_eq_false (by omega)
    go_enter Tryz.func206, Tryz.ntmps206
    go_wp2_with fail
    refine CP.out.mono ?_
    rintro e w1 ⟨rfl, hb1⟩
    obtain ⟨k0, k1, k2, k3, k4⟩ := KB.out w1 hb1
    have hbt := bstep9 HB.out HB.out.size hb1
    clear hb1
    go_wp2_with (go_at_call 103; refine (CL.out _).mono ?_; rintro e w' ⟨rfl, rfl⟩)
    refine (CV.out _).mono ?_
    rintro e w2 ⟨rfl, hb2⟩
    have hbt2 := bstep9 hbt hbt.size hb2
    obtain ⟨v, hv⟩ := (HE.out w2 hbt2).y
    clear hb2
    go_wp2_with fail
    go_ret
    exact ⟨⟨_, rfl, .inr ⟨rfl, _, rfl⟩⟩, hbt2⟩

set_option maxHeartbeats 400000 in
theorem cLang_spec (s : ByteArray) (w : World) (hs : s.size ≤ maxLen) :
    Calls Tryz.prog 147 #[.string s, .int .i64 2, .int .i64 3] w fun e w' => e = .returned (.bool (langB s)) ∧ w = w' := by
  unfold maxLen at hs
  go_enter Tryz.func147, Tryz.ntmps147
  go_wp2
  go_loop [7] (fun i => ∃ k : Nat, k ≤ s.size ∧ i = .int .i64 k ∧ Hid (lowAll (s.data.toList.take k) = true)) (fun i => s.size - (intOf i).toNat)
  case atStart => exact ⟨0, Nat.zero_le _, rfl, Lib.hid (lowAll_zero s)⟩
  case round =>
    obtain ⟨k, hk, rfl, HA⟩ := hrel
    by_cases hlt : k < s.size
    · go_wp2
      all_goals first
        | (have hno : (s[k].toNat : Int) < 97 ∨ (122 : Int) < (s[k].toNat : Int) := by first | assumption | omega
           go_ret
           exact ⟨ret_bool (lang_stop s k hlt (lowB_no _ hno)).symm, rfl⟩)
        | (go_round
           case rel => exact ⟨k + 1, by omega, by go_num, Lib.hid (lowAll_step s k hlt HA.out (lowB_yes _ (by omega) (by omega)))⟩
           case measure => simp [intOf]; omega)
    · go_wp2_with (go_at_call 83; refine (cIn_any _ _ _ _).mono ?_; rintro e w' ⟨rfl, rfl⟩)
      go_ret
      exact ⟨ret_bool (lang_sum s ((lowAll_end s k (by omega)).symm.trans HA.out)).symm, rfl⟩
theorem cL09 (s : ByteArray) (w : World) (hs : s.size ≤ maxLen) :
    Calls Tryz.prog 105 #[.string s] w fun e w' => e = .returned (.bool (langB s)) ∧ w = w' := by
  have CL := Lib.hid (cLang_spec s w hs)
  go_enter Tryz.func105, Tryz.ntmps105
  go_wp2_with (go_at_call 147; refine CL.out.mono ?_; rintro e w' ⟨rfl, rfl⟩)
  go_ret
  exact ⟨rfl, rfl⟩

set_option maxHeartbeats 1000000 in
theorem cIsName_spec (x : Nm) (w : World) (ht : x.t.size ≤ 1073741824) (hl : x.l.size ≤ maxLen) :
    Calls Tryz.prog 133 #[nmA x] w fun e w' => e = .returned (.bool (nmB x)) ∧ Below w.heap.size w w' := by
  have hb0 := (Below.refl w.heap.size w).alloc (Nat.le_refl _) (.cells #[.string x.t, .string x.l, .int .i64 x.s, .int .i64 x.f, .int .i64 x.u] 100)
  have CP := Lib.hid (cIsPhrase_spec x.t (w.alloc (.cells #[.string x.t, .string x.l, .int .i64 x.s, .int .i64 x.f, .int .i64 x.u] 100)) ht)
  have CL := Lib.hid (fun W => cL09 x.l W hl)
  have CI := Lib.hid (fun W => cIn_any x.s 0 2 W)
  have CV := Lib.hid (fun W => cIsSpan_spec x.f x.u W)
  have KB := Lib.hid (fun W hW => nm_box (w := w) (W := W) (x := x) (t := 100) hW)
  have HB := Lib.hid hb0
  clear hb0
  rcases nm_cases x with ⟨hv, e1, e2, e3, e4, e5⟩ | ⟨hv, hr⟩
  · rw [hv]
    rw [e1] at CP
    rw [e2] at CL
    rw [e5] at CV
    rw [decide_eq_true e3, decide_eq_true e4] at CI
    clear hv e1 e2 e5 e3 e4
    go_enter Tryz.func133, Tryz.ntmps133
    go_wp2_with fail
    refine CP.out.mono ?_
    rintro e w1 ⟨rfl, hb1⟩
    obtain ⟨k0, k1, k2, k3, k4⟩ := KB.out w1 hb1
    have hbt := bstep9 HB.out HB.out.size hb1
    clear hb1
    go_wp2_with (first | (go_at_call 105; refine (CL.out _).mono ?_; rintro e w' ⟨rfl, rfl⟩) | (go_at_call 83; refine (CI.out _).mono ?_; rintro e w' ⟨rfl, rfl⟩))
    refine (CV.out _).mono ?_
    rintro e w2 ⟨rfl, hb2⟩
    have hbt2 := bstep9 hbt hbt.size hb2
    clear hb2
    go_wp2_with fail
    go_ret
    exact ⟨rfl, hbt2⟩
  rw [hv]
  clear hv
  rcases hr with h1 | ⟨h1, h2 | ⟨h2, h3 | ⟨h3, h4, h5⟩⟩⟩
  · rw [h1] at CP
    clear h1
    go_enter Tryz.func133, Tryz.ntmps133
    go_wp2_with fail
    refine CP.out.mono ?_
    rintro e w1 ⟨rfl, hb1⟩
    have hbt := bstep9 HB.out HB.out.size hb1
    clear hb1
    go_wp2_with fail
    go_ret
    exact ⟨rfl, hbt⟩
  · rw [h1] at CP
    rw [h2] at CL
    clear h1 h2
    go_enter Tryz.func133, Tryz.ntmps133
    go_wp2_with fail
    refine CP.out.mono ?_
    rintro e w1 ⟨rfl, hb1⟩
    obtain ⟨k0, k1, k2, k3, k4⟩ := KB.out w1 hb1
    have hbt := bstep9 HB.out HB.out.size hb1
    clear hb1
    go_wp2_with (go_at_call 105; refine (CL.out _).mono ?_; rintro e w' ⟨rfl, rfl⟩)
    go_ret
    exact ⟨rfl, hbt⟩
  · rw [h1] at CP
    rw [h2] at CL
    rw [h3] at CI
    clear h1 h2 h3
    go_enter Tryz.func133, Tryz.ntmps133
    go_wp2_with fail
    refine CP.out.mono ?_
    rintro e w1 ⟨rfl, hb1⟩
    obtain ⟨k0, k1, k2, k3, k4⟩ := KB.out w1 hb1
    have hbt := bstep9 HB.out HB.out.size hb1
    clear hb1
    go_wp2_with (first | (go_at_call 105; refine (CL.out _).mono ?_; rintro e w' ⟨rfl, rfl⟩) | (go_at_call 83; refine (CI.out _).mono ?_; rintro e w' ⟨rfl, rfl⟩))
    go_ret
    exact ⟨rfl, hbt⟩
  · rw [h1] at CP
    rw [h2] at CL
    rw [h5] at CV
    rw [decide_eq_true h3, decide_eq_true h4] at CI
    clear h1 h2 h5 h3 h4
    go_enter Tryz.func133, Tryz.ntmps133
    go_wp2_with fail
    refine CP.out.mono ?_
    rintro e w1 ⟨rfl, hb1⟩
    obtain ⟨k0, k1, k2, k3, k4⟩ := KB.out w1 hb1
    have hbt := bstep9 HB.out HB.out.size hb1
    clear hb1
    go_wp2_with (first | (go_at_call 105; refine (CL.out _).mono ?_; rintro e w' ⟨rfl, rfl⟩) | (go_at_call 83; refine (CI.out _).mono ?_; rintro e w' ⟨rfl, rfl⟩))
    refine (CV.out _).mono ?_
    rintro e w2 ⟨rfl, hb2⟩
    have hbt2 := bstep9 hbt hbt.size hb2
    clear hb2
    go_wp2_with fail
    go_ret
    exact ⟨rfl, hbt2⟩
end
end Go.Proofs.YtglmibmjbignbaaGreatDoor
