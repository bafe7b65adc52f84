/-
  The contracts of spec.l08Apart and spec.TakeApart.
-/
import Derived.Test.YtippjomkbpiliaaDoorPt
namespace Go.Proofs.YtippjomkbpiliaaDoor
set_option linter.unusedVariables false
set_option linter.unusedSimpArgs false
open Go.RowKit Go.Sort

def partF (gs : List ByteArray) (s : ByteArray) : Bool := decide (plP gs (spaceB s) = some 0)
theorem cFind_none (A : Option Addr) (c : Nat) (s : ByteArray) (w : World) :
    Calls Tryd.prog 42 #[.slice A 0 c, .string s] w fun e w' => e = .returned (.int .i64 (-1)) ∧ w = w' := by
  go_enter Tryd.func42, Tryd.ntmps42
  go_wp2
  refine wp_loop_rounds 1 ?_
  rw [rounds_succ]
  go_wp2
  go_ret
  exact ⟨rfl, rfl⟩
theorem tFind (A : Option Addr) (n c B : Nat) (gs : List ByteArray) (x : ByteArray) (w : World) (hbig : n ≤ 1048576) (h : TextAt w B A n gs) :
    Calls Tryd.prog 42 #[.slice A n c, .string x] w fun e w' => e = .returned (.int .i64 (fIdx gs x)) ∧ w = w' := by
  rcases Nat.eq_zero_or_pos n with rfl | hp
  · obtain rfl : gs = [] := List.eq_nil_of_length_eq_zero h.1.symm
    exact (cFind_none A c x w).mono fun e w' ⟨h1, h2⟩ => ⟨by rw [h1, fIdx_miss [] x (by simp)], h2⟩
  · obtain ⟨b, o, rfl, hb, hc⟩ := h.2 hp
    exact cFind x b o c n gs w h.1 (by unfold maxLen; omega) hc
theorem fIdx_in {gs : List ByteArray} {x : ByteArray} (h : x ∈ gs) : decide ((0 : Int) ≤ fIdx gs x) = true := decide_eq_true (by unfold fIdx; rw [if_pos h]; omega)
theorem fIdx_out {gs : List ByteArray} {x : ByteArray} (h : x ∉ gs) : decide ((0 : Int) ≤ fIdx gs x) = false := decide_eq_false (by unfold fIdx; rw [if_neg h]; omega)
theorem take_last {ws : List ByteArray} {q : Nat} (h : ws.length = q + 1) : ws.take q ++ ws.drop (q + 1) = ws.take q := by rw [List.drop_of_length_le (by omega), List.append_nil]

set_option maxHeartbeats 1000000 in
set_option maxRecDepth 100000 in
theorem tApart (A : Option Addr) (n c : Nat) (gs : List ByteArray) (s : ByteArray) (w : World) (hbig : n ≤ 1048576) (hsz : s.size ≤ 1048576) (h : TextAt w w.heap.size A n gs) (hp : phraseB s = true) :
    Calls Tryd.prog 34 #[.slice A n c, .string s] w fun e w' => e = .returned (.tuple #[.agg #[.string (partS gs s), .string (partG gs s)], .bool (partF gs s)]) ∧ Below w.heap.size w w' := by
  have B0 : Below w.heap.size w (w.alloc (.cells #[.string ByteArray.empty, .string ByteArray.empty] 28)) := (Below.refl _ _).alloc (Nat.le_refl _) _
  have HB0 := Lib.hid B0
  have HK0 := Lib.hid (PB.new w ByteArray.empty ByteArray.empty)
  have CF := Lib.hid (fun W (hW : Below w.heap.size w W) (x : ByteArray) => tFind A n c W.heap.size gs x W hbig ((h.below hW (Nat.le_refl _)).more hW.size))
  clear h B0
  obtain ⟨hpw, hp8⟩ := phraseB_parts s hp
  have hp0 := space_pos s
  have CW := Lib.hid (cPhrase_ok s (w.alloc (.cells #[.string ByteArray.empty, .string ByteArray.empty] 28)) (by omega) hpw)
  have HW16 : Hid (∀ x ∈ spaceB s, x.size ≤ 16) := Lib.hid (fun x hx => (word_size x (words_mem _ hpw x hx)).2)
  obtain ⟨m, hm⟩ : ∃ m, m = (spaceB s).length := ⟨_, rfl⟩
  rw [← hm] at CW hp8 hp0
  rw [decide_eq_true hp8] at CW
  have HM := Lib.hid hm
  have HPS := Lib.hid (fun k (h : plP gs (spaceB s) = some k) => partS_some h)
  have HPG := Lib.hid (fun k (h : plP gs (spaceB s) = some k) => partG_some h)
  have HNS := Lib.hid (fun (h : plP gs (spaceB s) = none) => partS_none h)
  have HNG := Lib.hid (fun (h : plP gs (spaceB s) = none) => partG_none h)
  have HFF : Hid (partF gs s = decide (plP gs (spaceB s) = some 0)) := Lib.hid rfl
  clear hpw hp hm
  generalize partS gs s = RS at HPS HNS ⊢
  generalize partG gs s = RG at HPG HNG ⊢
  generalize partF gs s = RF at HFF ⊢
  generalize spaceB s = ws at CW HW16 HM HPS HPG HNS HNG HFF
  obtain ⟨q, hq⟩ : ∃ q, m = q + 1 := ⟨m - 1, by omega⟩
  have hq1 : (m : Int) - 1 = (q : Int) := by omega
  have HQ := Lib.hid hq
  have q1 : (0 : Int) ≤ (q : Int) := Int.natCast_nonneg _
  have q2 : (q : Int) < (m : Int) := by omega
  have q3 : (0 : Int) < (m : Int) := by omega
  have q4 : (q : Int) ≤ (m : Int) := by omega
  have hwq : IntKind.i64.wrap (q : Int) = (q : Int) := by rw [IntKind.wrap_i64]; omega
  go_enter Tryd.func34, Tryd.ntmps34
  go_wp2_with fail
  refine CW.out.mono ?_
  rintro e w1 ⟨v, rfl, hown, hb1⟩
  obtain ⟨g, cap, rfl, hg1, hg2⟩ := World.ownsRow.form hown (by omega)
  have hmc : m ≤ cap := by
    rcases hown.2 with ⟨hv, _⟩ | ⟨g', cap', cur, hv, h1, h2, h3, h4, h5, h6⟩
    · cases hv
    · cases hv; exact h3
  have HK1 := Lib.hid (HK0.out.below hb1)
  have HB1 := Lib.hid (bstepP HB0.out HB0.out.size hb1)
  have HCE : Hid (∀ (j : Nat) x, ws[j]? = some x → w1.cell? ⟨g, j, none⟩ = some (.string x)) := Lib.hid (fun j x hx => (World.ownsRow.cellAt hown j (by have := (List.getElem?_eq_some_iff.1 hx).1; have := HM.out; omega)).trans (strV_at _ _ _ hx))
  have CF1 := Lib.hid (fun x => CF.out w1 HB1.out x)
  clear hown hb1 CF
  obtain ⟨⟨l3, a0, a1⟩, f0, f1⟩ := HK1.out
  have cl := HCE.out q (getT ws q) (getT_at (by have := HM.out; omega))
  have c0 := HCE.out 0 (getT ws 0) (getT_at (by have := HM.out; omega))
  by_cases h1 : ws.length ≤ 1
  · have hm1 : (m : Int) = 1 := by have := HM.out; omega
    have hz : decide ((1 : Int) < (m : Int)) = false := decide_eq_false (by omega)
    have hpl := plP_short (gs := gs) h1
    have e1 := HNS.out hpl
    have e2 := HNG.out hpl
    have e3 := HFF.out
    rw [hpl, decide_eq_false (by simp)] at e3
    subst e1
    subst e2
    subst e3
    clear hpl HPS HPG HNS HNG HFF h1
    go_wp2_with fail
    refine bodyPost_ret ?_ rfl ⟨rfl, below_setP HB1.out (Nat.le_refl _) _ _⟩
    first | (simp [results, Tryd.results34, go_sem, a0, a1]; done) | (simp [results, Tryd.results34, go_sem, a0, a1]; rfl)
  have hz : decide ((1 : Int) < (m : Int)) = true := decide_eq_true (by have := HM.out; omega)
  have hc1 : ¬ cap = 1 := by have := HM.out; omega
  have hqq : ws.length - 1 = q := by have := HM.out; omega
  have hqc : q ≤ cap := by omega
  have q5 : (q : Int) ≤ (cap : Int) := by omega
  have hqm : q ≤ m := by omega
  by_cases h2 : getT ws q ∈ gs
  · have hge := fIdx_in h2
    have hpl := plP_last (gs := gs) h1 (by rw [hqq]; exact h2)
    rw [hqq] at hpl
    have e1 := HPS.out q hpl
    have e2 := HPG.out q hpl
    have e3 := HFF.out
    rw [take_last (by have := HM.out; have := HQ.out; omega)] at e1
    rw [hpl, decide_eq_false (by simp; have := HM.out; omega)] at e3
    subst e3
    have CJ := Lib.hid (fun W (hW : ∀ (j : Nat) x, ws[j]? = some x → W.cell? ⟨g, j, none⟩ = some (.string x)) => cWords g 0 cap q (ws.take q) W (by rw [List.length_take]; have := HM.out; omega) (by omega) (fun x hx => by have := HW16.out x (List.mem_of_mem_take hx); omega) (fun j x hx => by
      rw [Nat.zero_add]
      rw [List.getElem?_take] at hx
      split at hx
      · exact hW j x hx
      · cases hx))
    have CFL := Lib.hid (CF1.out (getT ws q))
    have CJ1 := Lib.hid (CJ.out w1.drew HCE.out)
    rw [← e1] at CJ1
    generalize fIdx gs (getT ws q) = ix at CFL hge
    rw [← e2] at CFL cl
    clear hpl HPS HPG HNS HNG HFF h1 h2 e1 e2 hq hqq CJ
    go_wp2_with (go_at_call 42; refine CFL.out.mono ?_; rintro e w' ⟨rfl, rfl⟩)
    go_region_with (go_at_call 52; refine CJ1.out.mono ?_; rintro e w' ⟨rfl, rfl⟩)
    all_goals
      go_wp2_with fail
      refine bodyPost_ret ?_ rfl ⟨rfl, below_setP HB1.out.drew (Nat.le_refl _) _ _⟩
      first | (simp [results, Tryd.results34, go_sem, a0, a1]; done) | (simp [results, Tryd.results34, go_sem, a0, a1]; rfl)
  have hge := fIdx_out h2
  by_cases h3 : getT ws 0 ∈ gs
  · have hge2 := fIdx_in h3
    have hpl := plP_first (gs := gs) h1 (by rw [hqq]; exact h2) h3
    have e1 := HPS.out 0 hpl
    have e2 := HPG.out 0 hpl
    have e3 := HFF.out
    rw [List.take_zero, List.nil_append] at e1
    rw [hpl, decide_eq_true rfl] at e3
    subst e3
    have CJ := Lib.hid (fun W (hW : ∀ (j : Nat) x, ws[j]? = some x → W.cell? ⟨g, j, none⟩ = some (.string x)) => cWords g 1 (cap - 1) q (ws.drop (0 + 1)) W (by rw [List.length_drop]; have := HM.out; omega) (by omega) (fun x hx => by have := HW16.out x (List.mem_of_mem_drop hx); omega) (fun j x hx => by
      rw [List.getElem?_drop] at hx
      rw [Nat.zero_add] at hx
      exact hW (1 + j) x hx))
    have CFL := Lib.hid (CF1.out (getT ws q))
    have CFF := Lib.hid (CF1.out (getT ws 0))
    have CJ1 := Lib.hid (CJ.out w1.drew HCE.out)
    rw [← e1] at CJ1
    have hmq : m - 1 = q := by omega
    have hmi : (m : Int) - 1 = (q : Int) := hq1
    generalize fIdx gs (getT ws q) = ix at CFL hge
    generalize fIdx gs (getT ws 0) = iy at CFF hge2
    rw [← e2] at CFF c0
    generalize getT ws q = lx at CFL cl
    have CJ2 : Hid (Calls Tryd.prog 52 #[.slice (some ⟨g, 1, none⟩) (m - 1) (cap - 1)] w1.drew fun e w' => e = .returned (.string RS) ∧ w1.drew = w') := Lib.hid (by rw [hmq]; exact CJ1.out)
    clear hpl HPS HPG HNS HNG HFF h1 h2 h3 e1 e2 hqq CJ hq hmq hmi
    have q6 : (1 : Int) ≤ (m : Int) := by omega
    have q7 : (1 : Int) ≤ (cap : Int) := by omega
    have q8 : 1 ≤ m := by omega
    have q9 : (m : Int) ≤ (cap : Int) := by omega
    go_wp2_with (first
      | (go_at_call_of 42 (Value.string lx); refine CFL.out.mono ?_; rintro e w' ⟨rfl, rfl⟩)
      | (go_at_call_of 42 (Value.string RG); refine CFF.out.mono ?_; rintro e w' ⟨rfl, rfl⟩))
    go_region_with (first | (go_at_call 52; refine CJ2.out.mono ?_; rintro e w' ⟨rfl, rfl⟩) | (go_at_call 52; refine CJ1.out.mono ?_; rintro e w' ⟨rfl, rfl⟩))
    all_goals
      go_wp2_with fail
      refine bodyPost_ret ?_ rfl ⟨rfl, below_setP HB1.out.drew (Nat.le_refl _) _ _⟩
      first | (simp [results, Tryd.results34, go_sem, a0, a1]; done) | (simp [results, Tryd.results34, go_sem, a0, a1]; rfl)
  · have hge2 := fIdx_out h3
    have hpl := plP_none (gs := gs) h1 (by rw [hqq]; exact h2) h3
    have e1 := HNS.out hpl
    have e2 := HNG.out hpl
    have e3 := HFF.out
    rw [hpl, decide_eq_false (by simp)] at e3
    subst e1
    subst e2
    subst e3
    have CFL := Lib.hid (CF1.out (getT ws q))
    have CFF := Lib.hid (CF1.out (getT ws 0))
    generalize fIdx gs (getT ws q) = ix at CFL hge
    generalize fIdx gs (getT ws 0) = iy at CFF hge2
    generalize getT ws q = lx at CFL cl
    generalize getT ws 0 = fx at CFF c0
    clear hpl HPS HPG HNS HNG HFF h1 h2 h3 hqq hq
    go_wp2_with (first
      | (go_at_call_of 42 (Value.string lx); refine CFL.out.mono ?_; rintro e w' ⟨rfl, rfl⟩)
      | (go_at_call_of 42 (Value.string fx); refine CFF.out.mono ?_; rintro e w' ⟨rfl, rfl⟩))
    refine bodyPost_ret ?_ rfl ⟨rfl, below_setP HB1.out (Nat.le_refl _) _ _⟩
    first | (simp [results, Tryd.results34, go_sem, a0, a1]; done) | (simp [results, Tryd.results34, go_sem, a0, a1]; rfl)

set_option maxHeartbeats 2000000 in
set_option maxRecDepth 100000 in
theorem tTake_spec (A : Option Addr) (n c : Nat) (gs : List ByteArray) (s : ByteArray) (w : World) (hbig : n ≤ 1048576) (hs : ∀ x ∈ gs, x.size ≤ maxLen) (hsz : s.size ≤ 1048576) (h : TextAt w w.heap.size A n gs) :
    Calls Tryd.prog 10 #[.slice A n c, .string s] w fun e w' => e = .returned (.tuple #[.agg #[.string (taS gs s), .string (taG gs s)], .int .i64 (taC gs s)]) ∧ Below w.heap.size w w' := by
  have B0 : Below w.heap.size w (w.alloc (.cells #[.string ByteArray.empty, .string ByteArray.empty] 28)) := (Below.refl _ _).alloc (Nat.le_refl _) _
  have HB0 := Lib.hid B0
  have HK0 := Lib.hid (PB.new w ByteArray.empty ByteArray.empty)
  have CG := Lib.hid (tGen_spec A n c w.heap.size gs (w.alloc (.cells #[.string ByteArray.empty, .string ByteArray.empty] 28)) hbig hs (h.below B0 (Nat.le_refl _)))
  have CI := Lib.hid (cIsPhrase_spec s (w.alloc (.cells #[.string ByteArray.empty, .string ByteArray.empty] 28)) (by omega))
  have CA := Lib.hid (fun W (hW : Below w.heap.size w W) (hp : phraseB s = true) => tApart A n c gs s W hbig hsz ((h.below hW (Nat.le_refl _)).more hW.size) hp)
  clear h B0
  cases hg : genB gs
  · obtain ⟨e1, e2, e3⟩ := ta_bad (gs := gs) (s := s) (by unfold okT; rw [hg]; rfl)
    rw [e1, e2, e3]
    rw [hg] at CG
    obtain ⟨⟨l3, a0, a1⟩, f0, f1⟩ := HK0.out
    clear e1 e2 e3 hg
    go_enter Tryd.func10, Tryd.ntmps10
    go_wp2_with (go_at_call 18; refine CG.out.mono ?_; rintro e w' ⟨rfl, rfl⟩)
    refine bodyPost_ret ?_ rfl ⟨rfl, by first | exact below_setP HB0.out (Nat.le_refl _) _ _ | exact (Below.refl _ _).alloc (Nat.le_refl _) _⟩
    first | (simp [results, Tryd.results10, go_sem, a0, a1]; done) | (simp [results, Tryd.results10, go_sem, a0, a1]; rfl)
  rw [hg] at CG
  cases hp : phraseB s
  · obtain ⟨e1, e2, e3⟩ := ta_bad (gs := gs) (s := s) (by unfold okT; rw [hp, Bool.and_false])
    rw [e1, e2, e3]
    rw [hp] at CI
    clear e1 e2 e3 hg hp
    go_enter Tryd.func10, Tryd.ntmps10
    go_wp2_with (go_at_call 18; refine CG.out.mono ?_; rintro e w' ⟨rfl, rfl⟩)
    refine CI.out.mono ?_
    rintro e w1 ⟨rfl, hb1⟩
    obtain ⟨⟨l3, a0, a1⟩, f0, f1⟩ := HK0.out.below hb1
    have B1 := bstepP HB0.out HB0.out.size hb1
    go_wp2_with fail
    refine bodyPost_ret ?_ rfl ⟨rfl, below_setP B1 (Nat.le_refl _) _ _⟩
    first | (simp [results, Tryd.results10, go_sem, a0, a1]; done) | (simp [results, Tryd.results10, go_sem, a0, a1]; rfl)
  · obtain ⟨e1, e2, e3⟩ := ta_ok (gs := gs) (s := s) (by unfold okT; rw [hg, hp]; rfl)
    rw [e1, e2, e3]
    have CA2 := Lib.hid (fun W hW => CA.out W hW hp)
    rw [hp] at CI
    clear e1 e2 e3 hg hp CA
    go_enter Tryd.func10, Tryd.ntmps10
    go_wp2_with (go_at_call 18; refine CG.out.mono ?_; rintro e w' ⟨rfl, rfl⟩)
    refine CI.out.mono ?_
    rintro e w1 ⟨rfl, hb1⟩
    have HK1 := Lib.hid (HK0.out.below hb1)
    have B1 := bstepP HB0.out HB0.out.size hb1
    have CA3 := Lib.hid (CA2.out w1 B1)
    clear hb1
    go_wp2_with fail
    refine CA3.out.mono ?_
    rintro e w2 ⟨rfl, hb2⟩
    have HK2 := HK1.out.below hb2
    have B2 := bstepP B1 B1.size hb2
    have hba : Below w2.heap.size w2 (w2.alloc (.cells #[.string (partS gs s), .string (partG gs s)] 28)) := (Below.refl _ _).alloc (Nat.le_refl _) _
    obtain ⟨⟨l3, a0, a1⟩, f0, f1⟩ := HK2.below hba
    have B3 := bstepP B2 B2.size hba
    clear hba hb2 HK2
    go_wp2_with fail
    refine bodyPost_ret ?_ rfl ⟨rfl, below_setP B3 (Nat.le_refl _) _ _⟩
    first | (simp [results, Tryd.results10, go_sem, a0, a1]; done) | (simp [results, Tryd.results10, go_sem, a0, a1]; rfl)
end Go.Proofs.YtippjomkbpiliaaDoor
