/-
  The contracts of impl.TranslateGeneric and spec.TranslateGeneric.
-/
import Derived.Test.YtippjomkbpiliaaDoorPtS
import Derived.Test.YtippjomkbpiliaaDoorPut
namespace Go.Proofs.YtippjomkbpiliaaDoor
set_option linter.unusedVariables false
set_option linter.unusedSimpArgs false
open Go.RowKit Go.Sort Go.Lib

/-- What stands for the Generic. -/
def trT (fs ts : List ByteArray) (x : ByteArray) : ByteArray := getT ts (posL fs x)
def trR (fs ts : List ByteArray) (s : ByteArray) : ByteArray := match plP fs (spaceB s) with
  | some k => joinB ((spaceB s).set k (trT fs ts (getT (spaceB s) k)))
  | none => s
def okG (fs ts : List ByteArray) (s : ByteArray) : Bool := genB fs && genB ts && phraseB s
def trC (fs ts : List ByteArray) (s : ByteArray) : Int := if okG fs ts s then (if fs.length = ts.length then 0 else 5) else 1
def trS (fs ts : List ByteArray) (s : ByteArray) : ByteArray := if okG fs ts s then (if fs.length = ts.length then trR fs ts s else ByteArray.empty) else ByteArray.empty
theorem tr_bad {fs ts : List ByteArray} {s : ByteArray} (h : okG fs ts s = false) : trS fs ts s = ByteArray.empty ∧ trC fs ts s = 1 := by unfold trS trC; rw [h]; exact ⟨rfl, rfl⟩
theorem tr_len {fs ts : List ByteArray} {s : ByteArray} (h : okG fs ts s = true) (k : fs.length ≠ ts.length) : trS fs ts s = ByteArray.empty ∧ trC fs ts s = 5 := by unfold trS trC; rw [h, if_neg k, if_neg k]; exact ⟨rfl, rfl⟩
theorem tr_ok {fs ts : List ByteArray} {s : ByteArray} (h : okG fs ts s = true) (k : fs.length = ts.length) : trS fs ts s = trR fs ts s ∧ trC fs ts s = 0 := by unfold trS trC; rw [h, if_pos k, if_pos k]; exact ⟨rfl, rfl⟩
theorem trR_none {fs ts : List ByteArray} {s : ByteArray} (h : plP fs (spaceB s) = none) : trR fs ts s = s := by unfold trR; rw [h]
theorem trR_some {fs ts : List ByteArray} {s : ByteArray} {k : Nat} (h : plP fs (spaceB s) = some k) : trR fs ts s = joinB ((spaceB s).set k (trT fs ts (getT (spaceB s) k))) := by unfold trR; rw [h]
theorem gen_ws {xs : List ByteArray} (h : genB xs = true) : wordsB xs = true ∧ xs.length ≤ 16 := by
  unfold genB gokB at h
  rw [Bool.and_eq_true, Bool.and_eq_true, decide_eq_true_eq] at h
  exact ⟨h.2.1, h.1⟩
theorem idx_pos {xs : List ByteArray} {x : ByteArray} (h : x ∈ xs) : Lib.idxOfS xs x = (posL xs x : Int) := by
  have hp := pos_lt xs x h
  have hg : xs.getD (posL xs x) ByteArray.empty = x := by rw [List.getD_eq_getElem?_getD, hp.2]; rfl
  have hne : ∀ j, j < posL xs x → xs.getD j ByteArray.empty ≠ x := fun j hj e => by
    have hj2 : j < xs.length := by omega
    have : ∀ (ys : List ByteArray) (i : Nat), i < posL ys x → ys.getD i ByteArray.empty ≠ x := by
      intro ys
      induction ys with
      | nil => intro i hi; simp [posL] at hi
      | cons y ys ih =>
        intro i hi
        unfold posL at hi
        by_cases e : y = x
        · rw [if_pos e] at hi; omega
        · rw [if_neg e] at hi
          cases i with
          | zero => simpa using e
          | succ i => have := ih i (by omega); simpa using this
    exact this xs j hj e
  have q := Lib.idxOfS_hit xs xs.length (posL xs x) x hp.1 (Nat.le_refl _) hg hne
  rw [List.take_length] at q
  exact q
theorem fIdx_pos {xs : List ByteArray} {x : ByteArray} (h : x ∈ xs) : fIdx xs x = (posL xs x : Int) := by unfold fIdx; rw [if_pos h]
theorem tIndex (A : Option Addr) (n c B : Nat) (gs : List ByteArray) (x : ByteArray) (w : World) (hbig : n ≤ 1048576) (h : TextAt w B A n gs) (hx : x ∈ gs) :
    Calls Tryd.prog 41 #[.slice A n c, .string x] w fun e w' => e = .returned (.int .i64 (posL gs x : Int)) ∧ w = w' := by
  have hp : 0 < n := by rw [h.1]; exact List.length_pos_of_mem hx
  obtain ⟨b, o, rfl, hb, hc⟩ := h.2 hp
  have k := Tryd.slices_Index_string b o n c gs x w (by rw [h.1]; exact Nat.le_refl _) (by omega) (cells_getD hc)
  rw [List.take_of_length_le (by rw [h.1]; exact Nat.le_refl _), idx_pos hx] at k
  exact k.mono fun e w' ⟨h1, h2⟩ => ⟨h1, h2.symm⟩
/-- The phrase with one word set. -/
theorem set_cut (ws : List ByteArray) (k : Nat) (x : ByteArray) (h : k < ws.length) : ws.set k x = ws.take k ++ [x] ++ ws.drop (k + 1) := by
  rw [List.set_eq_take_append_cons_drop, if_pos h]; simp
theorem words_set {ws : List ByteArray} {k : Nat} {x : ByteArray} (h : wordsB ws = true) (hx : wordB x = true) : wordsB (ws.set k x) = true := by
  unfold wordsB at *
  rw [List.all_eq_true] at *
  intro y hy
  rcases List.mem_or_eq_of_mem_set hy with h1 | h1
  · exact h y h1
  · subst h1; exact hx

set_option maxHeartbeats 4000000 in
set_option maxRecDepth 100000 in
theorem tTr_impl (A A1 : Option Addr) (n n1 c c1 : Nat) (fs ts : List ByteArray) (s : ByteArray) (w : World) (hbig : n ≤ 1048576) (hbig1 : n1 ≤ 1048576) (hcap : n ≤ c) (hcap1 : n1 ≤ c1) (hs : ∀ x ∈ fs, x.size ≤ maxLen) (hs1 : ∀ x ∈ ts, x.size ≤ maxLen) (hsz : s.size ≤ 1048576) (h : TextAt w w.heap.size A n fs) (h1 : TextAt w w.heap.size A1 n1 ts) (hsh : w.ShapedOpen Tryd.prog) :
    Calls Tryd.prog 15 #[.slice A n c, .slice A1 n1 c1, .string s] w fun e w' => e = .returned (.tuple #[.string (trS fs ts s), .int .i64 (trC fs ts s)]) ∧ Below w.heap.size w w' := by
  have HH := Lib.hid (fun W (hW : Below w.heap.size w W) => ((h.below hW (Nat.le_refl _)).more hW.size : TextAt W W.heap.size A n fs))
  have HH1 := Lib.hid (fun W (hW : Below w.heap.size w W) => ((h1.below hW (Nat.le_refl _)).more hW.size : TextAt W W.heap.size A1 n1 ts))
  have CG := Lib.hid (fun W (hW : Below w.heap.size w W) => tGen_impl A n c W.heap.size fs W hbig hcap hs ((h.below hW (Nat.le_refl _)).more hW.size))
  have CG1 := Lib.hid (fun W (hW : Below w.heap.size w W) => tGen_impl A1 n1 c1 W.heap.size ts W hbig1 hcap1 hs1 ((h1.below hW (Nat.le_refl _)).more hW.size))
  have HNL := Lib.hid h.1
  have HNL1 := Lib.hid h1.1
  clear h h1 hs hs1
  cases hp : phraseB s
  · obtain ⟨e1, e2⟩ := tr_bad (fs := fs) (ts := ts) (s := s) (by unfold okG; rw [hp]; simp)
    rw [e1, e2]
    have CW := Lib.hid (cWordsOf_impl_bad s w (by omega) hsh hp)
    clear e1 e2 hp hsh
    go_enter Tryd.func15, Tryd.ntmps15
    go_wp2_with fail
    refine CW.out.mono ?_
    rintro e w1 ⟨rfl, hb1⟩
    go_wp2_with fail
    go_ret2
    exact ⟨rfl, hb1⟩
  have CW := Lib.hid (cWordsOf_impl_ok s w (by omega) hsh hp)
  obtain ⟨hpw, hp8⟩ := phraseB_parts s hp
  have hp0 := space_pos s
  have HPW := Lib.hid hpw
  have HW16 : Hid (∀ x ∈ spaceB s, x.size ≤ 16) := Lib.hid (fun x hx => (word_size x (words_mem _ hpw x hx)).2)
  obtain ⟨m, hm⟩ : ∃ m, m = (spaceB s).length := ⟨_, rfl⟩
  rw [← hm] at CW hp8 hp0
  have HM := Lib.hid hm
  clear hpw hm hsh
  cases hg : genB fs
  · obtain ⟨e1, e2⟩ := tr_bad (fs := fs) (ts := ts) (s := s) (by unfold okG; rw [hg]; rfl)
    rw [e1, e2]
    rw [hg] at CG
    clear e1 e2 hp hg
    go_enter Tryd.func15, Tryd.ntmps15
    go_wp2_with fail
    refine CW.out.mono ?_
    rintro e w1 ⟨g, rfl, hg1, hg2, hown, hb1⟩
    have CX := Lib.hid (CG.out w1 hb1)
    clear hown
    go_wp2_with (go_at_call 17; refine CX.out.mono ?_; rintro e w' ⟨rfl, rfl⟩)
    go_ret2
    exact ⟨rfl, hb1⟩
  cases hg1 : genB ts
  · obtain ⟨e1, e2⟩ := tr_bad (fs := fs) (ts := ts) (s := s) (by unfold okG; rw [hg1]; simp)
    rw [e1, e2]
    rw [hg] at CG
    rw [hg1] at CG1
    clear e1 e2 hp hg hg1
    go_enter Tryd.func15, Tryd.ntmps15
    go_wp2_with fail
    refine CW.out.mono ?_
    rintro e w1 ⟨g, rfl, hg1, hg2, hown, hb1⟩
    have CX := Lib.hid (CG.out w1 hb1)
    have CX1 := Lib.hid (CG1.out w1 hb1)
    clear hown
    go_wp2_with (first
      | (go_at_call_of 17 (Value.slice A n c); refine CX.out.mono ?_; rintro e w' ⟨rfl, rfl⟩)
      | (go_at_call_of 17 (Value.slice A1 n1 c1); refine CX1.out.mono ?_; rintro e w' ⟨rfl, rfl⟩))
    go_ret2
    exact ⟨rfl, hb1⟩
  have hok : okG fs ts s = true := by unfold okG; rw [hg, hg1, hp]; rfl
  have hgw1 := gen_ws hg1
  rw [hg] at CG
  rw [hg1] at CG1
  by_cases hlen : fs.length = ts.length
  · obtain ⟨e1, e2⟩ := tr_ok hok hlen
    rw [e1, e2]
    have HNN : Hid (n = n1) := Lib.hid (by rw [HNL.out, HNL1.out]; exact hlen)
    have hdn : ((n : Int) != (n1 : Int)) = false := by rw [HNN.out]; simp
    have HTW : Hid (∀ k, k < ts.length → wordB (getT ts k) = true) := Lib.hid (fun k hk => words_mem ts hgw1.1 _ (List.mem_of_getElem? (getT_at hk)))
    have HRS := Lib.hid (fun k (h : plP fs (spaceB s) = some k) => trR_some (ts := ts) h)
    have HRN := Lib.hid (fun (h : plP fs (spaceB s) = none) => trR_none (ts := ts) h)
    have HPL := Lib.hid (fun k (h : plP fs (spaceB s) = some k) => plP_lt h)
    have HLEN := Lib.hid hlen
    clear e1 e2 hp hg hg1 hok hgw1 hlen
    generalize trR fs ts s = R at HRS HRN ⊢
    generalize spaceB s = ws at CW HPW HW16 HM HRS HRN HPL
    go_enter Tryd.func15, Tryd.ntmps15
    go_wp2_with fail
    refine CW.out.mono ?_
    rintro e w1 ⟨g, rfl, hg1, hg2, hown, hb1⟩
    have CX := Lib.hid (CG.out w1 hb1)
    have CX1 := Lib.hid (CG1.out w1 hb1)
    have HO := Lib.hid hown
    have HCE : Hid (∀ (j : Nat) x, ws[j]? = some x → w1.cell? ⟨g, j, none⟩ = some (.string x)) := Lib.hid (fun j x hx => (World.ownsRow.cellAt hown j (by have := (List.getElem?_eq_some_iff.1 hx).1; have := HM.out; omega)).trans (strV_at _ _ _ hx))
    have CP := Lib.hid (cPlace A n c w1.heap.size g m m fs ws w1 hbig (HH.out w1 hb1) HM.out hp0 (by omega) HCE.out)
    clear hown
    cases hpl : plP fs ws with
    | none =>
      rw [hpl] at CP
      dsimp only [plV] at CP
      have e1 := HRN.out hpl
      subst e1
      clear hpl HRS HRN HPL
      go_wp2_with (first
        | (go_at_call_of 17 (Value.slice A n c); refine CX.out.mono ?_; rintro e w' ⟨rfl, rfl⟩)
        | (go_at_call_of 17 (Value.slice A1 n1 c1); refine CX1.out.mono ?_; rintro e w' ⟨rfl, rfl⟩)
        | (go_at_call 30; refine CP.out.mono ?_; rintro e w' ⟨rfl, rfl⟩))
      go_ret2
      exact ⟨rfl, hb1⟩
    | some k =>
      rw [hpl] at CP
      dsimp only [plV] at CP
      have HES := Lib.hid (HRS.out k hpl)
      obtain ⟨hk1, hk2, hk3⟩ := HPL.out k hpl
      rw [← HM.out] at hk1 hk2
      have ck := HCE.out k (getT ws k) (getT_at (by rw [← HM.out]; exact hk1))
      have CI := Lib.hid (tIndex A n c w1.heap.size fs (getT ws k) w1 hbig (HH.out w1 hb1) hk3)
      have hpp := (pos_lt fs (getT ws k) hk3).1
      obtain ⟨p, hpe⟩ : ∃ p, p = posL fs (getT ws k) := ⟨_, rfl⟩
      rw [← hpe] at CI hpp
      have hp1 : p < n1 := by rw [← HNN.out, HNL.out]; exact hpp
      obtain ⟨b1, o1, rfl, hbl1, hc1⟩ := (HH1.out w1 hb1).2 (by omega)
      have cp := hc1 p (getT ts p) (getT_at (by rw [← HNL1.out]; exact hp1))
      have HTX : Hid (trT fs ts (getT ws k) = getT ts p) := Lib.hid (by unfold trT; rw [← hpe])
      have HTB : Hid (wordB (getT ts p) = true) := Lib.hid (HTW.out p (by rw [← HNL1.out]; exact hp1))
      rw [HTX.out] at HES
      clear hpl HRS HRN HPL HTW HTX hpe hc1 hk3 hpp
      generalize getT ws k = gx at ck CI
      generalize getT ts p = tx at cp HES HTB
      have u1 : (0 : Int) ≤ (k : Int) := Int.natCast_nonneg _
      have u2 : (k : Int) < (m : Int) := by omega
      have v1 : (0 : Int) ≤ (p : Int) := Int.natCast_nonneg _
      have v2 : (p : Int) < (n1 : Int) := by omega
      have fr := World.ownsRow.frozenAt HO.out k
      have hst := World.ownsRow.stored HO.out k (.string tx)
      have HO2 : Hid ((w1.setCell ⟨g, k, none⟩ (.string tx)).ownsRow w.heap.size 9 1 (.slice (some ⟨g, 0, none⟩) m m) m (strV (ws.set k tx))) := Lib.hid (by
        have h9 := hst.1
        rw [show (strV ws).set k (.string tx) = strV (ws.set k tx) from by unfold strV; rw [List.map_set]] at h9
        exact h9)
      have hb2 : Below w.heap.size w (w1.setCell ⟨g, k, none⟩ (.string tx)) := hb1.setCell (p := ⟨g, k, none⟩) hg1 _
      have HJO : Hid (joinOk (ws.set k tx) = true) := Lib.hid (by unfold joinOk; rw [words_set HPW.out HTB.out, List.length_set, ← HM.out, decide_eq_true hp8]; rfl)
      have CJ := Lib.hid (cJP_impl g 0 m m (ws.set k tx) (w1.setCell ⟨g, k, none⟩ (.string tx)) (by rw [List.length_set]; exact HM.out) hp0 (by omega) (Nat.le_refl _) (fun x hx => by
        have h9 := word_size x (words_mem _ (words_set HPW.out HTB.out) x hx)
        unfold maxLen; omega) (by simpa using hg2) (fun j x hx => by
        rw [Nat.zero_add]
        exact (World.ownsRow.cellAt HO2.out j (by have := (List.getElem?_eq_some_iff.1 hx).1; rw [List.length_set] at this; have := HM.out; omega)).trans (strV_at _ _ _ hx)))
      rw [joinV_yes _ HJO.out, ← HES.out] at CJ
      clear hst
      go_wp2_with (first
        | (go_at_call_of 17 (Value.slice A n c); refine CX.out.mono ?_; rintro e w' ⟨rfl, rfl⟩)
        | (go_at_call_of 17 (Value.slice (some ⟨b1, o1, none⟩) n1 c1); refine CX1.out.mono ?_; rintro e w' ⟨rfl, rfl⟩)
        | (go_at_call 30; refine CP.out.mono ?_; rintro e w' ⟨rfl, rfl⟩)
        | (go_at_call 41; refine CI.out.mono ?_; rintro e w' ⟨rfl, rfl⟩))
      refine CJ.out.mono ?_
      rintro e w3 ⟨rfl, hb3⟩
      have B3 := bstepP hb2 hb2.size hb3
      go_wp2_with fail
      go_ret2
      exact ⟨rfl, B3⟩
  · obtain ⟨e1, e2⟩ := tr_len hok hlen
    rw [e1, e2]
    have hdn : ((n : Int) != (n1 : Int)) = true := by
      have h9 : n ≠ n1 := by rw [HNL.out, HNL1.out]; exact hlen
      have h8 : (n : Int) ≠ (n1 : Int) := by omega
      simpa [bne_iff_ne] using h8
    clear e1 e2 hp hg hg1 hok hgw1 hlen
    go_enter Tryd.func15, Tryd.ntmps15
    go_wp2_with fail
    refine CW.out.mono ?_
    rintro e w1 ⟨g, rfl, hg1, hg2, hown, hb1⟩
    have CX := Lib.hid (CG.out w1 hb1)
    have CX1 := Lib.hid (CG1.out w1 hb1)
    clear hown
    go_wp2_with (first
      | (go_at_call_of 17 (Value.slice A n c); refine CX.out.mono ?_; rintro e w' ⟨rfl, rfl⟩)
      | (go_at_call_of 17 (Value.slice A1 n1 c1); refine CX1.out.mono ?_; rintro e w' ⟨rfl, rfl⟩))
    go_ret2
    exact ⟨rfl, hb1⟩
end Go.Proofs.YtippjomkbpiliaaDoor
