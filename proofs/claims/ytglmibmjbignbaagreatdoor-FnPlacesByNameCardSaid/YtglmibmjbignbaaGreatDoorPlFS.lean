/-
  The contracts of FindPlace of both packages, of findIn, checkRegister, existsIn and of the reference's l11Find, l11Code, l11Year, l11Exists.
-/
import Derived.Test.YtglmibmjbignbaaGreatDoorMy15
namespace Go.Proofs.YtglmibmjbignbaaGreatDoor
set_option linter.unusedVariables false
open Go.RowKit

/-- The place exists in the year. -/
def exB (p : Pl) (y : Int) : Bool := inB p.f p.u y
noncomputable def plZ (ps : List Pl) (s : ByteArray) (y : Int) : Int := if pcC ps s y = 0 then (atP ps s : Int) else 0
theorem plZ_ok {ps : List Pl} {s : ByteArray} {y : Int} (h : pcC ps s y = 0) : plZ ps s y = (atP ps s : Int) := by unfold plZ; rw [if_pos h]
theorem plZ_no {ps : List Pl} {s : ByteArray} {y : Int} (h : pcC ps s y ≠ 0) : plZ ps s y = 0 := by unfold plZ; rw [if_neg h]
theorem yr_zero : yrB 0 = true := by decide
theorem reg_good {ps : List Pl} (h : regB ps = true) : GoodP ps := (reg_of h).2
def fndZ (ps : List Pl) (s : ByteArray) : Int := if thereB ps s then (atP ps s : Int) else -1

set_option maxHeartbeats 1000000 in
theorem cL11Find (A : Option Addr) (n c : Nat) (ps : List Pl) (s : ByteArray) (w : World) (hb : n ≤ 1048576) (hg : GoodP ps) (h : PlAt w w.heap.size A n ps) :
    Calls Tryz.prog 60 #[.slice A n c, .string s] w fun e w' => e = .returned (.int .i64 (fndZ ps s)) ∧ Below w.heap.size w w' := by
  have H := Lib.hid h
  have HN := Lib.hid h.1
  have HG := Lib.hid hg
  clear h hg
  go_enter Tryz.func60, Tryz.ntmps60
  go_wp2_with fail
  go_loopw [5] (fun i wr => ∃ k : Nat, k ≤ n ∧ i = .int .i64 k ∧ Hid (∀ (j : Nat) p, j < k → ps[j]? = some p → p.c ≠ s) ∧ Below w.heap.size w wr) (fun i _ => n - (intOf i).toNat)
  case atStart => exact ⟨0, Nat.zero_le _, rfl, Lib.hid (fun j p hj => absurd hj (by omega)), Below.refl _ _⟩
  case round =>
    obtain ⟨k, hk, rfl, HA, hbw⟩ := hrel
    by_cases hlt : k < n
    · obtain ⟨p, hp⟩ : ∃ p, ps[k]? = some p := ⟨ps[k]'(by have := HN.out; omega), List.getElem?_eq_getElem _⟩
      obtain ⟨b, o, rfl, hbl, A1, d1, c0, _⟩ := (H.out.below hbw (Nat.le_refl _)).row hp
      have HP := Lib.hid hp
      have u1 : (0 : Int) ≤ (k : Int) := Int.natCast_nonneg _
      have u2 : (k : Int) < (n : Int) := by omega
      clear hp
      by_cases e : p.c = s
      · have h1 : (p.c.toList == s.toList) = true := by rw [toList_beq]; exact decide_eq_true e
        have HF : Hid (fndZ ps s = (k : Int)) := Lib.hid (by
          obtain ⟨h1, h2⟩ := good_there HG.out HP.out e
          unfold fndZ; rw [h2, if_pos rfl, h1])
        clear e
        go_wp2_with fail
        go_ret
        exact ⟨by rw [HF.out]; rfl, hbw⟩
      · have h1 : (p.c.toList == s.toList) = false := by rw [toList_beq]; exact decide_eq_false e
        have HA2 : Hid (∀ (j : Nat) p, j < k + 1 → ps[j]? = some p → p.c ≠ s) := Lib.hid (fun j q hj hq => by
          by_cases hjk : j < k
          · exact HA.out j q hjk hq
          · obtain rfl : j = k := by omega
            rw [HP.out] at hq
            obtain rfl := Option.some.inj hq
            exact e)
        clear e
        go_wp2_with fail
        go_roundw
        case rel => exact ⟨k + 1, by omega, by go_num, HA2, hbw⟩
        case measure => simp [intOf]; omega
    · have HF : Hid (fndZ ps s = -1) := Lib.hid (by
        have h2 := good_absent (ps := ps) (c := s) (fun j p hp => HA.out j p (by have := (List.getElem?_eq_some_iff.1 hp).1; have := HN.out; omega) hp)
        unfold fndZ; rw [h2, if_neg (by simp)])
      go_wp2_with fail
      go_ret
      exact ⟨by rw [HF.out]; rfl, hbw⟩

set_option maxHeartbeats 1000000 in
theorem cL11Code (A : Option Addr) (n c : Nat) (ps : List Pl) (s : ByteArray) (y : Int) (w : World) (hb : n ≤ 1048576) (hz : Sz11 ps) (hs : s.size ≤ maxLen) (h : PlAt w w.heap.size A n ps) :
    Calls Tryz.prog 68 #[.slice A n c, .string s, .int .i64 y] w fun e w' => e = .returned (.int .i64 (pcC ps s y)) ∧ Below w.heap.size w w' := by
  have CR := Lib.hid (cIsReg_spec A n c ps w hb hz h)
  have CW := Lib.hid (fun W => cIsWord_spec s W hs)
  have CY := Lib.hid (fun W => cYear y W)
  have CF : Hid (regB ps = true → ∀ W, Below w.heap.size w W → Calls Tryz.prog 60 #[.slice A n c, .string s] W fun e w' => e = .returned (.int .i64 (fndZ ps s)) ∧ Below W.heap.size W w') := Lib.hid (fun hr W hW => cL11Find A n c ps s W hb (reg_good hr) (h.grow hW))
  clear h hz
  rcases pcC_cases ps s y with ⟨hq, e1⟩ | ⟨hq, e1, e2⟩ | ⟨hq, e1, e2, e3⟩ | ⟨hq, e1, e2, e3, e4⟩ | ⟨hq, e1, e2, e3, e4⟩
  · rw [hq]
    rw [e1] at CR
    clear hq e1 CF
    go_enter Tryz.func68, Tryz.ntmps68
    go_wp2_with fail
    refine CR.out.mono ?_
    rintro e w1 ⟨rfl, hbt⟩
    go_wp2_with fail
    go_ret
    exact ⟨rfl, hbt⟩
  · rw [hq]
    rw [e1] at CR
    rw [e2] at CW
    clear hq e1 e2 CF
    go_enter Tryz.func68, Tryz.ntmps68
    go_wp2_with fail
    refine CR.out.mono ?_
    rintro e w1 ⟨rfl, hbt⟩
    go_wp2_with fail
    refine (CW.out _).mono ?_
    rintro e w' ⟨rfl, rfl⟩
    go_wp2_with fail
    go_ret
    exact ⟨rfl, hbt⟩
  · rw [hq]
    have e5 : (decide (-3000 ≤ y) && decide (y ≤ 3000)) = false := e3
    rw [e1] at CR
    rw [e2] at CW
    rw [e5] at CY
    clear hq e1 e2 e3 e5 CF
    go_enter Tryz.func68, Tryz.ntmps68
    go_wp2_with fail
    refine CR.out.mono ?_
    rintro e w1 ⟨rfl, hbt⟩
    go_wp2_with fail
    refine (CW.out _).mono ?_
    rintro e w' ⟨rfl, rfl⟩
    go_wp2_with fail
    refine (CY.out _).mono ?_
    rintro e w' ⟨rfl, rfl⟩
    go_wp2_with fail
    go_ret
    exact ⟨rfl, hbt⟩
  all_goals
    rw [hq]
    have e5 : (decide (-3000 ≤ y) && decide (y ≤ 3000)) = true := e3
    have CF2 := Lib.hid (CF.out e1)
    rw [e1] at CR
    rw [e2] at CW
    rw [e5] at CY
  · rw [show fndZ ps s = -1 from by unfold fndZ; rw [e4, if_neg (by simp)]] at CF2
    clear hq e1 e2 e3 e4 e5 CF
    go_enter Tryz.func68, Tryz.ntmps68
    go_wp2_with fail
    refine CR.out.mono ?_
    rintro e w1 ⟨rfl, hbt⟩
    have CF3 := Lib.hid (CF2.out w1 hbt)
    go_wp2_with fail
    refine (CW.out _).mono ?_
    rintro e w' ⟨rfl, rfl⟩
    go_wp2_with fail
    refine (CY.out _).mono ?_
    rintro e w' ⟨rfl, rfl⟩
    go_wp2_with fail
    refine CF3.out.mono ?_
    rintro e w2 ⟨rfl, g2⟩
    have hb2 := bstep9 hbt hbt.size g2
    go_wp2_with fail
    go_ret
    exact ⟨rfl, hb2⟩
  · rw [show fndZ ps s = (atP ps s : Int) from by unfold fndZ; rw [e4, if_pos rfl]] at CF2
    obtain ⟨a, ha⟩ : ∃ a, a = atP ps s := ⟨_, rfl⟩
    rw [← ha] at CF2
    have u1 : ¬ (a : Int) < 0 := by omega
    clear hq e1 e2 e3 e4 e5 CF ha
    go_enter Tryz.func68, Tryz.ntmps68
    go_wp2_with fail
    refine CR.out.mono ?_
    rintro e w1 ⟨rfl, hbt⟩
    have CF3 := Lib.hid (CF2.out w1 hbt)
    go_wp2_with fail
    refine (CW.out _).mono ?_
    rintro e w' ⟨rfl, rfl⟩
    go_wp2_with fail
    refine (CY.out _).mono ?_
    rintro e w' ⟨rfl, rfl⟩
    go_wp2_with fail
    refine CF3.out.mono ?_
    rintro e w2 ⟨rfl, g2⟩
    have hb2 := bstep9 hbt hbt.size g2
    go_wp2_with fail
    go_ret
    exact ⟨rfl, hb2⟩
set_option maxHeartbeats 1000000 in
theorem cFind_spec (A : Option Addr) (n c : Nat) (ps : List Pl) (s : ByteArray) (w : World) (hb : n ≤ 1048576) (hz : Sz11 ps) (hs : s.size ≤ maxLen) (h : PlAt w w.heap.size A n ps) :
    Calls Tryz.prog 39 #[.slice A n c, .string s] w fun e w' => e = .returned (.tuple #[.int .i64 (plZ ps s 0), .int .i64 (pcC ps s 0)]) ∧ Below w.heap.size w w' := by
  have CC := Lib.hid (cL11Code A n c ps s 0 w hb hz hs h)
  have CF : Hid (pcC ps s 0 = 0 → ∀ W, Below w.heap.size w W → Calls Tryz.prog 60 #[.slice A n c, .string s] W fun e w' => e = .returned (.int .i64 (fndZ ps s)) ∧ Below W.heap.size W w') := Lib.hid (fun hr W hW => by
    rcases pcC_cases ps s 0 with ⟨hq, _⟩ | ⟨hq, _⟩ | ⟨hq, _⟩ | ⟨hq, _⟩ | ⟨hq, e1, _⟩
    · rw [hq] at hr; cases hr
    · rw [hq] at hr; cases hr
    · rw [hq] at hr; cases hr
    · rw [hq] at hr; cases hr
    · exact cL11Find A n c ps s W hb (reg_good e1) (h.grow hW))
  clear h hz
  obtain ⟨q, hq⟩ : ∃ q, q = pcC ps s 0 := ⟨_, rfl⟩
  by_cases h0 : q = 0
  · subst h0
    rw [plZ_ok hq.symm, ← hq]
    rw [← hq] at CC
    have CF2 := Lib.hid (CF.out hq.symm)
    have e4 : thereB ps s = true := by
      rcases pcC_cases ps s 0 with ⟨h, _⟩ | ⟨h, _⟩ | ⟨h, _⟩ | ⟨h, _⟩ | ⟨h, _, _, _, e⟩
      · rw [h] at hq; cases hq
      · rw [h] at hq; cases hq
      · rw [h] at hq; cases hq
      · rw [h] at hq; cases hq
      · exact e
    rw [show fndZ ps s = (atP ps s : Int) from by unfold fndZ; rw [e4, if_pos rfl]] at CF2
    obtain ⟨a, ha⟩ : ∃ a, a = atP ps s := ⟨_, rfl⟩
    rw [← ha] at CF2 ⊢
    clear hq CF ha e4
    go_enter Tryz.func39, Tryz.ntmps39
    go_wp2_with fail
    refine CC.out.mono ?_
    rintro e w1 ⟨rfl, hbt⟩
    go_wp2_with fail
    refine (CF2.out _ hbt).mono ?_
    rintro e w2 ⟨rfl, g2⟩
    have hb2 := bstep9 hbt hbt.size g2
    go_wp2_with fail
    go_ret2
    exact ⟨rfl, hb2⟩
  · rw [plZ_no (by rw [← hq]; exact h0), ← hq]
    rw [← hq] at CC
    have hd : (q != 0) = true := by simp [h0]
    clear hq CF h0
    go_enter Tryz.func39, Tryz.ntmps39
    go_wp2_with fail
    refine CC.out.mono ?_
    rintro e w1 ⟨rfl, hbt⟩
    go_wp2_with fail
    go_ret2
    exact ⟨rfl, hbt⟩
set_option maxHeartbeats 1000000 in
theorem cFind_impl (A : Option Addr) (n c : Nat) (ps : List Pl) (s : ByteArray) (w : World) (hb : n ≤ 1048576) (hz : Sz11 ps) (hs : s.size ≤ maxLen) (h : PlAt w w.heap.size A n ps) (hsh : w.ShapedOpen Tryz.prog) (her : Er6 w) :
    Calls Tryz.prog 29 #[.slice A n c, .string s] w fun e w' => e = .returned (.tuple #[.int .i64 (plZ ps s 0), .int .i64 (pcC ps s 0)]) ∧ Below w.heap.size w w' := by
  have CR := Lib.hid (cIsReg_impl A n c ps w hb hz h hsh her)
  have CW := Lib.hid (fun W => cIsWord_impl s W hs)
  have CS : Hid (regB ps = true → ∀ W, Below w.heap.size w W → Calls Tryz.prog 55 #[.slice A n c, .string s] W fun e w' => e = .returned (.tuple #[.int .i64 (atP ps s : Nat), .bool (thereB ps s)]) ∧ Below W.heap.size W w') := Lib.hid (fun hr W hW => cSearch A n c ps s W hb (grows_of (reg_good hr)) (h.grow hW))
  clear h hz hsh her
  rcases pcC_cases ps s 0 with ⟨hq, e1⟩ | ⟨hq, e1, e2⟩ | ⟨hq, e1, e2, e3⟩ | ⟨hq, e1, e2, e3, e4⟩ | ⟨hq, e1, e2, e3, e4⟩
  · rw [plZ_no (by rw [hq]; decide), hq]
    rw [e1] at CR
    clear hq e1 CS
    go_enter Tryz.func29, Tryz.ntmps29
    go_wp2_with fail
    refine CR.out.mono ?_
    rintro e w1 ⟨rfl, hbt⟩
    go_wp2_with fail
    go_ret2
    exact ⟨rfl, hbt⟩
  · rw [plZ_no (by rw [hq]; decide), hq]
    rw [e1] at CR
    rw [e2] at CW
    clear hq e1 e2 CS
    go_enter Tryz.func29, Tryz.ntmps29
    go_wp2_with fail
    refine CR.out.mono ?_
    rintro e w1 ⟨rfl, hbt⟩
    go_wp2_with fail
    refine (CW.out _).mono ?_
    rintro e w' ⟨rfl, rfl⟩
    go_wp2_with fail
    go_ret2
    exact ⟨rfl, hbt⟩
  · rw [yr_zero] at e3; cases e3
  · rw [plZ_no (by rw [hq]; decide), hq]
    have CS2 := Lib.hid (CS.out e1)
    rw [e4] at CS2
    rw [e1] at CR
    rw [e2] at CW
    clear hq e1 e2 e3 e4 CS
    go_enter Tryz.func29, Tryz.ntmps29
    go_wp2_with fail
    refine CR.out.mono ?_
    rintro e w1 ⟨rfl, hbt⟩
    go_wp2_with fail
    refine (CW.out _).mono ?_
    rintro e w' ⟨rfl, rfl⟩
    go_wp2_with fail
    refine (CS2.out _ hbt).mono ?_
    rintro e w2 ⟨rfl, g2⟩
    have hb2 := bstep9 hbt hbt.size g2
    go_wp2_with fail
    go_ret2
    exact ⟨rfl, hb2⟩
  · rw [plZ_ok hq, hq]
    have CS2 := Lib.hid (CS.out e1)
    rw [e4] at CS2
    rw [e1] at CR
    rw [e2] at CW
    obtain ⟨a, ha⟩ : ∃ a, a = atP ps s := ⟨_, rfl⟩
    rw [← ha] at CS2 ⊢
    clear hq e1 e2 e3 e4 CS ha
    go_enter Tryz.func29, Tryz.ntmps29
    go_wp2_with fail
    refine CR.out.mono ?_
    rintro e w1 ⟨rfl, hbt⟩
    go_wp2_with fail
    refine (CW.out _).mono ?_
    rintro e w' ⟨rfl, rfl⟩
    go_wp2_with fail
    refine (CS2.out _ hbt).mono ?_
    rintro e w2 ⟨rfl, g2⟩
    have hb2 := bstep9 hbt hbt.size g2
    go_wp2_with fail
    go_ret2
    exact ⟨rfl, hb2⟩
theorem cIsYr (y : Int) (w : World) :
    Calls Tryz.prog 123 #[.int .i64 y] w fun e w' => e = .returned (.bool (yrB y)) ∧ Below w.heap.size w w' := by
  have CV := Lib.hid (fun W => cValid y y W)
  rw [show spB y y = yrB y by unfold spB yrB; rw [decide_eq_true (Int.le_refl y)]; simp] at CV
  go_enter Tryz.func123, Tryz.ntmps123
  go_wp2_with fail
  refine (CV.out _).mono ?_
  rintro e w1 ⟨rfl, g1⟩
  go_wp2_with fail
  go_ret
  exact ⟨rfl, g1⟩
theorem pc_year {ps : List Pl} {s : ByteArray} {y : Int} : (pcC ps s 0 = 1 ∧ pcC ps s y = 1) ∨ (pcC ps s 0 ≠ 1 ∧ yrB y = false ∧ pcC ps s y = 2) ∨ (pcC ps s 0 ≠ 1 ∧ yrB y = true ∧ pcC ps s y = pcC ps s 0) := by
  unfold pcC
  rw [yr_zero]
  cases regB ps && wordB s
  · exact .inl ⟨rfl, rfl⟩
  · cases yrB y
    · refine .inr (.inl ⟨?_, rfl, rfl⟩)
      cases thereB ps s <;> simp
    · refine .inr (.inr ⟨?_, rfl, rfl⟩)
      cases thereB ps s <;> simp
set_option maxHeartbeats 1000000 in
theorem cFindIn (A : Option Addr) (n c : Nat) (ps : List Pl) (s : ByteArray) (y : Int) (w : World) (hb : n ≤ 1048576) (hz : Sz11 ps) (hs : s.size ≤ maxLen) (h : PlAt w w.heap.size A n ps) (hsh : w.ShapedOpen Tryz.prog) (her : Er6 w) :
    Calls Tryz.prog 64 #[.slice A n c, .string s, .int .i64 y] w fun e w' => e = .returned (.tuple #[.int .i64 (plZ ps s y), .int .i64 (pcC ps s y)]) ∧ Below w.heap.size w w' := by
  have CF := Lib.hid (cFind_impl A n c ps s w hb hz hs h hsh her)
  have CY := Lib.hid (fun W => cIsYr y W)
  clear h hz hsh her
  rcases pc_year (ps := ps) (s := s) (y := y) with ⟨e1, e2⟩ | ⟨e1, e2, e3⟩ | ⟨e1, e2, e3⟩
  · rw [plZ_no (by rw [e1]; decide), e1] at CF
    rw [plZ_no (by rw [e2]; decide), e2]
    clear e1 e2
    go_enter Tryz.func64, Tryz.ntmps64
    go_wp2_with fail
    refine CF.out.mono ?_
    rintro e w1 ⟨rfl, hbt⟩
    go_wp2_with fail
    go_ret2
    exact ⟨rfl, hbt⟩
  · rw [plZ_no (by rw [e3]; decide), e3]
    rw [e2] at CY
    obtain ⟨q, hq⟩ : ∃ q, q = pcC ps s 0 := ⟨_, rfl⟩
    obtain ⟨z, hz⟩ : ∃ z, z = plZ ps s 0 := ⟨_, rfl⟩
    rw [← hq, ← hz] at CF
    rw [← hq] at e1
    have hd : (q != 1) = true := by simp [e1]
    clear e1 e2 e3 hq hz
    go_enter Tryz.func64, Tryz.ntmps64
    go_wp2_with fail
    refine CF.out.mono ?_
    rintro e w1 ⟨rfl, hbt⟩
    go_wp2_with fail
    refine (CY.out _).mono ?_
    rintro e w2 ⟨rfl, g2⟩
    have hb2 := bstep9 hbt hbt.size g2
    go_wp2_with fail
    go_ret2
    exact ⟨rfl, hb2⟩
  · rw [show plZ ps s y = plZ ps s 0 by unfold plZ; rw [e3], e3]
    rw [e2] at CY
    obtain ⟨q, hq⟩ : ∃ q, q = pcC ps s 0 := ⟨_, rfl⟩
    obtain ⟨z, hz⟩ : ∃ z, z = plZ ps s 0 := ⟨_, rfl⟩
    rw [← hq, ← hz] at CF ⊢
    rw [← hq] at e1
    have hd : (q != 1) = true := by simp [e1]
    clear e1 e2 e3 hq hz
    go_enter Tryz.func64, Tryz.ntmps64
    go_wp2_with fail
    refine CF.out.mono ?_
    rintro e w1 ⟨rfl, hbt⟩
    go_wp2_with fail
    refine (CY.out _).mono ?_
    rintro e w2 ⟨rfl, g2⟩
    have hb2 := bstep9 hbt hbt.size g2
    go_wp2_with fail
    go_ret2
    exact ⟨rfl, hb2⟩
theorem cChkReg (A : Option Addr) (n c : Nat) (ps : List Pl) (y : Int) (w : World) (hb : n ≤ 1048576) (hz : Sz11 ps) (h : PlAt w w.heap.size A n ps) (hsh : w.ShapedOpen Tryz.prog) (her : Er6 w) :
    Calls Tryz.prog 71 #[.slice A n c, .int .i64 y] w fun e w' => e = .returned (.int .i64 (pyC ps y)) ∧ Below w.heap.size w w' := by
  have CR := Lib.hid (cIsReg_impl A n c ps w hb hz h hsh her)
  have CY := Lib.hid (fun W => cIsYr y W)
  clear h hz hsh her
  rcases pyC_cases ps y with ⟨hq, e1⟩ | ⟨hq, e1, e2⟩ | ⟨hq, e1, e2⟩
  · rw [hq]
    rw [e1] at CR
    clear hq e1
    go_enter Tryz.func71, Tryz.ntmps71
    go_wp2_with fail
    refine CR.out.mono ?_
    rintro e w1 ⟨rfl, hbt⟩
    go_wp2_with fail
    go_ret
    exact ⟨rfl, hbt⟩
  all_goals
    rw [hq]
    rw [e1] at CR
    rw [e2] at CY
    clear hq e1 e2
    go_enter Tryz.func71, Tryz.ntmps71
    go_wp2_with fail
    refine CR.out.mono ?_
    rintro e w1 ⟨rfl, hbt⟩
    go_wp2_with fail
    refine (CY.out _).mono ?_
    rintro e w2 ⟨rfl, g2⟩
    have hb2 := bstep9 hbt hbt.size g2
    go_wp2_with fail
    go_ret
    exact ⟨rfl, hb2⟩
theorem cL11Year (A : Option Addr) (n c : Nat) (ps : List Pl) (y : Int) (w : World) (hb : n ≤ 1048576) (hz : Sz11 ps) (h : PlAt w w.heap.size A n ps) :
    Calls Tryz.prog 74 #[.slice A n c, .int .i64 y] w fun e w' => e = .returned (.int .i64 (pyC ps y)) ∧ Below w.heap.size w w' := by
  have CR := Lib.hid (cIsReg_spec A n c ps w hb hz h)
  have CY := Lib.hid (fun W => cYear y W)
  rw [show (decide (-3000 ≤ y) && decide (y ≤ 3000)) = yrB y from rfl] at CY
  clear h hz
  rcases pyC_cases ps y with ⟨hq, e1⟩ | ⟨hq, e1, e2⟩ | ⟨hq, e1, e2⟩
  · rw [hq]
    rw [e1] at CR
    clear hq e1
    go_enter Tryz.func74, Tryz.ntmps74
    go_wp2_with fail
    refine CR.out.mono ?_
    rintro e w1 ⟨rfl, hbt⟩
    go_wp2_with fail
    go_ret
    exact ⟨rfl, hbt⟩
  all_goals
    rw [hq]
    rw [e1] at CR
    rw [e2] at CY
    clear hq e1 e2
    go_enter Tryz.func74, Tryz.ntmps74
    go_wp2_with fail
    refine CR.out.mono ?_
    rintro e w1 ⟨rfl, hbt⟩
    go_wp2_with fail
    refine (CY.out _).mono ?_
    rintro e w' ⟨rfl, rfl⟩
    go_wp2_with fail
    go_ret
    exact ⟨rfl, hbt⟩
theorem cExists (p : Pl) (A : Option Addr) (d : Nat) (y : Int) (w : World) :
    Calls Tryz.prog 66 #[enA p A d, .int .i64 y] w fun e w' => e = .returned (.bool (exB p y)) ∧ Below w.heap.size w w' := by
  have CH := Lib.hid (fun W => cHolds p.f p.u y W)
  rw [show inB p.f p.u y = exB p y from rfl] at CH
  have HA := Lib.hid (below_alloc11 w (.cells #[.slice A p.ns.length d, .string p.c, .int .i64 p.k, .int .i64 p.f, .int .i64 p.u] 87))
  go_enter Tryz.func66, Tryz.ntmps66
  go_wp2_with fail
  refine (CH.out _).mono ?_
  rintro e w1 ⟨rfl, g1⟩
  have hbt := bstep9 HA.out HA.out.size g1
  go_wp2_with fail
  go_ret
  exact ⟨rfl, hbt⟩
theorem cL11Ex (p : Pl) (A : Option Addr) (d : Nat) (y : Int) (w : World) :
    Calls Tryz.prog 69 #[plv11 p A d, .int .i64 y] w fun e w' => e = .returned (.bool (exB p y)) ∧ Below w.heap.size w w' := by
  have CI := Lib.hid (fun W => cIn_any y p.f p.u W)
  rw [show (decide (p.f ≤ y) && decide (y ≤ p.u)) = exB p y from rfl] at CI
  have HA := Lib.hid (below_alloc11 w (.cells #[.string p.c, .int .i64 p.k, .int .i64 p.f, .int .i64 p.u, .slice A p.ns.length d] 29))
  go_enter Tryz.func69, Tryz.ntmps69
  go_wp2_with fail
  refine (CI.out _).mono ?_
  rintro e w1 ⟨rfl, rfl⟩
  go_wp2_with fail
  go_ret
  exact ⟨rfl, HA.out⟩
end Go.Proofs.YtglmibmjbignbaaGreatDoor
