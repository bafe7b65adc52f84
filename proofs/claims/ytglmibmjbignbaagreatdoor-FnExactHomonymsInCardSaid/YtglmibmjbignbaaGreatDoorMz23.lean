/-
  The laws' helpers on rows of texts that a call hands back: markStringS and heldStringS.
-/
import Derived.Test.YtglmibmjbignbaaGreatDoorMz4
import Derived.Test.YtglmibmjbignbaaGreatDoorPlFS
import Derived.Test.YtglmibmjbignbaaGreatDoorMz3
import Derived.Deep.Onto
import Derived.Test.YtglmibmjbignbaaGreatDoorMz13
import Derived.Test.YtglmibmjbignbaaGreatDoorMz7
import Derived.Test.YtglmibmjbignbaaGreatDoorMz5
namespace Go.Proofs.YtglmibmjbignbaaGreatDoor
section
set_option linter.unusedVariables false
open Go.RowKit

def MarkedS2 (lo : Nat) (A : Option Addr) (n c k : Nat) (w : World) (e : Ending) (w' : World) : Prop :=
  e = .returned (.int .i64 ((k + n : Nat) : Int)) ∧ w'.ownsRow lo 9 1 (.slice A n c) n (marksV k n) ∧ w.grownBy w' (Value.slice A n c).ownBlock
theorem uMarkS2 (lo : Nat) (A : Option Addr) (n c k : Nat) (xs : List ByteArray) (w : World) (hk1 : 1 ≤ k) (hk : k ≤ 1073741824) (hn : n ≤ 1048576) (h : w.ownsRow lo 9 1 (.slice A n c) n (strV xs)) :
    Calls Tryz.prog 45 #[.slice A n c, .int .i64 (k : Int)] w (MarkedS2 lo A n c k w) := by
  rcases Nat.eq_zero_or_pos n with rfl | hp
  · refine (cMarkS_none _ _ _ _).mono ?_
    rintro e w' ⟨rfl, rfl⟩
    have hx : xs = [] := List.eq_nil_of_length_eq_zero (by have := h.1; rw [strV_len] at this; omega)
    subst hx
    exact ⟨rfl, h, World.grownBy.refl _ _⟩
  · rcases h.2 with ⟨_, h0⟩ | ⟨g, cap, cur, hv, hg, hb, _⟩
    · omega
    cases hv
    exact cMarkS lo g c n k _ w hk1 (by omega) (Array.getElem?_eq_some_iff.1 hb).1 h
set_option maxHeartbeats 1000000 in
set_option maxRecDepth 100000 in
theorem cHeldS (base g cap n k : Nat) (w : World) (hk : 1 ≤ k) (hkn : k + n ≤ 1099511627776) (hg : g < w.heap.size)
    (hown : w.ownsRow base 9 1 (.slice (some ⟨g, 0, none⟩) n cap) n (marksV k n)) :
    Calls Tryz.prog 46 #[.slice (some ⟨g, 0, none⟩) n cap, .int .i64 k] w fun e w' => e = .returned (.int .i64 ((k + n : Nat) : Int)) ∧ Below w.heap.size w w' := by
  go_enter Tryz.func46, Tryz.ntmps46
  go_wp2
  go_loopw [1, 5] (fun kk i wr => ∃ j : Nat, j ≤ n ∧ i = .int .i64 j ∧ kk = .int .i64 ((k : Int) + j) ∧ Below w.heap.size w wr) (fun _ i _ => n - (intOf i).toNat)
  case atStart => exact ⟨0, Nat.zero_le _, rfl, by simp, Below.refl _ _⟩
  case round =>
    obtain ⟨j, hj, rfl, rfl, hbw⟩ := hrel
    by_cases hlt : j < n
    · have hm := fun W => cMarkText (k + j) W (by omega) (by omega)
      rw [show ((k + j : Nat) : Int) = (k : Int) + (j : Int) from by omega] at hm
      have HM := Lib.hid hm
      clear hm
      have c4 : wr.cell? ⟨g, j, none⟩ = some (.string (markB (k + j))) := (hbw.cell hg).trans ((hown.cellAt j (by omega)).trans (marksV_at _ _ _ hlt))
      have e1 : (0 : Int) ≤ (j : Int) := Int.natCast_nonneg _
      have e2 : (j : Int) < (n : Int) := by omega
      have hgl : g < wr.heap.size := Nat.lt_of_lt_of_le hg hbw.size
      go_wp2
      go_region_held3 (fun w' => w'.cell? ⟨g, j, none⟩ = some (.string (markB (k + j)))) (first | (go_keep; done) | (rw [hb1.cell (by exact hgl)]; assumption)) ((go_at_call 111; refine (HM.out _).mono ?_; rintro e w1 ⟨rfl, hb1⟩))
      all_goals
        go_wp2
        go_roundw
        case rel => exact ⟨j + 1, by omega, by go_num, by go_num, hbw.drew.trans (hb1.mono (by simpa using hbw.size))⟩
        case measure => simp [intOf]; omega
    · obtain rfl : j = n := by omega
      go_wp2
      go_ret
      exact ⟨ret_int (by omega), hbw⟩
theorem cHeldS_none (A : Option Addr) (cap : Nat) (k : Int) (w : World) :
    Calls Tryz.prog 46 #[.slice A 0 cap, .int .i64 k] w fun e w' => e = .returned (.int .i64 k) ∧ w = w' := by
  go_enter Tryz.func46, Tryz.ntmps46
  go_wp2
  refine wp_loop_rounds 1 ?_
  rw [rounds_succ]
  go_wp2
  go_ret
  exact ⟨rfl, rfl⟩
theorem uHeldS2 (lo : Nat) (A : Option Addr) (n c k : Nat) (w : World) (hk1 : 1 ≤ k) (hk : k ≤ 1073741824) (hn : n ≤ 1048576) (h : w.ownsRow lo 9 1 (.slice A n c) n (marksV k n)) :
    Calls Tryz.prog 46 #[.slice A n c, .int .i64 (k : Int)] w fun e w' => e = .returned (.int .i64 ((k + n : Nat) : Int)) ∧ Below w.heap.size w w' := by
  rcases Nat.eq_zero_or_pos n with rfl | hp
  · refine (cHeldS_none _ _ _ _).mono ?_
    rintro e w' ⟨rfl, rfl⟩
    exact ⟨rfl, Below.refl _ _⟩
  · rcases h.2 with ⟨_, h0⟩ | ⟨g, cap, cur, hv, hg, hb, _⟩
    · omega
    cases hv
    exact cHeldS lo g c n k w hk1 (by omega) (Array.getElem?_eq_some_iff.1 hb).1 h
end
section
set_option linter.unusedVariables false
open Go.RowKit

theorem info_strW : (Tryz.prog.info? 9).map (fun i => (i.zero, i.size, i.bytes)) = some (some (.string ByteArray.empty), 1, 16) := by kernel_rfl
def cdZ (P : Pl → Bool) (ps : List Pl) : List ByteArray := (ps.filter P).map (·.c)
theorem cdZ_no {P : Pl → Bool} {ps : List Pl} {k : Nat} {p : Pl} (h : ps[k]? = some p) (hf : P p = false) : cdZ P (ps.take (k + 1)) = cdZ P (ps.take k) := by
  rw [take_snocP h]; unfold cdZ; rw [List.filter_append]; simp [hf]
theorem cdZ_yes {P : Pl → Bool} {ps : List Pl} {k : Nat} {p : Pl} (h : ps[k]? = some p) (hf : P p = true) : cdZ P (ps.take (k + 1)) = cdZ P (ps.take k) ++ [p.c] := by
  rw [take_snocP h]; unfold cdZ; rw [List.filter_append]; simp [hf]
theorem cdZ_len (P : Pl → Bool) (ps : List Pl) : (cdZ P ps).length ≤ ps.length := by unfold cdZ; rw [List.length_map]; exact List.length_filter_le _ _
theorem strV_snocW (xs : List ByteArray) (x : ByteArray) : strV xs ++ [.string x] = strV (xs ++ [x]) := by simp [strV]
theorem keptW {w w' : World} {base n : Nat} {A : Option Addr} {m d : Nat} {t : TypeId} {xs : List Value} {sz : Nat} (h : w.ownsRow base t sz (.slice A m d) n xs) (hb : Below w.heap.size w w') : w'.ownsRow base t sz (.slice A m d) n xs :=
  h.kept ⟨hb.os, hb.tape, hb.output, hb.size, fun j hj _ => hb.block j hj⟩ (row := none) (by
    rcases hh : (Value.slice A m d).ownBlock with _ | q
    · exact .inl rfl
    · exact .inr (fun e => by cases e))
def RowT11 (zs : List ByteArray) (w : World) (e : Ending) (w' : World) : Prop :=
  ∃ A n c, e = .returned (.slice A n c) ∧ w'.ownsRow w.heap.size 9 1 (.slice A n c) n (strV zs) ∧ Below w.heap.size w w'
def OutT11 (zs : List ByteArray) (code : Int) (w : World) (e : Ending) (w' : World) : Prop :=
  ∃ A n c, e = .returned (.tuple #[.slice A n c, .int .i64 code]) ∧ w'.ownsRow w.heap.size 9 1 (.slice A n c) n (strV zs) ∧ Below w.heap.size w w'
/-- The codes of the places that exist in a year, where the register and the year are right. -/
noncomputable def piZ (ps : List Pl) (y : Int) : List ByteArray := if pyC ps y = 0 then cdZ (fun p => exB p y) ps else []
theorem piZ_ok {ps : List Pl} {y : Int} (h : pyC ps y = 0) : piZ ps y = cdZ (fun p => exB p y) ps := by unfold piZ; rw [if_pos h]
theorem piZ_no {ps : List Pl} {y : Int} (h : pyC ps y ≠ 0) : piZ ps y = [] := by unfold piZ; rw [if_neg h]
theorem piZ_len (ps : List Pl) (y : Int) : (piZ ps y).length ≤ 1048576 := by
  by_cases h : pyC ps y = 0
  · rw [piZ_ok h]
    have h1 := cdZ_len (fun p => exB p y) ps
    have h2 := (reg_of (pyC_zero h).1).1
    omega
  · rw [piZ_no h]; simp
end
section
set_option linter.unusedVariables false
open Go.RowKit

set_option maxHeartbeats 2000000 in
set_option maxRecDepth 100000 in
theorem cWhereNm (A : Option Addr) (n c : Nat) (ps : List Pl) (ga gb : Nat) (P : Pl → Bool) (w : World) (hb : n ≤ 1048576) (h : PlAt w w.heap.size A n ps)
    (hcl : ∀ p ∈ ps, ∀ A d W, Below w.heap.size w W → NmAt W W.heap.size A p.ns.length p.ns → p.ns.length ≤ d → Calls Tryz.prog 87 #[enA p A d, .pointer (some ⟨ga, 0, none⟩), .pointer (some ⟨gb, 0, none⟩)] W fun e w' => e = .returned (.bool (P p)) ∧ Below W.heap.size W w') :
    Calls Tryz.prog 72 #[.slice A n c, .func (.func 87) #[] #[.pointer (some ⟨ga, 0, none⟩), .pointer (some ⟨gb, 0, none⟩)]] w (RowT11 (cdZ P ps) w) := by
  obtain ⟨i0, hi0, hz0, hz1, hz2⟩ := info_parts info_strW
  have H := Lib.hid h
  have HN := Lib.hid h.1
  have HC := Lib.hid hcl
  have CE := Lib.hid (fun p A d W => cEntry p A d W)
  clear h hcl
  go_enter Tryz.func72, Tryz.ntmps72
  go_wp2_with fail
  go_loopw [5, 10] (fun o i wr => ∃ (k m d : Nat) (B : Option Addr), k ≤ n ∧ i = .int .i64 k ∧ o = .slice B m d ∧ Hid (m ≤ k) ∧ Hid (wr.ownsRow w.heap.size 9 1 (.slice B m d) m (strV (cdZ P (ps.take k)))) ∧ Below w.heap.size w wr) (fun _ i _ => n - (intOf i).toNat)
  case atStart => exact ⟨0, 0, 0, none, Nat.zero_le _, rfl, rfl, Lib.hid (Nat.le_refl _), Lib.hid (World.ownsRow_nil _ _ _ _), Below.refl _ _⟩
  case round =>
    obtain ⟨k, m, d, B, hk, rfl, rfl, HM, HO, hbw⟩ := hrel
    by_cases hlt : k < n
    · obtain ⟨p, hp⟩ : ∃ p, ps[k]? = some p := ⟨ps[k]'(by have := HN.out; omega), List.getElem?_eq_getElem _⟩
      obtain ⟨b, o, rfl, hbl, A1, d1, c0, c1, c2, c3, c4, hnm, hd⟩ := (H.out.below hbw (Nat.le_refl _)).row hp
      obtain ⟨W0, hW0⟩ : ∃ W0 : World, W0 = wr.alloc (.cells #[.string p.c, .int .i64 p.k, .int .i64 p.f, .int .i64 p.u, .slice A1 p.ns.length d1] 29) := ⟨_, rfl⟩
      have HB0 : Hid (Below wr.heap.size wr W0) := Lib.hid (by rw [hW0]; exact below_alloc11 _ _)
      have HX : Hid (Bx W0 wr.heap.size [.string p.c, .int .i64 p.k, .int .i64 p.f, .int .i64 p.u, .slice A1 p.ns.length d1]) := Lib.hid (by rw [hW0]; exact Bx.new wr _ _)
      have HW0 := Lib.hid hW0
      have CC := Lib.hid (fun W (hW : Below wr.heap.size wr W) => HC.out p (List.mem_of_getElem? hp) A1 d1 W (bstep9 hbw hbw.size hW) ((hnm.more hbw.size).grow hW) hd)
      have CX := Lib.hid (CE.out p A1 d1 W0)
      have HP := Lib.hid hp
      have HB := Lib.hid hbw
      have u1 : (0 : Int) ≤ (k : Int) := Int.natCast_nonneg _
      have u2 : (k : Int) < (n : Int) := by omega
      clear hp hnm hd hbw hW0
      go_wp2_with fail
      rw [← HW0.out]
      refine CX.out.mono ?_
      rintro e w1 ⟨rfl, g1⟩
      have hb1 := bstep9 HB0.out HB0.out.size g1
      have CC1 := Lib.hid (CC.out w1 hb1)
      cases hf : P p
      · rw [hf] at CC1
        have HST := Lib.hid (cdZ_no HP.out hf)
        clear hf
        go_wp2_with fail
        refine CC1.out.mono ?_
        rintro e w2 ⟨rfl, g2⟩
        have hb2 := bstep9 hb1 hb1.size g2
        have hbt := bstep9 HB.out HB.out.size hb2
        have HO2 : Hid (w2.ownsRow w.heap.size 9 1 (.slice B m d) m (strV (cdZ P (ps.take (k + 1))))) := Lib.hid (by rw [HST.out]; exact keptW HO.out hb2)
        clear g1 g2 hb1 hb2 c0 c1 c2 c3 c4
        go_wp2_with fail
        go_roundw
        case rel => exact ⟨k + 1, m, d, B, by omega, by go_num, rfl, Lib.hid (by have := HM.out; omega), HO2, hbt⟩
        case measure => simp [intOf]; omega
      · rw [hf] at CC1
        have HST := Lib.hid (cdZ_yes HP.out hf)
        clear hf
        go_wp2_with fail
        refine CC1.out.mono ?_
        rintro e w2 ⟨rfl, g2⟩
        have hb2 := bstep9 hb1 hb1.size g2
        have hbt := bstep9 HB.out HB.out.size hb2
        have hown := keptW HO.out hb2
        have hmk := HM.out
        have q0 := ((HX.out.next g1).next g2).five.1
        clear g1 g2 hb1 hb2 c0 c1 c2 c3 c4
        go_wp2_with (at_builtin; refine wpList_append_own _ rfl _ _ 38 rfl w.heap.size 9 i0 _ 1 16 Tryz.underlying38 hi0 hz0 hz1 hz2 rfl (by decide) _ _ _ rfl (hown.alloc _) ⟨w2.heap.size, 0, none⟩ 1 1 [.string p.c] rfl rfl ?d1 ?d2 ?d3 ?d4 ?d5 ?_)
        case d1 => exact one_cell' _ _ _ (new_one _ _ _)
        case d2 => intro u hu; simp at hu; subst hu; rfl
        case d3 => unfold maxLen; omega
        case d4 => omega
        case d5 => have := hbt.size; simp; omega
        intro v' w3 hown3 hgrow3 _
        rw [strV_snocW] at hown3
        have hb3 : Below w.heap.size w w3 := (hbt.alloc hbt.size _).grown hgrow3 (by have := hbt.size; simp; omega) (fun x hx => (hown.lt x hx).1)
        have HO3 : Hid (w3.ownsRow w.heap.size 9 1 v' (m + 1) (strV (cdZ P (ps.take (k + 1))))) := Lib.hid (by rw [HST.out]; exact hown3)
        obtain ⟨g', c', rfl, _, _⟩ := World.ownsRow.form HO3.out (by omega)
        clear hown3 hown hgrow3 q0
        go_wp2_with fail
        go_roundw
        case rel => exact ⟨k + 1, m + 1, c', some ⟨g', 0, none⟩, by omega, by go_num, rfl, Lib.hid (by omega), HO3, hb3⟩
        case measure => simp [intOf]; omega
    · have HF : Hid (wr.ownsRow w.heap.size 9 1 (.slice B m d) m (strV (cdZ P ps))) := Lib.hid (by have := HO.out; rwa [List.take_of_length_le (by have := HN.out; omega)] at this)
      go_wp2_with fail
      go_ret
      exact ⟨B, m, d, rfl, HF.out, hbw⟩
end
section
set_option linter.unusedVariables false
open Go.RowKit

def txU (xs : List Nm) (y : Int) : List ByteArray := (xs.filter fun x => usB x y).map Nm.t
theorem txU_no {xs : List Nm} {y : Int} {k : Nat} {x : Nm} (h : xs[k]? = some x) (hf : usB x y = false) : txU (xs.take (k + 1)) y = txU (xs.take k) y := by
  rw [take_snoc9 h]; unfold txU; rw [List.filter_append]; simp [hf]
theorem txU_yes {xs : List Nm} {y : Int} {k : Nat} {x : Nm} (h : xs[k]? = some x) (hf : usB x y = true) : txU (xs.take (k + 1)) y = txU (xs.take k) y ++ [x.t] := by
  rw [take_snoc9 h]; unfold txU; rw [List.filter_append]; simp [hf]
theorem txU_len (xs : List Nm) (y : Int) : (txU xs y).length ≤ xs.length := by unfold txU; rw [List.length_map]; exact List.length_filter_le _ _
theorem txU_mem {xs : List Nm} {y : Int} {t : ByteArray} : t ∈ txU xs y ↔ ∃ x ∈ xs, usB x y = true ∧ x.t = t := by
  unfold txU; rw [List.mem_map]
  constructor
  · rintro ⟨x, hx, rfl⟩
    rw [List.mem_filter] at hx
    exact ⟨x, hx.1, hx.2, rfl⟩
  · rintro ⟨x, h1, h2, rfl⟩
    exact ⟨x, by rw [List.mem_filter]; exact ⟨h1, h2⟩, rfl⟩
/-- There is a name with the text that is used in the year. -/
def hasT11 (xs : List Nm) (y : Int) (t : ByteArray) : Bool := decide (t ∈ txU xs y)
theorem set_has (xs : List Nm) (y : Int) (t : ByteArray) : decide (t ∈ setT (txU xs y)) = hasT11 xs y t := by
  unfold hasT11; rw [decide_eq_decide]; exact (setT_is _).2 t
theorem has_yes {xs : List Nm} {y : Int} {i : Nat} {x : Nm} (h : xs[i]? = some x) (hu : usB x y = true) : hasT11 xs y x.t = true := by
  unfold hasT11; exact decide_eq_true (txU_mem.2 ⟨x, List.mem_of_getElem? h, hu, rfl⟩)
theorem usP_at {xs : List Nm} {y : Int} : ∀ {k i : Nat} {x : Nm}, i < k → xs[i]? = some x → usB x y = true → (i : Int) ∈ usP xs y k
  | 0, i, x, h, _, _ => absurd h (by omega)
  | k + 1, i, x, h, hx, hu => by
    by_cases e : i = k
    · subst e; rw [usP_yes hx hu]; simp
    · have h1 := usP_at (k := k) (by omega) hx hu
      cases hk : xs[k]? with
      | none =>
        show (i : Int) ∈ usP xs y k ++ _
        rw [List.mem_append]; exact .inl h1
      | some z =>
        show (i : Int) ∈ usP xs y k ++ _
        rw [List.mem_append]; exact .inl h1
theorem has_no {xs : List Nm} {y : Int} {t : ByteArray} {u : List Int} (he : u = usP xs y xs.length) (h : ∀ (j : Nat) (v : Int) (i : Nat) (x : Nm), u[j]? = some v → v = (i : Int) → xs[i]? = some x → x.t ≠ t) : hasT11 xs y t = false := by
  unfold hasT11
  refine decide_eq_false fun hm => ?_
  obtain ⟨x, hx, hu, ht⟩ := txU_mem.1 hm
  obtain ⟨i, hi⟩ := List.mem_iff_getElem?.1 hx
  have h1 := usP_at (k := xs.length) (List.getElem?_eq_some_iff.1 hi).1 hi hu
  rw [← he] at h1
  obtain ⟨j, hj⟩ := List.mem_iff_getElem?.1 h1
  exact h j i i x hj rfl hi ht
noncomputable def pnC (ps : List Pl) (t : ByteArray) (y : Int) : Int := if phraseB t then pyC ps y else 1
noncomputable def pnZ (ps : List Pl) (t : ByteArray) (y : Int) : List ByteArray := if pnC ps t y = 0 then cdZ (fun p => hasT11 p.ns y t) ps else []
theorem pn_cases (ps : List Pl) (t : ByteArray) (y : Int) :
    (phraseB t = false ∧ pnC ps t y = 1 ∧ pnZ ps t y = []) ∨ (phraseB t = true ∧ pyC ps y ≠ 0 ∧ pnC ps t y = pyC ps y ∧ pnZ ps t y = []) ∨
    (phraseB t = true ∧ pyC ps y = 0 ∧ pnC ps t y = 0 ∧ pnZ ps t y = cdZ (fun p => hasT11 p.ns y t) ps) := by
  cases hp : phraseB t
  · have h1 : pnC ps t y = 1 := by unfold pnC; rw [hp]; rfl
    exact .inl ⟨rfl, h1, by unfold pnZ; rw [if_neg (by rw [h1]; decide)]⟩
  · have h1 : pnC ps t y = pyC ps y := by unfold pnC; rw [hp]; rfl
    by_cases h0 : pyC ps y = 0
    · exact .inr (.inr ⟨rfl, h0, h1.trans h0, by unfold pnZ; rw [if_pos (h1.trans h0)]⟩)
    · exact .inr (.inl ⟨rfl, h0, h1, by unfold pnZ; rw [if_neg (by rw [h1]; exact h0)]⟩)
theorem pnZ_len (ps : List Pl) (t : ByteArray) (y : Int) : (pnZ ps t y).length ≤ 1048576 := by
  rcases pn_cases ps t y with ⟨_, _, h⟩ | ⟨_, _, _, h⟩ | ⟨_, h0, _, h⟩
  · rw [h]; simp
  · rw [h]; simp
  · rw [h]
    have h1 := cdZ_len (fun p => hasT11 p.ns y t) ps
    have h2 := (reg_of (pyC_zero h0).1).1
    omega
end
end Go.Proofs.YtglmibmjbignbaaGreatDoor
