/-
  The laws' helpers on slices of numbers: toInt64S, eqInt64S, markInt64S, heldInt64S on rows of one's own.
-/
import Derived.Test.YtglmibmjbignbaaGreatDoorMz1
import Derived.Test.YtglmibmjbignbaaGreatDoorMz19
import Derived.Test.YtglmibmjbignbaaGreatDoorMz17
import Derived.Deep.Onto
namespace Go.Proofs.YtglmibmjbignbaaGreatDoor
section
set_option linter.unusedVariables false
open Go.RowKit

theorem Sp.num {w : World} {A : Option Addr} {n : Nat} {xs : List Int} (h : NumAt w w.heap.size A n xs) : Sp 0 w.heap.size (fun W => NumAt W W.heap.size A n xs) w :=
  ⟨Nat.le_refl _, fun W hW => (h.below hW.below (Nat.le_refl _)).more hW.size⟩
theorem own_num {w : World} {lo n c : Nat} {A : Option Addr} {xs : List Int} (h : w.ownsRow lo 2 1 (.slice A n c) n (intV xs)) : NumAt w w.heap.size A n xs := by
  have hl : xs.length = n := by have := h.1; rw [intV_len] at this; omega
  refine ⟨hl.symm, fun hp => ?_⟩
  rcases h.2 with ⟨_, h0⟩ | ⟨g, cap, cur, hv, hg, hb, _⟩
  · omega
  · cases hv
    refine ⟨g, 0, rfl, (Array.getElem?_eq_some_iff.1 hb).1, fun j x hx => ?_⟩
    rw [Nat.zero_add]
    exact (h.cellAt j (by have := (List.getElem?_eq_some_iff.1 hx).1; omega)).trans (intV_at _ _ _ hx)
set_option maxHeartbeats 1000000 in
theorem cToI_none3 (A : Option Addr) (cap : Nat) (w : World) :
    Calls Tryz.prog 47 #[.slice A 0 cap] w fun e w' => e = .returned (.slice (some ⟨w.heap.size, 0, none⟩) 0 0) ∧ w'.ownsRow w.heap.size 2 1 (.slice (some ⟨w.heap.size, 0, none⟩) 0 0) 0 (intV []) ∧ Below w.heap.size w w' := by
  obtain ⟨i0, hi0, hz0, hz1, hz2⟩ := info_parts info_i64
  go_enter Tryz.func47, Tryz.ntmps47
  go_wp2_with (at_make; refine wpList_make_full _ rfl _ _ 49 rfl w.heap.size 2 i0 _ 1 Tryz.underlying49 hi0 hz0 hz1 _ _ _ _ 0 rfl rfl (by simp) (by simp) ?b2 ?b3 (Nat.le_refl _) ?_)
  case b2 => rw [hz2]; omega
  case b3 => unfold maxLen; omega
  intro w0 hown0 hgrow0
  rw [copyI_zero []] at hown0
  have hb0 : Below w.heap.size w w0 := (Below.refl _ _).grown hgrow0 (Nat.le_refl _) (fun k h => by cases h)
  have HO := Lib.hid hown0
  clear hown0 hgrow0
  go_wp2
  refine wp_loop_rounds 1 ?_
  rw [rounds_succ]
  go_wp2
  go_ret
  exact ⟨rfl, HO.out, hb0⟩
/-- A copy of one's own. -/
def CopyI (n : Nat) (xs : List Int) (w : World) (e : Ending) (w' : World) : Prop := ∃ A, e = .returned (.slice A n n) ∧ w'.ownsRow w.heap.size 2 1 (.slice A n n) n (intV xs) ∧ Below w.heap.size w w'
theorem uToI (A : Option Addr) (n cap : Nat) (xs : List Int) (w : World) (hbig : n ≤ 1048576) (h : NumAt w w.heap.size A n xs) :
    Calls Tryz.prog 47 #[.slice A n cap] w (CopyI n xs w) := by
  rcases Nat.eq_zero_or_pos n with rfl | hp
  · obtain rfl : xs = [] := List.eq_nil_of_length_eq_zero h.1.symm
    exact (cToI_none3 A cap w).mono fun e w' ⟨h1, h2, h3⟩ => ⟨_, h1, h2, h3⟩
  · obtain ⟨b, o, rfl, hb, hc⟩ := h.2 hp
    exact (cToI b o n cap xs w h.1 hbig hb hc).mono fun e w' ⟨h1, h2, h3⟩ => ⟨_, h1, h2, h3⟩
theorem uEqI (A A' : Option Addr) (c c' n : Nat) (xs : List Int) (w : World) (hbig : n ≤ 1048576) (h1 : NumAt w w.heap.size A n xs) (h2 : NumAt w w.heap.size A' n xs) :
    Calls Tryz.prog 48 #[.slice A n c, .slice A' n c'] w fun e w' => e = .returned (.bool true) ∧ Below w.heap.size w w' :=
  (tEqI A A' c c' n _ _ xs w hbig h1 h2).mono fun e w' ⟨he, m, hm⟩ => ⟨he, hm ▸ below_drN_r (Below.refl _ w) m⟩
/-- Marks in a row of one's own. -/
def MarkedI (lo : Nat) (A : Option Addr) (n c k : Nat) (w : World) (e : Ending) (w' : World) : Prop :=
  e = .returned (.int .i64 ((k + n : Nat) : Int)) ∧ w'.ownsRow lo 2 1 (.slice A n c) n (intV (marksI k n)) ∧ w.grownBy w' (Value.slice A n c).ownBlock
theorem own_lift {w : World} {lo s n : Nat} {t : TypeId} {v : Value} {xs ys : List Value} (h : w.ownsRow 0 t s v n xs) (hlo : ∀ k, v.ownBlock = some k → lo ≤ k) : w.ownsRow lo t s v n xs :=
  ⟨h.1, by
    rcases h.2 with h2 | ⟨g, cap, cur, h1, h2, h3⟩
    · exact .inl h2
    · exact .inr ⟨g, cap, cur, h1, hlo g (by rw [h1]; rfl), h3⟩⟩
theorem uMarkI (lo : Nat) (A : Option Addr) (n c k : Nat) (xs : List Int) (w : World) (hk : k ≤ 1073741824) (hn : n ≤ 1048576) (h : w.ownsRow lo 2 1 (.slice A n c) n (intV xs)) :
    Calls Tryz.prog 49 #[.slice A n c, .int .i64 (k : Int)] w (MarkedI lo A n c k w) :=
  (cMarkI A n c k xs w (by omega) (RowI.of h)).mono fun e w' ⟨h1, h2, h3⟩ => ⟨h1, own_lift (ys := []) h2 (fun k hk => (h.lt k hk).1), h3⟩
end
section
set_option linter.unusedVariables false
open Go.RowKit

def OutN9 (zs : List Int) (code : Int) (w : World) (e : Ending) (w' : World) : Prop :=
  ∃ A n c, e = .returned (.tuple #[.slice A n c, .int .i64 code]) ∧ w'.ownsRow w.heap.size 2 1 (.slice A n c) n (intV zs) ∧ Below w.heap.size w w'
theorem intV_snoc9 (xs : List Int) (x : Int) : intV xs ++ [.int .i64 x] = intV (xs ++ [x]) := by simp [intV]
theorem qC_aa (xs : List Nm) (y : Int) : qC xs [⟨#[97, 97]⟩] y = qC xs [] y := by
  have : langB ⟨#[97, 97]⟩ = true := by decide
  unfold qC; simp [this]
theorem usZ_ok {xs : List Nm} {y : Int} (h : qC xs [] y = 0) : usZ xs y = usP xs y xs.length := by unfold usZ; rw [if_pos h]
theorem usZ_no {xs : List Nm} {y : Int} (h : qC xs [] y ≠ 0) : usZ xs y = [] := by unfold usZ; rw [if_neg h]
theorem usZ_len9 (xs : List Nm) (y : Int) : (usZ xs y).length ≤ 1048576 := by have := usZ_len xs y; omega
theorem kept9 {w w' : World} {base n : Nat} {A : Option Addr} {m d : Nat} {t : TypeId} {xs : List Value} {sz : Nat} (h : w.ownsRow base t sz (.slice A m d) n xs) (hb : Below w.heap.size w w') : w'.ownsRow base t sz (.slice A m d) n xs :=
  h.kept ⟨hb.os, hb.tape, hb.output, hb.size, fun j hj _ => hb.block j hj⟩ (row := none) (by
    rcases hh : (Value.slice A m d).ownBlock with _ | q
    · exact .inl rfl
    · exact .inr (fun e => by cases e))

def UsedOut (xs : List Nm) (y : Int) (n : Nat) (w : World) (e : Ending) (w' : World) : Prop :=
  ∃ A m d, e = .returned (.slice A m d) ∧ w'.ownsRow w.heap.size 2 1 (.slice A m d) m (intV (usP xs y n)) ∧ Below w.heap.size w w'
set_option maxHeartbeats 2000000 in
set_option maxRecDepth 100000 in
theorem cL09Used (A : Option Addr) (n c : Nat) (xs : List Nm) (y : Int) (w : World) (hb : n ≤ 1048576) (h : NmAt w w.heap.size A n xs) :
    Calls Tryz.prog 131 #[.slice A n c, .int .i64 y] w (UsedOut xs y n w) := by
  obtain ⟨i0, hi0, hz0, hz1, hz2⟩ := info_parts info_i64
  have H := Lib.hid h
  have HN := Lib.hid h.1
  have CU := Lib.hid (fun (x : Nm) W => cIn_any y x.f x.u W)
  clear h
  have hO := World.ownsRow_lit (e := 2) (base := w.heap.size) (size := 1) w #[] 0 (Nat.le_refl _) (by decide) rfl
  have HO0 := Lib.hid hO
  have hb1a := (Below.refl w.heap.size w).alloc (Nat.le_refl _) (.cells #[] 2)
  clear hO
  go_enter Tryz.func131, Tryz.ntmps131
  go_wp2_with fail
  go_loopw [5, 6] (fun o i wr => ∃ (k m d : Nat) (B : Option Addr), k ≤ n ∧ i = .int .i64 k ∧ o = .slice B m d ∧ Hid (m ≤ k) ∧ Hid (wr.ownsRow w.heap.size 2 1 (.slice B m d) m (intV (usP xs y k))) ∧ Below w.heap.size w wr) (fun _ i _ => n - (intOf i).toNat)
  case atStart => exact ⟨0, 0, 0, _, Nat.zero_le _, rfl, rfl, Lib.hid (Nat.le_refl _), HO0, hb1a⟩
  case round =>
    clear HO0 hb1a
    obtain ⟨k, m, d, B, hk, rfl, rfl, HM, HO, hbw⟩ := hrel
    by_cases hlt : k < n
    · obtain ⟨x, hx⟩ : ∃ x, xs[k]? = some x := ⟨xs[k]'(by have := HN.out; omega), List.getElem?_eq_getElem _⟩
      obtain ⟨b, o, rfl, hbl, c0, c1, c2, c3, c4⟩ := (H.out.below hbw (Nat.le_refl _)).row hx
      have HX := Lib.hid hx
      have CX := Lib.hid (fun W => CU.out x W)
      have u1 : (0 : Int) ≤ (k : Int) := Int.natCast_nonneg _
      have u2 : (k : Int) < (n : Int) := by omega
      clear hx
      cases hf : usB x y
      · rw [show (decide (x.f ≤ y) && decide (y ≤ x.u)) = false from hf] at CX
        have HST := Lib.hid (usP_no HX.out hf)
        clear hf
        go_wp2_with fail
        go_quiet ((go_at_call 83; exact Calls.quiet_of_same ((CX.out _).mono (fun _ _ h => ⟨h.1, h.2.symm⟩))))
        have HO2 : Hid ((wr.drewN nq).ownsRow w.heap.size 2 1 (.slice B m d) m (intV (usP xs y (k + 1)))) := Lib.hid (by rw [HST.out]; exact HO.out)
        go_wp2_with fail
        go_roundw
        case rel => exact ⟨k + 1, m, d, B, by omega, by go_num, rfl, Lib.hid (by have := HM.out; omega), HO2, below_drN_r hbw _⟩
        case measure => simp [intOf]; omega
      · rw [show (decide (x.f ≤ y) && decide (y ≤ x.u)) = true from hf] at CX
        have HST := Lib.hid (usP_yes HX.out hf)
        clear hf
        go_wp2_with fail
        go_quiet ((go_at_call 83; exact Calls.quiet_of_same ((CX.out _).mono (fun _ _ h => ⟨h.1, h.2.symm⟩))))
        have hown : (wr.drewN nq).ownsRow w.heap.size 2 1 (.slice B m d) m (intV (usP xs y k)) := HO.out
        have hbt : Below w.heap.size w (wr.drewN nq) := below_drN_r hbw _
        have hmk := HM.out
        go_wp2_with (at_builtin; refine wpList_append_own _ rfl _ _ 49 rfl w.heap.size 2 i0 _ 1 8 Tryz.underlying49 hi0 hz0 hz1 hz2 rfl (by decide) _ _ _ rfl (hown.alloc _) ⟨(wr.drewN nq).heap.size, 0, none⟩ 1 1 [.int .i64 (k : Int)] rfl rfl ?d1 ?d2 ?d3 ?d4 ?d5 ?_)
        case d1 => exact one_cell' _ _ _ (new_one _ _ _)
        case d2 => intro u hu; simp at hu; subst hu; rfl
        case d3 => unfold maxLen; omega
        case d4 => omega
        case d5 => have := hbw.size; simp; omega
        intro v' w3 hown3 hgrow3 _
        rw [intV_snoc9] at hown3
        have hb3 : Below w.heap.size w w3 := (hbt.alloc hbt.size _).grown hgrow3 (by have := hbw.size; simp; omega) (fun x hx => (hown.lt x hx).1)
        have HO3 : Hid (w3.ownsRow w.heap.size 2 1 v' (m + 1) (intV (usP xs y (k + 1)))) := Lib.hid (by rw [HST.out]; exact hown3)
        obtain ⟨g', c', rfl, _, _⟩ := World.ownsRow.form HO3.out (by omega)
        clear hown3 hown hgrow3
        go_wp2_with fail
        go_roundw
        case rel => exact ⟨k + 1, m + 1, c', some ⟨g', 0, none⟩, by omega, by go_num, rfl, Lib.hid (by omega), HO3, hb3⟩
        case measure => simp [intOf]; omega
    · obtain rfl : k = n := by omega
      go_wp2_with fail
      go_ret
      exact ⟨B, m, d, rfl, HO.out, hbw⟩

end
section
set_option linter.unusedVariables false
open Go.RowKit

theorem offC_bad {xs : List Nm} {l : ByteArray} {y : Int} (h : qC xs [l] y ≠ 0) : offC xs l y = qC xs [l] y := by unfold offC; rw [if_neg h]
theorem offC_hit {xs : List Nm} {l : ByteArray} {y : Int} {k : Nat} (h : qC xs [l] y = 0) (hk : offF xs l y = some k) : offC xs l y = 0 := by unfold offC; rw [if_pos h, hk]
theorem offC_miss {xs : List Nm} {l : ByteArray} {y : Int} (h : qC xs [l] y = 0) (hk : offF xs l y = none) : offC xs l y = 4 := by unfold offC; rw [if_pos h, hk]
theorem offZ_bad {xs : List Nm} {l : ByteArray} {y : Int} (h : qC xs [l] y ≠ 0) : offZ xs l y = 0 := by unfold offZ; rw [if_neg h]
theorem offZ_hit {xs : List Nm} {l : ByteArray} {y : Int} {k : Nat} (h : qC xs [l] y = 0) (hk : offF xs l y = some k) : offZ xs l y = (k : Int) := by unfold offZ; rw [if_pos h, hk]
theorem offZ_miss {xs : List Nm} {l : ByteArray} {y : Int} (h : qC xs [l] y = 0) (hk : offF xs l y = none) : offZ xs l y = 0 := by unfold offZ; rw [if_pos h, hk]
theorem ou_no1 {l : ByteArray} {y : Int} {x : Nm} (h : ofB l x = false) : ouB l y x = false := by unfold ouB; rw [h]; rfl
theorem ou_two {l : ByteArray} {y : Int} {x : Nm} (h : ofB l x = true) : ouB l y x = usB x y := by unfold ouB; rw [h]; rfl
/-- Before k there is none. -/
def NoneTo (p : Nm → Bool) (xs : List Nm) (k : Nat) : Prop := ∀ (j : Nat) z, j < k → xs[j]? = some z → p z = false
theorem none_step {p : Nm → Bool} {xs : List Nm} {k : Nat} {x : Nm} (h : NoneTo p xs k) (hx : xs[k]? = some x) (hp : p x = false) : NoneTo p xs (k + 1) := fun j z hj hz => by
  by_cases hlt : j < k
  · exact h j z hlt hz
  · obtain rfl : j = k := by omega
    rw [hx] at hz; obtain rfl := Option.some.inj hz; exact hp
theorem none_end {p : Nm → Bool} {xs : List Nm} {k : Nat} (h : NoneTo p xs k) (hk : xs.length ≤ k) : fstF p xs = none := fst_miss fun j z hz => h j z (by have := (List.getElem?_eq_some_iff.1 hz).1; omega) hz

/-- What findOfficial answers: an index and an error. -/
def FindOut (z c : Int) (w : World) (e : Ending) (w' : World) : Prop := (∃ v, e = .returned (.tuple #[.int .i64 z, v]) ∧ RefV c v) ∧ Below w.heap.size w w'

end
end Go.Proofs.YtglmibmjbignbaaGreatDoor
