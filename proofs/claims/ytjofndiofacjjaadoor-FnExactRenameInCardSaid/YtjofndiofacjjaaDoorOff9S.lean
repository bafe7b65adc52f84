/-
  The contracts of spec.l09Official and spec.OfficialIn.
-/
import Derived.Test.YtjofndiofacjjaaDoorOff9
namespace Go.Proofs.YtjofndiofacjjaaDoor
set_option linter.unusedVariables false
open Go.RowKit

theorem numAt_row9 {w : World} {B n : Nat} {A : Option Addr} {xs : List Int} (h : NumAt w B A n xs) {k : Nat} {x : Int} (hx : xs[k]? = some x) :
    ∃ b o, A = some ⟨b, o, none⟩ ∧ b < B ∧ w.cell? ⟨b, o + k, none⟩ = some (.int .i64 x) := by
  have := (List.getElem?_eq_some_iff.1 hx).1
  obtain ⟨b, o, h1, h2, h3⟩ := h.2 (by have := h.1; omega)
  exact ⟨b, o, h1, h2, h3 k x hx⟩
/-- The search over the used ones is the search over all. -/
def okO (xs : List Nm) (l : ByteArray) (v : Int) : Bool := match xs[v.toNat]? with | some x => ofB l x | none => false
theorem us_find (xs : List Nm) (l : ByteArray) (y : Int) : ∀ k, k ≤ xs.length → (usP xs y k).find? (okO xs l) = ((List.range k).find? fun i => match xs[i]? with | some x => ouB l y x | none => false).map Int.ofNat
  | 0, _ => rfl
  | k + 1, h => by
    have ih := us_find xs l y k (by omega)
    obtain ⟨x, hx⟩ : ∃ x, xs[k]? = some x := ⟨xs[k]'(by omega), List.getElem?_eq_getElem _⟩
    rw [List.range_succ, List.find?_append]
    cases hu : usB x y
    · rw [usP_no hx hu, ih]
      have : ([k].find? fun i => match xs[i]? with | some x => ouB l y x | none => false) = none := by simp [hx, ouB, hu]
      rw [this, Option.or_none]
    · rw [usP_yes hx hu, List.find?_append, ih]
      have h1 : ([(k : Int)].find? (okO xs l)) = ([k].find? fun i => match xs[i]? with | some x => ouB l y x | none => false).map Int.ofNat := by
        cases ho : ofB l x <;> simp [okO, hx, ouB, hu, ho]
      rw [h1]
      cases ((List.range k).find? fun i => match xs[i]? with | some x => ouB l y x | none => false) <;> rfl
theorem off_find (xs : List Nm) (l : ByteArray) (y : Int) : (usP xs y xs.length).find? (okO xs l) = (offF xs l y).map Int.ofNat := us_find xs l y xs.length (Nat.le_refl _)
theorem find_hit9 {p : Int → Bool} {u : List Int} {k : Nat} {v : Int} (h : u[k]? = some v) (hp : p v = true) (hn : ∀ z ∈ u.take k, p z = false) : u.find? p = some v := by
  have hk := (List.getElem?_eq_some_iff.1 h).1
  have hv := (List.getElem?_eq_some_iff.1 h).2
  rw [← List.take_append_drop k u, List.find?_append, List.find?_eq_none.2 (fun z hz => by simp [hn z hz]), Option.none_or, List.drop_eq_getElem_cons hk, hv, List.find?_cons_of_pos hp]
theorem find_miss9 {p : Int → Bool} {u : List Int} {k : Nat} (hk : u.length ≤ k) (hn : ∀ z ∈ u.take k, p z = false) : u.find? p = none := by
  rw [List.take_of_length_le hk] at hn
  exact List.find?_eq_none.2 fun z hz => by simp [hn z hz]
theorem take_no9 {p : Int → Bool} {u : List Int} {k : Nat} {v : Int} (h : u[k]? = some v) (hp : p v = false) (hn : ∀ z ∈ u.take k, p z = false) : ∀ z ∈ u.take (k + 1), p z = false := fun z hz => by
  rw [take_snoc9 h, List.mem_append] at hz
  rcases hz with hz | hz
  · exact hn z hz
  · obtain rfl : z = v := by simpa using hz
    exact hp
def offN (o : Option Nat) : Int := match o with | some k => (k : Int) | none => -1

set_option maxHeartbeats 4000000 in
set_option maxRecDepth 100000 in
theorem cL09Off (A : Option Addr) (n c : Nat) (xs : List Nm) (l : ByteArray) (y : Int) (w : World) (hb : n ≤ 1048576) (h : NmAt w w.heap.size A n xs) :
    Calls Tryd.prog 63 #[.slice A n c, .string l, .int .i64 y] w fun e w' => e = .returned (.int .i64 (offN (offF xs l y))) ∧ Below w.heap.size w w' := by
  have CU := Lib.hid (cL09Used A n c xs y w hb h)
  have H := Lib.hid h
  have HN := Lib.hid h.1
  have HF := Lib.hid (off_find xs l y)
  clear h
  go_enter Tryd.func63, Tryd.ntmps63
  go_wp2_with fail
  refine CU.out.mono ?_
  rintro e w1 ⟨U, m, d, rfl, hown, hb1⟩
  rw [HN.out] at hown
  have hU := own_num hown
  have HM : Hid (m = (usP xs y xs.length).length) := Lib.hid hU.1
  have hm9 : m ≤ 1048576 := by have h1 := hU.1; have h2 := usP_len xs y xs.length; have := HN.out; omega
  have HU := Lib.hid hU
  have HME : Hid (∀ (j : Nat) v, (usP xs y xs.length)[j]? = some v → ∃ (i : Nat) (x : Nm), v = (i : Int) ∧ i < n ∧ xs[i]? = some x ∧ usB x y = true) := Lib.hid (fun j v hj => by
    obtain ⟨i, x, h1, h2, h3⟩ := usP_mem xs y xs.length v (List.mem_of_getElem? hj)
    exact ⟨i, x, h1, by have := HN.out; omega, h3⟩)
  have HB1 := Lib.hid hb1
  clear hown hU hb1
  generalize usP xs y xs.length = u at HF HM HU HME
  go_wp2_with fail
  go_loopw [8] (fun i wr => ∃ k : Nat, k ≤ m ∧ i = .int .i64 k ∧ Hid (∀ z ∈ u.take k, okO xs l z = false) ∧ Below w1.heap.size w1 wr) (fun i _ => m - (intOf i).toNat)
  case atStart => exact ⟨0, Nat.zero_le _, rfl, Lib.hid (by simp), Below.refl _ _⟩
  case round =>
    obtain ⟨k, hk, rfl, HA, hbr⟩ := hrel
    by_cases hlt : k < m
    · obtain ⟨v, hv⟩ : ∃ v, u[k]? = some v := ⟨u[k]'(by have := HM.out; omega), List.getElem?_eq_getElem _⟩
      obtain ⟨i, x, rfl, hi, hx, hu⟩ := HME.out k v hv
      have hbw := bstep9 HB1.out HB1.out.size hbr
      obtain ⟨b, o, rfl, hbl, c0, c1, c2, c3, c4⟩ := (H.out.below hbw (Nat.le_refl _)).row hx
      obtain ⟨b2, o2, rfl, hbl2, d0⟩ := numAt_row9 (HU.out.below hbr (Nat.le_refl _)) hv
      have hb2 := hbr.alloc hbr.size (.cells #[.string x.t, .string x.l, .int .i64 x.s, .int .i64 x.f, .int .i64 x.u] 30)
      have HB2 := Lib.hid hb2
      have HX : Hid (okO xs l (i : Int) = ofB l x) := Lib.hid (by simp [okO, hx])
      have HV := Lib.hid hv
      have u1 : (0 : Int) ≤ (k : Int) := Int.natCast_nonneg _
      have u2 : (k : Int) < (m : Int) := by omega
      have u3 : (0 : Int) ≤ (i : Int) := Int.natCast_nonneg _
      have u4 : (i : Int) < (n : Int) := by omega
      clear hx hv hb2 hu hbw
      by_cases s1 : x.s = 0
      · have z1 : (x.s == 0) = true := by simp [s1]
        by_cases s2 : x.l = l
        · have z2 : (x.l.toList == l.toList) = true := by rw [toList_beq]; exact decide_eq_true s2
          have HO : Hid (ofB l x = true) := Lib.hid (by unfold ofB; rw [decide_eq_true s1, decide_eq_true s2]; rfl)
          have HR : Hid (offN (offF xs l y) = (i : Int)) := Lib.hid (by
            have h1 := HF.out
            rw [find_hit9 HV.out (HX.out.trans HO.out) HA.out] at h1
            cases ho : offF xs l y with
            | none => rw [ho] at h1; cases h1
            | some q => rw [ho] at h1; exact (Option.some.inj h1).symm)
          clear s1 s2
          have HBF := Lib.hid (bstep9 HB1.out HB1.out.size HB2.out)
          have d1 : (wr.alloc (.cells #[.string x.t, .string x.l, .int .i64 x.s, .int .i64 x.f, .int .i64 x.u] 30)).cell? ⟨b2, o2 + k, none⟩ = some (.int .i64 (i : Int)) := by
            rw [World.cell?_alloc_lt _ _ ⟨b2, o2 + k, none⟩ (World.block_lt_of_cell? wr _ d0)]; exact d0
          go_wp2_with fail
          go_ret
          exact ⟨by rw [HR.out]; rfl, HBF.out⟩
        · have z2 : (x.l.toList == l.toList) = false := by rw [toList_beq]; exact decide_eq_false s2
          have HO : Hid (ofB l x = false) := Lib.hid (by unfold ofB; rw [decide_eq_false s2, Bool.and_false])
          have HA2 := Lib.hid (take_no9 HV.out (HX.out.trans HO.out) HA.out)
          clear s1 s2
          go_wp2_with fail
          go_roundw
          case rel => exact ⟨k + 1, by omega, by go_num, HA2, HB2.out⟩
          case measure => simp [intOf]; omega
      · have z1 : (x.s == 0) = false := by simp [s1]
        have HO : Hid (ofB l x = false) := Lib.hid (by unfold ofB; rw [decide_eq_false s1]; rfl)
        have HA2 := Lib.hid (take_no9 HV.out (HX.out.trans HO.out) HA.out)
        clear s1
        go_wp2_with fail
        go_roundw
        case rel => exact ⟨k + 1, by omega, by go_num, HA2, HB2.out⟩
        case measure => simp [intOf]; omega
    · have HR : Hid (offN (offF xs l y) = -1) := Lib.hid (by
        have h1 := HF.out
        rw [find_miss9 (k := k) (by have := HM.out; omega) HA.out] at h1
        cases ho : offF xs l y with
        | none => rfl
        | some q => rw [ho] at h1; cases h1)
      go_wp2_with fail
      go_ret
      exact ⟨by rw [HR.out]; rfl, bstep9 HB1.out HB1.out.size hbr⟩

set_option maxHeartbeats 1000000 in
theorem cOff_spec (A : Option Addr) (n c : Nat) (xs : List Nm) (l : ByteArray) (y : Int) (w : World) (hb : n ≤ 1048576) (hz : Sz9 xs) (hl : l.size ≤ maxLen) (h : NmAt w w.heap.size A n xs) :
    Calls Tryd.prog 27 #[.slice A n c, .string l, .int .i64 y] w fun e w' => e = .returned (.tuple #[.int .i64 (offZ xs l y), .int .i64 (offC xs l y)]) ∧ Below w.heap.size w w' := by
  have CC := Lib.hid (cL09Code A n c xs l y w hb hz hl h)
  have CU := Lib.hid (fun W (hW : Below w.heap.size w W) => cL09Off A n c xs l y W hb ((h.below hW (Nat.le_refl _)).more hW.size))
  clear h hz
  obtain ⟨q, hq⟩ : ∃ q, q = qC xs [l] y := ⟨_, rfl⟩
  rw [← hq] at CC
  by_cases h0 : q = 0
  · subst h0
    have HQ := Lib.hid hq.symm
    clear hq
    cases ho : offF xs l y with
    | none =>
      have HZ := Lib.hid (offZ_miss HQ.out ho)
      have HC := Lib.hid (offC_miss HQ.out ho)
      rw [ho] at CU
      dsimp only [offN] at CU
      rw [HZ.out, HC.out]
      clear ho
      go_enter Tryd.func27, Tryd.ntmps27
      go_wp2_with fail
      refine CC.out.mono ?_
      rintro e w1 ⟨rfl, hb1⟩
      go_wp2_with fail
      refine (CU.out _ hb1).mono ?_
      rintro e w2 ⟨rfl, hb2⟩
      go_wp2_with fail
      go_ret2
      exact ⟨rfl, bstep9 hb1 hb1.size hb2⟩
    | some k =>
      have HZ := Lib.hid (offZ_hit HQ.out ho)
      have HC := Lib.hid (offC_hit HQ.out ho)
      rw [ho] at CU
      dsimp only [offN] at CU
      rw [HZ.out, HC.out]
      have u1 : (0 : Int) ≤ (k : Int) := Int.natCast_nonneg _
      clear ho
      go_enter Tryd.func27, Tryd.ntmps27
      go_wp2_with fail
      refine CC.out.mono ?_
      rintro e w1 ⟨rfl, hb1⟩
      go_wp2_with fail
      refine (CU.out _ hb1).mono ?_
      rintro e w2 ⟨rfl, hb2⟩
      go_wp2_with fail
      go_ret2
      exact ⟨rfl, bstep9 hb1 hb1.size hb2⟩
  · have HZ := Lib.hid (offZ_bad (xs := xs) (l := l) (y := y) (by rw [← hq]; exact h0))
    have HC : Hid (offC xs l y = q) := Lib.hid ((offC_bad (by rw [← hq]; exact h0)).trans hq.symm)
    have hd : (q != 0) = true := by simp [h0]
    rw [HZ.out, HC.out]
    clear hq h0
    go_enter Tryd.func27, Tryd.ntmps27
    go_wp2_with fail
    refine CC.out.mono ?_
    rintro e w1 ⟨rfl, hb1⟩
    go_wp2_with fail
    go_ret2
    exact ⟨rfl, hb1⟩
end Go.Proofs.YtjofndiofacjjaaDoor
