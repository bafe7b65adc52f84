/-
  The contracts of spec.l09Official and spec.OfficialIn.
-/
import Derived.Test.YthlilfdndpnbkaaGreatDoorOff9
namespace Go.Proofs.YthlilfdndpnbkaaGreatDoor
section
set_option linter.unusedVariables false
open Go.RowKit

theorem numAt_row9 {w : World} {B n : Nat} {A : Option Addr} {xs : List Int} (h : NumAt w B A n xs) {k : Nat} {x : Int} (hx : xs[k]? = some x) :
    ∃ b o, A = some ⟨b, o, none⟩ ∧ b < B ∧ w.cell? ⟨b, o + k, none⟩ = some (.int .i64 x) := by
  have := (List.getElem?_eq_some_iff.1 hx).1
  obtain ⟨b, o, h1, h2, h3⟩ := h.2 (by have := h.1; omega)
  exact ⟨b, o, h1, h2, h3 k x hx⟩
/-- The search over the used ones is the search over all. -/
def okO (xs : List Nm) (l : ByteArray) (v : Int) : Bool := match xs[v.toNat]? with | some x => ofB l x | none => false
theorem us_find (xs : List Nm) (l : ByteArray) (y : Int) : ∀ k, k ≤ xs.length → (usP xs y k).find? (okO xs l) = ((List.range k).find? fun i => match xs[i]? with | some x => ouB l y x | none => false).map Int.ofNat
  | 0, _ => rfl
  | k + 1, h => by
    have ih := us_find xs l y k (by omega)
    obtain ⟨x, hx⟩ : ∃ x, xs[k]? = some x := ⟨xs[k]'(by omega), List.getElem?_eq_getElem _⟩
    rw [List.range_succ, List.find?_append]
    cases hu : usB x y
    · rw [usP_no hx hu, ih]
      have : ([k].find? fun i => match xs[i]? with | some x => ouB l y x | none => false) = none := by simp [hx, ouB, hu]
      rw [this, Option.or_none]
    · rw [usP_yes hx hu, List.find?_append, ih]
      have h1 : ([(k : Int)].find? (okO xs l)) = ([k].find? fun i => match xs[i]? with | some x => ouB l y x | none => false).map Int.ofNat := by
        cases ho : ofB l x <;> simp [okO, hx, ouB, hu, ho]
      rw [h1]
      cases ((List.range k).find? fun i => match xs[i]? with | some x => ouB l y x | none => false) <;> rfl
theorem off_find (xs : List Nm) (l : ByteArray) (y : Int) : (usP xs y xs.length).find? (okO xs l) = (offF xs l y).map Int.ofNat := us_find xs l y xs.length (Nat.le_refl _)
theorem find_hit9 {p : Int → Bool} {u : List Int} {k : Nat} {v : Int} (h : u[k]? = some v) (hp : p v = true) (hn : ∀ z ∈ u.take k, p z = false) : u.find? p = some v := by
  have hk := (List.getElem?_eq_some_iff.1 h).1
  have hv := (List.getElem?_eq_some_iff.1 h).2
  rw [← List.take_append_drop k u, List.find?_append, List.find?_eq_none.2 (fun z hz => by simp [hn z hz]), Option.none_or, List.drop_eq_getElem_cons hk, hv, List.find?_cons_of_pos hp]
theorem find_miss9 {p : Int → Bool} {u : List Int} {k : Nat} (hk : u.length ≤ k) (hn : ∀ z ∈ u.take k, p z = false) : u.find? p = none := by
  rw [List.take_of_length_le hk] at hn
  exact List.find?_eq_none.2 fun z hz => by simp [hn z hz]
theorem take_no9 {p : Int → Bool} {u : List Int} {k : Nat} {v : Int} (h : u[k]? = some v) (hp : p v = false) (hn : ∀ z ∈ u.take k, p z = false) : ∀ z ∈ u.take (k + 1), p z = false := fun z hz => by
  rw [take_snoc9 h, List.mem_append] at hz
  rcases hz with hz | hz
  · exact hn z hz
  · obtain rfl : z = v := by simpa using hz
    exact hp
def offN (o : Option Nat) : Int := match o with | some k => (k : Int) | none => -1

set_option maxHeartbeats 4000000 in
set_option maxRecDepth 100000 in
theorem cL09Off (A : Option Addr) (n c : Nat) (xs : List Nm) (l : ByteArray) (y : Int) (w : World) (hb : n ≤ 1048576) (h : NmAt w w.heap.size A n xs) :
    Calls Tryz.prog 60 #[.slice A n c, .string l, .int .i64 y] w fun e w' => e = .returned (.int .i64 (offN (offF xs l y))) ∧ Below w.heap.size w w' := by
  have CU := Lib.hid (cL09Used A n c xs y w hb h)
  have H := Lib.hid h
  have HN := Lib.hid h.1
  have HF := Lib.hid (off_find xs l y)
  clear h
  go_enter Tryz.func60, Tryz.ntmps60
  go_wp2_with fail
  refine CU.out.mono ?_
  rintro e w1 ⟨U, m, d, rfl, hown, hb1⟩
  rw [HN.out] at hown
  have hU := own_num hown
  have HM : Hid (m = (usP xs y xs.length).length) := Lib.hid hU.1
  have hm9 : m ≤ 1048576 := by have h1 := hU.1; have h2 := usP_len xs y xs.length; have := HN.out; omega
  have HU := Lib.hid hU
  have HME : Hid (∀ (j : Nat) v, (usP xs y xs.length)[j]? = some v → ∃ (i : Nat) (x : Nm), v = (i : Int) ∧ i < n ∧ xs[i]? = some x ∧ usB x y = true) := Lib.hid (fun j v hj => by
    obtain ⟨i, x, h1, h2, h3⟩ := usP_mem xs y xs.length v (List.mem_of_getElem? hj)
    exact ⟨i, x, h1, by have := HN.out; omega, h3⟩)
  have HB1 := Lib.hid hb1
  clear hown hU hb1
  generalize usP xs y xs.length = u at HF HM HU HME
  go_wp2_with fail
  go_loopw [8] (fun i wr => ∃ k : Nat, k ≤ m ∧ i = .int .i64 k ∧ Hid (∀ z ∈ u.take k, okO xs l z = false) ∧ Below w1.heap.size w1 wr) (fun i _ => m - (intOf i).toNat)
  case atStart => exact ⟨0, Nat.zero_le _, rfl, Lib.hid (by simp), Below.refl _ _⟩
  case round =>
    obtain ⟨k, hk, rfl, HA, hbr⟩ := hrel
    by_cases hlt : k < m
    · obtain ⟨v, hv⟩ : ∃ v, u[k]? = some v := ⟨u[k]'(by have := HM.out; omega), List.getElem?_eq_getElem _⟩
      obtain ⟨i, x, rfl, hi, hx, hu⟩ := HME.out k v hv
      have hbw := bstep9 HB1.out HB1.out.size hbr
      obtain ⟨b, o, rfl, hbl, c0, c1, c2, c3, c4⟩ := (H.out.below hbw (Nat.le_refl _)).row hx
      obtain ⟨b2, o2, rfl, hbl2, d0⟩ := numAt_row9 (HU.out.below hbr (Nat.le_refl _)) hv
      have hb2 := hbr.alloc hbr.size (.cells #[.string x.t, .string x.l, .int .i64 x.s, .int .i64 x.f, .int .i64 x.u] 27)
      have HB2 := Lib.hid hb2
      have HX : Hid (okO xs l (i : Int) = ofB l x) := Lib.hid (by simp [okO, hx])
      have HV := Lib.hid hv
      have u1 : (0 : Int) ≤ (k : Int) := Int.natCast_nonneg _
      have u2 : (k : Int) < (m : Int) := by omega
      have u3 : (0 : Int) ≤ (i : Int) := Int.natCast_nonneg _
      have u4 : (i : Int) < (n : Int) := by omega
      clear hx hv hb2 hu hbw
      by_cases s1 : x.s = 0
      · have z1 : (x.s == 0) = true := by simp [s1]
        by_cases s2 : x.l = l
        · have z2 : (x.l.toList == l.toList) = true := by rw [toList_beq]; exact decide_eq_true s2
          have HO : Hid (ofB l x = true) := Lib.hid (by unfold ofB; rw [decide_eq_true s1, decide_eq_true s2]; rfl)
          have HR : Hid (offN (offF xs l y) = (i : Int)) := Lib.hid (by
            have h1 := HF.out
            rw [find_hit9 HV.out (HX.out.trans HO.out) HA.out] at h1
            cases ho : offF xs l y with
            | none => rw [ho] at h1; cases h1
            | some q => rw [ho] at h1; exact (Option.some.inj h1).symm)
          clear s1 s2
          have HBF := Lib.hid (bstep9 HB1.out HB1.out.size HB2.out)
          have d1 : (wr.alloc (.cells #[.string x.t, .string x.l, .int .i64 x.s, .int .i64 x.f, .int .i64 x.u] 27)).cell? ⟨b2, o2 + k, none⟩ = some (.int .i64 (i : Int)) := by
            rw [World.cell?_alloc_lt _ _ ⟨b2, o2 + k, none⟩ (World.block_lt_of_cell? wr _ d0)]; exact d0
          go_wp2_with fail
          go_ret
          exact ⟨by rw [HR.out]; rfl, HBF.out⟩
        · have z2 : (x.l.toList == l.toList) = false := by rw [toList_beq]; exact decide_eq_false s2
          have HO : Hid (ofB l x = false) := Lib.hid (by unfold ofB; rw [decide_eq_false s2, Bool.and_false])
          have HA2 := Lib.hid (take_no9 HV.out (HX.out.trans HO.out) HA.out)
          clear s1 s2
          go_wp2_with fail
          go_roundw
          case rel => exact ⟨k + 1, by omega, by go_num, HA2, HB2.out⟩
          case measure => simp [intOf]; omega
      · have z1 : (x.s == 0) = false := by simp [s1]
        have HO : Hid (ofB l x = false) := Lib.hid (by unfold ofB; rw [decide_eq_false s1]; rfl)
        have HA2 := Lib.hid (take_no9 HV.out (HX.out.trans HO.out) HA.out)
        clear s1
        go_wp2_with fail
        go_roundw
        case rel => exact ⟨k + 1, by omega, by go_num, HA2, HB2.out⟩
        case measure => simp [intOf]; omega
    · have HR : Hid (offN (offF xs l y) = -1) := Lib.hid (by
        have h1 := HF.out
        rw [find_miss9 (k := k) (by have := HM.out; omega) HA.out] at h1
        cases ho : offF xs l y with
        | none => rfl
        | some q => rw [ho] at h1; cases h1)
      go_wp2_with fail
      go_ret
      exact ⟨by rw [HR.out]; rfl, bstep9 HB1.out HB1.out.size hbr⟩

set_option maxHeartbeats 1000000 in
theorem cOff_spec (A : Option Addr) (n c : Nat) (xs : List Nm) (l : ByteArray) (y : Int) (w : World) (hb : n ≤ 1048576) (hz : Sz9 xs) (hl : l.size ≤ maxLen) (h : NmAt w w.heap.size A n xs) :
    Calls Tryz.prog 22 #[.slice A n c, .string l, .int .i64 y] w fun e w' => e = .returned (.tuple #[.int .i64 (offZ xs l y), .int .i64 (offC xs l y)]) ∧ Below w.heap.size w w' := by
  have CC := Lib.hid (cL09Code A n c xs l y w hb hz hl h)
  have CU := Lib.hid (fun W (hW : Below w.heap.size w W) => cL09Off A n c xs l y W hb ((h.below hW (Nat.le_refl _)).more hW.size))
  clear h hz
  obtain ⟨q, hq⟩ : ∃ q, q = qC xs [l] y := ⟨_, rfl⟩
  rw [← hq] at CC
  by_cases h0 : q = 0
  · subst h0
    have HQ := Lib.hid hq.symm
    clear hq
    cases ho : offF xs l y with
    | none =>
      have HZ := Lib.hid (offZ_miss HQ.out ho)
      have HC := Lib.hid (offC_miss HQ.out ho)
      rw [ho] at CU
      dsimp only [offN] at CU
      rw [HZ.out, HC.out]
      clear ho
      go_enter Tryz.func22, Tryz.ntmps22
      go_wp2_with fail
      refine CC.out.mono ?_
      rintro e w1 ⟨rfl, hb1⟩
      go_wp2_with fail
      refine (CU.out _ hb1).mono ?_
      rintro e w2 ⟨rfl, hb2⟩
      go_wp2_with fail
      go_ret2
      exact ⟨rfl, bstep9 hb1 hb1.size hb2⟩
    | some k =>
      have HZ := Lib.hid (offZ_hit HQ.out ho)
      have HC := Lib.hid (offC_hit HQ.out ho)
      rw [ho] at CU
      dsimp only [offN] at CU
      rw [HZ.out, HC.out]
      have u1 : (0 : Int) ≤ (k : Int) := Int.natCast_nonneg _
      clear ho
      go_enter Tryz.func22, Tryz.ntmps22
      go_wp2_with fail
      refine CC.out.mono ?_
      rintro e w1 ⟨rfl, hb1⟩
      go_wp2_with fail
      refine (CU.out _ hb1).mono ?_
      rintro e w2 ⟨rfl, hb2⟩
      go_wp2_with fail
      go_ret2
      exact ⟨rfl, bstep9 hb1 hb1.size hb2⟩
  · have HZ := Lib.hid (offZ_bad (xs := xs) (l := l) (y := y) (by rw [← hq]; exact h0))
    have HC : Hid (offC xs l y = q) := Lib.hid ((offC_bad (by rw [← hq]; exact h0)).trans hq.symm)
    have hd : (q != 0) = true := by simp [h0]
    rw [HZ.out, HC.out]
    clear hq h0
    go_enter Tryz.func22, Tryz.ntmps22
    go_wp2_with fail
    refine CC.out.mono ?_
    rintro e w1 ⟨rfl, hb1⟩
    go_wp2_with fail
    go_ret2
    exact ⟨rfl, hb1⟩
end
section
set_option linter.unusedVariables false
open Go.RowKit

theorem cl_symm (x y : Nm) : clB x y = clB y x := by
  unfold clB meetB
  rw [show decide (x.l = y.l) = decide (y.l = x.l) from by rw [decide_eq_decide]; exact eq_comm]
  cases decide (x.s = 0) <;> cases decide (y.s = 0) <;> cases decide (y.l = x.l) <;> cases decide (x.f ≤ y.u) <;> cases decide (y.f ≤ x.u) <;> rfl
theorem cl_mono {x a b : Nm} (h : clB x b = false) (h1 : x.s = 0) (h3 : a.l = x.l) (h4 : x.f ≤ a.f) (h5 : a.u ≤ x.u) : clB a b = false := by
  cases hc : clB a b
  · rfl
  · unfold clB meetB at hc
    simp at hc
    have : clB x b = true := by
      unfold clB meetB
      simp
      exact ⟨⟨⟨h1, hc.1.1.2⟩, h3 ▸ hc.1.2⟩, by omega, by omega⟩
    rw [this] at h; cases h
theorem good9_two {xs : List Nm} (h : Good xs) {i j : Nat} {a b : Nm} (hij : i ≠ j) (ha : xs[i]? = some a) (hb : xs[j]? = some b) : clB a b = false := by
  have key : ∀ {i j : Nat} {a b : Nm}, i < j → xs[i]? = some a → xs[j]? = some b → clB b a = false := fun hlt ha hb =>
    (h _ _ hb).2 _ (List.mem_of_getElem? (by rw [List.getElem?_take, if_pos hlt]; exact ha))
  rcases Nat.lt_or_gt_of_ne hij with h1 | h1
  · rw [cl_symm]; exact key h1 ha hb
  · exact key h1 hb ha
theorem good9_mk {xs : List Nm} (h1 : ∀ (i : Nat) a, xs[i]? = some a → nmB a = true) (h2 : ∀ (i j : Nat) a b, i < j → xs[i]? = some a → xs[j]? = some b → clB b a = false) : Good xs := fun k x hx => by
  refine ⟨h1 k x hx, fun y hy => ?_⟩
  obtain ⟨i, hi⟩ := List.mem_iff_getElem?.1 hy
  rw [List.getElem?_take] at hi
  split at hi
  · rename_i hlt; exact h2 i k y x hlt hi hx
  · cases hi
def oldN (x : Nm) (y : Int) : Nm := ⟨x.t, x.l, x.s, x.f, y - 1⟩
def newN (t l : ByteArray) (y u : Int) : Nm := ⟨t, l, 0, y, u⟩
/-- The list without the old name, or with its end. -/
def rnB (xs : List Nm) (k : Nat) (x : Nm) (y : Int) : List Nm := if x.f = y then xs.eraseIdx k else xs.set k (oldN x y)
def rnL (xs : List Nm) (k : Nat) (x : Nm) (y : Int) (t l : ByteArray) : List Nm := rnB xs k x y ++ [newN t l y x.u]
theorem rnB_at {xs : List Nm} {k : Nat} {x : Nm} {y : Int} (hk : xs[k]? = some x) {j : Nat} {b : Nm} (h : (rnB xs k x y)[j]? = some b) : (b = oldN x y ∧ j = k ∧ ¬ x.f = y) ∨ ∃ i, i ≠ k ∧ xs[i]? = some b ∧ ((x.f = y ∧ i = if j < k then j else j + 1) ∨ (¬ x.f = y ∧ i = j)) := by
  unfold rnB at h
  have hkl := (List.getElem?_eq_some_iff.1 hk).1
  by_cases hf : x.f = y
  · rw [if_pos hf, List.getElem?_eraseIdx] at h
    refine .inr ⟨if j < k then j else j + 1, ?_, ?_, .inl ⟨hf, rfl⟩⟩
    · split <;> omega
    · split at h
      · rename_i hl; rw [if_pos hl]; exact h
      · rename_i hl; rw [if_neg hl]; exact h
  · rw [if_neg hf, List.getElem?_set] at h
    by_cases hj : k = j
    · rw [if_pos hj, if_pos hkl] at h
      exact .inl ⟨(Option.some.inj h).symm, hj.symm, hf⟩
    · rw [if_neg hj] at h
      exact .inr ⟨j, fun e => hj e.symm, h, .inr ⟨hf, rfl⟩⟩
theorem rn_good {xs : List Nm} {k : Nat} {x : Nm} {y : Int} {t l : ByteArray} (h : Good xs) (hk : xs[k]? = some x) (ho : ouB l y x = true) (ht : phraseB t = true) (hl : langB l = true) (hy : yrB y = true) : Good (rnL xs k x y t l) := by
  unfold ouB ofB usB at ho
  simp at ho
  obtain ⟨⟨hs, hxl⟩, hu1, hu2⟩ := ho
  unfold yrB at hy
  simp at hy
  obtain ⟨p1, p2, p3, p4, p5⟩ := nm_parts (h k x hk).1
  have hbd := spB_bd p5
  have hnw : nmB (newN t l y x.u) = true := by
    unfold nmB newN
    dsimp only
    rw [ht, hl, spB_mk (by omega) (by omega) (by omega)]; rfl
  have hold : ¬ x.f = y → nmB (oldN x y) = true := fun hf => by
    unfold nmB oldN
    dsimp only
    rw [p1, p2, decide_eq_true p3, decide_eq_true p4, spB_mk (by omega) (by omega) (by omega)]; rfl
  have hon : clB (newN t l y x.u) (oldN x y) = false := by
    unfold clB meetB newN oldN
    dsimp only
    rw [decide_eq_false (show ¬ y ≤ y - 1 by omega)]; simp
  have hother : ∀ {i : Nat} {b : Nm}, i ≠ k → xs[i]? = some b → clB x b = false := fun hi hb => good9_two h (Ne.symm hi) hk hb
  have hnb : ∀ {i : Nat} {b : Nm}, i ≠ k → xs[i]? = some b → clB (newN t l y x.u) b = false := fun hi hb => cl_mono (hother hi hb) hs hxl.symm hu1 (Int.le_refl _)
  have hob : ∀ {i : Nat} {b : Nm}, i ≠ k → xs[i]? = some b → clB (oldN x y) b = false := fun hi hb => cl_mono (hother hi hb) hs rfl (Int.le_refl _) (show y - 1 ≤ x.u by omega)
  have hin : ∀ {j : Nat} {b : Nm}, (rnL xs k x y t l)[j]? = some b → (j = (rnB xs k x y).length ∧ b = newN t l y x.u) ∨ (j < (rnB xs k x y).length ∧ (rnB xs k x y)[j]? = some b) := fun {j b} hb => by
    unfold rnL at hb
    by_cases hj : j < (rnB xs k x y).length
    · rw [List.getElem?_append_left hj] at hb; exact .inr ⟨hj, hb⟩
    · rw [List.getElem?_append_right (by omega)] at hb
      have hj2 := (List.getElem?_eq_some_iff.1 hb).1
      simp at hj2
      have he : j = (rnB xs k x y).length := by omega
      subst he
      simp at hb
      exact .inl ⟨rfl, hb.symm⟩
  refine good9_mk (fun j b hb => ?_) (fun i j a b hij ha hb => ?_)
  · rcases hin hb with ⟨_, rfl⟩ | ⟨_, hb⟩
    · exact hnw
    · rcases rnB_at hk hb with ⟨rfl, _, hf⟩ | ⟨i, _, hi, _⟩
      · exact hold hf
      · exact (h i b hi).1
  · rcases hin ha with ⟨ea, rfl⟩ | ⟨_, ha⟩
    · rcases hin hb with ⟨eb, _⟩ | ⟨lb, _⟩ <;> omega
    · rcases hin hb with ⟨eb, rfl⟩ | ⟨_, hb⟩
      · rcases rnB_at hk ha with ⟨rfl, _, _⟩ | ⟨i', hi', hi2, _⟩
        · exact hon
        · exact hnb hi' hi2
      · rcases rnB_at hk ha with ⟨rfl, ja, fa⟩ | ⟨i', hi', hi2, hia⟩
        · rcases rnB_at hk hb with ⟨_, jb, _⟩ | ⟨j', hj', hj2, _⟩
          · omega
          · rw [cl_symm]; exact hob hj' hj2
        · rcases rnB_at hk hb with ⟨rfl, jb, fb⟩ | ⟨j', hj', hj2, hjb⟩
          · exact hob hi' hi2
          · refine good9_two h (fun e => ?_) hj2 hi2
            rcases hia with ⟨h1, h2⟩ | ⟨h1, h2⟩ <;> rcases hjb with ⟨h3, h4⟩ | ⟨h3, h4⟩
            · split at h2 <;> split at h4 <;> omega
            · exact h3 h1
            · exact h1 h3
            · omega
theorem rnB_len {xs : List Nm} {k : Nat} {x : Nm} {y : Int} (hk : k < xs.length) : (rnB xs k x y).length ≤ xs.length := by
  unfold rnB; split
  · rw [List.length_eraseIdx_of_lt hk]; omega
  · rw [List.length_set]; exact Nat.le_refl _
/-- What is left of the first i names. -/
def rnP (xs : List Nm) (k : Nat) (y : Int) : Nat → List Nm
  | 0 => []
  | i + 1 => rnP xs k y i ++ (match xs[i]? with | some z => if i = k then (if z.f = y then [] else [oldN z y]) else [z] | none => [])
theorem rnP_other {xs : List Nm} {k : Nat} {y : Int} {i : Nat} {z : Nm} (h : xs[i]? = some z) (hi : ¬ i = k) : rnP xs k y (i + 1) = rnP xs k y i ++ [z] := by
  show rnP xs k y i ++ _ = _; rw [h]; simp [hi]
theorem rnP_drop {xs : List Nm} {k : Nat} {y : Int} {z : Nm} (h : xs[k]? = some z) (hf : z.f = y) : rnP xs k y (k + 1) = rnP xs k y k := by
  show rnP xs k y k ++ _ = _; rw [h]; simp [hf]
theorem rnP_end {xs : List Nm} {k : Nat} {y : Int} {z : Nm} (h : xs[k]? = some z) (hf : ¬ z.f = y) : rnP xs k y (k + 1) = rnP xs k y k ++ [oldN z y] := by
  show rnP xs k y k ++ _ = _; rw [h]; simp [hf]
theorem rnP_le (xs : List Nm) (k : Nat) (y : Int) : ∀ i, i ≤ k → i ≤ xs.length → rnP xs k y i = xs.take i
  | 0, _, _ => by simp [rnP]
  | i + 1, h, hl => by
    have hx : xs[i]? = some xs[i] := List.getElem?_eq_getElem (by omega)
    rw [rnP_other hx (by omega), rnP_le xs k y i (by omega) (by omega), take_snoc9 hx]
theorem rnP_gt {xs : List Nm} {k : Nat} {x : Nm} {y : Int} (hk : xs[k]? = some x) : ∀ i, k < i → i ≤ xs.length → rnP xs k y i = rnB (xs.take i) k x y
  | 0, h, _ => by omega
  | i + 1, h, hl => by
    have hx : xs[i]? = some xs[i] := List.getElem?_eq_getElem (by omega)
    have hlt : (xs.take i).length = i := by rw [List.length_take]; omega
    by_cases hik : i = k
    · subst hik
      rw [take_snoc9 hk]
      unfold rnB
      by_cases hf : x.f = y
      · rw [rnP_drop hk hf, if_pos hf, rnP_le xs i y i (Nat.le_refl _) (by omega), List.eraseIdx_append_of_length_le (by omega), hlt, Nat.sub_self]; simp
      · rw [rnP_end hk hf, if_neg hf, rnP_le xs i y i (Nat.le_refl _) (by omega), List.set_append_right _ _ (by omega), hlt, Nat.sub_self]; rfl
    · rw [rnP_other hx hik, rnP_gt hk i (by omega) (by omega), take_snoc9 hx]
      unfold rnB
      split
      · rw [List.eraseIdx_append_of_lt_length (by omega)]
      · rw [List.set_append_left _ _ (by omega)]
theorem rnP_all {xs : List Nm} {k : Nat} {x : Nm} {y : Int} (hk : xs[k]? = some x) : rnP xs k y xs.length = rnB xs k x y := by
  rw [rnP_gt hk xs.length (List.getElem?_eq_some_iff.1 hk).1 (Nat.le_refl _), List.take_length]
theorem rnP_len (xs : List Nm) (k : Nat) (y : Int) : ∀ i, (rnP xs k y i).length ≤ i
  | 0 => Nat.le_refl _
  | i + 1 => by
    have ih := rnP_len xs k y i
    show (rnP xs k y i ++ _).length ≤ _
    rw [List.length_append]
    split
    · split
      · split <;> simp <;> omega
      · simp; omega
    · simp; omega

open Classical in
/-- The code and the list of a renaming. -/
noncomputable def rnC (xs : List Nm) (l : ByteArray) (y : Int) (t : ByteArray) : Int := if phraseB t = true then (if offC xs l y = 0 then (if ∃ k x, offF xs l y = some k ∧ xs[k]? = some x ∧ (rnL xs k x y t l).length ≤ 12 then 0 else 3) else offC xs l y) else 1
open Classical in
noncomputable def rnZ (xs : List Nm) (l : ByteArray) (y : Int) (t : ByteArray) : List Nm := if rnC xs l y t = 0 then (match offF xs l y with | some k => (match xs[k]? with | some x => rnL xs k x y t l | none => []) | none => []) else []
theorem rnC_text {xs : List Nm} {l t : ByteArray} {y : Int} (h : phraseB t = false) : rnC xs l y t = 1 := by unfold rnC; rw [if_neg (by simp [h])]
theorem rnC_off {xs : List Nm} {l t : ByteArray} {y : Int} (h : phraseB t = true) (ho : offC xs l y ≠ 0) : rnC xs l y t = offC xs l y := by unfold rnC; rw [if_pos h, if_neg ho]
theorem rnC_many {xs : List Nm} {l t : ByteArray} {y : Int} {k : Nat} {x : Nm} (h : phraseB t = true) (ho : offC xs l y = 0) (hk : offF xs l y = some k) (hx : xs[k]? = some x) (hl : 12 < (rnL xs k x y t l).length) : rnC xs l y t = 3 := by
  unfold rnC; rw [if_pos h, if_pos ho, if_neg]
  rintro ⟨k', x', h1, h2, h3⟩
  rw [hk] at h1; obtain rfl := Option.some.inj h1
  rw [hx] at h2; obtain rfl := Option.some.inj h2
  omega
theorem rnC_ok {xs : List Nm} {l t : ByteArray} {y : Int} {k : Nat} {x : Nm} (h : phraseB t = true) (ho : offC xs l y = 0) (hk : offF xs l y = some k) (hx : xs[k]? = some x) (hl : (rnL xs k x y t l).length ≤ 12) : rnC xs l y t = 0 := by
  unfold rnC; rw [if_pos h, if_pos ho, if_pos ⟨k, x, hk, hx, hl⟩]
theorem rnZ_no {xs : List Nm} {l t : ByteArray} {y : Int} (h : rnC xs l y t ≠ 0) : rnZ xs l y t = [] := by unfold rnZ; rw [if_neg h]
theorem rnZ_ok {xs : List Nm} {l t : ByteArray} {y : Int} {k : Nat} {x : Nm} (h : rnC xs l y t = 0) (hk : offF xs l y = some k) (hx : xs[k]? = some x) : rnZ xs l y t = rnL xs k x y t l := by
  unfold rnZ; rw [if_pos h, hk]; simp only; rw [hx]
theorem offC_zero {xs : List Nm} {l : ByteArray} {y : Int} (h : offC xs l y = 0) : qC xs [l] y = 0 ∧ ∃ k, offF xs l y = some k := by
  by_cases hq : qC xs [l] y = 0
  · refine ⟨hq, ?_⟩
    cases ho : offF xs l y with
    | none => rw [offC_miss hq ho] at h; omega
    | some k => exact ⟨k, rfl⟩
  · rw [offC_bad hq] at h; exact absurd h hq
theorem qC_zero {xs : List Nm} {l : ByteArray} {y : Int} (h : qC xs [l] y = 0) : namesB xs = true ∧ langB l = true ∧ yrB y = true := by
  rcases qC_cases xs [l] y with ⟨hq, _⟩ | ⟨hq, _⟩ | ⟨hq, _⟩ | ⟨_, e1, e2, e3⟩
  · omega
  · omega
  · omega
  · exact ⟨e1, by simpa using e2, e3⟩
theorem rnZ_len (xs : List Nm) (l : ByteArray) (y : Int) (t : ByteArray) : (rnZ xs l y t).length ≤ 1048576 := by
  by_cases h : rnC xs l y t = 0
  · have h2 := h
    unfold rnC at h2
    split at h2
    · rename_i hp
      split at h2
      · rename_i ho
        split at h2
        · rename_i he
          obtain ⟨k, x, h3, h4, h5⟩ := he
          rw [rnZ_ok h h3 h4]; omega
        · omega
      · rename_i ho; exact absurd h2 ho
    · omega
  · rw [rnZ_no h]; simp
end
end Go.Proofs.YthlilfdndpnbkaaGreatDoor
