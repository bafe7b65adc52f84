/-
  The contracts of spec.l04Code, spec.l04Used and spec.RulesUsed.
-/
import Derived.Test.YtnodnjaajaemcabTableS
import Derived.Test.YtnodnjaajaemcabUsedI
namespace Go.Proofs.Ytnodnjaajaemcab
set_option linter.unusedVariables false
open Go.RowKit

theorem cCode (A A' : Option Addr) (n n' c c' : Nat) (rs : List Ru) (xs : List Int) (w : World) (hb : n ≤ maxLen) (hb' : n' ≤ 1048576) (h : RulesAt w w.heap.size A n rs) (h' : NumAt w w.heap.size A' n' xs) :
    Calls Try.prog 18 #[.slice A n c, .slice A' n' c'] w fun e w' => e = .returned (.int .i64 (if okU rs xs then 0 else 1)) ∧ Below w.heap.size w w' := by
  have CI := Lib.hid (cIsTable_spec A n c _ rs w hb h (Nat.le_refl _))
  have CW := Lib.hid (fun (W : World) (hW : Below w.heap.size w W) => cSigns A' n' c' 12 w.heap.size xs W (by unfold maxLen; omega) (by omega) (h'.below hW (Nat.le_refl _)))
  unfold okU
  cases ha : tableB rs <;> cases hw : signsB 12 xs
  all_goals
    rw [ha] at CI
    rw [hw] at CW
    clear h h' ha hw
    go_enter Try.func18, Try.ntmps18
    go_wp2_with (first
      | (go_at_call 24; refine CI.out.mono ?_; rintro e w1 ⟨rfl, hb1⟩)
      | (go_at_call 30; refine (CW.out _ hb1).mono ?_; rintro e w2 ⟨rfl, rfl⟩))
    go_ret
    exact ⟨rfl, hb1⟩

/-- The best place among the lengths up to m. -/
def bestV (f : List Int → Option Int) (xs : List Int) (m : Nat) : Int := if longU f xs m = 0 then -1 else (f (xs.take (longU f xs m))).getD 0
theorem bestV_zero (f : List Int → Option Int) (xs : List Int) : bestV f xs 0 = -1 := rfl
theorem bestV_yes {f : List Int → Option Int} {xs : List Int} {m : Nat} {v : Int} (h : f (xs.take (m + 1)) = some v) : bestV f xs (m + 1) = v := by
  unfold bestV; rw [longU_yes (by rw [h]; rfl), if_neg (by omega), h]; rfl
theorem bestV_no {f : List Int → Option Int} {xs : List Int} {m : Nat} (h : f (xs.take (m + 1)) = none) : bestV f xs (m + 1) = bestV f xs m := by
  unfold bestV; rw [longU_no (by rw [h]; rfl)]
theorem findK_place (ks : List (List Int)) (x : List Int) : findK ks x = (placeK ks x).getD (-1) := by
  unfold findK placeK; split <;> rfl
theorem placeK_pos {ks : List (List Int)} {x : List Int} {v : Int} (h : placeK ks x = some v) : ∃ q : Nat, v = (q : Int) ∧ q < ks.length ∧ ks[q]? = some x := by
  unfold placeK at h
  split at h
  · rename_i hm
    have := posK_lt ks x hm
    exact ⟨posK ks x, by simpa using h.symm, this.1, this.2⟩
  · cases h
theorem best_end {ks : List (List Int)} {xs : List Int} {m : Nat} (hm : m = min 3 xs.length) : (longF (placeK ks) xs = 0 ∧ bestV (placeK ks) xs m = -1) ∨
    ∃ q : Nat, 0 < longF (placeK ks) xs ∧ bestV (placeK ks) xs m = (q : Int) ∧ longV (placeK ks) xs = (q : Int) ∧ q < ks.length ∧ ks[q]? = some (xs.take (longF (placeK ks) xs)) := by
  subst hm
  rcases Nat.eq_zero_or_pos (longF (placeK ks) xs) with h0 | h0
  · left
    refine ⟨h0, ?_⟩
    unfold bestV; unfold longF at h0; rw [if_pos h0]
  · right
    have hs := longF_some h0
    cases hf : placeK ks (xs.take (longF (placeK ks) xs)) with
    | none => rw [hf] at hs; cases hs
    | some v =>
      obtain ⟨q, rfl, h1, h2⟩ := placeK_pos hf
      refine ⟨q, h0, ?_, ?_, h1, h2⟩
      · unfold bestV
        have e : longU (placeK ks) xs (min 3 xs.length) = longF (placeK ks) xs := rfl
        rw [e, if_neg (by omega), hf]; rfl
      · unfold longV; rw [hf]; rfl

def lenV : Value → Nat
  | .slice _ n _ => n
  | _ => 0
set_option maxHeartbeats 2000000 in
set_option maxRecDepth 100000 in
theorem cUsedS (A : Option Addr) (n c b' o' n' c' : Nat) (rs : List Ru) (xs : List Int) (w : World) (hb : n ≤ 1048576) (hb' : n' ≤ 1048576) (hc : n' ≤ c') (hcm : c' ≤ maxLen) (h : RulesAt w w.heap.size A n rs) (h' : NumAt w w.heap.size (some ⟨b', o', none⟩) n' xs) :
    Calls Try.prog 31 #[.slice A n c, .slice (some ⟨b', o', none⟩) n' c'] w (UsedPost (usedF (placeK (keys rs)) xs) w) := by
  obtain ⟨i0, hi0, hz0, hz1, hz2⟩ := info_parts info_i64
  have HL := Lib.hid h.1
  have HL' := Lib.hid h'.1
  have H := Lib.hid h
  have H' := Lib.hid h'
  have HCM := Lib.hid hcm
  unfold maxLen at hcm
  clear h h'
  go_enter Try.func31, Try.ntmps31
  go_wp2
  go_loopw [1, 6] (fun sv u wr => ∃ (s k : Nat) (acc : List Int) (uv : Value) (a : Option Addr), u = uv ∧ s ≤ n' ∧ sv = .slice a (n' - s) (c' - s) ∧ (s < n' → a = some ⟨b', o' + s, none⟩) ∧ k ≤ s ∧ Hid (k = acc.length) ∧ Hid (Along (placeK (keys rs)) xs (xs.drop s) acc) ∧ wr.ownsRow w.heap.size 2 1 uv k (intV acc) ∧ Below w.heap.size w wr) (fun sv _ _ => lenV sv)
  case atStart => exact ⟨0, 0, [], _, _, rfl, Nat.zero_le _, rfl, fun _ => rfl, Nat.le_refl _, Lib.hid rfl, Lib.hid (Along.start _ xs), World.ownsRow_lit (e := 2) (base := w.heap.size) (size := 1) w #[] 0 (Nat.le_refl _) (by decide) rfl, (Below.refl _ _).alloc (Nat.le_refl _) _⟩
  case round =>
    obtain ⟨s, k, acc, uv, a, rfl, hs, rfl, haa, hks, HM, HA, hown, hbw⟩ := hrel
    by_cases hlt : s < n'
    · obtain rfl := haa hlt
      clear haa
      have hne : xs.drop s ≠ [] := by
        intro e
        have h1 := congrArg List.length e
        rw [List.length_drop, List.length_nil] at h1
        have := HL'.out
        omega
      have HN := Lib.hid (((H'.out.below hbw (Nat.le_refl _)).more hbw.size).rest s (by omega))
      have hle := (longF_le (placeK (keys rs)) (xs.drop s)).2
      have hl3 := (longF_le (placeK (keys rs)) (xs.drop s)).1
      rw [List.length_drop, ← HL'.out] at hle
      have HB := Lib.hid hbw
      have HNE := Lib.hid hne
      have HRL : Hid ((xs.drop s).length = n' - s) := Lib.hid (by rw [List.length_drop, ← HL'.out])
      clear hne hbw
      have e0 : (0 : Int) < ((n' - s : Nat) : Int) := by omega
      have e1 : 0 < n' - s := by omega
      have hNC : n' - s ≤ c' - s := by omega
      have hNb : n' - s ≤ 1048576 := by omega
      have hCb : c' - s ≤ 9223372036854775807 := by omega
      go_wp2
      go_loopw [7, 8] (fun bv mv wi => ∃ (l q : Nat) (B : Int), 1 ≤ l ∧ l ≤ 4 ∧ l ≤ (n' - s) + 1 ∧ mv = .int .i64 l ∧ bv = .int .i64 B ∧ Hid (B = bestV (placeK (keys rs)) (xs.drop s) (l - 1)) ∧ wi = wr.drewN q) (fun _ mv _ => 4 - (intOf mv).toNat)
      case atStart => exact ⟨1, 0, -1, by omega, by omega, by omega, rfl, rfl, Lib.hid rfl, rfl⟩
      case round =>
        obtain ⟨l, q, B, hl1, hl4, hlN, rfl, rfl, HBB, rfl⟩ := hrel
        by_cases hm : l ≤ 3 ∧ l ≤ (n' - s)
        · have hm1 := hm.1
          have hm2 := hm.2
          clear hm
          have u1 : (l : Int) ≤ 3 := by omega
          have u2 : (l : Int) ≤ ((n' - s : Nat) : Int) := by omega
          have u3 : (0 : Int) ≤ (l : Int) := by omega
          have u4 : (l : Int) ≤ ((c' - s : Nat) : Int) := by omega
          have CF2 := Lib.hid (cFindK A (some ⟨b', o' + s, none⟩) n l c (c' - s) w.heap.size wr.heap.size rs ((xs.drop s).take l) (wr.drewN q) (by unfold maxLen; omega) (by unfold maxLen; omega) (H.out.below (below_drewR HB.out q) (Nat.le_refl _)) (NumAt.cut (w := wr.drewN q) HN.out l (by omega)))
          cases hf : placeK (keys rs) ((xs.drop s).take l) with
          | some v =>
            obtain ⟨p, hp, _, _⟩ := placeK_pos hf
            rw [findK_place, hf, hp] at CF2
            have HBV : Hid ((p : Int) = bestV (placeK (keys rs)) (xs.drop s) (l + 1 - 1)) := Lib.hid (by
              obtain ⟨m, rfl⟩ : ∃ m, l = m + 1 := ⟨l - 1, by omega⟩
              rw [Nat.add_sub_cancel, bestV_yes hf, hp])
            have v0 : (0 : Int) ≤ (p : Int) := by omega
            have CF3 := Lib.hid (show Calls Try.prog 25 _ _ (fun e w' => e = .returned (.int .i64 (p : Int)) ∧ ∃ m, w' = (wr.drewN q).drewN m) from CF2.out)
            clear hp hf CF2
            go_wp2_with (go_at_call 25; refine CF3.out.mono ?_; rintro e w1 ⟨rfl, q2, rfl⟩)
            clear CF3 HN HA HNE H H'
            go_roundw
            case rel => exact ⟨l + 1, q + q2, (p : Int), by omega, by omega, by omega, by go_num, rfl, HBV, by simp⟩
            case measure => simp [intOf]; omega
          | none =>
            rw [findK_place, hf] at CF2
            have HBV : Hid (B = bestV (placeK (keys rs)) (xs.drop s) (l + 1 - 1)) := Lib.hid (by
              obtain ⟨m, rfl⟩ : ∃ m, l = m + 1 := ⟨l - 1, by omega⟩
              have := HBB.out
              rw [Nat.add_sub_cancel] at this
              rw [Nat.add_sub_cancel, bestV_no hf]; exact this)
            have CF3 := Lib.hid (show Calls Try.prog 25 _ _ (fun e w' => e = .returned (.int .i64 (-1)) ∧ ∃ m, w' = (wr.drewN q).drewN m) from CF2.out)
            clear hf CF2
            go_wp2_with (go_at_call 25; refine CF3.out.mono ?_; rintro e w1 ⟨rfl, q2, rfl⟩)
            clear CF3 HN HA HNE H H'
            go_roundw
            case rel => exact ⟨l + 1, q + q2, B, by omega, by omega, by omega, by go_num, rfl, HBV, by simp⟩
            case measure => simp [intOf]; omega
        · have hmm : l - 1 = min 3 (xs.drop s).length := by rw [HRL.out]; omega
          have HE := best_end (ks := keys rs) hmm
          rw [← HBB.out] at HE
          have hu : (3 : Int) < (l : Int) ∨ ((l : Int) ≤ 3 ∧ ((n' - s : Nat) : Int) < (l : Int)) := by omega
          rcases HE with ⟨h0, hbv⟩ | ⟨p, h0, hbv, hlv, hpl, hpk⟩
          · have HF := Lib.hid (HA.out.stop HNE.out h0)
            subst hbv
            clear h0 hmm HBB
            rcases hu with hu | ⟨hu, hu'⟩
            all_goals
              go_wp2
              go_ret2
              exact .inl ⟨HF.out, rfl, below_drewR HB.out q⟩
          · have HS := Lib.hid (HA.out.step HNE.out h0)
            obtain ⟨L, hL⟩ : ∃ L, L = longF (placeK (keys rs)) (xs.drop s) := ⟨_, rfl⟩
            rw [hlv] at HS
            rw [← hL] at HS h0 hpk hle hl3
            subst hbv
            obtain ⟨r, hr⟩ : ∃ r, rs[p]? = some r := ⟨rs[p]'(by rw [keys_len] at hpl; exact hpl), List.getElem?_eq_getElem _⟩
            have hr1 : r.1 = (xs.drop s).take L := by have := keys_at hr; rw [hpk] at this; simpa using this.symm
            obtain ⟨b, o, rfl, hbl, hcell⟩ := (H.out.below HB.out (Nat.le_refl _)).row hr
            have hrl : r.1.length = L := by rw [hr1, List.length_take, HRL.out]; omega
            have hpn : p < n := by have := HL.out; rw [keys_len] at hpl; omega
            have HC := Lib.hid hcell
            have HR := Lib.hid hr
            have HRl := Lib.hid hrl
            clear hL hlv HBB hmm hpk hpl hr hr1 hcell hrl
            have p0 : (0 : Int) ≤ (p : Int) := by omega
            have p1 : (p : Int) < (n : Int) := by omega
            rcases hu with hu | ⟨hu, hu'⟩
            all_goals
              go_wp2_with (at_builtin; refine wpList_append_own _ rfl _ _ 23 rfl w.heap.size 2 i0 _ 1 8 Try.underlying23 hi0 hz0 hz1 hz2 rfl (by decide) _ _ _ rfl (World.ownsRow.alloc (w := wr.drewN q) hown _) ⟨wr.heap.size, 0, none⟩ 1 1 [.int .i64 (p : Int)] rfl rfl ?c1 ?c2 ?c3 ?c4 ?c5 ?_)
              case c1 => first
                | exact one_cell' _ _ _ (new_one (wr.drewN q) _ _)
                | (intro j u hju
                   have hh := one_cell' _ _ _ (new_one (wr.drewN q) (.int .i64 (p : Int)) 2) j u hju
                   rw [add_plain', Nat.zero_add] at hh
                   exact hh)
              case c2 => first
                | rfl
                | (intro u hu; simp at hu; subst hu; rfl)
              case c3 => unfold maxLen; omega
              case c4 => omega
              case c5 => have := HB.out.size; simp; omega
              intro v' w1 hown1 hgrow1 _
              rw [intV_snoc] at hown1
              have hb1 : Below w.heap.size w w1 := ((below_drewR HB.out q).alloc HB.out.size _).grown hgrow1 (by have := HB.out.size; simp; omega) (fun x hx => (hown.lt x hx).1)
              obtain ⟨b2, o2, e2, _, A1, n1, c1, k0, _, k2, _, _⟩ := (H.out.below hb1 (Nat.le_refl _)).row HR.out
              obtain ⟨rfl, rfl⟩ : b = b2 ∧ o = o2 := by cases e2; exact ⟨rfl, rfl⟩
              have hn1 : n1 = L := by rw [k2.1, HRl.out]
              subst hn1
              have HD2 : Hid ((xs.drop s).drop n1 = xs.drop (s + n1)) := Lib.hid (by rw [List.drop_drop])
              have HNN : Hid ((n' - s) - n1 = n' - (s + n1)) := Lib.hid (by omega)
              have HCC : Hid ((c' - s) - n1 = c' - (s + n1)) := Lib.hid (by omega)
              have HOO : Hid (o' + s + n1 = o' + (s + n1)) := Lib.hid (by omega)
              have q1 : (n1 : Int) ≤ ((n' - s : Nat) : Int) := by omega
              have q2 : (0 : Int) ≤ (n1 : Int) := by omega
              clear hgrow1 hown e2 k2
              go_wp2
              go_roundw
              case rel => exact ⟨s + n1, k + 1, acc ++ [(p : Int)], v', _, rfl, by omega, by rw [← HNN.out, ← HCC.out], fun hh => by rw [if_neg (by omega), HOO.out], by omega, Lib.hid (by rw [List.length_append, HM.out]; rfl), Lib.hid (by rw [← HD2.out]; exact HS.out), hown1, hb1⟩
              case measure => simp [lenV]; omega
    · have hsn : s = n' := by omega
      have HF : Hid (usedF (placeK (keys rs)) xs = some acc) := Lib.hid (Along.done (by have := HA.out; rwa [List.drop_of_length_le (by have := HL'.out; omega)] at this))
      have e1 : n' - s = 0 := by omega
      rw [e1]
      go_wp2
      go_ret2
      exact .inr ⟨acc, _, HF.out, rfl, by rw [← HM.out]; exact hown, hbw⟩

end Go.Proofs.Ytnodnjaajaemcab
