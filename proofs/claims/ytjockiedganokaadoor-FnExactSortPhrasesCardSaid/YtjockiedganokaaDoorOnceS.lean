/-
  The contracts of spec.l06Lists, spec.l06Once and spec.l06Compare: the order of two phrases.
-/
import Derived.Test.YtjockiedganokaaDoorSplg
import Derived.Deep.RegionWith
namespace Go.Proofs.YtjockiedganokaaDoor
set_option linter.unusedVariables false
open Go.RowKit

theorem dr2 (w : World) (a b : Nat) : ∃ q, (w.drewN a).drewN b = w.drewN q := ⟨a + b, by rw [World.drewN_drewN]⟩
theorem dr3 (w : World) (a b c : Nat) : ∃ q, ((w.drewN a).drewN b).drewN c = w.drewN q := ⟨a + b + c, by rw [World.drewN_drewN, World.drewN_drewN, Nat.add_assoc]⟩

set_option maxHeartbeats 1000000 in
set_option maxRecDepth 100000 in
theorem cLists6 (A A' : Option Addr) (n n' c c' B B' : Nat) (k k' : List Int) (w : World) (hn : n ≤ 1000) (hn' : n' ≤ 1000) (h : NumAt w B A n k) (h' : NumAt w B' A' n' k') :
    Calls Tryd.prog 52 #[.slice A n c, .slice A' n' c'] w fun e w' => e = .returned (.int .i64 (cmpL k k')) ∧ ∃ q, w' = w.drewN q := by
  have H := Lib.hid h
  have H' := Lib.hid h'
  have HN := Lib.hid h.1
  have HN' := Lib.hid h'.1
  clear h h'
  go_enter Tryd.func52, Tryd.ntmps52
  go_wp2_with fail
  go_loopw [5] (fun i wr => ∃ j m : Nat, j ≤ n ∧ j ≤ n' ∧ i = .int .i64 j ∧ Hid (cmpL k k' = cmpL (k.drop j) (k'.drop j)) ∧ wr = w.drewN m) (fun i _ => n - (intOf i).toNat)
  case atStart => exact ⟨0, 0, Nat.zero_le _, Nat.zero_le _, rfl, Lib.hid rfl, rfl⟩
  case round =>
    obtain ⟨j, m, hj, hj', rfl, HA, rfl⟩ := hrel
    by_cases hlt : j < n
    · by_cases hlt' : j < n'
      · obtain ⟨x, hx⟩ : ∃ x, k[j]? = some x := ⟨k[j]'(by have := HN.out; omega), List.getElem?_eq_getElem _⟩
        obtain ⟨y, hy⟩ : ∃ y, k'[j]? = some y := ⟨k'[j]'(by have := HN'.out; omega), List.getElem?_eq_getElem _⟩
        obtain ⟨b, o, rfl, _, hcx⟩ := H.out.row hx
        obtain ⟨b', o', rfl, _, hcy⟩ := H'.out.row hy
        have hst := cmpL_step k k' j x y hx hy
        have e1 : (0 : Int) ≤ (j : Int) := Int.natCast_nonneg _
        have e2 : (j : Int) < (n : Int) := by omega
        have e3 : (j : Int) < (n' : Int) := by omega
        clear hx hy
        by_cases h1 : x < y
        · rw [if_pos h1] at hst
          have HR := Lib.hid (HA.out.trans hst)
          clear hst
          go_wp2_with fail
          go_quiet (fail)
          go_wp2_with fail
          go_ret
          exact ⟨by rw [HR.out]; rfl, by first | exact ⟨_, rfl⟩ | exact dr2 _ _ _ | exact dr3 _ _ _ _⟩
        · by_cases h2 : y < x
          · rw [if_neg h1, if_pos h2] at hst
            have HR := Lib.hid (HA.out.trans hst)
            clear hst
            go_wp2_with fail
            go_quiet (fail)
            go_wp2_with fail
            go_quiet (fail)
            go_wp2_with fail
            go_ret
            exact ⟨by rw [HR.out]; rfl, by first | exact ⟨_, rfl⟩ | exact dr2 _ _ _ | exact dr3 _ _ _ _⟩
          · rw [if_neg h1, if_neg h2] at hst
            have HR := Lib.hid (HA.out.trans hst)
            clear hst
            go_wp2_with fail
            go_quiet (fail)
            go_wp2_with fail
            go_quiet (fail)
            go_wp2_with fail
            go_roundw
            case rel => exact ⟨j + 1, _, by omega, by omega, by go_num, HR, rfl⟩
            case measure => simp [intOf]; omega
      · have hend := cmpL_end k k' j (.inr (by have := HN'.out; omega)) (by have := HN.out; omega) (by have := HN'.out; omega)
        rw [if_neg (by have := HN.out; have := HN'.out; omega), if_pos (by have := HN.out; have := HN'.out; omega)] at hend
        have HR := Lib.hid (HA.out.trans hend)
        have hg : ¬ n < n' := by omega
        have hg2 : n' < n := by omega
        clear hend
        go_wp2_with fail
        go_ret
        exact ⟨by rw [HR.out]; rfl, by first | exact ⟨_, rfl⟩ | exact dr2 _ _ _ | exact dr3 _ _ _ _⟩
    · have hend := cmpL_end k k' j (.inl (by have := HN.out; omega)) (by have := HN.out; omega) (by have := HN'.out; omega)
      by_cases hnn : n < n'
      · rw [if_pos (by have := HN.out; have := HN'.out; omega)] at hend
        have HR := Lib.hid (HA.out.trans hend)
        clear hend
        go_wp2_with fail
        go_ret
        exact ⟨by rw [HR.out]; rfl, by first | exact ⟨_, rfl⟩ | exact dr2 _ _ _ | exact dr3 _ _ _ _⟩
      · have hg2 : ¬ n' < n := by omega
        rw [if_neg (by have := HN.out; have := HN'.out; omega), if_neg (by have := HN.out; have := HN'.out; omega)] at hend
        have HR := Lib.hid (HA.out.trans hend)
        clear hend
        go_wp2_with fail
        go_ret
        exact ⟨by rw [HR.out]; rfl, by first | exact ⟨_, rfl⟩ | exact dr2 _ _ _ | exact dr3 _ _ _ _⟩
theorem IRow.num {w : World} {v : Value} {k : List Int} (h : IRow w v k) : ∃ A c, v = .slice A k.length c ∧ NumAt w w.heap.size A k.length k := by
  obtain ⟨A, c, rfl⟩ := irow_form h
  refine ⟨A, c, rfl, rfl, fun hp => ?_⟩
  obtain ⟨g, cc, hv, _, hgl⟩ := World.ownsRow.form h hp
  injection hv with e1 e2 e3
  exact ⟨g, 0, e1, hgl, fun j x hx => by
    rw [Nat.zero_add]
    exact (World.ownsRow.cellAt (e1 ▸ h) j (by have := (List.getElem?_eq_some_iff.1 hx).1; omega)).trans (intV_at _ _ _ hx)⟩
theorem kept_len (xs : List ByteArray) (ig : List Int) (y : ByteArray) : (keptW xs ig y).length ≤ y.size := by
  have h1 := idx_len xs y
  have h2 : (keptW xs ig y).length ≤ (idxL xs y).length := List.length_filter_le _ _
  omega

set_option maxHeartbeats 4000000 in
set_option maxRecDepth 100000 in
theorem cOnce6 (A A2 : Option Addr) (n n2 c c2 : Nat) (xs : List ByteArray) (s t : ByteArray) (ig : List Int) (w : World) (ha : alphaB xs = true) (h : TextAt w w.heap.size A n xs) (hs : s.size ≤ 1048576) (ht : t.size ≤ 1048576) (hp : phraseB s = true) (hp' : phraseB t = true) (hc : canP xs s = true) (hc' : canP xs t = true) (h2 : NumAt w w.heap.size A2 n2 ig) (hb2 : n2 ≤ maxLen) :
    Calls Tryd.prog 83 #[.slice A n c, .string s, .string t, .slice A2 n2 c2] w fun e w' => e = .returned (.int .i64 (cmpLL (keptP xs ig s) (keptP xs ig t))) ∧ Below w.heap.size w w' := by
  have CS := Lib.hid (cSplg A A2 n n2 c c2 xs s ig w ha h hs hp hc h2 hb2)
  have CT : Hid (∀ W, Below w.heap.size w W → Calls Tryd.prog 60 #[.slice A n c, .string t, .slice A2 n2 c2] W (SplgPost (keptP xs ig t) W)) := Lib.hid (fun W hW => cSplg A A2 n n2 c c2 xs t ig W ha ((h.below hW (Nat.le_refl _)).more hW.size) ht hp' hc' ((h2.below hW (Nat.le_refl _)).more hW.size) hb2)
  have hlen : ∀ u, phraseB u = true → (keptP xs ig u).length ≤ 8 ∧ ∀ k ∈ keptP xs ig u, k.length ≤ 16 := fun u hu => by
    have hpx := phrase_parts u hu
    have hwd := words_le _ hpx.1
    unfold keptP
    refine ⟨by rw [List.length_map]; exact hpx.2.1, fun k hk => ?_⟩
    rw [List.mem_map] at hk
    obtain ⟨y, hy, rfl⟩ := hk
    have h1 := kept_len xs ig y
    have h2 := hwd y hy
    omega
  have hX := hlen s hp
  have hY := hlen t hp'
  clear hlen h h2 hp hp' hc hc'
  obtain ⟨X, hXe⟩ : ∃ X, X = keptP xs ig s := ⟨_, rfl⟩
  obtain ⟨Y, hYe⟩ : ∃ Y, Y = keptP xs ig t := ⟨_, rfl⟩
  rw [← hXe] at CS hX ⊢
  rw [← hYe] at CT hY ⊢
  clear hXe hYe
  have HXK := Lib.hid hX.2
  have HYK := Lib.hid hY.2
  have hx8 := hX.1
  have hy8 := hY.1
  clear hX hY
  obtain ⟨m, hm⟩ : ∃ m, m = X.length := ⟨_, rfl⟩
  obtain ⟨m', hm'⟩ : ∃ m', m' = Y.length := ⟨_, rfl⟩
  have HM := Lib.hid hm
  have HM' := Lib.hid hm'
  rw [← hm] at hx8
  rw [← hm'] at hy8
  clear hm hm'
  go_enter Tryd.func83, Tryd.ntmps83
  go_wp2_with fail
  refine CS.out.mono ?_
  rintro e w1 ⟨v, vs, rfl, hown, hir, hb1⟩
  go_wp2_with fail
  refine (CT.out _ hb1).mono ?_
  rintro e w2 ⟨v', vs', rfl, hown', hir', hb2'⟩
  rw [← HM.out] at hown
  rw [← HM'.out] at hown'
  have hownk := hown.kept (bgr hb2' none) (by rcases hh : v.ownBlock with _ | q; exact .inl rfl; exact .inr (by simp))
  have hir1 := hir.below hb2'
  have hvf : (∃ C cc, v = .slice C m cc) ∧ ∃ C cc, v' = .slice C m' cc := by
    constructor
    · rcases hown.2 with ⟨rfl, h0⟩ | ⟨g, cap, cur, rfl, _⟩
      · exact ⟨none, 0, by rw [h0]⟩
      · exact ⟨_, _, rfl⟩
    · rcases hown'.2 with ⟨rfl, h0⟩ | ⟨g, cap, cur, rfl, _⟩
      · exact ⟨none, 0, by rw [h0]⟩
      · exact ⟨_, _, rfl⟩
  obtain ⟨⟨C, cc, rfl⟩, C', cc', rfl⟩ := hvf
  have hb12 := hb1.trans (hb2'.mono hb1.size)
  -- what stands at place j
  have HX : Hid (∀ (j : Nat) k, X[j]? = some k → ∃ g A c, C = some ⟨g, 0, none⟩ ∧ w2.cell? ⟨g, j, none⟩ = some (.slice A k.length c) ∧ NumAt w2 w2.heap.size A k.length k) := Lib.hid (fun j k hk => by
    have hj := (List.getElem?_eq_some_iff.1 hk).1
    obtain ⟨g, cg, hv, _, hgl⟩ := World.ownsRow.form hownk (by have := HM.out; omega)
    injection hv with e1 e2 e3
    have hjv : j < vs.length := by have := hir1.1; omega
    obtain ⟨A, c, hu, hnum⟩ := (hir1.2 j _ k (List.getElem?_eq_getElem hjv) hk).num
    refine ⟨g, A, c, e1, ?_, hnum⟩
    subst e1
    rw [hownk.cellAt j (by have := HM.out; omega), List.getElem?_eq_getElem hjv, hu])
  have HY : Hid (∀ (j : Nat) k, Y[j]? = some k → ∃ g A c, C' = some ⟨g, 0, none⟩ ∧ w2.cell? ⟨g, j, none⟩ = some (.slice A k.length c) ∧ NumAt w2 w2.heap.size A k.length k) := Lib.hid (fun j k hk => by
    have hj := (List.getElem?_eq_some_iff.1 hk).1
    obtain ⟨g, cg, hv, _, hgl⟩ := World.ownsRow.form hown' (by have := HM'.out; omega)
    injection hv with e1 e2 e3
    have hjv : j < vs'.length := by have := hir'.1; omega
    obtain ⟨A, c, hu, hnum⟩ := (hir'.2 j _ k (List.getElem?_eq_getElem hjv) hk).num
    refine ⟨g, A, c, e1, ?_, hnum⟩
    subst e1
    rw [hown'.cellAt j (by have := HM'.out; omega), List.getElem?_eq_getElem hjv, hu])
  clear hown hown' hownk hir hir' hir1 hb1 hb2' CS CT
  go_wp2_with fail
  go_loopw [11] (fun i wr => ∃ j q : Nat, j ≤ m ∧ j ≤ m' ∧ i = .int .i64 j ∧ Hid (cmpLL X Y = cmpLL (X.drop j) (Y.drop j)) ∧ wr = w2.drewN q) (fun i _ => m - (intOf i).toNat)
  case atStart => exact ⟨0, 0, Nat.zero_le _, Nat.zero_le _, rfl, Lib.hid rfl, rfl⟩
  case round =>
    obtain ⟨j, q, hj, hj', rfl, HA, rfl⟩ := hrel
    by_cases hlt : j < m
    · by_cases hlt' : j < m'
      · obtain ⟨x, hx⟩ : ∃ x, X[j]? = some x := ⟨X[j]'(by have := HM.out; omega), List.getElem?_eq_getElem _⟩
        obtain ⟨y, hy⟩ : ∃ y, Y[j]? = some y := ⟨Y[j]'(by have := HM'.out; omega), List.getElem?_eq_getElem _⟩
        obtain ⟨g, Ax, cx, rfl, hcx, hnx⟩ := HX.out j x hx
        obtain ⟨g', Ay, cy, rfl, hcy, hny⟩ := HY.out j y hy
        have hlx := HXK.out x (List.mem_of_getElem? hx)
        have hly := HYK.out y (List.mem_of_getElem? hy)
        have hst := cmpLL_step X Y j x y hx hy
        have CL : Hid (∀ W, (∃ q, W = w2.drewN q) → Calls Tryd.prog 52 #[.slice Ax x.length cx, .slice Ay y.length cy] W fun e W' => e = .returned (.int .i64 (cmpL x y)) ∧ ∃ q, W' = w2.drewN q) := Lib.hid (by
          rintro W ⟨q, rfl⟩
          refine (cLists6 Ax Ay x.length y.length cx cy _ _ x y (w2.drewN q) (by omega) (by omega) (show NumAt (w2.drewN q) w2.heap.size Ax x.length x from hnx) (show NumAt (w2.drewN q) w2.heap.size Ay y.length y from hny)).mono ?_
          rintro e w' ⟨he, p, rfl⟩
          exact ⟨he, q + p, by rw [World.drewN_drewN]⟩)
        have e1 : (0 : Int) ≤ (j : Int) := Int.natCast_nonneg _
        have e2 : (j : Int) < (m : Int) := by omega
        have e3 : (j : Int) < (m' : Int) := by omega
        clear hx hy hnx hny
        obtain ⟨r, hr⟩ : ∃ r, r = cmpL x y := ⟨_, rfl⟩
        rw [← hr] at CL hst
        have hbd := cmpL_val x y
        rw [← hr] at hbd
        clear hr
        by_cases h0 : r = 0
        · have hd : (r != 0) = false := by simp [h0]
          rw [show orI r (cmpLL (X.drop (j + 1)) (Y.drop (j + 1))) = cmpLL (X.drop (j + 1)) (Y.drop (j + 1)) from by unfold orI; rw [if_pos h0]] at hst
          have HR := Lib.hid (HA.out.trans hst)
          clear hst h0 hbd
          go_wp2_with fail
          go_region_with (go_at_call 52; refine (CL.out _ ?hd).mono ?_; (case hd => first | exact ⟨q, rfl⟩ | exact ⟨q + 1, rfl⟩); rintro e w3 ⟨rfl, p, rfl⟩)
          all_goals
            go_wp2_with fail
            go_roundw
            case rel => exact ⟨j + 1, _, by omega, by omega, by go_num, HR, rfl⟩
            case measure => simp [intOf]; omega
        · have hd : (r != 0) = true := by simp [h0]
          rw [show orI r (cmpLL (X.drop (j + 1)) (Y.drop (j + 1))) = r from by unfold orI; rw [if_neg h0]] at hst
          have HR := Lib.hid (HA.out.trans hst)
          clear hst h0 hbd
          go_wp2_with fail
          go_region_with (go_at_call 52; refine (CL.out _ ?hd).mono ?_; (case hd => first | exact ⟨q, rfl⟩ | exact ⟨q + 1, rfl⟩); rintro e w3 ⟨rfl, p, rfl⟩)
          all_goals
            go_wp2_with fail
            go_ret
            exact ⟨by rw [HR.out]; rfl, below_drN hb12 _⟩
      · have hend := cmpLL_end X Y j (.inr (by have := HM'.out; omega)) (by have := HM.out; omega) (by have := HM'.out; omega)
        rw [if_neg (by have := HM.out; have := HM'.out; omega), if_pos (by have := HM.out; have := HM'.out; omega)] at hend
        have HR := Lib.hid (HA.out.trans hend)
        have hg : ¬ m < m' := by omega
        have hg2 : m' < m := by omega
        clear hend
        go_wp2_with fail
        go_ret
        exact ⟨by rw [HR.out]; rfl, below_drN hb12 _⟩
    · have hend := cmpLL_end X Y j (.inl (by have := HM.out; omega)) (by have := HM.out; omega) (by have := HM'.out; omega)
      by_cases hnn : m < m'
      · rw [if_pos (by have := HM.out; have := HM'.out; omega)] at hend
        have HR := Lib.hid (HA.out.trans hend)
        clear hend
        go_wp2_with fail
        go_ret
        exact ⟨by rw [HR.out]; rfl, below_drN hb12 _⟩
      · have hg2 : ¬ m' < m := by omega
        rw [if_neg (by have := HM.out; have := HM'.out; omega), if_neg (by have := HM.out; have := HM'.out; omega)] at hend
        have HR := Lib.hid (HA.out.trans hend)
        clear hend
        go_wp2_with fail
        go_ret
        exact ⟨by rw [HR.out]; rfl, below_drN hb12 _⟩

set_option maxHeartbeats 1000000 in
theorem cComp6 (A A2 : Option Addr) (n n2 c c2 : Nat) (xs : List ByteArray) (s t : ByteArray) (ig : List Int) (w : World) (ha : alphaB xs = true) (h : TextAt w w.heap.size A n xs) (hs : s.size ≤ 1048576) (ht : t.size ≤ 1048576) (hp : phraseB s = true) (hp' : phraseB t = true) (hc : canP xs s = true) (hc' : canP xs t = true) (h2 : NumAt w w.heap.size A2 n2 ig) (hb2 : n2 ≤ maxLen) (hig : ∀ i ∈ ig, 0 ≤ i) :
    Calls Tryd.prog 45 #[.slice A n c, .string s, .string t, .slice A2 n2 c2] w fun e w' => e = .returned (.int .i64 (ordP xs ig s t)) ∧ Below w.heap.size w w' := by
  have C1 := Lib.hid (cOnce6 A A2 n n2 c c2 xs s t ig w ha h hs ht hp hp' hc hc' h2 hb2)
  have C2 : Hid (∀ W, Below w.heap.size w W → Calls Tryd.prog 83 #[.slice A n c, .string s, .string t, .slice (some ⟨W.heap.size, 0, none⟩) 0 0] (W.alloc (.cells #[] 2)) fun e w' => e = .returned (.int .i64 (cmpLL (keptP xs [] s) (keptP xs [] t))) ∧ Below w.heap.size w w') := Lib.hid (fun W hW => by
    have hba : Below w.heap.size w (W.alloc (.cells #[] 2)) := hW.alloc hW.size _
    refine (cOnce6 A (some ⟨W.heap.size, 0, none⟩) n 0 c 0 xs s t [] (W.alloc (.cells #[] 2)) ha ((h.below hba (Nat.le_refl _)).more hba.size) hs ht hp hp' hc hc' ⟨rfl, fun h => absurd h (by omega)⟩ (by unfold maxLen; omega)).mono ?_
    rintro e w' ⟨he, hb⟩
    exact ⟨he, hba.trans (hb.mono hba.size)⟩)
  have HO := Lib.hid (ord_words xs ig s t hig)
  clear h h2 hig
  obtain ⟨r, hr⟩ : ∃ r, r = cmpLL (keptP xs ig s) (keptP xs ig t) := ⟨_, rfl⟩
  obtain ⟨r2, hr2⟩ : ∃ r2, r2 = cmpLL (keptP xs [] s) (keptP xs [] t) := ⟨_, rfl⟩
  rw [← hr] at C1 HO
  rw [← hr2] at C2 HO
  clear hr hr2
  by_cases h0 : r = 0
  · have hd : (r == 0) = true := by simp [h0]
    have HV := Lib.hid (HO.out.trans (show orI r r2 = r2 from by unfold orI; rw [if_pos h0]))
    clear h0
    go_enter Tryd.func45, Tryd.ntmps45
    go_wp2_with fail
    refine C1.out.mono ?_
    rintro e w1 ⟨rfl, hb1⟩
    go_wp2_with fail
    refine (C2.out _ hb1).mono ?_
    rintro e w2 ⟨rfl, hb3⟩
    go_wp2_with fail
    go_ret
    exact ⟨by rw [HV.out]; rfl, hb3⟩
  · have hd : (r == 0) = false := by simp [h0]
    have HV := Lib.hid (HO.out.trans (show orI r r2 = r from by unfold orI; rw [if_neg h0]))
    clear h0
    go_enter Tryd.func45, Tryd.ntmps45
    go_wp2_with fail
    refine C1.out.mono ?_
    rintro e w1 ⟨rfl, hb1⟩
    go_wp2_with fail
    go_ret
    exact ⟨by rw [HV.out]; rfl, hb1⟩
end Go.Proofs.YtjockiedganokaaDoor
