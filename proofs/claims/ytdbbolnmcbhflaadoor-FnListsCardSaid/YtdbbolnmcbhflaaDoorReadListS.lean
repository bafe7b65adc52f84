/-
  The contract of spec.ReadList.
-/
import Derived.Test.YtdbbolnmcbhflaaDoorReadListI
import Derived.Test.YtdbbolnmcbhflaaDoorNumbers
import Derived.Test.YtdbbolnmcbhflaaDoorCommaG
namespace Go.Proofs.YtdbbolnmcbhflaaDoor
set_option linter.unusedVariables false
open Go.RowKit

theorem sNum_all {ws : List ByteArray} (h : sAll ws = true) : nums (ws.map sN) = ws := by
  unfold nums
  rw [List.map_map]
  refine (List.map_congr_left (g := id) ?_).trans (List.map_id _)
  intro x hx
  unfold sAll at h
  rw [List.all_eq_true] at h
  exact sB_num (h x hx)
theorem sAll_nums {xs : List Int} (h : okAll xs = true) : sAll (nums xs) = true ∧ (nums xs).map sN = xs := by
  constructor
  · unfold sAll nums
    rw [List.all_eq_true]
    intro x hx
    rw [List.mem_map] at hx
    obtain ⟨v, hv, rfl⟩ := hx
    have hb := okAll_mem xs h v hv
    exact (sB_of v (by omega) (by omega)).1
  · unfold nums
    rw [List.map_map]
    refine (List.map_congr_left (g := id) ?_).trans (List.map_id _)
    intro v hv
    have hb := okAll_mem xs h v hv
    exact (sB_of v (by omega) (by omega)).2

set_option maxHeartbeats 2000000 in
set_option maxRecDepth 100000 in
theorem cRL_spec (s : ByteArray) (xs : List Int) (c : Int) (w : World) (hs : s.size ≤ 1073741824) (hcase : RL s xs c) :
    Calls Tryd.prog 27 #[.string s] w (RLPost xs c w) := by
  by_cases hd : s = dash
  · obtain ⟨rfl, rfl⟩ : xs = [] ∧ c = 0 := by
      rcases hcase with ⟨_, h1, h2⟩ | ⟨h, _⟩ | ⟨h, _⟩
      · exact ⟨h1, h2⟩
      · exact absurd hd h
      · exact absurd hd h
    subst hd
    unfold dash
    have HP : Hid (∀ W : World, Below w.heap.size w W → W.heap.size = W.heap.size) := Lib.hid (fun _ _ => rfl)
    clear hcase hs
    go_enter Tryd.func27, Tryd.ntmps27
    go_wp2_with fail
    go_ret2
    exact ⟨_, _, rfl, World.ownsRow_lit (e := 2) (base := w.heap.size) (size := 1) w #[] 0 (Nat.le_refl _) (by decide) rfl, (Below.refl _ _).alloc (Nat.le_refl _) _⟩
  have hz : (s.toList == (⟨#[45]⟩ : ByteArray).toList) = false := toList_ne hd
  have hz' : (s.toList == [45]) = false := by
    have e : (⟨#[45]⟩ : ByteArray).toList = [45] := by rw [ByteArray.toList_eq]
    rw [← e]; exact hz
  have hzz : (s.toList == s.toList) = true := beq_self_eq_true _
  have hsz : ∀ x ∈ piecesB 44 s, x.size ≤ 1073741824 := fun x hx => Nat.le_trans (piece_sz 44 _ s x hx) hs
  have hpos := pieces_pos 44 s
  have hmax := pieces_len 44 s
  have hjoin : comB (piecesB 44 s) = s := join_pieces 44 s.size s (Nat.le_refl _)
  have CS := Lib.hid (fun W => cSplit 44 44 rfl s W hs)
  have halt : ∀ (P : Prop), (0 < xs.length → xs.length ≤ 60 → okAll xs = true → piecesB 44 s = nums xs → c = 0 → P) → ((∀ ys, 0 < ys.length → ys.length ≤ 60 → okAll ys = true → s ≠ comB (nums ys)) → xs = [] → c = 6 → P) → P := by
    intro P h1 h2
    rcases hcase with ⟨h, _⟩ | ⟨_, a, b, d, e, f⟩ | ⟨_, a, b, d⟩
    · exact absurd h hd
    · exact h1 a b d (by rw [e]; exact pieces_nums 44 noS_44 xs a) f
    · exact h2 a b d
  generalize piecesB 44 s = P at *
  obtain ⟨n, hn⟩ : ∃ n, n = P.length := ⟨_, rfl⟩
  rw [← hn] at hpos hmax CS
  have HN := Lib.hid hn
  have HA := Lib.hid halt
  have HJ := Lib.hid hjoin
  have HS := Lib.hid hsz
  clear hn halt hjoin hsz hcase
  go_enter Tryd.func27, Tryd.ntmps27
  go_wp2_with fail
  refine (CS.out _).mono ?_
  rintro e w1 ⟨v, rfl, own1, hb1⟩
  obtain ⟨g, cap, rfl, _, hlt⟩ := own1.form hpos
  have CN := Lib.hid (cNumbers g cap n P w1 HN.out (by omega) hlt HS.out (fun j x hx => by
    have hj := (List.getElem?_eq_some_iff.1 hx).1
    have h1 := HN.out
    exact (own1.cellAt j (by omega)).trans (strV_at _ _ _ hx)))
  clear own1
  go_wp2_with fail
  refine CN.out.mono ?_
  rintro e w2 ⟨g2, hcs⟩
  have hb2 := hb1.trans (g2.mono hb1.size)
  rcases hcs with ⟨hno, rfl⟩ | ⟨hyes, A, cap2, rfl, own2⟩
  · obtain ⟨rfl, rfl⟩ : xs = [] ∧ c = 6 := HA.out _ (fun _ _ hok hq _ => by
      exfalso
      rw [hq, (sAll_nums hok).1] at hno
      cases hno) (fun _ a b => ⟨a, b⟩)
    clear hno
    go_wp2_with fail
    go_ret2
    exact RLPost.nul hb2
  · rw [← HN.out] at own2 ⊢
    obtain ⟨g3, cap3, hv, hg3, hlt3⟩ := own2.form hpos
    obtain ⟨rfl, rfl⟩ : A = some ⟨g3, 0, none⟩ ∧ cap2 = cap3 := by injection hv with h1 h2 h3; exact ⟨h1, h3⟩
    clear hv
    have hlen : (P.map sN).length = n := by rw [List.length_map]; exact HN.out.symm
    have hcell : ∀ (j : Nat) x, (P.map sN)[j]? = some x → w2.cell? ⟨g3, j, none⟩ = some (.int .i64 x) := fun j x hx => by
      have hj := (List.getElem?_eq_some_iff.1 hx).1
      exact (own2.cellAt j (by omega)).trans (intV_at _ _ _ hx)
    have hnum := sNum_all hyes
    by_cases h60 : 60 < n
    · obtain ⟨rfl, rfl⟩ : xs = [] ∧ c = 6 := HA.out _ (fun _ hle _ hq _ => by
        exfalso
        have h1 := HN.out
        rw [hq] at h1
        simp [nums] at h1
        omega) (fun _ a b => ⟨a, b⟩)
      have z1 : decide ((60 : Int) < (n : Int)) = true := decide_eq_true (by omega)
      have z2 : decide (60 < n) = true := decide_eq_true h60
      clear hyes own2 hlen hcell hnum
      go_wp2_with fail
      go_ret2
      exact RLPost.nul hb2
    · have z1 : decide ((60 : Int) < (n : Int)) = false := decide_eq_false (by omega)
      have z2 : decide (60 < n) = false := decide_eq_false h60
      have CC := Lib.hid (cCommaG g3 cap2 n (P.map sN) w2 hlen.symm (by omega) hlt3 (by
        intro x hx
        have hx0 := hx
        rw [List.mem_map] at hx
        obtain ⟨p, hp, rfl⟩ := hx
        have hbd := sN_bd p
        refine ⟨hbd.1, hbd.2, ?_⟩
        have hb : sB p = true := by unfold sAll at hyes; rw [List.all_eq_true] at hyes; exact hyes p hp
        rw [sB_num hb]
        exact HS.out p hp) (fun j x hx => by rw [Nat.zero_add]; exact hcell j x hx))
      rw [hnum, HJ.out] at CC
      have CL : Hid (Calls Tryd.prog 53 #[.slice (some ⟨g3, 0, none⟩) n cap2] w2 fun e w' => e = .returned (.string s) ∧ Below w2.heap.size w2 w') := Lib.hid (by
        have hd : ((n : Int) == 0) = false := by rw [beq_eq_false_iff_ne]; omega
        have hd2 : decide (n = 0) = false := decide_eq_false (by omega)
        clear hcell hnum hyes own2 hlen
        go_enter Tryd.func53, Tryd.ntmps53
        go_wp2_with fail
        refine CC.out.mono ?_
        rintro e w' ⟨rfl, hb⟩
        go_wp2_with fail
        go_ret
        exact ⟨rfl, hb⟩)
      have HL := Lib.hid hlen
      have HNM := Lib.hid hnum
      have HC := Lib.hid hcell
      have HO := Lib.hid own2
      have HY := Lib.hid hyes
      clear hcell hlen hnum own2 hyes
      generalize hvs : P.map sN = vs at *
      have HV := Lib.hid hvs
      clear hvs
      go_wp2_with fail
      refine CL.out.mono ?_
      rintro e w3 ⟨rfl, g4⟩
      have hb3 := hb2.trans (g4.mono hb2.size)
      go_wp2_with fail
      go_loop [6] (fun i => ∃ k : Nat, k ≤ n ∧ i = .int .i64 k ∧ Hid (okAll (vs.take k) = true)) (fun i => n - (intOf i).toNat)
      case atStart => exact ⟨0, Nat.zero_le _, rfl, Lib.hid rfl⟩
      case round =>
        obtain ⟨k, hk, rfl, HK⟩ := hrel
        by_cases hlt : k < n
        · obtain ⟨x, hx⟩ : ∃ x, vs[k]? = some x := ⟨vs[k]'(by have := HL.out; omega), List.getElem?_eq_getElem _⟩
          have hcx : w3.cell? ⟨g3, k, none⟩ = some (.int .i64 x) := (g4.cell (p := ⟨g3, k, none⟩) hlt3).trans (HC.out k x hx)
          cases hb : okN x
          · obtain ⟨rfl, rfl⟩ : xs = [] ∧ c = 6 := HA.out _ (fun _ _ hok hq _ => by
              exfalso
              have h1 := (sAll_nums hok).2
              rw [← hq, HV.out] at h1
              have h2 := okAll_stop vs k x hx hb
              rw [h1, hok] at h2
              cases h2) (fun _ a b => ⟨a, b⟩)
            have CI := Lib.hid (cIs x w3)
            rw [hb] at CI
            clear hx hb
            go_wp2_with fail
            refine CI.out.mono ?_
            rintro e w' ⟨rfl, rfl⟩
            go_wp2_with fail
            go_ret2
            exact RLPost.nul hb3
          · have HT := Lib.hid (okAll_step vs k x hx HK.out hb)
            have CI := Lib.hid (cIs x w3)
            rw [hb] at CI
            clear hx hb
            go_wp2_with fail
            refine CI.out.mono ?_
            rintro e w' ⟨rfl, rfl⟩
            go_wp2_with fail
            go_round
            case rel => exact ⟨k + 1, by omega, by go_num, HT⟩
            case measure => simp [intOf]; omega
        · obtain rfl : k = n := by omega
          have hok : okAll vs = true := (okAll_end vs k (by have := HL.out; omega)).symm.trans HK.out
          obtain ⟨rfl, rfl⟩ : vs = xs ∧ c = 0 := HA.out _ (fun _ _ hok2 hq hc => by
            have h1 := (sAll_nums hok2).2
            rw [← hq, HV.out] at h1
            exact ⟨h1, hc⟩) (fun hno _ _ => by
            exfalso
            refine hno vs (by rw [HL.out]; exact hpos) (by rw [HL.out]; omega) hok ?_
            rw [HNM.out, HJ.out])
          have hown := HO.out.kept (bgr g4 none) (row := none) (by simp [Value.ownBlock])
          have HP := Lib.hid (show RLPost vs 0 w (.returned (.tuple #[.slice (some ⟨g3, 0, none⟩) k cap2, .int .i64 0])) w3 from by
            have hkl := HL.out
            subst hkl
            exact ⟨_, _, rfl, rowBase hown hb1.size, hb3⟩)
          clear hok hown
          go_wp2_with fail
          go_ret2
          exact HP.out
end Go.Proofs.YtdbbolnmcbhflaaDoor
