/-
  The contract of spec.OfficialYears, and what its law asks of rows of spans.
-/
import Derived.Test.YthlilfdndpnbkaaGreatDoorOy9
import Derived.Test.YthlilfdndpnbkaaGreatDoorMu3
namespace Go.Proofs.YthlilfdndpnbkaaGreatDoor
section
set_option linter.unusedVariables false
open Go.RowKit

set_option maxHeartbeats 4000000 in
set_option maxRecDepth 100000 in
theorem cOy_spec (A : Option Addr) (n c : Nat) (xs : List Nm) (l : ByteArray) (w : World) (hb : n ≤ 1048576) (hz : Sz9 xs) (hl : l.size ≤ maxLen) (h : NmAt w w.heap.size A n xs) :
    Calls Tryz.prog 36 #[.slice A n c, .string l] w (OutP9 (oyZ xs l) (oyC xs l) w) := by
  obtain ⟨i0, hi0, hz0, hz1, hz2⟩ := info_parts info_span
  have CC := Lib.hid (cL09Code A n c xs l 0 w hb hz hl h)
  rw [qC_oy] at CC
  have H := Lib.hid h
  have HN := Lib.hid h.1
  clear h hz
  cases hv : (namesB xs && langB l)
  · have HZ := Lib.hid (oyZ_no hv)
    rw [oyC_no hv] at CC
    have HC := Lib.hid (oyC_no hv)
    clear hv
    go_enter Tryz.func36, Tryz.ntmps36
    go_wp2_with fail
    refine CC.out.mono ?_
    rintro e w1 ⟨rfl, hb1⟩
    go_wp2_with fail
    go_ret2
    exact ⟨none, 0, 0, by rw [HC.out]; rfl, by rw [HZ.out]; exact World.ownsRow_nil _ _ _ _, hb1⟩
  have HZ := Lib.hid (oyZ_ok hv)
  rw [oyC_ok hv] at CC
  have HC := Lib.hid (oyC_ok hv)
  clear hv
  go_enter Tryz.func36, Tryz.ntmps36
  go_wp2_with fail
  refine CC.out.mono ?_
  rintro e w1 ⟨rfl, hb1⟩
  have hO := World.ownsRow_lit (e := 25) (base := w.heap.size) (size := 2) w1 #[] 0 hb1.size (by decide) rfl
  have HO0 := Lib.hid hO
  have HB1 := Lib.hid (hb1.alloc hb1.size (.cells #[] 25))
  clear hO hb1
  go_wp2_with fail
  go_loopw [7, 8] (fun o i wr => ∃ (k m d : Nat) (B : Option Addr), k ≤ n ∧ i = .int .i64 k ∧ o = .slice B m d ∧ Hid (m ≤ k) ∧ Hid (wr.ownsRow w.heap.size 25 2 (.slice B m d) m (spanV (oyL (xs.take k) l))) ∧ Below w.heap.size w wr) (fun _ i _ => n - (intOf i).toNat)
  case atStart => exact ⟨0, 0, 0, _, Nat.zero_le _, rfl, rfl, Lib.hid (Nat.le_refl _), HO0, HB1.out⟩
  case round =>
    clear HO0 HB1
    obtain ⟨k, m, d, B, hk, rfl, rfl, HM, HO, hbw⟩ := hrel
    by_cases hlt : k < n
    · obtain ⟨x, hx⟩ : ∃ x, xs[k]? = some x := ⟨xs[k]'(by have := HN.out; omega), List.getElem?_eq_getElem _⟩
      obtain ⟨b, o, rfl, hbl, c0, c1, c2, c3, c4⟩ := (H.out.below hbw (Nat.le_refl _)).row hx
      have HX := Lib.hid hx
      have u1 : (0 : Int) ≤ (k : Int) := Int.natCast_nonneg _
      have u2 : (k : Int) < (n : Int) := by omega
      clear hx
      by_cases s1 : x.s = 0
      · have z1 : (x.s == 0) = true := by simp [s1]
        by_cases s2 : x.l = l
        · have z2 : (x.l.toList == l.toList) = true := by rw [toList_beq]; exact decide_eq_true s2
          have HST := Lib.hid (oy_yes (l := l) HX.out (by unfold ofB; rw [decide_eq_true s1, decide_eq_true s2]; rfl))
          have hmk := HM.out
          have hown := HO.out
          clear s1 s2
          go_wp2_with (at_builtin; refine wpList_append_own _ rfl _ _ 62 rfl w.heap.size 25 i0 _ 2 16 Tryz.underlying62 hi0 hz0 hz1 hz2 rfl (by decide) _ _ _ rfl (hown.alloc _) ⟨wr.heap.size, 0, none⟩ 1 1 [.int .i64 x.f, .int .i64 x.u] rfl rfl (two_cells _ _ _ _) (two_one _ _) ?d3 ?d4 ?d5 ?_)
          case d3 => unfold maxLen; omega
          case d4 => omega
          case d5 => have := hbw.size; simp; omega
          intro v' w3 hown3 hgrow3 _
          rw [show [Value.int .i64 x.f, .int .i64 x.u] = spanV [(x.f, x.u)] from (spanV_one (x.f, x.u)).symm, ← spanV_app] at hown3
          have hb3 : Below w.heap.size w w3 := (hbw.alloc hbw.size _).grown hgrow3 (by have := hbw.size; simp; omega) (fun x hx => (hown.lt x hx).1)
          have HO3 : Hid (w3.ownsRow w.heap.size 25 2 v' (m + 1) (spanV (oyL (xs.take (k + 1)) l))) := Lib.hid (by rw [HST.out]; exact hown3)
          obtain ⟨g', c', rfl, _, _⟩ := World.ownsRow.form HO3.out (by omega)
          clear hown3 hown hgrow3
          go_wp2_with fail
          go_roundw
          case rel => exact ⟨k + 1, m + 1, c', some ⟨g', 0, none⟩, by omega, by go_num, rfl, Lib.hid (by omega), HO3, hb3⟩
          case measure => simp [intOf]; omega
        · have z2 : (x.l.toList == l.toList) = false := by rw [toList_beq]; exact decide_eq_false s2
          have HO2 : Hid (wr.ownsRow w.heap.size 25 2 (.slice B m d) m (spanV (oyL (xs.take (k + 1)) l))) := Lib.hid (by rw [oy_no HX.out (by unfold ofB; rw [decide_eq_false s2, Bool.and_false])]; exact HO.out)
          clear s1 s2
          go_wp2_with fail
          go_roundw
          case rel => exact ⟨k + 1, m, d, B, by omega, by go_num, rfl, Lib.hid (by have := HM.out; omega), HO2, hbw⟩
          case measure => simp [intOf]; omega
      · have z1 : (x.s == 0) = false := by simp [s1]
        have HO2 : Hid (wr.ownsRow w.heap.size 25 2 (.slice B m d) m (spanV (oyL (xs.take (k + 1)) l))) := Lib.hid (by rw [oy_no HX.out (by unfold ofB; rw [decide_eq_false s1]; rfl)]; exact HO.out)
        clear s1
        go_wp2_with fail
        go_roundw
        case rel => exact ⟨k + 1, m, d, B, by omega, by go_num, rfl, Lib.hid (by have := HM.out; omega), HO2, hbw⟩
        case measure => simp [intOf]; omega
    · obtain rfl : k = n := by omega
      have HU : Hid (xs.take k = xs) := Lib.hid (List.take_of_length_le (by have := HN.out; omega))
      have hmk := HM.out
      have hbe := hbw.alloc hbw.size (.cells #[] 25)
      have HBE := Lib.hid hbe
      have CB := Lib.hid (cBuild_union B (some ⟨wr.heap.size, 0, none⟩) m 0 d 0 (oyL xs l) [] (wr.alloc (.cells #[] 25)) (by omega) (by omega)
        (SpanAt.own (base := w.heap.size) (c := d) (by have := HO.out; rw [HU.out] at this; exact World.ownsRow.alloc this _))
        ⟨rfl, fun k p hp => by simp at hp⟩)
      clear hbe
      go_wp2_with fail
      refine CB.out.mono ?_
      rintro e w2 ⟨zs, D, d2, hlen, hup, rfl, hown, hb2⟩
      have hz := unZ_eq hlen hup
      subst hz
      have hbt := bstep9 HBE.out HBE.out.size hb2
      have HO2 := Lib.hid (World.ownsRow.mono hown HBE.out.size)
      clear hown hup hlen hb2
      go_wp2_with fail
      go_ret2
      exact ⟨D, _, d2, by rw [HC.out]; rfl, by rw [HZ.out]; exact HO2.out, hbt⟩

theorem own_span9 {w : World} {lo n c : Nat} {A : Option Addr} {xs : List Spn} (h : w.ownsRow lo 25 2 (.slice A n c) n (spanV xs)) : SpanAt w w.heap.size A n xs := SpanAt.own h
def MarkedP (lo : Nat) (A : Option Addr) (n c k : Nat) (w : World) (e : Ending) (w' : World) : Prop :=
  e = .returned (.int .i64 ((k + 2 * n : Nat) : Int)) ∧ w'.ownsRow lo 25 2 (.slice A n c) n (spanV (marksP k n)) ∧ w.grownBy w' (Value.slice A n c).ownBlock
theorem rowP_up {w w' : World} {lo n c : Nat} {A : Option Addr} {xs ys : List Value} {t : TypeId} {s : Nat} (h : w.ownsRow lo t s (.slice A n c) n xs) (h' : w'.ownsRow 0 t s (.slice A n c) n ys) : w'.ownsRow lo t s (.slice A n c) n ys := by
  refine ⟨h'.1, ?_⟩
  rcases h'.2 with h0 | ⟨g, cap, cur, hv, _, rest⟩
  · exact .inl h0
  · refine .inr ⟨g, cap, cur, hv, ?_, rest⟩
    have : (Value.slice A n c).ownBlock = some g := by rw [hv]; rfl
    exact (h.lt g this).1
end
section
set_option linter.unusedVariables false
open Go.RowKit

def diceCells (A : Option Addr) (len cap i : Nat) (h : Int) : Array Value := #[.slice A len cap, .int .i64 i, .int .u64 h]
theorem dice_set2 (A : Option Addr) (len cap i : Nat) (h h' : Int) : (diceCells A len cap i h).setIfInBounds 2 (.int .u64 h') = diceCells A len cap i h' := rfl
theorem dice_set1 (A : Option Addr) (len cap i i' : Nat) (h : Int) (u : Int) (e : u = i') : (diceCells A len cap i h).setIfInBounds 1 (.int .i64 u) = diceCells A len cap i' h := by subst e; rfl

set_option maxHeartbeats 1000000 in
set_option maxRecDepth 100000 in
theorem cRoll (A : Option Addr) (len cap : Nat) (w : World) (hlen : len ≤ 1048576) (h : CodeIn w A len) :
    Calls Tryz.prog 38 #[.slice A len cap, .int .u64 901] w fun e w' => e = .returned (.pointer (some ⟨w.heap.size, 0, none⟩)) ∧ (∃ x, TabAt w' w.heap.size 115 (diceCells A len cap 0 x)) ∧ Below w.heap.size w w' := by
  have H := Lib.hid h
  clear h
  go_enter Tryz.func38, Tryz.ntmps38
  go_wp2
  have T0 := Lib.hid (show TabAt (w.alloc (.cells #[.slice A len cap, .int .i64 0, .int .u64 (7135019 + (len : Int))] 115)) w.heap.size 115 (diceCells A len cap 0 (7135019 + (len : Int))) from TabAt.new w 115 _)
  go_loopw [6] (fun i wr => ∃ (k : Nat) (x : Int), k ≤ len ∧ i = .int .i64 k ∧ Hid (TabAt wr w.heap.size 115 (diceCells A len cap 0 x)) ∧ Below w.heap.size w wr) (fun i _ => len - (intOf i).toNat)
  case atStart => exact ⟨0, _, Nat.zero_le _, rfl, T0, (Below.refl _ _).alloc (Nat.le_refl _) _⟩
  case round =>
    clear T0
    obtain ⟨k, x, hk, rfl, HT, hbw⟩ := hrel
    by_cases hlt : k < len
    · obtain ⟨b, o, rfl, hbl, hcc⟩ := H.out (by omega)
      obtain ⟨z, hz0, hz1, hcz⟩ := hcc k hlt
      have dz := (hbw.cell (by exact hbl)).trans hcz
      have d2 : wr.cell? ⟨w.heap.size, 2, none⟩ = some (.int .u64 x) := (HT.out.cell 2).trans rfl
      have g2 := HT.out.frozen 2
      clear hcc hcz
      go_wp2
      go_region
      all_goals
        go_wp2
        go_roundw
        case rel => exact ⟨k + 1, _, by omega, by go_num, Lib.hid ((dice_set2 _ _ _ _ _ _) ▸ (HT.out.dr 1).set 2 (.int .u64 _)), hbw.drew.setCell (p := ⟨w.heap.size, 2, none⟩) (Nat.le_refl _) (.int .u64 _)⟩
        case measure => simp [intOf]; omega
    · go_wp2
      go_ret
      exact ⟨rfl, ⟨_, HT.out⟩, hbw⟩

theorem grown_cell (w : World) (D i : Nat) (v : Value) : w.grownBy (w.setCell ⟨D, i, none⟩ v) (some D) :=
  ⟨rfl, rfl, rfl, by simp, fun k hk hne => Below.heap_setCell _ _ _ k (by show k ≠ D; intro e; exact hne (by rw [e]))⟩
theorem tmod1200 (X : Int) : -1200 < X.tmod 1200 ∧ X.tmod 1200 < 1200 := by
  have h := Int.natAbs_tmod X 1200
  have h2 : X.natAbs % 1200 < 1200 := Nat.mod_lt _ (by decide)
  have h3 : (1200 : Int).natAbs = 1200 := rfl
  rw [h3] at h
  omega
def DicePost (n : Int) (A : Option Addr) (len cap i D : Nat) (w : World) (e : Ending) (w' : World) : Prop := ∃ (r : Int) (j : Nat) (y : Int), -n < r ∧ r < n ∧ e = .returned (.int .i64 r) ∧ j ≤ len ∧ TabAt w' D 115 (diceCells A len cap j y) ∧ w.grownBy w' (some D)
set_option maxHeartbeats 1000000 in
set_option maxRecDepth 100000 in
theorem cBelow (A : Option Addr) (len cap i D : Nat) (x : Int) (w : World) (hlen : len ≤ 1048576) (hi : i ≤ len) (hC : CodeAt w D A len) (h : TabAt w D 115 (diceCells A len cap i x)) :
    Calls Tryz.prog 39 #[.pointer (some ⟨D, 0, none⟩), .int .i64 1200] w (DicePost 1200 A len cap i D w) := by
  have H := Lib.hid hC
  have HT := Lib.hid h
  have d0 : w.cell? ⟨D, 0, none⟩ = some (.slice A len cap) := (h.cell 0).trans rfl
  have d1 : w.cell? ⟨D, 1, none⟩ = some (.int .i64 i) := (h.cell 1).trans rfl
  have d2 : w.cell? ⟨D, 2, none⟩ = some (.int .u64 x) := (h.cell 2).trans rfl
  have f1 := h.frozen 1
  have f2 := h.frozen 2
  clear hC h
  go_enter Tryz.func39, Tryz.ntmps39
  go_wp2_with fail
  obtain ⟨X, hX⟩ : ∃ X : Int, X = wrap64 (bits BinOp.and IntKind.u64 (IntKind.u64.wrap (IntKind.u64.wrap (x * 6364136223846793005) + 1442695040888963407) / 8589934592) 16777215) := ⟨_, rfl⟩
  rw [← hX]
  obtain ⟨Y, hY⟩ : ∃ Y : Int, Y = IntKind.u64.wrap (IntKind.u64.wrap (x * 6364136223846793005) + 1442695040888963407) := ⟨_, rfl⟩
  rw [← hY]
  obtain ⟨W, hW⟩ : ∃ W : World, W = w.setCell ⟨D, 2, none⟩ (.int .u64 Y) := ⟨_, rfl⟩
  rw [← hW]
  have T1 : TabAt W D 115 (diceCells A len cap i Y) := by rw [hW]; exact (dice_set2 A len cap i x Y) ▸ HT.out.set 2 (.int .u64 Y)
  have G1 : w.grownBy W (some D) := by rw [hW]; exact grown_cell w D 2 _
  clear hX hY hW d0 d1 d2 f1 f2 HT
  have d0 : W.cell? ⟨D, 0, none⟩ = some (.slice A len cap) := (T1.cell 0).trans rfl
  have d1 : W.cell? ⟨D, 1, none⟩ = some (.int .i64 i) := (T1.cell 1).trans rfl
  have f1 := T1.frozen 1
  have HT1 := Lib.hid T1
  have HG1 := Lib.hid G1
  clear T1 G1
  by_cases hlt : i < len
  · obtain ⟨b, o, rfl, hne, hbl, hcc⟩ := H.out (by omega)
    obtain ⟨z, hz0, hz1, hcz0⟩ := hcc i hlt
    have hcz : W.cell? ⟨b, o + i, none⟩ = some (.int .u8 z) := HG1.out.cell hcz0 (by simp; omega)
    have z1 : decide ((i : Int) < (len : Int)) = true := decide_eq_true (by omega)
    clear hcc hcz0
    go_quiet (fail)
    go_wp2_with fail
    go_quiet (fail)
    go_wp2_with fail
    go_ret
    exact ⟨_, i + 1, Y, (tmod1200 _).1, (tmod1200 _).2, rfl, by omega, (dice_set1 _ len cap i (i + 1) Y _ (by push_cast; rfl)) ▸ (HT1.out.dr _).set 1 _, (grown_dr HG1.out _).trans (grown_cell _ _ _ _)⟩
  · have z1 : decide ((i : Int) < (len : Int)) = false := decide_eq_false (by omega)
    go_quiet (fail)
    go_wp2_with fail
    go_ret
    exact ⟨_, i, Y, (tmod1200 _).1, (tmod1200 _).2, rfl, hi, HT1.out, grown_dr HG1.out _⟩
end
end Go.Proofs.YthlilfdndpnbkaaGreatDoor
