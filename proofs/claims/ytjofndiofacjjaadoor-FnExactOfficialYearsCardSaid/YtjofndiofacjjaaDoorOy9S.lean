/-
  The contract of spec.OfficialYears, and what its law asks of rows of spans.
-/
import Derived.Test.YtjofndiofacjjaaDoorOy9
namespace Go.Proofs.YtjofndiofacjjaaDoor
set_option linter.unusedVariables false
open Go.RowKit

set_option maxHeartbeats 4000000 in
set_option maxRecDepth 100000 in
theorem cOy_spec (A : Option Addr) (n c : Nat) (xs : List Nm) (l : ByteArray) (w : World) (hb : n ≤ 1048576) (hz : Sz9 xs) (hl : l.size ≤ maxLen) (h : NmAt w w.heap.size A n xs) :
    Calls Tryd.prog 41 #[.slice A n c, .string l] w (OutP9 (oyZ xs l) (oyC xs l) w) := by
  obtain ⟨i0, hi0, hz0, hz1, hz2⟩ := info_parts info_span
  have CC := Lib.hid (cL09Code A n c xs l 0 w hb hz hl h)
  rw [qC_oy] at CC
  have H := Lib.hid h
  have HN := Lib.hid h.1
  clear h hz
  cases hv : (namesB xs && langB l)
  · have HZ := Lib.hid (oyZ_no hv)
    rw [oyC_no hv] at CC
    have HC := Lib.hid (oyC_no hv)
    clear hv
    go_enter Tryd.func41, Tryd.ntmps41
    go_wp2_with fail
    refine CC.out.mono ?_
    rintro e w1 ⟨rfl, hb1⟩
    go_wp2_with fail
    go_ret2
    exact ⟨none, 0, 0, by rw [HC.out]; rfl, by rw [HZ.out]; exact World.ownsRow_nil _ _ _ _, hb1⟩
  have HZ := Lib.hid (oyZ_ok hv)
  rw [oyC_ok hv] at CC
  have HC := Lib.hid (oyC_ok hv)
  clear hv
  go_enter Tryd.func41, Tryd.ntmps41
  go_wp2_with fail
  refine CC.out.mono ?_
  rintro e w1 ⟨rfl, hb1⟩
  have hO := World.ownsRow_lit (e := 28) (base := w.heap.size) (size := 2) w1 #[] 0 hb1.size (by decide) rfl
  have HO0 := Lib.hid hO
  have HB1 := Lib.hid (hb1.alloc hb1.size (.cells #[] 28))
  clear hO hb1
  go_wp2_with fail
  go_loopw [7, 8] (fun o i wr => ∃ (k m d : Nat) (B : Option Addr), k ≤ n ∧ i = .int .i64 k ∧ o = .slice B m d ∧ Hid (m ≤ k) ∧ Hid (wr.ownsRow w.heap.size 28 2 (.slice B m d) m (spanV (oyL (xs.take k) l))) ∧ Below w.heap.size w wr) (fun _ i _ => n - (intOf i).toNat)
  case atStart => exact ⟨0, 0, 0, _, Nat.zero_le _, rfl, rfl, Lib.hid (Nat.le_refl _), HO0, HB1.out⟩
  case round =>
    clear HO0 HB1
    obtain ⟨k, m, d, B, hk, rfl, rfl, HM, HO, hbw⟩ := hrel
    by_cases hlt : k < n
    · obtain ⟨x, hx⟩ : ∃ x, xs[k]? = some x := ⟨xs[k]'(by have := HN.out; omega), List.getElem?_eq_getElem _⟩
      obtain ⟨b, o, rfl, hbl, c0, c1, c2, c3, c4⟩ := (H.out.below hbw (Nat.le_refl _)).row hx
      have HX := Lib.hid hx
      have u1 : (0 : Int) ≤ (k : Int) := Int.natCast_nonneg _
      have u2 : (k : Int) < (n : Int) := by omega
      clear hx
      by_cases s1 : x.s = 0
      · have z1 : (x.s == 0) = true := by simp [s1]
        by_cases s2 : x.l = l
        · have z2 : (x.l.toList == l.toList) = true := by rw [toList_beq]; exact decide_eq_true s2
          have HST := Lib.hid (oy_yes (l := l) HX.out (by unfold ofB; rw [decide_eq_true s1, decide_eq_true s2]; rfl))
          have hmk := HM.out
          have hown := HO.out
          clear s1 s2
          go_wp2_with (at_builtin; refine wpList_append_own _ rfl _ _ 61 rfl w.heap.size 28 i0 _ 2 16 Tryd.underlying61 hi0 hz0 hz1 hz2 rfl (by decide) _ _ _ rfl (hown.alloc _) ⟨wr.heap.size, 0, none⟩ 1 1 [.int .i64 x.f, .int .i64 x.u] rfl rfl (two_cells _ _ _ _) (two_one _ _) ?d3 ?d4 ?d5 ?_)
          case d3 => unfold maxLen; omega
          case d4 => omega
          case d5 => have := hbw.size; simp; omega
          intro v' w3 hown3 hgrow3 _
          rw [show [Value.int .i64 x.f, .int .i64 x.u] = spanV [(x.f, x.u)] from (spanV_one (x.f, x.u)).symm, ← spanV_app] at hown3
          have hb3 : Below w.heap.size w w3 := (hbw.alloc hbw.size _).grown hgrow3 (by have := hbw.size; simp; omega) (fun x hx => (hown.lt x hx).1)
          have HO3 : Hid (w3.ownsRow w.heap.size 28 2 v' (m + 1) (spanV (oyL (xs.take (k + 1)) l))) := Lib.hid (by rw [HST.out]; exact hown3)
          obtain ⟨g', c', rfl, _, _⟩ := World.ownsRow.form HO3.out (by omega)
          clear hown3 hown hgrow3
          go_wp2_with fail
          go_roundw
          case rel => exact ⟨k + 1, m + 1, c', some ⟨g', 0, none⟩, by omega, by go_num, rfl, Lib.hid (by omega), HO3, hb3⟩
          case measure => simp [intOf]; omega
        · have z2 : (x.l.toList == l.toList) = false := by rw [toList_beq]; exact decide_eq_false s2
          have HO2 : Hid (wr.ownsRow w.heap.size 28 2 (.slice B m d) m (spanV (oyL (xs.take (k + 1)) l))) := Lib.hid (by rw [oy_no HX.out (by unfold ofB; rw [decide_eq_false s2, Bool.and_false])]; exact HO.out)
          clear s1 s2
          go_wp2_with fail
          go_roundw
          case rel => exact ⟨k + 1, m, d, B, by omega, by go_num, rfl, Lib.hid (by have := HM.out; omega), HO2, hbw⟩
          case measure => simp [intOf]; omega
      · have z1 : (x.s == 0) = false := by simp [s1]
        have HO2 : Hid (wr.ownsRow w.heap.size 28 2 (.slice B m d) m (spanV (oyL (xs.take (k + 1)) l))) := Lib.hid (by rw [oy_no HX.out (by unfold ofB; rw [decide_eq_false s1]; rfl)]; exact HO.out)
        clear s1
        go_wp2_with fail
        go_roundw
        case rel => exact ⟨k + 1, m, d, B, by omega, by go_num, rfl, Lib.hid (by have := HM.out; omega), HO2, hbw⟩
        case measure => simp [intOf]; omega
    · obtain rfl : k = n := by omega
      have HU : Hid (xs.take k = xs) := Lib.hid (List.take_of_length_le (by have := HN.out; omega))
      have hmk := HM.out
      have hbe := hbw.alloc hbw.size (.cells #[] 28)
      have HBE := Lib.hid hbe
      have CB := Lib.hid (cBuild_union B (some ⟨wr.heap.size, 0, none⟩) m 0 d 0 (oyL xs l) [] (wr.alloc (.cells #[] 28)) (by omega) (by omega)
        (SpanAt.own (base := w.heap.size) (c := d) (by have := HO.out; rw [HU.out] at this; exact World.ownsRow.alloc this _))
        ⟨rfl, fun k p hp => by simp at hp⟩)
      clear hbe
      go_wp2_with fail
      refine CB.out.mono ?_
      rintro e w2 ⟨zs, D, d2, hlen, hup, rfl, hown, hb2⟩
      have hz := unZ_eq hlen hup
      subst hz
      have hbt := bstep9 HBE.out HBE.out.size hb2
      have HO2 := Lib.hid (World.ownsRow.mono hown HBE.out.size)
      clear hown hup hlen hb2
      go_wp2_with fail
      go_ret2
      exact ⟨D, _, d2, by rw [HC.out]; rfl, by rw [HZ.out]; exact HO2.out, hbt⟩

theorem own_span9 {w : World} {lo n c : Nat} {A : Option Addr} {xs : List Spn} (h : w.ownsRow lo 28 2 (.slice A n c) n (spanV xs)) : SpanAt w w.heap.size A n xs := SpanAt.own h
theorem uEqP (A A' : Option Addr) (c c' n lo lo' : Nat) (xs : List Spn) (w : World) (hbig : n ≤ 1048576) (h1 : w.ownsRow lo 28 2 (.slice A n c) n (spanV xs)) (h2 : w.ownsRow lo' 28 2 (.slice A' n c') n (spanV xs)) :
    Calls Tryd.prog 43 #[.slice A n c, .slice A' n c'] w fun e w' => e = .returned (.bool true) ∧ Below w.heap.size w w' :=
  cEqSp A A' n c c' xs w (by omega) (own_span9 h1) (own_span9 h2)
def MarkedP (lo : Nat) (A : Option Addr) (n c k : Nat) (w : World) (e : Ending) (w' : World) : Prop :=
  e = .returned (.int .i64 ((k + 2 * n : Nat) : Int)) ∧ w'.ownsRow lo 28 2 (.slice A n c) n (spanV (marksP k n)) ∧ w.grownBy w' (Value.slice A n c).ownBlock
theorem rowP_up {w w' : World} {lo n c : Nat} {A : Option Addr} {xs ys : List Value} {t : TypeId} {s : Nat} (h : w.ownsRow lo t s (.slice A n c) n xs) (h' : w'.ownsRow 0 t s (.slice A n c) n ys) : w'.ownsRow lo t s (.slice A n c) n ys := by
  refine ⟨h'.1, ?_⟩
  rcases h'.2 with h0 | ⟨g, cap, cur, hv, _, rest⟩
  · exact .inl h0
  · refine .inr ⟨g, cap, cur, hv, ?_, rest⟩
    have : (Value.slice A n c).ownBlock = some g := by rw [hv]; rfl
    exact (h.lt g this).1
theorem uMarkP (lo : Nat) (A : Option Addr) (n c k : Nat) (xs : List Spn) (w : World) (hk : 1 ≤ k) (hk2 : k ≤ 1073741824) (hn : n ≤ 1048576) (h : w.ownsRow lo 28 2 (.slice A n c) n (spanV xs)) :
    Calls Tryd.prog 44 #[.slice A n c, .int .i64 (k : Int)] w (MarkedP lo A n c k w) :=
  (cMarkSp A n c k xs w (by omega) (Row.of h)).mono fun e w' ⟨h1, h2, h3⟩ => ⟨h1, rowP_up h h2, h3⟩
theorem uHeldP (lo : Nat) (A : Option Addr) (n c k : Nat) (w : World) (hk : 1 ≤ k) (hk2 : k ≤ 1073741824) (hn : n ≤ 1048576) (h : w.ownsRow lo 28 2 (.slice A n c) n (spanV (marksP k n))) :
    Calls Tryd.prog 45 #[.slice A n c, .int .i64 (k : Int)] w fun e w' => e = .returned (.int .i64 ((k + 2 * n : Nat) : Int)) ∧ Below w.heap.size w w' :=
  (cHeldSp A n c k w (by omega) (Row.of h)).mono fun e w' ⟨h1, h2⟩ => ⟨h1, h2 ▸ Below.refl _ _⟩
end Go.Proofs.YtjofndiofacjjaaDoor
