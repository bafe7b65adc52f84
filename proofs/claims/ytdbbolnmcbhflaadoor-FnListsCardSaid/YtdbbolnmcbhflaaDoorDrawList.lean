/-
  The contracts of spec.l01DrawValue, spec.DrawListText and spec.DrawReadList.
-/
import Derived.Test.YtdbbolnmcbhflaaDoorDrawSpan
import Derived.Test.YtdbbolnmcbhflaaDoorIntRow
import Derived.Test.YtdbbolnmcbhflaaDoorCommaG
namespace Go.Proofs.YtdbbolnmcbhflaaDoor
set_option linter.unusedVariables false
open Go.RowKit

set_option maxHeartbeats 2000000 in
set_option maxRecDepth 100000 in
theorem cDrawValue (B len : Nat) (w : World) (hlen : len ≤ 1048576) (h : Src w B len) :
    Calls Tryd.prog 49 #[.pointer (some ⟨B, 0, none⟩)] w (PickPost (-1000000000001) 1000000000001 w B len) := by
  have C0 := Lib.hid (cNext B len 10 w hlen (by omega) (by omega) h)
  have hB := h.lt
  clear h
  go_enter Tryd.func49, Tryd.ntmps49
  go_wp2_with fail
  refine C0.out.mono ?_
  rintro e w1 ⟨r, hr0, hr1, rfl, hS1, g1⟩
  have hl1 := hS1.lt
  have HS1 := Lib.hid hS1
  clear hr1 hS1 C0
  by_cases h0 : r = 0
  · have z1 : (r == 0) = true := by simp [h0]
    have hR := rowLit w1 [0, 1000000000000, 1000000000001, -1000000000000, -1000000000001, 1] (-1000000000001) 1000000000001 (by intro v hv; simp at hv; omega) 2
    have hS4 := srcAlloc HS1.out (.cells (([0, 1000000000000, 1000000000001, -1000000000000, -1000000000001, 1] : List Int).map (Value.int .i64)).toArray 2)
    have C3 := Lib.hid (cPick B len w1.heap.size 6 6 (-1000000000001) 1000000000001 _ hlen (by omega) (by omega) (by omega) hR hS4)
    have ga := World.grownBy_alloc w1 (.cells (([0, 1000000000000, 1000000000001, -1000000000000, -1000000000001, 1] : List Int).map (Value.int .i64)).toArray 2) (some B)
    clear hR hS4 h0
    go_wp2_with fail
    refine C3.out.mono ?_
    rintro e w2 ⟨v, hv0, hv1, rfl, hS2, g2⟩
    have HS2 := Lib.hid hS2
    have G2 := Lib.hid ((g1.trans ga).trans g2)
    clear hS2 g1 ga g2
    go_wp2_with fail
    go_ret
    exact ⟨v, hv0, hv1, rfl, HS2.out, G2.out⟩
  · have z1 : (r == 0) = false := by rw [beq_eq_false_iff_ne]; exact h0
    have C1 := Lib.hid (cNext B len 41 w1 hlen (by omega) (by omega) HS1.out)
    clear h0
    go_wp2_with fail
    refine C1.out.mono ?_
    rintro e w2 ⟨a, ha0, ha1, rfl, hS2, g2⟩
    have ha2 : a < 41 := by omega
    have C2 := Lib.hid (cNext B len 2001 w2 hlen (by omega) (by omega) hS2)
    clear hS2 ha1 C1
    go_wp2_with fail
    refine C2.out.mono ?_
    rintro e w3 ⟨b, hb0, hb1, rfl, hS3, g3⟩
    have hb2 : b < 2001 := by omega
    have C3 := Lib.hid (cNext B len 2000000001 w3 hlen (by omega) (by omega) hS3)
    clear hS3 hb1 C2
    go_wp2_with fail
    refine C3.out.mono ?_
    rintro e w4 ⟨d, hd0, hd1, rfl, hS4, g4⟩
    have hd2 : d < 2000000001 := by omega
    have hl4 := hS4.lt
    have hR := rowLit w4 [a - 20, b - 1000, d - 1000000000] (-1000000000001) 1000000000001 (by intro v hv; simp at hv; omega) 2
    have hS5 := srcAlloc hS4 (.cells (([a - 20, b - 1000, d - 1000000000] : List Int).map (Value.int .i64)).toArray 2)
    have C4 := Lib.hid (cPick B len w4.heap.size 3 3 (-1000000000001) 1000000000001 _ hlen (by omega) (by omega) (by omega) hR hS5)
    have ga := World.grownBy_alloc w4 (.cells (([a - 20, b - 1000, d - 1000000000] : List Int).map (Value.int .i64)).toArray 2) (some B)
    have G4 := Lib.hid ((((g1.trans g2).trans g3).trans g4).trans ga)
    clear hR hS4 hS5 hd1 C3 g1 g2 g3 g4 ga
    go_wp2_with fail
    refine C4.out.mono ?_
    rintro e w5 ⟨v, hv0, hv1, rfl, hS6, g6⟩
    have HS6 := Lib.hid hS6
    have G6 := Lib.hid (G4.out.trans g6)
    clear hS6 g6
    go_wp2_with fail
    go_ret
    exact ⟨v, hv0, hv1, rfl, HS6.out, G6.out⟩

theorem com_len2 (m : Nat) : ∀ (l : List (List UInt8)), (∀ y ∈ l, y.length ≤ m) → (comL l).length ≤ l.length * (m + 1)
  | [], _ => by simp [comL, Lib.join, List.intercalate, List.intersperse]
  | [a], h => by rw [comL_one]; have := h a (by simp); simp; omega
  | a :: b :: l, h => by
    rw [comL_cons, List.length_append, List.length_cons]
    have h1 := h a (by simp)
    have h2 := com_len2 m (b :: l) (fun y hy => h y (List.mem_cons_of_mem _ hy))
    simp only [List.length_cons] at h2 ⊢
    have e : (l.length + 1 + 1) * (m + 1) = (l.length + 1) * (m + 1) + (m + 1) := Nat.succ_mul _ _
    omega
def ListPost (w : World) (e : Ending) (w' : World) : Prop := ∃ (A : Option Addr) (n cap : Nat) (xs : List Int), n ≤ 61 ∧ e = .returned (.slice A n cap) ∧ RowI w' A n cap xs ∧ Below w.heap.size w w'
theorem zerosI (n : Nat) : (madeCells #[Value.int .i64 0] n).toList = intV (List.replicate n 0) := by
  apply List.ext_getElem?
  intro j
  by_cases h : j < n
  · simp [madeCells, intV, h, Nat.mod_one]
  · rw [List.getElem?_eq_none (by simp [madeCells]; omega), List.getElem?_eq_none (by simp [intV]; omega)]
theorem rowSl {w : World} {b k : Nat} {t : TypeId} {v : Value} {xs : List Value} (h : w.ownsRow b t 1 v k xs) : ∃ A cap, v = .slice A k cap := by
  rcases h.2 with ⟨h1, h2⟩ | ⟨g1, cap1, cur, h1, h2⟩
  · exact ⟨none, 0, by rw [h1, h2]⟩
  · exact ⟨_, _, h1⟩

set_option maxHeartbeats 4000000 in
set_option maxRecDepth 100000 in
theorem cDrawListText (A : Option Addr) (len cap : Nat) (w : World) (hlen : len ≤ 1048576) (h : CodeIn w A len) :
    Calls Tryd.prog 22 #[.slice A len cap] w (ListPost w) := by
  obtain ⟨i0, hi0, hz0, hz1, hz2⟩ := info_parts info_i64
  have C0 := Lib.hid (cFrom A len cap _ hlen h)
  clear h
  go_enter Tryd.func22, Tryd.ntmps22
  go_wp2_with fail
  refine C0.out.mono ?_
  rintro e w1 ⟨rfl, hS1, hb1⟩
  have hl1 := hS1.lt
  have hS2 := srcAlloc hS1 (.cells #[] 2)
  have O2 := Lib.hid (World.ownsRow_lit (e := 2) (base := w.heap.size + 1) (size := 1) w1 #[] 0 (by omega) (by decide) rfl)
  have C1 := Lib.hid (cNext w.heap.size len 6 _ hlen (by omega) (by omega) hS2)
  have hb2 := hb1.alloc hb1.size (.cells #[] 2)
  clear hS1 hS2 C0
  go_wp2_with fail
  refine C1.out.mono ?_
  rintro e w2 ⟨r, hr0, hr1, rfl, hS3, g3⟩
  have hr2 : r < 6 := by omega
  obtain ⟨n0, rfl⟩ : ∃ k : Nat, r = k := ⟨r.toNat, by omega⟩
  have hn0 : n0 < 6 := by omega
  have hb3 := hb2.grown g3 hb2.size (fun z hz => by cases hz; exact Nat.le_refl _)
  have O3 := Lib.hid (O2.out.kept g3 (.inr (by simp [Value.ownBlock]; omega)))
  have HS3 := Lib.hid hS3
  clear hS3 g3 hr1 hr2 C1
  go_wp2_with fail
  go_loopw [4, 5] (fun o i wr => ∃ (m k : Nat) (v : Value) (xs : List Int), k + m ≤ 6 ∧ i = .int .i64 m ∧ o = v ∧ Hid (wr.ownsRow (w.heap.size + 1) 2 1 v k (intV xs)) ∧ Hid (Src wr w.heap.size len) ∧ Below w.heap.size w wr) (fun _ i _ => (intOf i).toNat)
  case atStart => exact ⟨n0, 0, _, [], by omega, rfl, rfl, O3, HS3, hb3⟩
  case round =>
    clear O3 HS3 hb3 O2
    obtain ⟨m, k, v, xs, hkm, rfl, rfl, HO, HS, hbw⟩ := hrel
    by_cases hm : 0 < m
    · have z1 : decide ((0 : Int) < (m : Int)) = true := decide_eq_true (by omega)
      have z1' : decide (0 < m) = true := decide_eq_true hm
      have C2 := Lib.hid (cNext w.heap.size len 200 wr hlen (by omega) (by omega) HS.out)
      go_wp2_with fail
      refine C2.out.mono ?_
      rintro e w4 ⟨a, ha0, ha1, rfl, hS4, g4⟩
      have ha2 : a < 200 := by omega
      have C3 := Lib.hid (cDrawValue w.heap.size len w4 hlen hS4)
      clear hS4 ha1 C2
      go_wp2_with fail
      refine C3.out.mono ?_
      rintro e w5 ⟨b, hb0, hb1, rfl, hS5, g5⟩
      have hl5 := hS5.lt
      have hR := rowLit w5 [a - 100, b] (-1000000000001) 1000000000001 (by intro v hv; simp at hv; omega) 2
      have hS6 := srcAlloc hS5 (.cells (([a - 100, b] : List Int).map (Value.int .i64)).toArray 2)
      have C4 := Lib.hid (cPick w.heap.size len w5.heap.size 2 2 (-1000000000001) 1000000000001 _ hlen (by omega) (by omega) (by omega) hR hS6)
      have ga := World.grownBy_alloc w5 (.cells (([a - 100, b] : List Int).map (Value.int .i64)).toArray 2) (some w.heap.size)
      have G5 := Lib.hid ((g4.trans g5).trans ga)
      clear hR hS5 hS6 C3 g4 g5 ga
      go_wp2_with fail
      refine C4.out.mono ?_
      rintro e w6 ⟨d, hd0, hd1, rfl, hS7, g7⟩
      have G7 := G5.out.trans g7
      have hb7 := hbw.grown G7 hbw.size (fun z hz => by cases hz; exact Nat.le_refl _)
      have HO7 := Lib.hid (HO.out.kept G7 (by
        cases hv : Value.ownBlock _ with
        | none => exact .inl rfl
        | some x =>
          have h1 := (HO.out.lt x hv).1
          exact .inr (by intro e; injection e with e; omega)))
      have HS7 := Lib.hid hS7
      clear hS7 g7 G5 G7 C4
      go_wp2_with (at_builtin; refine wpList_append_own _ rfl _ _ 37 rfl (w.heap.size + 1) 2 i0 _ 1 8 Tryd.underlying37 hi0 hz0 hz1 hz2 rfl (by decide) _ _ _ rfl (HO7.out.alloc _) ⟨w6.heap.size, 0, none⟩ 1 1 [.int .i64 d] rfl rfl ?c1 ?c2 ?c3 ?c4 ?c5 ?_)
      case c1 => exact one_cell' _ _ _ (new_one _ _ _)
      case c2 => intro u hu; simp at hu; subst hu; rfl
      case c3 => unfold maxLen; omega
      case c4 => omega
      case c5 => have := hb7.size; have := HS7.out.lt; simp; omega
      intro v' w7 hown7 hgrow7 _
      rw [intV_snoc] at hown7
      have hb8 : Below w.heap.size w w7 := (hb7.alloc hb7.size _).grown hgrow7 (by have := hb7.size; simp; omega) (fun x hx => by have := (HO7.out.lt x hx).1; omega)
      have S8 : Src w7 w.heap.size len := by
        have s1 := srcAlloc HS7.out (.cells #[.int .i64 d] 2)
        obtain ⟨A', cap', a', s', hT, k1, k2, k3, k4, k5⟩ := s1
        refine ⟨A', cap', a', s', (hgrow7.block w.heap.size hT.lt (fun e => by have := (HO7.out.lt _ e.symm).1; omega)).trans hT, k1, k2, k3, k4, fun hp => ?_⟩
        obtain ⟨cb, co, hA, hlt, hbl, hc⟩ := k5 hp
        refine ⟨cb, co, hA, hlt, Nat.lt_of_lt_of_le hbl hgrow7.size, fun j hj => ?_⟩
        obtain ⟨z, q0, q1, hz⟩ := hc j hj
        exact ⟨z, q0, q1, (World.cell?_of_block (a := ⟨cb, co + j, none⟩) (hgrow7.block cb hbl (fun e => by have := (HO7.out.lt _ e.symm).1; omega))).trans hz⟩
      have HO8 := Lib.hid hown7
      have HS8 := Lib.hid S8
      clear hown7 hgrow7 S8
      go_wp2_with fail
      go_roundw
      case rel => exact ⟨m - 1, k + 1, v', xs ++ [d], by omega, by go_num, rfl, HO8, HS8, hb8⟩
      case measure => simp [intOf]; omega
    · have z1 : decide ((0 : Int) < (m : Int)) = false := decide_eq_false (by omega)
      have z1' : decide (0 < m) = false := decide_eq_false hm
      have C2 := Lib.hid (cNext w.heap.size len 24 wr hlen (by omega) (by omega) HS.out)
      obtain ⟨A1, c1, hv1⟩ := rowSl HO.out
      go_wp2_with fail
      refine C2.out.mono ?_
      rintro e w4 ⟨a, ha0, ha1, rfl, hS4, g4⟩
      have hb4 := hbw.grown g4 hbw.size (fun z hz => by cases hz; exact Nat.le_refl _)
      have HO4 := Lib.hid (HO.out.kept g4 (by
        cases hv : Value.ownBlock _ with
        | none => exact .inl rfl
        | some x =>
          have h1 := (HO.out.lt x hv).1
          exact .inr (by intro e; injection e with e; omega)))
      clear ha1 C2
      by_cases h0 : a = 0
      · have z2 : (a == 0) = true := by simp [h0]
        have C3 := Lib.hid (cNext w.heap.size len 2 w4 hlen (by omega) (by omega) hS4)
        clear h0 hS4
        go_wp2_with fail
        refine C3.out.mono ?_
        rintro e w5 ⟨p, hp0, hp1, rfl, _, g5⟩
        have hp2 : p < 2 := by omega
        have hb5 := hb4.grown g5 hb4.size (fun z hz => by cases hz; exact Nat.le_refl _)
        clear C3 g5 hp1
        rcases (by omega : p = 0 ∨ p = 1) with rfl | rfl
        · have hp3 : True := trivial
          go_wp2_with (at_make; refine wpList_make_full _ rfl _ _ 37 rfl w5.heap.size 2 i0 _ 1 Tryd.underlying37 hi0 hz0 hz1 _ _ _ _ 60 rfl rfl (by simp) (by simp) ?b2 ?b3 (Nat.le_refl _) ?_)
          case b2 => rw [hz2]; omega
          case b3 => unfold maxLen; omega
          intro w6 hown6 hgrow6
          rw [zerosI] at hown6
          have hb6 : Below w.heap.size w w6 := hb5.grown hgrow6 hb5.size (fun z hz => by cases hz)
          have HO6 := Lib.hid (RowI.of hown6)
          clear hown6 hgrow6
          go_wp2_with fail
          go_ret
          exact ⟨_, 60, 60, _, by omega, rfl, HO6.out, hb6⟩
        · have hp3 : True := trivial
          go_wp2_with (at_make; refine wpList_make_full _ rfl _ _ 37 rfl w5.heap.size 2 i0 _ 1 Tryd.underlying37 hi0 hz0 hz1 _ _ _ _ 61 rfl rfl (by simp) (by simp) ?b2 ?b3 (Nat.le_refl _) ?_)
          case b2 => rw [hz2]; omega
          case b3 => unfold maxLen; omega
          intro w6 hown6 hgrow6
          rw [zerosI] at hown6
          have hb6 : Below w.heap.size w w6 := hb5.grown hgrow6 hb5.size (fun z hz => by cases hz)
          have HO6 := Lib.hid (RowI.of hown6)
          clear hown6 hgrow6
          go_wp2_with fail
          go_ret
          exact ⟨_, 61, 61, _, by omega, rfl, HO6.out, hb6⟩
      · have z2 : (a == 0) = false := by rw [beq_eq_false_iff_ne]; exact h0
        subst hv1
        clear h0 hS4
        go_wp2_with fail
        go_ret
        exact ⟨A1, k, c1, xs, by omega, rfl, RowI.of HO4.out, hb4⟩
end Go.Proofs.YtdbbolnmcbhflaaDoor
