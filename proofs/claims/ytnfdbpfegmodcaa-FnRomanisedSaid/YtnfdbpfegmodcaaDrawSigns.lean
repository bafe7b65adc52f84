/-
  The contract of spec.l04DrawSigns.
-/
import Derived.Test.YtnfdbpfegmodcaaDrawRule
namespace Go.Proofs.Ytnfdbpfegmodcaa
set_option linter.unusedVariables false
open Go.RowKit

theorem src_drew {w : World} {B len : Nat} (h : Src w B len) : Src w.drew B len := h
theorem info_num : (Try.prog.info? 2).map (fun i => (i.zero, i.size, i.bytes)) = some (some (.int .i64 0), 1, 8) := by kernel_rfl
theorem zerosI (n : Nat) : (madeCells #[Value.int .i64 0] n).toList = intV (List.replicate n 0) := by
  apply List.ext_getElem?
  intro j
  by_cases h : j < n
  · simp [madeCells, intV, h, Nat.mod_one]
  · rw [List.getElem?_eq_none (by simp [madeCells]; omega), List.getElem?_eq_none (by simp [intV]; omega)]
theorem own_keptB {w w' : World} {lo n B : Nat} {v : Value} {zs : List Value} (h : w.ownsRow lo 2 1 v n zs) (hg : w.grownBy w' (some B)) (hB : B < lo) : w'.ownsRow lo 2 1 v n zs :=
  h.kept hg (by
    cases hv : Value.ownBlock _ with
    | none => exact .inl rfl
    | some x =>
      have h1 := (h.lt x hv).1
      exact .inr (by intro e; injection e with e; omega))
theorem int_formS {w : World} {b n : Nat} {v : Value} {xs : List Value} (h : w.ownsRow b 2 1 v n xs) : ∃ A c, v = .slice A n c ∧ n ≤ c ∧ c ≤ maxLen := by
  rcases h.2 with ⟨rfl, h0⟩ | ⟨g, cap, cur, rfl, h1, h2, h3, h4, h5⟩
  · exact ⟨none, 0, by rw [h0], by omega, by unfold maxLen; omega⟩
  · exact ⟨_, _, rfl, h3, h4⟩
theorem rowLowS {w : World} {b b' : Nat} {t : TypeId} {s n : Nat} {v : Value} {xs : List Value} (h : w.ownsRow b t s v n xs) (hb : b' ≤ b) : w.ownsRow b' t s v n xs := by
  refine ⟨h.1, ?_⟩
  rcases h.2 with h2 | ⟨g, cap, cur, h1, h2, h3⟩
  · exact .inl h2
  · exact .inr ⟨g, cap, cur, h1, Nat.le_trans hb h2, h3⟩
def SgPost (B len : Nat) (w : World) (e : Ending) (w' : World) : Prop := ∃ (A : Option Addr) (n c : Nat) (xs : List Int), n ≤ 13 ∧ e = .returned (.slice A n c) ∧ n ≤ c ∧ c ≤ maxLen ∧ w'.ownsRow w.heap.size 2 1 (.slice A n c) n (intV xs) ∧ Src w' B len ∧ w.grownBy w' (some B)
theorem SgPost.mk {B len n : Nat} {w w' : World} {v : Value} {xs : List Int} (hn : n ≤ 13) (h : w'.ownsRow w.heap.size 2 1 v n (intV xs)) (hS : Src w' B len) (hg : w.grownBy w' (some B)) : SgPost B len w (.returned v) w' := by
  obtain ⟨A, c, rfl, h1, h2⟩ := int_formS h
  exact ⟨A, n, c, xs, hn, rfl, h1, h2, h, hS, hg⟩

set_option maxHeartbeats 4000000 in
set_option maxRecDepth 100000 in
theorem cDrawSigns (B len : Nat) (w : World) (hlen : len ≤ 1048576) (h : Src w B len) :
    Calls Try.prog 58 #[.pointer (some ⟨B, 0, none⟩)] w (SgPost B len w) := by
  obtain ⟨i0, hi0, hz0, hz1, hz2⟩ := info_parts info_num
  have hB := h.lt
  have O3 := Lib.hid (World.ownsRow_lit (e := 2) (base := w.heap.size) (size := 1) w #[] 0 (by omega) (by decide) rfl)
  have S3 := srcAlloc h (.cells #[] 2)
  have C2 := Lib.hid (cNext B len 6 _ hlen (by omega) (by omega) S3)
  have G3 := Lib.hid (World.grownBy_alloc w (.cells #[] 2) (some B))
  clear h S3
  go_enter Try.func58, Try.ntmps58
  go_wp2_with fail
  refine C2.out.mono ?_
  rintro e w4 ⟨r, hr0, hr1, rfl, hS4, g4⟩
  obtain ⟨n0, rfl⟩ : ∃ k : Nat, r = k := ⟨r.toNat, by omega⟩
  have hn0 : n0 < 6 := by omega
  have G4 := Lib.hid (G3.out.trans g4)
  have O4 := Lib.hid (own_keptB O3.out g4 hB)
  have HS4 := Lib.hid hS4
  clear hS4 g4 hr1 C2 O3 G3
  go_wp2_with fail
  go_loopw [3, 4] (fun o i wr => ∃ (m k : Nat) (u : Value) (zs : List Int), k + m ≤ 6 ∧ i = .int .i64 m ∧ u = o ∧ Hid (wr.ownsRow w.heap.size 2 1 u k (intV zs)) ∧ Hid (Src wr B len) ∧ Hid (w.grownBy wr (some B))) (fun _ i _ => (intOf i).toNat)
  case atStart => exact ⟨1 + n0, 0, _, [], by omega, by go_num, rfl, O4, HS4, G4⟩
  case round =>
    clear O4 HS4 G4
    obtain ⟨m, k, u, zs, hkm, rfl, rfl, HO, HS, HG⟩ := hrel
    by_cases hm : 0 < m
    · have z1 : decide ((0 : Int) < (m : Int)) = true := decide_eq_true (by omega)
      have z1' : decide (0 < m) = true := decide_eq_true hm
      have C3 := Lib.hid (cNext B len 5 wr hlen (by omega) (by omega) HS.out)
      go_wp2_with fail
      refine C3.out.mono ?_
      rintro e w5 ⟨r, hr0, hr1, rfl, hS5, g5⟩
      have HG5 := Lib.hid (HG.out.trans g5)
      have HO5 := Lib.hid (own_keptB HO.out g5 hB)
      have HS5 := Lib.hid hS5
      clear hS5 g5 HO HS HG hr1 C3
      have hp5 := HG5.out.size
      go_wp2_with (at_builtin; refine wpList_append_own _ rfl _ _ 25 rfl w.heap.size 2 i0 _ 1 8 Try.underlying25 hi0 hz0 hz1 hz2 rfl (by decide) _ _ _ rfl (HO5.out.alloc _) ⟨w5.heap.size, 0, none⟩ 1 1 [.int .i64 r] rfl rfl ?c1 ?c2 ?c3 ?c4 ?c5 ?_)
      case c1 => exact one_cell' _ _ _ (new_one _ _ _)
      case c2 => intro u hu; simp at hu; subst hu; rfl
      case c3 => unfold maxLen; omega
      case c4 => omega
      case c5 => simp; omega
      intro v' w7 hown7 hgrow7 _
      rw [intV_snoc] at hown7
      have hrow : ∀ x, Value.ownBlock _ = some x → w.heap.size ≤ x := fun x hx => (HO5.out.lt x hx).1
      have gA := World.grownBy_alloc w5 (.cells #[.int .i64 r] 2) (some B)
      have HO7 := Lib.hid hown7
      have HS7 := Lib.hid ((srcAlloc HS5.out (.cells #[.int .i64 r] 2)).growD hgrow7 (fun x hx => by have := hrow x hx; omega))
      have HG7 := Lib.hid (grown_after (HG5.out.trans gA) hgrow7 (fun x hx => hrow x hx))
      clear hown7 hgrow7 gA hrow
      go_wp2_with fail
      go_roundw
      case rel => exact ⟨m - 1, k + 1, v', zs ++ [r], by omega, by go_num, rfl, HO7, HS7, HG7⟩
      case measure => simp [intOf]; omega
    · have z1 : decide ((0 : Int) < (m : Int)) = false := decide_eq_false (by omega)
      have z1' : decide (0 < m) = false := decide_eq_false hm
      have C3 := Lib.hid (cNext B len 24 wr hlen (by omega) (by omega) HS.out)
      go_wp2_with fail
      refine C3.out.mono ?_
      rintro e w5 ⟨r, hr0, hr1, rfl, hS5, g5⟩
      have HG5 := Lib.hid (HG.out.trans g5)
      have HO5 := Lib.hid (own_keptB HO.out g5 hB)
      have HS5 := Lib.hid hS5
      clear hS5 g5 C3 HO HS HG hr1
      have hp5 := HG5.out.size
      by_cases h0 : r = 0
      · have z2 : (r == 0) = true := by simp [h0]
        have z3 : (r == 1) = false := by rw [beq_eq_false_iff_ne]; omega
        have z4 : (r == 2) = false := by rw [beq_eq_false_iff_ne]; omega
        have hR := rowLit w5 [6, 20, -1] (-1) 20 (by intro v hv; simp at hv; omega) 2
        have hS6 := srcAlloc HS5.out (.cells (([6, 20, -1] : List Int).map (Value.int .i64)).toArray 2)
        have C4 := Lib.hid (cPick B len w5.heap.size 3 3 (-1) 20 _ hlen (by omega) (by omega) (by have := HS5.out.lt; omega) hR hS6)
        have gZ := World.grownBy_alloc w5 (.cells (([6, 20, -1] : List Int).map (Value.int .i64)).toArray 2) (some B)
        have HG6 := Lib.hid (HG5.out.trans gZ)
        have HO6 := Lib.hid (own_keptB HO5.out gZ hB)
        clear hR hS6 h0 gZ
        go_wp2_with fail
        refine C4.out.mono ?_
        rintro e w6 ⟨d, hd0, hd1, rfl, hS7, g7⟩
        have HG7 := Lib.hid (HG6.out.trans g7)
        have HO7 := Lib.hid (own_keptB HO6.out g7 hB)
        have HS7 := Lib.hid hS7
        have hp7 := HG7.out.size
        clear hS7 g7 C4 HG6 HO6 HG5 HO5 HS5
        go_wp2_with (at_builtin; refine wpList_append_own _ rfl _ _ 25 rfl w.heap.size 2 i0 _ 1 8 Try.underlying25 hi0 hz0 hz1 hz2 rfl (by decide) _ _ _ rfl (HO7.out.alloc _) ⟨w6.heap.size, 0, none⟩ 1 1 [.int .i64 d] rfl rfl ?d1 ?d2 ?d3 ?d4 ?d5 ?_)
        case d1 => exact one_cell' _ _ _ (new_one _ _ _)
        case d2 => intro u hu; simp at hu; subst hu; rfl
        case d3 => unfold maxLen; omega
        case d4 => omega
        case d5 => simp; omega
        intro v' w7 hown7 hgrow7 _
        rw [intV_snoc] at hown7
        have hrow : ∀ x, Value.ownBlock _ = some x → w.heap.size ≤ x := fun x hx => (HO7.out.lt x hx).1
        have gA := World.grownBy_alloc w6 (.cells #[.int .i64 d] 2) (some B)
        have HO8 := Lib.hid hown7
        have HS8 := Lib.hid ((srcAlloc HS7.out (.cells #[.int .i64 d] 2)).growD hgrow7 (fun x hx => by have := hrow x hx; omega))
        have HG8 := Lib.hid (grown_after (HG7.out.trans gA) hgrow7 (fun x hx => hrow x hx))
        clear hown7 hgrow7 gA hrow
        go_wp2_with fail
        go_ret
        exact SgPost.mk (by omega) HO8.out HS8.out HG8.out
      have z2 : (r == 0) = false := by rw [beq_eq_false_iff_ne]; exact h0
      by_cases h1 : r = 1
      · have z3 : (r == 1) = true := by simp [h1]
        have z4 : (r == 2) = false := by rw [beq_eq_false_iff_ne]; omega
        have C4 := Lib.hid (cNext B len 2 w5 hlen (by omega) (by omega) HS5.out)
        clear h0 h1
        go_wp2_with fail
        refine C4.out.mono ?_
        rintro e w6 ⟨p, hp0, hp1, rfl, hS6, g6⟩
        have HG6 := Lib.hid (HG5.out.trans g6)
        have HS6 := Lib.hid hS6
        have hp2 : p < 2 := by omega
        clear g6 hS6 hp1 C4
        rcases (by omega : p = 0 ∨ p = 1) with rfl | rfl
        · have hp3 : True := trivial
          go_wp2_with (at_make; refine wpList_make_full _ rfl _ _ 25 rfl w6.heap.size 2 i0 _ 1 Try.underlying25 hi0 hz0 hz1 _ _ _ _ 12 rfl rfl (by simp) (by simp) ?b2 ?b3 (Nat.le_refl _) ?_)
          case b2 => rw [hz2]; omega
          case b3 => unfold maxLen; omega
          intro w7 hown7 hgrow7
          rw [zerosI] at hown7
          have HS7 := Lib.hid (HS6.out.growD hgrow7 (fun x hx => by cases hx))
          have HG7 := Lib.hid (grown_after HG6.out hgrow7 (fun x hx => by cases hx))
          have HO7 := Lib.hid (rowLowS hown7 HG6.out.size)
          clear hown7 hgrow7
          go_wp2_with fail
          go_ret
          exact SgPost.mk (by omega) HO7.out HS7.out HG7.out
        · have hp3 : True := trivial
          go_wp2_with (at_make; refine wpList_make_full _ rfl _ _ 25 rfl w6.heap.size 2 i0 _ 1 Try.underlying25 hi0 hz0 hz1 _ _ _ _ 13 rfl rfl (by simp) (by simp) ?b2 ?b3 (Nat.le_refl _) ?_)
          case b2 => rw [hz2]; omega
          case b3 => unfold maxLen; omega
          intro w7 hown7 hgrow7
          rw [zerosI] at hown7
          have HS7 := Lib.hid (HS6.out.growD hgrow7 (fun x hx => by cases hx))
          have HG7 := Lib.hid (grown_after HG6.out hgrow7 (fun x hx => by cases hx))
          have HO7 := Lib.hid (rowLowS hown7 HG6.out.size)
          clear hown7 hgrow7
          go_wp2_with fail
          go_ret
          exact SgPost.mk (by omega) HO7.out HS7.out HG7.out
      have z3 : (r == 1) = false := by rw [beq_eq_false_iff_ne]; exact h1
      by_cases h2 : r = 2
      · have z4 : (r == 2) = true := by simp [h2]
        have O9 := Lib.hid (World.ownsRow_lit (e := 2) (base := w.heap.size) (size := 1) w5 #[] 0 (by omega) (by decide) rfl)
        have S9 := Lib.hid (srcAlloc HS5.out (.cells #[] 2))
        have G9 := Lib.hid (HG5.out.trans (World.grownBy_alloc w5 (.cells #[] 2) (some B)))
        clear h0 h1 h2
        go_wp2_with fail
        go_ret
        exact SgPost.mk (xs := []) (by omega) O9.out S9.out G9.out
      have z4 : (r == 2) = false := by rw [beq_eq_false_iff_ne]; exact h2
      clear h0 h1 h2
      go_wp2_with fail
      go_ret
      exact SgPost.mk (by omega) HO5.out HS5.out HG5.out
end Go.Proofs.Ytnfdbpfegmodcaa
