/-
  The contracts of spec.l03Lower, spec.l03Find and spec.IsAlphabet.
-/
import Derived.Test.YthlilfdndpnbkaaGreatDoorMu2
import Derived.Test.YthlilfdndpnbkaaGreatDoorMu5
import Derived.Test.YthlilfdndpnbkaaGreatDoorMu3
import Derived.Below
import Derived.Deep.Slices
import Derived.Deep.Fields
import Derived.ChangeSame
import Derived.Lib.SmallJoins
import Derived.Deep.AppendLies
import Derived.Laws.OwnMore
import Derived.WalkKit
import Derived.Test.YthlilfdndpnbkaaGreatDoorChecked
import Derived.Test.YthlilfdndpnbkaaGreatDoorMu4
import Derived.Laws.NewBlocks
import Derived.OwnWalk
import Derived.Deep.RegionHeld3
import Derived.Deep.DeepCutAuto
import Derived.Test.YthlilfdndpnbkaaGreatDoorMu1
import Derived.BigQuiet
import Derived.Deep.QuietTactic
import Derived.IntWalk
import Derived.Deep.RegionWith
namespace Go.Proofs.YthlilfdndpnbkaaGreatDoor
section
set_option linter.unusedVariables false
open Go.RowKit

set_option maxHeartbeats 400000 in
theorem cLower (s : ByteArray) (w : World) (hs : s.size ≤ maxLen) :
    Calls Tryz.prog 109 #[.string s, .int .i64 1, .int .i64 3] w fun e w' => e = .returned (.bool (letterB s)) ∧ w = w' := by
  unfold maxLen at hs
  go_enter Tryz.func109, Tryz.ntmps109
  go_wp2
  go_loop [7] (fun i => ∃ k : Nat, k ≤ s.size ∧ i = .int .i64 k ∧ Hid (lowAll (s.data.toList.take k) = true)) (fun i => s.size - (intOf i).toNat)
  case atStart => exact ⟨0, Nat.zero_le _, rfl, Lib.hid (lowAll_zero s)⟩
  case round =>
    obtain ⟨k, hk, rfl, HA⟩ := hrel
    by_cases hlt : k < s.size
    · go_wp2
      all_goals first
        | (have hno : (s[k].toNat : Int) < 97 ∨ (122 : Int) < (s[k].toNat : Int) := by first | assumption | omega
           go_ret
           exact ⟨ret_bool (letter_stop s k hlt (lowB_no _ hno)).symm, rfl⟩)
        | (go_round
           case rel => exact ⟨k + 1, by omega, by go_num, Lib.hid (lowAll_step s k hlt HA.out (lowB_yes _ (by omega) (by omega)))⟩
           case measure => simp [intOf]; omega)
    · go_wp2_with (go_at_call 92; refine (cIn_any _ _ _ _).mono ?_; rintro e w' ⟨rfl, rfl⟩)
      go_ret
      exact ⟨ret_bool (letter_sum s ((lowAll_end s k (by omega)).symm.trans HA.out)).symm, rfl⟩

theorem toList_beq (a b : ByteArray) : (a.toList == b.toList) = decide (a = b) := by
  by_cases h : a = b
  · simp [h]
  · rw [decide_eq_false h, beq_eq_false_iff_ne]
    intro e
    rw [ByteArray.toList_eq, ByteArray.toList_eq] at e
    exact h (ByteArray.ext (Array.toList_inj.1 e))
theorem take_snocL {xs : List ByteArray} {k : Nat} {x : ByteArray} (h : xs[k]? = some x) : xs.take (k + 1) = xs.take k ++ [x] := by
  have hk : k < xs.length := (List.getElem?_eq_some_iff.1 h).1
  have hx : xs[k] = x := (List.getElem?_eq_some_iff.1 h).2
  rw [List.take_succ_eq_append_getElem hk, hx]

end
section
set_option linter.unusedVariables false
open Go.ChangeShapes Go.WideShapes Go.Deep Go.RowKit

/-- The slice at address A, of n elements, holds the spans xs; it lies below block B. -/
def SpanAt (w : World) (B : Nat) (A : Option Addr) (n : Nat) (xs : List Spn) : Prop :=
  xs.length = n ∧ ∀ (k : Nat) p, xs[k]? = some p → ∃ b o, A = some ⟨b, o, none⟩ ∧ b < B ∧ w.cell? ⟨b, o + k * 2, none⟩ = some (.int .i64 p.1) ∧ w.cell? ⟨b, o + k * 2 + 1, none⟩ = some (.int .i64 p.2)
theorem SpanAt.below {w w' : World} {B n : Nat} {A : Option Addr} {xs : List Spn} (h : SpanAt w B A n xs) (hb : Below B w w') : SpanAt w' B A n xs :=
  ⟨h.1, fun k p hp => by
    obtain ⟨b, o, hA, hlt, h1, h2⟩ := h.2 k p hp
    exact ⟨b, o, hA, hlt, (hb.cell (p := ⟨b, o + k * 2, none⟩) hlt).trans h1, (hb.cell (p := ⟨b, o + k * 2 + 1, none⟩) hlt).trans h2⟩⟩
theorem SpanAt.more {w : World} {B B' n : Nat} {A : Option Addr} {xs : List Spn} (h : SpanAt w B A n xs) (hB : B ≤ B') : SpanAt w B' A n xs :=
  ⟨h.1, fun k p hp => by
    obtain ⟨b, o, hA, hlt, h1, h2⟩ := h.2 k p hp
    exact ⟨b, o, hA, by omega, h1, h2⟩⟩
theorem SpanAt.nil (w : World) (B : Nat) (A : Option Addr) : SpanAt w B A 0 [] := ⟨rfl, fun k p h => by simp at h⟩
theorem add_plain2 (b o i : Nat) : (⟨b, o, none⟩ : Addr).add i = ⟨b, o + i, none⟩ := by
  unfold Addr.add
  split
  · rename_i h; simp_all
  · rfl
theorem SpanAt.own {w : World} {A : Option Addr} {n c base : Nat} {xs : List Spn} {t : TypeId} (h : w.ownsRow base t 2 (.slice A n c) n (spanV xs)) : SpanAt w w.heap.size A n xs := by
  have hl : xs.length = n := by have := h.1; rw [spanV_len] at this; omega
  refine ⟨hl, fun k p hp => ?_⟩
  have hk := (List.getElem?_eq_some_iff.1 hp).1
  obtain ⟨g, cap, hv, _, hlt⟩ := h.form (by omega)
  have hA : A = some ⟨g, 0, none⟩ := by injection hv
  subst hA
  have hc := spanV_at xs k p hp
  have h1 := h.cells (g := g) rfl _ _ hc.1
  have h2 := h.cells (g := g) rfl _ _ hc.2
  refine ⟨g, 0, rfl, hlt, ?_, ?_⟩
  · rw [← h1, add_plain2]
  · rw [← h2, add_plain2, Nat.zero_add, Nat.zero_add]
theorem _root_.Go.World.ownsRow.own_ {w : World} {A : Option Addr} {n c base : Nat} {xs : List Spn} {t : TypeId} (h : w.ownsRow base t 2 (.slice A n c) n (spanV xs)) : SpanAt w w.heap.size A n xs := SpanAt.own h
theorem exists_list {α : Type} {Q : Nat → α → Prop} : ∀ (n : Nat), (∀ i, i < n → ∃ p, Q i p) → ∃ l : List α, l.length = n ∧ ∀ (i : Nat) p, l[i]? = some p → Q i p
  | 0, _ => ⟨[], rfl, fun i p h => by simp at h⟩
  | n + 1, h => by
    obtain ⟨l, hl, hq⟩ := exists_list n (fun i hi => h i (by omega))
    obtain ⟨p, hp⟩ := h n (by omega)
    refine ⟨l ++ [p], by simp [hl], fun i q hi => ?_⟩
    by_cases hlt : i < n
    · rw [List.getElem?_append_left (by omega)] at hi; exact hq i q hi
    · rw [List.getElem?_append_right (by omega)] at hi
      have hil := (List.getElem?_eq_some_iff.1 hi).1
      simp at hil
      have hin : i = n := by omega
      subst hin
      rw [hl, Nat.sub_self] at hi
      obtain rfl : p = q := by simpa using hi
      exact hp
section
variable {H : Type} {enc : TypeId × Value → H} {w : World} {base : Nat} {spare : Nat → Bool} {held : Bool}
end
end
section
set_option linter.unusedVariables false
open Go.RowKit

theorem info_span : (Tryz.prog.info? 25).map (fun i => (i.zero, i.size, i.bytes)) = some (some (.agg #[.int .i64 0, .int .i64 0]), 2, 16) := by kernel_rfl
def copySp (xs : List Spn) (n k : Nat) : List Value := spanV (xs.take k) ++ List.replicate ((n - k) * 2) (.int .i64 0)
theorem copySp_zero (xs : List Spn) (n : Nat) : (madeCells #[Value.int .i64 0, Value.int .i64 0] (n * 2)).toList = copySp xs n 0 := by
  apply List.ext_getElem?
  intro j
  by_cases h : j < n * 2
  · have h2 : j % 2 = 0 ∨ j % 2 = 1 := by omega
    rcases h2 with h2 | h2 <;> simp [madeCells, copySp, spanV, h, h2]
  · rw [List.getElem?_eq_none (by simp [madeCells]; omega), List.getElem?_eq_none (by simp [copySp, spanV]; omega)]
theorem copySp_step (xs : List Spn) (n k : Nat) (p : Spn) (hn : xs.length = n) (h : xs[k]? = some p) : ((copySp xs n k).set (k * 2) (.int .i64 p.1)).set (k * 2 + 1) (.int .i64 p.2) = copySp xs n (k + 1) := by
  have hl := (List.getElem?_eq_some_iff.1 h).1
  have he : xs[k] = p := (List.getElem?_eq_some_iff.1 h).2
  have hs : (spanV (xs.take k)).length = k * 2 := by rw [spanV_len, List.length_take]; omega
  unfold copySp
  rw [List.set_append_right _ _ (by omega), List.set_append_right _ _ (by omega), List.take_succ_eq_append_getElem hl, he, spanV_app, spanV_one, hs, Nat.sub_self, List.append_assoc]
  congr 1
  obtain ⟨d, hd⟩ : ∃ d, n - k = d + 1 := ⟨n - k - 1, by omega⟩
  rw [hd, show n - (k + 1) = d by omega, show (d + 1) * 2 = d * 2 + 1 + 1 by omega, List.replicate_succ, List.replicate_succ, show k * 2 + 1 - k * 2 = 1 by omega]
  rfl
theorem copySp_all (xs : List Spn) (n : Nat) (hn : xs.length = n) : copySp xs n n = spanV xs := by
  unfold copySp; rw [List.take_of_length_le (by omega), Nat.sub_self]; simp

theorem below_set2' {B : Nat} {w w' : World} (h : Below B w w') {g : Nat} (hg : B ≤ g) (i j : Nat) (x y : Value) : Below B w ((w'.setCell ⟨g, i, none⟩ x).setCell ⟨g, j, none⟩ y) := (h.setCell hg x).setCell hg y
theorem keep_cells {W W' : World} {b c p q : Nat} {x y u v : Value} (h : W.cell? ⟨b, p, none⟩ = some x ∧ W.cell? ⟨b, p + 1, none⟩ = some y ∧ W.cell? ⟨c, q, none⟩ = some u ∧ W.cell? ⟨c, q + 1, none⟩ = some v ∧ b < W.heap.size ∧ c < W.heap.size) (hb : Below W.heap.size W W') :
    W'.cell? ⟨b, p, none⟩ = some x ∧ W'.cell? ⟨b, p + 1, none⟩ = some y ∧ W'.cell? ⟨c, q, none⟩ = some u ∧ W'.cell? ⟨c, q + 1, none⟩ = some v ∧ b < W'.heap.size ∧ c < W'.heap.size := by
  obtain ⟨h0, h1, h2, h3, l1, l2⟩ := h
  exact ⟨(hb.cell (p := ⟨b, p, none⟩) l1).trans h0, (hb.cell (p := ⟨b, p + 1, none⟩) l1).trans h1, (hb.cell (p := ⟨c, q, none⟩) l2).trans h2, (hb.cell (p := ⟨c, q + 1, none⟩) l2).trans h3, Nat.lt_of_lt_of_le l1 hb.size, Nat.lt_of_lt_of_le l2 hb.size⟩
end
section
set_option linter.unusedVariables false
open Go.RowKit

theorem wp_region_class {P : Program} {id : Nat} {Q : Exit → Act → World → Prop} {a : Act} {w : World} {l : List Oper} {T : Type} (f : T → World) (t0 : T) (h0 : f t0 = w.drewN 1) (hm : P.follows .mixedOrders = true) (hB : Region.lexB .any l.toArray = true)
    (h : wpQuiet P l.toArray (fun w' => ∃ t, w' = f t) (fun a' => ∀ w', (∃ t, w' = f t) → Q .normal a' w') l a) : (Code.region id l.toArray true).wp P Q a w :=
  wp_region_quiet (C := fun w' => ∃ t, w' = f t) hm hB ⟨t0, h0.symm⟩ (by simpa using h)

/-- All worlds above W, by a letter. -/
theorem class_of (W : World) : ∃ (T : Type) (f : T → World) (t0 : T), Nonempty T ∧ f t0 = W.drewN 1 ∧ (∀ t, Below W.heap.size W (f t)) ∧ ∀ w', Below W.heap.size W w' → ∃ t, w' = f t :=
  ⟨{ w' : World // Below W.heap.size W w' }, Subtype.val, ⟨W.drewN 1, rfl, rfl, rfl, Nat.le_refl _, fun _ _ => rfl⟩, ⟨⟨W, Below.refl _ _⟩⟩, rfl, fun t => t.2, fun w' h => ⟨⟨w', h⟩, rfl⟩⟩

theorem Calls.class_of {P : Program} {g : FuncId} {args : Array Value} {v : Value} {T : Type} {f : T → World} {W : World} (hf : ∀ t, Below W.heap.size W (f t)) (hb : ∀ w', Below W.heap.size W w' → ∃ t, w' = f t) {t : T}
    (h : Calls P g args (f t) fun e w' => e = .returned v ∧ Below (f t).heap.size (f t) w') : Calls P g args (f t) fun e w' => e = .returned v ∧ ∃ t', w' = f t' :=
  h.mono fun _ _ ⟨he, hw⟩ => ⟨he, hb _ ((hf t).trans (hw.mono (hf t).size))⟩
theorem Calls.class_same {P : Program} {g : FuncId} {args : Array Value} {v : Value} {T : Type} {f : T → World} {t : T}
    (h : Calls P g args (f t) fun e w' => e = .returned v ∧ f t = w') : Calls P g args (f t) fun e w' => e = .returned v ∧ ∃ t', w' = f t' :=
  h.mono fun _ _ ⟨he, hw⟩ => ⟨he, t, hw.symm⟩
end
section
set_option linter.unusedVariables false
open Go.RowKit

theorem keep_three {W W' : World} {B b q : Nat} {x y v : Value} (h : W.cell? ⟨B, 0, none⟩ = some x ∧ W.cell? ⟨B, 1, none⟩ = some y ∧ W.cell? ⟨b, q, none⟩ = some v ∧ B < W.heap.size ∧ b < W.heap.size) (hb : Below W.heap.size W W') :
    W'.cell? ⟨B, 0, none⟩ = some x ∧ W'.cell? ⟨B, 1, none⟩ = some y ∧ W'.cell? ⟨b, q, none⟩ = some v ∧ B < W'.heap.size ∧ b < W'.heap.size := by
  obtain ⟨h0, h1, h2, l1, l2⟩ := h
  exact ⟨(hb.cell (p := ⟨B, 0, none⟩) l1).trans h0, (hb.cell (p := ⟨B, 1, none⟩) l1).trans h1, (hb.cell (p := ⟨b, q, none⟩) l2).trans h2, Nat.lt_of_lt_of_le l1 hb.size, Nat.lt_of_lt_of_le l2 hb.size⟩

set_option maxHeartbeats 2000000 in
set_option maxRecDepth 100000 in
theorem cAre_impl (A : Option Addr) (n cap : Nat) (xs : List Spn) (w : World) (hbig : n ≤ 1048576) (h : SpanAt w w.heap.size A n xs) :
    Calls Tryz.prog 81 #[.slice A n cap] w fun e w' => e = .returned (.bool (yearsB xs)) ∧ Below w.heap.size w w' := by
  have H := Lib.hid h
  clear h
  by_cases h12 : 12 < n
  · have HX := Lib.hid (yearsB_long (xs := xs) (by have := H.out.1; omega))
    go_enter Tryz.func81, Tryz.ntmps81
    go_wp2
    go_ret
    exact ⟨ret_bool HX.out.symm, Below.refl _ _⟩
  go_enter Tryz.func81, Tryz.ntmps81
  go_wp2
  go_loopw [10] (fun i wr => ∃ k : Nat, k ≤ n ∧ i = .int .i64 k ∧ Hid (chainB xs k = true) ∧ Below w.heap.size w wr) (fun i _ => n - (intOf i).toNat)
  case atStart => exact ⟨0, Nat.zero_le _, rfl, Lib.hid rfl, Below.refl _ _⟩
  case round =>
    obtain ⟨k, hk, rfl, HA, hbw⟩ := hrel
    by_cases hlt : k < n
    · obtain ⟨p, hp⟩ : ∃ p, xs[k]? = some p := ⟨xs[k]'(by have := H.out.1; omega), List.getElem?_eq_getElem _⟩
      obtain ⟨b, o, rfl, hbl, c0, c1⟩ := (H.out.below hbw).2 k p hp
      have hbl2 := Nat.lt_of_lt_of_le hbl hbw.size
      obtain ⟨x, y⟩ := p
      have HP := Lib.hid hp
      have CV := Lib.hid (fun W => cValid x y W)
      have HB := Lib.hid (hbw.alloc hbw.size (.cells #[.int .i64 x, .int .i64 y] 25))
      have n0 := (box_cell wr x y 25).1
      have n1 := (box_cell wr x y 25).2
      have m0 := (World.cell?_alloc_lt wr (.cells #[.int .i64 x, .int .i64 y] 25) ⟨b, o + k * 2, none⟩ hbl2).trans c0
      have q0 : wr.heap.size < (wr.alloc (.cells #[.int .i64 x, .int .i64 y] 25)).heap.size := by simp
      have q1 : b < (wr.alloc (.cells #[.int .i64 x, .int .i64 y] 25)).heap.size := Nat.lt_trans hbl2 q0
      clear hp
      cases hv : spB x y
      · have HN : Hid (yearsB xs = false) := Lib.hid (yearsB_stop (k := k) (by have := H.out.1; omega) (by
          cases k with
          | zero => rw [stepB_zero HP.out]; exact hv
          | succ k =>
            obtain ⟨q, hq⟩ : ∃ q, xs[k]? = some q := ⟨xs[k]'(by have := H.out.1; omega), List.getElem?_eq_getElem _⟩
            rw [stepB_succ HP.out hq, hv]; rfl))
        rw [hv] at CV
        clear hv hbw
        go_wp2_with fail
        obtain ⟨T, f, t0, hT, ht0, hf, hback⟩ := class_of (wr.alloc (.cells #[.int .i64 x, .int .i64 y] 25))
        have k0 : ∀ t, (f t).cell? ⟨wr.heap.size, 0, none⟩ = some (.int .i64 x) := fun t => ((hf t).cell (p := ⟨wr.heap.size, 0, none⟩) q0).trans n0
        have k1 : ∀ t, (f t).cell? ⟨wr.heap.size, 1, none⟩ = some (.int .i64 y) := fun t => ((hf t).cell (p := ⟨wr.heap.size, 1, none⟩) q0).trans n1
        have HF := Lib.hid hf
        have HK := Lib.hid hback
        clear hf hback
        refine wp_region_class f t0 ht0 (by kernel_rfl) (by kernel_rfl) ?_
        clear ht0
        repeat (go_big_quiet_step (first | (go_at_call 87; exact Calls.class_of HF.out HK.out (CV.out _))))
        refine wpQuiet_nil ?_
        rintro w' ⟨t, rfl⟩
        have hbt := HB.out.trans ((HF.out t).mono HB.out.size)
        go_wp2
        go_ret
        exact ⟨ret_bool HN.out.symm, hbt⟩
      · rw [hv] at CV
        by_cases hk0 : k = 0
        · have HC : Hid (chainB xs (k + 1) = true) := Lib.hid (chainB_step HA.out (by
            have h := HP.out
            rw [hk0] at h ⊢
            rw [stepB_zero h]; exact hv))
          have z1 : decide (0 < k) = false := decide_eq_false (by omega)
          have z2 : decide ((0 : Int) < (k : Int)) = false := decide_eq_false (by omega)
          clear hv hbw hk0
          go_wp2_with fail
          obtain ⟨T, f, t0, hT, ht0, hf, hback⟩ := class_of (wr.alloc (.cells #[.int .i64 x, .int .i64 y] 25))
          have k0 : ∀ t, (f t).cell? ⟨wr.heap.size, 0, none⟩ = some (.int .i64 x) := fun t => ((hf t).cell (p := ⟨wr.heap.size, 0, none⟩) q0).trans n0
          have k1 : ∀ t, (f t).cell? ⟨wr.heap.size, 1, none⟩ = some (.int .i64 y) := fun t => ((hf t).cell (p := ⟨wr.heap.size, 1, none⟩) q0).trans n1
          have HF := Lib.hid hf
          have HK := Lib.hid hback
          clear hf hback
          refine wp_region_class f t0 ht0 (by kernel_rfl) (by kernel_rfl) ?_
          clear ht0
          repeat (go_big_quiet_step (first | (go_at_call 87; exact Calls.class_of HF.out HK.out (CV.out _))))
          refine wpQuiet_nil ?_
          rintro w' ⟨t, rfl⟩
          have hbt := HB.out.trans ((HF.out t).mono HB.out.size)
          go_wp2
          go_roundw
          case rel => exact ⟨k + 1, by omega, by go_num, HC, hbt⟩
          case measure => simp [intOf]; omega
        · obtain ⟨m, hm⟩ : ∃ m, k = m + 1 := ⟨k - 1, by omega⟩
          obtain ⟨q, hq⟩ : ∃ q, xs[m]? = some q := ⟨xs[m]'(by have := H.out.1; omega), List.getElem?_eq_getElem _⟩
          obtain ⟨b', o', hA, hbl', d0, d1⟩ := (H.out.below hbw).2 m q hq
          obtain ⟨rfl, rfl⟩ : b = b' ∧ o = o' := by injection hA with hA; injection hA with h1 h2; exact ⟨h1, h2⟩
          have hbq := spB_bd (chainB_sp HA.out (show m < k by omega) hq)
          obtain ⟨qx, qy⟩ := q
          have HS : Hid (stepB xs k = (spB x y && decide (qy + 2 ≤ x))) := Lib.hid (by
            have h := HP.out
            rw [hm] at h ⊢
            exact stepB_succ h hq)
          have z1 : decide (0 < k) = true := decide_eq_true (by omega)
          have z2 : decide ((0 : Int) < (k : Int)) = true := decide_eq_true (by omega)
          have hkm : (k : Int) - 1 = (m : Int) := by omega
          have e1 : (0 : Int) ≤ (m : Int) := Int.natCast_nonneg _
          have e2 : (m : Int) < (n : Int) := by omega
          have e3 : -3000 ≤ qy := by have := hbq.1; have := hbq.2.1; show (-3000 : Int) ≤ qy; omega
          have e4 : qy ≤ 3000 := hbq.2.2
          have m2 := (World.cell?_alloc_lt wr (.cells #[.int .i64 x, .int .i64 y] 25) ⟨b, o + m * 2 + 1, none⟩ hbl2).trans d1
          have s1 : IntKind.i64.wrap ((k : Int) - 1) = (k : Int) - 1 := IntWalk.i64_in _ (by omega)
          have s2 : IntKind.i64.wrap (qy + 2) = qy + 2 := IntWalk.i64_in _ (by omega)
          clear hq hA hbq d0 d1
          by_cases hg : x < qy + 2
          · have HN : Hid (yearsB xs = false) := Lib.hid (yearsB_stop (k := k) (by have := H.out.1; omega) (by rw [HS.out, decide_eq_false (by omega), Bool.and_false]))
            have z3 : decide (x < qy + 2) = true := decide_eq_true hg
            clear hv hbw hm hk0 hg
            go_wp2_with fail
            obtain ⟨T, f, t0, hT, ht0, hf, hback⟩ := class_of (wr.alloc (.cells #[.int .i64 x, .int .i64 y] 25))
            have k0 : ∀ t, (f t).cell? ⟨wr.heap.size, 0, none⟩ = some (.int .i64 x) := fun t => ((hf t).cell (p := ⟨wr.heap.size, 0, none⟩) q0).trans n0
            have k1 : ∀ t, (f t).cell? ⟨wr.heap.size, 1, none⟩ = some (.int .i64 y) := fun t => ((hf t).cell (p := ⟨wr.heap.size, 1, none⟩) q0).trans n1
            have k2 : ∀ t, (f t).cell? ⟨b, o + m * 2 + 1, none⟩ = some (.int .i64 qy) := fun t => ((hf t).cell (p := ⟨b, o + m * 2 + 1, none⟩) q1).trans m2
            have HF := Lib.hid hf
            have HK := Lib.hid hback
            clear hf hback
            refine wp_region_class f t0 ht0 (by kernel_rfl) (by kernel_rfl) ?_
            clear ht0
            repeat (go_big_quiet_step (first | (go_at_call 87; exact Calls.class_of HF.out HK.out (CV.out _))))
            refine wpQuiet_nil ?_
            rintro w' ⟨t, rfl⟩
            have hbt := HB.out.trans ((HF.out t).mono HB.out.size)
            go_wp2
            go_ret
            exact ⟨ret_bool HN.out.symm, hbt⟩
          · have HC : Hid (chainB xs (k + 1) = true) := Lib.hid (chainB_step HA.out (by rw [HS.out, hv, decide_eq_true (by omega)]; rfl))
            have z3 : decide (x < qy + 2) = false := decide_eq_false hg
            clear hv hbw hm hk0 hg
            go_wp2_with fail
            obtain ⟨T, f, t0, hT, ht0, hf, hback⟩ := class_of (wr.alloc (.cells #[.int .i64 x, .int .i64 y] 25))
            have k0 : ∀ t, (f t).cell? ⟨wr.heap.size, 0, none⟩ = some (.int .i64 x) := fun t => ((hf t).cell (p := ⟨wr.heap.size, 0, none⟩) q0).trans n0
            have k1 : ∀ t, (f t).cell? ⟨wr.heap.size, 1, none⟩ = some (.int .i64 y) := fun t => ((hf t).cell (p := ⟨wr.heap.size, 1, none⟩) q0).trans n1
            have k2 : ∀ t, (f t).cell? ⟨b, o + m * 2 + 1, none⟩ = some (.int .i64 qy) := fun t => ((hf t).cell (p := ⟨b, o + m * 2 + 1, none⟩) q1).trans m2
            have HF := Lib.hid hf
            have HK := Lib.hid hback
            clear hf hback
            refine wp_region_class f t0 ht0 (by kernel_rfl) (by kernel_rfl) ?_
            clear ht0
            repeat (go_big_quiet_step (first | (go_at_call 87; exact Calls.class_of HF.out HK.out (CV.out _))))
            refine wpQuiet_nil ?_
            rintro w' ⟨t, rfl⟩
            have hbt := HB.out.trans ((HF.out t).mono HB.out.size)
            go_wp2
            go_roundw
            case rel => exact ⟨k + 1, by omega, by go_num, HC, hbt⟩
            case measure => simp [intOf]; omega
    · obtain rfl : k = n := by omega
      have HY := Lib.hid (yearsB_end (xs := xs) (by rw [H.out.1]; exact HA.out))
      have hle : xs.length ≤ 12 := by have := H.out.1; omega
      go_wp2
      go_ret
      exact ⟨ret_bool (by rw [HY.out, decide_eq_true hle]), hbw⟩

end
section
set_option linter.unusedVariables false
open Go.RowKit

def cntS : List Spn → Int
  | [] => 0
  | p :: xs => p.2 - p.1 + 1 + cntS xs
theorem cntS_app (xs ys : List Spn) : cntS (xs ++ ys) = cntS xs + cntS ys := by
  induction xs with
  | nil => simp [cntS]
  | cons p xs ih => rw [List.cons_append, cntS, cntS, ih]; omega
theorem cntS_step {xs : List Spn} {k : Nat} {p : Spn} (h : xs[k]? = some p) : cntS (xs.take (k + 1)) = cntS (xs.take k) + (p.2 - p.1 + 1) := by
  have hl := (List.getElem?_eq_some_iff.1 h).1
  have he : xs[k] = p := (List.getElem?_eq_some_iff.1 h).2
  rw [List.take_succ_eq_append_getElem hl, he, cntS_app]; simp [cntS]
theorem cntS_bd {xs : List Spn} (h : ∀ p ∈ xs, spB p.1 p.2 = true) : 0 ≤ cntS xs ∧ cntS xs ≤ xs.length * 6001 := by
  induction xs with
  | nil => simp [cntS]
  | cons p xs ih =>
    have h1 := spB_bd (h p List.mem_cons_self)
    have h2 := ih (fun q hq => h q (List.mem_cons_of_mem _ hq))
    rw [cntS, List.length_cons]; omega
theorem years_mem {xs : List Spn} (h : yearsB xs = true) : ∀ p ∈ xs, spB p.1 p.2 = true := by
  intro p hp
  obtain ⟨k, hk, he⟩ := List.mem_iff_getElem.1 hp
  exact chainB_sp (yearsB_yes h).2 hk (by rw [← he]; exact List.getElem?_eq_getElem hk)
theorem cnt_take_bd {xs : List Spn} (h : yearsB xs = true) (k : Nat) : 0 ≤ cntS (xs.take k) ∧ cntS (xs.take k) ≤ 72012 := by
  have h1 := cntS_bd (xs := xs.take k) (fun p hp => years_mem h p (List.mem_of_mem_take hp))
  have h2 := (yearsB_yes h).1
  have h3 : (xs.take k).length ≤ 12 := by rw [List.length_take]; omega
  omega

def cntV (xs : List Spn) : Value := if yearsB xs then .tuple #[.int .i64 (cntS xs), .int .i64 0] else .tuple #[.int .i64 0, .int .i64 1]
theorem cntV_ok {xs : List Spn} (h : yearsB xs = true) : cntV xs = .tuple #[.int .i64 (cntS xs), .int .i64 0] := by unfold cntV; rw [if_pos h]
theorem cntV_bad {xs : List Spn} (h : yearsB xs = false) : cntV xs = .tuple #[.int .i64 0, .int .i64 1] := by unfold cntV; rw [if_neg (by simp [h])]

end
end Go.Proofs.YthlilfdndpnbkaaGreatDoor
