/-
  The contracts of slices.Clone and spec.l01Own at a tree, and of LeavesOf, AddClass and MoveClass, of the program and of the reference.
-/
import Derived.Test.YtlogbgkbdjdkkaaTr10F
import Derived.Lib.SliceRun
namespace Go.Proofs.Ytlogbgkbdjdkkaa
set_option linter.unusedVariables false
open Go.RowKit

theorem intV_get10 {xs : List Int} {j : Nat} {u : Value} (h : (intV xs)[j]? = some u) : ∃ x, xs[j]? = some x ∧ u = .int .i64 x := by
  unfold intV at h
  rw [List.getElem?_map] at h
  cases hx : xs[j]? with
  | none => rw [hx] at h; cases h
  | some x => rw [hx] at h; exact ⟨x, rfl, (Option.some.inj h).symm⟩
theorem intV_set10 (xs : List Int) (k : Nat) (x : Int) : (intV xs).set k (.int .i64 x) = intV (xs.set k x) := by unfold intV; rw [List.map_set]
/-- A copy of one's own, with an address. -/
def Own10 (n : Nat) (xs : List Int) (w : World) (e : Ending) (w' : World) : Prop :=
  ∃ g c, e = .returned (.slice (some ⟨g, 0, none⟩) n c) ∧ w'.ownsRow w.heap.size 2 1 (.slice (some ⟨g, 0, none⟩) n c) n (intV xs) ∧ w.heap.size ≤ g ∧ Below w.heap.size w w'
set_option maxHeartbeats 1000000 in
theorem cOwn10 (A : Option Addr) (n c : Nat) (xs : List Int) (w : World) (hp : 1 ≤ n) (hb : n ≤ 1048576) (h : NumAt w w.heap.size A n xs) :
    Calls Try.prog 62 #[.slice A n c] w (Own10 n xs w) := by
  obtain ⟨i0, hi0, hz0, hz1, hz2⟩ := info_parts info_i64
  obtain ⟨b, o, rfl, hbl, hcel⟩ := h.2 (by omega)
  have HL := Lib.hid h.1
  have HCEL := Lib.hid hcel
  clear h hcel
  go_enter Try.func62, Try.ntmps62
  go_wp2_with (at_builtin; refine wpList_append_lies _ rfl _ _ 24 rfl w.heap.size 2 i0 _ 1 8 Try.underlying24 hi0 hz0 hz1 hz2 rfl (by decide) _ 0 _ rfl (World.ownsRow_lit (e := 2) (base := w.heap.size) (size := 1) w #[] 0 (Nat.le_refl _) (by decide) rfl) ⟨b, o, none⟩ n c (intV xs) rfl ?c1 ?c2 ?c3 (by omega) ?c4 ?c5 ?c6 (w.heap.size + 1) (by simp) ?_)
  case c1 => rw [intV_len, HL.out]; omega
  case c2 =>
    intro j u hu
    obtain ⟨x, hx, rfl⟩ := intV_get10 hu
    rw [add_plain']
    exact (World.cell?_alloc_lt w _ ⟨b, o + j, none⟩ hbl).trans (HCEL.out j x hx)
  case c3 =>
    intro u hu
    obtain ⟨j, hj, rfl⟩ := List.getElem_of_mem hu
    obtain ⟨x, _, e⟩ := intV_get10 (List.getElem?_eq_getElem hj)
    rw [e]; rfl
  case c4 => unfold maxLen; omega
  case c5 => omega
  case c6 => simp
  intro g cap w1 hown hgrow hor hlt
  have hown2 : w1.ownsRow w.heap.size 2 1 (.slice (some ⟨g, 0, none⟩) n cap) n (intV xs) := by simpa using hown
  have HO := Lib.hid hown2
  have hbw : Below w.heap.size w w1 := ((Below.refl _ w).alloc (Nat.le_refl _) _).grown hgrow (by simp) (by intro k hk; simp [Value.ownBlock] at hk; omega)
  have hg0 : w.heap.size ≤ g := by
    rcases hor with h | h
    · simp [Value.ownBlock] at h; omega
    · omega
  clear hown hown2 hgrow hor
  go_wp2
  go_ret
  exact ⟨g, cap, rfl, HO.out, hg0, hbw⟩
set_option maxHeartbeats 1000000 in
theorem cClone10 (A : Option Addr) (n c : Nat) (xs : List Int) (w : World) (hp : 1 ≤ n) (hb : n ≤ 1048576) (h : NumAt w w.heap.size A n xs) :
    Calls Try.prog 61 #[.slice A n c] w (Own10 n xs w) := by
  obtain ⟨i0, hi0, hz0, hz1, hz2⟩ := info_parts info_i64
  have qs : ∀ (w : World) (a : Option Addr) (n c n' c' : Nat), (binOp .eql 24 (.slice a n c) (.slice none n' c')).run Try.prog w = .ok (.bool a.isNone) w := fun w a n c n' c' => Lib.run_eql_slice_nil w _ _ a n c n' c' Try.underlying24
  obtain ⟨b, o, rfl, hbl, hcel⟩ := h.2 (by omega)
  have HL := Lib.hid h.1
  have HCEL := Lib.hid hcel
  clear h hcel
  go_enter Try.func61, Try.ntmps61
  go_wp2_with (at_builtin; refine wpList_append_lies _ rfl _ _ 24 rfl w.heap.size 2 i0 _ 1 8 Try.underlying24 hi0 hz0 hz1 hz2 rfl (by decide) _ 0 _ rfl (World.ownsRow_lit (e := 2) (base := w.heap.size) (size := 1) w #[] 0 (Nat.le_refl _) (by decide) rfl) ⟨b, o, none⟩ n c (intV xs) rfl ?c1 ?c2 ?c3 (by omega) ?c4 ?c5 ?c6 (w.heap.size + 1) (by simp) ?_)
  case c1 => rw [intV_len, HL.out]; omega
  case c2 =>
    intro j u hu
    obtain ⟨x, hx, rfl⟩ := intV_get10 hu
    rw [add_plain']
    exact (World.cell?_alloc_lt w _ ⟨b, o + j, none⟩ hbl).trans (HCEL.out j x hx)
  case c3 =>
    intro u hu
    obtain ⟨j, hj, rfl⟩ := List.getElem_of_mem hu
    obtain ⟨x, _, e⟩ := intV_get10 (List.getElem?_eq_getElem hj)
    rw [e]; rfl
  case c4 => unfold maxLen; omega
  case c5 => omega
  case c6 => simp
  intro g cap w1 hown hgrow hor hlt
  have hown2 : w1.ownsRow w.heap.size 2 1 (.slice (some ⟨g, 0, none⟩) n cap) n (intV xs) := by simpa using hown
  have HO := Lib.hid hown2
  have hbw : Below w.heap.size w w1 := ((Below.refl _ w).alloc (Nat.le_refl _) _).grown hgrow (by simp) (by intro k hk; simp [Value.ownBlock] at hk; omega)
  have hg0 : w.heap.size ≤ g := by
    rcases hor with h | h
    · simp [Value.ownBlock] at h; omega
    · omega
  clear hown hown2 hgrow hor
  go_wp2
  go_ret
  exact ⟨g, cap, rfl, HO.out, hg0, hbw⟩

def lvZ (xs : List Int) : List Int := if clsC xs [] = 0 then leafU xs xs.length else []
theorem lvZ_yes {xs : List Int} (h : clsC xs [] = 0) : lvZ xs = leafU xs xs.length := if_pos h
theorem lvZ_no {xs : List Int} (h : clsC xs [] ≠ 0) : lvZ xs = [] := if_neg h
theorem clsC_empty {xs : List Int} (h : clsC xs [] = 0) : Tree xs := tree_of (clsC_zero h).1
theorem lvZ_len (xs : List Int) : (lvZ xs).length ≤ 20 := by
  by_cases h : clsC xs [] = 0
  · rw [lvZ_yes h]; have := leaf_len xs xs.length; have := (clsC_empty h).le; omega
  · rw [lvZ_no h]; exact Nat.zero_le _
theorem cls_tree {xs : List Int} (h : treeB xs = true) : clsC xs [] = 0 := clsC_none h rfl
def addC (xs : List Int) (a : Int) : Int := if clsC xs [a] = 0 then (if xs.length = 20 then 3 else 0) else clsC xs [a]
def addZ (xs : List Int) (a : Int) : List Int := if addC xs a = 0 then xs ++ [a] else []
theorem addC_no {xs : List Int} {a : Int} (h : clsC xs [a] ≠ 0) : addC xs a = clsC xs [a] := if_neg h
theorem addC_full {xs : List Int} {a : Int} (h : clsC xs [a] = 0) (hl : xs.length = 20) : addC xs a = 3 := by unfold addC; rw [if_pos h, if_pos hl]
theorem addC_yes {xs : List Int} {a : Int} (h : clsC xs [a] = 0) (hl : xs.length ≠ 20) : addC xs a = 0 := by unfold addC; rw [if_pos h, if_neg hl]
theorem addZ_no {xs : List Int} {a : Int} (h : addC xs a ≠ 0) : addZ xs a = [] := if_neg h
theorem addZ_yes {xs : List Int} {a : Int} (h : addC xs a = 0) : addZ xs a = xs ++ [a] := if_pos h
theorem addC_zero {xs : List Int} {a : Int} (h : addC xs a = 0) : clsC xs [a] = 0 ∧ xs.length ≠ 20 := by
  unfold addC at h
  by_cases h1 : clsC xs [a] = 0
  · rw [if_pos h1] at h
    by_cases h2 : xs.length = 20
    · rw [if_pos h2] at h; omega
    · exact ⟨h1, h2⟩
  · rw [if_neg h1] at h; exact absurd h h1
theorem addZ_len (xs : List Int) (a : Int) : (addZ xs a).length ≤ 21 := by
  by_cases h : addC xs a = 0
  · rw [addZ_yes h, List.length_append]
    have := (clsC_one (addC_zero h).1).1.le
    simp; omega
  · rw [addZ_no h]; exact Nat.zero_le _
def movC (xs : List Int) (a p : Int) : Int := if clsC xs [a, p] = 0 then (if a ≤ p then 5 else 0) else clsC xs [a, p]
def movZ (xs : List Int) (a p : Int) : List Int := if movC xs a p = 0 then xs.set a.toNat p else []
theorem movC_no {xs : List Int} {a p : Int} (h : clsC xs [a, p] ≠ 0) : movC xs a p = clsC xs [a, p] := if_neg h
theorem movC_state {xs : List Int} {a p : Int} (h : clsC xs [a, p] = 0) (hl : a ≤ p) : movC xs a p = 5 := by unfold movC; rw [if_pos h, if_pos hl]
theorem movC_yes {xs : List Int} {a p : Int} (h : clsC xs [a, p] = 0) (hl : ¬ a ≤ p) : movC xs a p = 0 := by unfold movC; rw [if_pos h, if_neg hl]
theorem movC_zero {xs : List Int} {a p : Int} (h : movC xs a p = 0) : clsC xs [a, p] = 0 ∧ p < a := by
  unfold movC at h
  by_cases h1 : clsC xs [a, p] = 0
  · rw [if_pos h1] at h
    by_cases h2 : a ≤ p
    · rw [if_pos h2] at h; omega
    · exact ⟨h1, by omega⟩
  · rw [if_neg h1] at h; exact absurd h h1
theorem movZ_no {xs : List Int} {a p : Int} (h : movC xs a p ≠ 0) : movZ xs a p = [] := if_neg h
theorem movZ_yes {xs : List Int} {a p : Int} (h : movC xs a p = 0) : movZ xs a p = xs.set a.toNat p := if_pos h
theorem movZ_len (xs : List Int) (a p : Int) : (movZ xs a p).length ≤ 20 := by
  by_cases h : movC xs a p = 0
  · rw [movZ_yes h, List.length_set]
    exact (clsC_two (movC_zero h).1).1.le
  · rw [movZ_no h]; exact Nat.zero_le _
theorem acc_own {w V V' : World} {n g c : Nat} {xs : List Int} (h : V'.ownsRow V.heap.size 2 1 (.slice (some ⟨g, 0, none⟩) n c) n (intV xs)) (hw : Below w.heap.size w V) (hb : Below V.heap.size V V') : Acc V.heap.size w V' (some ⟨g, 0, none⟩) n c xs :=
  ⟨h, below_thenA hw hb, hw.size, hb.size⟩

set_option maxHeartbeats 1000000 in
set_option maxRecDepth 100000 in
theorem cLeavesOf_impl (A : Option Addr) (n c : Nat) (xs : List Int) (w : World) (hb : n ≤ 1048576) (h : NumAt w w.heap.size A n xs) :
    Calls Try.prog 39 #[.slice A n c] w (Out10 (lvZ xs) (clsC xs []) w) := by
  have CC := Lib.hid (cChk0 A n c xs w hb h)
  have HL := Lib.hid h.1
  have CH : Hid (∀ (V : World) (x : Int), Below w.heap.size w V → Calls Try.prog 57 #[.slice A n c, .int .i64 x] V fun e w' => e = .returned (.bool (decide (x ∈ xs))) ∧ V = w') := Lib.hid (fun V x hV => cContains10 A n c w.heap.size xs x V (by unfold maxLen; omega) (h.below hV (Nat.le_refl _)))
  clear h
  by_cases h0 : clsC xs [] = 0
  · rw [lvZ_yes h0, h0]
    rw [h0] at CC
    have hn : n ≤ 20 := by have := (clsC_empty h0).le; have := HL.out; omega
    clear h0
    go_enter Try.func39, Try.ntmps39
    go_wp2_with (go_at_call 48; refine CC.out.mono ?_; rintro e w1 ⟨rfl, hb1⟩; have HB1 := Lib.hid hb1; clear hb1)
    go_loopw [5, 6, 14] (fun v u i wr => ∃ (A1 : Option Addr) (m c1 k : Nat) (u1 : Value), v = .slice A1 m c1 ∧ u = u1 ∧ m ≤ k ∧ k ≤ n ∧ i = .int .i64 k ∧ Hid (Acc w1.heap.size w wr A1 m c1 (leafU xs k))) (fun _ _ i _ => n - (intOf i).toNat)
    case atStart => exact ⟨_, 0, _, 0, _, rfl, rfl, Nat.le_refl _, Nat.zero_le _, rfl, Lib.hid (Acc.nil2 HB1.out)⟩
    case round =>
      obtain ⟨A1, m, c1, k, u1, rfl, rfl, hm, hk, rfl, HC⟩ := hrel
      by_cases hlt : k < n
      · have CX := Lib.hid (CH.out wr (k : Int) HC.out.2.1)
        have e1 : (0 : Int) ≤ (k : Int) := by omega
        have e2 : (k : Int) < (n : Int) := by omega
        by_cases hx : (k : Int) ∈ xs
        · rw [decide_eq_true hx] at CX
          have HU := Lib.hid (leaf_no hx)
          clear hx
          go_wp2_with (go_at_call 57; refine CX.out.mono ?_; rintro e w' ⟨rfl, rfl⟩)
          go_roundw
          case rel => exact ⟨A1, m, c1, k + 1, _, rfl, rfl, by omega, by omega, by go_num, Lib.hid (by rw [HU.out]; exact HC.out)⟩
          case measure => simp [intOf]; omega
        · rw [decide_eq_false hx] at CX
          have HU := Lib.hid (leaf_yes hx)
          clear hx
          go_wp2_with (first
            | (go_at_call 57; refine CX.out.mono ?_; rintro e w' ⟨rfl, rfl⟩)
            | (at_builtin; refine wpList_acc HC.out rfl _ _ rfl rfl rfl (by omega) ?_; intro A9 c9 w9 hl9 hs9; have HC9 := Lib.hid hl9; clear hl9 hs9))
          go_roundw
          case rel => exact ⟨A9, m + 1, c9, k + 1, _, rfl, rfl, by omega, by omega, by go_num, Lib.hid (by rw [HU.out]; exact HC9.out)⟩
          case measure => simp [intOf]; omega
      · have HE : Hid (xs.length = k) := Lib.hid (by have := HL.out; omega)
        go_wp2_with fail
        go_ret2
        exact ⟨A1, m, c1, rfl, by rw [HE.out]; exact HC.out.row, HC.out.2.1⟩
  · rw [lvZ_no h0]
    obtain ⟨d, hd⟩ : ∃ d, d = clsC xs [] := ⟨_, rfl⟩
    rw [← hd] at CC h0 ⊢
    have d1 : (d != 0) = true := by simp; exact h0
    have d2 : (d == 0) = false := by simp; exact h0
    clear hd
    clear h0
    go_enter Try.func39, Try.ntmps39
    go_wp2_with (go_at_call 48; refine CC.out.mono ?_; rintro e w1 ⟨rfl, hb1⟩; have HB1 := Lib.hid hb1; clear hb1)
    go_ret2
    exact Out10.nil rfl HB1.out

set_option maxHeartbeats 1000000 in
set_option maxRecDepth 100000 in
theorem cLeavesOf_spec (A : Option Addr) (n c : Nat) (xs : List Int) (w : World) (hb : n ≤ 1048576) (h : NumAt w w.heap.size A n xs) :
    Calls Try.prog 40 #[.slice A n c] w (Out10 (lvZ xs) (clsC xs []) w) := by
  have CC := Lib.hid (cTree_spec A n c w.heap.size xs w (by unfold maxLen; omega) h)
  have HL := Lib.hid h.1
  have CH : Hid (∀ (V : World) (x : Int), Below w.heap.size w V → Calls Try.prog 59 #[.slice A n c, .int .i64 x] V fun e w' => e = .returned (.bool (decide (x ∈ xs))) ∧ V = w') := Lib.hid (fun V x hV => cHas10 A n c w.heap.size xs x V (by unfold maxLen; omega) (h.below hV (Nat.le_refl _)))
  clear h
  by_cases h0 : clsC xs [] = 0
  · rw [lvZ_yes h0, h0]
    rw [(clsC_zero h0).1] at CC
    have hn : n ≤ 20 := by have := (clsC_empty h0).le; have := HL.out; omega
    clear h0
    go_enter Try.func40, Try.ntmps40
    go_wp2_with (go_at_call 30; refine CC.out.mono ?_; rintro e w1 ⟨rfl, m1, rfl⟩; have HB1 := Lib.hid (below_drA (Below.refl w.heap.size w) m1))
    go_loopw [4, 5] (fun v i wr => ∃ (A1 : Option Addr) (m c1 k : Nat) , v = .slice A1 m c1 ∧  m ≤ k ∧ k ≤ n ∧ i = .int .i64 k ∧ Hid (Acc (w.drewN m1).heap.size w wr A1 m c1 (leafU xs k))) (fun _ i _ => n - (intOf i).toNat)
    case atStart => exact ⟨_, 0, _, 0, rfl, Nat.le_refl _, Nat.zero_le _, rfl, Lib.hid (Acc.lit2 HB1.out)⟩
    case round =>
      obtain ⟨A1, m, c1, k, rfl, hm, hk, rfl, HC⟩ := hrel
      by_cases hlt : k < n
      · have CX := Lib.hid (CH.out wr (k : Int) HC.out.2.1)
        have e1 : (0 : Int) ≤ (k : Int) := by omega
        have e2 : (k : Int) < (n : Int) := by omega
        by_cases hx : (k : Int) ∈ xs
        · rw [decide_eq_true hx] at CX
          have HU := Lib.hid (leaf_no hx)
          clear hx
          go_wp2_with (go_at_call 59; refine CX.out.mono ?_; rintro e w' ⟨rfl, rfl⟩)
          go_roundw
          case rel => exact ⟨A1, m, c1, k + 1, rfl, by omega, by omega, by go_num, Lib.hid (by rw [HU.out]; exact HC.out)⟩
          case measure => simp [intOf]; omega
        · rw [decide_eq_false hx] at CX
          have HU := Lib.hid (leaf_yes hx)
          clear hx
          go_wp2_with (first
            | (go_at_call 59; refine CX.out.mono ?_; rintro e w' ⟨rfl, rfl⟩)
            | (at_builtin; refine wpList_acc HC.out rfl _ _ rfl rfl rfl (by omega) ?_; intro A9 c9 w9 hl9 hs9; have HC9 := Lib.hid hl9; clear hl9 hs9))
          go_roundw
          case rel => exact ⟨A9, m + 1, c9, k + 1, rfl, by omega, by omega, by go_num, Lib.hid (by rw [HU.out]; exact HC9.out)⟩
          case measure => simp [intOf]; omega
      · have HE : Hid (xs.length = k) := Lib.hid (by have := HL.out; omega)
        go_wp2_with fail
        go_ret2
        exact ⟨A1, m, c1, rfl, by rw [HE.out]; exact HC.out.row, HC.out.2.1⟩
  · rw [lvZ_no h0]
    have ht : treeB xs = false := by
      cases e : treeB xs
      · rfl
      · exact absurd (cls_tree e) h0
    rw [ht] at CC
    rw [clsC_tree ht]
    clear ht
    clear h0
    go_enter Try.func40, Try.ntmps40
    go_wp2_with (go_at_call 30; refine CC.out.mono ?_; rintro e w1 ⟨rfl, m1, rfl⟩; have HB1 := Lib.hid (below_drA (Below.refl w.heap.size w) m1))
    go_ret2
    exact Out10.nil rfl HB1.out

set_option maxHeartbeats 1000000 in
set_option maxRecDepth 100000 in
theorem cAddClass_impl (A : Option Addr) (n c : Nat) (xs : List Int) (a : Int) (w : World) (hb : n ≤ 1048576) (h : NumAt w w.heap.size A n xs) :
    Calls Try.prog 33 #[.slice A n c, .int .i64 a] w (Out10 (addZ xs a) (addC xs a) w) := by
  have CC := Lib.hid (cChk1 A n c xs a w hb h)
  have HL := Lib.hid h.1
  by_cases h0 : clsC xs [a] = 0
  · rw [h0] at CC
    have hT := (clsC_one h0).1
    by_cases h20 : xs.length = 20
    · rw [addZ_no (by rw [addC_full h0 h20]; decide), addC_full h0 h20]
      have e20 : n = 20 := by rw [h.1, h20]
      have HN := Lib.hid e20
      subst e20
      clear h h0 hT h20
      go_enter Try.func33, Try.ntmps33
      go_wp2_with (go_at_call 48; refine CC.out.mono ?_; rintro e w1 ⟨rfl, hb1⟩; have HB1 := Lib.hid hb1; clear hb1)
      go_ret2
      exact Out10.nil rfl HB1.out
    · rw [addZ_yes (addC_yes h0 h20), addC_yes h0 h20]
      have CO : Hid (∀ V, Below w.heap.size w V → Calls Try.prog 61 #[.slice A n c] V (Own10 n xs V)) := Lib.hid (fun V hV => cClone10 A n c xs V (by rw [h.1]; exact hT.pos) hb ((h.below hV (Nat.le_refl _)).more hV.size))
      have hn : n ≤ 20 := by rw [h.1]; exact hT.le
      have hd : ((n : Int) == 20) = false := by rw [beq_eq_false_iff_ne]; have := h.1; omega
      clear h h0 hT h20
      unfold Own10 at CO
      go_enter Try.func33, Try.ntmps33
      go_wp2_with (first
        | (go_at_call 48; refine CC.out.mono ?_; rintro e w1 ⟨rfl, hb1⟩; have HB1 := Lib.hid hb1; clear hb1)
        | (go_at_call 61; refine (CO.out _ HB1.out).mono ?_; rintro e w2 ⟨g2, c2, rfl, hO2, hg2, hb2⟩; have HC2 := Lib.hid (acc_own hO2 HB1.out hb2); clear hO2 hb2)
        | (at_builtin; refine wpList_acc HC2.out rfl _ _ rfl rfl rfl (by omega) ?_; intro A9 c9 w9 hl9 hs9; have HC9 := Lib.hid hl9; clear hl9 hs9))
      go_ret2
      exact ⟨A9, n + 1, c9, rfl, HC9.out.row, HC9.out.2.1⟩
  · rw [addZ_no (by rw [addC_no h0]; exact h0), addC_no h0]
    obtain ⟨d, hd⟩ : ∃ d, d = clsC xs [a] := ⟨_, rfl⟩
    rw [← hd] at CC h0 ⊢
    have d1 : (d != 0) = true := by simp; exact h0
    have d2 : (d == 0) = false := by simp; exact h0
    clear h h0 hd
    go_enter Try.func33, Try.ntmps33
    go_wp2_with (go_at_call 48; refine CC.out.mono ?_; rintro e w1 ⟨rfl, hb1⟩; have HB1 := Lib.hid hb1; clear hb1)
    go_ret2
    exact Out10.nil rfl HB1.out

set_option maxHeartbeats 1000000 in
set_option maxRecDepth 100000 in
theorem cAddClass_spec (A : Option Addr) (n c : Nat) (xs : List Int) (a : Int) (w : World) (hb : n ≤ 1048576) (h : NumAt w w.heap.size A n xs) :
    Calls Try.prog 34 #[.slice A n c, .int .i64 a] w (Out10 (addZ xs a) (addC xs a) w) := by
  have CC := Lib.hid (cCode1 A n c xs a w hb h)
  have HL := Lib.hid h.1
  by_cases h0 : clsC xs [a] = 0
  · rw [h0] at CC
    have hT := (clsC_one h0).1
    by_cases h20 : xs.length = 20
    · rw [addZ_no (by rw [addC_full h0 h20]; decide), addC_full h0 h20]
      have e20 : n = 20 := by rw [h.1, h20]
      have HN := Lib.hid e20
      subst e20
      clear h h0 hT h20
      go_enter Try.func34, Try.ntmps34
      go_wp2_with (go_at_call 50; refine CC.out.mono ?_; rintro e w1 ⟨rfl, hb1⟩; have HB1 := Lib.hid hb1; clear hb1)
      go_ret2
      exact Out10.nil rfl HB1.out
    · rw [addZ_yes (addC_yes h0 h20), addC_yes h0 h20]
      have CO : Hid (∀ V, Below w.heap.size w V → Calls Try.prog 62 #[.slice A n c] V (Own10 n xs V)) := Lib.hid (fun V hV => cOwn10 A n c xs V (by rw [h.1]; exact hT.pos) hb ((h.below hV (Nat.le_refl _)).more hV.size))
      have hn : n ≤ 20 := by rw [h.1]; exact hT.le
      have hd : ((n : Int) == 20) = false := by rw [beq_eq_false_iff_ne]; have := h.1; omega
      clear h h0 hT h20
      unfold Own10 at CO
      go_enter Try.func34, Try.ntmps34
      go_wp2_with (first
        | (go_at_call 50; refine CC.out.mono ?_; rintro e w1 ⟨rfl, hb1⟩; have HB1 := Lib.hid hb1; clear hb1)
        | (go_at_call 62; refine (CO.out _ HB1.out).mono ?_; rintro e w2 ⟨g2, c2, rfl, hO2, hg2, hb2⟩; have HC2 := Lib.hid (acc_own hO2 HB1.out hb2); clear hO2 hb2)
        | (at_builtin; refine wpList_acc HC2.out rfl _ _ rfl rfl rfl (by omega) ?_; intro A9 c9 w9 hl9 hs9; have HC9 := Lib.hid hl9; clear hl9 hs9))
      go_ret2
      exact ⟨A9, n + 1, c9, rfl, HC9.out.row, HC9.out.2.1⟩
  · rw [addZ_no (by rw [addC_no h0]; exact h0), addC_no h0]
    obtain ⟨d, hd⟩ : ∃ d, d = clsC xs [a] := ⟨_, rfl⟩
    rw [← hd] at CC h0 ⊢
    have d1 : (d != 0) = true := by simp; exact h0
    have d2 : (d == 0) = false := by simp; exact h0
    clear h h0 hd
    go_enter Try.func34, Try.ntmps34
    go_wp2_with (go_at_call 50; refine CC.out.mono ?_; rintro e w1 ⟨rfl, hb1⟩; have HB1 := Lib.hid hb1; clear hb1)
    go_ret2
    exact Out10.nil rfl HB1.out

set_option maxHeartbeats 1000000 in
set_option maxRecDepth 100000 in
theorem cMoveClass_impl (A : Option Addr) (n c : Nat) (xs : List Int) (a p : Int) (w : World) (hb : n ≤ 1048576) (h : NumAt w w.heap.size A n xs) :
    Calls Try.prog 36 #[.slice A n c, .int .i64 a, .int .i64 p] w (Out10 (movZ xs a p) (movC xs a p) w) := by
  have CC := Lib.hid (cChk2 A n c xs a p w hb h)
  have HL := Lib.hid h.1
  by_cases h0 : clsC xs [a, p] = 0
  · rw [h0] at CC
    by_cases hap : a ≤ p
    · rw [movZ_no (by rw [movC_state h0 hap]; decide), movC_state h0 hap]
      clear h h0
      go_enter Try.func36, Try.ntmps36
      go_wp2_with (go_at_call 48; refine CC.out.mono ?_; rintro e w1 ⟨rfl, hb1⟩; have HB1 := Lib.hid hb1; clear hb1)
      go_ret2
      exact Out10.nil rfl HB1.out
    · rw [movZ_yes (movC_yes h0 hap), movC_yes h0 hap]
      obtain ⟨hT, ⟨k, rfl, hk⟩, _⟩ := clsC_two h0
      rw [Int.toNat_natCast]
      have CO : Hid (∀ V, Below w.heap.size w V → Calls Try.prog 61 #[.slice A n c] V (Own10 n xs V)) := Lib.hid (fun V hV => cClone10 A n c xs V (by rw [h.1]; exact hT.pos) hb ((h.below hV (Nat.le_refl _)).more hV.size))
      have hn : n ≤ 20 := by rw [h.1]; exact hT.le
      have hkn : k < n := by rw [h.1]; exact hk
      have e1 : (0 : Int) ≤ (k : Int) := by omega
      have e2 : (k : Int) < (n : Int) := by omega
      clear h h0 hT hk
      unfold Own10 at CO
      go_enter Try.func36, Try.ntmps36
      go_wp2_with (first
        | (go_at_call 48; refine CC.out.mono ?_; rintro e w1 ⟨rfl, hb1⟩; have HB1 := Lib.hid hb1; clear hb1)
        | (go_at_call 61; refine (CO.out _ HB1.out).mono ?_; rintro e w2 ⟨g2, c2, rfl, hO2, hg2, hb2⟩; have HC2 := Lib.hid (acc_own hO2 HB1.out hb2); have f0 := hO2.frozenAt k; have c0 := hO2.cellAt k (by omega); obtain ⟨v0, d0⟩ : ∃ u, w2.cell? ⟨g2, k, none⟩ = some u := ⟨_, c0.trans (List.getElem?_eq_getElem (by have := hO2.1; omega))⟩; have hst := (HC2.out.row.stored k (.int .i64 p)).1; rw [intV_set10] at hst; have HST := Lib.hid hst; have HBS : Hid (Below w.heap.size w (w2.setCell ⟨g2, k, none⟩ (.int .i64 p))) := Lib.hid (HC2.out.2.1.setCell (by have := HB1.out.size; simp; omega) _); clear hO2 hb2 c0 hst hg2))
      go_ret2
      exact ⟨_, n, c2, rfl, HST.out, HBS.out⟩
  · rw [movZ_no (by rw [movC_no h0]; exact h0), movC_no h0]
    obtain ⟨d, hd⟩ : ∃ d, d = clsC xs [a, p] := ⟨_, rfl⟩
    rw [← hd] at CC h0 ⊢
    have d1 : (d != 0) = true := by simp; exact h0
    have d2 : (d == 0) = false := by simp; exact h0
    clear h h0 hd
    go_enter Try.func36, Try.ntmps36
    go_wp2_with (go_at_call 48; refine CC.out.mono ?_; rintro e w1 ⟨rfl, hb1⟩; have HB1 := Lib.hid hb1; clear hb1)
    go_ret2
    exact Out10.nil rfl HB1.out

set_option maxHeartbeats 1000000 in
set_option maxRecDepth 100000 in
theorem cMoveClass_spec (A : Option Addr) (n c : Nat) (xs : List Int) (a p : Int) (w : World) (hb : n ≤ 1048576) (h : NumAt w w.heap.size A n xs) :
    Calls Try.prog 37 #[.slice A n c, .int .i64 a, .int .i64 p] w (Out10 (movZ xs a p) (movC xs a p) w) := by
  have CC := Lib.hid (cCode10 A n c w.heap.size xs a p w (by unfold maxLen; omega) h)
  have HL := Lib.hid h.1
  by_cases h0 : clsC xs [a, p] = 0
  · rw [h0] at CC
    by_cases hap : a ≤ p
    · rw [movZ_no (by rw [movC_state h0 hap]; decide), movC_state h0 hap]
      clear h h0
      go_enter Try.func37, Try.ntmps37
      go_wp2_with (go_at_call 50; refine CC.out.mono ?_; rintro e w1 ⟨rfl, hb1⟩; have HB1 := Lib.hid hb1; clear hb1)
      go_ret2
      exact Out10.nil rfl HB1.out
    · rw [movZ_yes (movC_yes h0 hap), movC_yes h0 hap]
      obtain ⟨hT, ⟨k, rfl, hk⟩, _⟩ := clsC_two h0
      rw [Int.toNat_natCast]
      have CO : Hid (∀ V, Below w.heap.size w V → Calls Try.prog 62 #[.slice A n c] V (Own10 n xs V)) := Lib.hid (fun V hV => cOwn10 A n c xs V (by rw [h.1]; exact hT.pos) hb ((h.below hV (Nat.le_refl _)).more hV.size))
      have hn : n ≤ 20 := by rw [h.1]; exact hT.le
      have hkn : k < n := by rw [h.1]; exact hk
      have e1 : (0 : Int) ≤ (k : Int) := by omega
      have e2 : (k : Int) < (n : Int) := by omega
      clear h h0 hT hk
      unfold Own10 at CO
      go_enter Try.func37, Try.ntmps37
      go_wp2_with (first
        | (go_at_call 50; refine CC.out.mono ?_; rintro e w1 ⟨rfl, hb1⟩; have HB1 := Lib.hid hb1; clear hb1)
        | (go_at_call 62; refine (CO.out _ HB1.out).mono ?_; rintro e w2 ⟨g2, c2, rfl, hO2, hg2, hb2⟩; have HC2 := Lib.hid (acc_own hO2 HB1.out hb2); have f0 := hO2.frozenAt k; have c0 := hO2.cellAt k (by omega); obtain ⟨v0, d0⟩ : ∃ u, w2.cell? ⟨g2, k, none⟩ = some u := ⟨_, c0.trans (List.getElem?_eq_getElem (by have := hO2.1; omega))⟩; have hst := (HC2.out.row.stored k (.int .i64 p)).1; rw [intV_set10] at hst; have HST := Lib.hid hst; have HBS : Hid (Below w.heap.size w (w2.setCell ⟨g2, k, none⟩ (.int .i64 p))) := Lib.hid (HC2.out.2.1.setCell (by have := HB1.out.size; simp; omega) _); clear hO2 hb2 c0 hst hg2))
      go_ret2
      exact ⟨_, n, c2, rfl, HST.out, HBS.out⟩
  · rw [movZ_no (by rw [movC_no h0]; exact h0), movC_no h0]
    obtain ⟨d, hd⟩ : ∃ d, d = clsC xs [a, p] := ⟨_, rfl⟩
    rw [← hd] at CC h0 ⊢
    have d1 : (d != 0) = true := by simp; exact h0
    have d2 : (d == 0) = false := by simp; exact h0
    clear h h0 hd
    go_enter Try.func37, Try.ntmps37
    go_wp2_with (go_at_call 50; refine CC.out.mono ?_; rintro e w1 ⟨rfl, hb1⟩; have HB1 := Lib.hid hb1; clear hb1)
    go_ret2
    exact Out10.nil rfl HB1.out

end Go.Proofs.Ytlogbgkbdjdkkaa
