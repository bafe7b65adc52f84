/-
  The contract of spec.l09Year: a drawn year. Its region draws its order: by facts (Reg).
-/
import Derived.Test.YthlilfdndpnbkaaGreatDoorMu13
namespace Go.Proofs.YthlilfdndpnbkaaGreatDoor
set_option linter.unusedVariables false
open Go.RowKit

theorem row_numsY {V : World} {P : Nat} {xs : List Int} (h : TabAt V P 2 (xs.map (Value.int .i64)).toArray) (hl : xs.length = 5) (hb : ∀ x ∈ xs, -4100 ≤ x ∧ x ≤ 4100) : NumRow V P 5 (-4100) 4100 := by
  refine ⟨h.lt, fun j hj => ?_⟩
  have hx : xs[j]? = some (xs[j]'(by omega)) := List.getElem?_eq_getElem _
  have hm := hb _ (List.mem_of_getElem? hx)
  exact ⟨_, hm.1, hm.2, (h.cell j).trans (by simp [hx])⟩
/-- The source, and the box of a span with bounded years. -/
structure YW (w : World) (B len bs : Nat) (V : World) : Prop where
  src : Src V B len
  grown : w.grownBy V (some B)
  box : ∃ f u : Int, TabAt V bs 25 #[.int .i64 f, .int .i64 u] ∧ (-4000 ≤ f ∧ f ≤ 4000) ∧ (-4000 ≤ u ∧ u ≤ 4000)
theorem YW.drew {w V : World} {B len bs : Nat} (h : YW w B len bs V) : YW w B len bs V.drew := ⟨h.src, ⟨h.grown.os, h.grown.tape, h.grown.output, h.grown.size, h.grown.block⟩, h.box⟩
theorem YW.next {w V V' : World} {B len bs : Nat} (h : YW w B len bs V) (hS : Src V' B len) (hg : V.grownBy V' (some B)) : YW w B len bs V' := by
  obtain ⟨f, u, hT, h1, h2⟩ := h.box
  exact ⟨hS, h.grown.trans hg, f, u, tab_src hT h.src (by decide) hg, h1, h2⟩
theorem YW.alloc {w V : World} {B len bs : Nat} (h : YW w B len bs V) (o : Obj) : YW w B len bs (V.alloc o) := h.next (h.src.alloc o) (World.grownBy_alloc V o (some B))
theorem YW.cell0 {w V : World} {B len bs : Nat} (h : YW w B len bs V) : ∃ f : Int, -4000 ≤ f ∧ f ≤ 4000 ∧ V.cell? ⟨bs, 0, none⟩ = some (.int .i64 f) := by
  obtain ⟨f, u, hT, h1, h2⟩ := h.box
  exact ⟨f, h1.1, h1.2, (hT.cell 0).trans rfl⟩
theorem YW.cell1 {w V : World} {B len bs : Nat} (h : YW w B len bs V) : ∃ f : Int, -4000 ≤ f ∧ f ≤ 4000 ∧ V.cell? ⟨bs, 1, none⟩ = some (.int .i64 f) := by
  obtain ⟨f, u, hT, h1, h2⟩ := h.box
  exact ⟨u, h2.1, h2.2, (hT.cell 1).trans rfl⟩
def slY (j : Nat) : Nat := [22, 23, 24, 25, 26, 27, 28, 29, 30, 31, 32, 33, 34, 35, 36, 37, 38, 39, 4].getD j 0
/-- What each operation of the region leaves in its slot. -/
def GY (B bs : Nat) : Nat → Value → World → Prop
  | 0, v, V => v = .pointer (some ⟨B, 0, none⟩)
  | 1, v, V => v = .pointer (some ⟨bs, 0, none⟩)
  | 2, v, V => ∃ r : Int, v = .int .i64 r ∧ -4000 ≤ r ∧ r ≤ 4000
  | 3, v, V => v = .pointer (some ⟨bs, 1, none⟩)
  | 4, v, V => ∃ r : Int, v = .int .i64 r ∧ -4000 ≤ r ∧ r ≤ 4000
  | 5, v, V => v = .pointer (some ⟨bs, 0, none⟩)
  | 6, v, V => ∃ r : Int, v = .int .i64 r ∧ -4000 ≤ r ∧ r ≤ 4000
  | 7, v, V => v = .pointer (some ⟨B, 0, none⟩)
  | 8, v, V => ∃ r : Int, v = .int .i64 r ∧ 0 ≤ r ∧ r ≤ 9
  | 9, v, V => ∃ r : Int, v = .int .i64 r ∧ -4100 ≤ r ∧ r ≤ 4100
  | 10, v, V => v = .pointer (some ⟨bs, 1, none⟩)
  | 11, v, V => ∃ r : Int, v = .int .i64 r ∧ -4000 ≤ r ∧ r ≤ 4000
  | 12, v, V => ∃ r : Int, v = .int .i64 r ∧ -4100 ≤ r ∧ r ≤ 4100
  | 13, v, V => v = .pointer (some ⟨bs, 0, none⟩)
  | 14, v, V => ∃ r : Int, v = .int .i64 r ∧ -4000 ≤ r ∧ r ≤ 4000
  | 15, v, V => ∃ r : Int, v = .int .i64 r ∧ -4100 ≤ r ∧ r ≤ 4100
  | 16, v, V => ∃ (P : Nat) (xs : List Int), v = .slice (some ⟨P, 0, none⟩) 5 5 ∧ xs.length = 5 ∧ (∀ x ∈ xs, -4100 ≤ x ∧ x ≤ 4100) ∧ TabAt V P 2 (xs.map (Value.int .i64)).toArray
  | 17, v, V => ∃ r : Int, v = .int .i64 r ∧ -4100 ≤ r ∧ r ≤ 4100
  | 18, v, V => ∃ r : Int, v = .int .i64 r ∧ -4100 ≤ r ∧ r ≤ 4100
  | _, _, _ => True
theorem GY.keep {B bs : Nat} {V V' : World} {v : Value} (hT : ∀ (g : Nat) (t : TypeId) (cs : Array Value), t ≠ 122 → TabAt V g t cs → TabAt V' g t cs) (j : Nat) (h : GY B bs j v V) : GY B bs j v V' := by
  rcases j with _ | _ | _ | _ | _ | _ | _ | _ | _ | _ | _ | _ | _ | _ | _ | _ | _ | _ | _ | j
  · simp only [GY] at h ⊢; exact h
  · simp only [GY] at h ⊢; exact h
  · simp only [GY] at h ⊢; exact h
  · simp only [GY] at h ⊢; exact h
  · simp only [GY] at h ⊢; exact h
  · simp only [GY] at h ⊢; exact h
  · simp only [GY] at h ⊢; exact h
  · simp only [GY] at h ⊢; exact h
  · simp only [GY] at h ⊢; exact h
  · simp only [GY] at h ⊢; exact h
  · simp only [GY] at h ⊢; exact h
  · simp only [GY] at h ⊢; exact h
  · simp only [GY] at h ⊢; exact h
  · simp only [GY] at h ⊢; exact h
  · simp only [GY] at h ⊢; exact h
  · simp only [GY] at h ⊢; exact h
  · obtain ⟨P, xs, h1, h2, h3, h4⟩ := h; exact ⟨P, xs, h1, h2, h3, hT _ _ _ (by decide) h4⟩
  · simp only [GY] at h ⊢; exact h
  · simp only [GY] at h ⊢; exact h
  · trivial
def FY (B bs : Nat) (j : Nat) (a : Act) (V : World) : Prop := ∃ v, a.tmps[slY j]? = some v ∧ GY B bs j v V
/-- A drawn year. -/
def YrPost (w : World) (B len : Nat) (e : Ending) (w' : World) : Prop := ∃ r : Int, e = .returned (.int .i64 r) ∧ (-4100 ≤ r ∧ r ≤ 4100) ∧ Src w' B len ∧ w.grownBy w' (some B)
theorem nm_at_small {V : World} {m q : Nat} {A : Option Addr} {xs : List Nm} (h : NmAt V V.heap.size A m xs) (hs : ∀ x ∈ xs, Small x) (hq : q < m) : ∃ g o x, A = some ⟨g, o, none⟩ ∧ xs[q]? = some x ∧ Small x ∧ NmCell V g (o + q * 5) x := by
  have hl := h.1
  have hx : xs[q]? = some (xs[q]'(by omega)) := List.getElem?_eq_getElem _
  obtain ⟨g, o, hA, _, hc⟩ := h.row hx
  exact ⟨g, o, _, hA, hx, hs _ (List.mem_of_getElem? hx), hc⟩

set_option maxHeartbeats 40000000 in
set_option maxRecDepth 100000 in
theorem cNyD (B len : Nat) (A : Option Addr) (n c : Nat) (xs : List Nm) (w : World) (hlen : len ≤ 1048576) (hn : n ≤ 13) (hsm : ∀ x ∈ xs, Small x) (hN : NmAt w w.heap.size A n xs) (hkeep : ∀ V, Src V B len → w.grownBy V (some B) → NmAt V w.heap.size A n xs) (h : Src w B len) :
    Calls Tryz.prog 63 #[.pointer (some ⟨B, 0, none⟩), .slice A n c] w (YrPost w B len) := by
  have hBl := h.lt
  have CN := Lib.hid (fun (V : World) (n : Int) (hV : Src V B len) (h1 : -1000000000 ≤ n) (h2 : n ≤ 10000000000) => cNext B len n V hlen h1 h2 hV)
  have HS := Lib.hid h
  have HK := Lib.hid hkeep
  have HSM := Lib.hid hsm
  clear h hkeep hsm hN
  -- the way without a list
  have REST : Hid (∀ (V : World) (r : Int), w.grownBy V (some B) → Src V B len → 0 ≤ r → r ≤ 999 → Calls Tryz.prog 84 #[.pointer (some ⟨B, 0, none⟩), .slice (some ⟨V.heap.size, 0, none⟩) 4 4] (V.alloc (.cells #[.int .i64 (1000 + r), .int .i64 3000, .int .i64 3001, .int .i64 (-3000)] 2)) (YrPost w B len)) := Lib.hid (fun V r hg hS h0 h1 => (cPick B len V.heap.size 4 4 (-4100) 4100 _ hlen (by omega) (by omega) (by have := hS.lt; omega) (rowLit V [1000 + r, 3000, 3001, -3000] (-4100) 4100 (by intro v hv; simp at hv; omega) 2) (hS.alloc _)).mono (by
    rintro e V' ⟨x, hx0, hx1, rfl, hS', hg'⟩
    exact ⟨x, rfl, ⟨hx0, hx1⟩, hS', (hg.trans (World.grownBy_alloc V _ (some B))).trans hg'⟩))
  go_enter Tryz.func63, Tryz.ntmps63
  by_cases hp : 0 < n
  · have p1 : decide ((0 : Int) < (n : Int)) = true := decide_eq_true (by omega)
    go_wp2_with fail
    refine (CN.out _ 4 HS.out (by omega) (by omega)).mono ?_
    rintro e w2 ⟨r, hr0, hr1, rfl, hS2, g2⟩
    have HS2 := Lib.hid hS2
    have HG2 := Lib.hid g2
    clear hS2 g2 hr1
    by_cases hr : 0 < r
    · have p2 : decide ((0 : Int) < r) = true := decide_eq_true hr
      go_wp2_with fail
      refine (CN.out _ (n : Int) HS2.out (by omega) (by omega)).mono ?_
      rintro e w3 ⟨q0, hq0, hq1, rfl, hS3, g3⟩
      obtain ⟨q, rfl⟩ : ∃ q : Nat, q0 = q := ⟨q0.toNat, by omega⟩
      have hq : q < n := by omega
      have e1 : (0 : Int) ≤ (q : Int) := by omega
      have e2 : (q : Int) < (n : Int) := by omega
      have hG3 := HG2.out.trans g3
      obtain ⟨g, o, x, rfl, hx, hsx, c0, c1, c2, c3, c4⟩ := nm_at_small ((HK.out _ hS3 hG3).more hG3.size) HSM.out hq
      have k3 : w3.cell? ⟨g, o + q * 5 + 3, none⟩ = some (.int .i64 x.f) := c3
      have k4 : w3.cell? ⟨g, o + q * 5 + 3 + 1, none⟩ = some (.int .i64 x.u) := c4
      have k5 : w3.cell? ⟨g, o + q * 5 + 4, none⟩ = some (.int .i64 x.u) := c4
      have HW0 : Hid (YW w B len w3.heap.size (w3.alloc (.cells #[.int .i64 x.f, .int .i64 x.u] 25))) := Lib.hid ⟨hS3.alloc _, hG3.trans (World.grownBy_alloc _ _ _), x.f, x.u, TabAt.new w3 _ _, hsx.2.2.2.1, hsx.2.2.2.2⟩
      clear g3 hS3 hG3 hq1 c0 c1 c2 c3 c4 hx
      go_wp2_with fail
      refine wp_region_facts (by kernel_rfl) ?_ (fun a V => (∃ u4 u22 u23 u24 u25 u26 u27 u28 u29 u30 u31 u32 u33 u34 u35 u36 u37 u38 u39 : Value, a = { tmps := List.toArray (.pointer (some ⟨B, 0, none⟩) :: .slice (some ⟨g, o, none⟩) n c :: undef :: undef :: u4 :: .pointer (some ⟨w3.heap.size, 0, none⟩) :: .slice (some ⟨g, o, none⟩) n c :: .int .i64 n :: .bool true :: .bool true :: .pointer (some ⟨B, 0, none⟩) :: .int .i64 r :: .bool true :: .bool true :: .slice (some ⟨g, o, none⟩) n c :: .pointer (some ⟨B, 0, none⟩) :: .slice (some ⟨g, o, none⟩) n c :: .int .i64 n :: .int .i64 q :: .pointer (some ⟨g, o + q * 5, none⟩) :: .pointer (some ⟨g, o + q * 5 + 3, none⟩) :: .agg #[.int .i64 x.f, .int .i64 x.u] :: u22 :: u23 :: u24 :: u25 :: u26 :: u27 :: u28 :: u29 :: u30 :: u31 :: u32 :: u33 :: u34 :: u35 :: u36 :: u37 :: u38 :: u39 :: undef :: undef :: undef :: undef :: undef :: undef :: []), defers := [] }) ∧ YW w B len w3.heap.size V) (FY B w3.heap.size) ?_ ?_ ?_
      · decide +kernel
      · exact ⟨⟨_, _, _, _, _, _, _, _, _, _, _, _, _, _, _, _, _, _, _, rfl⟩, HW0.out.drew⟩
      · intro i o ho a V hB hD
        obtain ⟨⟨u4, u22, u23, u24, u25, u26, u27, u28, u29, u30, u31, u32, u33, u34, u35, u36, u37, u38, u39, rfl⟩, hW⟩ := hB
        rcases i with _ | _ | _ | _ | _ | _ | _ | _ | _ | _ | _ | _ | _ | _ | _ | _ | _ | _ | _ | i
        · -- 0
          simp at ho
          subst ho
          refine wpOp_list (o := _) rfl rfl ?_
          go_wp2_with fail
          change (_ ∧ _ ∧ _)
          refine ⟨⟨⟨_, _, _, _, _, _, _, _, _, _, _, _, _, _, _, _, _, _, _, rfl⟩, hW⟩, ⟨_, rfl, rfl⟩, ?_⟩
          intro j hj hnd hF
          obtain ⟨v9, k1, k2⟩ := hF
          refine ⟨v9, ?_, GY.keep (fun _ _ _ _ h => h) j k2⟩
          rcases j with _ | _ | _ | _ | _ | _ | _ | _ | _ | _ | _ | _ | _ | _ | _ | _ | _ | _ | _ | j
          all_goals first | exact k1 | exact absurd rfl hj | (exfalso; exact hnd _ rfl { on := 0, ground := .data } (by simp) rfl rfl)
        · -- 1
          simp at ho
          subst ho
          refine wpOp_list (o := _) rfl rfl ?_
          go_wp2_with fail
          change (_ ∧ _ ∧ _)
          refine ⟨⟨⟨_, _, _, _, _, _, _, _, _, _, _, _, _, _, _, _, _, _, _, rfl⟩, hW⟩, ⟨_, rfl, rfl⟩, ?_⟩
          intro j hj hnd hF
          obtain ⟨v9, k1, k2⟩ := hF
          refine ⟨v9, ?_, GY.keep (fun _ _ _ _ h => h) j k2⟩
          rcases j with _ | _ | _ | _ | _ | _ | _ | _ | _ | _ | _ | _ | _ | _ | _ | _ | _ | _ | _ | j
          all_goals first | exact k1 | exact absurd rfl hj | (exfalso; exact hnd _ rfl { on := 1, ground := .data } (by simp) rfl rfl)
        · -- 2
          simp at ho
          subst ho
          have d1 := hD { on := 1, ground := .data } (by simp) rfl
          obtain ⟨v1, q1, rfl⟩ := d1
          obtain rfl : u23 = _ := by simpa [slY] using q1
          refine wpOp_list (o := _) rfl rfl ?_
          obtain ⟨f, hf0, hf1, kc⟩ := hW.cell0
          go_wp2_with fail
          change (_ ∧ _ ∧ _)
          refine ⟨⟨⟨_, _, _, _, _, _, _, _, _, _, _, _, _, _, _, _, _, _, _, rfl⟩, hW⟩, ⟨_, rfl, f, rfl, hf0, hf1⟩, ?_⟩
          intro j hj hnd hF
          obtain ⟨v9, k1, k2⟩ := hF
          refine ⟨v9, ?_, GY.keep (fun _ _ _ _ h => h) j k2⟩
          rcases j with _ | _ | _ | _ | _ | _ | _ | _ | _ | _ | _ | _ | _ | _ | _ | _ | _ | _ | _ | j
          all_goals first | exact k1 | exact absurd rfl hj | (exfalso; exact hnd _ rfl { on := 2, ground := .data } (by simp) rfl rfl)
        · -- 3
          simp at ho
          subst ho
          refine wpOp_list (o := _) rfl rfl ?_
          go_wp2_with fail
          change (_ ∧ _ ∧ _)
          refine ⟨⟨⟨_, _, _, _, _, _, _, _, _, _, _, _, _, _, _, _, _, _, _, rfl⟩, hW⟩, ⟨_, rfl, rfl⟩, ?_⟩
          intro j hj hnd hF
          obtain ⟨v9, k1, k2⟩ := hF
          refine ⟨v9, ?_, GY.keep (fun _ _ _ _ h => h) j k2⟩
          rcases j with _ | _ | _ | _ | _ | _ | _ | _ | _ | _ | _ | _ | _ | _ | _ | _ | _ | _ | _ | j
          all_goals first | exact k1 | exact absurd rfl hj | (exfalso; exact hnd _ rfl { on := 3, ground := .data } (by simp) rfl rfl)
        · -- 4
          simp at ho
          subst ho
          have d3 := hD { on := 3, ground := .data } (by simp) rfl
          obtain ⟨v3, q3, rfl⟩ := d3
          obtain rfl : u25 = _ := by simpa [slY] using q3
          refine wpOp_list (o := _) rfl rfl ?_
          obtain ⟨f, hf0, hf1, kc⟩ := hW.cell1
          go_wp2_with fail
          change (_ ∧ _ ∧ _)
          refine ⟨⟨⟨_, _, _, _, _, _, _, _, _, _, _, _, _, _, _, _, _, _, _, rfl⟩, hW⟩, ⟨_, rfl, f, rfl, hf0, hf1⟩, ?_⟩
          intro j hj hnd hF
          obtain ⟨v9, k1, k2⟩ := hF
          refine ⟨v9, ?_, GY.keep (fun _ _ _ _ h => h) j k2⟩
          rcases j with _ | _ | _ | _ | _ | _ | _ | _ | _ | _ | _ | _ | _ | _ | _ | _ | _ | _ | _ | j
          all_goals first | exact k1 | exact absurd rfl hj | (exfalso; exact hnd _ rfl { on := 4, ground := .data } (by simp) rfl rfl)
        · -- 5
          simp at ho
          subst ho
          refine wpOp_list (o := _) rfl rfl ?_
          go_wp2_with fail
          change (_ ∧ _ ∧ _)
          refine ⟨⟨⟨_, _, _, _, _, _, _, _, _, _, _, _, _, _, _, _, _, _, _, rfl⟩, hW⟩, ⟨_, rfl, rfl⟩, ?_⟩
          intro j hj hnd hF
          obtain ⟨v9, k1, k2⟩ := hF
          refine ⟨v9, ?_, GY.keep (fun _ _ _ _ h => h) j k2⟩
          rcases j with _ | _ | _ | _ | _ | _ | _ | _ | _ | _ | _ | _ | _ | _ | _ | _ | _ | _ | _ | j
          all_goals first | exact k1 | exact absurd rfl hj | (exfalso; exact hnd _ rfl { on := 5, ground := .data } (by simp) rfl rfl)
        · -- 6
          simp at ho
          subst ho
          have d5 := hD { on := 5, ground := .data } (by simp) rfl
          obtain ⟨v5, q5, rfl⟩ := d5
          obtain rfl : u27 = _ := by simpa [slY] using q5
          refine wpOp_list (o := _) rfl rfl ?_
          obtain ⟨f, hf0, hf1, kc⟩ := hW.cell0
          go_wp2_with fail
          change (_ ∧ _ ∧ _)
          refine ⟨⟨⟨_, _, _, _, _, _, _, _, _, _, _, _, _, _, _, _, _, _, _, rfl⟩, hW⟩, ⟨_, rfl, f, rfl, hf0, hf1⟩, ?_⟩
          intro j hj hnd hF
          obtain ⟨v9, k1, k2⟩ := hF
          refine ⟨v9, ?_, GY.keep (fun _ _ _ _ h => h) j k2⟩
          rcases j with _ | _ | _ | _ | _ | _ | _ | _ | _ | _ | _ | _ | _ | _ | _ | _ | _ | _ | _ | j
          all_goals first | exact k1 | exact absurd rfl hj | (exfalso; exact hnd _ rfl { on := 6, ground := .data } (by simp) rfl rfl)
        · -- 7
          simp at ho
          subst ho
          refine wpOp_list (o := _) rfl rfl ?_
          go_wp2_with fail
          change (_ ∧ _ ∧ _)
          refine ⟨⟨⟨_, _, _, _, _, _, _, _, _, _, _, _, _, _, _, _, _, _, _, rfl⟩, hW⟩, ⟨_, rfl, rfl⟩, ?_⟩
          intro j hj hnd hF
          obtain ⟨v9, k1, k2⟩ := hF
          refine ⟨v9, ?_, GY.keep (fun _ _ _ _ h => h) j k2⟩
          rcases j with _ | _ | _ | _ | _ | _ | _ | _ | _ | _ | _ | _ | _ | _ | _ | _ | _ | _ | _ | j
          all_goals first | exact k1 | exact absurd rfl hj | (exfalso; exact hnd _ rfl { on := 7, ground := .data } (by simp) rfl rfl)
        · -- 8
          simp at ho
          subst ho
          have d7 := hD { on := 7, ground := .data } (by simp) rfl
          obtain ⟨v7, q7, rfl⟩ := d7
          obtain rfl : u29 = _ := by simpa [slY] using q7
          refine wpOp_list (o := _) rfl rfl ?_
          go_wp2_with fail
          refine (CN.out _ 10 hW.src (by omega) (by omega)).mono ?_
          rintro e V9 ⟨r9, hr0, hr1, rfl, hS9, g9⟩
          go_wp2_with fail
          change (_ ∧ _ ∧ _)
          refine ⟨⟨⟨_, _, _, _, _, _, _, _, _, _, _, _, _, _, _, _, _, _, _, rfl⟩, hW.next hS9 g9⟩, ⟨_, rfl, r9, rfl, hr0, by omega⟩, ?_⟩
          intro j hj hnd hF
          obtain ⟨v9, k1, k2⟩ := hF
          refine ⟨v9, ?_, GY.keep (fun g t cs ht h => tab_src h hW.src ht g9) j k2⟩
          rcases j with _ | _ | _ | _ | _ | _ | _ | _ | _ | _ | _ | _ | _ | _ | _ | _ | _ | _ | _ | j
          all_goals first | exact k1 | exact absurd rfl hj | (exfalso; exact hnd _ rfl { on := 8, ground := .data } (by simp) rfl rfl)
        · -- 9
          simp at ho
          subst ho
          have d6 := hD { on := 6, ground := .data } (by simp) rfl
          obtain ⟨v6, q6, ⟨x, rfl, hx0, hx1⟩⟩ := d6
          obtain rfl : u28 = _ := by simpa [slY] using q6
          have d8 := hD { on := 8, ground := .data } (by simp) rfl
          obtain ⟨v8, q8, ⟨y, rfl, hy0, hy1⟩⟩ := d8
          obtain rfl : u30 = _ := by simpa [slY] using q8
          refine wpOp_list (o := _) rfl rfl ?_
          go_wp2_with fail
          change (_ ∧ _ ∧ _)
          refine ⟨⟨⟨_, _, _, _, _, _, _, _, _, _, _, _, _, _, _, _, _, _, _, rfl⟩, hW⟩, ⟨_, rfl, x + y, rfl, by omega, by omega⟩, ?_⟩
          intro j hj hnd hF
          obtain ⟨v9, k1, k2⟩ := hF
          refine ⟨v9, ?_, GY.keep (fun _ _ _ _ h => h) j k2⟩
          rcases j with _ | _ | _ | _ | _ | _ | _ | _ | _ | _ | _ | _ | _ | _ | _ | _ | _ | _ | _ | j
          all_goals first | exact k1 | exact absurd rfl hj | (exfalso; exact hnd _ rfl { on := 9, ground := .data } (by simp) rfl rfl)
        · -- 10
          simp at ho
          subst ho
          refine wpOp_list (o := _) rfl rfl ?_
          go_wp2_with fail
          change (_ ∧ _ ∧ _)
          refine ⟨⟨⟨_, _, _, _, _, _, _, _, _, _, _, _, _, _, _, _, _, _, _, rfl⟩, hW⟩, ⟨_, rfl, rfl⟩, ?_⟩
          intro j hj hnd hF
          obtain ⟨v9, k1, k2⟩ := hF
          refine ⟨v9, ?_, GY.keep (fun _ _ _ _ h => h) j k2⟩
          rcases j with _ | _ | _ | _ | _ | _ | _ | _ | _ | _ | _ | _ | _ | _ | _ | _ | _ | _ | _ | j
          all_goals first | exact k1 | exact absurd rfl hj | (exfalso; exact hnd _ rfl { on := 10, ground := .data } (by simp) rfl rfl)
        · -- 11
          simp at ho
          subst ho
          have d10 := hD { on := 10, ground := .data } (by simp) rfl
          obtain ⟨v10, q10, rfl⟩ := d10
          obtain rfl : u32 = _ := by simpa [slY] using q10
          refine wpOp_list (o := _) rfl rfl ?_
          obtain ⟨f, hf0, hf1, kc⟩ := hW.cell1
          go_wp2_with fail
          change (_ ∧ _ ∧ _)
          refine ⟨⟨⟨_, _, _, _, _, _, _, _, _, _, _, _, _, _, _, _, _, _, _, rfl⟩, hW⟩, ⟨_, rfl, f, rfl, hf0, hf1⟩, ?_⟩
          intro j hj hnd hF
          obtain ⟨v9, k1, k2⟩ := hF
          refine ⟨v9, ?_, GY.keep (fun _ _ _ _ h => h) j k2⟩
          rcases j with _ | _ | _ | _ | _ | _ | _ | _ | _ | _ | _ | _ | _ | _ | _ | _ | _ | _ | _ | j
          all_goals first | exact k1 | exact absurd rfl hj | (exfalso; exact hnd _ rfl { on := 11, ground := .data } (by simp) rfl rfl)
        · -- 12
          simp at ho
          subst ho
          have d11 := hD { on := 11, ground := .data } (by simp) rfl
          obtain ⟨v11, q11, ⟨x, rfl, hx0, hx1⟩⟩ := d11
          obtain rfl : u33 = _ := by simpa [slY] using q11
          refine wpOp_list (o := _) rfl rfl ?_
          go_wp2_with fail
          change (_ ∧ _ ∧ _)
          refine ⟨⟨⟨_, _, _, _, _, _, _, _, _, _, _, _, _, _, _, _, _, _, _, rfl⟩, hW⟩, ⟨_, rfl, x + 1, rfl, by omega, by omega⟩, ?_⟩
          intro j hj hnd hF
          obtain ⟨v9, k1, k2⟩ := hF
          refine ⟨v9, ?_, GY.keep (fun _ _ _ _ h => h) j k2⟩
          rcases j with _ | _ | _ | _ | _ | _ | _ | _ | _ | _ | _ | _ | _ | _ | _ | _ | _ | _ | _ | j
          all_goals first | exact k1 | exact absurd rfl hj | (exfalso; exact hnd _ rfl { on := 12, ground := .data } (by simp) rfl rfl)
        · -- 13
          simp at ho
          subst ho
          refine wpOp_list (o := _) rfl rfl ?_
          go_wp2_with fail
          change (_ ∧ _ ∧ _)
          refine ⟨⟨⟨_, _, _, _, _, _, _, _, _, _, _, _, _, _, _, _, _, _, _, rfl⟩, hW⟩, ⟨_, rfl, rfl⟩, ?_⟩
          intro j hj hnd hF
          obtain ⟨v9, k1, k2⟩ := hF
          refine ⟨v9, ?_, GY.keep (fun _ _ _ _ h => h) j k2⟩
          rcases j with _ | _ | _ | _ | _ | _ | _ | _ | _ | _ | _ | _ | _ | _ | _ | _ | _ | _ | _ | j
          all_goals first | exact k1 | exact absurd rfl hj | (exfalso; exact hnd _ rfl { on := 13, ground := .data } (by simp) rfl rfl)
        · -- 14
          simp at ho
          subst ho
          have d13 := hD { on := 13, ground := .data } (by simp) rfl
          obtain ⟨v13, q13, rfl⟩ := d13
          obtain rfl : u35 = _ := by simpa [slY] using q13
          refine wpOp_list (o := _) rfl rfl ?_
          obtain ⟨f, hf0, hf1, kc⟩ := hW.cell0
          go_wp2_with fail
          change (_ ∧ _ ∧ _)
          refine ⟨⟨⟨_, _, _, _, _, _, _, _, _, _, _, _, _, _, _, _, _, _, _, rfl⟩, hW⟩, ⟨_, rfl, f, rfl, hf0, hf1⟩, ?_⟩
          intro j hj hnd hF
          obtain ⟨v9, k1, k2⟩ := hF
          refine ⟨v9, ?_, GY.keep (fun _ _ _ _ h => h) j k2⟩
          rcases j with _ | _ | _ | _ | _ | _ | _ | _ | _ | _ | _ | _ | _ | _ | _ | _ | _ | _ | _ | j
          all_goals first | exact k1 | exact absurd rfl hj | (exfalso; exact hnd _ rfl { on := 14, ground := .data } (by simp) rfl rfl)
        · -- 15
          simp at ho
          subst ho
          have d14 := hD { on := 14, ground := .data } (by simp) rfl
          obtain ⟨v14, q14, ⟨x, rfl, hx0, hx1⟩⟩ := d14
          obtain rfl : u36 = _ := by simpa [slY] using q14
          refine wpOp_list (o := _) rfl rfl ?_
          go_wp2_with fail
          change (_ ∧ _ ∧ _)
          refine ⟨⟨⟨_, _, _, _, _, _, _, _, _, _, _, _, _, _, _, _, _, _, _, rfl⟩, hW⟩, ⟨_, rfl, x - 1, rfl, by omega, by omega⟩, ?_⟩
          intro j hj hnd hF
          obtain ⟨v9, k1, k2⟩ := hF
          refine ⟨v9, ?_, GY.keep (fun _ _ _ _ h => h) j k2⟩
          rcases j with _ | _ | _ | _ | _ | _ | _ | _ | _ | _ | _ | _ | _ | _ | _ | _ | _ | _ | _ | j
          all_goals first | exact k1 | exact absurd rfl hj | (exfalso; exact hnd _ rfl { on := 15, ground := .data } (by simp) rfl rfl)
        · -- 16
          simp at ho
          subst ho
          have d2 := hD { on := 2, ground := .data } (by simp) rfl
          obtain ⟨v2, q2, ⟨x2, rfl, p0, p1⟩⟩ := d2
          obtain rfl : u24 = _ := by simpa [slY] using q2
          have d4 := hD { on := 4, ground := .data } (by simp) rfl
          obtain ⟨v4, q4, ⟨x4, rfl, p2, p3⟩⟩ := d4
          obtain rfl : u26 = _ := by simpa [slY] using q4
          have d9 := hD { on := 9, ground := .data } (by simp) rfl
          obtain ⟨v9, q9, ⟨x9, rfl, p4, p5⟩⟩ := d9
          obtain rfl : u31 = _ := by simpa [slY] using q9
          have d12 := hD { on := 12, ground := .data } (by simp) rfl
          obtain ⟨v12, q12, ⟨x12, rfl, p6, p7⟩⟩ := d12
          obtain rfl : u34 = _ := by simpa [slY] using q12
          have d15 := hD { on := 15, ground := .data } (by simp) rfl
          obtain ⟨v15, q15, ⟨x15, rfl, p8, p9⟩⟩ := d15
          obtain rfl : u37 = _ := by simpa [slY] using q15
          refine wpOp_list (o := _) rfl rfl ?_
          go_wp2_with fail
          change (_ ∧ _ ∧ _)
          refine ⟨⟨⟨_, _, _, _, _, _, _, _, _, _, _, _, _, _, _, _, _, _, _, rfl⟩, hW.alloc _⟩, ⟨_, rfl, V.heap.size, [x2, x4, x9, x12, x15], rfl, rfl, by intro x hx; simp at hx; omega, TabAt.new V _ _⟩, ?_⟩
          intro j hj hnd hF
          obtain ⟨v9, k1, k2⟩ := hF
          refine ⟨v9, ?_, GY.keep (fun g t cs ht h => h.alloc _) j k2⟩
          rcases j with _ | _ | _ | _ | _ | _ | _ | _ | _ | _ | _ | _ | _ | _ | _ | _ | _ | _ | _ | j
          all_goals first | exact k1 | exact absurd rfl hj | (exfalso; exact hnd _ rfl { on := 16, ground := .data } (by simp) rfl rfl)
        · -- 17
          simp at ho
          subst ho
          have d0 := hD { on := 0, ground := .data } (by simp) rfl
          obtain ⟨v0, q0, rfl⟩ := d0
          obtain rfl : u22 = _ := by simpa [slY] using q0
          have d16 := hD { on := 16, ground := .data } (by simp) rfl
          obtain ⟨v16, q16, ⟨P, xs, rfl, hl, hb, hP⟩⟩ := d16
          obtain rfl : u38 = _ := by simpa [slY] using q16
          refine wpOp_list (o := _) rfl rfl ?_
          have hne : P ≠ B := by obtain ⟨ds, hd⟩ := hW.src.tab; exact tab_ne hP hd (by decide)
          go_wp2_with fail
          refine (cPick B len P 5 5 (-4100) 4100 V hlen (by omega) (by omega) hne (row_numsY hP hl hb) hW.src).mono ?_
          rintro e V9 ⟨r9, hr0, hr1, rfl, hS9, g9⟩
          go_wp2_with fail
          change (_ ∧ _ ∧ _)
          refine ⟨⟨⟨_, _, _, _, _, _, _, _, _, _, _, _, _, _, _, _, _, _, _, rfl⟩, hW.next hS9 g9⟩, ⟨_, rfl, r9, rfl, hr0, hr1⟩, ?_⟩
          intro j hj hnd hF
          obtain ⟨v9, k1, k2⟩ := hF
          refine ⟨v9, ?_, GY.keep (fun g t cs ht h => tab_src h hW.src ht g9) j k2⟩
          rcases j with _ | _ | _ | _ | _ | _ | _ | _ | _ | _ | _ | _ | _ | _ | _ | _ | _ | _ | _ | j
          all_goals first | exact k1 | exact absurd rfl hj | (exfalso; exact hnd _ rfl { on := 17, ground := .data } (by simp) rfl rfl)
        · -- 18
          simp at ho
          subst ho
          have d17 := hD { on := 17, ground := .data } (by simp) rfl
          obtain ⟨v17, q17, ⟨x, rfl, hx0, hx1⟩⟩ := d17
          obtain rfl : u39 = _ := by simpa [slY] using q17
          refine wpOp_list (o := _) rfl rfl ?_
          go_wp2_with fail
          change (_ ∧ _ ∧ _)
          refine ⟨⟨⟨_, _, _, _, _, _, _, _, _, _, _, _, _, _, _, _, _, _, _, rfl⟩, hW⟩, ⟨_, rfl, x, rfl, hx0, hx1⟩, ?_⟩
          intro j hj hnd hF
          obtain ⟨v9, k1, k2⟩ := hF
          refine ⟨v9, ?_, GY.keep (fun _ _ _ _ h => h) j k2⟩
          rcases j with _ | _ | _ | _ | _ | _ | _ | _ | _ | _ | _ | _ | _ | _ | _ | _ | _ | _ | _ | j
          all_goals first | exact k1 | exact absurd rfl hj | (exfalso; exact hnd _ rfl { on := 18, ground := .data } (by simp) rfl rfl)
        · exfalso
          simp at ho
      · intro a V hB hF
        obtain ⟨⟨u4, u22, u23, u24, u25, u26, u27, u28, u29, u30, u31, u32, u33, u34, u35, u36, u37, u38, u39, rfl⟩, hW⟩ := hB
        obtain ⟨v18, q18, z, rfl, hz0, hz1⟩ := hF 18 (by decide)
        obtain rfl : u4 = _ := by simpa [slY] using q18
        change Exit.then _ _ _ _ _
        go_wp2_with fail
        go_ret
        exact ⟨z, rfl, ⟨hz0, hz1⟩, hW.src, hW.grown⟩
    · have p2 : decide ((0 : Int) < r) = false := decide_eq_false hr
      go_wp2_with fail
      refine (CN.out _ 1000 HS2.out (by omega) (by omega)).mono ?_
      rintro e w4 ⟨r4, k0, k1, rfl, hS4, g4⟩
      go_wp2_with fail
      refine (REST.out w4 r4 (HG2.out.trans g4) hS4 k0 (by omega)).mono ?_
      rintro e w5 ⟨z, rfl, hz, hS5, g5⟩
      go_wp2_with fail
      go_ret
      exact ⟨z, rfl, hz, hS5, g5⟩
  · have p1 : decide ((0 : Int) < (n : Int)) = false := decide_eq_false (by omega)
    go_wp2_with fail
    refine (CN.out _ 1000 HS.out (by omega) (by omega)).mono ?_
    rintro e w4 ⟨r4, k0, k1, rfl, hS4, g4⟩
    go_wp2_with fail
    refine (REST.out w4 r4 g4 hS4 k0 (by omega)).mono ?_
    rintro e w5 ⟨z, rfl, hz, hS5, g5⟩
    go_wp2_with fail
    go_ret
    exact ⟨z, rfl, hz, hS5, g5⟩
end Go.Proofs.YthlilfdndpnbkaaGreatDoor
