/-
  The draws of PlacesNamed, PlacesOfKind and NameOf.
-/
import Derived.Test.YtglmibmjbignbaaGreatDoorGyD
import Derived.Test.YtglmibmjbignbaaGreatDoorMy21
namespace Go.Proofs.YtglmibmjbignbaaGreatDoor
set_option linter.unusedVariables false
open Go.RowKit

def DPN (w : World) (e : Ending) (w' : World) : Prop := ∃ (A : Option Addr) (n c : Nat) (ps : List Pl) (t : ByteArray) (y : Int), e = .returned (.tuple #[.slice A n c, .string t, .int .i64 y]) ∧ t.size ≤ 2000 ∧ (-4100 ≤ y ∧ y ≤ 4100) ∧ DPl w A n c ps w'
/-- The source, and a register behind it that was drawn from another one. -/
structure RP (w : World) (B len : Nat) (V : World) (R : Nat) (A : Option Addr) (n c : Nat) (ps : List Pl) : Prop where
  own : ∃ es, plsOf es = ps ∧ OwnP V R V.heap.size A n c es
  lt : B < R
  src : Src V B len
  below : Below w.heap.size w V
  lo : w.heap.size ≤ B
  sm : ∀ p ∈ ps, SmQ p
  le : n ≤ 12
theorem CodeIn.belowG {w w' : World} {A : Option Addr} {len : Nat} (h : CodeIn w A len) (hb : Below w.heap.size w w') : CodeIn w' A len := fun hp => by
  obtain ⟨b, o, hA, hlt, hc⟩ := h hp
  refine ⟨b, o, hA, Nat.lt_of_lt_of_le hlt hb.size, fun j hj => ?_⟩
  obtain ⟨z, h0, h1, h2⟩ := hc j hj
  exact ⟨z, h0, h1, (hb.cell (by exact hlt)).trans h2⟩
theorem Src.belowG {w w' : World} {B len : Nat} (h : Src w B len) (hb : Below w.heap.size w w') : Src w' B len := by
  obtain ⟨A, cap, at_, seed, hT, h1, h2, h3, h4, hC⟩ := h
  refine ⟨A, cap, at_, seed, (hb.block B hT.lt).trans hT, h1, h2, h3, h4, fun hp => ?_⟩
  obtain ⟨b, o, hA, hne, hlt, hc⟩ := hC hp
  refine ⟨b, o, hA, hne, Nat.lt_of_lt_of_le hlt hb.size, fun j hj => ?_⟩
  obtain ⟨z, z0, z1, z2⟩ := hc j hj
  exact ⟨z, z0, z1, (hb.cell (by exact hlt)).trans z2⟩
theorem RP.next {w V V' : World} {B len R n c : Nat} {A : Option Addr} {ps : List Pl} (h : RP w B len V R A n c ps) (hS : Src V' B len) (hg : V.grownBy V' (some B)) : RP w B len V' R A n c ps := by
  obtain ⟨es, he, ho⟩ := h.own
  have hl := h.lt
  exact ⟨⟨es, he, (ho.like ⟨hg.os, hg.tape, hg.output, hg.size, fun k h1 h2 => hg.block k h2 (fun e => by injection e; omega)⟩).here⟩, h.lt, hS, below_srcG h.below h.lo hg, h.lo, h.sm, h.le⟩
theorem RP.alloc {w V : World} {B len R n c : Nat} {A : Option Addr} {ps : List Pl} (h : RP w B len V R A n c ps) (o : Obj) : RP w B len (V.alloc o) R A n c ps := h.next (h.src.alloc o) (World.grownBy_alloc V o (some B))
theorem RP.drew {w V : World} {B len R n c : Nat} {A : Option Addr} {ps : List Pl} (h : RP w B len V R A n c ps) : RP w B len V.drew R A n c ps := by
  obtain ⟨es, he, ho⟩ := h.own
  exact ⟨⟨es, he, ho.drew⟩, h.lt, h.src, h.below.drew, h.lo, h.sm, h.le⟩
theorem RP.pl {w V : World} {B len R n c : Nat} {A : Option Addr} {ps : List Pl} (h : RP w B len V R A n c ps) : PlAt V V.heap.size A n ps := by
  obtain ⟨es, he, ho⟩ := h.own
  exact own_pl2 ho he
theorem RP.dpl {w V : World} {B len R n c : Nat} {A : Option Addr} {ps : List Pl} (h : RP w B len V R A n c ps) : DPl w A n c ps V := by
  obtain ⟨es, he, ho⟩ := h.own
  exact ⟨h.le, h.sm, ⟨es, he, ho.down (by have := h.lt; have := h.lo; omega)⟩, h.below⟩
def row3G : Array Value := #[.string ⟨#[111, 108, 100, 32, 97, 115, 104]⟩, .string ⟨#[110, 101, 119, 116, 111, 110]⟩, .string ⟨#[79, 108, 100]⟩]
def tab3G (i : Nat) : ByteArray := [(⟨#[111, 108, 100, 32, 97, 115, 104]⟩ : ByteArray), ⟨#[110, 101, 119, 116, 111, 110]⟩, ⟨#[79, 108, 100]⟩].getD i ByteArray.empty
theorem row3G_at (i : Nat) (h : i < 3) : row3G[i]? = some (.string (tab3G i)) := by
  match i, h with
  | 0, _ => rfl
  | 1, _ => rfl
  | 2, _ => rfl
theorem tab3G_size (i : Nat) (h : i < 3) : (tab3G i).size ≤ 8 := by
  match i, h with
  | 0, _ => decide
  | 1, _ => decide
  | 2, _ => decide
theorem RP.drewN {w V : World} {B len R n c : Nat} {A : Option Addr} {ps : List Pl} (h : RP w B len V R A n c ps) (m : Nat) : RP w B len (V.drewN m) R A n c ps := by
  obtain ⟨es, he, ho⟩ := h.own
  exact ⟨⟨es, he, ⟨ho.row, ho.top, ho.inner, ho.apart⟩⟩, h.lt, h.src, ⟨h.below.os, h.below.tape, h.below.output, h.below.size, h.below.block⟩, h.lo, h.sm, h.le⟩
def slGn (j : Nat) : Nat := [18, 19, 20, 21, 22, 23, 24, 2, 3, 4].getD j 0
/-- What each operation of the region leaves in its slot. -/
def GGn (B : Nat) (A2 : Option Addr) (n c : Nat) (y : Int) : Nat → Value → World → Prop
  | 0, v, V => v = .slice A2 n c
  | 1, v, V => ∃ P, v = .slice (some ⟨P, 0, none⟩) 3 3 ∧ TabAt V P 9 row3G
  | 2, v, V => v = .pointer (some ⟨B, 0, none⟩)
  | 3, v, V => ∃ q : Nat, v = .int .i64 (q : Int) ∧ q < 3
  | 4, v, V => ∃ P q : Nat, v = .pointer (some ⟨P, q, none⟩) ∧ q < 3 ∧ TabAt V P 9 row3G
  | 5, v, V => ∃ t : ByteArray, v = .string t ∧ t.size ≤ 8
  | 6, v, V => v = .int .i64 y
  | 7, v, V => v = .slice A2 n c
  | 8, v, V => ∃ t : ByteArray, v = .string t ∧ t.size ≤ 8
  | 9, v, V => v = .int .i64 y
  | _, _, _ => True
theorem GGn.keep {B : Nat} {A2 : Option Addr} {n c : Nat} {y : Int} {V V' : World} {v : Value} (hT : ∀ (g : Nat) (t : TypeId) (cs : Array Value), t ≠ 131 → TabAt V g t cs → TabAt V' g t cs) (j : Nat) (h : GGn B A2 n c y j v V) : GGn B A2 n c y j v V' := by
  rcases j with _ | _ | _ | _ | _ | _ | _ | _ | _ | _ | j
  · first | (simp only [GGn] at h ⊢; exact h) | trivial
  · obtain ⟨P, h1, h2⟩ := h; exact ⟨P, h1, hT _ _ _ (by decide) h2⟩
  · first | (simp only [GGn] at h ⊢; exact h) | trivial
  · first | (simp only [GGn] at h ⊢; exact h) | trivial
  · obtain ⟨P, q, h1, h3, h2⟩ := h; exact ⟨P, q, h1, h3, hT _ _ _ (by decide) h2⟩
  · first | (simp only [GGn] at h ⊢; exact h) | trivial
  · first | (simp only [GGn] at h ⊢; exact h) | trivial
  · first | (simp only [GGn] at h ⊢; exact h) | trivial
  · first | (simp only [GGn] at h ⊢; exact h) | trivial
  · first | (simp only [GGn] at h ⊢; exact h) | trivial
  · trivial
def FGn (B : Nat) (A2 : Option Addr) (n c : Nat) (y : Int) (j : Nat) (a : Act) (V : World) : Prop := ∃ v, a.tmps[slGn j]? = some v ∧ GGn B A2 n c y j v V
set_option maxHeartbeats 2000000 in
set_option maxRecDepth 100000 in
theorem cDrawPN (A : Option Addr) (len cap : Nat) (w : World) (hlen : len ≤ 1048576) (h : CodeIn w A len) :
    Calls Tryz.prog 30 #[.slice A len cap] w (DPN w) := by
  have C0 := Lib.hid (cFrom A len cap w hlen h)
  have HC := Lib.hid h
  have CN := Lib.hid (fun B (V : World) (n : Int) (hV : Src V B len) (h1 : -1000000000 ≤ n) (h2 : n ≤ 10000000000) => cNext B len n V hlen h1 h2 hV)
  obtain ⟨B, hB⟩ : ∃ B, B = w.heap.size := ⟨_, rfl⟩
  have HB := Lib.hid hB
  rw [← hB] at C0
  clear h hB
  go_enter Tryz.func30, Tryz.ntmps30
  go_wp2_with fail
  refine C0.out.mono ?_
  rintro e w1 ⟨rfl, hS1, hb1⟩
  have hlt1 := hS1.lt
  have HB1 : Hid (Below w.heap.size w w1) := Lib.hid (by rw [← HB.out]; exact hb1)
  have S1 := Lib.hid hS1
  have C1 := Lib.hid (cDrawPI A len cap w1 hlen (HC.out.belowG HB1.out))
  clear hS1 hb1 C0 HC
  go_wp2_with fail
  refine C1.out.mono ?_
  rintro e w2 ⟨A2, n, c, ps, y, rfl, hy, hn, hsm, hown, hb2⟩
  have R2 : Hid (RP w B len w2 w1.heap.size A2 n c ps) := Lib.hid ⟨hown, hlt1, S1.out.belowG hb2, HB1.out.trans (hb2.mono HB1.out.size), Nat.le_of_eq HB.out.symm, hsm, hn⟩
  clear hown hb2 C1 S1 HB1 hsm
  go_wp2_with fail
  refine (CN.out B _ 2 R2.out.src (by omega) (by omega)).mono ?_
  rintro e w3 ⟨r, hr0, hr1, rfl, hS3, g3⟩
  have R3 := Lib.hid (R2.out.next hS3 g3)
  clear hS3 g3 R2 hr1
  by_cases h0 : r = 0
  · subst h0
    have HW0 : Hid (RP w B len w3 w1.heap.size A2 n c ps) := R3
    go_wp2_with fail
    refine wp_region_factsC (by kernel_rfl) ?_ (fun a V => (∃ u2 u3 u4 u18 u19 u20 u21 u22 u23 u24 : Value, a = { tmps := List.toArray (.slice A len cap :: undef :: u2 :: u3 :: u4 :: .pointer (some ⟨B, 0, none⟩) :: .slice A2 n c :: .int .i64 y :: .slice A len cap :: .pointer (some ⟨B, 0, none⟩) :: .tuple #[.slice A2 n c, .int .i64 y] :: .slice A len cap :: .tuple #[.slice A2 n c, .int .i64 y] :: .slice A2 n c :: .int .i64 y :: .pointer (some ⟨B, 0, none⟩) :: .int .i64 0 :: .bool true :: u18 :: u19 :: u20 :: u21 :: u22 :: u23 :: u24 :: undef :: undef :: undef :: undef :: undef :: undef :: undef :: undef :: undef :: undef :: undef :: undef :: undef :: undef :: undef :: undef :: undef :: undef :: undef :: undef :: undef :: undef :: undef :: undef :: []), defers := [] }) ∧ RP w B len V w1.heap.size A2 n c ps) (FGn B A2 n c y) ?_ ?_ ?_
    · decide +kernel
    · exact ⟨⟨_, _, _, _, _, _, _, _, _, _, rfl⟩, HW0.out.drew⟩
    · intro i o ho a V hB hD
      obtain ⟨⟨u2, u3, u4, u18, u19, u20, u21, u22, u23, u24, rfl⟩, hW⟩ := hB
      rcases i with _ | _ | _ | _ | _ | _ | _ | _ | _ | _ | i
      · -- 0
        simp at ho
        subst ho
        refine wpOp_list (o := _) rfl rfl ?_
        go_wp2_with fail
        change (_ ∧ _ ∧ _)
        refine ⟨⟨⟨_, _, _, _, _, _, _, _, _, _, rfl⟩, hW⟩, ⟨_, rfl, rfl⟩, ?_⟩
        intro j hj hnd hF
        obtain ⟨v9, k1, k2⟩ := hF
        refine ⟨v9, ?_, GGn.keep (fun _ _ _ _ h => h) j k2⟩
        rcases j with _ | _ | _ | _ | _ | _ | _ | _ | _ | _ | j
        all_goals first | exact k1 | exact absurd rfl hj | (exfalso; exact hnd _ rfl { on := 0, ground := .data } (by simp) rfl rfl)
      · -- 1
        simp at ho
        subst ho
        refine wpOp_list (o := _) rfl rfl ?_
        go_wp2_with fail
        change (_ ∧ _ ∧ _)
        refine ⟨⟨⟨_, _, _, _, _, _, _, _, _, _, rfl⟩, hW.alloc _⟩, ⟨_, rfl, V.heap.size, rfl, TabAt.new V _ _⟩, ?_⟩
        intro j hj hnd hF
        obtain ⟨v9, k1, k2⟩ := hF
        refine ⟨v9, ?_, GGn.keep (fun g t cs ht h => h.alloc _) j k2⟩
        rcases j with _ | _ | _ | _ | _ | _ | _ | _ | _ | _ | j
        all_goals first | exact k1 | exact absurd rfl hj | (exfalso; exact hnd _ rfl { on := 1, ground := .data } (by simp) rfl rfl)
      · -- 2
        simp at ho
        subst ho
        refine wpOp_list (o := _) rfl rfl ?_
        go_wp2_with fail
        change (_ ∧ _ ∧ _)
        refine ⟨⟨⟨_, _, _, _, _, _, _, _, _, _, rfl⟩, hW⟩, ⟨_, rfl, rfl⟩, ?_⟩
        intro j hj hnd hF
        obtain ⟨v9, k1, k2⟩ := hF
        refine ⟨v9, ?_, GGn.keep (fun _ _ _ _ h => h) j k2⟩
        rcases j with _ | _ | _ | _ | _ | _ | _ | _ | _ | _ | j
        all_goals first | exact k1 | exact absurd rfl hj | (exfalso; exact hnd _ rfl { on := 2, ground := .data } (by simp) rfl rfl)
      · -- 3
        simp at ho
        subst ho
        have d2 := hD { on := 2, ground := .data } (by simp) rfl
        obtain ⟨v2, q2, rfl⟩ := d2
        obtain rfl : u20 = _ := by simpa [slGn] using q2
        refine wpOp_list (o := _) rfl rfl ?_
        go_wp2_with fail
        refine (CN.out B _ 3 hW.src (by omega) (by omega)).mono ?_
        rintro e V9 ⟨r9, hr0, hr1, rfl, hS9, g9⟩
        obtain ⟨q, rfl⟩ : ∃ q : Nat, r9 = q := ⟨r9.toNat, by omega⟩
        go_wp2_with fail
        change (_ ∧ _ ∧ _)
        refine ⟨⟨⟨_, _, _, _, _, _, _, _, _, _, rfl⟩, hW.next hS9 g9⟩, ⟨_, rfl, q, rfl, by omega⟩, ?_⟩
        intro j hj hnd hF
        obtain ⟨v9, k1, k2⟩ := hF
        refine ⟨v9, ?_, GGn.keep (fun g t cs ht h => tab_src h hW.src ht g9) j k2⟩
        rcases j with _ | _ | _ | _ | _ | _ | _ | _ | _ | _ | j
        all_goals first | exact k1 | exact absurd rfl hj | (exfalso; exact hnd _ rfl { on := 3, ground := .data } (by simp) rfl rfl)
      · -- 4
        simp at ho
        subst ho
        have d1 := hD { on := 1, ground := .data } (by simp) rfl
        obtain ⟨v1, q1, ⟨P, rfl, hP⟩⟩ := d1
        obtain rfl : u19 = _ := by simpa [slGn] using q1
        have d3 := hD { on := 3, ground := .data } (by simp) rfl
        obtain ⟨v3, q3, ⟨q, rfl, hq⟩⟩ := d3
        obtain rfl : u21 = _ := by simpa [slGn] using q3
        refine wpOp_list (o := _) rfl rfl ?_
        have e1 : (0 : Int) ≤ (q : Int) := by omega
        have e2 : (q : Int) < 3 := by omega
        go_wp2_with fail
        change (_ ∧ _ ∧ _)
        refine ⟨⟨⟨_, _, _, _, _, _, _, _, _, _, rfl⟩, hW⟩, ⟨_, rfl, P, q, by go_num, hq, hP⟩, ?_⟩
        intro j hj hnd hF
        obtain ⟨v9, k1, k2⟩ := hF
        refine ⟨v9, ?_, GGn.keep (fun _ _ _ _ h => h) j k2⟩
        rcases j with _ | _ | _ | _ | _ | _ | _ | _ | _ | _ | j
        all_goals first | exact k1 | exact absurd rfl hj | (exfalso; exact hnd _ rfl { on := 4, ground := .data } (by simp) rfl rfl)
      · -- 5
        simp at ho
        subst ho
        have d4 := hD { on := 4, ground := .data } (by simp) rfl
        obtain ⟨v4, q4, ⟨P, q, rfl, hq, hP⟩⟩ := d4
        obtain rfl : u22 = _ := by simpa [slGn] using q4
        refine wpOp_list (o := _) rfl rfl ?_
        have kc : V.cell? ⟨P, q, none⟩ = some (.string (tab3G q)) := (hP.cell q).trans (row3G_at q hq)
        go_wp2_with fail
        change (_ ∧ _ ∧ _)
        refine ⟨⟨⟨_, _, _, _, _, _, _, _, _, _, rfl⟩, hW⟩, ⟨_, rfl, tab3G q, rfl, tab3G_size q hq⟩, ?_⟩
        intro j hj hnd hF
        obtain ⟨v9, k1, k2⟩ := hF
        refine ⟨v9, ?_, GGn.keep (fun _ _ _ _ h => h) j k2⟩
        rcases j with _ | _ | _ | _ | _ | _ | _ | _ | _ | _ | j
        all_goals first | exact k1 | exact absurd rfl hj | (exfalso; exact hnd _ rfl { on := 5, ground := .data } (by simp) rfl rfl)
      · -- 6
        simp at ho
        subst ho
        refine wpOp_list (o := _) rfl rfl ?_
        go_wp2_with fail
        change (_ ∧ _ ∧ _)
        refine ⟨⟨⟨_, _, _, _, _, _, _, _, _, _, rfl⟩, hW⟩, ⟨_, rfl, rfl⟩, ?_⟩
        intro j hj hnd hF
        obtain ⟨v9, k1, k2⟩ := hF
        refine ⟨v9, ?_, GGn.keep (fun _ _ _ _ h => h) j k2⟩
        rcases j with _ | _ | _ | _ | _ | _ | _ | _ | _ | _ | j
        all_goals first | exact k1 | exact absurd rfl hj | (exfalso; exact hnd _ rfl { on := 6, ground := .data } (by simp) rfl rfl)
      · -- 7
        simp at ho
        subst ho
        have d0 := hD { on := 0, ground := .data } (by simp) rfl
        obtain ⟨v0, q0, rfl⟩ := d0
        obtain rfl : u18 = _ := by simpa [slGn] using q0
        refine wpOp_list (o := _) rfl rfl ?_
        go_wp2_with fail
        change (_ ∧ _ ∧ _)
        refine ⟨⟨⟨_, _, _, _, _, _, _, _, _, _, rfl⟩, hW⟩, ⟨_, rfl, rfl⟩, ?_⟩
        intro j hj hnd hF
        obtain ⟨v9, k1, k2⟩ := hF
        refine ⟨v9, ?_, GGn.keep (fun _ _ _ _ h => h) j k2⟩
        rcases j with _ | _ | _ | _ | _ | _ | _ | _ | _ | _ | j
        all_goals first | exact k1 | exact absurd rfl hj | (exfalso; exact hnd _ rfl { on := 7, ground := .data } (by simp) rfl rfl)
      · -- 8
        simp at ho
        subst ho
        have d5 := hD { on := 5, ground := .data } (by simp) rfl
        obtain ⟨v5, q5, ⟨t, rfl, ht⟩⟩ := d5
        obtain rfl : u23 = _ := by simpa [slGn] using q5
        refine wpOp_list (o := _) rfl rfl ?_
        go_wp2_with fail
        change (_ ∧ _ ∧ _)
        refine ⟨⟨⟨_, _, _, _, _, _, _, _, _, _, rfl⟩, hW⟩, ⟨_, rfl, t, rfl, ht⟩, ?_⟩
        intro j hj hnd hF
        obtain ⟨v9, k1, k2⟩ := hF
        refine ⟨v9, ?_, GGn.keep (fun _ _ _ _ h => h) j k2⟩
        rcases j with _ | _ | _ | _ | _ | _ | _ | _ | _ | _ | j
        all_goals first | exact k1 | exact absurd rfl hj | (exfalso; exact hnd _ rfl { on := 8, ground := .data } (by simp) rfl rfl)
      · -- 9
        simp at ho
        subst ho
        have d6 := hD { on := 6, ground := .data } (by simp) rfl
        obtain ⟨v6, q6, rfl⟩ := d6
        obtain rfl : u24 = _ := by simpa [slGn] using q6
        refine wpOp_list (o := _) rfl rfl ?_
        go_wp2_with fail
        change (_ ∧ _ ∧ _)
        refine ⟨⟨⟨_, _, _, _, _, _, _, _, _, _, rfl⟩, hW⟩, ⟨_, rfl, rfl⟩, ?_⟩
        intro j hj hnd hF
        obtain ⟨v9, k1, k2⟩ := hF
        refine ⟨v9, ?_, GGn.keep (fun _ _ _ _ h => h) j k2⟩
        rcases j with _ | _ | _ | _ | _ | _ | _ | _ | _ | _ | j
        all_goals first | exact k1 | exact absurd rfl hj | (exfalso; exact hnd _ rfl { on := 9, ground := .data } (by simp) rfl rfl)
      · exfalso
        simp at ho
    · intro a V hB hF
      obtain ⟨⟨u2, u3, u4, u18, u19, u20, u21, u22, u23, u24, rfl⟩, hW⟩ := hB
      obtain ⟨v7, q7, rfl⟩ := hF 7 (by decide)
      obtain rfl : u2 = _ := by simpa [slGn] using q7
      obtain ⟨v8, q8, t, rfl, ht⟩ := hF 8 (by decide)
      obtain rfl : u3 = _ := by simpa [slGn] using q8
      obtain ⟨v9, q9, rfl⟩ := hF 9 (by decide)
      obtain rfl : u4 = _ := by simpa [slGn] using q9
      change Exit.then _ _ _ _ _
      go_wp2_with fail
      go_ret3
      exact ⟨A2, n, c, ps, t, y, rfl, by omega, hy, hW.dpl⟩
  have d0 : (r == 0) = false := by rw [beq_eq_false_iff_ne]; exact h0
  have CP := Lib.hid (cDrawPhrase B len w3 hlen R3.out.src)
  by_cases hp : 0 < n
  · have p1 : decide ((0 : Int) < (n : Int)) = true := decide_eq_true (by omega)
    have z0 : (0 : Int) < (n : Int) := by omega
    have hnl := R3.out.pl.1
    obtain ⟨p, hpp⟩ : ∃ p, ps[0]? = some p := ⟨ps[0]'(by omega), List.getElem?_eq_getElem _⟩
    obtain ⟨b, o, rfl, hbl, A1, d1, c0, c1, c2, c3, c4, hnm, hd1⟩ := R3.out.pl.row hpp
    have hsq := R3.out.sm p (List.mem_of_getElem? hpp)
    clear hnl
    have k4 : w3.cell? ⟨b, o + 4, none⟩ = some (.slice A1 p.ns.length d1) := by simpa using c4
    by_cases hns : 0 < p.ns.length
    · have p2 : decide ((0 : Int) < (p.ns.length : Int)) = true := decide_eq_true (by omega)
      have z1 : (0 : Int) < (p.ns.length : Int) := by omega
      obtain ⟨x, hx⟩ : ∃ x, p.ns[0]? = some x := ⟨p.ns[0]'hns, List.getElem?_eq_getElem _⟩
      obtain ⟨bn, on, rfl, hbn, e0, _⟩ := hnm.row hx
      have k0 : w3.cell? ⟨bn, on, none⟩ = some (.string x.t) := by simpa using e0
      have hxs := (hsq.2.2 x (List.mem_of_getElem? hx)).1
      clear c0 c1 c2 c3 c4 hnm hd1 e0 hx hpp hsq CP
      go_wp2_with fail
      go_quiet (fail)
      go_wp2_with fail
      go_ret3
      exact ⟨_, n, c, ps, x.t, y, rfl, hxs, hy, (R3.out.drewN _).dpl⟩
    · have p2 : decide ((0 : Int) < (p.ns.length : Int)) = false := decide_eq_false (by omega)
      clear c0 c1 c2 c3 c4 hnm hd1 hpp hsq
      go_wp2_with fail
      refine CP.out.mono ?_
      rintro e w4 ⟨t, ht, rfl, hS4, g4⟩
      have R4 := Lib.hid (R3.out.next hS4 g4)
      clear hS4 g4
      go_wp2_with fail
      go_ret3
      exact ⟨_, n, c, ps, t, y, rfl, ht, hy, R4.out.dpl⟩
  · have p1 : decide ((0 : Int) < (n : Int)) = false := decide_eq_false (by omega)
    go_wp2_with fail
    refine CP.out.mono ?_
    rintro e w4 ⟨t, ht, rfl, hS4, g4⟩
    have R4 := Lib.hid (R3.out.next hS4 g4)
    clear hS4 g4
    go_wp2_with fail
    go_ret3
    exact ⟨_, n, c, ps, t, y, rfl, ht, hy, R4.out.dpl⟩
/-- The source, a register and a row of numbers of one's own. -/
def DPK (w : World) (e : Ending) (w' : World) : Prop := ∃ (A : Option Addr) (n c : Nat) (ps : List Pl) (A1 : Option Addr) (n1 c1 : Nat) (xs : List Int) (a y : Int), e = .returned (.tuple #[.slice A n c, .slice A1 n1 c1, .int .i64 a, .int .i64 y]) ∧ n1 ≤ 21 ∧ w'.ownsRow w.heap.size 2 1 (.slice A1 n1 c1) n1 (intV xs) ∧ DPl w A n c ps w'
theorem results_fourG {fn : Func} {t u v x : Tmp} (h : fn.results = #[.tmp t, .tmp u, .tmp v, .tmp x]) (tmps : Array Value) (P : Program) (w : World) :
    (results fn tmps).run P w = .ok (.tuple #[tmps.getD t undef, tmps.getD u undef, tmps.getD v undef, tmps.getD x undef]) w := by
  simp [results, h]
set_option maxHeartbeats 1000000 in
set_option maxRecDepth 100000 in
theorem cDrawPK (A : Option Addr) (len cap : Nat) (w : World) (hlen : len ≤ 1048576) (h : CodeIn w A len) :
    Calls Tryz.prog 32 #[.slice A len cap] w (DPK w) := by
  have C0 := Lib.hid (cFrom A len cap w hlen h)
  have HC := Lib.hid h
  obtain ⟨B, hB⟩ : ∃ B, B = w.heap.size := ⟨_, rfl⟩
  have HB := Lib.hid hB
  rw [← hB] at C0
  clear h hB
  go_enter Tryz.func32, Tryz.ntmps32
  go_wp2_with fail
  refine C0.out.mono ?_
  rintro e w1 ⟨rfl, hS1, hb1⟩
  have hlt1 := hS1.lt
  have HB1 : Hid (Below w.heap.size w w1) := Lib.hid (by rw [← HB.out]; exact hb1)
  have S1 := Lib.hid hS1
  have C1 := Lib.hid (cDrawPI A len cap w1 hlen (HC.out.belowG HB1.out))
  clear hS1 hb1 C0 HC
  go_wp2_with fail
  refine C1.out.mono ?_
  rintro e w2 ⟨A2, n, c, ps, y, rfl, hy, hn, hsm, hown, hb2⟩
  have R2 : Hid (RP w B len w2 w1.heap.size A2 n c ps) := Lib.hid ⟨hown, hlt1, S1.out.belowG hb2, HB1.out.trans (hb2.mono HB1.out.size), Nat.le_of_eq HB.out.symm, hsm, hn⟩
  have CT := Lib.hid (cDraw10 B len w2 hlen R2.out.src)
  clear hown hb2 C1 S1 HB1 hsm
  go_wp2_with fail
  refine CT.out.mono ?_
  rintro e w3 ⟨A1, n1, c1, xs, rfl, hown3, hn1, hS3, g3⟩
  have R3 := Lib.hid (R2.out.next hS3 g3)
  have HT3 := Lib.hid (rowBase hown3 R2.out.below.size)
  have hBw : B < w2.heap.size := R2.out.src.lt
  have HT4 := Lib.hid hown3
  have CC := Lib.hid (cClass10 B len A1 n1 c1 w3 hlen (by omega) hS3)
  clear hown3 hS3 g3 R2 CT
  go_wp2_with fail
  refine CC.out.mono ?_
  rintro e w4 ⟨a, rfl, hS4, g4⟩
  have R4 := Lib.hid (R3.out.next hS4 g4)
  have HT5 : Hid (w4.ownsRow w.heap.size 2 1 (.slice A1 n1 c1) n1 (intV xs)) := Lib.hid (HT3.out.kept g4 (.inr (fun e => by have := (HT4.out.lt B e).1; omega)))
  clear hS4 g4 R3 HT3 CC
  go_wp2_with fail
  (try simp only [Exit.inBlock, Exit.then])
  refine bodyPost_ret (results_fourG rfl _ _ _) rfl ?_
  exact ⟨A2, n, c, ps, A1, n1, c1, xs, a, y, rfl, hn1, HT5.out, R4.out.dpl⟩
def rowLG : Array Value := #[.string ⟨#[101, 110]⟩, .string ⟨#[100, 101]⟩, .string ⟨#[102, 114]⟩, .string ⟨#[108, 97, 116]⟩, .string ⟨#[101, 110]⟩, .string ⟨#[101]⟩]
def tabLG (i : Nat) : ByteArray := [(⟨#[101, 110]⟩ : ByteArray), ⟨#[100, 101]⟩, ⟨#[102, 114]⟩, ⟨#[108, 97, 116]⟩, ⟨#[101, 110]⟩, ⟨#[101]⟩].getD i ByteArray.empty
theorem rowLG_at (i : Nat) (h : i < 6) : rowLG[i]? = some (.string (tabLG i)) := by
  match i, h with
  | 0, _ => rfl
  | 1, _ => rfl
  | 2, _ => rfl
  | 3, _ => rfl
  | 4, _ => rfl
  | 5, _ => rfl
theorem tabLG_size (i : Nat) (h : i < 6) : (tabLG i).size ≤ 8 := by
  match i, h with
  | 0, _ => decide
  | 1, _ => decide
  | 2, _ => decide
  | 3, _ => decide
  | 4, _ => decide
  | 5, _ => decide
end Go.Proofs.YtglmibmjbignbaaGreatDoor
