/-
  The contract of spec.l11Good: the walk.
-/
import Derived.Test.YtglmibmjbignbaaGreatDoorGdA
import Derived.Test.YtglmibmjbignbaaGreatDoorPlApp
import Derived.Test.YtglmibmjbignbaaGreatDoorMy14
namespace Go.Proofs.YtglmibmjbignbaaGreatDoor
set_option linter.unusedVariables false
open Go.RowKit

theorem bx_addG {W : World} {b : Nat} {l : List Value} (h : Bx W b l) : ∀ ad, some (⟨b, 0, none⟩ : Addr) = some ad → ∀ j u, l[j]? = some u → W.cell? (ad.add j) = some u := by
  intro ad e j u hu
  obtain rfl := Option.some.inj e
  rw [add_plain', Nat.zero_add]
  exact (h.2 j u hu).1
theorem LN.litG {w V : World} {B len g : Nat} (hT : TabAt V g 100 #[]) (hg : w.heap.size ≤ g) (hS : Src V B len) (hG : w.grownBy V (some B)) (hl : B < w.heap.size) : LN w w.heap.size B len V (.slice (some ⟨g, 0, none⟩) 0 0) 0 [] :=
  ⟨⟨rfl, .inr ⟨g, 0, #[], rfl, hg, hT, Nat.le_refl _, Nat.zero_le _, rfl, rfl⟩⟩, hS, hG, hl, by simp, Nat.le_refl _, hG.size⟩
theorem GW.below {w V V' : World} {B len bp c : Nat} {p : Pl} {A : Option Addr} (h : GW w B len bp V p A c) (hb : Below V.heap.size V V') : GW w B len bp V' p A c :=
  ⟨h.ln.below hb, (hb.block bp h.box.lt).trans h.box, h.lt, (hb.block _ h.res.lt).trans h.res, h.ok⟩
theorem GY.below {w V V' : World} {B len bp bx c : Nat} {p : Pl} {A : Option Addr} {x : Nm} (h : GY w B len bp bx V p A c x) (hb : Below V.heap.size V V') : GY w B len bp bx V' p A c x :=
  ⟨h.gw.below hb, h.lt, h.off, h.ok, (hb.block bx h.box.lt).trans h.box⟩
theorem GY.cells {w V : World} {B len bp bx c : Nat} {p : Pl} {A : Option Addr} {x : Nm} (h : GY w B len bp bx V p A c x) : V.cell? ⟨bp, 0, none⟩ = some (.string p.c) ∧ V.cell? ⟨bp, 1, none⟩ = some (.int .i64 p.k) ∧ V.cell? ⟨bp, 2, none⟩ = some (.int .i64 p.f) ∧ V.cell? ⟨bp, 3, none⟩ = some (.int .i64 p.u) ∧ V.cell? ⟨bp, 4, none⟩ = some (.slice A p.ns.length c) :=
  ⟨(h.gw.box.cell 0).trans rfl, (h.gw.box.cell 1).trans rfl, (h.gw.box.cell 2).trans rfl, (h.gw.box.cell 3).trans rfl, (h.gw.box.cell 4).trans rfl⟩
theorem GY.xcells {w V : World} {B len bp bx c : Nat} {p : Pl} {A : Option Addr} {x : Nm} (h : GY w B len bp bx V p A c x) : V.cell? ⟨bx, 0, none⟩ = some (.string x.t) ∧ V.cell? ⟨bx, 1, none⟩ = some (.string x.l) ∧ V.cell? ⟨bx, 2, none⟩ = some (.int .i64 x.s) ∧ V.cell? ⟨bx, 3, none⟩ = some (.int .i64 x.f) ∧ V.cell? ⟨bx, 4, none⟩ = some (.int .i64 x.u) :=
  ⟨(h.box.cell 0).trans rfl, (h.box.cell 1).trans rfl, (h.box.cell 2).trans rfl, (h.box.cell 3).trans rfl, (h.box.cell 4).trans rfl⟩
theorem GY.at4 {w V : World} {B len bp bx c : Nat} {p : Pl} {A : Option Addr} {x : Nm} (h : GY w B len bp bx V p A c x) : V.cell? ⟨bp, 4, none⟩ = some (.slice A p.ns.length c) ∧ V.frozen? ⟨bp, 4, none⟩ = false := ⟨(h.gw.box.cell 4).trans rfl, h.gw.box.frozen 4⟩
theorem GY.at0 {w V : World} {B len bp bx c : Nat} {p : Pl} {A : Option Addr} {x : Nm} (h : GY w B len bp bx V p A c x) : V.cell? ⟨bx, 0, none⟩ = some (.string x.t) ∧ V.frozen? ⟨bx, 0, none⟩ = false := ⟨(h.box.cell 0).trans rfl, h.box.frozen 0⟩
theorem GW.both {w V : World} {B len bp c : Nat} {p : Pl} {A : Option Addr} (h : GW w B len bp V p A c) :
    (V.cell? ⟨bp, 0, none⟩ = some (.string p.c) ∧ V.cell? ⟨bp, 1, none⟩ = some (.int .i64 p.k) ∧ V.cell? ⟨bp, 2, none⟩ = some (.int .i64 p.f) ∧ V.cell? ⟨bp, 3, none⟩ = some (.int .i64 p.u) ∧ V.cell? ⟨bp, 4, none⟩ = some (.slice A p.ns.length c)) ∧
    (V.cell? ⟨w.heap.size, 0, none⟩ = some (.string ⟨#[]⟩) ∧ V.cell? ⟨w.heap.size, 1, none⟩ = some (.int .i64 0) ∧ V.cell? ⟨w.heap.size, 2, none⟩ = some (.int .i64 0) ∧ V.cell? ⟨w.heap.size, 3, none⟩ = some (.int .i64 0) ∧ V.cell? ⟨w.heap.size, 4, none⟩ = some (.slice none 0 0)) ∧
    (V.frozen? ⟨w.heap.size, 0, none⟩ = false ∧ V.frozen? ⟨w.heap.size, 1, none⟩ = false ∧ V.frozen? ⟨w.heap.size, 2, none⟩ = false ∧ V.frozen? ⟨w.heap.size, 3, none⟩ = false ∧ V.frozen? ⟨w.heap.size, 4, none⟩ = false) :=
  ⟨⟨(h.box.cell 0).trans rfl, (h.box.cell 1).trans rfl, (h.box.cell 2).trans rfl, (h.box.cell 3).trans rfl, (h.box.cell 4).trans rfl⟩,
    ⟨(h.res.cell 0).trans rfl, (h.res.cell 1).trans rfl, (h.res.cell 2).trans rfl, (h.res.cell 3).trans rfl, (h.res.cell 4).trans rfl⟩, ⟨h.res.frozen 0, h.res.frozen 1, h.res.frozen 2, h.res.frozen 3, h.res.frozen 4⟩⟩
theorem GW.done {w V : World} {B len bp c : Nat} {p : Pl} {A : Option Addr} (h : GW w B len bp V p A c) :
    LN w w.heap.size B len (putP V w.heap.size p A c) (.slice A p.ns.length c) p.ns.length p.ns ∧
    ((putP V w.heap.size p A c).cell? ⟨w.heap.size, 0, none⟩ = some (.string p.c) ∧ (putP V w.heap.size p A c).cell? ⟨w.heap.size, 1, none⟩ = some (.int .i64 p.k) ∧ (putP V w.heap.size p A c).cell? ⟨w.heap.size, 2, none⟩ = some (.int .i64 p.f) ∧ (putP V w.heap.size p A c).cell? ⟨w.heap.size, 3, none⟩ = some (.int .i64 p.u) ∧ (putP V w.heap.size p A c).cell? ⟨w.heap.size, 4, none⟩ = some (.slice A p.ns.length c)) := by
  have hT := putP_same (p := p) (A := A) (c := c) h.res rfl
  refine ⟨?_, (hT.cell 0).trans rfl, (hT.cell 1).trans rfl, (hT.cell 2).trans rfl, (hT.cell 3).trans rfl, (hT.cell 4).trans rfl⟩
  have r1 := h.res.set 0 (.string p.c)
  have r2 := r1.set 1 (.int .i64 p.k)
  have r3 := r2.set 2 (.int .i64 p.f)
  have r4 := r3.set 3 (.int .i64 p.u)
  exact ((((h.ln.setG h.res (by decide) (Nat.le_refl _)).setG r1 (by decide) (Nat.le_refl _)).setG r2 (by decide) (Nat.le_refl _)).setG r3 (by decide) (Nat.le_refl _)).setG r4 (by decide) (Nat.le_refl _)
def rowTG : Array Value := #[.string ⟨#[111, 108, 100, 32, 97, 115, 104]⟩, .string ⟨#[110, 101, 119, 116, 111, 110]⟩]
def tabTG (i : Nat) : ByteArray := [(⟨#[111, 108, 100, 32, 97, 115, 104]⟩ : ByteArray), ⟨#[110, 101, 119, 116, 111, 110]⟩].getD i ByteArray.empty
theorem rowTG_at (i : Nat) (h : i < 2) : rowTG[i]? = some (.string (tabTG i)) := by
  match i, h with
  | 0, _ => rfl
  | 1, _ => rfl
theorem tabTG_size (i : Nat) (h : i < 2) : (tabTG i).size ≤ 8 := by
  match i, h with
  | 0, _ => decide
  | 1, _ => decide
/-- A drawn place. -/
def GdPost (w : World) (B len : Nat) (e : Ending) (w' : World) : Prop := ∃ (p : Pl) (A : Option Addr) (c : Nat), e = .returned (plv11 p A c) ∧ GdP p ∧ p.ns.length ≤ 3 ∧ LN w w.heap.size B len w' (.slice A p.ns.length c) p.ns.length p.ns

set_option maxHeartbeats 80000000 in
set_option maxRecDepth 100000 in
theorem cGdD (B len : Nat) (w : World) (hlen : len ≤ 1048576) (h : Src w B len) :
    Calls Tryz.prog 113 #[.pointer (some ⟨B, 0, none⟩)] w (GdPost w B len) := by
  obtain ⟨i0, hi0, hz0, hz1, hz2⟩ := info_parts info_nmZ
  have hBl := h.lt
  have CN := Lib.hid (fun (V : World) (n : Int) (hV : Src V B len) (h1 : -1000000000 ≤ n) (h2 : n ≤ 10000000000) => cNext B len n V hlen h1 h2 hV)
  have CD := Lib.hid (fun (V : World) (hV : Src V B len) => cNmD B len V hlen hV)
  have HW0 : Hid (WP w B len (w.alloc (.cells #[.string ⟨#[]⟩, .int .i64 0, .int .i64 0, .int .i64 0, .slice none 0 0] 29))) := Lib.hid ⟨h.alloc _, World.grownBy_alloc w _ _, hBl, TabAt.new w _ _⟩
  clear h
  go_enter Tryz.func113, Tryz.ntmps113
  go_wp2_with fail
  go_cut [3] from 3 to 19 (fun t wx => ∃ b : Nat, t = .pointer (some ⟨b, 0, none⟩) ∧ Hid (GE w B len b 0 wx))
  case first =>
    refine wp_region_facts (by kernel_rfl) ?_ (fun a V => (∃ u3 u7 u8 u9 u10 u11 u12 u13 u14 u15 u16 u17 u18 u19 : Value, a = { tmps := List.toArray (.pointer (some ⟨B, 0, none⟩) :: undef :: .pointer (some ⟨w.heap.size, 0, none⟩) :: u3 :: undef :: undef :: undef :: u7 :: u8 :: u9 :: u10 :: u11 :: u12 :: u13 :: u14 :: u15 :: u16 :: u17 :: u18 :: u19 :: undef :: undef :: undef :: undef :: undef :: undef :: undef :: undef :: undef :: undef :: undef :: undef :: undef :: undef :: undef :: undef :: undef :: undef :: undef :: undef :: undef :: undef :: undef :: undef :: undef :: undef :: undef :: undef :: undef :: undef :: undef :: undef :: undef :: undef :: undef :: undef :: undef :: undef :: undef :: undef :: undef :: undef :: undef :: undef :: undef :: undef :: undef :: undef :: undef :: undef :: undef :: undef :: undef :: undef :: undef :: undef :: undef :: undef :: undef :: undef :: undef :: undef :: undef :: undef :: []), defers := [] }) ∧ WP w B len V) (FGd w B) ?_ ?_ ?_
    · decide +kernel
    · exact ⟨⟨_, _, _, _, _, _, _, _, _, _, _, _, _, _, rfl⟩, HW0.out.drew⟩
    · intro i o ho a V hB hD
      obtain ⟨⟨u3, u7, u8, u9, u10, u11, u12, u13, u14, u15, u16, u17, u18, u19, rfl⟩, hW⟩ := hB
      rcases i with _ | _ | _ | _ | _ | _ | _ | _ | _ | _ | _ | _ | _ | _ | _ | i
      · -- 0
        simp at ho
        subst ho
        refine wpOp_list (o := _) rfl rfl ?_
        go_wp2_with fail
        change (_ ∧ _ ∧ _)
        refine ⟨⟨⟨_, _, _, _, _, _, _, _, _, _, _, _, _, _, rfl⟩, hW.alloc _⟩, ⟨_, rfl, V.heap.size, rfl, TabAt.new V _ _⟩, ?_⟩
        intro j hj hnd hF
        obtain ⟨v9, k1, k2⟩ := hF
        refine ⟨v9, ?_, GGd.keep (fun g t cs ht h => h.alloc _) j k2⟩
        rcases j with _ | _ | _ | _ | _ | _ | _ | _ | _ | _ | _ | _ | _ | _ | _ | j
        all_goals first | exact k1 | exact absurd rfl hj | (exfalso; exact hnd _ rfl { on := 0, ground := .data } (by simp) rfl rfl)
      · -- 1
        simp at ho
        subst ho
        refine wpOp_list (o := _) rfl rfl ?_
        go_wp2_with fail
        change (_ ∧ _ ∧ _)
        refine ⟨⟨⟨_, _, _, _, _, _, _, _, _, _, _, _, _, _, rfl⟩, hW⟩, ⟨_, rfl, rfl⟩, ?_⟩
        intro j hj hnd hF
        obtain ⟨v9, k1, k2⟩ := hF
        refine ⟨v9, ?_, GGd.keep (fun _ _ _ _ h => h) j k2⟩
        rcases j with _ | _ | _ | _ | _ | _ | _ | _ | _ | _ | _ | _ | _ | _ | _ | j
        all_goals first | exact k1 | exact absurd rfl hj | (exfalso; exact hnd _ rfl { on := 1, ground := .data } (by simp) rfl rfl)
      · -- 2
        simp at ho
        subst ho
        have d1 := hD { on := 1, ground := .data } (by simp) rfl
        obtain ⟨v1, q1, rfl⟩ := d1
        obtain rfl : u8 = _ := by simpa [slGd] using q1
        refine wpOp_list (o := _) rfl rfl ?_
        go_wp2_with fail
        refine (CN.out _ 8 hW.src (by omega) (by omega)).mono ?_
        rintro e V9 ⟨r9, hr0, hr1, rfl, hS9, g9⟩
        obtain ⟨q, rfl⟩ : ∃ q : Nat, r9 = q := ⟨r9.toNat, by omega⟩
        go_wp2_with fail
        change (_ ∧ _ ∧ _)
        refine ⟨⟨⟨_, _, _, _, _, _, _, _, _, _, _, _, _, _, rfl⟩, hW.next hS9 g9⟩, ⟨_, rfl, q, rfl, by omega⟩, ?_⟩
        intro j hj hnd hF
        obtain ⟨v9, k1, k2⟩ := hF
        refine ⟨v9, ?_, GGd.keep (fun g t cs ht h => tab_src h hW.src ht g9) j k2⟩
        rcases j with _ | _ | _ | _ | _ | _ | _ | _ | _ | _ | _ | _ | _ | _ | _ | j
        all_goals first | exact k1 | exact absurd rfl hj | (exfalso; exact hnd _ rfl { on := 2, ground := .data } (by simp) rfl rfl)
      · -- 3
        simp at ho
        subst ho
        have d0 := hD { on := 0, ground := .data } (by simp) rfl
        obtain ⟨v0, q0, ⟨P, rfl, hP⟩⟩ := d0
        obtain rfl : u7 = _ := by simpa [slGd] using q0
        have d2 := hD { on := 2, ground := .data } (by simp) rfl
        obtain ⟨v2, q2, ⟨q, rfl, hq⟩⟩ := d2
        obtain rfl : u9 = _ := by simpa [slGd] using q2
        refine wpOp_list (o := _) rfl rfl ?_
        have e1 : (0 : Int) ≤ (q : Int) := by omega
        have e2 : (q : Int) < 8 := by omega
        go_wp2_with fail
        change (_ ∧ _ ∧ _)
        refine ⟨⟨⟨_, _, _, _, _, _, _, _, _, _, _, _, _, _, rfl⟩, hW⟩, ⟨_, rfl, P, q, by go_num, hq, hP⟩, ?_⟩
        intro j hj hnd hF
        obtain ⟨v9, k1, k2⟩ := hF
        refine ⟨v9, ?_, GGd.keep (fun _ _ _ _ h => h) j k2⟩
        rcases j with _ | _ | _ | _ | _ | _ | _ | _ | _ | _ | _ | _ | _ | _ | _ | j
        all_goals first | exact k1 | exact absurd rfl hj | (exfalso; exact hnd _ rfl { on := 3, ground := .data } (by simp) rfl rfl)
      · -- 4
        simp at ho
        subst ho
        have d3 := hD { on := 3, ground := .data } (by simp) rfl
        obtain ⟨v3, q3, ⟨P, q, rfl, hq, hP⟩⟩ := d3
        obtain rfl : u10 = _ := by simpa [slGd] using q3
        refine wpOp_list (o := _) rfl rfl ?_
        have kc : V.cell? ⟨P, q, none⟩ = some (.string (tab8G q)) := (hP.cell q).trans (row8G_at q hq)
        go_wp2_with fail
        change (_ ∧ _ ∧ _)
        refine ⟨⟨⟨_, _, _, _, _, _, _, _, _, _, _, _, _, _, rfl⟩, hW⟩, ⟨_, rfl, tab8G q, rfl, tab8G_size q hq⟩, ?_⟩
        intro j hj hnd hF
        obtain ⟨v9, k1, k2⟩ := hF
        refine ⟨v9, ?_, GGd.keep (fun _ _ _ _ h => h) j k2⟩
        rcases j with _ | _ | _ | _ | _ | _ | _ | _ | _ | _ | _ | _ | _ | _ | _ | j
        all_goals first | exact k1 | exact absurd rfl hj | (exfalso; exact hnd _ rfl { on := 4, ground := .data } (by simp) rfl rfl)
      · -- 5
        simp at ho
        subst ho
        refine wpOp_list (o := _) rfl rfl ?_
        go_wp2_with fail
        change (_ ∧ _ ∧ _)
        refine ⟨⟨⟨_, _, _, _, _, _, _, _, _, _, _, _, _, _, rfl⟩, hW⟩, ⟨_, rfl, rfl⟩, ?_⟩
        intro j hj hnd hF
        obtain ⟨v9, k1, k2⟩ := hF
        refine ⟨v9, ?_, GGd.keep (fun _ _ _ _ h => h) j k2⟩
        rcases j with _ | _ | _ | _ | _ | _ | _ | _ | _ | _ | _ | _ | _ | _ | _ | j
        all_goals first | exact k1 | exact absurd rfl hj | (exfalso; exact hnd _ rfl { on := 5, ground := .data } (by simp) rfl rfl)
      · -- 6
        simp at ho
        subst ho
        have d5 := hD { on := 5, ground := .data } (by simp) rfl
        obtain ⟨v5, q5, rfl⟩ := d5
        obtain rfl : u12 = _ := by simpa [slGd] using q5
        refine wpOp_list (o := _) rfl rfl ?_
        go_wp2_with fail
        refine (CN.out _ 6 hW.src (by omega) (by omega)).mono ?_
        rintro e V9 ⟨r9, hr0, hr1, rfl, hS9, g9⟩
        go_wp2_with fail
        change (_ ∧ _ ∧ _)
        refine ⟨⟨⟨_, _, _, _, _, _, _, _, _, _, _, _, _, _, rfl⟩, hW.next hS9 g9⟩, ⟨_, rfl, r9, rfl, hr0, by omega⟩, ?_⟩
        intro j hj hnd hF
        obtain ⟨v9, k1, k2⟩ := hF
        refine ⟨v9, ?_, GGd.keep (fun g t cs ht h => tab_src h hW.src ht g9) j k2⟩
        rcases j with _ | _ | _ | _ | _ | _ | _ | _ | _ | _ | _ | _ | _ | _ | _ | j
        all_goals first | exact k1 | exact absurd rfl hj | (exfalso; exact hnd _ rfl { on := 6, ground := .data } (by simp) rfl rfl)
      · -- 7
        simp at ho
        subst ho
        refine wpOp_list (o := _) rfl rfl ?_
        go_wp2_with fail
        change (_ ∧ _ ∧ _)
        refine ⟨⟨⟨_, _, _, _, _, _, _, _, _, _, _, _, _, _, rfl⟩, hW⟩, ⟨_, rfl, rfl⟩, ?_⟩
        intro j hj hnd hF
        obtain ⟨v9, k1, k2⟩ := hF
        refine ⟨v9, ?_, GGd.keep (fun _ _ _ _ h => h) j k2⟩
        rcases j with _ | _ | _ | _ | _ | _ | _ | _ | _ | _ | _ | _ | _ | _ | _ | j
        all_goals first | exact k1 | exact absurd rfl hj | (exfalso; exact hnd _ rfl { on := 7, ground := .data } (by simp) rfl rfl)
      · -- 8
        simp at ho
        subst ho
        have d7 := hD { on := 7, ground := .data } (by simp) rfl
        obtain ⟨v7, q7, rfl⟩ := d7
        obtain rfl : u14 = _ := by simpa [slGd] using q7
        refine wpOp_list (o := _) rfl rfl ?_
        go_wp2_with fail
        refine (CN.out _ 600 hW.src (by omega) (by omega)).mono ?_
        rintro e V9 ⟨r9, hr0, hr1, rfl, hS9, g9⟩
        go_wp2_with fail
        change (_ ∧ _ ∧ _)
        refine ⟨⟨⟨_, _, _, _, _, _, _, _, _, _, _, _, _, _, rfl⟩, hW.next hS9 g9⟩, ⟨_, rfl, r9, rfl, hr0, by omega⟩, ?_⟩
        intro j hj hnd hF
        obtain ⟨v9, k1, k2⟩ := hF
        refine ⟨v9, ?_, GGd.keep (fun g t cs ht h => tab_src h hW.src ht g9) j k2⟩
        rcases j with _ | _ | _ | _ | _ | _ | _ | _ | _ | _ | _ | _ | _ | _ | _ | j
        all_goals first | exact k1 | exact absurd rfl hj | (exfalso; exact hnd _ rfl { on := 8, ground := .data } (by simp) rfl rfl)
      · -- 9
        simp at ho
        subst ho
        have d8 := hD { on := 8, ground := .data } (by simp) rfl
        obtain ⟨v8, q8, ⟨r, rfl, hr0, hr1⟩⟩ := d8
        obtain rfl : u15 = _ := by simpa [slGd] using q8
        refine wpOp_list (o := _) rfl rfl ?_
        go_wp2_with fail
        change (_ ∧ _ ∧ _)
        refine ⟨⟨⟨_, _, _, _, _, _, _, _, _, _, _, _, _, _, rfl⟩, hW⟩, ⟨_, rfl, 1000 + r, rfl, by omega, by omega⟩, ?_⟩
        intro j hj hnd hF
        obtain ⟨v9, k1, k2⟩ := hF
        refine ⟨v9, ?_, GGd.keep (fun _ _ _ _ h => h) j k2⟩
        rcases j with _ | _ | _ | _ | _ | _ | _ | _ | _ | _ | _ | _ | _ | _ | _ | j
        all_goals first | exact k1 | exact absurd rfl hj | (exfalso; exact hnd _ rfl { on := 9, ground := .data } (by simp) rfl rfl)
      · -- 10
        simp at ho
        subst ho
        have d9 := hD { on := 9, ground := .data } (by simp) rfl
        obtain ⟨v9, q9, ⟨r, rfl, hr0, hr1⟩⟩ := d9
        obtain rfl : u16 = _ := by simpa [slGd] using q9
        refine wpOp_list (o := _) rfl rfl ?_
        go_wp2_with fail
        change (_ ∧ _ ∧ _)
        refine ⟨⟨⟨_, _, _, _, _, _, _, _, _, _, _, _, _, _, rfl⟩, hW⟩, ⟨_, rfl, r, rfl, hr0, hr1⟩, ?_⟩
        intro j hj hnd hF
        obtain ⟨v9, k1, k2⟩ := hF
        refine ⟨v9, ?_, GGd.keep (fun _ _ _ _ h => h) j k2⟩
        rcases j with _ | _ | _ | _ | _ | _ | _ | _ | _ | _ | _ | _ | _ | _ | _ | j
        all_goals first | exact k1 | exact absurd rfl hj | (exfalso; exact hnd _ rfl { on := 10, ground := .data } (by simp) rfl rfl)
      · -- 11
        simp at ho
        subst ho
        refine wpOp_list (o := _) rfl rfl ?_
        go_wp2_with fail
        change (_ ∧ _ ∧ _)
        refine ⟨⟨⟨_, _, _, _, _, _, _, _, _, _, _, _, _, _, rfl⟩, hW.alloc _⟩, ⟨_, rfl, V.heap.size, rfl, hW.grown.size, TabAt.new V _ _⟩, ?_⟩
        intro j hj hnd hF
        obtain ⟨v9, k1, k2⟩ := hF
        refine ⟨v9, ?_, GGd.keep (fun g t cs ht h => h.alloc _) j k2⟩
        rcases j with _ | _ | _ | _ | _ | _ | _ | _ | _ | _ | _ | _ | _ | _ | _ | j
        all_goals first | exact k1 | exact absurd rfl hj | (exfalso; exact hnd _ rfl { on := 11, ground := .data } (by simp) rfl rfl)
      · -- 12
        simp at ho
        subst ho
        have d4 := hD { on := 4, ground := .data } (by simp) rfl
        obtain ⟨v4, q4, ⟨t, rfl, ht⟩⟩ := d4
        obtain rfl : u11 = _ := by simpa [slGd] using q4
        have d6 := hD { on := 6, ground := .data } (by simp) rfl
        obtain ⟨v6, q6, ⟨k, rfl, hk0, hk1⟩⟩ := d6
        obtain rfl : u13 = _ := by simpa [slGd] using q6
        have d10 := hD { on := 10, ground := .data } (by simp) rfl
        obtain ⟨v10, q10, ⟨r, rfl, hr0, hr1⟩⟩ := d10
        obtain rfl : u17 = _ := by simpa [slGd] using q10
        have d11 := hD { on := 11, ground := .data } (by simp) rfl
        obtain ⟨v11, q11, ⟨g, rfl, hg, hP⟩⟩ := d11
        obtain rfl : u18 = _ := by simpa [slGd] using q11
        refine wpOp_list (o := _) rfl rfl ?_
        go_wp2_with fail
        change (_ ∧ _ ∧ _)
        refine ⟨⟨⟨_, _, _, _, _, _, _, _, _, _, _, _, _, _, rfl⟩, hW⟩, ⟨_, rfl, ⟨t, k, r, 0, []⟩, g, rfl, ⟨ht, ⟨hk0, by show k ≤ 19; omega⟩, (by show (1000 : Int) ≤ r ∧ r ≤ 1599; omega), (by show (-3500 : Int) ≤ 0 ∧ (0 : Int) ≤ 3500; omega)⟩, rfl, hg, hP⟩, ?_⟩
        intro j hj hnd hF
        obtain ⟨v9, k1, k2⟩ := hF
        refine ⟨v9, ?_, GGd.keep (fun _ _ _ _ h => h) j k2⟩
        rcases j with _ | _ | _ | _ | _ | _ | _ | _ | _ | _ | _ | _ | _ | _ | _ | j
        all_goals first | exact k1 | exact absurd rfl hj | (exfalso; exact hnd _ rfl { on := 12, ground := .data } (by simp) rfl rfl)
      · -- 13
        simp at ho
        subst ho
        refine wpOp_list (o := _) rfl rfl ?_
        go_wp2_with fail
        change (_ ∧ _ ∧ _)
        refine ⟨⟨⟨_, _, _, _, _, _, _, _, _, _, _, _, _, _, rfl⟩, hW.alloc _⟩, ⟨_, rfl, V.heap.size, _, rfl, hW.res.lt, rfl, TabAt.new V _ _⟩, ?_⟩
        intro j hj hnd hF
        obtain ⟨v9, k1, k2⟩ := hF
        refine ⟨v9, ?_, GGd.keep (fun g t cs ht h => h.alloc _) j k2⟩
        rcases j with _ | _ | _ | _ | _ | _ | _ | _ | _ | _ | _ | _ | _ | _ | _ | j
        all_goals first | exact k1 | exact absurd rfl hj | (exfalso; exact hnd _ rfl { on := 13, ground := .data } (by simp) rfl rfl)
      · -- 14
        simp at ho
        subst ho
        have d13 := hD { on := 13, ground := .data } (by simp) rfl
        obtain ⟨v13, q13, ⟨b, cs, rfl, hb, hz, hP⟩⟩ := d13
        obtain rfl : u3 = _ := by simpa [slGd] using q13
        have d12 := hD { on := 12, ground := .data } (by simp) rfl
        obtain ⟨v12, q12, ⟨p, g, rfl, hp, hn, hg, hG⟩⟩ := d12
        obtain rfl : u19 = _ := by simpa [slGd] using q12
        refine wpOp_list (o := _) rfl rfl ?_
        have HNN := Lib.hid hn
        clear hn
        obtain ⟨v0, v1, v2, v3, v4, rfl, c0, c1, c2, c3, c4⟩ := tab5 hP hz
        have f0 := hP.frozen 0
        have f1 := hP.frozen 1
        have f2 := hP.frozen 2
        have f3 := hP.frozen 3
        have f4 := hP.frozen 4
        have hne : g ≠ b := tab_ne hG hP (by decide)
        unfold plv11
        go_wp2_with fail
        change (_ ∧ _ ∧ _)
        refine ⟨⟨⟨_, _, _, _, _, _, _, _, _, _, _, _, _, _, rfl⟩, hW.put (p := p) (A := some ⟨g, 0, none⟩) (c := 0) hb⟩, ⟨_, rfl, b, p, g, rfl, hb, hp, HNN.out, hg, putP_other hG hne, putP_same hP rfl⟩, ?_⟩
        intro j hj hnd hF
        obtain ⟨v9, k1, k2⟩ := hF
        refine ⟨v9, ?_, GGd.put hb hP rfl j (fun e => hj e) (fun e => by subst e; exact (Option.some.inj k1).symm) k2⟩
        rcases j with _ | _ | _ | _ | _ | _ | _ | _ | _ | _ | _ | _ | _ | _ | _ | j
        all_goals first | exact k1 | exact absurd rfl hj | (exfalso; exact hnd _ rfl { on := 14, ground := .data } (by simp) rfl rfl)
      · exfalso
        simp at ho
    · intro a V hB hF
      obtain ⟨⟨u3, u7, u8, u9, u10, u11, u12, u13, u14, u15, u16, u17, u18, u19, rfl⟩, hW⟩ := hB
      obtain ⟨v9, k1, b, p, g, rfl, hb, hp, hn, hg, hG, hP⟩ := hF 14 (by decide)
      obtain rfl : u3 = _ := by simpa [slGd] using k1
      obtain ⟨pc, pk, pf, pu, pn⟩ := p
      obtain rfl : pn = [] := hn
      go_wp2_with fail
      go_meet
      exact ⟨b, rfl, Lib.hid ⟨⟨pc, pk, pf, pu, []⟩, some ⟨g, 0, none⟩, 0, ⟨LN.litG hG hg hW.src hW.grown hW.lt, hP, hb, hW.res, hp⟩, Nat.le_refl _⟩⟩
  case rest =>
    obtain ⟨bp, rfl, HG1⟩ := hcut
    clear HW0
    have HW0 := HG1
    go_wp2_with fail
    go_cut [3] from 20 to 28 (fun t wx => t = .pointer (some ⟨bp, 0, none⟩) ∧ Hid (GE w B len bp 0 wx))
    case first =>
      refine wp_region_facts (by kernel_rfl) ?_ (fun a V => (∃ u20 u21 u22 u23 u24 u25 u26 u27 u28 : Value, a = { tmps := List.toArray (.pointer (some ⟨B, 0, none⟩) :: undef :: .pointer (some ⟨w.heap.size, 0, none⟩) :: .pointer (some ⟨bp, 0, none⟩) :: u4 :: u5 :: u6 :: u7 :: u8 :: u9 :: u10 :: u11 :: u12 :: u13 :: u14 :: u15 :: u16 :: u17 :: u18 :: u19 :: u20 :: u21 :: u22 :: u23 :: u24 :: u25 :: u26 :: u27 :: u28 :: undef :: undef :: undef :: undef :: undef :: undef :: undef :: undef :: undef :: undef :: undef :: undef :: undef :: undef :: undef :: undef :: undef :: undef :: undef :: undef :: undef :: undef :: undef :: undef :: undef :: undef :: undef :: undef :: undef :: undef :: undef :: undef :: undef :: undef :: undef :: undef :: undef :: undef :: undef :: undef :: undef :: undef :: undef :: undef :: undef :: undef :: undef :: undef :: undef :: undef :: undef :: undef :: undef :: undef :: undef :: []), defers := [] }) ∧ GE w B len bp 0 V) (FGe B bp) ?_ ?_ ?_
      · decide +kernel
      · exact ⟨⟨_, _, _, _, _, _, _, _, _, rfl⟩, HW0.out.drew⟩
      · intro i o ho a V hB hD
        obtain ⟨⟨u20, u21, u22, u23, u24, u25, u26, u27, u28, rfl⟩, hW⟩ := hB
        rcases i with _ | _ | _ | _ | _ | _ | _ | _ | _ | _ | i
        · -- 0
          simp at ho
          subst ho
          refine wpOp_list (o := _) rfl rfl ?_
          go_wp2_with fail
          change (_ ∧ _ ∧ _)
          refine ⟨⟨⟨_, _, _, _, _, _, _, _, _, rfl⟩, hW⟩, ⟨_, rfl, rfl⟩, ?_⟩
          intro j hj hnd hF
          obtain ⟨v9, k1, k2⟩ := hF
          refine ⟨v9, ?_, GGe.keep (fun _ _ _ _ h => h) j k2⟩
          rcases j with _ | _ | _ | _ | _ | _ | _ | _ | _ | _ | j
          all_goals first | exact k1 | exact absurd rfl hj | (exfalso; exact hnd _ rfl { on := 0, ground := .data } (by simp) rfl rfl)
        · -- 1
          simp at ho
          subst ho
          have d0 := hD { on := 0, ground := .data } (by simp) rfl
          obtain ⟨v0, q0, rfl⟩ := d0
          obtain rfl : u20 = _ := by simpa [slGe] using q0
          refine wpOp_list (o := _) rfl rfl ?_
          go_wp2_with fail
          change (_ ∧ _ ∧ _)
          refine ⟨⟨⟨_, _, _, _, _, _, _, _, _, rfl⟩, hW⟩, ⟨_, rfl, rfl⟩, ?_⟩
          intro j hj hnd hF
          obtain ⟨v9, k1, k2⟩ := hF
          refine ⟨v9, ?_, GGe.keep (fun _ _ _ _ h => h) j k2⟩
          rcases j with _ | _ | _ | _ | _ | _ | _ | _ | _ | _ | j
          all_goals first | exact k1 | exact absurd rfl hj | (exfalso; exact hnd _ rfl { on := 1, ground := .data } (by simp) rfl rfl)
        · -- 2
          simp at ho
          subst ho
          have d1 := hD { on := 1, ground := .data } (by simp) rfl
          obtain ⟨v1, q1, rfl⟩ := d1
          obtain rfl : u21 = _ := by simpa [slGe] using q1
          refine wpOp_list (o := _) rfl rfl ?_
          obtain ⟨f, hf0, hf1, kc⟩ := hW.cell2
          go_wp2_with fail
          change (_ ∧ _ ∧ _)
          refine ⟨⟨⟨_, _, _, _, _, _, _, _, _, rfl⟩, hW⟩, ⟨_, rfl, f, rfl, hf0, hf1⟩, ?_⟩
          intro j hj hnd hF
          obtain ⟨v9, k1, k2⟩ := hF
          refine ⟨v9, ?_, GGe.keep (fun _ _ _ _ h => h) j k2⟩
          rcases j with _ | _ | _ | _ | _ | _ | _ | _ | _ | _ | j
          all_goals first | exact k1 | exact absurd rfl hj | (exfalso; exact hnd _ rfl { on := 2, ground := .data } (by simp) rfl rfl)
        · -- 3
          simp at ho
          subst ho
          have d2 := hD { on := 2, ground := .data } (by simp) rfl
          obtain ⟨v2, q2, ⟨r, rfl, hr0, hr1⟩⟩ := d2
          obtain rfl : u22 = _ := by simpa [slGe] using q2
          refine wpOp_list (o := _) rfl rfl ?_
          go_wp2_with fail
          change (_ ∧ _ ∧ _)
          refine ⟨⟨⟨_, _, _, _, _, _, _, _, _, rfl⟩, hW⟩, ⟨_, rfl, r + 100, rfl, by omega, by omega⟩, ?_⟩
          intro j hj hnd hF
          obtain ⟨v9, k1, k2⟩ := hF
          refine ⟨v9, ?_, GGe.keep (fun _ _ _ _ h => h) j k2⟩
          rcases j with _ | _ | _ | _ | _ | _ | _ | _ | _ | _ | j
          all_goals first | exact k1 | exact absurd rfl hj | (exfalso; exact hnd _ rfl { on := 3, ground := .data } (by simp) rfl rfl)
        · -- 4
          simp at ho
          subst ho
          refine wpOp_list (o := _) rfl rfl ?_
          go_wp2_with fail
          change (_ ∧ _ ∧ _)
          refine ⟨⟨⟨_, _, _, _, _, _, _, _, _, rfl⟩, hW⟩, ⟨_, rfl, rfl⟩, ?_⟩
          intro j hj hnd hF
          obtain ⟨v9, k1, k2⟩ := hF
          refine ⟨v9, ?_, GGe.keep (fun _ _ _ _ h => h) j k2⟩
          rcases j with _ | _ | _ | _ | _ | _ | _ | _ | _ | _ | j
          all_goals first | exact k1 | exact absurd rfl hj | (exfalso; exact hnd _ rfl { on := 4, ground := .data } (by simp) rfl rfl)
        · -- 5
          simp at ho
          subst ho
          have d4 := hD { on := 4, ground := .data } (by simp) rfl
          obtain ⟨v4, q4, rfl⟩ := d4
          obtain rfl : u24 = _ := by simpa [slGe] using q4
          refine wpOp_list (o := _) rfl rfl ?_
          go_wp2_with fail
          refine (CN.out _ 1000 hW.src (by omega) (by omega)).mono ?_
          rintro e V9 ⟨r9, hr0, hr1, rfl, hS9, g9⟩
          go_wp2_with fail
          change (_ ∧ _ ∧ _)
          refine ⟨⟨⟨_, _, _, _, _, _, _, _, _, rfl⟩, hW.next hS9 g9⟩, ⟨_, rfl, r9, rfl, hr0, by omega⟩, ?_⟩
          intro j hj hnd hF
          obtain ⟨v9, k1, k2⟩ := hF
          refine ⟨v9, ?_, GGe.keep (fun g t cs ht h => tab_src h hW.src ht g9) j k2⟩
          rcases j with _ | _ | _ | _ | _ | _ | _ | _ | _ | _ | j
          all_goals first | exact k1 | exact absurd rfl hj | (exfalso; exact hnd _ rfl { on := 5, ground := .data } (by simp) rfl rfl)
        · -- 6
          simp at ho
          subst ho
          have d3 := hD { on := 3, ground := .data } (by simp) rfl
          obtain ⟨v3, q3, ⟨r, rfl, hr0, hr1⟩⟩ := d3
          obtain rfl : u23 = _ := by simpa [slGe] using q3
          have d5 := hD { on := 5, ground := .data } (by simp) rfl
          obtain ⟨v5, q5, ⟨s, rfl, hs0, hs1⟩⟩ := d5
          obtain rfl : u25 = _ := by simpa [slGe] using q5
          refine wpOp_list (o := _) rfl rfl ?_
          go_wp2_with fail
          change (_ ∧ _ ∧ _)
          refine ⟨⟨⟨_, _, _, _, _, _, _, _, _, rfl⟩, hW⟩, ⟨_, rfl, r + s, rfl, by omega, by omega⟩, ?_⟩
          intro j hj hnd hF
          obtain ⟨v9, k1, k2⟩ := hF
          refine ⟨v9, ?_, GGe.keep (fun _ _ _ _ h => h) j k2⟩
          rcases j with _ | _ | _ | _ | _ | _ | _ | _ | _ | _ | j
          all_goals first | exact k1 | exact absurd rfl hj | (exfalso; exact hnd _ rfl { on := 6, ground := .data } (by simp) rfl rfl)
        · -- 7
          simp at ho
          subst ho
          refine wpOp_list (o := _) rfl rfl ?_
          go_wp2_with fail
          change (_ ∧ _ ∧ _)
          refine ⟨⟨⟨_, _, _, _, _, _, _, _, _, rfl⟩, hW⟩, ⟨_, rfl, rfl⟩, ?_⟩
          intro j hj hnd hF
          obtain ⟨v9, k1, k2⟩ := hF
          refine ⟨v9, ?_, GGe.keep (fun _ _ _ _ h => h) j k2⟩
          rcases j with _ | _ | _ | _ | _ | _ | _ | _ | _ | _ | j
          all_goals first | exact k1 | exact absurd rfl hj | (exfalso; exact hnd _ rfl { on := 7, ground := .data } (by simp) rfl rfl)
        · -- 8
          simp at ho
          subst ho
          have d7 := hD { on := 7, ground := .data } (by simp) rfl
          obtain ⟨v7, q7, rfl⟩ := d7
          obtain rfl : u27 = _ := by simpa [slGe] using q7
          refine wpOp_list (o := _) rfl rfl ?_
          go_wp2_with fail
          change (_ ∧ _ ∧ _)
          refine ⟨⟨⟨_, _, _, _, _, _, _, _, _, rfl⟩, hW⟩, ⟨_, rfl, rfl⟩, ?_⟩
          intro j hj hnd hF
          obtain ⟨v9, k1, k2⟩ := hF
          refine ⟨v9, ?_, GGe.keep (fun _ _ _ _ h => h) j k2⟩
          rcases j with _ | _ | _ | _ | _ | _ | _ | _ | _ | _ | j
          all_goals first | exact k1 | exact absurd rfl hj | (exfalso; exact hnd _ rfl { on := 8, ground := .data } (by simp) rfl rfl)
        · -- 9
          simp at ho
          subst ho
          have d8 := hD { on := 8, ground := .data } (by simp) rfl
          obtain ⟨v8, q8, rfl⟩ := d8
          obtain rfl : u28 = _ := by simpa [slGe] using q8
          have d6 := hD { on := 6, ground := .data } (by simp) rfl
          obtain ⟨v6, q6, ⟨r, rfl, hr0, hr1⟩⟩ := d6
          obtain rfl : u26 = _ := by simpa [slGe] using q6
          refine wpOp_list (o := _) rfl rfl ?_
          obtain ⟨k3, c3, f3⟩ := hW.at3
          go_wp2_with fail
          change (_ ∧ _ ∧ _)
          refine ⟨⟨⟨_, _, _, _, _, _, _, _, _, rfl⟩, hW.set3 r (by omega) (by omega)⟩, ⟨_, rfl, trivial⟩, ?_⟩
          intro j hj hnd hF
          obtain ⟨v9, k1, k2⟩ := hF
          refine ⟨v9, ?_, GGe.any j k2⟩
          rcases j with _ | _ | _ | _ | _ | _ | _ | _ | _ | _ | j
          all_goals first | exact k1 | exact absurd rfl hj | (exfalso; exact hnd _ rfl { on := 9, ground := .data } (by simp) rfl rfl)
        · exfalso
          simp at ho
      · intro a V hB hF
        obtain ⟨⟨u20, u21, u22, u23, u24, u25, u26, u27, u28, rfl⟩, hW⟩ := hB
        go_wp2_with fail
        go_meet
        exact ⟨rfl, Lib.hid hW⟩
    case rest =>
      obtain ⟨rfl, HG2⟩ := hcut
      clear HW0 HG1
      go_wp2_with fail
      refine (CN.out _ 4 HG2.out.src (by omega) (by omega)).mono ?_
      rintro e w3 ⟨r, hr0, hr1, rfl, hS3, g3⟩
      have HG3 := Lib.hid (HG2.out.next hS3 g3)
      obtain ⟨j, rfl⟩ : ∃ j : Nat, r = j := ⟨r.toNat, by omega⟩
      have hj3 : j ≤ 3 := by omega
      have HG3' : Hid (GE w B len bp (3 - j) w3) := Lib.hid (HG3.out.more (Nat.zero_le _))
      clear hS3 g3 HG2 hr0 hr1 HG3
      go_wp2_with fail
      go_loopw [4] (fun i wr => ∃ k : Nat, k ≤ 3 ∧ i = .int .i64 k ∧ Hid (GE w B len bp (3 - k) wr)) (fun i _ => (intOf i).toNat)
      case atStart => exact ⟨j, hj3, rfl, HG3'⟩
      case round =>
        clear HG3' hj3
        obtain ⟨k, hk3, rfl, HG⟩ := hrel
        by_cases hk : 0 < k
        · obtain ⟨q, rfl⟩ : ∃ q, k = q + 1 := ⟨k - 1, by omega⟩
          have hk2 : decide ((0 : Int) < ((q + 1 : Nat) : Int)) = true := decide_eq_true (by omega)
          have hk2' : (0 : Int) < ((q + 1 : Nat) : Int) := by omega
          go_wp2_with fail
          refine (CD.out _ HG.out.src).mono ?_
          rintro e w4 ⟨x, rfl, hx, hS4, g4⟩
          obtain ⟨M, hM⟩ : ∃ M, M = 3 - (q + 1) := ⟨_, rfl⟩
          rw [← hM] at HG
          have HM := Lib.hid hM
          clear hM
          have HW0 : Hid (GX w B len bp w4.heap.size M (w4.alloc (.cells #[.string x.t, .string x.l, .int .i64 x.s, .int .i64 x.f, .int .i64 x.u] 100))) := Lib.hid (by
            obtain ⟨p, A, c, hg, hl⟩ := HG.out.next hS4 g4
            refine ⟨p, A, c, x, ⟨hg.next (hg.ln.src.alloc _) (World.grownBy_alloc _ _ _), ?_, ?_, hx, TabAt.new w4 _ _⟩, hl⟩
            · exact hg.res.lt
            · intro k hk e
              have := (hg.ln.own.lt k hk).2
              omega)
          clear hS4 g4 HG
          go_wp2_with fail
          go_cut [5] from 31 to 82 (fun t wx => t = .pointer (some ⟨w4.heap.size, 0, none⟩) ∧ Hid (GX w B len bp w4.heap.size M wx))
          case first =>
            refine wp_region_facts (by kernel_rfl) ?_ (fun a V => (∃ u37 u38 u39 u40 u41 u42 u43 u44 u45 u46 u47 u48 u49 u50 u51 u52 u53 : Value, a = { tmps := List.toArray (.pointer (some ⟨B, 0, none⟩) :: undef :: .pointer (some ⟨w.heap.size, 0, none⟩) :: .pointer (some ⟨bp, 0, none⟩) :: .int .i64 ((q : Int) + 1) :: .pointer (some ⟨w4.heap.size, 0, none⟩) :: u6 :: u7 :: u8 :: u9 :: u10 :: u11 :: u12 :: u13 :: u14 :: u15 :: u16 :: u17 :: u18 :: u19 :: u20 :: u21 :: u22 :: u23 :: u24 :: u25 :: u26 :: u27 :: u28 :: .pointer (some ⟨B, 0, none⟩) :: .int .i64 (j : Int) :: .int .i64 ((q : Int) + 1) :: .bool true :: u33 :: u34 :: .pointer (some ⟨B, 0, none⟩) :: nmA x :: u37 :: u38 :: u39 :: u40 :: u41 :: u42 :: u43 :: u44 :: u45 :: u46 :: u47 :: u48 :: u49 :: u50 :: u51 :: u52 :: u53 :: u54 :: u55 :: u56 :: u57 :: u58 :: u59 :: u60 :: u61 :: u62 :: u63 :: u64 :: u65 :: u66 :: u67 :: u68 :: u69 :: u70 :: u71 :: u72 :: u73 :: u74 :: u75 :: u76 :: u77 :: u78 :: u79 :: u80 :: u81 :: u82 :: undef :: []), defers := [] }) ∧ GX w B len bp w4.heap.size M V) (FGs B bp w4.heap.size) ?_ ?_ ?_
            · decide +kernel
            · exact ⟨⟨_, _, _, _, _, _, _, _, _, _, _, _, _, _, _, _, _, rfl⟩, HW0.out.drew⟩
            · intro i o ho a V hB hD
              obtain ⟨⟨u37, u38, u39, u40, u41, u42, u43, u44, u45, u46, u47, u48, u49, u50, u51, u52, u53, rfl⟩, hW⟩ := hB
              rcases i with _ | _ | _ | _ | _ | _ | _ | _ | _ | _ | _ | _ | _ | _ | _ | _ | _ | _ | i
              · -- 0
                simp at ho
                subst ho
                refine wpOp_list (o := _) rfl rfl ?_
                go_wp2_with fail
                change (_ ∧ _ ∧ _)
                refine ⟨⟨⟨_, _, _, _, _, _, _, _, _, _, _, _, _, _, _, _, _, rfl⟩, hW⟩, ⟨_, rfl, rfl⟩, ?_⟩
                intro j hj hnd hF
                obtain ⟨v9, k1, k2⟩ := hF
                refine ⟨v9, ?_, GGs.keep (fun _ _ _ _ h => h) j k2⟩
                rcases j with _ | _ | _ | _ | _ | _ | _ | _ | _ | _ | _ | _ | _ | _ | _ | _ | _ | _ | j
                all_goals first | exact k1 | exact absurd rfl hj | (exfalso; exact hnd _ rfl { on := 0, ground := .data } (by simp) rfl rfl)
              · -- 1
                simp at ho
                subst ho
                have d0 := hD { on := 0, ground := .data } (by simp) rfl
                obtain ⟨v0, q0, rfl⟩ := d0
                obtain rfl : u37 = _ := by simpa [slGs] using q0
                refine wpOp_list (o := _) rfl rfl ?_
                go_wp2_with fail
                change (_ ∧ _ ∧ _)
                refine ⟨⟨⟨_, _, _, _, _, _, _, _, _, _, _, _, _, _, _, _, _, rfl⟩, hW⟩, ⟨_, rfl, rfl⟩, ?_⟩
                intro j hj hnd hF
                obtain ⟨v9, k1, k2⟩ := hF
                refine ⟨v9, ?_, GGs.keep (fun _ _ _ _ h => h) j k2⟩
                rcases j with _ | _ | _ | _ | _ | _ | _ | _ | _ | _ | _ | _ | _ | _ | _ | _ | _ | _ | j
                all_goals first | exact k1 | exact absurd rfl hj | (exfalso; exact hnd _ rfl { on := 1, ground := .data } (by simp) rfl rfl)
              · -- 2
                simp at ho
                subst ho
                have d1 := hD { on := 1, ground := .data } (by simp) rfl
                obtain ⟨v1, q1, rfl⟩ := d1
                obtain rfl : u38 = _ := by simpa [slGs] using q1
                refine wpOp_list (o := _) rfl rfl ?_
                obtain ⟨f, hf0, hf1, kc⟩ := hW.cell2
                go_wp2_with fail
                change (_ ∧ _ ∧ _)
                refine ⟨⟨⟨_, _, _, _, _, _, _, _, _, _, _, _, _, _, _, _, _, rfl⟩, hW⟩, ⟨_, rfl, f, rfl, hf0, hf1⟩, ?_⟩
                intro j hj hnd hF
                obtain ⟨v9, k1, k2⟩ := hF
                refine ⟨v9, ?_, GGs.keep (fun _ _ _ _ h => h) j k2⟩
                rcases j with _ | _ | _ | _ | _ | _ | _ | _ | _ | _ | _ | _ | _ | _ | _ | _ | _ | _ | j
                all_goals first | exact k1 | exact absurd rfl hj | (exfalso; exact hnd _ rfl { on := 2, ground := .data } (by simp) rfl rfl)
              · -- 3
                simp at ho
                subst ho
                refine wpOp_list (o := _) rfl rfl ?_
                go_wp2_with fail
                change (_ ∧ _ ∧ _)
                refine ⟨⟨⟨_, _, _, _, _, _, _, _, _, _, _, _, _, _, _, _, _, rfl⟩, hW⟩, ⟨_, rfl, rfl⟩, ?_⟩
                intro j hj hnd hF
                obtain ⟨v9, k1, k2⟩ := hF
                refine ⟨v9, ?_, GGs.keep (fun _ _ _ _ h => h) j k2⟩
                rcases j with _ | _ | _ | _ | _ | _ | _ | _ | _ | _ | _ | _ | _ | _ | _ | _ | _ | _ | j
                all_goals first | exact k1 | exact absurd rfl hj | (exfalso; exact hnd _ rfl { on := 3, ground := .data } (by simp) rfl rfl)
              · -- 4
                simp at ho
                subst ho
                have d3 := hD { on := 3, ground := .data } (by simp) rfl
                obtain ⟨v3, q3, rfl⟩ := d3
                obtain rfl : u40 = _ := by simpa [slGs] using q3
                refine wpOp_list (o := _) rfl rfl ?_
                go_wp2_with fail
                refine (CN.out _ 60 hW.src (by omega) (by omega)).mono ?_
                rintro e V9 ⟨r9, hr0, hr1, rfl, hS9, g9⟩
                go_wp2_with fail
                change (_ ∧ _ ∧ _)
                refine ⟨⟨⟨_, _, _, _, _, _, _, _, _, _, _, _, _, _, _, _, _, rfl⟩, hW.next hS9 g9⟩, ⟨_, rfl, r9, rfl, hr0, by omega⟩, ?_⟩
                intro j hj hnd hF
                obtain ⟨v9, k1, k2⟩ := hF
                refine ⟨v9, ?_, GGs.keep (fun g t cs ht h => tab_src h hW.src ht g9) j k2⟩
                rcases j with _ | _ | _ | _ | _ | _ | _ | _ | _ | _ | _ | _ | _ | _ | _ | _ | _ | _ | j
                all_goals first | exact k1 | exact absurd rfl hj | (exfalso; exact hnd _ rfl { on := 4, ground := .data } (by simp) rfl rfl)
              · -- 5
                simp at ho
                subst ho
                have d2 := hD { on := 2, ground := .data } (by simp) rfl
                obtain ⟨v2, q2, ⟨r, rfl, hr0, hr1⟩⟩ := d2
                obtain rfl : u39 = _ := by simpa [slGs] using q2
                have d4 := hD { on := 4, ground := .data } (by simp) rfl
                obtain ⟨v4, q4, ⟨s, rfl, hs0, hs1⟩⟩ := d4
                obtain rfl : u41 = _ := by simpa [slGs] using q4
                refine wpOp_list (o := _) rfl rfl ?_
                go_wp2_with fail
                change (_ ∧ _ ∧ _)
                refine ⟨⟨⟨_, _, _, _, _, _, _, _, _, _, _, _, _, _, _, _, _, rfl⟩, hW⟩, ⟨_, rfl, r + s, rfl, by omega, by omega⟩, ?_⟩
                intro j hj hnd hF
                obtain ⟨v9, k1, k2⟩ := hF
                refine ⟨v9, ?_, GGs.keep (fun _ _ _ _ h => h) j k2⟩
                rcases j with _ | _ | _ | _ | _ | _ | _ | _ | _ | _ | _ | _ | _ | _ | _ | _ | _ | _ | j
                all_goals first | exact k1 | exact absurd rfl hj | (exfalso; exact hnd _ rfl { on := 5, ground := .data } (by simp) rfl rfl)
              · -- 6
                simp at ho
                subst ho
                refine wpOp_list (o := _) rfl rfl ?_
                go_wp2_with fail
                change (_ ∧ _ ∧ _)
                refine ⟨⟨⟨_, _, _, _, _, _, _, _, _, _, _, _, _, _, _, _, _, rfl⟩, hW⟩, ⟨_, rfl, rfl⟩, ?_⟩
                intro j hj hnd hF
                obtain ⟨v9, k1, k2⟩ := hF
                refine ⟨v9, ?_, GGs.keep (fun _ _ _ _ h => h) j k2⟩
                rcases j with _ | _ | _ | _ | _ | _ | _ | _ | _ | _ | _ | _ | _ | _ | _ | _ | _ | _ | j
                all_goals first | exact k1 | exact absurd rfl hj | (exfalso; exact hnd _ rfl { on := 6, ground := .data } (by simp) rfl rfl)
              · -- 7
                simp at ho
                subst ho
                have d6 := hD { on := 6, ground := .data } (by simp) rfl
                obtain ⟨v6, q6, rfl⟩ := d6
                obtain rfl : u43 = _ := by simpa [slGs] using q6
                refine wpOp_list (o := _) rfl rfl ?_
                go_wp2_with fail
                change (_ ∧ _ ∧ _)
                refine ⟨⟨⟨_, _, _, _, _, _, _, _, _, _, _, _, _, _, _, _, _, rfl⟩, hW⟩, ⟨_, rfl, rfl⟩, ?_⟩
                intro j hj hnd hF
                obtain ⟨v9, k1, k2⟩ := hF
                refine ⟨v9, ?_, GGs.keep (fun _ _ _ _ h => h) j k2⟩
                rcases j with _ | _ | _ | _ | _ | _ | _ | _ | _ | _ | _ | _ | _ | _ | _ | _ | _ | _ | j
                all_goals first | exact k1 | exact absurd rfl hj | (exfalso; exact hnd _ rfl { on := 7, ground := .data } (by simp) rfl rfl)
              · -- 8
                simp at ho
                subst ho
                have d7 := hD { on := 7, ground := .data } (by simp) rfl
                obtain ⟨v7, q7, rfl⟩ := d7
                obtain rfl : u44 = _ := by simpa [slGs] using q7
                refine wpOp_list (o := _) rfl rfl ?_
                obtain ⟨f, hf0, hf1, kc⟩ := hW.cell3
                go_wp2_with fail
                change (_ ∧ _ ∧ _)
                refine ⟨⟨⟨_, _, _, _, _, _, _, _, _, _, _, _, _, _, _, _, _, rfl⟩, hW⟩, ⟨_, rfl, f, rfl, hf0, hf1⟩, ?_⟩
                intro j hj hnd hF
                obtain ⟨v9, k1, k2⟩ := hF
                refine ⟨v9, ?_, GGs.keep (fun _ _ _ _ h => h) j k2⟩
                rcases j with _ | _ | _ | _ | _ | _ | _ | _ | _ | _ | _ | _ | _ | _ | _ | _ | _ | _ | j
                all_goals first | exact k1 | exact absurd rfl hj | (exfalso; exact hnd _ rfl { on := 8, ground := .data } (by simp) rfl rfl)
              · -- 9
                simp at ho
                subst ho
                refine wpOp_list (o := _) rfl rfl ?_
                go_wp2_with fail
                change (_ ∧ _ ∧ _)
                refine ⟨⟨⟨_, _, _, _, _, _, _, _, _, _, _, _, _, _, _, _, _, rfl⟩, hW⟩, ⟨_, rfl, rfl⟩, ?_⟩
                intro j hj hnd hF
                obtain ⟨v9, k1, k2⟩ := hF
                refine ⟨v9, ?_, GGs.keep (fun _ _ _ _ h => h) j k2⟩
                rcases j with _ | _ | _ | _ | _ | _ | _ | _ | _ | _ | _ | _ | _ | _ | _ | _ | _ | _ | j
                all_goals first | exact k1 | exact absurd rfl hj | (exfalso; exact hnd _ rfl { on := 9, ground := .data } (by simp) rfl rfl)
              · -- 10
                simp at ho
                subst ho
                refine wpOp_list (o := _) rfl rfl ?_
                go_wp2_with fail
                change (_ ∧ _ ∧ _)
                refine ⟨⟨⟨_, _, _, _, _, _, _, _, _, _, _, _, _, _, _, _, _, rfl⟩, hW⟩, ⟨_, rfl, rfl⟩, ?_⟩
                intro j hj hnd hF
                obtain ⟨v9, k1, k2⟩ := hF
                refine ⟨v9, ?_, GGs.keep (fun _ _ _ _ h => h) j k2⟩
                rcases j with _ | _ | _ | _ | _ | _ | _ | _ | _ | _ | _ | _ | _ | _ | _ | _ | _ | _ | j
                all_goals first | exact k1 | exact absurd rfl hj | (exfalso; exact hnd _ rfl { on := 10, ground := .data } (by simp) rfl rfl)
              · -- 11
                simp at ho
                subst ho
                have d10 := hD { on := 10, ground := .data } (by simp) rfl
                obtain ⟨v10, q10, rfl⟩ := d10
                obtain rfl : u47 = _ := by simpa [slGs] using q10
                refine wpOp_list (o := _) rfl rfl ?_
                go_wp2_with fail
                refine (CN.out _ 30 hW.src (by omega) (by omega)).mono ?_
                rintro e V9 ⟨r9, hr0, hr1, rfl, hS9, g9⟩
                go_wp2_with fail
                change (_ ∧ _ ∧ _)
                refine ⟨⟨⟨_, _, _, _, _, _, _, _, _, _, _, _, _, _, _, _, _, rfl⟩, hW.next hS9 g9⟩, ⟨_, rfl, r9, rfl, hr0, by omega⟩, ?_⟩
                intro j hj hnd hF
                obtain ⟨v9, k1, k2⟩ := hF
                refine ⟨v9, ?_, GGs.keep (fun g t cs ht h => tab_src h hW.src ht g9) j k2⟩
                rcases j with _ | _ | _ | _ | _ | _ | _ | _ | _ | _ | _ | _ | _ | _ | _ | _ | _ | _ | j
                all_goals first | exact k1 | exact absurd rfl hj | (exfalso; exact hnd _ rfl { on := 11, ground := .data } (by simp) rfl rfl)
              · -- 12
                simp at ho
                subst ho
                have d11 := hD { on := 11, ground := .data } (by simp) rfl
                obtain ⟨v11, q11, ⟨r, rfl, hr0, hr1⟩⟩ := d11
                obtain rfl : u48 = _ := by simpa [slGs] using q11
                refine wpOp_list (o := _) rfl rfl ?_
                go_wp2_with fail
                change (_ ∧ _ ∧ _)
                refine ⟨⟨⟨_, _, _, _, _, _, _, _, _, _, _, _, _, _, _, _, _, rfl⟩, hW.alloc _⟩, ⟨_, rfl, V.heap.size, r, rfl, ⟨hr0, hr1⟩, TabAt.new V _ _⟩, ?_⟩
                intro j hj hnd hF
                obtain ⟨v9, k1, k2⟩ := hF
                refine ⟨v9, ?_, GGs.keep (fun g t cs ht h => h.alloc _) j k2⟩
                rcases j with _ | _ | _ | _ | _ | _ | _ | _ | _ | _ | _ | _ | _ | _ | _ | _ | _ | _ | j
                all_goals first | exact k1 | exact absurd rfl hj | (exfalso; exact hnd _ rfl { on := 12, ground := .data } (by simp) rfl rfl)
              · -- 13
                simp at ho
                subst ho
                have d9 := hD { on := 9, ground := .data } (by simp) rfl
                obtain ⟨v9, q9, rfl⟩ := d9
                obtain rfl : u46 = _ := by simpa [slGs] using q9
                have d12 := hD { on := 12, ground := .data } (by simp) rfl
                obtain ⟨v12, q12, ⟨P, r, rfl, hr, hP⟩⟩ := d12
                obtain rfl : u49 = _ := by simpa [slGs] using q12
                refine wpOp_list (o := _) rfl rfl ?_
                have hne : P ≠ B := by obtain ⟨ds, hd⟩ := hW.src.tab; exact tab_ne hP hd (by decide)
                go_wp2_with fail
                refine (cPick B len P 2 2 0 29 V hlen (by omega) (by omega) hne (row2G hP hr) hW.src).mono ?_
                rintro e V9 ⟨r9, hr0, hr1, rfl, hS9, g9⟩
                go_wp2_with fail
                change (_ ∧ _ ∧ _)
                refine ⟨⟨⟨_, _, _, _, _, _, _, _, _, _, _, _, _, _, _, _, _, rfl⟩, hW.next hS9 g9⟩, ⟨_, rfl, r9, rfl, hr0, hr1⟩, ?_⟩
                intro j hj hnd hF
                obtain ⟨v9, k1, k2⟩ := hF
                refine ⟨v9, ?_, GGs.keep (fun g t cs ht h => tab_src h hW.src ht g9) j k2⟩
                rcases j with _ | _ | _ | _ | _ | _ | _ | _ | _ | _ | _ | _ | _ | _ | _ | _ | _ | _ | j
                all_goals first | exact k1 | exact absurd rfl hj | (exfalso; exact hnd _ rfl { on := 13, ground := .data } (by simp) rfl rfl)
              · -- 14
                simp at ho
                subst ho
                have d8 := hD { on := 8, ground := .data } (by simp) rfl
                obtain ⟨v8, q8, ⟨r, rfl, hr0, hr1⟩⟩ := d8
                obtain rfl : u45 = _ := by simpa [slGs] using q8
                have d13 := hD { on := 13, ground := .data } (by simp) rfl
                obtain ⟨v13, q13, ⟨s, rfl, hs0, hs1⟩⟩ := d13
                obtain rfl : u50 = _ := by simpa [slGs] using q13
                refine wpOp_list (o := _) rfl rfl ?_
                go_wp2_with fail
                change (_ ∧ _ ∧ _)
                refine ⟨⟨⟨_, _, _, _, _, _, _, _, _, _, _, _, _, _, _, _, _, rfl⟩, hW⟩, ⟨_, rfl, r - s, rfl, by omega, by omega⟩, ?_⟩
                intro j hj hnd hF
                obtain ⟨v9, k1, k2⟩ := hF
                refine ⟨v9, ?_, GGs.keep (fun _ _ _ _ h => h) j k2⟩
                rcases j with _ | _ | _ | _ | _ | _ | _ | _ | _ | _ | _ | _ | _ | _ | _ | _ | _ | _ | j
                all_goals first | exact k1 | exact absurd rfl hj | (exfalso; exact hnd _ rfl { on := 14, ground := .data } (by simp) rfl rfl)
              · -- 15
                simp at ho
                subst ho
                have d5 := hD { on := 5, ground := .data } (by simp) rfl
                obtain ⟨v5, q5, ⟨f, rfl, hf0, hf1⟩⟩ := d5
                obtain rfl : u42 = _ := by simpa [slGs] using q5
                have d14 := hD { on := 14, ground := .data } (by simp) rfl
                obtain ⟨v14, q14, ⟨u, rfl, hu0, hu1⟩⟩ := d14
                obtain rfl : u51 = _ := by simpa [slGs] using q14
                refine wpOp_list (o := _) rfl rfl ?_
                go_wp2_with fail
                change (_ ∧ _ ∧ _)
                refine ⟨⟨⟨_, _, _, _, _, _, _, _, _, _, _, _, _, _, _, _, _, rfl⟩, hW⟩, ⟨_, rfl, f, u, rfl, ⟨hf0, hf1⟩, ⟨hu0, hu1⟩⟩, ?_⟩
                intro j hj hnd hF
                obtain ⟨v9, k1, k2⟩ := hF
                refine ⟨v9, ?_, GGs.keep (fun _ _ _ _ h => h) j k2⟩
                rcases j with _ | _ | _ | _ | _ | _ | _ | _ | _ | _ | _ | _ | _ | _ | _ | _ | _ | _ | j
                all_goals first | exact k1 | exact absurd rfl hj | (exfalso; exact hnd _ rfl { on := 15, ground := .data } (by simp) rfl rfl)
              · -- 16
                simp at ho
                subst ho
                refine wpOp_list (o := _) rfl rfl ?_
                go_wp2_with fail
                change (_ ∧ _ ∧ _)
                refine ⟨⟨⟨_, _, _, _, _, _, _, _, _, _, _, _, _, _, _, _, _, rfl⟩, hW⟩, ⟨_, rfl, rfl⟩, ?_⟩
                intro j hj hnd hF
                obtain ⟨v9, k1, k2⟩ := hF
                refine ⟨v9, ?_, GGs.keep (fun _ _ _ _ h => h) j k2⟩
                rcases j with _ | _ | _ | _ | _ | _ | _ | _ | _ | _ | _ | _ | _ | _ | _ | _ | _ | _ | j
                all_goals first | exact k1 | exact absurd rfl hj | (exfalso; exact hnd _ rfl { on := 16, ground := .data } (by simp) rfl rfl)
              · -- 17
                simp at ho
                subst ho
                have d16 := hD { on := 16, ground := .data } (by simp) rfl
                obtain ⟨v16, q16, rfl⟩ := d16
                obtain rfl : u53 = _ := by simpa [slGs] using q16
                have d15 := hD { on := 15, ground := .data } (by simp) rfl
                obtain ⟨v15, q15, ⟨f, u, rfl, hf, hu⟩⟩ := d15
                obtain rfl : u52 = _ := by simpa [slGs] using q15
                refine wpOp_list (o := _) rfl rfl ?_
                obtain ⟨k3, k4, c3, c4, f3, f4⟩ := hW.at34
                go_wp2_with fail
                change (_ ∧ _ ∧ _)
                refine ⟨⟨⟨_, _, _, _, _, _, _, _, _, _, _, _, _, _, _, _, _, rfl⟩, hW.set34 f u hf hu⟩, ⟨_, rfl, trivial⟩, ?_⟩
                intro j hj hnd hF
                obtain ⟨v9, k1, k2⟩ := hF
                refine ⟨v9, ?_, GGs.put hW.boxAt j k2⟩
                rcases j with _ | _ | _ | _ | _ | _ | _ | _ | _ | _ | _ | _ | _ | _ | _ | _ | _ | _ | j
                all_goals first | exact k1 | exact absurd rfl hj | (exfalso; exact hnd _ rfl { on := 17, ground := .data } (by simp) rfl rfl)
              · exfalso
                simp at ho
            · intro a V hB hF
              obtain ⟨⟨u37, u38, u39, u40, u41, u42, u43, u44, u45, u46, u47, u48, u49, u50, u51, u52, u53, rfl⟩, hW⟩ := hB
              go_wp2_with fail
              go_meet
              exact ⟨rfl, Lib.hid hW⟩
          case rest =>
            obtain ⟨rfl, HGX⟩ := hcut
            clear HW0
            go_wp2_with fail
            refine (CN.out _ 3 HGX.out.src (by omega) (by omega)).mono ?_
            rintro e w6 ⟨r, hr0, hr1, rfl, hS6, g6⟩
            obtain ⟨p, A, c, x, hgy, hle⟩ := HGX.out.next hS6 g6
            have HYC := Lib.hid hgy
            have hle : p.ns.length + (q + 1) ≤ 3 := by have := HM.out; omega
            clear hS6 g6 hgy HGX
            by_cases hr : r = 0
            · subst hr
              clear hr0 hr1
              have HYA := Lib.hid (HYC.out.below (V' := w6.alloc (.cells rowTG 9)) ((Below.refl _ _).alloc (Nat.le_refl _) _))
              have TA := Lib.hid (TabAt.new w6 9 rowTG)
              go_wp2_with fail
              refine (CN.out _ 2 HYA.out.gw.ln.src (by omega) (by omega)).mono ?_
              rintro e w7 ⟨q0, hq0, hq1, rfl, hS7, g7⟩
              obtain ⟨qq, rfl⟩ : ∃ q : Nat, q0 = q := ⟨q0.toNat, by omega⟩
              have hq : qq < 2 := by omega
              have e1 : (qq : Int) < 2 := by omega
              have e2 : (0 : Int) ≤ (qq : Int) := by omega
              have T7 := tab_src TA.out HYA.out.gw.ln.src (by decide) g7
              have kc : w7.cell? ⟨w6.heap.size, qq, none⟩ = some (.string (tabTG qq)) := (T7.cell qq).trans (rowTG_at qq hq)
              have hz := tabTG_size qq hq
              have HY7 := Lib.hid (HYA.out.next hS7 g7)
              obtain ⟨a0, f0⟩ := HY7.out.at0
              clear HYC HYA TA T7 hS7 g7 hq1
              have HYC : Hid (GY w B len bp w4.heap.size (w7.setCell ⟨w4.heap.size, 0, none⟩ (.string (tabTG qq))) p A c ⟨tabTG qq, x.l, x.s, x.f, x.u⟩) := Lib.hid (HY7.out.put rfl ⟨by show (tabTG qq).size ≤ 2000; omega, HY7.out.ok.2⟩)
              clear HY7
              go_wp2_with fail
              clear a0 f0 kc
              generalize tabTG qq = tq at HYC hz
              obtain ⟨x', hx'⟩ : ∃ x' : Nm, x' = ⟨tq, x.l, x.s, x.f, x.u⟩ := ⟨_, rfl⟩
              rw [← hx'] at HYC
              clear hx'
              obtain ⟨x, rfl⟩ : ∃ y : Nm, y = x' := ⟨_, rfl⟩
              obtain ⟨wd, hwd⟩ : ∃ wd : World, wd = w7.setCell ⟨w4.heap.size, 0, none⟩ (.string tq) := ⟨_, rfl⟩
              have HGY := Lib.hid (show GY w B len bp w4.heap.size wd p A c x from by rw [hwd]; exact HYC.out)
              rw [← hwd]
              clear hwd HYC
              obtain ⟨b0, b1, b2, b3, b4⟩ := HGY.out.cells
              obtain ⟨x0, x1, x2, x3, x4⟩ := HGY.out.xcells
              have hbl := HGY.out.gw.box.lt
              have hxl := HGY.out.box.lt
              have HNA := Lib.hid (own_nm HGY.out.gw.ln.own)
              have hml : p.ns.length ≤ 3 := by omega
              have HQ0 : Hid (A = none → p.ns.length = 0) := Lib.hid (fun e => by
                rcases Nat.eq_zero_or_pos p.ns.length with h | h
                · exact h
                · obtain ⟨g, o, hA, _⟩ := HNA.out.2 h
                  rw [e] at hA; cases hA)
              have NT : Hid (∀ W, Below wd.heap.size wd W → ∀ ad, A = some ad → ∀ j u, (nmV p.ns)[j]? = some u → W.cell? (ad.add j) = some u) := Lib.hid (fun W hW ad e j u hu => by
                have hn := HNA.out.below hW (Nat.le_refl _)
                rcases Nat.eq_zero_or_pos p.ns.length with h | h
                · have h1 := (List.getElem?_eq_some_iff.1 hu).1
                  rw [nmV_len] at h1; omega
                · obtain ⟨g, o, hA, _⟩ := hn.2 h
                  rw [hA] at e hn
                  obtain rfl := Option.some.inj e
                  exact nm_cellsL hn j u hu)
              have BA : Hid (Below wd.heap.size wd ((wd.alloc (.cells #[] 100)).drew)) := Lib.hid ((Below.refl _ _).alloc (Nat.le_refl _) _).drew
              have BC : Hid (Below wd.heap.size wd (((wd.alloc (.cells #[] 100)).drew).alloc (.cells #[.string x.t, .string x.l, .int .i64 x.s, .int .i64 x.f, .int .i64 x.u] 100))) := Lib.hid (BA.out.alloc BA.out.size _)
              have BF0 : Below wd.heap.size wd ((wd.alloc (.cells #[.string x.t, .string x.l, .int .i64 x.s, .int .i64 x.f, .int .i64 x.u] 100)).drew) := ((Below.refl _ _).alloc (Nat.le_refl _) _).drew
              have BF : Hid (Below wd.heap.size wd (((wd.alloc (.cells #[.string x.t, .string x.l, .int .i64 x.s, .int .i64 x.f, .int .i64 x.u] 100)).drew).alloc (.cells #[] 100))) := Lib.hid (BF0.alloc BF0.size _)
              have OA : Hid (((wd.alloc (.cells #[] 100)).drew).ownsRow wd.heap.size 100 5 (.slice (some ⟨wd.heap.size, 0, none⟩) 0 0) 0 (#[] : Array Value).toList) := Lib.hid (World.ownsRow_lit (e := 100) (base := wd.heap.size) (size := 5) wd #[] 0 (Nat.le_refl _) (by decide) rfl)
              have OC : Hid ((((wd.alloc (.cells #[] 100)).drew).alloc (.cells #[.string x.t, .string x.l, .int .i64 x.s, .int .i64 x.f, .int .i64 x.u] 100)).ownsRow wd.heap.size 100 5 (.slice (some ⟨wd.heap.size, 0, none⟩) 0 0) 0 (#[] : Array Value).toList) := Lib.hid (OA.out.alloc _)
              have hs1 : ((wd.alloc (.cells #[.string x.t, .string x.l, .int .i64 x.s, .int .i64 x.f, .int .i64 x.u] 100)).drew).heap.size = wd.heap.size + 1 := by simp
              have hsA : ((wd.alloc (.cells #[] 100)).drew).heap.size = wd.heap.size + 1 := by simp
              have OF : Hid ((((wd.alloc (.cells #[.string x.t, .string x.l, .int .i64 x.s, .int .i64 x.f, .int .i64 x.u] 100)).drew).alloc (.cells #[] 100)).ownsRow wd.heap.size 100 5 (.slice (some ⟨wd.heap.size + 1, 0, none⟩) 0 0) 0 (#[] : Array Value).toList) := Lib.hid (by
                have h := World.ownsRow_lit (e := 100) (base := wd.heap.size) (size := 5) ((wd.alloc (.cells #[.string x.t, .string x.l, .int .i64 x.s, .int .i64 x.f, .int .i64 x.u] 100)).drew) #[] 0 (by omega) (by decide) rfl
                rw [hs1] at h
                exact h)
              have XC : Hid (Bx (((wd.alloc (.cells #[] 100)).drew).alloc (.cells #[.string x.t, .string x.l, .int .i64 x.s, .int .i64 x.f, .int .i64 x.u] 100)) (wd.heap.size + 1) (encN x)) := Lib.hid (by
                have h := Bx.new ((wd.alloc (.cells #[] 100)).drew) #[.string x.t, .string x.l, .int .i64 x.s, .int .i64 x.f, .int .i64 x.u] 100
                rw [hsA] at h
                exact h)
              have XF : Hid (Bx (((wd.alloc (.cells #[.string x.t, .string x.l, .int .i64 x.s, .int .i64 x.f, .int .i64 x.u] 100)).drew).alloc (.cells #[] 100)) wd.heap.size (encN x)) := Lib.hid (((Bx.new wd #[.string x.t, .string x.l, .int .i64 x.s, .int .i64 x.f, .int .i64 x.u] 100).drew).alloc _)
              have KC : Hid (∀ W, (((wd.alloc (.cells #[] 100)).drew).alloc (.cells #[.string x.t, .string x.l, .int .i64 x.s, .int .i64 x.f, .int .i64 x.u] 100)).grownBy W (Value.slice (some ⟨wd.heap.size, 0, none⟩) 0 0).ownBlock → ∀ ad, some (⟨wd.heap.size + 1, 0, none⟩ : Addr) = some ad → ∀ j u, (encN x)[j]? = some u → W.cell? (ad.add j) = some u) := Lib.hid (fun W hW => bx_addG (XC.out.grown hW (by simp)))
              have KF : Hid (∀ W, (((wd.alloc (.cells #[.string x.t, .string x.l, .int .i64 x.s, .int .i64 x.f, .int .i64 x.u] 100)).drew).alloc (.cells #[] 100)).grownBy W (Value.slice (some ⟨wd.heap.size + 1, 0, none⟩) 0 0).ownBlock → ∀ ad, some (⟨wd.heap.size, 0, none⟩ : Addr) = some ad → ∀ j u, (encN x)[j]? = some u → W.cell? (ad.add j) = some u) := Lib.hid (fun W hW => bx_addG (XF.out.grown hW (by simp)))
              have KN : Hid (∀ W : World, ∀ ad, some (⟨W.heap.size, 0, none⟩ : Addr) = some ad → ∀ j u, (encN x)[j]? = some u → (W.alloc (.cells #[.string x.t, .string x.l, .int .i64 x.s, .int .i64 x.f, .int .i64 x.u] 100)).cell? (ad.add j) = some u) := Lib.hid (fun W => bx_addG (Bx.new W #[.string x.t, .string x.l, .int .i64 x.s, .int .i64 x.f, .int .i64 x.u] 100))
              have L1 : Hid ((nmV p.ns).length = p.ns.length * 5) := Lib.hid (nmV_len _)
              have P1 : Hid (0 + p.ns.length ≤ maxLen) := Lib.hid (by unfold maxLen; omega)
              have P2 : Hid ((0 + p.ns.length) * 56 ≤ 140737488355328) := Lib.hid (by omega)
              have P3 : Hid (0 + p.ns.length + 1 ≤ maxLen) := Lib.hid (by unfold maxLen; omega)
              have P4 : Hid ((0 + p.ns.length + 1) * 56 ≤ 140737488355328) := Lib.hid (by omega)
              have LE1 : Hid ((encN x).length = 1 * 5) := Lib.hid rfl
              have XB : Hid (∀ W, Below wd.heap.size wd W → W.cell? ⟨w4.heap.size, 0, none⟩ = some (.string x.t) ∧ W.cell? ⟨w4.heap.size, 1, none⟩ = some (.string x.l) ∧ W.cell? ⟨w4.heap.size, 2, none⟩ = some (.int .i64 x.s) ∧ W.cell? ⟨w4.heap.size, 3, none⟩ = some (.int .i64 x.f) ∧ W.cell? ⟨w4.heap.size, 4, none⟩ = some (.int .i64 x.u)) := Lib.hid (fun W hW => (HGY.out.below hW).xcells)
              obtain ⟨xa0, xa1, xa2, xa3, xa4⟩ := XB.out _ BA.out
              clear BF0 hs1 hsA
              go_cut [6] from 31 to 82 (fun v wx => (∃ C cc, v = .slice (some ⟨C, 0, none⟩) (p.ns.length + 1) cc ∧ wx.ownsRow wd.heap.size 100 5 v (p.ns.length + 1) (nmV (p.ns ++ [x]))) ∧ Below wd.heap.size wd wx)
              case first =>
                go_region_law (first
                  | ((refine step_append_x rfl (.tmp 63) (.tmp 65) 27 rfl wd.heap.size 100 i0 _ 5 56 Tryz.underlying27 hi0 hz0 hz1 hz2 rfl (by decide) _ 0 _ rfl (by first | exact OA.out | exact OC.out | exact OF.out) _ p.ns.length _ (nmV p.ns) rfl HQ0.out L1.out (by first | exact NT.out _ BA.out | exact NT.out _ BC.out | exact NT.out _ BF.out) (nm_oneL _) P1.out P2.out (by first | exact BA.out.size | exact BC.out.size | exact BF.out.size) ?_); intro v5 w5 hown5 hgrow5 hnil5; have hb5 : Below wd.heap.size wd w5 := (by first | exact BA.out.grown hgrow5 BA.out.size (fun j hj => (OA.out.lt j hj).1) | exact BC.out.grown hgrow5 BC.out.size (fun j hj => (OC.out.lt j hj).1) | exact BF.out.grown hgrow5 BF.out.size (fun j hj => (OF.out.lt j hj).1)); obtain ⟨x50, x51, x52, x53, x54⟩ := XB.out w5 hb5)
                  | ((refine step_append_x rfl (.tmp 66) (.tmp 68) 27 rfl wd.heap.size 100 i0 _ 5 56 Tryz.underlying27 hi0 hz0 hz1 hz2 rfl (by decide) _ _ _ rfl (by first | exact hown5 | exact hown5.alloc _) _ 1 1 (encN x) rfl (fun e => by cases e) LE1.out (by first | exact KN.out w5 | exact KC.out w5 hgrow5 | exact KF.out w5 hgrow5) (five_oneL _) P3.out P4.out (by first | exact hb5.size | exact (hb5.alloc hb5.size _).size) ?_); intro v7 w7 hown7 hgrow7 hnil7; have hb7 : Below wd.heap.size wd w7 := (by first | exact hb5.grown hgrow7 hb5.size (fun j hj => (hown5.lt j hj).1) | exact (hb5.alloc hb5.size _).grown hgrow7 (hb5.alloc hb5.size _).size (fun j hj => (hown5.lt j hj).1))))
                all_goals
                  have hown8 : w7.ownsRow wd.heap.size 100 5 v7 (p.ns.length + 1) (nmV (p.ns ++ [x])) := by
                    have e : 0 + p.ns.length + 1 = p.ns.length + 1 := by omega
                    have e2 : nmV (p.ns ++ [x]) = (#[] : Array Value).toList ++ nmV p.ns ++ encN x := by rw [nmV_app, nmV_one]; simp
                    rw [e2, ← e]
                    exact hown7
                  obtain ⟨g7, c7, hv7, _, _⟩ := World.ownsRow.form hown8 (by omega)
                  subst hv7
                  clear hown7 hown5 hgrow5 hgrow7 hnil5 hnil7 hb5
                  go_wp2_with fail
                  go_meet
                all_goals exact ⟨⟨g7, c7, rfl, hown8⟩, hb7⟩
              case rest =>
                obtain ⟨⟨g8, c8, rfl, hrow⟩, hb8⟩ := hcut
                obtain ⟨w8, rfl⟩ : ∃ w8 : World, w8 = wc := ⟨_, rfl⟩
                have HY8 := Lib.hid (HGY.out.below hb8)
                have HL8 : Hid (LN w w.heap.size B len w8 (.slice (some ⟨g8, 0, none⟩) (p.ns.length + 1) c8) (p.ns.length + 1) (p.ns ++ [x])) := Lib.hid ⟨rowBase hrow HGY.out.gw.ln.grown.size, HY8.out.gw.ln.src, HY8.out.gw.ln.grown, HY8.out.gw.ln.lt, (fun z hz => by
                  rw [List.mem_append, List.mem_singleton] at hz
                  rcases hz with hz | rfl
                  · exact HY8.out.gw.ln.small z hz
                  · exact HY8.out.ok), Nat.le_refl _, HY8.out.gw.ln.grown.size⟩
                have CA := Lib.hid (cAreN_spec (some ⟨g8, 0, none⟩) (p.ns.length + 1) c8 (p.ns ++ [x]) w8 (by omega) (sz_small HL8.out.small) (own_nm HL8.out.own))
                obtain ⟨bz, hbz⟩ : ∃ b, b = namesB (p.ns ++ [x]) := ⟨_, rfl⟩
                rw [← hbz] at CA
                clear hbz HGY HNA HQ0 NT BA BC BF OA OC OF XC XF KC KF KN L1 P1 P2 P3 P4 LE1 XB hrow hb8 b0 b1 b2 b3 b4 x0 x1 x2 x3 x4 xa0 xa1 xa2 xa3 xa4
                cases bz
                · go_wp2_with fail
                  refine CA.out.mono ?_
                  rintro e w9 ⟨rfl, hb9⟩
                  have HE9 : Hid (GE w B len bp (3 - q) w9) := Lib.hid ⟨p, A, c, (HY8.out.below hb9).gw, by omega⟩
                  clear hb9
                  go_wp2_with fail
                  go_roundw
                  case rel => exact ⟨q, by omega, by go_num, HE9⟩
                  case measure => simp [intOf]
                · go_wp2_with fail
                  refine CA.out.mono ?_
                  rintro e w9 ⟨rfl, hb9⟩
                  have HY9 := Lib.hid (HY8.out.below hb9)
                  have HL9 := Lib.hid (HL8.out.below hb9)
                  obtain ⟨x0, x1, x2, x3, x4⟩ := HY9.out.xcells
                  obtain ⟨k4, f4⟩ := HY9.out.at4
                  clear hb9
                  by_cases hfu : x.f ≤ x.u
                  · have dfu : decide (x.f ≤ x.u) = true := decide_eq_true hfu
                    have HE9 : Hid (GE w B len bp (3 - q) (w9.setCell ⟨bp, 4, none⟩ (.slice (some ⟨g8, 0, none⟩) (p.ns.length + 1) c8))) := Lib.hid (by
                      refine ⟨⟨p.c, p.k, p.f, p.u, p.ns ++ [x]⟩, some ⟨g8, 0, none⟩, c8, ?_, by rw [List.length_append]; simp; omega⟩
                      have hl : (p.ns ++ [x]).length = p.ns.length + 1 := by simp
                      exact HY9.out.gw.set (q := ⟨p.c, p.k, p.f, p.u, p.ns ++ [x]⟩) (by unfold celP; simp) (by show LN w w.heap.size B len _ (.slice (some ⟨g8, 0, none⟩) (p.ns ++ [x]).length c8) (p.ns ++ [x]).length (p.ns ++ [x]); rw [hl]; exact HL9.out.setG HY9.out.gw.box (by decide) (Nat.le_of_lt HY9.out.gw.lt)) HY9.out.gw.ok)
                    clear hfu
                    go_wp2_with fail
                    go_roundw
                    case rel => exact ⟨q, by omega, by go_num, HE9⟩
                    case measure => simp [intOf]
                  · have dfu : decide (x.f ≤ x.u) = false := decide_eq_false hfu
                    have HE9 : Hid (GE w B len bp (3 - q) w9) := Lib.hid ⟨p, A, c, HY9.out.gw, by omega⟩
                    clear hfu
                    go_wp2_with fail
                    go_roundw
                    case rel => exact ⟨q, by omega, by go_num, HE9⟩
                    case measure => simp [intOf]
            · have dr : (r == 0) = false := by rw [beq_eq_false_iff_ne]; exact hr
              go_wp2_with fail
              obtain ⟨wd, hwd⟩ : ∃ wd : World, wd = w6 := ⟨_, rfl⟩
              have HGY := Lib.hid (show GY w B len bp w4.heap.size wd p A c x from by rw [hwd]; exact HYC.out)
              rw [← hwd]
              clear hwd HYC
              obtain ⟨b0, b1, b2, b3, b4⟩ := HGY.out.cells
              obtain ⟨x0, x1, x2, x3, x4⟩ := HGY.out.xcells
              have hbl := HGY.out.gw.box.lt
              have hxl := HGY.out.box.lt
              have HNA := Lib.hid (own_nm HGY.out.gw.ln.own)
              have hml : p.ns.length ≤ 3 := by omega
              have HQ0 : Hid (A = none → p.ns.length = 0) := Lib.hid (fun e => by
                rcases Nat.eq_zero_or_pos p.ns.length with h | h
                · exact h
                · obtain ⟨g, o, hA, _⟩ := HNA.out.2 h
                  rw [e] at hA; cases hA)
              have NT : Hid (∀ W, Below wd.heap.size wd W → ∀ ad, A = some ad → ∀ j u, (nmV p.ns)[j]? = some u → W.cell? (ad.add j) = some u) := Lib.hid (fun W hW ad e j u hu => by
                have hn := HNA.out.below hW (Nat.le_refl _)
                rcases Nat.eq_zero_or_pos p.ns.length with h | h
                · have h1 := (List.getElem?_eq_some_iff.1 hu).1
                  rw [nmV_len] at h1; omega
                · obtain ⟨g, o, hA, _⟩ := hn.2 h
                  rw [hA] at e hn
                  obtain rfl := Option.some.inj e
                  exact nm_cellsL hn j u hu)
              have BA : Hid (Below wd.heap.size wd ((wd.alloc (.cells #[] 100)).drew)) := Lib.hid ((Below.refl _ _).alloc (Nat.le_refl _) _).drew
              have BC : Hid (Below wd.heap.size wd (((wd.alloc (.cells #[] 100)).drew).alloc (.cells #[.string x.t, .string x.l, .int .i64 x.s, .int .i64 x.f, .int .i64 x.u] 100))) := Lib.hid (BA.out.alloc BA.out.size _)
              have BF0 : Below wd.heap.size wd ((wd.alloc (.cells #[.string x.t, .string x.l, .int .i64 x.s, .int .i64 x.f, .int .i64 x.u] 100)).drew) := ((Below.refl _ _).alloc (Nat.le_refl _) _).drew
              have BF : Hid (Below wd.heap.size wd (((wd.alloc (.cells #[.string x.t, .string x.l, .int .i64 x.s, .int .i64 x.f, .int .i64 x.u] 100)).drew).alloc (.cells #[] 100))) := Lib.hid (BF0.alloc BF0.size _)
              have OA : Hid (((wd.alloc (.cells #[] 100)).drew).ownsRow wd.heap.size 100 5 (.slice (some ⟨wd.heap.size, 0, none⟩) 0 0) 0 (#[] : Array Value).toList) := Lib.hid (World.ownsRow_lit (e := 100) (base := wd.heap.size) (size := 5) wd #[] 0 (Nat.le_refl _) (by decide) rfl)
              have OC : Hid ((((wd.alloc (.cells #[] 100)).drew).alloc (.cells #[.string x.t, .string x.l, .int .i64 x.s, .int .i64 x.f, .int .i64 x.u] 100)).ownsRow wd.heap.size 100 5 (.slice (some ⟨wd.heap.size, 0, none⟩) 0 0) 0 (#[] : Array Value).toList) := Lib.hid (OA.out.alloc _)
              have hs1 : ((wd.alloc (.cells #[.string x.t, .string x.l, .int .i64 x.s, .int .i64 x.f, .int .i64 x.u] 100)).drew).heap.size = wd.heap.size + 1 := by simp
              have hsA : ((wd.alloc (.cells #[] 100)).drew).heap.size = wd.heap.size + 1 := by simp
              have OF : Hid ((((wd.alloc (.cells #[.string x.t, .string x.l, .int .i64 x.s, .int .i64 x.f, .int .i64 x.u] 100)).drew).alloc (.cells #[] 100)).ownsRow wd.heap.size 100 5 (.slice (some ⟨wd.heap.size + 1, 0, none⟩) 0 0) 0 (#[] : Array Value).toList) := Lib.hid (by
                have h := World.ownsRow_lit (e := 100) (base := wd.heap.size) (size := 5) ((wd.alloc (.cells #[.string x.t, .string x.l, .int .i64 x.s, .int .i64 x.f, .int .i64 x.u] 100)).drew) #[] 0 (by omega) (by decide) rfl
                rw [hs1] at h
                exact h)
              have XC : Hid (Bx (((wd.alloc (.cells #[] 100)).drew).alloc (.cells #[.string x.t, .string x.l, .int .i64 x.s, .int .i64 x.f, .int .i64 x.u] 100)) (wd.heap.size + 1) (encN x)) := Lib.hid (by
                have h := Bx.new ((wd.alloc (.cells #[] 100)).drew) #[.string x.t, .string x.l, .int .i64 x.s, .int .i64 x.f, .int .i64 x.u] 100
                rw [hsA] at h
                exact h)
              have XF : Hid (Bx (((wd.alloc (.cells #[.string x.t, .string x.l, .int .i64 x.s, .int .i64 x.f, .int .i64 x.u] 100)).drew).alloc (.cells #[] 100)) wd.heap.size (encN x)) := Lib.hid (((Bx.new wd #[.string x.t, .string x.l, .int .i64 x.s, .int .i64 x.f, .int .i64 x.u] 100).drew).alloc _)
              have KC : Hid (∀ W, (((wd.alloc (.cells #[] 100)).drew).alloc (.cells #[.string x.t, .string x.l, .int .i64 x.s, .int .i64 x.f, .int .i64 x.u] 100)).grownBy W (Value.slice (some ⟨wd.heap.size, 0, none⟩) 0 0).ownBlock → ∀ ad, some (⟨wd.heap.size + 1, 0, none⟩ : Addr) = some ad → ∀ j u, (encN x)[j]? = some u → W.cell? (ad.add j) = some u) := Lib.hid (fun W hW => bx_addG (XC.out.grown hW (by simp)))
              have KF : Hid (∀ W, (((wd.alloc (.cells #[.string x.t, .string x.l, .int .i64 x.s, .int .i64 x.f, .int .i64 x.u] 100)).drew).alloc (.cells #[] 100)).grownBy W (Value.slice (some ⟨wd.heap.size + 1, 0, none⟩) 0 0).ownBlock → ∀ ad, some (⟨wd.heap.size, 0, none⟩ : Addr) = some ad → ∀ j u, (encN x)[j]? = some u → W.cell? (ad.add j) = some u) := Lib.hid (fun W hW => bx_addG (XF.out.grown hW (by simp)))
              have KN : Hid (∀ W : World, ∀ ad, some (⟨W.heap.size, 0, none⟩ : Addr) = some ad → ∀ j u, (encN x)[j]? = some u → (W.alloc (.cells #[.string x.t, .string x.l, .int .i64 x.s, .int .i64 x.f, .int .i64 x.u] 100)).cell? (ad.add j) = some u) := Lib.hid (fun W => bx_addG (Bx.new W #[.string x.t, .string x.l, .int .i64 x.s, .int .i64 x.f, .int .i64 x.u] 100))
              have L1 : Hid ((nmV p.ns).length = p.ns.length * 5) := Lib.hid (nmV_len _)
              have P1 : Hid (0 + p.ns.length ≤ maxLen) := Lib.hid (by unfold maxLen; omega)
              have P2 : Hid ((0 + p.ns.length) * 56 ≤ 140737488355328) := Lib.hid (by omega)
              have P3 : Hid (0 + p.ns.length + 1 ≤ maxLen) := Lib.hid (by unfold maxLen; omega)
              have P4 : Hid ((0 + p.ns.length + 1) * 56 ≤ 140737488355328) := Lib.hid (by omega)
              have LE1 : Hid ((encN x).length = 1 * 5) := Lib.hid rfl
              have XB : Hid (∀ W, Below wd.heap.size wd W → W.cell? ⟨w4.heap.size, 0, none⟩ = some (.string x.t) ∧ W.cell? ⟨w4.heap.size, 1, none⟩ = some (.string x.l) ∧ W.cell? ⟨w4.heap.size, 2, none⟩ = some (.int .i64 x.s) ∧ W.cell? ⟨w4.heap.size, 3, none⟩ = some (.int .i64 x.f) ∧ W.cell? ⟨w4.heap.size, 4, none⟩ = some (.int .i64 x.u)) := Lib.hid (fun W hW => (HGY.out.below hW).xcells)
              obtain ⟨xa0, xa1, xa2, xa3, xa4⟩ := XB.out _ BA.out
              clear BF0 hs1 hsA
              go_cut [6] from 31 to 82 (fun v wx => (∃ C cc, v = .slice (some ⟨C, 0, none⟩) (p.ns.length + 1) cc ∧ wx.ownsRow wd.heap.size 100 5 v (p.ns.length + 1) (nmV (p.ns ++ [x]))) ∧ Below wd.heap.size wd wx)
              case first =>
                go_region_law (first
                  | ((refine step_append_x rfl (.tmp 63) (.tmp 65) 27 rfl wd.heap.size 100 i0 _ 5 56 Tryz.underlying27 hi0 hz0 hz1 hz2 rfl (by decide) _ 0 _ rfl (by first | exact OA.out | exact OC.out | exact OF.out) _ p.ns.length _ (nmV p.ns) rfl HQ0.out L1.out (by first | exact NT.out _ BA.out | exact NT.out _ BC.out | exact NT.out _ BF.out) (nm_oneL _) P1.out P2.out (by first | exact BA.out.size | exact BC.out.size | exact BF.out.size) ?_); intro v5 w5 hown5 hgrow5 hnil5; have hb5 : Below wd.heap.size wd w5 := (by first | exact BA.out.grown hgrow5 BA.out.size (fun j hj => (OA.out.lt j hj).1) | exact BC.out.grown hgrow5 BC.out.size (fun j hj => (OC.out.lt j hj).1) | exact BF.out.grown hgrow5 BF.out.size (fun j hj => (OF.out.lt j hj).1)); obtain ⟨x50, x51, x52, x53, x54⟩ := XB.out w5 hb5)
                  | ((refine step_append_x rfl (.tmp 66) (.tmp 68) 27 rfl wd.heap.size 100 i0 _ 5 56 Tryz.underlying27 hi0 hz0 hz1 hz2 rfl (by decide) _ _ _ rfl (by first | exact hown5 | exact hown5.alloc _) _ 1 1 (encN x) rfl (fun e => by cases e) LE1.out (by first | exact KN.out w5 | exact KC.out w5 hgrow5 | exact KF.out w5 hgrow5) (five_oneL _) P3.out P4.out (by first | exact hb5.size | exact (hb5.alloc hb5.size _).size) ?_); intro v7 w7 hown7 hgrow7 hnil7; have hb7 : Below wd.heap.size wd w7 := (by first | exact hb5.grown hgrow7 hb5.size (fun j hj => (hown5.lt j hj).1) | exact (hb5.alloc hb5.size _).grown hgrow7 (hb5.alloc hb5.size _).size (fun j hj => (hown5.lt j hj).1))))
                all_goals
                  have hown8 : w7.ownsRow wd.heap.size 100 5 v7 (p.ns.length + 1) (nmV (p.ns ++ [x])) := by
                    have e : 0 + p.ns.length + 1 = p.ns.length + 1 := by omega
                    have e2 : nmV (p.ns ++ [x]) = (#[] : Array Value).toList ++ nmV p.ns ++ encN x := by rw [nmV_app, nmV_one]; simp
                    rw [e2, ← e]
                    exact hown7
                  obtain ⟨g7, c7, hv7, _, _⟩ := World.ownsRow.form hown8 (by omega)
                  subst hv7
                  clear hown7 hown5 hgrow5 hgrow7 hnil5 hnil7 hb5
                  go_wp2_with fail
                  go_meet
                all_goals exact ⟨⟨g7, c7, rfl, hown8⟩, hb7⟩
              case rest =>
                obtain ⟨⟨g8, c8, rfl, hrow⟩, hb8⟩ := hcut
                obtain ⟨w8, rfl⟩ : ∃ w8 : World, w8 = wc := ⟨_, rfl⟩
                have HY8 := Lib.hid (HGY.out.below hb8)
                have HL8 : Hid (LN w w.heap.size B len w8 (.slice (some ⟨g8, 0, none⟩) (p.ns.length + 1) c8) (p.ns.length + 1) (p.ns ++ [x])) := Lib.hid ⟨rowBase hrow HGY.out.gw.ln.grown.size, HY8.out.gw.ln.src, HY8.out.gw.ln.grown, HY8.out.gw.ln.lt, (fun z hz => by
                  rw [List.mem_append, List.mem_singleton] at hz
                  rcases hz with hz | rfl
                  · exact HY8.out.gw.ln.small z hz
                  · exact HY8.out.ok), Nat.le_refl _, HY8.out.gw.ln.grown.size⟩
                have CA := Lib.hid (cAreN_spec (some ⟨g8, 0, none⟩) (p.ns.length + 1) c8 (p.ns ++ [x]) w8 (by omega) (sz_small HL8.out.small) (own_nm HL8.out.own))
                obtain ⟨bz, hbz⟩ : ∃ b, b = namesB (p.ns ++ [x]) := ⟨_, rfl⟩
                rw [← hbz] at CA
                clear hbz HGY HNA HQ0 NT BA BC BF OA OC OF XC XF KC KF KN L1 P1 P2 P3 P4 LE1 XB hrow hb8 b0 b1 b2 b3 b4 x0 x1 x2 x3 x4 xa0 xa1 xa2 xa3 xa4
                cases bz
                · go_wp2_with fail
                  refine CA.out.mono ?_
                  rintro e w9 ⟨rfl, hb9⟩
                  have HE9 : Hid (GE w B len bp (3 - q) w9) := Lib.hid ⟨p, A, c, (HY8.out.below hb9).gw, by omega⟩
                  clear hb9
                  go_wp2_with fail
                  go_roundw
                  case rel => exact ⟨q, by omega, by go_num, HE9⟩
                  case measure => simp [intOf]
                · go_wp2_with fail
                  refine CA.out.mono ?_
                  rintro e w9 ⟨rfl, hb9⟩
                  have HY9 := Lib.hid (HY8.out.below hb9)
                  have HL9 := Lib.hid (HL8.out.below hb9)
                  obtain ⟨x0, x1, x2, x3, x4⟩ := HY9.out.xcells
                  obtain ⟨k4, f4⟩ := HY9.out.at4
                  clear hb9
                  by_cases hfu : x.f ≤ x.u
                  · have dfu : decide (x.f ≤ x.u) = true := decide_eq_true hfu
                    have HE9 : Hid (GE w B len bp (3 - q) (w9.setCell ⟨bp, 4, none⟩ (.slice (some ⟨g8, 0, none⟩) (p.ns.length + 1) c8))) := Lib.hid (by
                      refine ⟨⟨p.c, p.k, p.f, p.u, p.ns ++ [x]⟩, some ⟨g8, 0, none⟩, c8, ?_, by rw [List.length_append]; simp; omega⟩
                      have hl : (p.ns ++ [x]).length = p.ns.length + 1 := by simp
                      exact HY9.out.gw.set (q := ⟨p.c, p.k, p.f, p.u, p.ns ++ [x]⟩) (by unfold celP; simp) (by show LN w w.heap.size B len _ (.slice (some ⟨g8, 0, none⟩) (p.ns ++ [x]).length c8) (p.ns ++ [x]).length (p.ns ++ [x]); rw [hl]; exact HL9.out.setG HY9.out.gw.box (by decide) (Nat.le_of_lt HY9.out.gw.lt)) HY9.out.gw.ok)
                    clear hfu
                    go_wp2_with fail
                    go_roundw
                    case rel => exact ⟨q, by omega, by go_num, HE9⟩
                    case measure => simp [intOf]
                  · have dfu : decide (x.f ≤ x.u) = false := decide_eq_false hfu
                    have HE9 : Hid (GE w B len bp (3 - q) w9) := Lib.hid ⟨p, A, c, HY9.out.gw, by omega⟩
                    clear hfu
                    go_wp2_with fail
                    go_roundw
                    case rel => exact ⟨q, by omega, by go_num, HE9⟩
                    case measure => simp [intOf]
        · obtain rfl : k = 0 := by omega
          obtain ⟨p, A, c, hg, hle⟩ := HG.out
          have HGW := Lib.hid hg
          clear hg hk hk3
          obtain ⟨⟨a0, a1, a2, a3, a4⟩, ⟨b0, b1, b2, b3, b4⟩, ⟨e0, e1, e2, e3, e4⟩⟩ := HGW.out.both
          have HD := Lib.hid HGW.out.done
          obtain ⟨_, k0, k1, k2, k3, k4⟩ := HD.out
          unfold putP at k0 k1 k2 k3 k4
          go_wp2_with fail
          refine bodyPost_ret ?_ rfl ⟨p, A, c, rfl, HGW.out.ok, hle, HD.out.1⟩
          first | (simp [results, Tryz.results113, go_sem, k0, k1, k2, k3, k4]; done) | (simp [results, Tryz.results113, go_sem, k0, k1, k2, k3, k4]; rfl)
end Go.Proofs.YtglmibmjbignbaaGreatDoor
