/-
  Places of a kind: plain facts.
-/
import Derived.Test.YtglmibmjbignbaaGreatDoorMy22
import Derived.Test.YtglmibmjbignbaaGreatDoorPlFS
import Derived.Test.YtglmibmjbignbaaGreatDoorProg
import Derived.Test.YtglmibmjbignbaaGreatDoorErr9
import Derived.WalkKit
import Derived.LaidEql
import Derived.Stop.Asserts
import Derived.RowKitTokens
namespace Go.Proofs.YtglmibmjbignbaaGreatDoor
section
set_option linter.unusedVariables false
open Go.RowKit

theorem NumAt.grow {w w' : World} {A : Option Addr} {n : Nat} {xs : List Int} (h : NumAt w w.heap.size A n xs) (hb : Below w.heap.size w w') : NumAt w' w'.heap.size A n xs := (h.below hb (Nat.le_refl _)).more hb.size
/-- The place exists in the year, and its class is of the tree and of the kind. -/
def kdB (xs : List Int) (a y : Int) (p : Pl) : Bool := exB p y && (decide (p.k < (xs.length : Int)) && decide (a ∈ upF xs p.k))
theorem kd_sub {xs : List Int} {a y : Int} {p : Pl} (h : plB p = true) : kdB xs a y p = (exB p y && decide (p.k ∈ subU xs a xs.length)) := by
  have h0 := (pl_parts h).2.1
  unfold kdB
  congr 1
  rw [Bool.eq_iff_iff, Bool.and_eq_true, decide_eq_true_eq, decide_eq_true_eq, decide_eq_true_eq, sub_mem]
  constructor
  · rintro ⟨h1, h2⟩
    exact ⟨p.k.toNat, by omega, by omega, by rw [Int.toNat_of_nonneg h0]; exact h2⟩
  · rintro ⟨e, he, h1, h2⟩
    rw [he]
    exact ⟨by omega, h2⟩
noncomputable def pkC (ps : List Pl) (xs : List Int) (a y : Int) : Int := if treeB xs then (if pyC ps y = 0 then clsC xs [a] else pyC ps y) else 1
noncomputable def pkZ (ps : List Pl) (xs : List Int) (a y : Int) : List ByteArray := if pkC ps xs a y = 0 then cdZ (kdB xs a y) ps else []
theorem pk_cases (ps : List Pl) (xs : List Int) (a y : Int) :
    (treeB xs = false ∧ pkC ps xs a y = 1 ∧ pkZ ps xs a y = []) ∨
    (treeB xs = true ∧ pyC ps y ≠ 0 ∧ pkC ps xs a y = pyC ps y ∧ pkZ ps xs a y = []) ∨
    (treeB xs = true ∧ pyC ps y = 0 ∧ clsC xs [a] = 2 ∧ inT10 xs a = false ∧ pkC ps xs a y = 2 ∧ pkZ ps xs a y = []) ∨
    (treeB xs = true ∧ pyC ps y = 0 ∧ clsC xs [a] = 0 ∧ inT10 xs a = true ∧ regB ps = true ∧ pkC ps xs a y = 0 ∧ pkZ ps xs a y = cdZ (kdB xs a y) ps) := by
  cases ht : treeB xs
  · have h1 : pkC ps xs a y = 1 := by unfold pkC; rw [ht]; rfl
    exact .inl ⟨rfl, h1, by unfold pkZ; rw [if_neg (by rw [h1]; decide)]⟩
  · by_cases h0 : pyC ps y = 0
    · have h1 : pkC ps xs a y = clsC xs [a] := by unfold pkC; rw [ht, if_pos h0]; rfl
      cases hi : inT10 xs a
      · have h2 : clsC xs [a] = 2 := by unfold clsC; rw [if_pos ht, if_neg (by simp [hi])]
        have h3 := h1.trans h2
        exact .inr (.inr (.inl ⟨rfl, h0, h2, rfl, h3, by unfold pkZ; rw [if_neg (by rw [h3]; decide)]⟩))
      · have h2 : clsC xs [a] = 0 := by unfold clsC; rw [if_pos ht, if_pos (by simp [hi])]
        have h3 := h1.trans h2
        exact .inr (.inr (.inr ⟨rfl, h0, h2, rfl, (pyC_zero h0).1, h3, by unfold pkZ; rw [if_pos h3]⟩))
    · have h1 : pkC ps xs a y = pyC ps y := by unfold pkC; rw [ht, if_neg h0]; rfl
      exact .inr (.inl ⟨rfl, h0, h1, by unfold pkZ; rw [if_neg (by rw [h1]; exact h0)]⟩)
theorem pkZ_len (ps : List Pl) (xs : List Int) (a y : Int) : (pkZ ps xs a y).length ≤ 1048576 := by
  rcases pk_cases ps xs a y with ⟨_, _, h⟩ | ⟨_, _, _, h⟩ | ⟨_, _, _, _, _, h⟩ | ⟨_, _, _, _, hr, _, h⟩
  · rw [h]; simp
  · rw [h]; simp
  · rw [h]; simp
  · rw [h]
    have h1 := cdZ_len (kdB xs a y) ps
    have h2 := (reg_of hr).1
    omega
end
section
set_option linter.unusedVariables false
open Go.RowKit

theorem ls_used (xs : List Nm) (l : ByteArray) (y : Int) : ∀ (k b : Nat), lsF xs l y k = some b → ∃ x, xs[b]? = some x ∧ usB x y = true
  | 0, b, h => by simp [lsF] at h
  | k + 1, b, h => by
    have ih := ls_used xs l y k
    cases hx : xs[k]? with
    | none => simp only [lsF, hx] at h; exact ih b h
    | some x =>
      cases hc : (decide (x.l = l) && usB x y)
      · rw [ls_skip hx hc] at h; exact ih b h
      · have hu : usB x y = true := by simp at hc; exact hc.2
        cases hb : lsF xs l y k with
        | none => rw [ls_first hx hc hb] at h; cases h; exact ⟨x, hx, hu⟩
        | some d =>
          obtain ⟨z, h2, h3⟩ := ih d hb
          by_cases hs : x.s < z.s
          · rw [ls_better hx hc hb h2 hs] at h; cases h; exact ⟨x, hx, hu⟩
          · rw [ls_worse hx hc hb h2 hs] at h; cases h; exact ⟨z, h2, h3⟩
theorem best_used {xs : List Nm} {y : Int} : ∀ {ls : List ByteArray} {k : Nat}, bestF xs y ls = some k → ∃ x, xs[k]? = some x ∧ usB x y = true
  | [], k, h => by cases h
  | l :: ls, k, h => by
    cases h1 : lsF xs l y xs.length with
    | some b =>
      simp only [bestF, h1] at h
      obtain rfl := Option.some.inj h
      exact ls_used xs l y xs.length b h1
    | none =>
      simp only [bestF, h1] at h
      exact best_used h
theorem cdZ_mem {P : Pl → Bool} {ps : List Pl} {t : ByteArray} : t ∈ cdZ P ps ↔ ∃ p ∈ ps, P p = true ∧ p.c = t := by
  unfold cdZ
  rw [List.mem_map]
  constructor
  · rintro ⟨p, hp, rfl⟩
    rw [List.mem_filter] at hp
    exact ⟨p, hp.1, hp.2, rfl⟩
  · rintro ⟨p, h1, h2, rfl⟩
    exact ⟨p, by rw [List.mem_filter]; exact ⟨h1, h2⟩, rfl⟩
theorem na_named {ps : List Pl} {s : ByteArray} {ls : List ByteArray} {y : Int} (h0 : naC ps s ls y = 0) (hne : naT ps s ls y ≠ s) : pnC ps (naT ps s ls y) y = 0 ∧ s ∈ pnZ ps (naT ps s ls y) y := by
  rcases na_cases ps s ls y with ⟨_, h, _⟩ | ⟨_, h1, h2, _⟩ | ⟨p, e1, e2, e3, hp, e5, hq, e6, e7⟩
  · rw [h] at h0; cases h0
  · rw [h2] at h0; exact absurd h0 h1
  · cases ho : bestF p.ns y ls with
    | none => rw [e7, bestT_none ho] at hne; exact absurd rfl hne
    | some k =>
      obtain ⟨x, hx, hu⟩ := best_used ho
      have ht : naT ps s ls y = x.t := by rw [e7, bestT_some ho hx]; rfl
      rw [ht]
      have hpl := reg_mem e3 (List.mem_of_getElem? hp)
      have hph := (nm_parts (names_mem (pl_parts hpl).2.2.2.2.1 (List.mem_of_getElem? hx))).1
      rcases pcC_cases ps s y with ⟨h, _⟩ | ⟨h, _⟩ | ⟨h, _⟩ | ⟨h, _⟩ | ⟨h, g1, g2, g3, g4⟩
      · rw [h] at e2; cases e2
      · rw [h] at e2; cases e2
      · rw [h] at e2; cases e2
      · rw [h] at e2; cases e2
      obtain ⟨p', hp', hc⟩ := there_get g4
      rw [hp] at hp'
      obtain rfl := Option.some.inj hp'
      rcases pn_cases ps x.t y with ⟨f1, _⟩ | ⟨_, f2, _⟩ | ⟨f1, f2, f3, f4⟩
      · rw [hph] at f1; cases f1
      · exact absurd (pyC_ok g1 g3) f2
      · refine ⟨f3, ?_⟩
        rw [f4]
        exact cdZ_mem.2 ⟨p, List.mem_of_getElem? hp, has_yes hx hu, hc⟩
theorem pk_in {ps : List Pl} {xs : List Int} {a y : Int} (h0 : pkC ps xs a y = 0) : pyC ps y = 0 ∧ ∀ t ∈ pkZ ps xs a y, t ∈ piZ ps y := by
  rcases pk_cases ps xs a y with ⟨_, h, _⟩ | ⟨_, h1, h2, _⟩ | ⟨_, _, _, _, h, _⟩ | ⟨_, e2, _, _, _, _, e7⟩
  · rw [h] at h0; cases h0
  · rw [h2] at h0; exact absurd h0 h1
  · rw [h] at h0; cases h0
  · refine ⟨e2, fun t ht => ?_⟩
    rw [e7] at ht
    rw [piZ_ok e2]
    obtain ⟨p, hp, hk, hc⟩ := cdZ_mem.1 ht
    refine cdZ_mem.2 ⟨p, hp, ?_, hc⟩
    unfold kdB at hk
    rw [Bool.and_eq_true] at hk
    exact hk.1
theorem pn_in {ps : List Pl} {t : ByteArray} {y : Int} (h0 : pnC ps t y = 0) : pyC ps y = 0 ∧ ∀ z ∈ pnZ ps t y, z ∈ piZ ps y := by
  rcases pn_cases ps t y with ⟨_, h, _⟩ | ⟨_, h1, h2, _⟩ | ⟨_, e2, _, e4⟩
  · rw [h] at h0; cases h0
  · rw [h2] at h0; exact absurd h0 h1
  · refine ⟨e2, fun z hz => ?_⟩
    rw [e4] at hz
    rw [piZ_ok e2]
    obtain ⟨p, hp, hk, hc⟩ := cdZ_mem.1 hz
    refine cdZ_mem.2 ⟨p, hp, ?_, hc⟩
    unfold hasT11 at hk
    obtain ⟨x, hx, hu, _⟩ := txU_mem.1 (of_decide_eq_true hk)
    have hpl := reg_mem (pyC_zero e2).1 hp
    have hw := List.all_eq_true.1 (pl_parts hpl).2.2.2.2.2 x hx
    unfold wiB at hw
    simp at hw
    unfold usB at hu
    try unfold inB at hu
    simp at hu
    unfold exB inB
    simp
    omega
end
section
set_option linter.unusedVariables false
open Go.RowKit

set_option maxHeartbeats 2000000 in
set_option maxRecDepth 100000 in
theorem cWhereNm (A : Option Addr) (n c : Nat) (ps : List Pl) (ga gb : Nat) (P : Pl → Bool) (w : World) (hb : n ≤ 1048576) (h : PlAt w w.heap.size A n ps)
    (hcl : ∀ p ∈ ps, ∀ A d W, Below w.heap.size w W → NmAt W W.heap.size A p.ns.length p.ns → p.ns.length ≤ d → Calls Tryz.prog 87 #[enA p A d, .pointer (some ⟨ga, 0, none⟩), .pointer (some ⟨gb, 0, none⟩)] W fun e w' => e = .returned (.bool (P p)) ∧ Below W.heap.size W w') :
    Calls Tryz.prog 72 #[.slice A n c, .func (.func 87) #[] #[.pointer (some ⟨ga, 0, none⟩), .pointer (some ⟨gb, 0, none⟩)]] w (RowT11 (cdZ P ps) w) := by
  obtain ⟨i0, hi0, hz0, hz1, hz2⟩ := info_parts info_strW
  have H := Lib.hid h
  have HN := Lib.hid h.1
  have HC := Lib.hid hcl
  have CE := Lib.hid (fun p A d W => cEntry p A d W)
  clear h hcl
  go_enter Tryz.func72, Tryz.ntmps72
  go_wp2_with fail
  go_loopw [5, 10] (fun o i wr => ∃ (k m d : Nat) (B : Option Addr), k ≤ n ∧ i = .int .i64 k ∧ o = .slice B m d ∧ Hid (m ≤ k) ∧ Hid (wr.ownsRow w.heap.size 9 1 (.slice B m d) m (strV (cdZ P (ps.take k)))) ∧ Below w.heap.size w wr) (fun _ i _ => n - (intOf i).toNat)
  case atStart => exact ⟨0, 0, 0, none, Nat.zero_le _, rfl, rfl, Lib.hid (Nat.le_refl _), Lib.hid (World.ownsRow_nil _ _ _ _), Below.refl _ _⟩
  case round =>
    obtain ⟨k, m, d, B, hk, rfl, rfl, HM, HO, hbw⟩ := hrel
    by_cases hlt : k < n
    · obtain ⟨p, hp⟩ : ∃ p, ps[k]? = some p := ⟨ps[k]'(by have := HN.out; omega), List.getElem?_eq_getElem _⟩
      obtain ⟨b, o, rfl, hbl, A1, d1, c0, c1, c2, c3, c4, hnm, hd⟩ := (H.out.below hbw (Nat.le_refl _)).row hp
      obtain ⟨W0, hW0⟩ : ∃ W0 : World, W0 = wr.alloc (.cells #[.string p.c, .int .i64 p.k, .int .i64 p.f, .int .i64 p.u, .slice A1 p.ns.length d1] 29) := ⟨_, rfl⟩
      have HB0 : Hid (Below wr.heap.size wr W0) := Lib.hid (by rw [hW0]; exact below_alloc11 _ _)
      have HX : Hid (Bx W0 wr.heap.size [.string p.c, .int .i64 p.k, .int .i64 p.f, .int .i64 p.u, .slice A1 p.ns.length d1]) := Lib.hid (by rw [hW0]; exact Bx.new wr _ _)
      have HW0 := Lib.hid hW0
      have CC := Lib.hid (fun W (hW : Below wr.heap.size wr W) => HC.out p (List.mem_of_getElem? hp) A1 d1 W (bstep9 hbw hbw.size hW) ((hnm.more hbw.size).grow hW) hd)
      have CX := Lib.hid (CE.out p A1 d1 W0)
      have HP := Lib.hid hp
      have HB := Lib.hid hbw
      have u1 : (0 : Int) ≤ (k : Int) := Int.natCast_nonneg _
      have u2 : (k : Int) < (n : Int) := by omega
      clear hp hnm hd hbw hW0
      go_wp2_with fail
      rw [← HW0.out]
      refine CX.out.mono ?_
      rintro e w1 ⟨rfl, g1⟩
      have hb1 := bstep9 HB0.out HB0.out.size g1
      have CC1 := Lib.hid (CC.out w1 hb1)
      cases hf : P p
      · rw [hf] at CC1
        have HST := Lib.hid (cdZ_no HP.out hf)
        clear hf
        go_wp2_with fail
        refine CC1.out.mono ?_
        rintro e w2 ⟨rfl, g2⟩
        have hb2 := bstep9 hb1 hb1.size g2
        have hbt := bstep9 HB.out HB.out.size hb2
        have HO2 : Hid (w2.ownsRow w.heap.size 9 1 (.slice B m d) m (strV (cdZ P (ps.take (k + 1))))) := Lib.hid (by rw [HST.out]; exact keptW HO.out hb2)
        clear g1 g2 hb1 hb2 c0 c1 c2 c3 c4
        go_wp2_with fail
        go_roundw
        case rel => exact ⟨k + 1, m, d, B, by omega, by go_num, rfl, Lib.hid (by have := HM.out; omega), HO2, hbt⟩
        case measure => simp [intOf]; omega
      · rw [hf] at CC1
        have HST := Lib.hid (cdZ_yes HP.out hf)
        clear hf
        go_wp2_with fail
        refine CC1.out.mono ?_
        rintro e w2 ⟨rfl, g2⟩
        have hb2 := bstep9 hb1 hb1.size g2
        have hbt := bstep9 HB.out HB.out.size hb2
        have hown := keptW HO.out hb2
        have hmk := HM.out
        have q0 := ((HX.out.next g1).next g2).five.1
        clear g1 g2 hb1 hb2 c0 c1 c2 c3 c4
        go_wp2_with (at_builtin; refine wpList_append_own _ rfl _ _ 38 rfl w.heap.size 9 i0 _ 1 16 Tryz.underlying38 hi0 hz0 hz1 hz2 rfl (by decide) _ _ _ rfl (hown.alloc _) ⟨w2.heap.size, 0, none⟩ 1 1 [.string p.c] rfl rfl ?d1 ?d2 ?d3 ?d4 ?d5 ?_)
        case d1 => exact one_cell' _ _ _ (new_one _ _ _)
        case d2 => intro u hu; simp at hu; subst hu; rfl
        case d3 => unfold maxLen; omega
        case d4 => omega
        case d5 => have := hbt.size; simp; omega
        intro v' w3 hown3 hgrow3 _
        rw [strV_snocW] at hown3
        have hb3 : Below w.heap.size w w3 := (hbt.alloc hbt.size _).grown hgrow3 (by have := hbt.size; simp; omega) (fun x hx => (hown.lt x hx).1)
        have HO3 : Hid (w3.ownsRow w.heap.size 9 1 v' (m + 1) (strV (cdZ P (ps.take (k + 1))))) := Lib.hid (by rw [HST.out]; exact hown3)
        obtain ⟨g', c', rfl, _, _⟩ := World.ownsRow.form HO3.out (by omega)
        clear hown3 hown hgrow3 q0
        go_wp2_with fail
        go_roundw
        case rel => exact ⟨k + 1, m + 1, c', some ⟨g', 0, none⟩, by omega, by go_num, rfl, Lib.hid (by omega), HO3, hb3⟩
        case measure => simp [intOf]; omega
    · have HF : Hid (wr.ownsRow w.heap.size 9 1 (.slice B m d) m (strV (cdZ P ps))) := Lib.hid (by have := HO.out; rwa [List.take_of_length_le (by have := HN.out; omega)] at this)
      go_wp2_with fail
      go_ret
      exact ⟨B, m, d, rfl, HF.out, hbw⟩
end
section
set_option linter.unusedVariables false
set_option linter.unusedSimpArgs false
open Go.RowKit Go.Extern.Stop Go.Stop Go.Extern

theorem as_nil (t : Value) (w : World) :
    Calls Tryz.prog 204 #[.nilIface, t] w fun e w' => e = .returned (.bool false) ∧ w' = w := by
  go_enter Tryz.func204, Tryz.ntmps204
  go_wp2
  go_ret
  exact ⟨rfl, rfl⟩

theorem as_valueP (t : Addr) (w : World) : (ReflectliteValue.unpack (.iface 211 (.pointer (some t)))).run Tryz.prog w
    = .ok (.agg #[.pointer (some ⟨12, 211, none⟩), .pointer (some ⟨w.heap.size, 0, none⟩), .int .u64 150]) (w.alloc (.cells #[.pointer (some t)] 211)) := by kernel_rfl
theorem as_typeP (a : Addr) (w : World) : (ReflectliteValue.methodAny (ReflectliteValue.valueError "reflectlite.Value.Type" 0) (fun t _ _ _ => ReflectliteType.toType t) #[.agg #[.pointer (some ⟨12, 211, none⟩), .pointer (some a), .int .u64 150]]).run Tryz.prog w
    = .ok (.iface 239 (.agg #[.pointer (some ⟨12, 211, none⟩)])) w := by kernel_rfl
theorem as_methodKind (h : Value) (w : World) : (Go.method 390 239 (.agg #[h]) "Kind").run Tryz.prog w = .ok (248, h) w := by kernel_rfl
theorem as_kindP (w : World) : ((ReflectliteType.abiMethod fun t => (fun a : Nat => Value.int IntKind.u8 (a : Int)) <$> Rtype.kind t) #[.pointer (some ⟨12, 211, none⟩)]).run Tryz.prog w = .ok (.int .u8 22) w := by kernel_rfl
theorem as_kindR (w : World) : ((ReflectliteType.abiMethod fun t => (fun a : Nat => Value.int IntKind.u8 (a : Int)) <$> Rtype.kind t) #[.pointer (some ⟨12, 209, none⟩)]).run Tryz.prog w = .ok (.int .u8 25) w := by kernel_rfl
theorem as_rlm (z : Sem Value) (f : TypeId → Addr → Nat → Nat → Sem Value) (v : Value) :
    ReflectliteValue.method z f #[v] = (do match ← ReflectliteValue.parts v with | none => z | some (t, a, fl) => f t a fl (fl % 32)) := rfl
theorem as_partsP (a : Addr) (w : World) : (ReflectliteValue.parts (.agg #[.pointer (some ⟨12, 211, none⟩), .pointer (some a), .int .u64 150])).run Tryz.prog w = .ok (some (211, a, 150)) w := by kernel_rfl
theorem as_isNil (a p : Addr) (W : World) (ha : W.cell? a = some (.pointer (some p))) :
    (ReflectliteValue.method (ReflectliteValue.valueError "reflectlite.Value.IsNil" 0) ReflectliteValue.isNil #[.agg #[.pointer (some ⟨12, 211, none⟩), .pointer (some a), .int .u64 150]]).run Tryz.prog W = .ok (.bool false) W := by
  rw [as_rlm]
  simp only [Sem.run_bind, as_partsP, Result.andThen]
  simp [ReflectliteValue.isNil, loadVar, isAgg, underlying, Tryz.underlying211, ha, Result.andThen]
theorem as_methodElem (h : Value) (w : World) : (Go.method 390 239 (.agg #[h]) "Elem").run Tryz.prog w = .ok (259, .agg #[h]) w := by kernel_rfl
theorem as_methodImplements (h : Value) (w : World) : (Go.method 390 239 (.agg #[h]) "Implements").run Tryz.prog w = .ok (260, .agg #[h]) w := by kernel_rfl
theorem as_methodAssignableTo (h : Value) (w : World) : (Go.method 390 239 (.agg #[h]) "AssignableTo").run Tryz.prog w = .ok (257, .agg #[h]) w := by kernel_rfl
theorem as_elemP (w : World) : (ReflectliteType.method ReflectliteType.elem #[.agg #[.pointer (some ⟨12, 211, none⟩)]]).run Tryz.prog w = .ok (.iface 239 (.agg #[.pointer (some ⟨12, 209, none⟩)])) w := by kernel_rfl
theorem as_implementsR (w : World) : (ReflectliteType.relation "Implements" ReflectliteType.implements_ #[.agg #[.pointer (some ⟨12, 209, none⟩)], .iface 239 (.agg #[.pointer (some ⟨12, 181, none⟩)])]).run Tryz.prog w = .ok (.bool true) w := by kernel_rfl
theorem as_typeOfR (v : Value) (w : World) : (ReflectliteType.typeOf #[.iface 209 v]).run Tryz.prog w = .ok (.iface 239 (.agg #[.pointer (some ⟨12, 209, none⟩)])) w := by kernel_rfl
theorem as_assignR (w : World) : (ReflectliteType.relation "AssignableTo" ReflectliteType.assignableTo #[.agg #[.pointer (some ⟨12, 209, none⟩)], .iface 239 (.agg #[.pointer (some ⟨12, 209, none⟩)])]).run Tryz.prog w = .ok (.bool true) w := by kernel_rfl
theorem as_valueR (c0 c1 : Value) (w : World) : (ReflectliteValue.unpack (.iface 209 (.agg #[c0, c1]))).run Tryz.prog w
    = .ok (.agg #[.pointer (some ⟨12, 209, none⟩), .pointer (some ⟨w.heap.size, 0, none⟩), .int .u64 153]) (w.alloc (.cells #[c0, c1] 209)) := by kernel_rfl
theorem as_elemOf (w : World) : (Rtype.elem? 211).run Tryz.prog w = .ok (some 209) w := by kernel_rfl
theorem as_mkR (p : Addr) (w : World) : (ReflectliteValue.mk 209 p ReflectliteValue.flagAddr).run Tryz.prog w = .ok (.agg #[.pointer (some ⟨12, 209, none⟩), .pointer (some p), .int .u64 409]) w := by kernel_rfl
theorem as_elemV (a p : Addr) (W : World) (ha : W.cell? a = some (.pointer (some p))) :
    (ReflectliteValue.method (ReflectliteValue.valueError "reflectlite.Value.Elem" 0) ReflectliteValue.elem #[.agg #[.pointer (some ⟨12, 211, none⟩), .pointer (some a), .int .u64 150]]).run Tryz.prog W
      = .ok (.agg #[.pointer (some ⟨12, 209, none⟩), .pointer (some p), .int .u64 409]) W := by
  rw [as_rlm]
  simp only [Sem.run_bind, as_partsP, Result.andThen]
  simp [ReflectliteValue.elem, loadVar, isAgg, underlying, Tryz.underlying211, ha, Result.andThen, as_elemOf, as_mkR]
theorem as_rls (v x : Value) : ReflectliteValue.set #[v, x] = (do
    let (some (dst, a, fl), some (src, b, _)) := (← ReflectliteValue.parts v, ← ReflectliteValue.parts x)
      | unsupported (.noEntry "extern/(internal/reflectlite.Value).Set.zeroValue")
    if fl / ReflectliteValue.flagAddr % 2 == 0 then unsupported (.noEntry "extern/(internal/reflectlite.Value).Set.unaddressable")
    let val ← loadVar src b
    if ← Rtype.directlyAssignable dst src then storeVar dst a val
    else if ← Rtype.implements dst src then
      if (← Rtype.kind src) == 20 then
        match val with
        | .nilIface => unsupported (.noEntry "extern/reflectlite: a nil value of one interface type handed on as a value of another")
        | _ => storeVar dst a val
      else storeVar dst a (.iface src val)
    else panicString ("reflectlite.Set: value of type " ++ (← Rtype.spelt src) ++ " is not assignable to type " ++ (← Rtype.spelt dst))
    pure (.tuple #[])) := rfl
theorem as_partsRa (a : Addr) (w : World) : (ReflectliteValue.parts (.agg #[.pointer (some ⟨12, 209, none⟩), .pointer (some a), .int .u64 409])).run Tryz.prog w = .ok (some (209, a, 409)) w := by kernel_rfl
theorem as_partsR (a : Addr) (w : World) : (ReflectliteValue.parts (.agg #[.pointer (some ⟨12, 209, none⟩), .pointer (some a), .int .u64 153])).run Tryz.prog w = .ok (some (209, a, 153)) w := by kernel_rfl
theorem as_direct (w : World) : (Rtype.directlyAssignable 209 209).run Tryz.prog w = .ok true w := by kernel_rfl
theorem as_size (w : World) : (sizeOf 209).run Tryz.prog w = .ok 2 w := by kernel_rfl
theorem as_agg (w : World) : (isAgg 209).run Tryz.prog w = .ok true w := by kernel_rfl
theorem as_load (b : Nat) (c0 c1 : Value) (W : World) (h0 : W.cell? ⟨b, 0, none⟩ = some c0) (h1 : W.cell? ⟨b, 1, none⟩ = some c1) : (loadVar 209 ⟨b, 0, none⟩).run Tryz.prog W = .ok (.agg #[c0, c1]) W := by
  simp [loadVar, as_agg, as_size, loadCells, loadCellsFrom, Addr.add, h0, h1, Result.andThen]
theorem as_store (b : Nat) (c0 c1 o0 o1 : Value) (W : World) (v0 : c0.oneCell' = true) (v1 : c1.oneCell' = true) (h0 : W.cell? ⟨b, 0, none⟩ = some o0) (h1 : W.cell? ⟨b, 1, none⟩ = some o1) (hf : ∀ k, W.frozen? ⟨b, k, none⟩ = false) :
    (storeVar 209 ⟨b, 0, none⟩ (.agg #[c0, c1])).run Tryz.prog W = .ok () ((W.setCell ⟨b, 0, none⟩ c0).setCell ⟨b, 1, none⟩ c1) := by
  have hs : (W.setCell ⟨b, 0, none⟩ c0).cell? ⟨b, 1, none⟩ = some o1 := (World.cell?_setCell_other _ _ _ _ (by simp)).trans h1
  simp [storeVar, as_size, Value.cells, storeCells, Addr.add, Result.andThen]
  rw [run_store Tryz.prog W ⟨b, 0, none⟩ _ _ v0]
  simp [h0, hf]
  rw [run_store Tryz.prog _ ⟨b, 1, none⟩ _ _ v1]
  simp [hs, hf]
theorem as_set (tb b : Nat) (c0 c1 o0 o1 : Value) (W : World) (v0 : c0.oneCell' = true) (v1 : c1.oneCell' = true) (hb0 : W.cell? ⟨b, 0, none⟩ = some c0) (hb1 : W.cell? ⟨b, 1, none⟩ = some c1) (h0 : W.cell? ⟨tb, 0, none⟩ = some o0) (h1 : W.cell? ⟨tb, 1, none⟩ = some o1) (hf : ∀ k, W.frozen? ⟨tb, k, none⟩ = false) :
    (ReflectliteValue.set #[.agg #[.pointer (some ⟨12, 209, none⟩), .pointer (some ⟨tb, 0, none⟩), .int .u64 409], .agg #[.pointer (some ⟨12, 209, none⟩), .pointer (some ⟨b, 0, none⟩), .int .u64 153]]).run Tryz.prog W
      = .ok (.tuple #[]) ((W.setCell ⟨tb, 0, none⟩ c0).setCell ⟨tb, 1, none⟩ c1) := by
  have hl := as_load b c0 c1 W hb0 hb1
  have hs := as_store tb c0 c1 o0 o1 W v0 v1 h0 h1 hf
  rw [as_rls]
  simp only [Sem.run_bind, as_partsRa, as_partsR, Result.andThen]
  simp [ReflectliteValue.flagAddr, hl, Result.andThen, as_direct, hs]

set_option maxHeartbeats 4000000 in
set_option maxRecDepth 100000 in
theorem as_hit (c0 c1 : Value) (tb : Nat) (o0 o1 : Value) (w : World) (v0 : c0.oneCell' = true) (v1 : c1.oneCell' = true) (hg : Et w) (ht0 : w.cell? ⟨tb, 0, none⟩ = some o0) (ht1 : w.cell? ⟨tb, 1, none⟩ = some o1) (hf0 : ∀ k, w.frozen? ⟨tb, k, none⟩ = false) :
    Calls Tryz.prog 204 #[.iface 209 (.agg #[c0, c1]), .iface 211 (.pointer (some ⟨tb, 0, none⟩))] w fun ev w' => ev = .returned (.bool true) ∧ w' = ((((((w.alloc (.cells #[.pointer (some ⟨tb, 0, none⟩)] 211)).alloc (.cells #[.pointer (some ⟨12, 211, none⟩), .pointer (some ⟨w.heap.size, 0, none⟩), .int .u64 150] 226)).alloc (.cells #[.pointer (some ⟨12, 211, none⟩), .pointer (some ⟨w.heap.size, 0, none⟩), .int .u64 150] 226)).alloc (.cells #[c0, c1] 209))).setCell ⟨tb, 0, none⟩ c0).setCell ⟨tb, 1, none⟩ c1 := by
  have hgt : 5 < w.heap.size := World.block_lt_of_cell? w _ hg
  have htl : tb < w.heap.size := World.block_lt_of_cell? w _ ht0
  unfold Et at hg
  have h6 := @run_callFunc_extern Tryz.prog 217 _ (fun args => ReflectliteValue.unpack (args.getD 0 (.tuple #[]))) Tryz.func217 (by kernel_rfl) (by kernel_rfl) (by kernel_rfl) (by kernel_rfl)
  have h7 := @run_callFunc_extern Tryz.prog 218 _ (ReflectliteValue.methodAny (ReflectliteValue.valueError "reflectlite.Value.Type" 0) (fun t _ _ _ => ReflectliteType.toType t)) Tryz.func218 (by kernel_rfl) (by kernel_rfl) (by kernel_rfl) (by kernel_rfl)
  have h8 := @run_callFunc_extern Tryz.prog 219 _ (ReflectliteValue.method (ReflectliteValue.valueError "reflectlite.Value.IsNil" 0) ReflectliteValue.isNil) Tryz.func219 (by kernel_rfl) (by kernel_rfl) (by kernel_rfl) (by kernel_rfl)
  have h27 := @run_callFunc_extern Tryz.prog 248 _ (ReflectliteType.abiMethod fun t => do pure (.int .u8 (← Rtype.kind t))) Tryz.func248 (by kernel_rfl) (by kernel_rfl) (by kernel_rfl) (by kernel_rfl)
  have h37 := @run_callFunc_extern Tryz.prog 259 _ (ReflectliteType.method ReflectliteType.elem) Tryz.func259 (by kernel_rfl) (by kernel_rfl) (by kernel_rfl) (by kernel_rfl)
  have h38 := @run_callFunc_extern Tryz.prog 260 _ (ReflectliteType.relation "Implements" ReflectliteType.implements_) Tryz.func260 (by kernel_rfl) (by kernel_rfl) (by kernel_rfl) (by kernel_rfl)
  have h10 := @run_callFunc_extern Tryz.prog 229 _ ReflectliteType.typeOf Tryz.func229 (by kernel_rfl) (by kernel_rfl) (by kernel_rfl) (by kernel_rfl)
  have h35 := @run_callFunc_extern Tryz.prog 257 _ (ReflectliteType.relation "AssignableTo" ReflectliteType.assignableTo) Tryz.func257 (by kernel_rfl) (by kernel_rfl) (by kernel_rfl) (by kernel_rfl)
  have h11 := @run_callFunc_extern Tryz.prog 230 _ (ReflectliteValue.method (ReflectliteValue.valueError "reflectlite.Value.Elem" 0) ReflectliteValue.elem) Tryz.func230 (by kernel_rfl) (by kernel_rfl) (by kernel_rfl) (by kernel_rfl)
  have h12 := @run_callFunc_extern Tryz.prog 231 _ ReflectliteValue.set Tryz.func231 (by kernel_rfl) (by kernel_rfl) (by kernel_rfl) (by kernel_rfl)
  have tO := as_typeOfR
  have mA := as_methodAssignableTo
  have a25 := as_assignR
  have v25 := as_valueR
  have f6 := as_valueP
  have f7 := as_typeP
  have mK := as_methodKind
  have mE := as_methodElem
  have mI := as_methodImplements
  have k27 := as_kindP
  have k25 := as_kindR
  have e27 := as_elemP
  have i25 := as_implementsR
  have n8 := as_isNil ⟨w.heap.size, 0, none⟩ ⟨tb, 0, none⟩ ((w.alloc (.cells #[.pointer (some ⟨tb, 0, none⟩)] 211)).alloc (.cells #[.pointer (some ⟨12, 211, none⟩), .pointer (some ⟨w.heap.size, 0, none⟩), .int .u64 150] 226)) (by simp)
  have hg2 : ((w.alloc (.cells #[.pointer (some ⟨tb, 0, none⟩)] 211)).alloc (.cells #[.pointer (some ⟨12, 211, none⟩), .pointer (some ⟨w.heap.size, 0, none⟩), .int .u64 150] 226)).cell? ⟨5, 0, none⟩ = some (.iface 239 (.agg #[.pointer (some ⟨12, 181, none⟩)])) := by
    rw [World.cell?_alloc_lt _ _ ⟨5, 0, none⟩ (by simp; omega), World.cell?_alloc_lt _ _ ⟨5, 0, none⟩ hgt]; exact hg
  have el := as_elemV ⟨w.heap.size, 0, none⟩ ⟨tb, 0, none⟩ (((w.alloc (.cells #[.pointer (some ⟨tb, 0, none⟩)] 211)).alloc (.cells #[.pointer (some ⟨12, 211, none⟩), .pointer (some ⟨w.heap.size, 0, none⟩), .int .u64 150] 226)).alloc (.cells #[.pointer (some ⟨12, 211, none⟩), .pointer (some ⟨w.heap.size, 0, none⟩), .int .u64 150] 226)) (by rw [World.cell?_alloc_lt _ _ ⟨w.heap.size, 0, none⟩ (by simp; omega)]; simp)
  have st := as_set tb (w.heap.size + 1 + 1 + 1) c0 c1 o0 o1 ((((w.alloc (.cells #[.pointer (some ⟨tb, 0, none⟩)] 211)).alloc (.cells #[.pointer (some ⟨12, 211, none⟩), .pointer (some ⟨w.heap.size, 0, none⟩), .int .u64 150] 226)).alloc (.cells #[.pointer (some ⟨12, 211, none⟩), .pointer (some ⟨w.heap.size, 0, none⟩), .int .u64 150] 226)).alloc (.cells #[c0, c1] 209)) v0 v1 (by rw [World.cell?_alloc_at _ _ _ _ (by simp)]; rfl) (by rw [World.cell?_alloc_at _ _ _ _ (by simp)]; rfl) (by rw [World.cell?_alloc_lt _ _ ⟨tb, 0, none⟩ (by simp; omega), World.cell?_alloc_lt _ _ ⟨tb, 0, none⟩ (by simp; omega), World.cell?_alloc_lt _ _ ⟨tb, 0, none⟩ (by simp; omega), World.cell?_alloc_lt _ _ ⟨tb, 0, none⟩ htl]; exact ht0) (by rw [World.cell?_alloc_lt _ _ ⟨tb, 1, none⟩ (by simp; omega), World.cell?_alloc_lt _ _ ⟨tb, 1, none⟩ (by simp; omega), World.cell?_alloc_lt _ _ ⟨tb, 1, none⟩ (by simp; omega), World.cell?_alloc_lt _ _ ⟨tb, 1, none⟩ htl]; exact ht1)
    (fun k => by rw [World.frozen?_alloc_old _ _ ⟨tb, k, none⟩ (by simp; omega), World.frozen?_alloc_old _ _ ⟨tb, k, none⟩ (by simp; omega), World.frozen?_alloc_old _ _ ⟨tb, k, none⟩ (by simp; omega), World.frozen?_alloc_old _ _ ⟨tb, k, none⟩ (Nat.ne_of_lt htl)]; exact hf0 k)
  go_enter Tryz.func204, Tryz.ntmps204
  go_wp2
  refine wp_loop_rounds 1 ?_
  rw [rounds_succ]
  go_wp2
  go_ret
  exact ⟨rfl, rfl⟩
end
end Go.Proofs.YtglmibmjbignbaaGreatDoor
