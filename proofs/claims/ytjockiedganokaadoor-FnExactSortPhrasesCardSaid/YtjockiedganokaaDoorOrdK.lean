/-
  The order of two keys: impl.orderWithout's closure.
-/
import Derived.Test.YtjockiedganokaaDoorLeftK
import Derived.Deep.RegionWith
namespace Go.Proofs.YtjockiedganokaaDoor
set_option linter.unusedVariables false
open Go.RowKit Go.Shelf

/-- Block gF holds the closure that leaves letters out; it is bound to the array in block gI. -/
def FnAt (w : World) (gF gI : Nat) : Prop := gF < w.heap.size ∧ w.cell? ⟨gF, 0, none⟩ = some (.func (.func 73) #[] #[.pointer (some ⟨gI, 0, none⟩)])
theorem FnAt.below {w w' : World} {gF gI : Nat} (h : FnAt w gF gI) (hb : Below w.heap.size w w') : FnAt w' gF gI :=
  ⟨Nat.lt_of_lt_of_le h.1 hb.size, (hb.cell (p := ⟨gF, 0, none⟩) h.1).trans h.2⟩
theorem HasK.num {w : World} {v : Value} {k : List Int} (h : HasK w v k) : ∃ A c, v = .slice A k.length c ∧ NumAt w w.heap.size A k.length k := by
  obtain ⟨b, c, rfl, h2, h3⟩ := h
  exact ⟨_, _, rfl, rfl, fun _ => ⟨b, 0, rfl, h2, fun j x hx => by rw [Nat.zero_add]; exact h3 j x hx⟩⟩
theorem cCmpH (v v' : Value) (k k' : List Int) (w : World) (hn : k.length ≤ 1000) (hn' : k'.length ≤ 1000) (h : HasK w v k) (h' : HasK w v' k') :
    Calls Tryd.prog 79 #[v, v'] w fun e w' => e = .returned (.int .i64 (cmpL k k')) ∧ w = w' := by
  obtain ⟨A, c, rfl, h1⟩ := h.num
  obtain ⟨A', c', rfl, h2⟩ := h'.num
  exact cCmpK A A' _ _ c c' _ _ k k' w hn hn' h1 h2
theorem left_len (ig k : List Int) : (leftK ig k).length ≤ k.length := List.length_filter_le _ _

set_option maxHeartbeats 4000000 in
set_option maxRecDepth 100000 in
theorem cOrdK (ig : List Int) (gF gI : Nat) (v v' : Value) (k k' : List Int) (w : World) (hp : 0 < k.length) (hp' : 0 < k'.length) (hl : k.length ≤ 136) (hl' : k'.length ≤ 136) (hk : ∀ x ∈ k, 0 ≤ x ∧ x < 50) (hk' : ∀ x ∈ k', 0 ≤ x ∧ x < 50)
    (hv : HasK w v k) (hv' : HasK w v' k') (hF : FnAt w gF gI) (hI : IgAt w gI ig) :
    Calls Tryd.prog 77 #[v, v', .pointer (some ⟨gF, 0, none⟩)] w fun e w' => e = .returned (.int .i64 (ordK ig k k')) ∧ Gr w w' := by
  have CL : Hid (∀ W, Gr w W → Calls Tryd.prog 73 #[v, .pointer (some ⟨gI, 0, none⟩)] W fun e W' => ∃ u, e = .returned u ∧ HasK W' u (leftK ig k) ∧ Gr W W') := Lib.hid (fun W hW => cLeft ig gI v k W hp hl hk (hv.gr hW) (hI.below hW.below))
  have CL' : Hid (∀ W, Gr w W → Calls Tryd.prog 73 #[v', .pointer (some ⟨gI, 0, none⟩)] W fun e W' => ∃ u, e = .returned u ∧ HasK W' u (leftK ig k') ∧ Gr W W') := Lib.hid (fun W hW => cLeft ig gI v' k' W hp' hl' hk' (hv'.gr hW) (hI.below hW.below))
  have CC : Hid (∀ W, Gr w W → Calls Tryd.prog 79 #[v, v'] W fun e W' => e = .returned (.int .i64 (cmpL k k')) ∧ W = W') := Lib.hid (fun W hW => cCmpH v v' k k' W (by omega) (by omega) (hv.gr hW) (hv'.gr hW))
  have CM : Hid (∀ W u u', HasK W u (leftK ig k) → HasK W u' (leftK ig k') → Calls Tryd.prog 79 #[u, u'] W fun e W' => e = .returned (.int .i64 (cmpL (leftK ig k) (leftK ig k'))) ∧ W = W') := Lib.hid (fun W u u' hu hu' => cCmpH u u' _ _ W (by have := left_len ig k; omega) (by have := left_len ig k'; omega) hu hu')
  have HFA : Hid (∀ W, Gr w W → W.cell? ⟨gF, 0, none⟩ = some (.func (.func 73) #[] #[.pointer (some ⟨gI, 0, none⟩)])) := Lib.hid (fun W hW => (hF.below hW.below).2)
  have h0 := hF.2
  clear hF hI hv hv' hk hk'
  go_enter Tryd.func77, Tryd.ntmps77
  go_wp2_with fail
  go_region_with (first
    | (go_at_call_of 73 v; refine (CL.out _ ?hg).mono ?_; (case hg => first | assumption | exact Gr.refl _ | exact (Gr.refl _).drew); rintro e wa ⟨ua, rfl, hua, hga⟩; have hgA : Gr w wa := (by first | exact Gr.trans (by assumption) hga | exact hga | exact (Gr.refl w).drew.trans hga); have hFa := HFA.out wa hgA)
    | (go_at_call_of 73 v'; refine (CL'.out _ ?hg).mono ?_; (case hg => first | assumption | exact Gr.refl _ | exact (Gr.refl _).drew); rintro e wb ⟨ub, rfl, hub, hgb⟩; have hgB : Gr w wb := (by first | exact Gr.trans (by assumption) hgb | exact hgb | exact (Gr.refl w).drew.trans hgb); have hFb := HFA.out wb hgB)
    | (go_at_call_of 79 v; refine (CC.out _ ?hg).mono ?_; (case hg => first | assumption | exact Gr.refl _ | exact (Gr.refl _).drew); rintro e w' ⟨rfl, rfl⟩)
    | (go_at_call 79; refine (CM.out _ _ _ ?hg1 ?hg2).mono ?_; (case hg1 => first | assumption | exact HasK.gr (by assumption) (by assumption)); (case hg2 => first | assumption | exact HasK.gr (by assumption) (by assumption)); rintro e w' ⟨rfl, rfl⟩)
    | (go_at_call 78; refine (cOr _ (cmpL (leftK ig k) (leftK ig k')) (cmpL k k') _ ?c0 ?c1).mono ?_; (case c0 => rw [World.cell?_alloc_at _ _ _ _ rfl]; rfl); (case c1 => rw [World.cell?_alloc_at _ _ _ _ rfl]; rfl); rintro e w' ⟨rfl, rfl⟩))
  all_goals
    go_wp2_with fail
    go_ret
    exact ⟨rfl, Gr.alloc (by assumption) _⟩
end Go.Proofs.YtjockiedganokaaDoor
