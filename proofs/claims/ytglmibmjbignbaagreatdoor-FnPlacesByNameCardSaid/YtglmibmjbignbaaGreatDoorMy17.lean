/-
  The contract of slices.Insert of one place into a row of places of one's own.
-/
import Derived.Test.YtglmibmjbignbaaGreatDoorMy16
import Derived.Shelf.Spec.SlicesInsert
import Derived.Lib.AppendZerosOnto
import Derived.Test.YtglmibmjbignbaaGreatDoorMy13
import Derived.Test.YtglmibmjbignbaaGreatDoorMy8
namespace Go.Proofs.YtglmibmjbignbaaGreatDoor
section
set_option linter.unusedVariables false
open Go.RowKit Go.Lib

/-- copy, at elements of any number of cells: all is read before anything is written. -/
theorem run_copy_wide {P : Program} (w : World) (dT sT ty elem : TypeId) (b o dLen dCap : Nat) (a : Addr) (sLen sCap z : Nat) (cs : List Value)
    (hu : P.underlying dT = some (.slice elem)) (hs : (P.info? elem).map (·.size) = some z) (hn : cs.length = Nat.min sLen dLen * z)
    (hsrc : ∀ j v, cs[j]? = some v → w.cell? (a.add j) = some v) (hc : ∀ j, j < cs.length → (w.cell? ⟨b, o + j, none⟩).isSome = true) (hf : ∀ j, j < cs.length → w.frozen? ⟨b, o + j, none⟩ = false) (h1 : ∀ v ∈ cs, v.oneCell' = true) :
    (Builtin.copy_ #[dT, sT] ty #[.slice (some ⟨b, o, none⟩) dLen dCap, .slice (some a) sLen sCap]).run P w = .ok (goInt (Nat.min sLen dLen)) (w.setCells b o cs) := by
  have hl := run_loadCells_list (P := P) w a cs hsrc
  have hst := run_storeCells_cells (P := P) b o cs 0 w (by simpa using hc) (by simpa using hf) h1
  cases hq : P.info? elem with
  | none => simp [hq] at hs
  | some i =>
    have hi : i.size = z := by simpa [hq] using hs
    have hn' : Nat.min sLen dLen * z = cs.length := hn.symm
    simp [Builtin.copy_, run_underlying hu, Builtin.lenOf, Builtin.firstCells, sizeOf, typeInfo, hq, hi, hn', hl, hst]

def InsPl (lo n : Nat) (xs : List Value) (w : World) (e : Ending) (w' : World) : Prop :=
  ∃ A c, e = .returned (.slice A (n + 1) c) ∧ w'.ownsRow lo 29 5 (.slice A (n + 1) c) (n + 1) xs ∧ Below lo w w'
theorem ins_end (es : List PE) (q : PE) (n : Nat) (h : es.length = n) : plV es ++ encE11 q = plV (es.take n ++ [q] ++ es.drop n) := by
  rw [List.take_of_length_le (by omega), List.drop_eq_nil_of_le (by omega), List.append_nil, plV_app, plV_one]
set_option maxHeartbeats 2000000 in
set_option maxRecDepth 100000 in
theorem cIns_end (lo n c vb : Nat) (A : Option Addr) (es : List PE) (q : PE) (w : World) (hb : n ≤ 1000) (hlo : lo ≤ w.heap.size) (h : w.ownsRow lo 29 5 (.slice A n c) n (plV es)) (hv : Bx w vb (encE11 q)) :
    Calls Tryz.prog 57 #[.slice A n c, .int .i64 (n : Int), .slice (some ⟨vb, 0, none⟩) 1 1] w (InsPl lo n (plV (es.take n ++ [q] ++ es.drop n)) w) := by
  obtain ⟨i0, hi0, hz0, hz1, hz2⟩ := info_parts info_pl
  have hes : es.length = n := by have := h.1; rw [plV_len] at this; omega
  rw [← ins_end es q n hes]
  have HV : Hid (∀ (j : Nat) u, (encE11 q)[j]? = some u → w.cell? ((⟨vb, 0, none⟩ : Addr).add j) = some u) := Lib.hid (fun j u hu => by rw [add_plain', Nat.zero_add]; exact (hv.2 j u hu).1)
  have HO : Hid (∀ u ∈ encE11 q, u.oneCell' = true) := Lib.hid (fun u hu => pl_one11 [q] u (by rw [plV_one]; exact hu))
  have HR := Lib.hid h
  have hcc : n ≤ c := (row_form5 h).elim fun A' ⟨c', e, h'⟩ => by injection e with e1 e2 e3; omega
  have hc2 : c ≤ 9223372036854775807 := by
    rcases h.2 with ⟨hv, _⟩ | ⟨g, cap, cur, hv, _, _, _, h4, _⟩
    · injection hv with _ _ e; omega
    · injection hv with _ _ e; unfold maxLen at h4; omega
  have hcase : (A = none ∧ n = 0) ∨ ∃ g, A = some ⟨g, 0, none⟩ := by
    rcases h.2 with ⟨hv, h0⟩ | ⟨g, cap, cur, hv, _⟩
    · injection hv with e1; exact .inl ⟨e1, h0⟩
    · injection hv with e1; exact .inr ⟨g, e1⟩
  have HBS : Hid (∀ k, (Value.slice A n c).ownBlock = some k → lo ≤ k) := Lib.hid (fun k hk => (h.lt k hk).1)
  clear h hv hes
  rcases hcase with ⟨rfl, rfl⟩ | ⟨g, rfl⟩
  all_goals
    go_enter Tryz.func57, Tryz.ntmps57
    go_wp2_with (at_builtin; (refine wpList_append_own _ rfl _ _ 24 rfl lo 29 i0 _ 5 64 Tryz.underlying24 hi0 hz0 hz1 hz2 rfl (by decide) _ _ _ rfl HR.out ⟨vb, 0, none⟩ 1 1 (encE11 q) rfl rfl HV.out HO.out (by unfold maxLen; omega) (by omega) hlo ?_))
  all_goals
    intro v' w1 hown1 hgrow1 _
    obtain ⟨C, c2, rfl, hc⟩ := row_form5 hown1
    have HO1 := Lib.hid hown1
    have hb1 : Below lo w w1 := (Below.refl lo w).grown hgrow1 hlo HBS.out
    clear hown1 hgrow1
    go_wp2_with fail
    go_ret
    exact ⟨C, c2, rfl, HO1.out, hb1⟩

def setL11 : List Value → Nat → List Value → List Value
  | xs, _, [] => xs
  | xs, o, v :: vs => setL11 (xs.set o v) (o + 1) vs
theorem setL11_len : ∀ (vs : List Value) (o : Nat) (xs : List Value), (setL11 xs o vs).length = xs.length
  | [], _, _ => rfl
  | v :: vs, o, xs => by unfold setL11; rw [setL11_len vs]; simp
theorem setL11_at : ∀ (vs : List Value) (o : Nat) (xs : List Value) (i : Nat), o + vs.length ≤ xs.length → (setL11 xs o vs)[i]? = if o ≤ i ∧ i < o + vs.length then vs[i - o]? else xs[i]?
  | [], o, xs, i, _ => by rw [if_neg (by simp only [List.length_nil]; omega)]; rfl
  | v :: vs, o, xs, i, h => by
    unfold setL11
    rw [setL11_at vs (o + 1) (xs.set o v) i (by simp at h ⊢; omega), List.getElem?_set]
    simp only [List.length_cons] at h ⊢
    by_cases h1 : o + 1 ≤ i ∧ i < o + 1 + vs.length
    · rw [if_pos h1, if_pos ⟨by omega, by omega⟩, show i - o = (i - (o + 1)) + 1 by omega, List.getElem?_cons_succ]
    · rw [if_neg h1]
      by_cases h2 : o = i
      · subst h2
        rw [if_pos rfl, if_pos (by omega), if_pos ⟨Nat.le_refl _, by omega⟩, Nat.sub_self]
        rfl
      · rw [if_neg h2, if_neg (by omega)]
theorem stored11 {base g n cap sz : Nat} {e : TypeId} : ∀ (vs : List Value) (o : Nat) (w : World) (xs : List Value), w.ownsRow base e sz (.slice (some ⟨g, 0, none⟩) n cap) n xs →
    (w.setCells g o vs).ownsRow base e sz (.slice (some ⟨g, 0, none⟩) n cap) n (setL11 xs o vs) ∧ w.grownBy (w.setCells g o vs) (some g)
  | [], o, w, xs, h => ⟨h, World.grownBy.refl _ _⟩
  | v :: vs, o, w, xs, h => by
    have h1 := h.stored o v
    have h2 := stored11 vs (o + 1) (w.setCell ⟨g, o, none⟩ v) (xs.set o v) h1.1
    exact ⟨h2.1, h1.2.trans h2.2⟩
/-- Room for one more. -/
theorem widen11 {w : World} {base g n cap : Nat} {e : TypeId} {xs : List Value} (h : w.ownsRow base e 5 (.slice (some ⟨g, 0, none⟩) n cap) n xs) (hc : n + 1 ≤ cap) :
    ∃ us, us.length = 5 ∧ w.ownsRow base e 5 (.slice (some ⟨g, 0, none⟩) (n + 1) cap) (n + 1) (xs ++ us) := by
  rcases h.2 with ⟨hv, _⟩ | ⟨g', cap', cur, hv, h1, h2, h3, h4, h5, h6⟩
  · cases hv
  · cases hv
    refine ⟨(cur.toList.drop (n * 5)).take 5, ?_, ?_, .inr ⟨g, cap, cur, rfl, h1, h2, hc, h4, h5, ?_⟩⟩
    · rw [List.length_take, List.length_drop, Array.length_toList, h5]; omega
    · rw [List.length_append, h.1, List.length_take, List.length_drop, Array.length_toList, h5]; omega
    · rw [← h6, show (n + 1) * 5 = n * 5 + 5 by omega, List.take_add]
theorem ins_cells (es : List PE) (q : PE) (us : List Value) (n i : Nat) (hn : es.length = n) (hi : i < n) (hu : us.length = 5) :
    setL11 (setL11 (plV es ++ us) ((i + 1) * 5) (plV (es.drop i))) (i * 5) (encE11 q) = plV (es.take i ++ [q] ++ es.drop i) := by
  have hl := plV_len es
  have hld := plV_len (es.drop i)
  rw [List.length_drop] at hld
  have hlt := plV_len (es.take i)
  rw [List.length_take] at hlt
  have hq : (encE11 q).length = 5 := rfl
  apply List.ext_getElem?
  intro j
  rw [plV_app, plV_app, plV_one, setL11_at _ _ _ _ (by rw [setL11_len, List.length_append, hl, hq, hu]; omega), setL11_at _ _ _ _ (by rw [List.length_append, hl, hld, hu]; omega), hq]
  by_cases h1 : i * 5 ≤ j ∧ j < i * 5 + 5
  · rw [if_pos h1, List.append_assoc, List.getElem?_append_right (by omega), List.getElem?_append_left (by omega)]
    congr 1; omega
  · rw [if_neg h1]
    by_cases h2 : (i + 1) * 5 ≤ j ∧ j < (i + 1) * 5 + (plV (es.drop i)).length
    · rw [if_pos h2, List.getElem?_append_right (by rw [List.length_append]; omega)]
      congr 1; rw [List.length_append]; omega
    · rw [if_neg h2]
      by_cases h3 : j < i * 5
      · rw [List.append_assoc, List.getElem?_append_left (by omega), List.getElem?_append_left (by omega)]
        have : plV es = plV (es.take i) ++ plV (es.drop i) := by rw [← plV_app, List.take_append_drop]
        rw [this, List.getElem?_append_left (by omega)]
      · rw [List.getElem?_eq_none (by rw [List.length_append]; omega), List.getElem?_eq_none (by rw [List.length_append, List.length_append]; omega)]
theorem drew_setCells11 (b : Nat) : ∀ (vs : List Value) (o : Nat) (w : World), (w.setCells b o vs).drew = w.drew.setCells b o vs
  | [], _, _ => rfl
  | v :: r, o, w => by rw [World.setCells, World.setCells, drew_setCells11 b r]; rfl
set_option maxHeartbeats 4000000 in
set_option maxRecDepth 100000 in
theorem cIns_room (lo n c i vb g : Nat) (es : List PE) (q : PE) (w : World) (hb : n ≤ 1000) (hi : i < n) (hroom : n + 1 ≤ c) (h : w.ownsRow lo 29 5 (.slice (some ⟨g, 0, none⟩) n c) n (plV es)) (hv : Bx w vb (encE11 q))
    (hsv : w.heap[vb]? = some (.cells (encE11 q).toArray 29 (0, 0))) (hne : vb ≠ g) :
    Calls Tryz.prog 57 #[.slice (some ⟨g, 0, none⟩) n c, .int .i64 (i : Int), .slice (some ⟨vb, 0, none⟩) 1 1] w (InsPl lo n (plV (es.take i ++ [q] ++ es.drop i)) w) := by
  have hes : es.length = n := by have := h.1; rw [plV_len] at this; omega
  have hc63 : c ≤ 9223372036854775807 := by
    rcases h.2 with ⟨hv, _⟩ | ⟨g, cap, cur, hv, _, _, _, h4, _⟩
    · injection hv with e; cases e
    · injection hv with _ _ e; unfold maxLen at h4; omega
  obtain ⟨us, hus, hw⟩ := widen11 h hroom
  have hdl : (plV (es.drop i)).length = (n - i) * 5 := by rw [plV_len, List.length_drop, hes]
  have hsz : (Tryz.prog.info? 29).map (·.size) = some 5 := by kernel_rfl
  have hcell : ∀ k, k < (n + 1) * 5 → (w.cell? ⟨g, k, none⟩).isSome = true := fun k hk => by rw [hw.cellAt k hk, List.getElem?_eq_getElem (by rw [hw.1]; exact hk)]; rfl
  have hfroz : ∀ k, w.frozen? ⟨g, k, none⟩ = false := fun k => hw.frozenAt k
  have hcs : ∀ (j : Nat) u, (plV (es.drop i))[j]? = some u → w.cell? ⟨g, i * 5 + j, none⟩ = some u := fun j u hu => by
    have hj := (List.getElem?_eq_some_iff.1 hu).1
    refine (h.cellAt (i * 5 + j) (by omega)).trans ?_
    have : plV es = plV (es.take i) ++ plV (es.drop i) := by rw [← plV_app, List.take_append_drop]
    rw [this, List.getElem?_append_right (by rw [plV_len, List.length_take]; omega), ← hu]
    congr 1
    rw [plV_len, List.length_take]; omega
  obtain ⟨W1, hW1⟩ : ∃ W1, W1 = w.drew.setCells g ((i + 1) * 5) (plV (es.drop i)) := ⟨_, rfl⟩
  have r1 := stored11 (plV (es.drop i)) ((i + 1) * 5) w.drew _ (show w.drew.ownsRow _ _ _ _ _ _ from hw)
  rw [← hW1] at r1
  have r2 := stored11 (encE11 q) (i * 5) W1 _ r1.1
  rw [ins_cells es q us n i hes hi hus] at r2
  have hcp1 : ∀ ty dc sc, (Builtin.copy_ #[24, 24] ty #[.slice (some ⟨g, (i + 1) * 5, none⟩) (n - i) dc, .slice (some ⟨g, i * 5, none⟩) (n + 1 - i) sc]).run Tryz.prog w.drew = .ok (goInt ((n - i : Nat) : Int)) W1 := fun ty dc sc => by
    have hm : Nat.min (n + 1 - i) (n - i) = n - i := by simp only [Nat.min_def]; split <;> omega
    have := run_copy_wide (P := Tryz.prog) w.drew 24 24 ty 29 g ((i + 1) * 5) (n - i) dc ⟨g, i * 5, none⟩ (n + 1 - i) sc 5 (plV (es.drop i)) Tryz.underlying24 hsz (by rw [hdl, hm])
      (fun j u hu => by rw [add_plain']; exact hcs j u hu) (fun j hj => hcell _ (by omega)) (fun j _ => hfroz _) (fun u hu => pl_one11 _ u hu)
    rw [hm, ← hW1] at this
    exact this
  have hcp2 : ∀ (W : World), (∀ x, W.cell? x = W1.cell? x) → (∀ x, W.frozen? x = W1.frozen? x) → ∀ ty dc, (Builtin.copy_ #[24, 24] ty #[.slice (some ⟨g, i * 5, none⟩) (n + 1 - i) dc, .slice (some ⟨vb, 0, none⟩) 1 1]).run Tryz.prog W = .ok (goInt 1) (W.setCells g (i * 5) (encE11 q)) := fun W hWc hWf ty dc => by
    have hm : Nat.min 1 (n + 1 - i) = 1 := by simp only [Nat.min_def]; split <;> omega
    have := run_copy_wide (P := Tryz.prog) W 24 24 ty 29 g (i * 5) (n + 1 - i) dc ⟨vb, 0, none⟩ 1 1 5 (encE11 q) Tryz.underlying24 hsz (by rw [hm]; rfl)
      (fun j u hu => by
        rw [add_plain', Nat.zero_add, hWc, hW1, World.cell?_setCells_out g _ _ _ _ (fun h _ => absurd h hne)]
        exact (hv.2 j u hu).1)
      (fun j hj => by
        rw [hWc, r1.1.cellAt _ (by rw [show (encE11 q).length = 5 from rfl] at hj; omega), List.getElem?_eq_getElem (by rw [r1.1.1]; rw [show (encE11 q).length = 5 from rfl] at hj; omega)]; rfl)
      (fun j _ => by rw [hWf]; exact r1.1.frozenAt _) (fun u hu => pl_one11 [q] u (by rw [plV_one]; exact hu))
    rw [hm] at this
    exact this
  have hov : ∀ lb cb, (callFunc 121 #[.slice (some ⟨vb, 0, none⟩) 1 1, .slice (some ⟨g, (i + 1) * 5, none⟩) lb cb]).run Tryz.prog w = .ok (.value (.bool false)) w := fun lb cb => by
    obtain ⟨cur, hg, hcur⟩ : ∃ cur, w.heap[g]? = some (.cells cur 29 (0, 0)) ∧ cur.size = c * 5 := by
      rcases h.2 with ⟨hv, _⟩ | ⟨g', cap', cur, hv, h1, h2, h3, h4, h5, h6⟩
      · cases hv
      · cases hv; exact ⟨cur, h2, h5⟩
    rw [run_callFunc_extern Tryz.func121 (by kernel_rfl) (by kernel_rfl) (by kernel_rfl) (e := Extern.SlicesOverlaps.overlaps #[24, 24] #[4]) (by kernel_rfl),
      Lib.run_overlaps_apart w 24 4 29 Tryz.underlying24 5 Tryz.sizeOf29 ⟨vb, 0, none⟩ ⟨g, (i + 1) * 5, none⟩ 1 1 lb cb hne 29 29 5 cur.size (by simp [World.shape?, hsv]; rfl) (by simp [World.shape?, hg]) (by omega) (hv.2 0 _ rfl).2 (by unfold World.frozen?; simp [hsv])]
    rfl
  have HR2 := Lib.hid r2.1
  have HB2 : Hid (Below lo w (W1.setCells g (i * 5) (encE11 q))) := Lib.hid (by
    have hg0 : lo ≤ g := (h.lt g rfl).1
    have b1 : w.grownBy (W1.setCells g (i * 5) (encE11 q)) (some g) := (show w.grownBy w.drew (some g) from ⟨rfl, rfl, rfl, Nat.le_refl _, fun _ _ _ => rfl⟩).trans (r1.2.trans r2.2)
    exact ⟨b1.os, b1.tape, b1.output, b1.size, fun k hk => b1.block k (by have := (h.lt g rfl).2; omega) (by intro e; injection e with e; omega)⟩)
  have HCP2 := Lib.hid (hcp2 W1 (fun _ => rfl) (fun _ => rfl))
  obtain ⟨Z, hZ⟩ : ∃ Z, Z = plV (es.take i ++ [q] ++ es.drop i) := ⟨_, rfl⟩
  rw [← hZ] at HR2 ⊢
  subst hW1
  have hz2 : ¬ ((i : Int) = (n : Int)) := by omega
  have hw1 : IntKind.i64.wrap ((i : Int) + 1) = (i : Int) + 1 := by rw [IntKind.wrap_i64]; omega
  have hb1 : (0 : Int) ≤ (i : Int) + 1 := by omega
  have hin : i ≤ n := by omega
  have htn : ((i : Int) + 1).toNat = i + 1 := by omega
  have hb2 : ¬ (c = i + 1) := by omega
  have hb3 : (i : Int) ≤ (n : Int) + 1 := by omega
  have hb4 : ¬ (c = i) := by omega
  have hc2 := HCP2.out
  clear HCP2 r1 r2 hcp2 hcell hfroz hcs hw hdl hsv h hv hes hZ
  go_enter Tryz.func57, Tryz.ntmps57
  go_wp2_with (simp only [hov])
  go_region_law (refine step_copy_runI rfl _ _ 24 24 rfl _ _ (by simp [Act.eval, Act.put]) (by simp [Act.eval, Act.put]) (hcp1 _ _ _) ?_)
  go_wp2_with fail
  go_ret
  exact ⟨_, _, rfl, HR2.out, HB2.out⟩
end
section
set_option linter.unusedVariables false
open Go.RowKit Go.Lib

theorem drew_alloc11 (w : World) (o : Obj) : (w.alloc o).drew = w.drew.alloc o := rfl
theorem cell_drew11 (w : World) (x : Addr) : w.drew.cell? x = w.cell? x := rfl
theorem froz_drew11 (w : World) (x : Addr) : w.drew.frozen? x = w.frozen? x := rfl
theorem zero_wide (k : Nat) : (Builtin.zeroCells (Value.agg #[Value.string ByteArray.empty, .int .i64 0, .int .i64 0, .int .i64 0, .slice none 0 0]).cells k).size = k * 5 := by
  unfold Builtin.zeroCells; simp [Value.cells]
theorem ins_cells2 (es : List PE) (q : PE) (L : List Value) (n i : Nat) (hn : es.length = n) (hi : i < n) (hL : L.length = (n + 1) * 5) (hp : L.take (i * 5) = plV (es.take i)) :
    setL11 (setL11 L (i * 5) (encE11 q)) ((i + 1) * 5) (plV (es.drop i)) = plV (es.take i ++ [q] ++ es.drop i) := by
  have hld := plV_len (es.drop i)
  rw [List.length_drop] at hld
  have hlt := plV_len (es.take i)
  rw [List.length_take] at hlt
  have hq : (encE11 q).length = 5 := rfl
  apply List.ext_getElem?
  intro j
  rw [plV_app, plV_app, plV_one, setL11_at _ _ _ _ (by rw [setL11_len]; omega), setL11_at _ _ _ _ (by rw [hq]; omega), hq]
  by_cases h2 : (i + 1) * 5 ≤ j ∧ j < (i + 1) * 5 + (plV (es.drop i)).length
  · rw [if_pos h2, List.getElem?_append_right (by rw [List.length_append]; omega)]
    congr 1; rw [List.length_append]; omega
  · rw [if_neg h2]
    by_cases h1 : i * 5 ≤ j ∧ j < i * 5 + 5
    · rw [if_pos h1, List.append_assoc, List.getElem?_append_right (by omega), List.getElem?_append_left (by omega)]
      congr 1; omega
    · rw [if_neg h1]
      by_cases h3 : j < i * 5
      · rw [List.append_assoc, List.getElem?_append_left (by omega), ← hp, List.getElem?_take, if_pos h3]
      · rw [List.getElem?_eq_none (by omega), List.getElem?_eq_none (by rw [List.length_append, List.length_append]; omega)]
set_option maxHeartbeats 4000000 in
set_option maxRecDepth 100000 in
theorem cIns_grow (lo n i vb g : Nat) (es : List PE) (q : PE) (w : World) (hb : n ≤ 1000) (hi : i < n) (hlo : lo ≤ w.heap.size) (h : w.ownsRow lo 29 5 (.slice (some ⟨g, 0, none⟩) n n) n (plV es)) (hv : Bx w vb (encE11 q)) :
    Calls Tryz.prog 57 #[.slice (some ⟨g, 0, none⟩) n n, .int .i64 (i : Int), .slice (some ⟨vb, 0, none⟩) 1 1] w (InsPl lo n (plV (es.take i ++ [q] ++ es.drop i)) w) := by
  obtain ⟨i0, hi0, hz0, hz1, hz2⟩ := info_parts info_pl
  have hes : es.length = n := by have := h.1; rw [plV_len] at this; omega
  have hsz : (Tryz.prog.info? 29).map (·.size) = some 5 := by kernel_rfl
  have hgl := (h.lt g rfl).2
  have hvl := hv.1
  have hdl : (plV (es.drop i)).length = (n - i) * 5 := by rw [plV_len, List.length_drop, hes]
  have htl : (plV (es.take i)).length = i * 5 := by rw [plV_len, List.length_take]; omega
  have hsplit : plV es = plV (es.take i) ++ plV (es.drop i) := by rw [← plV_app, List.take_append_drop]
  have hold : (Builtin.firstCells i0.size i (.slice (some ⟨g, 0, none⟩) i n)).run Tryz.prog w.drew = .ok (plV (es.take i)).toArray w.drew := by
    rw [hz1]
    exact run_firstCells_some w.drew 5 i ⟨g, 0, none⟩ i n _ htl (fun j u hu => by
      have hj := (List.getElem?_eq_some_iff.1 hu).1
      rw [add_plain', Nat.zero_add]
      refine (h.cellAt j (by omega)).trans ?_
      rw [hsplit, List.getElem?_append_left (by omega)]; exact hu)
  obtain ⟨k, hk⟩ : ∃ k, k = n + 1 - i := ⟨_, rfl⟩
  have hkk : (n : Int) + 1 - (i : Int) = (k : Int) := by omega
  have hik : i + k = n + 1 := by omega
  have hrz : ∀ ty, (Builtin.append_ #[24, 3] ty #[.slice (some ⟨g, 0, none⟩) i n, .int .i64 ((n : Int) + 1 - (i : Int))]).run Tryz.prog w =
      .ok (.slice (some ⟨w.heap.size, 0, none⟩) (n + 1) (grownCap w (n + 1) n 29)) (w.drew.alloc (.cells ((plV (es.take i)).toArray ++ Builtin.zeroCells (Value.agg #[Value.string ByteArray.empty, .int .i64 0, .int .i64 0, .int .i64 0, .slice none 0 0]).cells k ++ Builtin.zeroCells (Value.agg #[Value.string ByteArray.empty, .int .i64 0, .int .i64 0, .int .i64 0, .slice none 0 0]).cells (grownCap w (n + 1) n 29 - (n + 1))) 29)) := fun ty => by
    have h := Lib.run_append_grow_zeros w 24 3 ty 29 i0 _ .i64 .i64 Tryz.underlying24 Tryz.underlying3 hi0 hz0 (some ⟨g, 0, none⟩) i n (plV (es.take i)) hold k (by omega) (by omega) (by omega) (by omega) (by rw [hz2]; omega) (by rw [hz2, hik]; exact growslice_fits (by omega) (by omega))
    rw [hik] at h
    rw [hkk]
    exact h
  obtain ⟨G, hG⟩ : ∃ G, G = grownCap w (n + 1) n 29 := ⟨_, rfl⟩
  have hGn : n + 1 ≤ G := by rw [hG]; exact grownCap_ge w _ _ _
  have hGm : G ≤ maxLen := by rw [hG]; exact grownCap_le_maxLen w _ _ _ (by unfold maxLen; omega)
  rw [← hG] at hrz
  obtain ⟨ROW, hROW⟩ : ∃ ROW : Array Value, ROW = (plV (es.take i)).toArray ++ Builtin.zeroCells (Value.agg #[Value.string ByteArray.empty, .int .i64 0, .int .i64 0, .int .i64 0, .slice none 0 0]).cells k ++ Builtin.zeroCells (Value.agg #[Value.string ByteArray.empty, .int .i64 0, .int .i64 0, .int .i64 0, .slice none 0 0]).cells (G - (n + 1)) := ⟨_, rfl⟩
  rw [← hROW] at hrz
  have hRs : ROW.size = G * 5 := by
    rw [hROW, Array.size_append, Array.size_append, zero_wide, zero_wide, List.size_toArray, htl]; omega
  have hRt : ROW.toList.take (i * 5) = plV (es.take i) := by
    rw [hROW, Array.toList_append, Array.toList_append, List.append_assoc]
    show ((plV (es.take i)) ++ _).take (i * 5) = _
    rw [← htl, List.take_left']; rfl
  obtain ⟨W1, hW1⟩ : ∃ W1, W1 = (w.alloc (.cells ROW 29)).drew := ⟨_, rfl⟩
  have o1 : W1.ownsRow lo 29 5 (.slice (some ⟨w.heap.size, 0, none⟩) (n + 1) G) (n + 1) (ROW.toList.take ((n + 1) * 5)) := by
    refine ⟨by rw [List.length_take, Array.length_toList, hRs]; omega, .inr ⟨w.heap.size, G, ROW, rfl, hlo, ?_, hGn, hGm, hRs, rfl⟩⟩
    rw [hW1]; exact heap_alloc_new w _
  have r1 := stored11 (encE11 q) (i * 5) W1 _ o1
  have r2 := stored11 (plV (es.drop i)) ((i + 1) * 5) _ _ (World.ownsRow.drew r1.1)
  rw [ins_cells2 es q _ n i hes hi (by rw [List.length_take, Array.length_toList, hRs]; omega) (by rw [List.take_take, Nat.min_eq_left (by omega)]; exact hRt)] at r2
  have hbW : Below lo w W1 := by rw [hW1]; exact ((Below.refl lo w).alloc hlo _).drew
  have hcpA : ∀ (W : World), (∀ x, W.cell? x = W1.cell? x) → (∀ x, W.frozen? x = W1.frozen? x) → ∀ ty dc, (Builtin.copy_ #[24, 24] ty #[.slice (some ⟨w.heap.size, i * 5, none⟩) (n + 1 - i) dc, .slice (some ⟨vb, 0, none⟩) 1 1]).run Tryz.prog W = .ok (goInt 1) (W.setCells w.heap.size (i * 5) (encE11 q)) := fun W hWc hWf ty dc => by
    have hm : Nat.min 1 (n + 1 - i) = 1 := by simp only [Nat.min_def]; split <;> omega
    have := run_copy_wide (P := Tryz.prog) W 24 24 ty 29 w.heap.size (i * 5) (n + 1 - i) dc ⟨vb, 0, none⟩ 1 1 5 (encE11 q) Tryz.underlying24 hsz (by rw [hm]; rfl)
      (fun j u hu => by
        rw [add_plain', Nat.zero_add, hWc, hW1, cell_drew11, World.cell?_alloc_lt _ _ _ (by exact hvl)]
        exact (hv.2 j u hu).1)
      (fun j hj => by
        rw [hWc, o1.cellAt _ (by rw [show (encE11 q).length = 5 from rfl] at hj; omega), List.getElem?_eq_getElem (by rw [o1.1]; rw [show (encE11 q).length = 5 from rfl] at hj; omega)]; rfl)
      (fun j _ => by rw [hWf]; exact o1.frozenAt _) (fun u hu => pl_one11 [q] u (by rw [plV_one]; exact hu))
    rw [hm] at this
    exact this
  have hcpB : ∀ (W : World), (∀ x, W.cell? x = (W1.setCells w.heap.size (i * 5) (encE11 q)).cell? x) → (∀ x, W.frozen? x = (W1.setCells w.heap.size (i * 5) (encE11 q)).frozen? x) → ∀ ty dc sc, (Builtin.copy_ #[24, 24] ty #[.slice (some ⟨w.heap.size, (i + 1) * 5, none⟩) (n - i) dc, .slice (some ⟨g, i * 5, none⟩) (n - i) sc]).run Tryz.prog W = .ok (goInt ((n - i : Nat) : Int)) (W.setCells w.heap.size ((i + 1) * 5) (plV (es.drop i))) := fun W hWc hWf ty dc sc => by
    have hm : Nat.min (n - i) (n - i) = n - i := Nat.min_self _
    have := run_copy_wide (P := Tryz.prog) W 24 24 ty 29 w.heap.size ((i + 1) * 5) (n - i) dc ⟨g, i * 5, none⟩ (n - i) sc 5 (plV (es.drop i)) Tryz.underlying24 hsz (by rw [hdl, hm])
      (fun j u hu => by
        have hj := (List.getElem?_eq_some_iff.1 hu).1
        rw [add_plain', hWc, World.cell?_setCells_out w.heap.size _ _ _ _ (fun h _ => absurd h (by show g ≠ w.heap.size; omega)), hW1, cell_drew11, World.cell?_alloc_lt _ _ _ (by exact hgl)]
        refine (h.cellAt (i * 5 + j) (by omega)).trans ?_
        rw [hsplit, List.getElem?_append_right (by omega), ← hu]
        congr 1; omega)
      (fun j hj => by
        rw [hWc, r1.1.cellAt _ (by omega), List.getElem?_eq_getElem (by rw [r1.1.1]; omega)]; rfl)
      (fun j _ => by rw [hWf]; exact r1.1.frozenAt _) (fun u hu => pl_one11 _ u hu)
    rw [hm] at this
    exact this
  subst hW1
  have HR2 := Lib.hid r2.1
  have HB2 : Hid (Below lo w ((((w.alloc (.cells ROW 29)).drew.setCells w.heap.size (i * 5) (encE11 q)).drew).setCells w.heap.size ((i + 1) * 5) (plV (es.drop i)))) := Lib.hid (((hbW.grown r1.2 (by simp; omega) (fun k hk => by cases hk; exact hlo)).drew).grown r2.2 (by have := r1.2.size; simp at this ⊢; omega) (fun k hk => by cases hk; exact hlo))
  obtain ⟨Z, hZ⟩ : ∃ Z, Z = plV (es.take i ++ [q] ++ es.drop i) := ⟨_, rfl⟩
  rw [← hZ] at HR2 ⊢
  have hG63 : G ≤ 9223372036854775807 := by unfold maxLen at hGm; omega
  have hGi : ¬ (G = i) := by omega
  have hGim : ¬ (G = i + 1) := by omega
  have hci : ¬ (n = i) := by omega
  have hz2' : ¬ ((i : Int) = (n : Int)) := by omega
  have hw1 : IntKind.i64.wrap ((i : Int) + 1) = (i : Int) + 1 := by rw [IntKind.wrap_i64]; omega
  have hb1 : (0 : Int) ≤ (i : Int) + 1 := by omega
  have hin : i ≤ n := by omega
  have htn : ((i : Int) + 1).toNat = i + 1 := by omega
  have hb3 : (i : Int) ≤ (n : Int) := by omega
  have hA := hcpA _ (fun _ => rfl) (fun _ => rfl)
  have hB := hcpB (((w.alloc (.cells ROW 29)).drew.setCells w.heap.size (i * 5) (encE11 q)).drew) (fun x => cell_drew11 _ x) (fun x => froz_drew11 _ x)
  clear hcpA hcpB hkk hik hold hROW hG hk hRs hRt r1 r2 o1 hbW hsplit htl hdl h hv hZ hGm hgl hvl
  go_enter Tryz.func57, Tryz.ntmps57
  go_wp2_with (first
    | (at_builtin; refine Lib.wpList_append_run _ rfl _ _ _ _ rfl _ _ rfl rfl _ _ (hrz _) ?_)
    | (at_builtin; refine wpList_copy_runI _ rfl _ _ 24 24 rfl _ _ rfl rfl (hA _ _) ?_))
  go_region_law (refine step_copy_runI rfl _ _ 24 24 rfl (.slice (some ⟨w.heap.size, (i + 1) * 5, none⟩) (n - i) (G - (i + 1))) (.slice (some ⟨g, i * 5, none⟩) (n - i) (n - i)) (by simp [Act.eval, Act.put]) (by simp [Act.eval, Act.put]) (hB 3 (G - (i + 1)) (n - i)) ?_)
  go_wp2
  go_ret
  exact ⟨_, G, rfl, HR2.out, HB2.out⟩
/-- All roads. -/
theorem cInsPl (lo n c i vb : Nat) (A : Option Addr) (es : List PE) (q : PE) (w : World) (hb : n ≤ 1000) (hi : i ≤ n) (hlo : lo ≤ w.heap.size) (h : w.ownsRow lo 29 5 (.slice A n c) n (plV es)) (hv : Bx w vb (encE11 q))
    (hsv : w.heap[vb]? = some (.cells (encE11 q).toArray 29 (0, 0))) (hne : (Value.slice A n c).ownBlock ≠ some vb) :
    Calls Tryz.prog 57 #[.slice A n c, .int .i64 (i : Int), .slice (some ⟨vb, 0, none⟩) 1 1] w (InsPl lo n (plV (es.take i ++ [q] ++ es.drop i)) w) := by
  by_cases he : i = n
  · subst he; exact cIns_end lo i c vb A es q w hb hlo h hv
  · obtain ⟨g, cc, hvv, _, _⟩ := World.ownsRow.form h (by omega)
    obtain ⟨rfl, rfl⟩ : A = some ⟨g, 0, none⟩ ∧ c = cc := by injection hvv with h1 h2 h3; exact ⟨h1, h3⟩
    obtain ⟨_, _, e, hcn⟩ := row_form5 h
    injection e with _ _ e
    subst e
    by_cases hr : n + 1 ≤ c
    · exact cIns_room lo n c i vb g es q w hb (by omega) hr h hv hsv (fun e => hne (by rw [e]; rfl))
    · obtain rfl : c = n := by omega
      exact cIns_grow lo c i vb g es q w hb (by omega) hlo h hv
end
section
set_option linter.unusedVariables false
open Go.RowKit

end
end Go.Proofs.YtglmibmjbignbaaGreatDoor
