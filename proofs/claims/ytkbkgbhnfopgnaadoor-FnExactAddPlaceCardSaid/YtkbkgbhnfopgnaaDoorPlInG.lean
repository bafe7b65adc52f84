/-
  The contract of slices.Insert of one place into a row of places of one's own, where there is no room; all roads in one.
-/
import Derived.Test.YtkbkgbhnfopgnaaDoorPlIns
namespace Go.Proofs.YtkbkgbhnfopgnaaDoor
set_option linter.unusedVariables false
open Go.RowKit Go.Lib

theorem drew_alloc11 (w : World) (o : Obj) : (w.alloc o).drew = w.drew.alloc o := rfl
theorem cell_drew11 (w : World) (x : Addr) : w.drew.cell? x = w.cell? x := rfl
theorem froz_drew11 (w : World) (x : Addr) : w.drew.frozen? x = w.frozen? x := rfl
theorem zero_wide (k : Nat) : (Builtin.zeroCells (Value.agg #[Value.string ByteArray.empty, .int .i64 0, .int .i64 0, .int .i64 0, .slice none 0 0]).cells k).size = k * 5 := by
  unfold Builtin.zeroCells; simp [Value.cells]
theorem ins_cells2 (es : List PE) (q : PE) (L : List Value) (n i : Nat) (hn : es.length = n) (hi : i < n) (hL : L.length = (n + 1) * 5) (hp : L.take (i * 5) = plV (es.take i)) :
    setL11 (setL11 L (i * 5) (encE11 q)) ((i + 1) * 5) (plV (es.drop i)) = plV (es.take i ++ [q] ++ es.drop i) := by
  have hld := plV_len (es.drop i)
  rw [List.length_drop] at hld
  have hlt := plV_len (es.take i)
  rw [List.length_take] at hlt
  have hq : (encE11 q).length = 5 := rfl
  apply List.ext_getElem?
  intro j
  rw [plV_app, plV_app, plV_one, setL11_at _ _ _ _ (by rw [setL11_len]; omega), setL11_at _ _ _ _ (by rw [hq]; omega), hq]
  by_cases h2 : (i + 1) * 5 ≤ j ∧ j < (i + 1) * 5 + (plV (es.drop i)).length
  · rw [if_pos h2, List.getElem?_append_right (by rw [List.length_append]; omega)]
    congr 1; rw [List.length_append]; omega
  · rw [if_neg h2]
    by_cases h1 : i * 5 ≤ j ∧ j < i * 5 + 5
    · rw [if_pos h1, List.append_assoc, List.getElem?_append_right (by omega), List.getElem?_append_left (by omega)]
      congr 1; omega
    · rw [if_neg h1]
      by_cases h3 : j < i * 5
      · rw [List.append_assoc, List.getElem?_append_left (by omega), ← hp, List.getElem?_take, if_pos h3]
      · rw [List.getElem?_eq_none (by omega), List.getElem?_eq_none (by rw [List.length_append, List.length_append]; omega)]
set_option maxHeartbeats 4000000 in
set_option maxRecDepth 100000 in
theorem cIns_grow (lo n i vb g : Nat) (es : List PE) (q : PE) (w : World) (hb : n ≤ 1000) (hi : i < n) (hlo : lo ≤ w.heap.size) (h : w.ownsRow lo 32 5 (.slice (some ⟨g, 0, none⟩) n n) n (plV es)) (hv : Bx w vb (encE11 q)) :
    Calls Tryd.prog 58 #[.slice (some ⟨g, 0, none⟩) n n, .int .i64 (i : Int), .slice (some ⟨vb, 0, none⟩) 1 1] w (InsPl lo n (plV (es.take i ++ [q] ++ es.drop i)) w) := by
  obtain ⟨i0, hi0, hz0, hz1, hz2⟩ := info_parts info_pl
  have hes : es.length = n := by have := h.1; rw [plV_len] at this; omega
  have hsz : (Tryd.prog.info? 32).map (·.size) = some 5 := by kernel_rfl
  have hgl := (h.lt g rfl).2
  have hvl := hv.1
  have hdl : (plV (es.drop i)).length = (n - i) * 5 := by rw [plV_len, List.length_drop, hes]
  have htl : (plV (es.take i)).length = i * 5 := by rw [plV_len, List.length_take]; omega
  have hsplit : plV es = plV (es.take i) ++ plV (es.drop i) := by rw [← plV_app, List.take_append_drop]
  have hold : (Builtin.firstCells i0.size i (.slice (some ⟨g, 0, none⟩) i n)).run Tryd.prog w.drew = .ok (plV (es.take i)).toArray w.drew := by
    rw [hz1]
    exact run_firstCells_some w.drew 5 i ⟨g, 0, none⟩ i n _ htl (fun j u hu => by
      have hj := (List.getElem?_eq_some_iff.1 hu).1
      rw [add_plain', Nat.zero_add]
      refine (h.cellAt j (by omega)).trans ?_
      rw [hsplit, List.getElem?_append_left (by omega)]; exact hu)
  obtain ⟨k, hk⟩ : ∃ k, k = n + 1 - i := ⟨_, rfl⟩
  have hkk : (n : Int) + 1 - (i : Int) = (k : Int) := by omega
  have hik : i + k = n + 1 := by omega
  have hrz : ∀ ty, (Builtin.append_ #[39, 3] ty #[.slice (some ⟨g, 0, none⟩) i n, .int .i64 ((n : Int) + 1 - (i : Int))]).run Tryd.prog w =
      .ok (.slice (some ⟨w.heap.size, 0, none⟩) (n + 1) (grownCap w (n + 1) n 32)) (w.drew.alloc (.cells ((plV (es.take i)).toArray ++ Builtin.zeroCells (Value.agg #[Value.string ByteArray.empty, .int .i64 0, .int .i64 0, .int .i64 0, .slice none 0 0]).cells k ++ Builtin.zeroCells (Value.agg #[Value.string ByteArray.empty, .int .i64 0, .int .i64 0, .int .i64 0, .slice none 0 0]).cells (grownCap w (n + 1) n 32 - (n + 1))) 32)) := fun ty => by
    have h := Lib.run_append_grow_zeros w 39 3 ty 32 i0 _ .i64 .i64 Tryd.underlying39 Tryd.underlying3 hi0 hz0 (some ⟨g, 0, none⟩) i n (plV (es.take i)) hold k (by omega) (by omega) (by omega) (by omega) (by rw [hz2]; omega) (by rw [hz2, hik]; exact growslice_fits (by omega) (by omega))
    rw [hik] at h
    rw [hkk]
    exact h
  obtain ⟨G, hG⟩ : ∃ G, G = grownCap w (n + 1) n 32 := ⟨_, rfl⟩
  have hGn : n + 1 ≤ G := by rw [hG]; exact grownCap_ge w _ _ _
  have hGm : G ≤ maxLen := by rw [hG]; exact grownCap_le_maxLen w _ _ _ (by unfold maxLen; omega)
  rw [← hG] at hrz
  obtain ⟨ROW, hROW⟩ : ∃ ROW : Array Value, ROW = (plV (es.take i)).toArray ++ Builtin.zeroCells (Value.agg #[Value.string ByteArray.empty, .int .i64 0, .int .i64 0, .int .i64 0, .slice none 0 0]).cells k ++ Builtin.zeroCells (Value.agg #[Value.string ByteArray.empty, .int .i64 0, .int .i64 0, .int .i64 0, .slice none 0 0]).cells (G - (n + 1)) := ⟨_, rfl⟩
  rw [← hROW] at hrz
  have hRs : ROW.size = G * 5 := by
    rw [hROW, Array.size_append, Array.size_append, zero_wide, zero_wide, List.size_toArray, htl]; omega
  have hRt : ROW.toList.take (i * 5) = plV (es.take i) := by
    rw [hROW, Array.toList_append, Array.toList_append, List.append_assoc]
    show ((plV (es.take i)) ++ _).take (i * 5) = _
    rw [← htl, List.take_left']; rfl
  obtain ⟨W1, hW1⟩ : ∃ W1, W1 = (w.alloc (.cells ROW 32)).drew := ⟨_, rfl⟩
  have o1 : W1.ownsRow lo 32 5 (.slice (some ⟨w.heap.size, 0, none⟩) (n + 1) G) (n + 1) (ROW.toList.take ((n + 1) * 5)) := by
    refine ⟨by rw [List.length_take, Array.length_toList, hRs]; omega, .inr ⟨w.heap.size, G, ROW, rfl, hlo, ?_, hGn, hGm, hRs, rfl⟩⟩
    rw [hW1]; exact heap_alloc_new w _
  have r1 := stored11 (encE11 q) (i * 5) W1 _ o1
  have r2 := stored11 (plV (es.drop i)) ((i + 1) * 5) _ _ (World.ownsRow.drew r1.1)
  rw [ins_cells2 es q _ n i hes hi (by rw [List.length_take, Array.length_toList, hRs]; omega) (by rw [List.take_take, Nat.min_eq_left (by omega)]; exact hRt)] at r2
  have hbW : Below lo w W1 := by rw [hW1]; exact ((Below.refl lo w).alloc hlo _).drew
  have hcpA : ∀ (W : World), (∀ x, W.cell? x = W1.cell? x) → (∀ x, W.frozen? x = W1.frozen? x) → ∀ ty dc, (Builtin.copy_ #[39, 39] ty #[.slice (some ⟨w.heap.size, i * 5, none⟩) (n + 1 - i) dc, .slice (some ⟨vb, 0, none⟩) 1 1]).run Tryd.prog W = .ok (goInt 1) (W.setCells w.heap.size (i * 5) (encE11 q)) := fun W hWc hWf ty dc => by
    have hm : Nat.min 1 (n + 1 - i) = 1 := by simp only [Nat.min_def]; split <;> omega
    have := run_copy_wide (P := Tryd.prog) W 39 39 ty 32 w.heap.size (i * 5) (n + 1 - i) dc ⟨vb, 0, none⟩ 1 1 5 (encE11 q) Tryd.underlying39 hsz (by rw [hm]; rfl)
      (fun j u hu => by
        rw [add_plain', Nat.zero_add, hWc, hW1, cell_drew11, World.cell?_alloc_lt _ _ _ (by exact hvl)]
        exact (hv.2 j u hu).1)
      (fun j hj => by
        rw [hWc, o1.cellAt _ (by rw [show (encE11 q).length = 5 from rfl] at hj; omega), List.getElem?_eq_getElem (by rw [o1.1]; rw [show (encE11 q).length = 5 from rfl] at hj; omega)]; rfl)
      (fun j _ => by rw [hWf]; exact o1.frozenAt _) (fun u hu => pl_one11 [q] u (by rw [plV_one]; exact hu))
    rw [hm] at this
    exact this
  have hcpB : ∀ (W : World), (∀ x, W.cell? x = (W1.setCells w.heap.size (i * 5) (encE11 q)).cell? x) → (∀ x, W.frozen? x = (W1.setCells w.heap.size (i * 5) (encE11 q)).frozen? x) → ∀ ty dc sc, (Builtin.copy_ #[39, 39] ty #[.slice (some ⟨w.heap.size, (i + 1) * 5, none⟩) (n - i) dc, .slice (some ⟨g, i * 5, none⟩) (n - i) sc]).run Tryd.prog W = .ok (goInt ((n - i : Nat) : Int)) (W.setCells w.heap.size ((i + 1) * 5) (plV (es.drop i))) := fun W hWc hWf ty dc sc => by
    have hm : Nat.min (n - i) (n - i) = n - i := Nat.min_self _
    have := run_copy_wide (P := Tryd.prog) W 39 39 ty 32 w.heap.size ((i + 1) * 5) (n - i) dc ⟨g, i * 5, none⟩ (n - i) sc 5 (plV (es.drop i)) Tryd.underlying39 hsz (by rw [hdl, hm])
      (fun j u hu => by
        have hj := (List.getElem?_eq_some_iff.1 hu).1
        rw [add_plain', hWc, World.cell?_setCells_out w.heap.size _ _ _ _ (fun h _ => absurd h (by show g ≠ w.heap.size; omega)), hW1, cell_drew11, World.cell?_alloc_lt _ _ _ (by exact hgl)]
        refine (h.cellAt (i * 5 + j) (by omega)).trans ?_
        rw [hsplit, List.getElem?_append_right (by omega), ← hu]
        congr 1; omega)
      (fun j hj => by
        rw [hWc, r1.1.cellAt _ (by omega), List.getElem?_eq_getElem (by rw [r1.1.1]; omega)]; rfl)
      (fun j _ => by rw [hWf]; exact r1.1.frozenAt _) (fun u hu => pl_one11 _ u hu)
    rw [hm] at this
    exact this
  subst hW1
  have HR2 := Lib.hid r2.1
  have HB2 : Hid (Below lo w ((((w.alloc (.cells ROW 32)).drew.setCells w.heap.size (i * 5) (encE11 q)).drew).setCells w.heap.size ((i + 1) * 5) (plV (es.drop i)))) := Lib.hid (((hbW.grown r1.2 (by simp; omega) (fun k hk => by cases hk; exact hlo)).drew).grown r2.2 (by have := r1.2.size; simp at this ⊢; omega) (fun k hk => by cases hk; exact hlo))
  obtain ⟨Z, hZ⟩ : ∃ Z, Z = plV (es.take i ++ [q] ++ es.drop i) := ⟨_, rfl⟩
  rw [← hZ] at HR2 ⊢
  have hG63 : G ≤ 9223372036854775807 := by unfold maxLen at hGm; omega
  have hGi : ¬ (G = i) := by omega
  have hGim : ¬ (G = i + 1) := by omega
  have hci : ¬ (n = i) := by omega
  have hz2' : ¬ ((i : Int) = (n : Int)) := by omega
  have hw1 : IntKind.i64.wrap ((i : Int) + 1) = (i : Int) + 1 := by rw [IntKind.wrap_i64]; omega
  have hb1 : (0 : Int) ≤ (i : Int) + 1 := by omega
  have hin : i ≤ n := by omega
  have htn : ((i : Int) + 1).toNat = i + 1 := by omega
  have hb3 : (i : Int) ≤ (n : Int) := by omega
  have hA := hcpA _ (fun _ => rfl) (fun _ => rfl)
  have hB := hcpB (((w.alloc (.cells ROW 32)).drew.setCells w.heap.size (i * 5) (encE11 q)).drew) (fun x => cell_drew11 _ x) (fun x => froz_drew11 _ x)
  clear hcpA hcpB hkk hik hold hROW hG hk hRs hRt r1 r2 o1 hbW hsplit htl hdl h hv hZ hGm hgl hvl
  go_enter Tryd.func58, Tryd.ntmps58
  go_wp2_with (first
    | (at_builtin; refine Lib.wpList_append_run _ rfl _ _ _ _ rfl _ _ rfl rfl _ _ (hrz _) ?_)
    | (at_builtin; refine wpList_copy_runI _ rfl _ _ 39 39 rfl _ _ rfl rfl (hA _ _) ?_))
  go_region_law (refine step_copy_runI rfl _ _ 39 39 rfl (.slice (some ⟨w.heap.size, (i + 1) * 5, none⟩) (n - i) (G - (i + 1))) (.slice (some ⟨g, i * 5, none⟩) (n - i) (n - i)) (by simp [Act.eval, Act.put]) (by simp [Act.eval, Act.put]) (hB 3 (G - (i + 1)) (n - i)) ?_)
  go_wp2
  go_ret
  exact ⟨_, G, rfl, HR2.out, HB2.out⟩
/-- All roads. -/
theorem cInsPl (lo n c i vb : Nat) (A : Option Addr) (es : List PE) (q : PE) (w : World) (hb : n ≤ 1000) (hi : i ≤ n) (hlo : lo ≤ w.heap.size) (h : w.ownsRow lo 32 5 (.slice A n c) n (plV es)) (hv : Bx w vb (encE11 q))
    (hsv : w.heap[vb]? = some (.cells (encE11 q).toArray 32 (0, 0))) (hne : (Value.slice A n c).ownBlock ≠ some vb) :
    Calls Tryd.prog 58 #[.slice A n c, .int .i64 (i : Int), .slice (some ⟨vb, 0, none⟩) 1 1] w (InsPl lo n (plV (es.take i ++ [q] ++ es.drop i)) w) := by
  by_cases he : i = n
  · subst he; exact cIns_end lo i c vb A es q w hb hlo h hv
  · obtain ⟨g, cc, hvv, _, _⟩ := World.ownsRow.form h (by omega)
    obtain ⟨rfl, rfl⟩ : A = some ⟨g, 0, none⟩ ∧ c = cc := by injection hvv with h1 h2 h3; exact ⟨h1, h3⟩
    obtain ⟨_, _, e, hcn⟩ := row_form5 h
    injection e with _ _ e
    subst e
    by_cases hr : n + 1 ≤ c
    · exact cIns_room lo n c i vb g es q w hb (by omega) hr h hv hsv (fun e => hne (by rw [e]; rfl))
    · obtain rfl : c = n := by omega
      exact cIns_grow lo c i vb g es q w hb (by omega) hlo h hv
end Go.Proofs.YtkbkgbhnfopgnaaDoor
