/-
  The closures of impl.orderWithout: what is left of a key, and the order of two keys.
-/
import Derived.Test.YtjockiedganokaaDoorCloneK
import Derived.Test.YtjockiedganokaaDoorKeyTexts
namespace Go.Proofs.YtjockiedganokaaDoor
set_option linter.unusedVariables false
open Go.RowKit Go.Shelf

/-- The array of the letters that are ignored, in block gI. -/
def IgAt (w : World) (gI : Nat) (ig : List Int) : Prop := gI < w.heap.size ∧ ∀ j : Nat, j < 50 → w.cell? ⟨gI, j, none⟩ = some (.bool (ignB ig j))
theorem IgAt.below {w w' : World} {gI : Nat} {ig : List Int} (h : IgAt w gI ig) (hb : Below w.heap.size w w') : IgAt w' gI ig :=
  ⟨Nat.lt_of_lt_of_le h.1 hb.size, fun j hj => (hb.cell (p := ⟨gI, j, none⟩) h.1).trans (h.2 j hj)⟩
theorem IgAt.other {w w' : World} {gI : Nat} {ig : List Int} (h : IgAt w gI ig) (hs : w.heap.size ≤ w'.heap.size) (hb : w'.heap[gI]? = w.heap[gI]?) : IgAt w' gI ig :=
  ⟨Nat.lt_of_lt_of_le h.1 hs, fun j hj => (cell_blk hb j).trans (h.2 j hj)⟩
/-- Numbers of keys. -/
abbrev KN := { n : Int // 0 ≤ n ∧ n < 50 }
instance : Inhabited KN := ⟨⟨0, by omega, by omega⟩⟩
def encN (x : KN) : Value := .int .i64 x.1
def toKN (n : Int) : KN := if h : 0 ≤ n ∧ n < 50 then ⟨n, h⟩ else default
theorem toKN_val (n : Int) (h : 0 ≤ n ∧ n < 50) : (toKN n).1 = n := by unfold toKN; rw [dif_pos h]
theorem cPredK (ig : List Int) (gI : Nat) (x : Int) (h0 : 0 ≤ x) (h1 : x < 50) (w : World) (h : IgAt w gI ig) :
    Calls Tryd.prog 76 #[.int .i64 x, .pointer (some ⟨gI, 0, none⟩)] w fun e w' => e = .returned (.bool (ignB ig x)) ∧ w = w' := by
  obtain ⟨j, rfl⟩ : ∃ j : Nat, x = (j : Int) := ⟨x.toNat, by omega⟩
  have hc := h.2 j (by omega)
  clear h
  generalize ignB ig (j : Int) = r at hc ⊢
  go_enter Tryd.func76, Tryd.ntmps76
  go_wp2
  go_ret
  exact ⟨rfl, rfl⟩
theorem filter_kn (ig k : List Int) (hk : ∀ x ∈ k, 0 ≤ x ∧ x < 50) : ((k.map toKN).filter fun x => !ignB ig x.1).map (fun x => x.1) = leftK ig k := by
  unfold leftK
  induction k with
  | nil => rfl
  | cons a k ih =>
    have ha := toKN_val a (hk a (by simp))
    have ih' := ih (fun x hx => hk x (by simp [hx]))
    rw [List.map_cons]
    cases hi : ignB ig a
    · rw [List.filter_cons_of_pos (by rw [ha, hi]; rfl), List.filter_cons_of_pos (by rw [hi]; rfl), List.map_cons, ih', ha]
    · rw [List.filter_cons_of_neg (by rw [ha, hi]; decide), List.filter_cons_of_neg (by rw [hi]; decide), ih']
theorem gr_putRow {w w1 : World} (h : Gr w w1) {α : Type} [Inhabited α] (enc : α → Value) (blk q : Nat) (d : Array α) (hb : w.heap.size ≤ blk) : Gr w (Sort.putRow enc (Sort.ahead w1 q) blk 0 d) := by
  obtain ⟨q0, os, rfl⟩ := h
  obtain ⟨os', _, he⟩ := Sort.putRow_grow_new enc (w.drewN (q0 + q)) os blk 0 d hb
  refine ⟨q0 + q, os', ?_⟩
  rw [← he]
  have : Sort.ahead (Sort.grow (w.drewN q0) os) q = Sort.grow (w.drewN (q0 + q)) os := by
    unfold Sort.ahead Sort.grow World.drewN
    simp [Nat.add_assoc]
  rw [this]
/-- The slice v holds the numbers k from place 0 of its block on. -/
def HasK (w : World) (v : Value) (k : List Int) : Prop := ∃ b c, v = .slice (some ⟨b, 0, none⟩) k.length c ∧ b < w.heap.size ∧ ∀ (j : Nat) x, k[j]? = some x → w.cell? ⟨b, j, none⟩ = some (.int .i64 x)
theorem HasK.gr {w w' : World} {v : Value} {k : List Int} (h : HasK w v k) (hg : Gr w w') : HasK w' v k := by
  obtain ⟨b, c, h1, h2, h3⟩ := h
  exact ⟨b, c, h1, Nat.lt_of_lt_of_le h2 hg.size, fun j x hx => (hg.below.cell (p := ⟨b, j, none⟩) h2).trans (h3 j x hx)⟩
theorem KeyAt.has {w : World} {g : Nat} {v : Value} {k : List Int} (h : KeyAt w g v k) : HasK w v k := by
  obtain ⟨b, c, h1, _, h3, _, _, h6⟩ := h
  exact ⟨b, c, h1, h3, h6⟩

set_option maxHeartbeats 2000000 in
/-- What is left of a key. -/
theorem cLeft (ig : List Int) (gI : Nat) (v : Value) (k : List Int) (w : World) (hpos : 0 < k.length) (hlen : k.length ≤ 136) (hk : ∀ x ∈ k, 0 ≤ x ∧ x < 50) (hv : HasK w v k) (hI : IgAt w gI ig) :
    Calls Tryd.prog 73 #[v, .pointer (some ⟨gI, 0, none⟩)] w fun e w' => ∃ v', e = .returned v' ∧ HasK w' v' (leftK ig k) ∧ Gr w w' := by
  obtain ⟨b, c, rfl, hb, hc⟩ := hv
  have CC := Lib.hid (cCloneK b k.length c k w rfl hpos (by omega) hb hc)
  have HI := Lib.hid hI
  have HK := Lib.hid hk
  obtain ⟨n, hn⟩ : ∃ n, n = k.length := ⟨_, rfl⟩
  rw [← hn] at CC hpos hlen ⊢
  have HN := Lib.hid hn
  clear hc hI hk hn
  go_enter Tryd.func73, Tryd.ntmps73
  go_wp2_with fail
  refine CC.out.mono ?_
  rintro e w1 ⟨v, rfl, hown, hgr⟩
  obtain ⟨g, cap, rfl, hg1, hg2⟩ := World.ownsRow.form hown hpos
  have hI1 := HI.out.below hgr.below
  have hgI : gI ≠ g := by have := HI.out.1; omega
  have hcap : n ≤ cap := by
    rcases hown.2 with ⟨he, _⟩ | ⟨g', cap', cur, hv, h3, h4, h5, h6, h7, h8⟩
    · cases he
    · injection hv with e1 e2 e3; omega
  -- the row as an array of numbers of keys
  have hd : ((k.map toKN).toArray).size = n := by rw [HN.out]; simp
  have hget : ∀ j, j < n → ∃ x, k[j]? = some x ∧ ((k.map toKN).toArray)[j]! = toKN x ∧ 0 ≤ x ∧ x < 50 := fun j hj => by
    have hjk : j < k.length := by rw [← HN.out]; exact hj
    refine ⟨k[j], List.getElem?_eq_getElem hjk, ?_, HK.out _ (List.getElem_mem hjk)⟩
    rw [getElem!_pos _ j (by rw [hd]; exact hj)]
    simp
  have hH : Sort.Holds encN w1 g 0 (k.map toKN).toArray := fun j hj => by
    rw [hd] at hj
    obtain ⟨x, hx, hx2, hx3⟩ := hget j hj
    rw [hx2, Nat.zero_add]
    refine ⟨?_, hown.frozenAt j⟩
    rw [hown.cellAt j (by omega), intV_at k j x hx]
    unfold encN; rw [toKN_val x hx3]
  have hD := AnyE.slices_DeleteFunc Tryd.delK encN (fun _ => rfl) (fun x => ignB ig x.1) 76 #[.pointer (some ⟨gI, 0, none⟩)] (enters_of Tryd.func76 (by kernel_rfl) rfl) ⟨0, by omega, by omega⟩ (fun w => by kernel_rfl) g 0 cap (k.map toKN).toArray w1
    (fun W x hW => (cPredK ig gI x.1 x.2.1 x.2.2 W (hI1.below hW)).mono fun e w' ⟨he, hw⟩ => ⟨he, 0, hw.symm⟩)
    (fun m os dk x hs => (cPredK ig gI x.1 x.2.1 x.2.2 _ (by
      have hheap : (sortWorld encN w1 g 0 m dk os).heap = (w1.heap.modify g (Sort.onCells (Sort.putCells encN 0 dk))) ++ os := rfl
      refine hI1.other ?_ ?_
      · rw [hheap]; simp
      · rw [hheap, Array.getElem?_append_left (by simpa using hI1.1), Array.getElem?_modify, if_neg (fun e => hgI e.symm)])).mono fun e w' ⟨he, hw⟩ => ⟨he, 0, hw.symm⟩)
    hH (by rw [hd]; omega) (by rw [hd]; exact hcap)
  rw [hd] at hD
  have HD := Lib.hid hD
  clear hD
  go_wp2_with fail
  refine (show Calls Tryd.prog 74 _ _ _ from HD.out).mono ?_
  rintro e w2 ⟨rfl, q, rfl⟩
  go_wp2_with fail
  go_ret
  have hF := filter_kn ig k HK.out
  obtain ⟨F, hFe⟩ : ∃ F, F = (k.map toKN).filter fun x => !ignB ig x.1 := ⟨_, rfl⟩
  have hFe2 : ((k.map toKN).toArray.toList.filter fun x => !ignB ig x.1) = F := by rw [hFe]
  rw [← hFe] at hF
  have hFl : F.length = (leftK ig k).length := by rw [← hF, List.length_map]
  have hFn : F.length ≤ n := by
    have := List.length_filter_le (fun x : KN => !ignB ig x.1) (k.map toKN)
    rw [← hFe, List.length_map] at this
    rw [HN.out]; exact this
  have hds : (F ++ List.replicate (n - F.length) (⟨0, by omega, by omega⟩ : KN)).toArray.size = (k.map toKN).toArray.size := by rw [hd]; simp; omega
  have hH2 := Sort.holds_ahead encN w1 q g 0 _ hH
  have hgr2 : Gr w (Sort.putRow encN (Sort.ahead w1 q) g 0 (F ++ List.replicate (n - F.length) (⟨0, by omega, by omega⟩ : KN)).toArray) := gr_putRow hgr encN g q _ hg1
  refine ⟨.slice (some ⟨g, 0, none⟩) ((k.map toKN).toArray.toList.filter fun x => !ignB ig x.1).length cap, rfl, ⟨g, cap, by rw [hFe2, hFl], by simpa using hg2, fun j x hx => ?_⟩, by rw [hFe2]; exact hgr2⟩
  rw [hFe2]
  have hj : j < F.length := by rw [hFl]; exact (List.getElem?_eq_some_iff.1 hx).1
  have hcell := Sort.cell?_putRow encN (Sort.ahead w1 q) g 0 _ _ hH2 hds j (by rw [hds, hd]; omega)
  rw [Nat.zero_add] at hcell
  rw [hcell]
  have hxj : (F[j]'hj).1 = x := by
    rw [← hF, List.getElem?_map, List.getElem?_eq_getElem hj] at hx
    simpa using hx
  rw [getElem!_pos _ j (by rw [hds, hd]; omega)]
  rw [List.getElem_toArray, List.getElem_append_left hj]
  unfold encN; rw [hxj]
end Go.Proofs.YtjockiedganokaaDoor
