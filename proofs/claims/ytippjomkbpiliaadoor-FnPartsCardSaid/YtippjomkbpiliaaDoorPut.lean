/-
  The contract of impl.PutTogether.
-/
import Derived.Test.YtippjomkbpiliaaDoorPutS
namespace Go.Proofs.YtippjomkbpiliaaDoor
set_option linter.unusedVariables false
set_option linter.unusedSimpArgs false
open Go.RowKit Go.Sort Go.Lib

/-- A new row that holds these texts. -/
def NewT (xs : List ByteArray) (w : World) (e : Ending) (w' : World) : Prop :=
  ∃ g m cap, e = .returned (.slice (some ⟨g, 0, none⟩) m cap) ∧ m = xs.length ∧ m ≤ cap ∧ g < w'.heap.size ∧ (∀ (j : Nat) x, xs[j]? = some x → w'.cell? ⟨g, j, none⟩ = some (.string x)) ∧ Below w.heap.size w w'
theorem below_setCells8 {B : Nat} {w w' : World} (h : Below B w w') {b : Nat} (hb : B ≤ b) : ∀ (o : Nat) (vs : List Value), Below B w (w'.setCells b o vs)
  | o, [] => h
  | o, v :: vs => below_setCells8 (h.setCell (p := ⟨b, o, none⟩) hb v) hb (o + 1) vs
theorem tInsEnd (g m vb : Nat) (ws : List ByteArray) (t : ByteArray) (w : World) (hm : m = ws.length) (hb : m ≤ 8) (hc : ∀ (j : Nat) x, ws[j]? = some x → w.cell? ⟨g, j, none⟩ = some (.string x)) (hv : w.cell? ⟨vb, 0, none⟩ = some (.string t)) :
    Calls Tryd.prog 38 #[.slice (some ⟨g, 0, none⟩) m m, .int .i64 (m : Int), .slice (some ⟨vb, 0, none⟩) 1 1] w (NewT (ws ++ [t]) w) := by
  have h := Any2.slices_Insert_string_end_grow Tryd.insT (some ⟨g, 0, none⟩) m m vb 0 1 1 (strV ws) [.string t] w (by omega) (Nat.le_refl _) (by omega) (by omega) (by rw [strV_len]; exact hm.symm) rfl (by simp)
    (fun a ha j v hj => by
      cases ha
      rw [add_plain', Nat.zero_add]
      unfold strV at hj
      rw [List.getElem?_map] at hj
      cases hy : ws[j]? with
      | none => rw [hy] at hj; cases hj
      | some y => rw [hy] at hj; obtain rfl := Option.some.inj hj; exact hc j y hy)
    (fun j v hj => by
      match j, hj with
      | 0, hj => obtain rfl : Value.string t = v := by simpa using hj
                 exact hv)
    (by simp [Value.oneCell'])
  change Calls Tryd.prog 38 _ _ _ at h
  refine h.mono ?_
  rintro e w' ⟨rfl, rfl⟩
  refine ⟨_, m + 1, _, rfl, by simp [hm], grownCap_ge _ _ _ _, by simp, fun j x hx => ?_, (Below.refl _ _).drew.alloc (Nat.le_refl _) _⟩
  have hj := (List.getElem?_eq_some_iff.1 hx).1
  rw [World.cell?_alloc_at _ _ _ _ (by rfl)]
  rw [Array.getElem?_append_left (by simp [strV] at hj ⊢; omega)]
  rw [List.getElem?_toArray, show strV ws ++ [Value.string t] = strV (ws ++ [t]) from strV_snoc _ _]
  exact strV_at _ _ _ hx
theorem tInsFirst (g m vb : Nat) (ws : List ByteArray) (t : ByteArray) (w : World) (hm : m = ws.length) (h0 : 0 < m) (hb : m ≤ 8) (hc : ∀ (j : Nat) x, ws[j]? = some x → w.cell? ⟨g, j, none⟩ = some (.string x)) (hv : w.cell? ⟨vb, 0, none⟩ = some (.string t)) :
    Calls Tryd.prog 38 #[.slice (some ⟨g, 0, none⟩) m m, .int .i64 0, .slice (some ⟨vb, 0, none⟩) 1 1] w (NewT (t :: ws) w) := by
  have h := Any2.slices_Insert_string_grow Tryd.insT g 0 m m 0 vb 0 1 1 (strV ws) [.string t] w h0 (by omega) (Nat.le_refl _) (by omega) (by omega) (by rw [strV_len]; exact hm.symm) rfl
    (fun j v hj => by
      rw [Nat.zero_add]
      unfold strV at hj
      rw [List.getElem?_map] at hj
      cases hy : ws[j]? with
      | none => rw [hy] at hj; cases hj
      | some y => rw [hy] at hj; obtain rfl := Option.some.inj hj; exact hc j y hy)
    (fun j v hj => by
      match j, hj with
      | 0, hj => obtain rfl : Value.string t = v := by simpa using hj
                 exact hv)
    (fun u hu => by unfold strV at hu; rw [List.mem_map] at hu; obtain ⟨x, _, rfl⟩ := hu; rfl)
    (by simp [Value.oneCell'])
  change Calls Tryd.prog 38 _ _ _ at h
  refine h.mono ?_
  rintro e w' ⟨rfl, rfl⟩
  have hG := grownCap_ge w (m + 1) m 9
  have hsome : ∀ j, j < m + 1 → (((w.alloc (.cells ((((strV ws).take 0).toArray ++ Builtin.zeroCells (Value.string ⟨#[]⟩).cells (m + 1 - 0) ++ Builtin.zeroCells (Value.string ⟨#[]⟩).cells (grownCap w (m + 1) m 9 - (m + 1)))) 9)).drew).cell? ⟨w.heap.size, j, none⟩).isSome = true := fun j hj => by
    show ((w.alloc _).cell? ⟨w.heap.size, j, none⟩).isSome = true
    rw [World.cell?_alloc_at _ _ _ _ rfl, Array.getElem?_eq_getElem (by simp [size_zeroCells, Value.cells]; omega)]
    rfl
  refine ⟨_, m + 1, _, rfl, by simp [hm], hG, ?_, fun j x hx => ?_, ?_⟩
  · exact Nat.lt_of_lt_of_le (show w.heap.size < (w.alloc _).heap.size by simp) (below_setCells8 (below_setCells8 (Below.refl 0 _).drew (Nat.zero_le _) _ _).drew (Nat.zero_le _) _ _).size
  · match j, hx with
    | 0, hx =>
      obtain rfl : t = x := by simpa using hx
      rw [World.cell?_setCells_out _ _ _ _ _ (fun _ _ => .inl (by show 0 < 0 + 1; omega))]
      show (World.setCells _ _ _ _).cell? _ = _
      have q := World.cell?_setCells_in w.heap.size [Value.string t] 0 _ (fun i hi => hsome (0 + i) (by simp at hi; omega)) 0 (by simp)
      exact q
    | k + 1, hx =>
      have hx2 : ws[k]? = some x := by simpa using hx
      have hk := (List.getElem?_eq_some_iff.1 hx2).1
      have hv2 := strV_at ws k x hx2
      have hk2 : k < (strV ws).length := by rw [strV_len]; exact hk
      have q := World.cell?_setCells_in w.heap.size ((strV ws).drop 0) (0 + 1) (((w.alloc (.cells ((((strV ws).take 0).toArray ++ Builtin.zeroCells (Value.string ⟨#[]⟩).cells (m + 1 - 0) ++ Builtin.zeroCells (Value.string ⟨#[]⟩).cells (grownCap w (m + 1) m 9 - (m + 1)))) 9)).drew.setCells w.heap.size 0 [Value.string t]).drew) (fun i hi => by
        show ((World.setCells _ _ _ _).cell? _).isSome = true
        exact isSome_setCells w.heap.size [Value.string t] 0 _ (fun i hi => hsome (0 + i) (by simp at hi; omega)) _ (hsome (0 + 1 + i) (by simp [strV_len] at hi; omega))) k (by simpa using hk2)
      rw [show 0 + 1 + k = k + 1 by omega] at q
      refine Eq.trans q ?_
      exact (List.getElem?_eq_getElem hk2).symm.trans hv2
  · exact below_setCells8 (below_setCells8 ((Below.refl w.heap.size w).alloc (Nat.le_refl _) _).drew (Nat.le_refl _) 0 _).drew (Nat.le_refl _) _ _
theorem put_first (s t : ByteArray) (hp : phraseB s = true) : joinB (t :: spaceB s) = t ++ ⟨#[32]⟩ ++ s ∧ joinB (spaceB s ++ [t]) = s ++ ⟨#[32]⟩ ++ t := by
  have hj : joinB (spaceB s) = s := join_bl s.size s (Nat.le_refl _)
  have hpos := space_pos s
  refine ⟨?_, ?_⟩
  · obtain ⟨a, l, e⟩ : ∃ a l, spaceB s = a :: l := by
      cases h : spaceB s with
      | nil => rw [h] at hpos; simp at hpos
      | cons a l => exact ⟨a, l, rfl⟩
    rw [e] at hj ⊢
    apply ByteArray.ext
    apply Array.toList_inj.1
    rw [joinB_data]
    have h2 := congrArg (fun x : ByteArray => x.data.toList) hj
    rw [joinB_data] at h2
    simp only [List.map_cons] at h2 ⊢
    rw [joinL_cons, h2]
    simp [ByteArray.data_append, Array.toList_append]
  · rw [joinB_snoc (spaceB s) t (fun e => by rw [e] at hpos; simp at hpos), hj]
theorem phrase_join (xs : List ByteArray) (h0 : xs ≠ []) (hw : wordsB xs = true) : phraseB (joinB xs) = joinOk xs := by
  cases xs with
  | nil => exact absurd rfl h0
  | cons x xs =>
    have h := bl_join x xs (fun y hy => low_no y (by
      have := words_mem _ hw y hy
      unfold wordB at this; rw [Bool.and_eq_true] at this; exact this.2))
    unfold phraseB joinOk spaceB
    rw [h]
theorem words_cons (t : ByteArray) (ws : List ByteArray) : wordsB (t :: ws) = (wordB t && wordsB ws) := by simp [wordsB]
theorem words_snoc (t : ByteArray) (ws : List ByteArray) : wordsB (ws ++ [t]) = (wordsB ws && wordB t) := by simp [wordsB]

set_option maxHeartbeats 2000000 in
set_option maxRecDepth 100000 in
theorem cPut_impl (s t : ByteArray) (first : Bool) (w : World) (h0 : s.size ≤ 1048576) (h1 : t.size ≤ 1048576) (hsh : w.ShapedOpen Tryd.prog) :
    Calls Tryd.prog 12 #[.agg #[.string s, .string t], .bool first] w fun e w' => e = .returned (.tuple #[.string (ptS s t first), .int .i64 (ptC s t first)]) ∧ Below w.heap.size w w' := by
  have B0 : Below w.heap.size w (w.alloc (.cells #[.string s, .string t] 28)) := (Below.refl _ _).alloc (Nat.le_refl _) _
  have HB0 := Lib.hid B0
  have HK := Lib.hid (PB.new w s t)
  have HSH := Lib.hid (shaped_below hsh B0)
  have he := empty_list t
  have HOK : Hid (okP s t first = (phraseB s && (decide (t = ByteArray.empty) || (wordB t && phraseB (togB s t first))))) := Lib.hid rfl
  clear hsh B0
  cases hp : phraseB s
  · have CW := Lib.hid (cWordsOf_impl_bad s (w.alloc (.cells #[.string s, .string t] 28)) (by omega) HSH.out hp)
    rw [hp] at HOK
    obtain ⟨e1, e2⟩ := pt_bad (by rw [HOK.out]; rfl)
    rw [e1, e2]
    clear e1 e2 hp
    go_enter Tryd.func12, Tryd.ntmps12
    go_wp2_with fail
    refine CW.out.mono ?_
    rintro e w1 ⟨rfl, hb1⟩
    have B1 := bstepP HB0.out HB0.out.size hb1
    go_wp2_with fail
    go_ret2
    exact ⟨rfl, B1⟩
  have CW := Lib.hid (cWordsOf_impl_ok s (w.alloc (.cells #[.string s, .string t] 28)) (by omega) HSH.out hp)
  obtain ⟨hpw, hp8⟩ := phraseB_parts s hp
  have hp0 := space_pos s
  obtain ⟨hf1, hf2⟩ := put_first s t hp
  rw [hp] at HOK
  have HSZ : Hid (∀ x ∈ spaceB s, x.size ≤ 16) := Lib.hid (fun x hx => (word_size x (words_mem _ hpw x hx)).2)
  have HPW := Lib.hid hpw
  have HNE : Hid (spaceB s ≠ []) := Lib.hid (fun e => by rw [e] at hp0; simp at hp0)
  obtain ⟨m, hm⟩ : ∃ m, m = (spaceB s).length := ⟨_, rfl⟩
  rw [← hm] at CW hp8 hp0
  have HM := Lib.hid hm
  clear hm hpw hp
  by_cases h : t = ByteArray.empty
  · rw [decide_eq_true h] at he HOK
    obtain ⟨e1, e2⟩ := pt_ok (by rw [HOK.out]; rfl)
    rw [e1, e2, show togB s t first = s from by rw [h]; exact tog_none s first]
    clear e1 e2 h hf1 hf2
    go_enter Tryd.func12, Tryd.ntmps12
    go_wp2_with fail
    refine CW.out.mono ?_
    rintro e w1 ⟨g, rfl, hg1, hg2, hown, hb1⟩
    have B1 := bstepP HB0.out HB0.out.size hb1
    obtain ⟨⟨l3, a0, a1⟩, f0, f1⟩ := HK.out.below hb1
    go_wp2_with fail
    go_ret2
    exact ⟨rfl, B1⟩
  rw [decide_eq_false h] at he HOK
  have HNT := Lib.hid h
  cases first
  · have HV : Hid (joinV (spaceB s ++ [t]) = .tuple #[.string (ptS s t false), .int .i64 (ptC s t false)]) := Lib.hid (by
      rw [tog_last h, ← hf2] at HOK
      cases hw : wordB t
      · rw [hw] at HOK
        obtain ⟨e1, e2⟩ := pt_bad (by rw [HOK.out]; rfl)
        rw [e1, e2, joinV_no _ (by unfold joinOk; rw [words_snoc, hw]; simp)]
      · rw [hw, phrase_join _ (by simp) (by rw [words_snoc, hw, HPW.out]; rfl)] at HOK
        cases hj : joinOk (spaceB s ++ [t])
        · rw [hj] at HOK
          obtain ⟨e1, e2⟩ := pt_bad (by rw [HOK.out]; rfl)
          rw [e1, e2, joinV_no _ hj]
        · rw [hj] at HOK
          obtain ⟨e1, e2⟩ := pt_ok (by rw [HOK.out]; rfl)
          rw [e1, e2, joinV_yes _ hj, hf2, tog_last h])
    have HLN : Hid ((spaceB s ++ [t]).length = m + 1) := Lib.hid (by rw [List.length_append, ← HM.out]; rfl)
    have HS2 : Hid (∀ x ∈ spaceB s ++ [t], x.size ≤ maxLen) := Lib.hid (fun x hx => by
      rcases List.mem_append.1 hx with hx | hx
      · have := HSZ.out x hx; unfold maxLen; omega
      · rw [List.mem_singleton] at hx; subst hx; unfold maxLen; omega)
    clear hf1 hf2 h HOK
    go_enter Tryd.func12, Tryd.ntmps12
    go_wp2_with fail
    refine CW.out.mono ?_
    rintro e w1 ⟨g, rfl, hg1, hg2, hown, hb1⟩
    have B1 := bstepP HB0.out HB0.out.size hb1
    obtain ⟨⟨l3, a0, a1⟩, f0, f1⟩ := HK.out.below hb1
    have HCE : Hid (∀ (j : Nat) x, (spaceB s)[j]? = some x → w1.cell? ⟨g, j, none⟩ = some (.string x)) := Lib.hid (fun j x hx => (World.ownsRow.cellAt hown j (by have := (List.getElem?_eq_some_iff.1 hx).1; have := HM.out; omega)).trans (strV_at _ _ _ hx))
    have hba : Below w1.heap.size w1 (w1.alloc (.cells #[.string t] 9)) := (Below.refl _ _).alloc (Nat.le_refl _) _
    have CI := Lib.hid (tInsEnd g m w1.heap.size (spaceB s) t (w1.alloc (.cells #[.string t] 9)) HM.out hp8 (fun j x hx => (hba.cell (p := ⟨g, j, none⟩) hg2).trans (HCE.out j x hx)) (new_one _ _ _))
    have B2 := bstepP B1 B1.size hba
    clear hown hb1 hba
    go_wp2_with fail
    refine CI.out.mono ?_
    rintro e w3 ⟨g3, m3, d3, rfl, hm3, hd3, hg3, hc3, hb3⟩
    have B3 := bstepP B2 B2.size hb3
    have hm31 : m3 = m + 1 := hm3.trans HLN.out
    have CJ := Lib.hid (cJP_impl g3 0 d3 m3 (spaceB s ++ [t]) w3 hm3 (by omega) (by omega) hd3 HS2.out hg3 (fun j x hx => by rw [Nat.zero_add]; exact hc3 j x hx))
    rw [HV.out] at CJ
    clear hb3 hc3 hm31 hm3
    go_wp2_with fail
    refine CJ.out.mono ?_
    rintro e w4 ⟨rfl, hb4⟩
    have B4 := bstepP B3 B3.size hb4
    go_wp2_with fail
    go_ret2
    exact ⟨rfl, B4⟩
  · have HV : Hid (joinV (t :: spaceB s) = .tuple #[.string (ptS s t true), .int .i64 (ptC s t true)]) := Lib.hid (by
      rw [tog_first h, ← hf1] at HOK
      cases hw : wordB t
      · rw [hw] at HOK
        obtain ⟨e1, e2⟩ := pt_bad (by rw [HOK.out]; rfl)
        rw [e1, e2, joinV_no _ (by unfold joinOk; rw [words_cons, hw]; simp)]
      · rw [hw, phrase_join _ (by simp) (by rw [words_cons, hw, HPW.out]; rfl)] at HOK
        cases hj : joinOk (t :: spaceB s)
        · rw [hj] at HOK
          obtain ⟨e1, e2⟩ := pt_bad (by rw [HOK.out]; rfl)
          rw [e1, e2, joinV_no _ hj]
        · rw [hj] at HOK
          obtain ⟨e1, e2⟩ := pt_ok (by rw [HOK.out]; rfl)
          rw [e1, e2, joinV_yes _ hj, hf1, tog_first h])
    have HLN : Hid ((t :: spaceB s).length = m + 1) := Lib.hid (by rw [List.length_cons, ← HM.out])
    have HS2 : Hid (∀ x ∈ t :: spaceB s, x.size ≤ maxLen) := Lib.hid (fun x hx => by
      rcases List.mem_cons.1 hx with hx | hx
      · subst hx; unfold maxLen; omega
      · have := HSZ.out x hx; unfold maxLen; omega)
    clear hf1 hf2 h HOK
    go_enter Tryd.func12, Tryd.ntmps12
    go_wp2_with fail
    refine CW.out.mono ?_
    rintro e w1 ⟨g, rfl, hg1, hg2, hown, hb1⟩
    have B1 := bstepP HB0.out HB0.out.size hb1
    obtain ⟨⟨l3, a0, a1⟩, f0, f1⟩ := HK.out.below hb1
    have HCE : Hid (∀ (j : Nat) x, (spaceB s)[j]? = some x → w1.cell? ⟨g, j, none⟩ = some (.string x)) := Lib.hid (fun j x hx => (World.ownsRow.cellAt hown j (by have := (List.getElem?_eq_some_iff.1 hx).1; have := HM.out; omega)).trans (strV_at _ _ _ hx))
    have hba : Below w1.heap.size w1 (w1.alloc (.cells #[.string t] 9)) := (Below.refl _ _).alloc (Nat.le_refl _) _
    have CI := Lib.hid (tInsFirst g m w1.heap.size (spaceB s) t (w1.alloc (.cells #[.string t] 9)) HM.out hp0 hp8 (fun j x hx => (hba.cell (p := ⟨g, j, none⟩) hg2).trans (HCE.out j x hx)) (new_one _ _ _))
    have B2 := bstepP B1 B1.size hba
    clear hown hb1 hba
    go_wp2_with fail
    refine CI.out.mono ?_
    rintro e w3 ⟨g3, m3, d3, rfl, hm3, hd3, hg3, hc3, hb3⟩
    have B3 := bstepP B2 B2.size hb3
    have hm31 : m3 = m + 1 := hm3.trans HLN.out
    have CJ := Lib.hid (cJP_impl g3 0 d3 m3 (t :: spaceB s) w3 hm3 (by omega) (by omega) hd3 HS2.out hg3 (fun j x hx => by rw [Nat.zero_add]; exact hc3 j x hx))
    rw [HV.out] at CJ
    clear hb3 hc3 hm31 hm3
    go_wp2_with fail
    refine CJ.out.mono ?_
    rintro e w4 ⟨rfl, hb4⟩
    have B4 := bstepP B3 B3.size hb4
    go_wp2_with fail
    go_ret2
    exact ⟨rfl, B4⟩
end Go.Proofs.YtippjomkbpiliaaDoor
