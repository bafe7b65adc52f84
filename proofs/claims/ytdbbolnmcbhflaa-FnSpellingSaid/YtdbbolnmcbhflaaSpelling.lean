/-
  The contract of impl.alphabet.spelling.
-/
import Derived.Test.YtdbbolnmcbhflaaIter
import Derived.Maps.AppendAt
namespace Go.Proofs.Ytdbbolnmcbhflaa
set_option linter.unusedVariables false
open Go.RowKit Go.Shelf
attribute [local go_sem] Oper.semAt_some

set_option maxRecDepth 100000 in
set_option maxHeartbeats 2000000 in
theorem cSpelling (mb : Nat) (xs : List ByteArray) (s : ByteArray) (w : World) (hz : s.size ≤ 1048576) (hD : Dict w mb xs) :
    Calls Try.prog 38 #[.map (some mb), .string s] w (SpellPost xs s w (.bool true) (.bool false)) := by
  obtain ⟨i0, hi, hz0, hz1, hz2⟩ := info_parts info_i64
  have hmb : mb < w.heap.size := hD.lt
  have HD := Lib.hid hD
  have hb1 : Below w.heap.size w w := Below.refl _ _
  refine (callsIn_wide (n := 4)).1 ?_
  refine callsIn_of_wp_marks Try.func38 rfl trivial ?_ rfl
  simp only [Try.ntmps38, List.size_toArray, List.length_cons, List.length_nil, Nat.reduceAdd, Nat.reduceSub, Array.replicate_succ, Array.replicate_zero, List.push_toArray, List.append_toArray, List.nil_append, List.cons_append]
  gi_wp2_with (refine ⟨trivial, ?_⟩; gi_at_call 56; refine (callsIn_wide.2 (cSpellMake _ _ _)).mono ?_; rintro e w' ⟨rfl, rfl⟩)
  have bO := (((Boxed.new w 33 (.slice none 0 0)).alloc (.cells #[.string s] 9)).alloc (.cells #[.map (some mb)] 55)).alloc (.cells #[.string s] 9)
  have bL := ((Boxed.new (w.alloc (.cells #[.slice none 0 0] 33)) 9 (.string s)).alloc (.cells #[.map (some mb)] 55)).alloc (.cells #[.string s] 9)
  have bK := (Boxed.new ((w.alloc (.cells #[.slice none 0 0] 33)).alloc (.cells #[.string s] 9)) 55 (.map (some mb))).alloc (.cells #[.string s] 9)
  have bS := Boxed.new (((w.alloc (.cells #[.slice none 0 0] 33)).alloc (.cells #[.string s] 9)).alloc (.cells #[.map (some mb)] 55)) 9 (.string s)
  have hDL := (((hD.alloc (.cells #[.slice none 0 0] 33)).alloc (.cells #[.string s] 9)).alloc (.cells #[.map (some mb)] 55)).alloc (.cells #[.string s] 9)
  have hBL : Below w.heap.size w ((((w.alloc (.cells #[.slice none 0 0] 33)).alloc (.cells #[.string s] 9)).alloc (.cells #[.map (some mb)] 55)).alloc (.cells #[.string s] 9)) :=
    (((hb1.alloc hb1.size _).alloc (by simp <;> omega) _).alloc (by simp <;> omega) _).alloc (by simp <;> omega) _
  have hsz : ((((w.alloc (.cells #[.slice none 0 0] 33)).alloc (.cells #[.string s] 9)).alloc (.cells #[.map (some mb)] 55)).alloc (.cells #[.string s] 9)).heap.size = w.heap.size + 4 := by simp
  simp only [World.size_alloc] at bL bK bS
  obtain ⟨WL, hWL⟩ : ∃ WL, ((((w.alloc (.cells #[.slice none 0 0] 33)).alloc (.cells #[.string s] 9)).alloc (.cells #[.map (some mb)] 55)).alloc (.cells #[.string s] 9)) = WL := ⟨_, rfl⟩
  rw [hWL] at bO bL bK bS hDL hBL hsz ⊢
  clear hWL hD
  have hlen := seqL_len xs s.size s (Nat.le_refl _)
  refine wpIn_rangeFunc_ownG rfl (by omega) (gf := 62) (lb := #[.pointer (some ⟨w.heap.size + 1 + 1 + 1, 0, none⟩), .pointer (some ⟨w.heap.size + 1 + 1, 0, none⟩)]) rfl trivial (enters_of Try.func62 (by kernel_rfl) rfl)
    (spell_stops 3 (by omega) (w.heap.size + 1 + 1 + 1) (w.heap.size + 1 + 1) w.heap.size mb xs s hz WL (by omega) (by omega) bS.cell bK.cell hDL)
    (fun h k => h.trans k) (fun W l o o' hl hW ho ho' => ⟨belowK_b (w := WL) (by omega) W l o o' hl hW ho ho', (grownBy_putObj' W l o').block mb (by have := (Array.getElem?_eq_some_iff.1 hW).1; omega) (by intro e; cases e; omega), (grownBy_putObj' W l o').block _ (by have := (Array.getElem?_eq_some_iff.1 hW).1; omega) (by intro e; cases e; omega)⟩)
    (Below.refl _ _) (fun _ => rfl)
    (fun pre W => (∃ v, Boxed W w.heap.size 33 v ∧ W.ownsRow (w.heap.size + 4) 2 1 v pre.length (intV (pre.map (·.1))) ∧ True) ∧ Boxed W (w.heap.size + 1) 9 (.string (lastR s pre)) ∧ w.heap.size + 4 ≤ W.heap.size ∧ Below w.heap.size w W)
    (fun _ _ _ => False)
    (OwnFrom.and (Own.from (holdsRow_own (w.heap.size + 4) w.heap.size 33 2 1 (fun pre : List (Int × ByteArray) => pre.length) (fun pre => intV (pre.map (·.1))) (fun _ _ => True)) _) (OwnFrom.and (Own.from (boxed_own _ _ (fun pre : List (Int × ByteArray) => .string (lastR s pre))) _) (OwnFrom.and (fun _ _ _ _ hs hg _ => Nat.le_trans hs hg.size) (ownFrom_below (Nat.le_refl _) (by omega)))))
    (fun _ _ _ _ _ hs _ _ => hs)
    ⟨⟨_, bO, World.ownsRow_nil _ _ _ _, trivial⟩, bL, by omega, hBL⟩
    (fun x => { tmps := #[.map (some mb), .string s, undef, undef, .slice none 0 0, .bool false, .pointer (some ⟨w.heap.size, 0, none⟩), .pointer (some ⟨w.heap.size + 1, 0, none⟩), .int .i64 x.1, .string x.2, .string s, .map (some mb), .string s,
      .func (.func 62) #[] #[.pointer (some ⟨w.heap.size + 1 + 1 + 1, 0, none⟩), .pointer (some ⟨w.heap.size + 1 + 1, 0, none⟩)], .int .i64 x.1, .string x.2, undef, undef, undef, undef, undef, undef, undef, undef], defers := [] }) ?assign ?body ?done ?stop
  case assign =>
    intro l x W K hK
    gi_wp2
    exact hK
  case body =>
    rintro l pre x W ⟨⟨v, hv, hrow, _⟩, hleft, hlW, hB⟩ hlt
    have hc := hv.cell
    have hpl : pre.length < 1048576 := by omega
    have hBs := hB.size
    gi_wp2_with (gi_at_builtin; refine wpListIn_append_own _ rfl _ _ 33 rfl (w.heap.size + 4) 2 i0 (.int .i64 0) 1 8 Try.underlying33 hi hz0 hz1 hz2 rfl (by decide) _ _ _ rfl (hrow.alloc _) ⟨W.heap.size, 0, none⟩ 1 1 [.int .i64 x.1] rfl rfl (cell_one_new _ _ _) (by simp [Value.oneCell']) (by unfold maxLen; omega) (by omega) (by simp; omega) ?_; intro v' w2 hown' hgrow _; obtain ⟨g', cap', rfl⟩ := ownsRow_succ hown'; obtain ⟨hv1, hv2, hr2, hk2, hb2⟩ := hv.appended (by decide) (rowBase hrow (b' := w.heap.size) (by omega)) hBs (by omega) (rowBase hown' (b' := w.heap.size) (by omega)) hgrow; have hc1 := hv1.cell; have hf1 := hv1.frozen; have hl1 := ((hleft.alloc _).kept hgrow (hleft.not_row (by decide) hrow)).other (B' := w.heap.size) (by omega) (.slice (some ⟨g', 0, none⟩) (pre.length + 1) cap'); have hlc := hl1.cell; have hlf := hl1.frozen)
    have hr3 := hown'.kept (grownBy_setCell' w2 w.heap.size (.slice (some ⟨g', 0, none⟩) (pre.length + 1) cap')) (.inr (hv1.not_row (by decide) hown').symm)
    have hgb : ∀ k, k < w.heap.size + 4 → w2.heap[k]? = W.heap[k]? := fun k hk => by
      refine (hgrow.block k (by simp; omega) ?_).trans (Below.heap_alloc W _ k (by omega))
      intro e
      have := (hrow.lt k e.symm).1
      omega
    have hk3 : ∀ k, k < w.heap.size + 4 → k ≠ w.heap.size → k ≠ w.heap.size + 1 → ((w2.setCell ⟨w.heap.size, 0, none⟩ (.slice (some ⟨g', 0, none⟩) (pre.length + 1) cap')).setCell ⟨w.heap.size + 1, 0, none⟩ (.string x.2)).heap[k]? = W.heap[k]? := fun k hk h1 h2 =>
      (Below.heap_setCell _ _ _ k h2).trans ((Below.heap_setCell _ _ _ k h1).trans (hgb k hk))
    have hl2 := hl1.set (.string x.2)
    have hv3 := hv2.other (B' := w.heap.size + 1) (by omega) (.string x.2)
    have hr4 := hr3.kept (grownBy_setCell' _ (w.heap.size + 1) (.string x.2)) (.inr (hl1.not_row (by decide) hr3).symm)
    have hsz2 : w.heap.size + 4 ≤ w2.heap.size := by have := hgrow.size; simp at this; omega
    have hb3 : Below w.heap.size W ((w2.setCell ⟨w.heap.size, 0, none⟩ (.slice (some ⟨g', 0, none⟩) (pre.length + 1) cap')).setCell ⟨w.heap.size + 1, 0, none⟩ (.string x.2)) := hb2.setCell (by simp <;> omega) _
    refine ⟨(hk2.trans (KeepsOthers.setCell _ _ _)).from _, ⟨hb3, hk3 mb (by omega) (by omega) (by omega), hk3 _ (by omega) (by omega) (by omega)⟩, ⟨_, hv3, ?_, trivial⟩, ?_, ?_, hB.trans hb3⟩
    · rw [List.length_append, List.map_append]
      rw [show intV (List.map (fun x => x.1) pre ++ List.map (fun x => x.1) [x]) = intV (List.map (fun x => x.1) pre) ++ [.int .i64 x.1] from by simp [intV]]
      exact hr4
    · rw [lastR_snoc]; exact hl2
    · simpa using hsz2
  case done =>
    rintro D ys W hD rfl ⟨⟨v, hv, hrow, _⟩, hleft, hlW, hB⟩ hK
    have hend : lastR s (seqL xs s) = endL xs s := rfl
    rw [hend] at hleft
    have hc := hv.cell
    have hlc := hleft.cell
    cases hsp : spellsB xs s
    · have hd : (endL xs s).toList.isEmpty = false := by rw [empty_is]; exact hsp
      have HSP := Lib.hid hsp
      clear hsp
      gi_wp2
      refine ⟨by simp, .inl ⟨_, _, rfl, run_takeDeferred hK, ?_⟩⟩
      refine ⟨.tuple #[.slice none 0 0, .bool false], ?_, ?_⟩
      · simp [results, Try.f38, go_sem]
      · exact .inl ⟨HSP.out, rfl, hB.trans (belowK_b (w := w) (Nat.le_refl _) W D _ _ (by omega) hK rfl rfl)⟩
    · have hd : (endL xs s).toList.isEmpty = true := by rw [empty_is]; exact hsp
      have HSP := Lib.hid hsp
      clear hsp
      gi_wp2
      refine ⟨by simp, .inl ⟨_, _, rfl, run_takeDeferred hK, ?_⟩⟩
      refine ⟨.tuple #[v, .bool true], ?_, ?_⟩
      · simp [results, Try.f38, go_sem]
      · refine .inr ⟨HSP.out, v, rfl, ?_, hB.trans (belowK_b (w := w) (Nat.le_refl _) W D _ _ (by omega) hK rfl rfl)⟩
        have := ownsRow_putObj (rowBase hrow (b' := w.heap.size) (by omega)) (.deferred none) hK rfl
        rw [show (idxL xs s).length = (seqL xs s).length from List.length_map ..]
        exact this
  case stop =>
    rintro D c pre W _ _ h _
    exact h.elim
end Go.Proofs.Ytdbbolnmcbhflaa
