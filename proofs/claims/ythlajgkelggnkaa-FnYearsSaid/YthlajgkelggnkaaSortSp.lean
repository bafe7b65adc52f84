/-
  The contracts of cmp.Compare at int64, of the closure that compares two spans, and of slices.SortFunc at a row of spans.
-/
import Derived.Test.YthlajgkelggnkaaSpShelf
import Derived.Test.YthlajgkelggnkaaMarkSp
namespace Go.Proofs.Ythlajgkelggnkaa
set_option linter.unusedVariables false
open Go.RowKit

theorem cNaN (x : Int) (w : World) : Calls Try.prog 58 #[.int .i64 x] w fun e w' => e = .returned (.bool false) ∧ w = w' := by
  have hd : (x != x) = false := by simp
  go_enter Try.func58, Try.ntmps58
  go_wp2
  go_ret
  exact ⟨rfl, rfl⟩
theorem cCmp (x y : Int) (w : World) : Calls Try.prog 49 #[.int .i64 x, .int .i64 y] w fun e w' => e = .returned (.int .i64 (Lib.compareInt x y)) ∧ w = w' := by
  unfold Lib.compareInt
  by_cases h1 : x < y
  · rw [if_pos h1]
    go_enter Try.func49, Try.ntmps49
    go_wp2_with (go_at_call 58; refine (cNaN _ _).mono ?_; rintro e w' ⟨rfl, rfl⟩)
    go_ret
    exact ⟨rfl, rfl⟩
  rw [if_neg h1]
  by_cases h2 : x > y
  · rw [if_pos h2]
    have h3 : y < x := h2
    go_enter Try.func49, Try.ntmps49
    go_wp2_with (go_at_call 58; refine (cNaN _ _).mono ?_; rintro e w' ⟨rfl, rfl⟩)
    go_ret
    exact ⟨rfl, rfl⟩
  · rw [if_neg h2]
    have h3 : ¬ y < x := h2
    go_enter Try.func49, Try.ntmps49
    go_wp2_with (go_at_call 58; refine (cNaN _ _).mono ?_; rintro e w' ⟨rfl, rfl⟩)
    go_ret
    exact ⟨rfl, rfl⟩

def encSp (x : Sp) : List Value := [.int .i64 x.1, .int .i64 x.2]
theorem cClosure (x y : Sp) (W : World) : Calls Try.prog 48 #[.agg #[.int .i64 x.1, .int .i64 x.2], .agg #[.int .i64 y.1, .int .i64 y.2]] W fun e w' => e = .returned (.int .i64 (Lib.compareInt x.1 y.1)) ∧ ∃ q os', w' = Sort.grow (W.drewN q) os' := by
  have hcon := fun W' => cCmp x.1 y.1 W'
  generalize Lib.compareInt x.1 y.1 = r at hcon ⊢
  obtain ⟨x1, x2⟩ := x
  obtain ⟨y1, y2⟩ := y
  go_enter Try.func48, Try.ntmps48
  go_wp2_with (go_at_call 49; refine (hcon _).mono ?_; rintro e w' ⟨rfl, rfl⟩)
  go_ret
  exact ⟨rfl, 0, _, by rw [Sort.alloc_eq_grow, Sort.alloc_eq_grow, Sort.grow_grow]; rfl⟩
theorem cmpSp (blk off size : Nat) (w : World) : CmpLays Try.prog 48 #[] encSp 2 (fun x y : Sp => Lib.compareInt x.1 y.1) blk off size w :=
  fun _ _ _ _ x y => cClosure x y _
theorem ltSp (x y : Sp) : ltOf (fun x y : Sp => Lib.compareInt x.1 y.1) x y = decide (x.1 < y.1) := by
  unfold ltOf Lib.compareInt
  by_cases h1 : x.1 < y.1
  · simp [h1]
  · by_cases h2 : y.1 < x.1 <;> simp [h1, h2]
theorem swoSp : Sort.SWO (ltOf fun x y : Sp => Lib.compareInt x.1 y.1) where
  irrefl x := by rw [ltSp]; simp
  trans x y z h1 h2 := by rw [ltSp] at *; simp at *; omega
  ntrans x y z h1 h2 := by rw [ltSp] at *; simp at *; omega

theorem flat_sp (d : Array Sp) : Sort.flatK encSp 2 d = (spanV d.toList).toArray := by
  have hl := spanV_len d.toList
  refine Sort.ext_get! (by rw [Sort.size_flatK]; simp [hl]) fun t ht => ?_
  have ht2 : t < d.size * 2 := by rw [Sort.size_flatK] at ht; exact ht
  rw [Sort.get_flatK _ _ _ _ ht2]
  have hp : d.toList[t / 2]? = some d[t / 2]! := by
    have hlt : t / 2 < d.size := by omega
    rw [getElem!_pos d _ hlt, Array.getElem?_toList, Array.getElem?_eq_getElem hlt]
  have hv := spanV_at _ _ _ hp
  have hs : t < (spanV d.toList).toArray.size := by rw [List.size_toArray, hl]; simpa using ht2
  rw [getElem!_pos (spanV d.toList).toArray t hs, List.getElem_toArray]
  have key : ∀ u, (spanV d.toList)[t]? = some u → (spanV d.toList)[t]'(by rw [hl]; simpa using ht2) = u := fun u hu => Option.some.inj ((List.getElem?_eq_getElem _).symm.trans hu)
  have h2 : t % 2 = 0 ∨ t % 2 = 1 := by omega
  rcases h2 with h2 | h2
  · rw [h2, key _ (by rw [← hv.1]; congr 1; omega)]; rfl
  · rw [h2, key _ (by rw [← hv.2]; congr 1; omega)]; rfl
theorem holds_row {w : World} {b n c : Nat} {xs : List Sp} (h : Row w (some ⟨b, 0, none⟩) n c xs) : Sort.HoldsK encSp 2 w b 0 xs.toArray := by
  unfold Sort.HoldsK
  rw [flat_sp]
  intro j hj
  have hl := spanV_len xs
  have hjl : j < (spanV xs).length := by simpa using hj
  have hn := h.len
  rw [Nat.zero_add]
  refine ⟨?_, World.ownsRow.frozenAt h j⟩
  rw [World.ownsRow.cellAt h j (by omega), List.getElem?_eq_getElem hjl]
  simp only [id]
  rw [getElem!_pos (spanV xs.toArray.toList).toArray j (by simpa using hj)]
  simp

theorem sort_row {w : World} {b n c : Nat} {xs : List Sp} (d' : Array Sp) (q : Nat) (os : Array Obj) (h : Row w (some ⟨b, 0, none⟩) n c xs) (hs : d'.size = xs.length) (hb : b < w.heap.size) :
    Row (sortWorldK encSp 2 w b 0 q d' os) (some ⟨b, 0, none⟩) n c d'.toList ∧ w.grownBy (sortWorldK encSp 2 w b 0 q d' os) (some b) := by
  have hn := h.len
  obtain ⟨h1, h2⟩ := h
  rcases h2 with ⟨h2, _⟩ | ⟨g, cap, cur, hv, hg0, hh, hnc, hcm, hcs, htk⟩
  · injection h2 with h2; cases h2
  obtain ⟨rfl, rfl⟩ : b = g ∧ c = cap := by injection hv with e1 e2 e3; injection e1 with e1; injection e1 with e1; exact ⟨e1, e3⟩
  have hF : (Sort.flatK encSp 2 d').size = n * 2 := by rw [Sort.size_flatK, hs, hn]
  have hfl : Sort.flatK encSp 2 d' = (spanV d'.toList).toArray := flat_sp d'
  have hsl : (spanV d'.toList).length = n * 2 := by rw [spanV_len]; simp [hs, hn]
  have hheap : (sortWorldK encSp 2 w b 0 q d' os).heap = (w.heap.modify b (Sort.onCells (Sort.putCells id 0 (Sort.flatK encSp 2 d')))) ++ os := rfl
  have hblk : (sortWorldK encSp 2 w b 0 q d' os).heap[b]? = some (.cells (Sort.putCells id 0 (Sort.flatK encSp 2 d') cur) 30 (0, 0)) := by
    rw [hheap, Array.getElem?_append_left (by simpa using hb), Array.getElem?_modify, if_pos rfl, hh]; rfl
  refine ⟨⟨by rw [spanV_len]; simp [hs, hn], .inr ⟨b, c, _, rfl, Nat.zero_le _, hblk, hnc, hcm, by simp [Sort.putCells, hcs], ?_⟩⟩, ⟨rfl, rfl, rfl, by rw [hheap]; simp, fun k hk hne => ?_⟩⟩
  · apply List.ext_getElem?
    intro t
    rw [List.getElem?_take]
    by_cases ht : t < n * 2
    · rw [if_pos ht]
      have htc : t < cur.size := by rw [hcs]; have := Nat.mul_le_mul_right 2 hnc; omega
      rw [Array.getElem?_toList]
      unfold Sort.putCells
      rw [Array.getElem?_mapIdx, Array.getElem?_eq_getElem htc, Option.map_some, if_pos ⟨Nat.zero_le _, by rw [hF]; omega⟩, Nat.sub_zero, hfl, getElem!_pos (spanV d'.toList).toArray t (by simpa [hsl] using ht), List.getElem_toArray, List.getElem?_eq_getElem (by omega)]
      rfl
    · rw [if_neg ht, List.getElem?_eq_none (by omega)]
  · rw [hheap, Array.getElem?_append_left (by simpa using hk), Array.getElem?_modify, if_neg (fun e => hne (by rw [e]))]

theorem isAggSp : ∀ w, (isAgg 30).run Try.prog w = .ok true w := Try.isAgg30
theorem sizeSp : ∀ w, (Go.sizeOf 30).run Try.prog w = .ok 2 w := Try.sizeOf30

set_option maxRecDepth 100000 in
theorem cSort (b n c : Nat) (xs : List Sp) (w : World) (hbig : n ≤ 1048576) (h : Row w (some ⟨b, 0, none⟩) n c xs) :
    Calls Try.prog 47 #[.slice (some ⟨b, 0, none⟩) n c, .func (.func 48) #[] #[]] w fun e w' =>
      e = .returned (.tuple #[]) ∧ ∃ ys : List Sp, ys.Perm xs ∧ (∀ (i j : Nat) (p q : Sp), i < j → ys[i]? = some p → ys[j]? = some q → p.1 ≤ q.1) ∧ Row w' (some ⟨b, 0, none⟩) n c ys ∧ w.grownBy w' (some b) := by
  have hb : b < w.heap.size := (World.ownsRow.lt h b rfl).2
  have eg : ∀ args w, (callFunc 48 args).run Try.prog w = .ok (.enter 48 args) w := enters_of Try.func48 (by kernel_rfl) rfl
  have hsz : xs.toArray.size = n := by simp [h.len]
  have hcon := AnyQ.slices_SortFunc Try.sortSp 2 isAggSp sizeSp encSp (fun _ => rfl) (fun x v hv => by simp [encSp] at hv; rcases hv with rfl | rfl <;> rfl) (fun x y : Sp => Lib.compareInt x.1 y.1) swoSp 48 #[] b 0 c xs.toArray w eg (cmpSp b 0 _ w) (holds_row h) hb (by rw [hsz]; omega)
  change Calls Try.prog 47 _ _ _ at hcon
  rw [hsz] at hcon
  refine hcon.mono ?_
  rintro e w' ⟨he, d', q, os, hp, hs, rfl⟩
  have hd : d'.size = xs.length := by have := hp.1; simpa using this
  have hr := sort_row d' q os h hd hb
  refine ⟨he, d'.toList, ?_, ?_, hr.1, hr.2⟩
  · have h3 := hp.2.2
    have e1 : d'.extract 0 n = d' := by rw [← h.len, ← hd]; simp
    have e2 : xs.toArray.extract 0 n = xs.toArray := by rw [← hsz]; simp
    rw [e1, e2] at h3
    simpa using h3
  · intro i j p r hij hi hj
    have hjl := (List.getElem?_eq_some_iff.1 hj).1
    have hjs : j < d'.size := by simpa using hjl
    have h4 := hs i j (Nat.zero_le _) hij (by rw [← h.len, ← hd]; exact hjs)
    rw [ltSp] at h4
    have ei : d'[i]! = p := by
      rw [getElem!_pos d' i (by omega)]
      rw [Array.getElem?_toList, Array.getElem?_eq_getElem (by omega)] at hi
      exact Option.some.inj hi
    have ej : d'[j]! = r := by
      rw [getElem!_pos d' j hjs]
      rw [Array.getElem?_toList, Array.getElem?_eq_getElem hjs] at hj
      exact Option.some.inj hj
    rw [ei, ej] at h4
    simp at h4
    exact h4
end Go.Proofs.Ythlajgkelggnkaa
