/-
  The contracts of impl.FirstLetters and spec.FirstLetters.
-/
import Derived.Test.YtjockiedganokaaDoorKeysOf
import Derived.Test.YtjockiedganokaaDoorOnceS
import Derived.Test.YtjockiedganokaaDoorSl
import Derived.Test.YtjockiedganokaaDoorNumAt
import Derived.Sort.OwnSortedInts
namespace Go.Proofs.YtjockiedganokaaDoor
set_option linter.unusedVariables false
open Go.RowKit Go.Lib

/-- The first letter of a phrase; those of a list. -/
def fstP (xs : List ByteArray) (s : ByteArray) : Int := ((keyP xs s)[0]?).getD 0 - 10
def fstL (xs ls : List ByteArray) : List Int := ls.map (fstP xs)
theorem fstP_at (xs : List ByteArray) (s : ByteArray) (h : phraseB s = true) (hc : canP xs s = true) : ∃ (w : ByteArray) (i : Int), (spaceB s)[0]? = some w ∧ (idxL xs w)[0]? = some i ∧ (keyP xs s)[0]? = some (10 + i) ∧ fstP xs s = i ∧ 0 ≤ i ∧ i < (xs.length : Int) := by
  obtain ⟨w, i, h1, h2, h3, h4, h5⟩ := key_first xs s h hc
  exact ⟨w, i, h1, h2, h3, by unfold fstP; rw [h3]; show 10 + i - 10 = i; omega, h4, h5⟩
def flZ (xs ls : List ByteArray) : List Int := if codeK xs ls [] ls.length = 0 then firstF (fstL xs ls) xs.length else []
theorem flZ_no (xs ls : List ByteArray) (h : codeK xs ls [] ls.length ≠ 0) : flZ xs ls = [] := by unfold flZ; rw [if_neg h]
theorem flZ_yes (xs ls : List ByteArray) (h : codeK xs ls [] ls.length = 0) : flZ xs ls = firstF (fstL xs ls) xs.length := by unfold flZ; rw [if_pos h]
theorem flZ_len (xs ls : List ByteArray) : (flZ xs ls).length ≤ 40 := by
  unfold flZ; split
  · rename_i h
    have hz := codeK_zero h
    have := (alpha_len xs hz.1).2
    unfold firstF
    have h2 := List.length_filter_le (fun k => decide (k ∈ fstL xs ls)) (upTo xs.length)
    have h3 : (upTo xs.length).length = xs.length := by simp [upTo]
    omega
  · exact Nat.zero_le _
/-- The row zs and a code come back; the row is new. -/
def FLOut (zs : List Int) (code : Int) (w : World) (e : Ending) (w' : World) : Prop :=
  ∃ A n c, e = .returned (.tuple #[.slice A n c, .int .i64 code]) ∧ w'.ownsRow w.heap.size 2 1 (.slice A n c) n (intV zs) ∧ Below w.heap.size w w'

theorem cSortI (B n c g : Nat) (xs : List Int) (w : World) (hn : n = xs.length) (hs : n ≤ 1048576) (h : w.ownsRow B 2 1 (.slice (some ⟨g, 0, none⟩) n c) n (intV xs)) (hB : B ≤ w.heap.size) :
    Calls Tryd.prog 63 #[.slice (some ⟨g, 0, none⟩) n c] w fun e w' => e = .returned (.tuple #[]) ∧ w'.ownsRow B 2 1 (.slice (some ⟨g, 0, none⟩) n c) n (intV (xs.mergeSort fun x y => decide (x ≤ y))) ∧ Below B w w' := by
  rcases h.2 with ⟨he, h0⟩ | ⟨g', cap, cur, hv, hg, hb, h1, h2, h3, h4⟩
  · cases he
  · obtain ⟨rfl, rfl⟩ : g = g' ∧ c = cap := by injection hv with e1 e2 e3; injection e1 with e1; injection e1 with e1; exact ⟨e1, e3⟩
    subst hn
    have hH : Sort.Holds (Value.int .i64) w g 0 xs.toArray := holds_of_blockI hb (by rw [Nat.mul_one] at h4; exact h4)
    have hlt := (Array.getElem?_eq_some_iff.1 hb).1
    refine (show Calls Tryd.prog _ _ _ _ from AnyG.slices_Sort_int Tryd.sortI g 0 c xs w hH hlt (by omega)).mono ?_
    rintro e w' ⟨rfl, m, os, rfl⟩
    have hl : (xs.mergeSort fun x y => decide (x ≤ y)).length = xs.length := List.length_mergeSort _
    refine ⟨rfl, ownsRow_sortedI hl hg hb h1 h2 h3, (Below.refl B w).grown (grownBy_sortedI _) hB (fun k hk => by cases hk; exact hg)⟩
theorem own_prefix {w : World} {B g n m c : Nat} {xs : List Value} (h : w.ownsRow B 2 1 (.slice (some ⟨g, 0, none⟩) n c) n xs) (hm : m ≤ n) : w.ownsRow B 2 1 (.slice (some ⟨g, 0, none⟩) m c) m (xs.take m) := by
  have hl := h.1
  rcases h.2 with ⟨he, h0⟩ | ⟨g', cap, cur, hv, hg, hb, h1, h2, h3, h4⟩
  · cases he
  · obtain ⟨rfl, rfl⟩ : g = g' ∧ c = cap := by injection hv with e1 e2 e3; injection e1 with e1; injection e1 with e1; exact ⟨e1, e3⟩
    refine ⟨by rw [List.length_take]; omega, .inr ⟨g, c, cur, rfl, hg, hb, by omega, h2, h3, ?_⟩⟩
    rw [← h4, List.take_take]
    congr 1; omega
theorem compact_le (zs : List Int) : (compact zs).length ≤ zs.length := by
  unfold compact compactUpTo
  rw [List.length_map]
  have := List.length_filter_le (keeps zs.toArray) (List.range zs.length)
  simpa using this
theorem cCompI (B n c g : Nat) (xs : List Int) (w : World) (hn : n = xs.length) (hs : n ≤ 1048576) (h : w.ownsRow B 2 1 (.slice (some ⟨g, 0, none⟩) n c) n (intV xs)) (hB : B ≤ w.heap.size) :
    Calls Tryd.prog 64 #[.slice (some ⟨g, 0, none⟩) n c] w fun e w' => e = .returned (.slice (some ⟨g, 0, none⟩) (compact xs).length c) ∧ w'.ownsRow B 2 1 (.slice (some ⟨g, 0, none⟩) (compact xs).length c) (compact xs).length (intV (compact xs)) ∧ Below B w w' := by
  rcases h.2 with ⟨he, h0⟩ | ⟨g', cap, cur, hv, hg, hb, h1, h2, h3, h4⟩
  · cases he
  · obtain ⟨rfl, rfl⟩ : g = g' ∧ c = cap := by injection hv with e1 e2 e3; injection e1 with e1; injection e1 with e1; exact ⟨e1, e3⟩
    subst hn
    have hH : Sort.Holds (Value.int .i64) w g 0 xs.toArray := holds_of_blockI hb (by rw [Nat.mul_one] at h4; exact h4)
    refine (show Calls Tryd.prog _ _ _ _ from AnyG.slices_Compact_int Tryd.compI g 0 c xs w hH (by omega) h1).mono ?_
    rintro e w' ⟨rfl, q, rfl⟩
    have hcl := compact_le xs
    have hl : (compact xs ++ List.replicate (xs.length - (compact xs).length) 0).length = xs.length := by simp; omega
    have hgrow : Sort.putRow (Value.int .i64) (Sort.ahead w q) g 0 (compact xs ++ List.replicate (xs.length - (compact xs).length) 0).toArray = Sort.grow (Sort.putRow (Value.int .i64) (Sort.ahead w q) g 0 (compact xs ++ List.replicate (xs.length - (compact xs).length) 0).toArray) #[] := by rw [Sort.grow_empty]
    have ho := ownsRow_sortedI (n := q) (os := #[]) hl hg hb h1 h2 h3
    have hp := own_prefix ho hcl
    have htk : ((compact xs ++ List.replicate (xs.length - (compact xs).length) 0).map (Value.int .i64)).take (compact xs).length = intV (compact xs) := by
      rw [← List.map_take, List.take_left]; rfl
    rw [htk] at hp
    rw [hgrow]
    exact ⟨rfl, hp, (Below.refl B w).grown (grownBy_sortedI _) hB (fun k hk => by cases hk; exact hg)⟩

set_option maxHeartbeats 4000000 in
set_option maxRecDepth 100000 in
theorem tFL_impl (A A1 : Option Addr) (n n1 c c1 : Nat) (xs ls : List ByteArray) (w : World) (hbig : n ≤ 1048576) (hs : ∀ x ∈ xs, x.size ≤ maxLen) (h : TextAt w w.heap.size A n xs) (h1 : SrcT w A1 n1 c1 ls) (hb1 : n1 ≤ 1048576) (hs1 : ∀ x ∈ ls, x.size ≤ 1048576) (hsh : w.ShapedOpen Tryd.prog) :
    Calls Tryd.prog 36 #[.slice A n c, .slice A1 n1 c1] w (FLOut (flZ xs ls) (codeK xs ls [] ls.length) w) := by
  obtain ⟨i0, hi0, hz0, hz1, hz2⟩ := info_parts info_i64
  have CK := Lib.hid (cKeysOf A A1 none none n n1 0 0 c c1 0 0 xs ls [] [] w hbig hs h h1 hb1 hs1 ⟨rfl, fun h => absurd h (by omega)⟩ (by unfold maxLen; omega) (.inl ⟨rfl, rfl, rfl, rfl⟩) (by omega) (by simp) hsh)
  rw [List.append_nil] at CK
  have hcl : codeK xs ls [] n1 = codeK xs ls [] ls.length := by rw [h1.len]
  have hll : ls.length ≤ 1048576 := by rw [← h1.len]; exact hb1
  have HCL := Lib.hid hcl
  unfold FLOut
  clear h h1 hs hsh hs1 hcl
  go_enter Tryd.func36, Tryd.ntmps36
  go_wp2_with fail
  refine CK.out.mono ?_
  rintro e w1 (⟨h1, rfl, hbn⟩ | ⟨h1, g, vs, rfl, hown, hg1, hg2, hks, hbn⟩)
  · have hd : (codeK xs ls [] n1 != 0) = true := by simp [h1]
    have HZ := Lib.hid (flZ_no xs ls (by rw [← HCL.out]; exact h1))
    clear h1 CK
    go_wp2_with fail
    go_ret2
    refine ⟨none, 0, 0, ?_, by rw [HZ.out]; exact World.ownsRow_nil _ _ _ _, hbn⟩
    rw [← HCL.out]; rfl
  · rw [HCL.out] at h1
    have hz := codeK_zero h1
    have HZ := Lib.hid (flZ_yes xs ls h1)
    have H0 := Lib.hid h1
    have hlx := (alpha_len xs hz.1).2
    have hcan : ∀ y ∈ ls, canP xs y = true := by have := hz.2.2.2.1; rw [List.all_eq_true] at this; exact this
    have hfst : ∀ y ∈ ls, 0 ≤ fstP xs y ∧ fstP xs y < (xs.length : Int) := fun y hy => by
      obtain ⟨_, i, _, _, _, h4, h5, h6⟩ := fstP_at xs y (phrasesB_mem ls hz.2.1 y hy) (hcan y hy)
      rw [h4]; exact ⟨h5, h6⟩
    have HCS : Hid (compact ((fstL xs ls).mergeSort fun x y => decide (x ≤ y)) = firstF (fstL xs ls) xs.length) := Lib.hid (compact_sort _ _ (fun x hx => by
      unfold fstL at hx
      rw [List.mem_map] at hx
      obtain ⟨y, hy, rfl⟩ := hx
      exact hfst y hy))
    have HKEY : Hid (∀ (k : Nat) y, ls[k]? = some y → ∃ b c L, w1.cell? ⟨g, k, none⟩ = some (.slice (some ⟨b, 0, none⟩) L c) ∧ 0 < L ∧ b < w1.heap.size ∧ w1.cell? ⟨b, 0, none⟩ = some (.int .i64 (10 + fstP xs y)) ∧ 0 ≤ fstP xs y ∧ fstP xs y < 40) := Lib.hid (fun k y hy => by
      have hk := (List.getElem?_eq_some_iff.1 hy).1
      have hvl : k < vs.length := by have := hks.1; rw [List.length_map] at this; omega
      have hv : vs[k]? = some vs[k] := List.getElem?_eq_getElem hvl
      obtain ⟨b, c, e1, e2, e3, e4, e5, e6⟩ := hks.2 k _ (keyP xs y) hv (by rw [List.getElem?_map, hy]; rfl)
      obtain ⟨_, i, _, _, h3, h4, h5, h6⟩ := fstP_at xs y (phrasesB_mem ls hz.2.1 y (List.mem_of_getElem? hy)) (hcan y (List.mem_of_getElem? hy))
      refine ⟨b, c, (keyP xs y).length, ?_, (List.getElem?_eq_some_iff.1 h3).1, e3, ?_, by omega, by omega⟩
      · rw [hown.cellAt k (by omega), hv, e1]
      · rw [h4]; exact e6 0 _ h3)
    have hd : (codeK xs ls [] n1 != 0) = false := by rw [HCL.out, h1]; rfl
    obtain ⟨fs, hfs⟩ : ∃ fs, fs = fstL xs ls := ⟨_, rfl⟩
    have HFS : Hid (∀ (k : Nat) y, ls[k]? = some y → fs[k]? = some (fstP xs y)) := Lib.hid (fun k y hy => by rw [hfs]; unfold fstL; rw [List.getElem?_map, hy]; rfl)
    have hfl : fs.length = ls.length := by rw [hfs]; unfold fstL; exact List.length_map ..
    rw [← hfs] at HCS HZ
    obtain ⟨N, hN⟩ : ∃ N, N = ls.length := ⟨_, rfl⟩
    rw [← hN] at hll hfl ⊢
    have HN := Lib.hid hN
    have HFL := Lib.hid hfl
    clear h1 CK hz hks hown hfs hN hfl hcan hfst
    go_wp2_with (at_make; refine wpList_make_full _ rfl _ _ 25 rfl w1.heap.size 2 i0 _ 1 Tryd.underlying25 hi0 hz0 hz1 _ _ _ _ N rfl rfl (by simp) (by simp) ?b2 ?b3 (Nat.le_refl _) ?_)
    case b2 => rw [hz2]; omega
    case b3 => unfold maxLen; omega
    intro w2 hown2 hgrow2
    rw [copyI_zero fs] at hown2
    have hb2 : Below w1.heap.size w1 w2 := (Below.refl _ _).grown hgrow2 (Nat.le_refl _) (fun k h => by cases h)
    clear hgrow2
    go_wp2_with fail
    go_loopw [25] (fun i wr => ∃ k : Nat, k ≤ N ∧ i = .int .i64 k ∧ wr.ownsRow w1.heap.size 2 1 (.slice (some ⟨w1.heap.size, 0, none⟩) N N) N (copyI fs N k) ∧ Below w1.heap.size w1 wr) (fun i _ => N - (intOf i).toNat)
    case atStart => exact ⟨0, Nat.zero_le _, rfl, hown2, hb2⟩
    case round =>
      clear hown2 hb2
      obtain ⟨k, hk, rfl, hown, hbw⟩ := hrel
      by_cases hlt : k < N
      · obtain ⟨y, hy⟩ : ∃ y, ls[k]? = some y := ⟨ls[k]'(by have := HN.out; omega), List.getElem?_eq_getElem _⟩
        obtain ⟨b, cb, L, k1, k2, k3, k4, k5, k6⟩ := HKEY.out k y hy
        have hfk := HFS.out k y hy
        obtain ⟨i, hi⟩ : ∃ i, i = fstP xs y := ⟨_, rfl⟩
        rw [← hi] at k4 k5 k6 hfk
        have c1 := (hbw.cell (p := ⟨g, k, none⟩) hg2).trans k1
        have c2 := (hbw.cell (p := ⟨b, 0, none⟩) k3).trans k4
        obtain ⟨v4, c4⟩ : ∃ v, wr.cell? ⟨w1.heap.size, k, none⟩ = some v := by
          have hl : k < (copyI fs N k).length := by have := hown.1; omega
          exact ⟨_, (hown.cellAt k (by omega)).trans (List.getElem?_eq_getElem hl)⟩
        have f4 := hown.frozenAt k
        have hst := (hown.stored k (.int .i64 i)).1
        rw [copyI_step fs N k i HFL.out.symm hfk] at hst
        have hbw1 : Below w1.heap.size w1 (wr.setCell ⟨w1.heap.size, k, none⟩ (.int .i64 i)) := hbw.setCell (Nat.le_refl _) _
        have e1 : (0 : Int) ≤ (k : Int) := Int.natCast_nonneg _
        have e2 : (k : Int) < (N : Int) := by omega
        have e3 : (0 : Int) < (L : Int) := by omega
        have s1 : (10 : Int) + i - 10 = i := by omega
        clear hy hi hfk hown k1 k4
        go_wp2_with fail
        go_roundw
        case rel => exact ⟨k + 1, by omega, by go_num, hst, hbw1⟩
        case measure => simp [intOf]; omega
      · obtain rfl : k = N := by omega
        rw [copyI_all fs k HFL.out.symm] at hown
        have CSO := Lib.hid (cSortI w1.heap.size k k w1.heap.size fs wr HFL.out.symm hll hown hbw.size)
        clear hown
        go_wp2_with fail
        refine CSO.out.mono ?_
        rintro e w3 ⟨rfl, hown3, hb3⟩
        have hml : k = (fs.mergeSort fun x y => decide (x ≤ y)).length := by rw [List.length_mergeSort]; exact HFL.out.symm
        have CCO := Lib.hid (cCompI w1.heap.size k k w1.heap.size _ w3 hml hll hown3 (Nat.le_trans hbw.size hb3.size))
        rw [HCS.out] at CCO
        clear hown3 CSO hml
        obtain ⟨Z, hZ⟩ : ∃ Z, Z = firstF fs xs.length := ⟨_, rfl⟩
        rw [← hZ] at CCO HZ
        clear hZ
        go_wp2_with fail
        refine CCO.out.mono ?_
        rintro e w4 ⟨rfl, hown4, hb4⟩
        go_wp2_with fail
        go_ret2
        refine ⟨some ⟨w1.heap.size, 0, none⟩, Z.length, k, ?_, ?_, ?_⟩
        · rw [HN.out, H0.out]; first | rfl | done
        · rw [HZ.out]; exact rowBase hown4 hbn.size
        · exact hbn.trans (((hbw.trans hb3).trans hb4).mono hbn.size)
end Go.Proofs.YtjockiedganokaaDoor
