/-
  The contract of impl.alphabet.keyOf: the key of a phrase, or none.
-/
import Derived.Test.YtjockiedganokaaDoorKeyTexts
import Derived.Test.YtjockiedganokaaDoorSplitLib
import Derived.Test.YtjockiedganokaaDoorSpelling
import Derived.Test.YtjockiedganokaaDoorIsPhrase
import Derived.Maps.AppendAt
namespace Go.Proofs.YtjockiedganokaaDoor
set_option linter.unusedVariables false
open Go.RowKit

/-- The key comes back, in a row of one's own; or none. -/
def KeyPost (xs : List ByteArray) (s : ByteArray) (w : World) (e : Ending) (w' : World) : Prop :=
  (canP xs s = false ∧ e = .returned (.tuple #[.slice none 0 0, .bool false]) ∧ Below w.heap.size w w') ∨
  (canP xs s = true ∧ ∃ v, e = .returned (.tuple #[v, .bool true]) ∧ w'.ownsRow w.heap.size 2 1 v (keyP xs s).length (intV (keyP xs s)) ∧ Below w.heap.size w w')
def addK (pre : List Int) (ix : List Int) (j : Nat) : List Int := pre ++ (ix.take j).map fun n => 10 + n
theorem addK_zero (pre ix : List Int) : addK pre ix 0 = pre := by simp [addK]
theorem addK_step (pre ix : List Int) (j : Nat) (x : Int) (h : ix[j]? = some x) : addK pre ix j ++ [10 + x] = addK pre ix (j + 1) := by
  have hl : j < ix.length := (List.getElem?_eq_some_iff.1 h).1
  have hx : ix[j] = x := (List.getElem?_eq_some_iff.1 h).2
  unfold addK
  rw [List.take_succ_eq_append_getElem hl, hx, List.map_append, List.append_assoc]; rfl
theorem addK_all (pre : List Int) (xs : List ByteArray) (s : ByteArray) : addK pre (idxL xs s) (idxL xs s).length = pre ++ keyW xs s := by
  unfold addK keyW; rw [List.take_of_length_le (Nat.le_refl _)]
theorem cell_blk {w w' : World} {g : Nat} (he : w'.heap[g]? = w.heap[g]?) (o : Nat) : w'.cell? ⟨g, o, none⟩ = w.cell? ⟨g, o, none⟩ := by
  simp only [World.cell?, he]
/-- Behind an append to v's row: what another block holds, it holds. -/
theorem cells_append {w w1 : World} {o : Obj} {v : Value} {gs : Nat} (hg : (w.alloc o).grownBy w1 v.ownBlock) (hl : gs < w.heap.size) (hne : v.ownBlock ≠ some gs) (j : Nat) : w1.cell? ⟨gs, j, none⟩ = w.cell? ⟨gs, j, none⟩ := by
  refine (cell_blk (hg.block gs (by simp; omega) (fun e => hne e.symm)) j).trans ?_
  exact cell_blk (Below.heap_alloc w _ gs hl) j

set_option maxHeartbeats 4000000 in
set_option maxRecDepth 100000 in
theorem cKeyOf (mb : Nat) (xs : List ByteArray) (s : ByteArray) (w : World) (hs : s.size ≤ 1048576) (hp : phraseB s = true) (h40 : xs.length ≤ 40) (hD : Dict w mb xs) (hsh : w.ShapedOpen Tryd.prog) :
    Calls Tryd.prog 72 #[.map (some mb), .string s] w (KeyPost xs s w) := by
  obtain ⟨i0, hi0, hz0, hz1, hz2⟩ := info_parts info_i64
  obtain ⟨hw1, hw2, hw3⟩ := phrase_parts s hp
  have hwd := words_le _ hw1
  have CS := Lib.hid (cSplitLib s w (by omega) hsh)
  have hk := keysW_len xs
  have HD := Lib.hid hD
  unfold KeyPost canP keyP
  obtain ⟨ws, hws⟩ : ∃ ws, ws = spaceB s := ⟨_, rfl⟩
  rw [← hws] at CS hw2 hw3 hwd ⊢
  clear hws hp hsh hD hw1
  obtain ⟨n, hn⟩ : ∃ n, n = ws.length := ⟨_, rfl⟩
  rw [← hn] at CS hw2 hw3
  have HN := Lib.hid hn
  have HK := Lib.hid hk
  have HW := Lib.hid hwd
  clear hn hk hwd
  go_enter Tryd.func72, Tryd.ntmps72
  go_wp2_with fail
  refine (show Calls Tryd.prog 106 #[.string s, .string (sepB 32)] _ _ from CS.out).mono ?_
  rintro e w1 ⟨rfl, hw1e⟩
  have hb1 : Below w.heap.size w w1 := by rw [hw1e]; exact (Below.refl _ _).alloc (Nat.le_refl _) _
  have hsz1 : w1.heap.size = w.heap.size + 1 := by rw [hw1e]; simp
  have HC1 : Hid (∀ (j : Nat) x, ws[j]? = some x → w1.cell? ⟨w.heap.size, j, none⟩ = some (.string x)) := Lib.hid (by
    intro j x hx
    rw [hw1e, World.cell?_alloc_at _ _ _ _ rfl]
    simp [strV, hx])
  have HD1 : Hid (Dict w1 mb xs) := Lib.hid (HD.out.below hb1)
  clear hw1e CS
  go_wp2_with fail
  go_loopw [6, 16] (fun kv i wr => ∃ (k m : Nat) (v : Value), k ≤ n ∧ i = .int .i64 k ∧ v = kv ∧ Hid (m = (keysW xs (ws.take k)).length) ∧ Hid (canW xs (ws.take k) = true) ∧ wr.ownsRow w1.heap.size 2 1 v m (intV (keysW xs (ws.take k))) ∧ Below w1.heap.size w1 wr) (fun _ i _ => n - (intOf i).toNat)
  case atStart => exact ⟨0, 0, _, Nat.zero_le _, rfl, rfl, Lib.hid rfl, Lib.hid rfl, World.ownsRow_nil _ _ _ _, Below.refl _ _⟩
  case round =>
    obtain ⟨k, m, v, hk, rfl, rfl, HM, HA, hown, hbw⟩ := hrel
    by_cases hlt : k < n
    · obtain ⟨x, hx⟩ : ∃ x, ws[k]? = some x := ⟨ws[k]'(by have := HN.out; omega), List.getElem?_eq_getElem _⟩
      have hcx := (hbw.cell (p := ⟨w.heap.size, k, none⟩) (by show w.heap.size < _; omega)).trans (HC1.out k x hx)
      have hxw := HW.out x (List.mem_of_getElem? hx)
      have hmb : m ≤ 136 := by
        have h1 := HK.out (ws.take k) (fun y hy => (HW.out y (List.mem_of_mem_take hy)).2)
        have h2 := HM.out
        rw [List.length_take] at h1
        have h3 : min k ws.length ≤ 8 := by have := HN.out; omega
        omega
      have CP := Lib.hid (cSpelling mb xs x wr (by omega) (HD1.out.below hbw))
      have HX := Lib.hid hx
      clear hx
      cases hsp : spellsB xs x
      · have HF := Lib.hid (canW_stop xs ws k x HX.out hsp)
        have CP2 : Hid (Calls Tryd.prog 107 #[.map (some mb), .string x] wr fun e w' => e = .returned (.tuple #[.slice none 0 0, .bool false]) ∧ Below wr.heap.size wr w') := Lib.hid (CP.out.mono (by
          rintro e w' (⟨_, h1, h2⟩ | ⟨h1, _⟩)
          · exact ⟨h1, h2⟩
          · rw [hsp] at h1; cases h1))
        clear CP hsp
        go_wp2_with (go_at_call 107; refine CP2.out.mono ?_; rintro e w2 ⟨rfl, hb2⟩)
        go_ret2
        exact .inl ⟨HF.out, rfl, hb1.trans ((hbw.mono hb1.size).trans (hb2.mono (Nat.le_trans hb1.size hbw.size)))⟩
      · have HAN := Lib.hid (canW_step xs ws k x HX.out HA.out hsp)
        have hpos := idx_pos xs x hsp hxw.1
        have hlen := idx_len xs x
        have CP2 : Hid (Calls Tryd.prog 107 #[.map (some mb), .string x] wr fun e w' => ∃ v, e = .returned (.tuple #[v, .bool true]) ∧ w'.ownsRow wr.heap.size 2 1 v (idxL xs x).length (intV (idxL xs x)) ∧ Below wr.heap.size wr w') := Lib.hid (CP.out.mono (by
          rintro e w' (⟨h1, _⟩ | ⟨_, h1⟩)
          · rw [hsp] at h1; cases h1
          · exact h1))
        clear CP hsp
        obtain ⟨ix, hix⟩ : ∃ ix, ix = idxL xs x := ⟨_, rfl⟩
        rw [← hix] at hpos hlen CP2
        have hrng : ∀ i ∈ ix, 0 ≤ i ∧ i < (xs.length : Int) := by rw [hix]; exact idx_range xs x.size x (Nat.le_refl _)
        have HIX := Lib.hid hix
        obtain ⟨L, hL⟩ : ∃ L, L = ix.length := ⟨_, rfl⟩
        rw [← hL] at hpos hlen CP2
        have HL := Lib.hid hL
        have hL16 : L ≤ 16 := by omega
        clear hix hL hlen hxw
        have hbase := hbw.size
        have hnb : ∀ g, wr.heap.size ≤ g → v.ownBlock ≠ some g := fun g hg e => by have := (hown.lt g e).2; omega
        have HNB := Lib.hid hnb
        clear hnb
        by_cases hk0 : 0 < k
        · have HKS := Lib.hid (keysW_step xs ws k x hk0 HX.out)
          go_wp2_with (first
            | (go_at_call 107; refine CP2.out.mono ?_; rintro e w2 ⟨v2, rfl, hown2, hb2⟩; obtain ⟨gs, cs, rfl, hg1, hg2⟩ := World.ownsRow.form hown2 hpos; have hownk := hown.kept (bgr hb2 none) (by rcases hh : v.ownBlock with _ | q; exact .inl rfl; exact .inr (by simp)))
            | (at_builtin; refine wpList_append_own_at _ rfl _ _ 67 rfl w1.heap.size 2 i0 _ 1 8 Tryd.underlying67 hi0 hz0 hz1 hz2 rfl (by decide) _ _ _ rfl (hownk.alloc _) ⟨w2.heap.size, 0, none⟩ 1 1 [.int .i64 0] rfl rfl (cell_one_new _ _ _) (by simp [Value.oneCell']) (by unfold maxLen; omega) (by omega) (by have := hb2.size; simp; omega) ?_; intro v3 w3 hown3 hgrow3 _ hat3))
          rw [intV_snoc] at hown3
          have hbs2 := hb2.size
          have hcs : Hid (∀ j i, ix[j]? = some i → w3.cell? ⟨gs, j, none⟩ = some (.int .i64 i)) := Lib.hid (fun j i hi => by
            refine (cells_append hgrow3 hg2 (HNB.out gs hg1) j).trans ?_
            exact (hown2.cellAt j (by have := (List.getElem?_eq_some_iff.1 hi).1; have := HL.out; omega)).trans (intV_at _ _ _ hi))
          have hne3 : v3.ownBlock ≠ some gs := by
            rcases hat3 with h | h
            · rw [h]; exact HNB.out gs hg1
            · rw [h]; intro e; have := Option.some.inj e; simp at this; omega
          have hb3 : Below w1.heap.size w1 w3 := ((hbw.trans (hb2.mono hbase)).alloc (by omega) _).grown hgrow3 (by simp; omega) (fun q hq => (hown.lt q hq).1)
          have hsz3 : gs < w3.heap.size := by have := hgrow3.size; simp at this; omega
          have HC3 := hcs
          clear hcs hgrow3 hat3 hown2 hownk hown
          go_wp2_with fail
          go_loopw [6, 36] (fun kv i wr3 => ∃ (j m3 : Nat) (v : Value), j ≤ L ∧ i = .int .i64 j ∧ v = kv ∧ Hid (m3 = (addK (keysW xs (ws.take k) ++ [0]) ix j).length) ∧ m3 ≤ 137 + j ∧ wr3.ownsRow w1.heap.size 2 1 v m3 (intV (addK (keysW xs (ws.take k) ++ [0]) ix j)) ∧ v.ownBlock ≠ some gs ∧ Hid (∀ j i, ix[j]? = some i → wr3.cell? ⟨gs, j, none⟩ = some (.int .i64 i)) ∧ gs < wr3.heap.size ∧ Below w1.heap.size w1 wr3) (fun _ i _ => L - (intOf i).toNat)
          case atStart => exact ⟨0, m + 1, v3, Nat.zero_le _, rfl, rfl, Lib.hid (by rw [addK_zero, List.length_append, HM.out]; rfl), by omega, by rw [addK_zero]; exact hown3, hne3, HC3, hsz3, hb3⟩
          case round =>
            clear hown3 hne3 HC3 hsz3 hb3
            obtain ⟨j, m3, v4, hj, rfl, rfl, HM3, hm3, hown4, hne4, HC4, hsz4, hb4⟩ := hrel
            by_cases hjl : j < L
            · obtain ⟨i, hi⟩ : ∃ i, ix[j]? = some i := ⟨ix[j]'(by have := HL.out; omega), List.getElem?_eq_getElem _⟩
              have hci := HC4.out j i hi
              have hri := hrng i (List.mem_of_getElem? hi)
              have hrg : -9223372036854775808 ≤ 10 + i ∧ 10 + i ≤ 9223372036854775807 := by omega
              have HI := Lib.hid hi
              clear hi
              go_wp2_with (at_builtin; refine wpList_append_own_at _ rfl _ _ 67 rfl w1.heap.size 2 i0 _ 1 8 Tryd.underlying67 hi0 hz0 hz1 hz2 rfl (by decide) _ _ _ rfl (hown4.alloc _) ⟨wr.heap.size, 0, none⟩ 1 1 [.int .i64 (10 + i)] rfl rfl (cell_one_new _ _ _) (by simp [Value.oneCell']) (by unfold maxLen; omega) (by omega) (by have := hb4.size; simp; omega) ?_; intro v5 w5 hown5 hgrow5 _ hat5)
              rw [intV_snoc, addK_step _ _ _ _ HI.out] at hown5
              have hc5 : Hid (∀ j i, ix[j]? = some i → w5.cell? ⟨gs, j, none⟩ = some (.int .i64 i)) := Lib.hid (fun j i hi => (cells_append hgrow5 hsz4 hne4 j).trans (HC4.out j i hi))
              have hne5 : v5.ownBlock ≠ some gs := by
                rcases hat5 with h | h
                · rw [h]; exact hne4
                · rw [h]; intro e; have := Option.some.inj e; simp at this; omega
              have hb5 : Below w1.heap.size w1 w5 := (hb4.alloc hb4.size _).grown hgrow5 (by have := hb4.size; simp; omega) (fun q hq => (hown4.lt q hq).1)
              have hsz5 : gs < w5.heap.size := by have := hgrow5.size; simp at this; omega
              clear hgrow5 hat5 hown4 hb4 hci
              go_wp2_with fail
              go_roundw
              case rel => exact ⟨j + 1, m3 + 1, v5, by omega, by go_num, rfl, Lib.hid (by rw [← addK_step _ _ _ _ HI.out, List.length_append, HM3.out]; rfl), by omega, hown5, hne5, hc5, hsz5, hb5⟩
              case measure => simp [intOf]; omega
            · obtain rfl : j = L := by omega
              rw [HL.out, HIX.out, addK_all, List.append_assoc] at hown4
              have HM4 := HM3.out
              rw [HL.out, HIX.out, addK_all, List.append_assoc] at HM4
              have HM5 := Lib.hid HM4
              clear HM4
              have hown6 : wr.ownsRow w1.heap.size 2 1 v4 m3 (intV (keysW xs (ws.take (k + 1)))) := by rw [HKS.out]; exact hown4
              go_wp2_with fail
              go_roundw
              case rel => exact ⟨k + 1, m3, v4, by omega, by go_num, rfl, Lib.hid (by rw [HKS.out]; exact HM5.out), HAN, hown6, hb4⟩
              case measure => simp [intOf]; omega
        · have hm0 : m = 0 := by
            have h1 := HM.out
            rw [show k = 0 by omega] at h1
            exact h1
          have HKS := Lib.hid (show keysW xs (ws.take (k + 1)) = keysW xs (ws.take k) ++ keyW xs x from by
            have h1 := keysW_first xs ws x (by rw [← show k = 0 by omega]; exact HX.out)
            rw [show k = 0 by omega]; exact h1)
          go_wp2_with (go_at_call 107; refine CP2.out.mono ?_; rintro e w2 ⟨v2, rfl, hown2, hb2⟩; obtain ⟨gs, cs, rfl, hg1, hg2⟩ := World.ownsRow.form hown2 hpos; have hownk := hown.kept (bgr hb2 none) (by rcases hh : v.ownBlock with _ | q; exact .inl rfl; exact .inr (by simp)))
          have hbs2 := hb2.size
          have HC3 : Hid (∀ j i, ix[j]? = some i → w2.cell? ⟨gs, j, none⟩ = some (.int .i64 i)) := Lib.hid (fun j i hi =>
            (hown2.cellAt j (by have := (List.getElem?_eq_some_iff.1 hi).1; have := HL.out; omega)).trans (intV_at _ _ _ hi))
          have hne3 : v.ownBlock ≠ some gs := HNB.out gs hg1
          have hb3 : Below w1.heap.size w1 w2 := hbw.trans (hb2.mono hbase)
          clear hown
          go_loopw [6, 36] (fun kv i wr3 => ∃ (j m3 : Nat) (v : Value), j ≤ L ∧ i = .int .i64 j ∧ v = kv ∧ Hid (m3 = (addK (keysW xs (ws.take k)) ix j).length) ∧ m3 ≤ j ∧ wr3.ownsRow w1.heap.size 2 1 v m3 (intV (addK (keysW xs (ws.take k)) ix j)) ∧ v.ownBlock ≠ some gs ∧ Hid (∀ j i, ix[j]? = some i → wr3.cell? ⟨gs, j, none⟩ = some (.int .i64 i)) ∧ gs < wr3.heap.size ∧ Below w1.heap.size w1 wr3) (fun _ i _ => L - (intOf i).toNat)
          case atStart => exact ⟨0, m, v, Nat.zero_le _, rfl, rfl, Lib.hid (by rw [addK_zero]; exact HM.out), by omega, by rw [addK_zero]; exact hownk, hne3, HC3, hg2, hb3⟩
          case round =>
            clear hownk hne3 HC3 hg2 hb3 hown2
            obtain ⟨j, m3, v4, hj, rfl, rfl, HM3, hm3, hown4, hne4, HC4, hsz4, hb4⟩ := hrel
            by_cases hjl : j < L
            · obtain ⟨i, hi⟩ : ∃ i, ix[j]? = some i := ⟨ix[j]'(by have := HL.out; omega), List.getElem?_eq_getElem _⟩
              have hci := HC4.out j i hi
              have hri := hrng i (List.mem_of_getElem? hi)
              have hrg : -9223372036854775808 ≤ 10 + i ∧ 10 + i ≤ 9223372036854775807 := by omega
              have HI := Lib.hid hi
              clear hi
              go_wp2_with (at_builtin; refine wpList_append_own_at _ rfl _ _ 67 rfl w1.heap.size 2 i0 _ 1 8 Tryd.underlying67 hi0 hz0 hz1 hz2 rfl (by decide) _ _ _ rfl (hown4.alloc _) ⟨wr.heap.size, 0, none⟩ 1 1 [.int .i64 (10 + i)] rfl rfl (cell_one_new _ _ _) (by simp [Value.oneCell']) (by unfold maxLen; omega) (by omega) (by have := hb4.size; simp; omega) ?_; intro v5 w5 hown5 hgrow5 _ hat5)
              rw [intV_snoc, addK_step _ _ _ _ HI.out] at hown5
              have hc5 : Hid (∀ j i, ix[j]? = some i → w5.cell? ⟨gs, j, none⟩ = some (.int .i64 i)) := Lib.hid (fun j i hi => (cells_append hgrow5 hsz4 hne4 j).trans (HC4.out j i hi))
              have hne5 : v5.ownBlock ≠ some gs := by
                rcases hat5 with h | h
                · rw [h]; exact hne4
                · rw [h]; intro e; have := Option.some.inj e; simp at this; omega
              have hb5 : Below w1.heap.size w1 w5 := (hb4.alloc hb4.size _).grown hgrow5 (by have := hb4.size; simp; omega) (fun q hq => (hown4.lt q hq).1)
              have hsz5 : gs < w5.heap.size := by have := hgrow5.size; simp at this; omega
              clear hgrow5 hat5 hown4 hb4 hci
              go_wp2_with fail
              go_roundw
              case rel => exact ⟨j + 1, m3 + 1, v5, by omega, by go_num, rfl, Lib.hid (by rw [← addK_step _ _ _ _ HI.out, List.length_append, HM3.out]; rfl), by omega, hown5, hne5, hc5, hsz5, hb5⟩
              case measure => simp [intOf]; omega
            · obtain rfl : j = L := by omega
              rw [HL.out, HIX.out, addK_all] at hown4
              have HM4 := HM3.out
              rw [HL.out, HIX.out, addK_all] at HM4
              have HM5 := Lib.hid HM4
              clear HM4
              have hown6 : wr.ownsRow w1.heap.size 2 1 v4 m3 (intV (keysW xs (ws.take (k + 1)))) := by rw [HKS.out]; exact hown4
              go_wp2_with fail
              go_roundw
              case rel => exact ⟨k + 1, m3, v4, by omega, by go_num, rfl, Lib.hid (by rw [HKS.out]; exact HM5.out), HAN, hown6, hb4⟩
              case measure => simp [intOf]; omega
    · have hall : ws.take k = ws := List.take_of_length_le (by have := HN.out; omega)
      rw [hall] at hown HM HA
      go_wp2_with fail
      go_ret2
      refine .inr ⟨HA.out, _, rfl, ?_, hb1.trans (hbw.mono hb1.size)⟩
      rw [← HM.out]
      exact rowBase hown hb1.size
end Go.Proofs.YtjockiedganokaaDoor
