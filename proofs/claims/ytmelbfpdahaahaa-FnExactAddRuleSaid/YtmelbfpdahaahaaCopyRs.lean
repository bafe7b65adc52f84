/-
  The contract of impl.copyRules.
-/
import Derived.Test.YtmelbfpdahaahaaUsePlain
import Derived.Deep.RegionHeld3
import Derived.Shelf.SlicesE.Clone
namespace Go.Proofs
open Go.Shelf
def Try.cloneI_ren : Go.Shelf.Ren := ⟨fun | 41 => 54 | n => n, fun | 22 => 24 | 23 => 2 | 4 => 4 | n => n, fun | n => n⟩
theorem Try.cloneI : Go.Proofs.SlLaysE0.n41 Try.prog Try.cloneI_ren := {
  mixed := by kernel_rfl
  f41 := ⟨Try.f54.name, by decide, Try.func54.trans (congrArg some (by kernel_rfl))⟩
  t4 := Try.underlying4
  a4 := Try.isAgg4
  z4 := Try.sizeOf4
  v4 := Try.zeroValue4
  t22 := Try.underlying24
  a22 := Try.isAgg24
  z22 := Try.sizeOf24
  v22 := Try.zeroValue24 }
open Go.RowKit Go.Lib in
theorem Try.slices_Clone (i0 : TypeInfo) (z : Value) (size bytes : Nat) (hi : Try.prog.info? 2 = some i0) (hz0 : i0.zero = some z) (hz1 : i0.size = size) (hz2 : i0.bytes = bytes) (hzs : z.cells.size = size) (hsz : 0 < size) (z23 : ∀ w, (Go.sizeOf 2).run Try.prog w = .ok size w) (b off n c : Nat) (news : List Value) (w : World) (hl : news.length = n * size) (hn : n ≤ maxLen) (hbig : n * bytes ≤ 140737488355328) (hc : ∀ j u, news[j]? = some u → w.cell? ⟨b, off + j, none⟩ = some u) (h1 : ∀ u ∈ news, u.oneCell' = true) :
    Calls Try.prog 54 #[.slice (some ⟨b, off, none⟩) n c] w fun e w' => ∃ v', e = .returned v' ∧ w'.ownsRow w.heap.size 2 size v' n news ∧ v' ≠ .slice none 0 0 ∧ Below w.heap.size w w' := AnyE.slices_Clone Try.cloneI i0 z size bytes hi hz0 hz1 hz2 hzs hsz z23 b off n c news w hl hn hbig hc h1
end Go.Proofs
namespace Go.Proofs.Ytmelbfpdahaahaa
set_option linter.unusedVariables false
open Go.RowKit

/-- Two cells of a block, through a drawn region that stores elsewhere. -/
def TwoC (b : Nat) (u v : Value) (W : World) : Prop := W.cell? ⟨b, 0, none⟩ = some u ∧ W.cell? ⟨b, 1, none⟩ = some v ∧ b < W.heap.size
theorem TwoC.keep {W W' : World} {b : Nat} {u v : Value} (h : TwoC b u v W) (hb : Below W.heap.size W W') : TwoC b u v W' :=
  ⟨(hb.cell (p := ⟨b, 0, none⟩) h.2.2).trans h.1, (hb.cell (p := ⟨b, 1, none⟩) h.2.2).trans h.2.1, Nat.lt_of_lt_of_le h.2.2 hb.size⟩
theorem TwoC.set {W : World} {b : Nat} {u v : Value} (h : TwoC b u v W) (g i j : Nat) (x y : Value) (hne : b ≠ g) : TwoC b u v ((W.setCell ⟨g, i, none⟩ x).setCell ⟨g, j, none⟩ y) := by
  have e : ((W.setCell ⟨g, i, none⟩ x).setCell ⟨g, j, none⟩ y).heap[b]? = W.heap[b]? := by
    rw [Below.heap_setCell _ _ _ _ (by exact hne), Below.heap_setCell _ _ _ _ (by exact hne)]
  exact ⟨(World.cell?_of_block e).trans h.1, (World.cell?_of_block e).trans h.2.1, by simpa using h.2.2⟩

theorem intV_get {xs : List Int} {j : Nat} {u : Value} (h : (intV xs)[j]? = some u) : ∃ x, xs[j]? = some x ∧ u = .int .i64 x := by
  unfold intV at h
  rw [List.getElem?_map] at h
  cases hx : xs[j]? with
  | none => rw [hx] at h; cases h
  | some x => rw [hx] at h; exact ⟨x, rfl, (Option.some.inj h).symm⟩
theorem row_some {w : World} {B n : Nat} {v : Value} {t : TypeId} {s : Nat} {xs : List Value} (h : w.ownsRow B t s v n xs) (hn : v ≠ .slice none 0 0) : ∃ g c, v = .slice (some ⟨g, 0, none⟩) n c ∧ B ≤ g ∧ g < w.heap.size := by
  have hl := h.lt
  rcases h.2 with ⟨h0, _⟩ | ⟨g, cap, cur, rfl, _⟩
  · exact absurd h0 hn
  · exact ⟨g, cap, rfl, hl g rfl⟩
set_option maxHeartbeats 2000000 in
set_option maxRecDepth 100000 in
theorem cCopyRs (A : Option Addr) (n cap : Nat) (rs : List Ru) (w : World) (hbig : n ≤ 1048576) (hp : ∀ r ∈ rs, 1 ≤ r.1.length ∧ r.1.length ≤ 1048576) (h : RulesAt w w.heap.size A n rs) :
    Calls Try.prog 41 #[.slice A n cap] w (ToRsPost n rs w) := by
  obtain ⟨i0, hi0, hz0, hz1, hz2⟩ := info_parts info_rule
  obtain ⟨i1, hi1, y0, y1, y2⟩ := info_parts info_i64
  have HL := Lib.hid h.1
  have H := Lib.hid h
  have HPP := Lib.hid hp
  clear h hp
  go_enter Try.func41, Try.ntmps41
  go_wp2_with (at_make; refine wpList_make_full _ rfl _ _ 27 rfl w.heap.size 39 i0 _ 2 Try.underlying27 hi0 hz0 hz1 _ _ _ _ n rfl rfl (by simp) (by simp) ?b2 ?b3 (Nat.le_refl _) ?_)
  case b2 => rw [hz2]; omega
  case b3 => unfold maxLen; omega
  intro w0 hown0 hgrow0
  rw [zerosR_made] at hown0
  have hb0 : Below w.heap.size w w0 := (Below.refl _ _).grown hgrow0 (Nat.le_refl _) (fun k h => by cases h)
  have HP0 : Hid (PartR w0 w.heap.size w.heap.size n n []) := Lib.hid ⟨Nat.zero_le _, hown0, by simp, by simp⟩
  clear hgrow0 hown0
  go_wp2
  go_loopw [11] (fun i wr => ∃ (k : Nat) (es : List El), k ≤ n ∧ i = .int .i64 k ∧ Hid (es.length = k ∧ rulesOf es = rs.take k) ∧ Hid (PartR wr w.heap.size w.heap.size n n es) ∧ Below w.heap.size w wr) (fun i _ => n - (intOf i).toNat)
  case atStart => exact ⟨0, [], Nat.zero_le _, rfl, Lib.hid ⟨rfl, by simp [rulesOf]⟩, HP0, hb0⟩
  case round =>
    clear HP0 hb0
    obtain ⟨k, es, hk, rfl, HE, HP, hbw⟩ := hrel
    by_cases hlt : k < n
    · obtain ⟨q, hq⟩ : ∃ q, rs[k]? = some q := ⟨rs[k]'(by have := HL.out; omega), List.getElem?_eq_getElem _⟩
      obtain ⟨b, o, rfl, hbl, A', n', c', k0, k1, k2, k3, k4⟩ := (H.out.below hbw (Nat.le_refl _)).row hq
      have hlen : n' = q.1.length := k2.1
      have hq1 := HPP.out q (List.mem_of_getElem? hq)
      obtain ⟨b1, o1, rfl, hb1l, hcel⟩ := k2.2 (by omega)
      have hws := hbw.size
      have hlt2 : w.heap.size < wr.heap.size := HP.out.glt.2
      have HQ := Lib.hid hq
      have HLEN := Lib.hid hlen
      have HCEL := Lib.hid hcel
      have hn1 : n' ≤ 1048576 := by omega
      clear hq hlen k2 k3 k4 hq1 hcel
      go_wp2_with fail
      obtain ⟨W1, hW1⟩ : ∃ W1, W1 = wr.alloc (.cells #[.slice (some ⟨b1, o1, none⟩) n' c', .string q.2] 39) := ⟨_, rfl⟩
      obtain ⟨l0, a0, a1⟩ : PairAt W1 wr.heap.size (.slice (some ⟨b1, o1, none⟩) n' c') (.string q.2) := by rw [hW1]; exact PairAt.new wr _ _ _
      have hbA : Below wr.heap.size wr W1 := by rw [hW1]; exact alloc_below _ _
      have HBA := Lib.hid hbA
      have HP1 := Lib.hid (HP.out.below hbA)
      have C := Lib.hid (fun (W : World) (hW : Below W1.heap.size W1 W) => Try.slices_Clone i1 _ 1 8 hi1 y0 y1 y2 rfl (by decide) Try.sizeOf2 b1 o1 n' c' (intV q.1) W (by rw [intV_len, HLEN.out]; omega) (by unfold maxLen; omega) (by omega)
        (fun j u hu => by
          obtain ⟨x, hx, rfl⟩ := intV_get hu
          exact (hW.cell (p := ⟨b1, o1 + j, none⟩) (Nat.lt_of_lt_of_le hb1l (Nat.le_trans hws hbA.size))).trans ((hbA.cell (p := ⟨b1, o1 + j, none⟩) (Nat.lt_of_lt_of_le hb1l hws)).trans (HCEL.out j x hx)))
        (fun u hu => by
          obtain ⟨j, hj, rfl⟩ := List.getElem_of_mem hu
          obtain ⟨x, _, e⟩ := intV_get (List.getElem?_eq_getElem hj)
          rw [e]; rfl))
      have HSP : Hid (∀ W, Below W1.drew.heap.size W1.drew W → (∃ v, W.cell? ⟨w.heap.size, k * 2, none⟩ = some v) ∧ (∃ v, W.cell? ⟨w.heap.size, k * 2 + 1, none⟩ = some v) ∧ W.frozen? ⟨w.heap.size, k * 2, none⟩ = false ∧ W.frozen? ⟨w.heap.size, k * 2 + 1, none⟩ = false) := Lib.hid (fun W hW => by
        have hp1 := HP1.out.below (w' := W) ((Below.refl _ _).drew.trans (hW.mono (Nat.le_refl _)))
        have hr1 := hp1.row
        have hrl := hr1.1
        have hel := HE.out.1
        exact ⟨⟨_, (hr1.cellAt (k * 2) (by omega)).trans (List.getElem?_eq_getElem (by omega))⟩, ⟨_, (hr1.cellAt (k * 2 + 1) (by omega)).trans (List.getElem?_eq_getElem (by omega))⟩, hr1.frozenAt (k * 2), hr1.frozenAt (k * 2 + 1)⟩)
      rw [← hW1]
      clear hW1 hbA k0 k1
      go_region_held3 (fun W => W.cell? ⟨wr.heap.size, 0, none⟩ = some (.slice (some ⟨b1, o1, none⟩) n' c') ∧ W.cell? ⟨wr.heap.size, 1, none⟩ = some (.string q.2) ∧ wr.heap.size < W.heap.size)
        (first | (exact ⟨a0, a1, l0⟩) | (exact TwoC.keep (by assumption) hb1) | (exact TwoC.set (by assumption) _ _ _ _ _ (by omega)) | assumption)
        ((go_at_call 54; go_loud (refine (C.out _ (Below.refl _ _).drew).mono ?_; rintro e w1 ⟨vv, rfl, own1, hvn, hb1⟩; obtain ⟨g, cg, rfl, hg, hgl⟩ := row_some own1 hvn; obtain ⟨⟨v0, d0⟩, ⟨v1, d1⟩, f0, f1⟩ := HSP.out w1 hb1)))
      all_goals
        have hb2 : Below W1.heap.size W1 w1 := (Below.refl _ _).drew.trans (hb1.mono (Nat.le_refl _))
        have hb3 : Below wr.heap.size wr w1 := HBA.out.trans (hb2.mono HBA.out.size)
        have hp1 := HP1.out.below hb2
        have hgW : W1.heap.size ≤ g := hg
        have hel := HE.out.1
        have hT1 := HLEN.out
        have hst := hp1.step (q := (g, cg, q)) (by omega) ⟨by show w.heap.size ≤ g; have := HBA.out.size; omega, hgl, fun _ => by rw [← hT1]; exact rowBase own1 (by have := HBA.out.size; show w.heap.size ≤ W1.heap.size; omega)⟩ (fun hm => by have := (HP1.out.mem_lt g hm).2; omega)
        rw [hel, ← hT1] at hst
        have HST := Lib.hid hst
        have HE2 : Hid ((es ++ [(g, cg, q)]).length = k + 1 ∧ rulesOf (es ++ [(g, cg, q)]) = rs.take (k + 1)) := Lib.hid ⟨by simp [hel], by
          rw [takeK_snoc HQ.out, ← HE.out.2]; simp [rulesOf]⟩
        have hbw2 := (((hbw.trans (hb3.mono hws)).setCell (p := ⟨w.heap.size, k * 2, none⟩) (Nat.le_refl _) (.slice (some ⟨g, 0, none⟩) n' cg))).setCell (p := ⟨w.heap.size, k * 2 + 1, none⟩) (Nat.le_refl _) (.string q.2)
        clear hb1 hb2 hb3 hp1 hst own1 hel hT1 hg
        go_wp2
        go_roundw
        case rel => exact ⟨k + 1, _, by omega, by go_num, HE2, HST, hbw2⟩
        case measure => simp [intOf]; omega
    · obtain rfl : k = n := by omega
      go_wp2
      go_ret
      exact ⟨es, rfl, by rw [HE.out.2, List.take_of_length_le (by have := HL.out; omega)], ⟨HE.out.1, HP.out⟩, hbw⟩
end Go.Proofs.Ytmelbfpdahaahaa
