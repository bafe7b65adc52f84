/-
  The contracts of spec.l01Own and spec.l04Own.
-/
import Derived.Test.YtmelbfpdahaahaaAddPlain
import Derived.Deep.AppendLies
import Derived.Deep.RegionHeld3
namespace Go.Proofs.Ytmelbfpdahaahaa
set_option linter.unusedVariables false
open Go.RowKit

def Own1Post (n : Nat) (xs : List Int) (w : World) (e : Ending) (w' : World) : Prop :=
  ∃ g c, e = .returned (.slice (some ⟨g, 0, none⟩) n c) ∧ w'.ownsRow w.heap.size 2 1 (.slice (some ⟨g, 0, none⟩) n c) n (intV xs) ∧ w.heap.size ≤ g ∧ g < w'.heap.size ∧ Below w.heap.size w w'

theorem cOwn1 (b o n c : Nat) (xs : List Int) (w : World) (hp : 1 ≤ n) (hb : n ≤ 1048576) (h : NumAt w w.heap.size (some ⟨b, o, none⟩) n xs) :
    Calls Try.prog 37 #[.slice (some ⟨b, o, none⟩) n c] w (Own1Post n xs w) := by
  obtain ⟨i0, hi0, hz0, hz1, hz2⟩ := info_parts info_i64
  obtain ⟨b', o', e, hbl, hcel⟩ := h.2 (by omega)
  cases e
  have HL := Lib.hid h.1
  have HCEL := Lib.hid hcel
  clear h hcel
  go_enter Try.func37, Try.ntmps37
  go_wp2_with (at_builtin; refine wpList_append_lies _ rfl _ _ 24 rfl w.heap.size 2 i0 _ 1 8 Try.underlying24 hi0 hz0 hz1 hz2 rfl (by decide) _ 0 _ rfl (World.ownsRow_lit (e := 2) (base := w.heap.size) (size := 1) w #[] 0 (Nat.le_refl _) (by decide) rfl) ⟨b, o, none⟩ n c (intV xs) rfl ?c1 ?c2 ?c3 (by omega) ?c4 ?c5 ?c6 (w.heap.size + 1) (by simp) ?_)
  case c1 => rw [intV_len, HL.out]; omega
  case c2 =>
    intro j u hu
    obtain ⟨x, hx, rfl⟩ := intV_get hu
    rw [add_plain']
    exact (World.cell?_alloc_lt w _ ⟨b, o + j, none⟩ hbl).trans (HCEL.out j x hx)
  case c3 =>
    intro u hu
    obtain ⟨j, hj, rfl⟩ := List.getElem_of_mem hu
    obtain ⟨x, _, e⟩ := intV_get (List.getElem?_eq_getElem hj)
    rw [e]; rfl
  case c4 => unfold maxLen; omega
  case c5 => omega
  case c6 => simp
  intro g cap w1 hown hgrow hor hlt
  have hown2 : w1.ownsRow w.heap.size 2 1 (.slice (some ⟨g, 0, none⟩) n cap) n (intV xs) := by simpa using hown
  have HO := Lib.hid hown2
  have hbw : Below w.heap.size w w1 := ((Below.refl _ w).alloc (Nat.le_refl _) _).grown hgrow (by simp) (by intro k hk; simp [Value.ownBlock] at hk; omega)
  have hg0 : w.heap.size ≤ g := by
    rcases hor with h | h
    · simp [Value.ownBlock] at h; omega
    · omega
  clear hown hown2 hgrow hor
  go_wp2
  go_ret
  exact ⟨g, cap, rfl, HO.out, hg0, hlt, hbw⟩

theorem OwnR.empty (w : World) : OwnR (w.alloc (.cells #[] 39)) w.heap.size w.heap.size 0 0 [] :=
  ⟨rfl, ⟨Nat.zero_le _, World.ownsRow_lit (e := 39) (base := w.heap.size) (size := 2) w #[] 0 (Nat.le_refl _) (by decide) rfl, by simp, by simp⟩⟩
theorem OwnR.snoc {w w' : World} {B g n c g' c' : Nat} {es : List El} {q : El} (h : OwnR w B g n c es)
    (hq : B ≤ q.1 ∧ q.1 < w.heap.size ∧ (0 < q.2.2.1.length → w.ownsRow B 2 1 (.slice (some ⟨q.1, 0, none⟩) q.2.2.1.length q.2.1) q.2.2.1.length (intV q.2.2.1))) (hn : q.1 ∉ g :: es.map (·.1))
    (hrow : w'.ownsRow B 39 2 (.slice (some ⟨g', 0, none⟩) (n + 1) c') (n + 1) (elsV es ++ [.slice (some ⟨q.1, 0, none⟩) q.2.2.1.length q.2.1, .string q.2.2.2])) (hg : w.grownBy w' (some g)) (hor : g = g' ∨ g' = w.heap.size) : OwnR w' B g' (n + 1) c' (es ++ [q]) := by
  have hlen : (es ++ [q]).length = n + 1 := by rw [List.length_append, h.1]; rfl
  have n1 := h.2.nodup
  rw [List.nodup_cons] at n1
  rw [List.mem_cons] at hn
  have hg1 := h.2.mem_lt
  refine ⟨hlen, ⟨by omega, by rw [hlen, Nat.sub_self, show zerosR 0 = [] from rfl, List.append_nil, elsV_app, elsV_cons]; exact hrow, ?_, ?_⟩⟩
  · intro e he
    rcases List.mem_append.1 he with he | he
    · obtain ⟨i1, i2, i3⟩ := h.2.inner e he
      have hne : e.1 ≠ g := fun e0 => n1.1 (by rw [← e0]; exact List.mem_map_of_mem he)
      exact ⟨i1, Nat.lt_of_lt_of_le i2 hg.size, fun hp => ownsRow_block (i3 hp) (hg.block e.1 i2 (by intro e0; cases e0; exact hne rfl))⟩
    · rw [List.mem_singleton] at he
      subst he
      obtain ⟨i1, i2, i3⟩ := hq
      exact ⟨i1, Nat.lt_of_lt_of_le i2 hg.size, fun hp => ownsRow_block (i3 hp) (hg.block e.1 i2 (by intro e0; cases e0; exact hn (.inl rfl)))⟩
  · rw [List.map_append, List.nodup_cons, List.nodup_append]
    refine ⟨?_, n1.2, by simp, ?_⟩
    · rw [List.mem_append]
      rintro (hm | hm)
      · rcases hor with rfl | rfl
        · exact n1.1 hm
        · have := (hg1 _ (List.mem_cons_of_mem _ hm)).2; omega
      · simp at hm
        rcases hor with rfl | rfl
        · exact hn (.inl hm.symm)
        · have := hq.2.1; omega
    · intro a ha b hb e0
      subst e0
      simp at hb
      subst hb
      exact hn (.inr ha)

/-- Two cells of a block, through a drawn region. -/
def TwoT (b o : Nat) (u v : Value) (W : World) : Prop := W.cell? ⟨b, o, none⟩ = some u ∧ W.cell? ⟨b, o + 1, none⟩ = some v ∧ b < W.heap.size
theorem TwoT.keep {W W' : World} {b o : Nat} {u v : Value} (h : TwoT b o u v W) (hb : Below W.heap.size W W') : TwoT b o u v W' :=
  ⟨(hb.cell (p := ⟨b, o, none⟩) h.2.2).trans h.1, (hb.cell (p := ⟨b, o + 1, none⟩) h.2.2).trans h.2.1, Nat.lt_of_lt_of_le h.2.2 hb.size⟩
theorem TwoT.grown {W W' : World} {row : Option Nat} {b o : Nat} {u v : Value} (h : TwoT b o u v W) (hg : W.grownBy W' row) (hne : some b ≠ row) : TwoT b o u v W' :=
  ⟨(hg.cell_far ⟨b, o, none⟩ h.2.2 hne).trans h.1, (hg.cell_far ⟨b, o + 1, none⟩ h.2.2 hne).trans h.2.1, Nat.lt_of_lt_of_le h.2.2 hg.size⟩

def OwnRsPost (rs : List Ru) (n : Nat) (w : World) (e : Ending) (w' : World) : Prop :=
  ∃ g c es, e = .returned (.slice (some ⟨g, 0, none⟩) n c) ∧ rulesOf es = rs ∧ OwnR w' w.heap.size g n c es ∧ Below w.heap.size w w'

set_option maxHeartbeats 4000000 in
set_option maxRecDepth 100000 in
theorem cOwnRs (A : Option Addr) (n cap : Nat) (rs : List Ru) (w : World) (hbig : n ≤ 1048576) (hp : ∀ r ∈ rs, 1 ≤ r.1.length ∧ r.1.length ≤ 1048576) (h : RulesAt w w.heap.size A n rs) :
    Calls Try.prog 38 #[.slice A n cap] w (OwnRsPost rs n w) := by
  obtain ⟨iR, hiR, hzR0, hzR1, hzR2⟩ := info_parts info_rule
  have HL := Lib.hid h.1
  have H := Lib.hid h
  have HPP := Lib.hid hp
  clear h hp
  go_enter Try.func38, Try.ntmps38
  go_wp2
  go_loopw [3, 4] (fun ov i wr => ∃ (k g c : Nat) (es : List El), k ≤ n ∧ i = .int .i64 k ∧ ov = .slice (some ⟨g, 0, none⟩) k c ∧ Hid (es.length = k ∧ rulesOf es = rs.take k) ∧ Hid (OwnR wr w.heap.size g k c es) ∧ Below w.heap.size w wr) (fun _ i _ => n - (intOf i).toNat)
  case atStart => exact ⟨0, _, _, [], Nat.zero_le _, rfl, rfl, Lib.hid ⟨rfl, by simp [rulesOf]⟩, Lib.hid (OwnR.empty w), (Below.refl _ _).alloc (Nat.le_refl _) _⟩
  case round =>
    obtain ⟨k, g, c, es, hk, rfl, rfl, HE, HO, hbw⟩ := hrel
    by_cases hlt : k < n
    · obtain ⟨q, hq⟩ : ∃ q, rs[k]? = some q := ⟨rs[k]'(by have := HL.out; omega), List.getElem?_eq_getElem _⟩
      obtain ⟨b, o, rfl, hbl, A', n', c', k0, k1, k2, k3, k4⟩ := (H.out.below hbw (Nat.le_refl _)).row hq
      have hlen : n' = q.1.length := k2.1
      have hq1 := HPP.out q (List.mem_of_getElem? hq)
      obtain ⟨b1, o1, rfl, hb1l, hcel⟩ := k2.2 (by omega)
      have hws := hbw.size
      have HQ := Lib.hid hq
      have HLEN := Lib.hid hlen
      have hn1 : n' ≤ 1048576 := by omega
      have hgb := HO.out.2.glt
      have hbg : b ≠ g := by omega
      have hbs : b < wr.heap.size := by omega
      have C := Lib.hid (fun (W : World) (hW : Below wr.heap.size wr W) => cOwn1 b1 o1 n' c' q.1 W (by omega) hn1 ((k2.below hW hws).more (Nat.le_trans hws hW.size)))
      clear hq hlen k2 k3 k4 hq1 hcel
      have e1 : (0 : Int) ≤ (k : Int) := by omega
      have e2 : (k : Int) < (n : Int) := by omega
      go_wp2_with fail
      go_region_held3 (fun W => W.cell? ⟨b, o + k * 2, none⟩ = some (.slice (some ⟨b1, o1, none⟩) n' c') ∧ W.cell? ⟨b, o + k * 2 + 1, none⟩ = some (.string q.2) ∧ b < W.heap.size)
        (first | (exact ⟨k0, k1, hbs⟩) | (exact TwoT.keep (by assumption) hb1) | (exact TwoT.keep (by assumption) (alloc_below _ _)) | (exact TwoT.grown (by assumption) hgrow2 (by simp [Value.ownBlock]; omega)) | assumption)
        (first
          | (go_at_call 37; (refine (C.out _ (Below.refl _ _).drew).mono ?_; rintro e w1 ⟨g1, cg, rfl, own1, hg1, hgl1, hb1⟩))
          | ((refine step_append_lies _ (by rfl) _ _ _ (by rfl) w.heap.size 39 iR _ 2 40 Try.underlying27 hiR hzR0 hzR1 hzR2 rfl (by decide) (.slice (some ⟨g, 0, none⟩) k c) k _ (by rfl) (World.ownsRow.alloc (ownsRow_keep HO.out.outer (Below.trans (Below.refl _ _).drew (hb1.mono (Nat.le_refl _)))) _) ⟨w1.heap.size, 0, none⟩ 1 1 [.slice (some ⟨g1, 0, none⟩) n' cg, .string q.2] (by rfl) (by rfl) (World.news_of_block (cs := #[.slice (some ⟨g1, 0, none⟩) n' cg, .string q.2]) (t := 39) (fr := (0, 0)) (heap_alloc_new w1 _)) (by simp [Value.oneCell']) (by decide) (by unfold maxLen; omega) (by omega) (by have := hb1.size; simp at this ⊢; omega) (w1.heap.size + 1) (by simp) ?_; intro gg cap' w2 hown2 hgrow2 hor2 hlt2)))
      all_goals
        have hb2 : Below wr.heap.size wr w1 := (Below.refl _ _).drew.trans (hb1.mono (Nat.le_refl _))
        have hgw : wr.heap.size ≤ g1 := hg1
        have ho2 : OwnR (w1.alloc (.cells #[.slice (some ⟨g1, 0, none⟩) n' cg, .string q.2] 39)) w.heap.size g k c es := (HO.out.below hb2).below (alloc_below _ _)
        have hT1 := HLEN.out
        have own2 : (w1.alloc (.cells #[.slice (some ⟨g1, 0, none⟩) n' cg, .string q.2] 39)).ownsRow w.heap.size 2 1 (.slice (some ⟨g1, 0, none⟩) n' cg) n' (intV q.1) := rowBase (World.ownsRow.alloc own1 _) (show w.heap.size ≤ wr.heap.size from hws)
        have hst := ho2.snoc (q := (g1, cg, q)) (w' := w2) (g' := gg) (c' := cap') ⟨by show w.heap.size ≤ g1; omega, by simp; omega, fun _ => by rw [← hT1]; exact own2⟩ (fun hm => by have := (HO.out.2.mem_lt g1 hm).2; omega) (by rw [← hT1]; exact hown2) hgrow2 (by
          rcases hor2 with h | h
          · left; simpa [Value.ownBlock] using h
          · right; rw [h]; simp)
        have HST := Lib.hid hst
        have HE2 : Hid ((es ++ [(g1, cg, q)]).length = k + 1 ∧ rulesOf (es ++ [(g1, cg, q)]) = rs.take (k + 1)) := Lib.hid ⟨by simp [HE.out.1], by
          rw [takeK_snoc HQ.out, ← HE.out.2]; simp [rulesOf]⟩
        have hB2 := hbw.trans (hb2.mono hws)
        have hB3 : Below w.heap.size w w2 := (hB2.alloc hB2.size _).grown hgrow2 (by have := hB2.size; simp; omega) (fun j hj => by simp [Value.ownBlock] at hj; omega)
        clear hb1 hb2 ho2 own1 own2 hst hown2 hgrow2 hor2 hT1 hB2 hg1
        go_wp2
        go_roundw
        case rel => exact ⟨k + 1, gg, cap', _, by omega, by go_num, rfl, HE2, HST, hB3⟩
        case measure => simp [intOf]; omega
    · obtain rfl : k = n := by omega
      go_wp2
      go_ret
      exact ⟨g, c, es, rfl, by rw [HE.out.2, List.take_of_length_le (by have := HL.out; omega)], HO.out, hbw⟩
end Go.Proofs.Ytmelbfpdahaahaa
