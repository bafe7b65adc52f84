/-
  Plain facts on useless rules, a table with a rule taken out, and the cells of a table.
-/
import Derived.Test.YtmelbfpdahaahaaRoman
namespace Go.Proofs.Ytmelbfpdahaahaa
set_option linter.unusedVariables false
open Go.RowKit Go.Maps Go.WideMaps

def delF (f : List Int → Option Int) (k : List Int) : List Int → Option Int := fun xs => if xs = k then none else f xs
theorem KD.del {D : DataW Unit} {f : List Int → Option Int} (h : KD D f) {k : List Int} (hk : KeyList k) : KD (D.del (keyL k)) (delF f k) := by
  refine ⟨h.1.del _, fun xs hx => ?_⟩
  unfold delF
  by_cases e : xs = k
  · subst e
    rw [if_pos rfl, has_del_same, atKey_del_same]
    exact ⟨rfl, rfl⟩
  · have hne : keyL xs ≠ keyL k := fun hh => e (keyL_inj hx hk hh)
    rw [if_neg e, has_del_other hne, atKey_del_other hne]
    exact h.2 xs hx
theorem posK_skip : ∀ (a b : List (List Int)) (s : List Int), s ∉ a → posK (a ++ b) s = a.length + posK b s
  | [], b, s, h => by simp
  | y :: a, b, s, h => by
    have h1 : ¬ y = s := fun e => h (by simp [e])
    rw [List.cons_append, posK, if_neg h1, posK_skip a b s (fun h2 => h (List.mem_cons_of_mem _ h2))]
    simp; omega
/-- The place in the whole table of a place in the table without the rule i. -/
def sg (i : Nat) (v : Int) : Int := if v < (i : Int) then v else v + 1
theorem sg_low {i q : Nat} (h : q < i) : sg i (q : Int) = (q : Int) := by unfold sg; rw [if_pos (by omega)]
theorem sg_high {i q : Nat} (h : i ≤ q) : sg i (q : Int) = ((q + 1 : Nat) : Int) := by unfold sg; rw [if_neg (by omega)]; omega
theorem place_del {a b : List (List Int)} {k : List Int} (hd : (a ++ k :: b).Nodup) : delF (placeK (a ++ k :: b)) k = fun ys => (placeK (a ++ b) ys).map (sg a.length) := by
  funext ys
  rw [List.nodup_append] at hd
  obtain ⟨_, h2, h3⟩ := hd
  rw [List.nodup_cons] at h2
  have hka : k ∉ a := fun h => h3 k h k (by simp) rfl
  unfold delF placeK
  by_cases e : ys = k
  · subst e
    rw [if_pos rfl, if_neg (by rw [List.mem_append]; rintro (h | h); exact hka h; exact h2.1 h)]
    rfl
  · rw [if_neg e]
    by_cases ha : ys ∈ a
    · rw [if_pos (by simp [ha]), if_pos (by simp [ha]), posK_app _ _ _ ha, posK_app _ _ _ ha, Option.map_some, sg_low (posK_lt a ys ha).1]
    · by_cases hb : ys ∈ b
      · rw [if_pos (by simp [hb]), if_pos (by simp [hb]), posK_skip _ _ _ ha, posK_skip _ _ _ ha, posK, if_neg (fun h => e h.symm), Option.map_some, sg_high (by omega)]
        rfl
      · rw [if_neg (by simp [ha, hb, e]), if_neg (by simp [ha, hb])]; rfl
theorem longU_map (g : List Int → Option Int) (σ : Int → Int) (xs : List Int) : ∀ m, longU (fun ys => (g ys).map σ) xs m = longU g xs m
  | 0 => rfl
  | m + 1 => by
    cases h : (g (xs.take (m + 1))).isSome
    · rw [longU_no h, longU_no (by simpa using h), longU_map g σ xs m]
    · rw [longU_yes h, longU_yes (by simpa using h)]
theorem usedF_map (g : List Int → Option Int) (σ : Int → Int) : ∀ (n : Nat) (xs : List Int), xs.length ≤ n → usedF (fun ys => (g ys).map σ) xs = (usedF g xs).map (List.map σ)
  | n, [], _ => by rw [usedF_nil, usedF_nil]; rfl
  | 0, x :: xs, hn => by simp at hn
  | n + 1, x :: xs, hn => by
    have hL : longF (fun ys => (g ys).map σ) (x :: xs) = longF g (x :: xs) := longU_map g σ _ _
    rcases Nat.eq_zero_or_pos (longF g (x :: xs)) with h0 | h0
    · rw [usedF_stop (by simp) h0, usedF_stop (by simp) (by rw [hL]; exact h0)]; rfl
    · have hle := (longF_le g (x :: xs)).2
      rw [usedF_step (by simp) h0, usedF_step (by simp) (by rw [hL]; exact h0), hL, usedF_map g σ n _ (by rw [List.length_drop]; simp at hn ⊢; omega)]
      have hV : longV (fun ys => (g ys).map σ) (x :: xs) = σ (longV g (x :: xs)) := by
        have hs := longF_some h0
        unfold longV
        rw [hL]
        cases hg : g ((x :: xs).take (longF g (x :: xs))) with
        | none => rw [hg] at hs; cases hs
        | some v =>
          show (Option.map σ (g (List.take (longF g (x :: xs)) (x :: xs)))).getD 0 = σ v
          rw [hg]; rfl
      rw [hV]
      cases usedF g ((x :: xs).drop (longF g (x :: xs))) <;> simp
theorem rom_shift {a b : List Ru} {r : Ru} (q : Nat) : romAt (a ++ r :: b) (sg a.length (q : Int)) = romAt (a ++ b) (q : Int) := by
  by_cases h : q < a.length
  · rw [sg_low h]
    unfold romAt
    rw [Int.toNat_natCast, List.getElem?_append_left h, List.getElem?_append_left h]
  · rw [sg_high (by omega)]
    unfold romAt
    rw [Int.toNat_natCast, Int.toNat_natCast, List.getElem?_append_right (by omega), List.getElem?_append_right (by omega), show q + 1 - a.length = (q - a.length) + 1 by omega, List.getElem?_cons_succ]
theorem cat_shift {a b : List Ru} {r : Ru} {l : List Int} {n : Nat} (hg : GoodZ n l) : catR (a ++ r :: b) (l.map (sg a.length)) = catR (a ++ b) l := by
  unfold catR
  rw [List.map_map, show l.map (romAt (a ++ r :: b) ∘ sg a.length) = l.map (romAt (a ++ b)) from List.map_congr_left fun v hv => by
    obtain ⟨q, rfl, _⟩ := hg v hv
    exact rom_shift q]
theorem rom_rest0 {a b : List Ru} {r : Ru} (hd : (keys (a ++ r :: b)).Nodup) (xs : List Int) : romO (a ++ b) xs = (usedF (delF (placeK (keys (a ++ r :: b))) r.1) xs).map (catR (a ++ r :: b)) := by
  have e1 : keys (a ++ r :: b) = keys a ++ r.1 :: keys b := by simp [keys]
  have e2 : keys (a ++ b) = keys a ++ keys b := by simp [keys]
  have h := place_del (e1 ▸ hd)
  rw [e1, h, usedF_map _ _ _ _ (Nat.le_refl _)]
  unfold romO
  rw [← e2, keys_len]
  cases hu : usedF (placeK (keys (a ++ b))) xs with
  | none => rfl
  | some l => rw [Option.map_some, Option.map_some, Option.map_some, cat_shift (goodZ_used hu).2]
theorem split_at {α : Type} {xs : List α} {i : Nat} {x : α} (h : xs[i]? = some x) : xs = xs.take i ++ x :: xs.drop (i + 1) := by
  obtain ⟨hi, rfl⟩ := List.getElem?_eq_some_iff.1 h
  rw [← List.drop_eq_getElem_cons hi, List.take_append_drop]
theorem rom_rest {rs : List Ru} {i : Nat} {r : Ru} (h : rs[i]? = some r) (hd : (keys rs).Nodup) (xs : List Int) : romO (rs.take i ++ rs.drop (i + 1)) xs = (usedF (delF (placeK (keys rs)) r.1) xs).map (catR rs) := by
  have e := split_at h
  have h2 := rom_rest0 (a := rs.take i) (b := rs.drop (i + 1)) (r := r) (by rw [← e]; exact hd) xs
  rwa [← e] at h2
theorem text_beq (a b : ByteArray) : (a.toList == b.toList) = decide (a = b) := by
  by_cases h : a = b
  · simp [h]
  · rw [decide_eq_false h, beq_eq_false_iff_ne]
    intro e
    rw [ByteArray.toList_eq, ByteArray.toList_eq] at e
    exact h (ByteArray.ext (Array.toList_inj.1 e))
def uselB (rs : List Ru) (r : Ru) : Bool := match usedF (delF (placeK (keys rs)) r.1) r.1 with | some l => decide (catR rs l = r.2) | none => false
theorem use_short {rs : List Ru} {r : Ru} (h : r.1.length = 1) : usedF (delF (placeK (keys rs)) r.1) r.1 = none := by
  have hne : r.1 ≠ [] := by intro e; rw [e] at h; simp at h
  refine usedF_stop hne ?_
  unfold longF
  rw [h, show min 3 1 = 0 + 1 from rfl, longU_no]
  · rfl
  · unfold delF
    rw [if_pos (List.take_of_length_le (by omega))]; rfl
theorem uselB_none {rs : List Ru} {r : Ru} (h : usedF (delF (placeK (keys rs)) r.1) r.1 = none) : uselB rs r = false := by unfold uselB; rw [h]
theorem uselB_some {rs : List Ru} {r : Ru} {l : List Int} (h : usedF (delF (placeK (keys rs)) r.1) r.1 = some l) : uselB rs r = decide (catR rs l = r.2) := by unfold uselB; rw [h]
def useI (rs : List Ru) (j : Nat) : Bool := match rs[j]? with | some r => uselB rs r | none => false
def useU (rs : List Ru) (k : Nat) : List Int := ((List.range k).filter (useI rs)).map fun (j : Nat) => (j : Int)
theorem useU_yes {rs : List Ru} {k : Nat} {r : Ru} (h : rs[k]? = some r) (hu : uselB rs r = true) : useU rs (k + 1) = useU rs k ++ [(k : Int)] := by
  unfold useU; rw [List.range_succ, List.filter_append, List.map_append]; simp [useI, h, hu]
theorem useU_no {rs : List Ru} {k : Nat} {r : Ru} (h : rs[k]? = some r) (hu : uselB rs r = false) : useU rs (k + 1) = useU rs k := by
  unfold useU; rw [List.range_succ, List.filter_append, List.map_append]; simp [useI, h, hu]
theorem useU_len (rs : List Ru) (k : Nat) : (useU rs k).length ≤ k := by
  unfold useU; rw [List.length_map]; have := List.length_filter_le (useI rs) (List.range k); simpa using this
def useZ (rs : List Ru) : List Int := if tableB rs then useU rs rs.length else []
def useC (rs : List Ru) : Int := if tableB rs then 0 else 1
theorem useZ_len (rs : List Ru) : (useZ rs).length ≤ 30 := by
  unfold useZ
  split
  · rename_i h; have := useU_len rs rs.length; have := table_len h; omega
  · exact Nat.zero_le _

/-! ### the cells of a table -/
abbrev Cel := Option Addr × Nat × Nat × Ru
def celV (e : Cel) : List Value := [.slice e.1 e.2.1 e.2.2.1, .string e.2.2.2.2]
def celsV (es : List Cel) : List Value := es.flatMap celV
theorem celsV_app (xs ys : List Cel) : celsV (xs ++ ys) = celsV xs ++ celsV ys := by simp [celsV]
theorem celsV_cons (e : Cel) (xs : List Cel) : celsV (e :: xs) = .slice e.1 e.2.1 e.2.2.1 :: .string e.2.2.2.2 :: celsV xs := by simp [celsV, celV]
theorem celsV_len : ∀ xs : List Cel, (celsV xs).length = xs.length * 2
  | [] => rfl
  | p :: xs => by rw [celsV_cons, List.length_cons, List.length_cons, celsV_len xs, List.length_cons]; omega
theorem celsV_at : ∀ (xs : List Cel) (k : Nat) (p : Cel), xs[k]? = some p → (celsV xs)[k * 2]? = some (.slice p.1 p.2.1 p.2.2.1) ∧ (celsV xs)[k * 2 + 1]? = some (.string p.2.2.2.2)
  | [], k, p, h => by simp at h
  | q :: xs, 0, p, h => by
    obtain rfl : q = p := by simpa using h
    rw [celsV_cons]; exact ⟨rfl, rfl⟩
  | q :: xs, k + 1, p, h => by
    rw [List.getElem?_cons_succ] at h
    have ih := celsV_at xs k p h
    rw [celsV_cons, show (k + 1) * 2 = k * 2 + 1 + 1 by omega, List.getElem?_cons_succ, List.getElem?_cons_succ, List.getElem?_cons_succ, List.getElem?_cons_succ]
    exact ih
theorem celsV_get : ∀ (xs : List Cel) (j : Nat) (u : Value), (celsV xs)[j]? = some u → ∃ k e, xs[k]? = some e ∧ ((j = k * 2 ∧ u = .slice e.1 e.2.1 e.2.2.1) ∨ (j = k * 2 + 1 ∧ u = .string e.2.2.2.2))
  | [], j, u, h => by simp [celsV] at h
  | e :: xs, 0, u, h => by
    rw [celsV_cons, List.getElem?_cons_zero] at h
    exact ⟨0, e, rfl, .inl ⟨rfl, (Option.some.inj h).symm⟩⟩
  | e :: xs, 1, u, h => by
    rw [celsV_cons, List.getElem?_cons_succ, List.getElem?_cons_zero] at h
    exact ⟨0, e, rfl, .inr ⟨rfl, (Option.some.inj h).symm⟩⟩
  | e :: xs, j + 2, u, h => by
    rw [celsV_cons, List.getElem?_cons_succ, List.getElem?_cons_succ] at h
    obtain ⟨k, e', h1, h2⟩ := celsV_get xs j u h
    refine ⟨k + 1, e', h1, ?_⟩
    rcases h2 with ⟨rfl, h2⟩ | ⟨rfl, h2⟩
    · exact .inl ⟨by omega, h2⟩
    · exact .inr ⟨by omega, h2⟩
def ruC (es : List Cel) : List Ru := es.map (·.2.2.2)
def CelAt (w : World) (B b o : Nat) (e : Cel) : Prop := w.cell? ⟨b, o, none⟩ = some (.slice e.1 e.2.1 e.2.2.1) ∧ w.cell? ⟨b, o + 1, none⟩ = some (.string e.2.2.2.2) ∧ NumAt w B e.1 e.2.1 e.2.2.2.1 ∧ e.2.1 ≤ maxLen ∧ e.2.2.2.2.size ≤ maxLen
theorem RulesAt.cels {w : World} {B b o n : Nat} {rs : List Ru} (h : RulesAt w B (some ⟨b, o, none⟩) n rs) : ∃ es : List Cel, ruC es = rs ∧ ∀ (k : Nat) e, es[k]? = some e → CelAt w B b (o + k * 2) e := by
  have key : ∀ i, i < n → ∃ e : Cel, rs[i]? = some e.2.2.2 ∧ CelAt w B b (o + i * 2) e := by
    intro i hi
    obtain ⟨r, hr⟩ : ∃ r, rs[i]? = some r := ⟨rs[i]'(by have := h.1; omega), List.getElem?_eq_getElem _⟩
    obtain ⟨b', o', e, _, A, m, c, k1, k2, k3, k4, k5⟩ := h.row hr
    cases e
    exact ⟨(A, m, c, r), hr, k1, k2, k3, k4, k5⟩
  obtain ⟨es, hl, he⟩ := exists_listR n key
  refine ⟨es, ?_, fun k e hk => (he k e hk).2⟩
  unfold ruC
  apply List.ext_getElem?
  intro j
  rw [List.getElem?_map]
  by_cases hj : j < n
  · have hx : es[j]? = some (es[j]'(by omega)) := List.getElem?_eq_getElem _
    rw [(he j _ hx).1, hx]; rfl
  · rw [List.getElem?_eq_none (by omega), List.getElem?_eq_none (by have := h.1; omega)]; rfl
theorem cels_lie {w : World} {b o : Nat} {es : List Cel} (h : ∀ (k : Nat) e, es[k]? = some e → w.cell? ⟨b, o + k * 2, none⟩ = some (.slice e.1 e.2.1 e.2.2.1) ∧ w.cell? ⟨b, o + k * 2 + 1, none⟩ = some (.string e.2.2.2.2)) :
    ∀ (j : Nat) u, (celsV es)[j]? = some u → w.cell? ((⟨b, o, none⟩ : Addr).add j) = some u := by
  intro j u hu
  rw [add_plain']
  obtain ⟨k, e, h1, h2⟩ := celsV_get es j u hu
  rcases h2 with ⟨rfl, rfl⟩ | ⟨rfl, rfl⟩
  · exact (h k e h1).1
  · exact (h k e h1).2
theorem cels_one (es : List Cel) : ∀ u ∈ celsV es, u.oneCell' = true := by
  intro u hu
  obtain ⟨j, hj, rfl⟩ := List.getElem_of_mem hu
  obtain ⟨k, e, _, h⟩ := celsV_get es j _ (List.getElem?_eq_getElem hj)
  rcases h with ⟨_, h⟩ | ⟨_, h⟩ <;> rw [h] <;> rfl
theorem rules_of_own {w : World} {B0 m : Nat} {v : Value} {es : List Cel} (h : w.ownsRow B0 39 2 v m (celsV es)) (hn : ∀ e ∈ es, NumAt w w.heap.size e.1 e.2.1 e.2.2.2.1 ∧ e.2.1 ≤ maxLen ∧ e.2.2.2.2.size ≤ maxLen) :
    ∃ A c, v = .slice A m c ∧ RulesAt w w.heap.size A m (ruC es) := by
  have hl : es.length = m := by have := h.1; rw [celsV_len] at this; omega
  rcases h.2 with ⟨rfl, h0⟩ | ⟨g, cap, cur, rfl, _⟩
  · exact ⟨none, 0, by rw [h0], by simp [ruC, hl], fun hp => absurd hp (by omega)⟩
  · refine ⟨_, _, rfl, by simp [ruC, hl], fun hp => ⟨g, 0, rfl, (h.lt _ rfl).2, fun j r hr => ?_⟩⟩
    unfold ruC at hr
    rw [List.getElem?_map] at hr
    cases he : es[j]? with
    | none => rw [he] at hr; cases hr
    | some e =>
      rw [he] at hr
      obtain rfl : e.2.2.2 = r := by simpa using hr
      have hj := (List.getElem?_eq_some_iff.1 he).1
      have hat := celsV_at es j e he
      obtain ⟨n1, n2, n3⟩ := hn e (List.mem_of_getElem? he)
      refine ⟨e.1, e.2.1, e.2.2.1, ?_, ?_, n1, n2, n3⟩
      · rw [Nat.zero_add]; exact (h.cellAt (j * 2) (by omega)).trans hat.1
      · rw [Nat.zero_add]; exact (h.cellAt (j * 2 + 1) (by omega)).trans hat.2

/-- The rules' rows of numbers are no longer than their room. -/
def CapsAt (w : World) (A : Option Addr) (rs : List Ru) : Prop :=
  ∀ (k : Nat) r, rs[k]? = some r → 0 < r.1.length → ∃ b o A1 n1 c1, A = some ⟨b, o, none⟩ ∧ w.cell? ⟨b, o + k * 2, none⟩ = some (.slice A1 n1 c1) ∧ n1 ≤ c1 ∧ c1 ≤ maxLen
theorem CapsAt.below {w w' : World} {A : Option Addr} {rs : List Ru} (h : CapsAt w A rs) (hb : Below w.heap.size w w') : CapsAt w' A rs := by
  intro k r hr hp
  obtain ⟨b, o, A1, n1, c1, h1, h2, h3, h4⟩ := h k r hr hp
  exact ⟨b, o, A1, n1, c1, h1, (hb.cell (p := ⟨b, o + k * 2, none⟩) (World.block_lt_of_cell? w _ h2)).trans h2, h3, h4⟩
theorem CapsAt.use {w : World} {b o k : Nat} {rs : List Ru} {r : Ru} {A1 : Option Addr} {n1 c1 : Nat} (h : CapsAt w (some ⟨b, o, none⟩) rs) (hr : rs[k]? = some r) (hp : 0 < r.1.length) (hc : w.cell? ⟨b, o + k * 2, none⟩ = some (.slice A1 n1 c1)) : n1 ≤ c1 ∧ c1 ≤ maxLen := by
  obtain ⟨b', o', A2, n2, c2, e, h2, h3, h4⟩ := h k r hr hp
  cases e
  rw [hc] at h2
  cases h2
  exact ⟨h3, h4⟩
theorem OwnR.caps {w : World} {B g n c : Nat} {es : List El} (h : OwnR w B g n c es) : CapsAt w (some ⟨g, 0, none⟩) (rulesOf es) := by
  intro k r hr hp
  unfold rulesOf at hr
  rw [List.getElem?_map] at hr
  cases he : es[k]? with
  | none => rw [he] at hr; cases hr
  | some e =>
    rw [he] at hr
    obtain rfl : e.2.2 = r := by simpa using hr
    have hk := (List.getElem?_eq_some_iff.1 he).1
    have hrow := h.2.row
    rw [h.1, Nat.sub_self, show zerosR 0 = [] from rfl, List.append_nil] at hrow
    obtain ⟨_, _, i3⟩ := h.2.inner e (List.mem_of_getElem? he)
    refine ⟨g, 0, some ⟨e.1, 0, none⟩, e.2.2.1.length, e.2.1, rfl, ?_, ?_⟩
    · rw [Nat.zero_add]; exact (hrow.cellAt (k * 2) (by have := h.1; omega)).trans (elsV_at es k e he).1
    · rcases (i3 hp).2 with ⟨h0, _⟩ | ⟨g', cap, cur, h1, _, _, h2, h3, _⟩
      · cases h0
      · cases h1; exact ⟨h2, h3⟩
end Go.Proofs.Ytmelbfpdahaahaa
