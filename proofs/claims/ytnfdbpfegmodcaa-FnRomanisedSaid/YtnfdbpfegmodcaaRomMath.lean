/-
  The law of romanising, its plain side: the used rules' signs make the signs, an added rule is used for its own.
-/
import Derived.Test.YtnfdbpfegmodcaaRoman
import Derived.Test.YtnfdbpfegmodcaaAddPlain
import Derived.Test.YtnfdbpfegmodcaaDrawGood
import Derived.Test.YtnfdbpfegmodcaaDrawThree
import Derived.Test.YtnfdbpfegmodcaaUsePlain
namespace Go.Proofs.Ytnfdbpfegmodcaa
set_option linter.unusedVariables false
open Go.RowKit

def keyAt (rs : List Ru) (i : Int) : List Int := ((rs[i.toNat]?).map (·.1)).getD []
theorem keyAt_at {rs : List Ru} {q : Nat} {r : Ru} (h : rs[q]? = some r) : keyAt rs (q : Int) = r.1 := by unfold keyAt; rw [Int.toNat_natCast, h]; rfl
def catK (rs : List Ru) (zs : List Int) : List Int := zs.flatMap (keyAt rs)
theorem catK_step {rs : List Ru} {zs : List Int} {k : Nat} {i : Int} (h : zs[k]? = some i) : catK rs (zs.take (k + 1)) = catK rs (zs.take k) ++ keyAt rs i := by
  rw [takeK_snoc h]; unfold catK; rw [List.flatMap_append]; simp
theorem keyAt_place {rs : List Ru} {ys : List Int} {v : Int} (h : placeK (keys rs) ys = some v) : keyAt rs v = ys := by
  obtain ⟨q, rfl, h1, h2⟩ := placeK_pos h
  unfold keys at h2
  rw [List.getElem?_map] at h2
  cases hr : rs[q]? with
  | none => rw [hr] at h2; cases h2
  | some r =>
    rw [hr] at h2
    rw [keyAt_at hr]
    simpa using h2
/-- The used rules' signs make the signs. -/
theorem used_keys (rs : List Ru) : ∀ (n : Nat) (xs : List Int), xs.length ≤ n → ∀ l, usedF (placeK (keys rs)) xs = some l → catK rs l = xs
  | n, [], _, l, h => by rw [usedF_nil] at h; cases h; rfl
  | 0, x :: xs, hn, l, h => by simp at hn
  | n + 1, x :: xs, hn, l, h => by
    rcases Nat.eq_zero_or_pos (longF (placeK (keys rs)) (x :: xs)) with h0 | h0
    · rw [usedF_stop (by simp) h0] at h; cases h
    · rw [usedF_step (by simp) h0] at h
      have hlen : ((x :: xs).drop (longF (placeK (keys rs)) (x :: xs))).length ≤ n := by simp at *; omega
      cases hu : usedF (placeK (keys rs)) ((x :: xs).drop (longF (placeK (keys rs)) (x :: xs))) with
      | none => rw [hu] at h; cases h
      | some r =>
        rw [hu] at h
        simp at h
        subst h
        have ih := used_keys rs n _ hlen r hu
        have hs := longF_some h0
        cases hf : placeK (keys rs) ((x :: xs).take (longF (placeK (keys rs)) (x :: xs))) with
        | none => rw [hf] at hs; cases hs
        | some u =>
          have hv : longV (placeK (keys rs)) (x :: xs) = u := by unfold longV; rw [hf]; rfl
          have h9 := keyAt_place hf
          show (longV (placeK (keys rs)) (x :: xs) :: r).flatMap (keyAt rs) = x :: xs
          rw [List.flatMap_cons, hv, h9]
          have ih2 : r.flatMap (keyAt rs) = (x :: xs).drop (longF (placeK (keys rs)) (x :: xs)) := ih
          rw [ih2]
          exact List.take_append_drop _ _
/-- A rule of a table is used for its own signs. -/
theorem used_self {f : List Int → Option Int} {xs : List Int} {v : Int} (h : f xs = some v) (h1 : 1 ≤ xs.length) (h3 : xs.length ≤ 3) : usedF f xs = some [v] := by
  have hm : min 3 xs.length = (xs.length - 1) + 1 := by omega
  have hl : longF f xs = xs.length := by
    unfold longF
    rw [hm, longU_yes]
    · omega
    · rw [show xs.length - 1 + 1 = xs.length by omega, List.take_length, h]; rfl
  have hne : xs ≠ [] := by intro e; rw [e] at h1; simp at h1
  have hv : longV f xs = v := by unfold longV; rw [hl, List.take_length, h]; rfl
  rw [usedF_step hne (by omega), hl, List.drop_length, usedF_nil, hv]; rfl
theorem signs_more {m m' : Nat} {xs : List Int} (h : signsB m xs = true) (hm : m ≤ m') : signsB m' xs = true := by
  have h1 := signs_len h
  unfold signsB at *
  rw [Bool.and_eq_true] at h
  rw [h.1, decide_eq_true h1.1, decide_eq_true (by omega : xs.length ≤ m')]; rfl
theorem add_place {rs : List Ru} {r : Ru} : ∃ p : Nat, placeK (keys (addL rs r)) r.1 = some (p : Int) ∧ (addL rs r)[p]? = some r := by
  by_cases hm : r.1 ∈ keys rs
  · obtain ⟨h1, h2⟩ := posK_lt _ _ hm
    have hk : keys (rs.set (posK (keys rs) r.1) r) = keys rs := by
      unfold keys at *
      rw [List.map_set]
      apply List.ext_getElem?
      intro j
      rw [List.getElem?_set]
      split
      · rename_i hj
        subst hj
        rw [h2]
      · rfl
    refine ⟨posK (keys rs) r.1, ?_, ?_⟩
    · rw [addL_found hm, hk]; unfold placeK; rw [if_pos hm]
    · rw [addL_found hm, List.getElem?_set_self (by rw [← keys_len]; exact h1)]
  · have hk : keys (rs ++ [r]) = keys rs ++ [r.1] := by simp [keys]
    refine ⟨rs.length, ?_, ?_⟩
    · rw [addL_new hm, hk]
      unfold placeK
      rw [if_pos (by simp), posK_skip _ _ _ hm, keys_len]
      simp [posK]
    · rw [addL_new hm]; simp
/-- What Romanise gives for the added rule's own signs. -/
theorem add_rom {rs : List Ru} {r : Ru} (h : addC rs r = 0) : romV (addZ rs r) r.1 = .tuple #[.string r.2, .int .i64 0] := by
  obtain ⟨h1, h2⟩ := add_keep h
  obtain ⟨p, hp, hr⟩ := add_place (rs := rs) (r := r)
  have hrb := goodT_mem (table_good h2) (List.mem_of_getElem? hr)
  have hs := rule_signs hrb
  have hl := signs_len hs
  rw [h1]
  have hok : okU (addL rs r) r.1 = true := by unfold okU; rw [h2, signs_more hs (by omega)]; rfl
  have hro : romO (addL rs r) r.1 = some r.2 := by
    unfold romO
    rw [used_self hp hl.1 hl.2]
    show some (catR (addL rs r) [(p : Int)]) = some r.2
    unfold catR
    rw [List.map_cons, List.map_nil, List.foldl_cons, List.foldl_nil, romAt_at hr, ByteArray.empty_append]
  unfold romV
  rw [hok, hro]; rfl
/-- The forms that Romanise's answer has. -/
theorem rom_forms (rs : List Ru) (xs : List Int) : ∃ (t : ByteArray) (c : Int), romV rs xs = .tuple #[.string t, .int .i64 c] ∧ codeU rs xs = c ∧ (c = 0 → catR rs (zsU rs xs) = t ∧ catK rs (zsU rs xs) = xs ∧ GoodZ rs.length (zsU rs xs)) := by
  unfold romV codeU zsU romO
  cases hok : okU rs xs
  · exact ⟨_, _, rfl, rfl, fun h => absurd h (by decide)⟩
  · cases hu : usedF (placeK (keys rs)) xs with
    | none => exact ⟨_, _, rfl, rfl, fun h => absurd h (by decide)⟩
    | some l =>
      refine ⟨_, _, rfl, rfl, fun _ => ⟨rfl, ?_, ?_⟩⟩
      · exact used_keys rs _ xs (Nat.le_refl _) l hu
      · exact (goodZ_used hu).2
/-- A table to read: all that the calls ask. -/
structure TabF (w : World) (A : Option Addr) (n c : Nat) (rs : List Ru) : Prop where
  rules : RulesAt w w.heap.size A n rs
  caps : CapsAt w A rs
  n31 : n ≤ 31
  nc : n ≤ c
  cm : c ≤ maxLen
  small : ∀ r ∈ rs, r.1.length ≤ 4 ∧ r.2.size ≤ 5
theorem TabF.below {w w' : World} {A : Option Addr} {n c : Nat} {rs : List Ru} (h : TabF w A n c rs) (hb : Below w.heap.size w w') : TabF w' A n c rs :=
  ⟨(h.rules.below hb (Nat.le_refl _)).more hb.size, h.caps.below hb, h.n31, h.nc, h.cm, h.small⟩
theorem DTab.capsAt {w : World} {R g c : Nat} {es : List El} (h : DTab w R (.slice (some ⟨g, 0, none⟩) es.length c) es) : CapsAt w (some ⟨g, 0, none⟩) (rulesOf es) := by
  intro k r hr hp
  unfold rulesOf at hr
  rw [List.getElem?_map] at hr
  cases he : es[k]? with
  | none => rw [he] at hr; cases hr
  | some e =>
    rw [he] at hr
    obtain rfl : e.2.2 = r := by simpa using hr
    have hcat := elsV_at es k e he
    have hjl := (List.getElem?_eq_some_iff.1 he).1
    have hin := h.inner e (List.mem_of_getElem? he)
    obtain ⟨A, c2, hv, h1, h2⟩ := int_formS hin
    cases hv
    exact ⟨g, 0, _, _, _, rfl, by rw [Nat.zero_add]; exact (h.row.cellAt (k * 2) (by omega)).trans hcat.1, h1, h2⟩
theorem TabD.toF {w : World} {R g c k : Nat} {es : List El} (h : TabD w R g c k es) : TabF w (some ⟨g, k * 2, none⟩) (es.length - k) (c - k) (rulesOf (es.drop k)) := by
  have hsm : ∀ r ∈ rulesOf (es.drop k), r.1.length ≤ 4 ∧ r.2.size ≤ 5 := fun r hr => h.small r (by
    unfold rulesOf at *
    rw [List.map_drop] at hr
    exact List.mem_of_mem_drop hr)
  obtain ⟨A, c2, hv, _, _, hR⟩ := h.tab.rules h.small.max
  cases hv
  have hc := h.tab.capsAt
  have hk := h.kl
  have hl := h.len
  have hlc := h.lc
  have hcm := h.cm
  refine ⟨⟨by simp [rulesOf], fun hp => ?_⟩, ?_, by omega, by omega, by omega, hsm⟩
  · obtain ⟨b, o, e1, e2, e3⟩ := hR.2 (by omega)
    cases e1
    refine ⟨_, _, rfl, e2, fun j r hr => ?_⟩
    have h9 := e3 (k + j) r (by
      unfold rulesOf at *
      rw [List.map_drop, List.getElem?_drop] at hr
      exact hr)
    rw [show k * 2 + j * 2 = 0 + (k + j) * 2 by omega]
    exact h9
  · intro j r hr hp
    obtain ⟨b, o, A1, n1, c1, e1, e2, e3, e4⟩ := hc (k + j) r (by
      unfold rulesOf at *
      rw [List.map_drop, List.getElem?_drop] at hr
      exact hr) hp
    cases e1
    refine ⟨_, _, A1, n1, c1, rfl, ?_, e3, e4⟩
    rw [show k * 2 + j * 2 = 0 + (k + j) * 2 by omega]
    exact e2
end Go.Proofs.Ytnfdbpfegmodcaa
