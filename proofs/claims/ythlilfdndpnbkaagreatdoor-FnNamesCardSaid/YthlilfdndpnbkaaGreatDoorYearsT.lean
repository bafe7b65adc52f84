/-
  Plain facts: what is left of spans when years are taken away; lists of spans with gaps have a bounded length.
-/
import Derived.Test.YthlilfdndpnbkaaGreatDoorMu3
import Derived.Test.YthlilfdndpnbkaaGreatDoorHas
import Derived.Maps.AppendAt
import Derived.Test.YthlilfdndpnbkaaGreatDoorMu4
import Derived.WalkSpells
import Derived.Test.YthlilfdndpnbkaaGreatDoorSpShelf
import Derived.StillTailTactics
import Derived.Laws.AppendOwnNone
namespace Go.Proofs.YthlilfdndpnbkaaGreatDoor
section
set_option linter.unusedVariables false

theorem memS_of {xs : List Spn} {p : Spn} (hp : p ∈ xs) (h : p.1 ≤ p.2) : memS p.1 xs ∧ memS p.2 xs := ⟨⟨p, hp, Int.le_refl _, h⟩, ⟨p, hp, h, Int.le_refl _⟩⟩
theorem sep_iff : ∀ (xs : List Spn), Sep xs ↔ (∀ p ∈ xs, -3000 ≤ p.1 ∧ p.1 ≤ p.2 ∧ p.2 ≤ 3000) ∧ xs.Pairwise (fun p q => p.2 + 2 ≤ q.1)
  | [] => by simp [Sep]
  | p :: xs => by
    rw [List.pairwise_cons, List.forall_mem_cons]
    constructor
    · intro h
      have ih := (sep_iff xs).1 h.tail
      refine ⟨⟨⟨h.1, h.2.1, h.2.2.1⟩, ih.1⟩, fun q hq => ?_, ih.2⟩
      exact h.above (memS_of hq (ih.1 q hq).2.1).1
    · rintro ⟨⟨h1, h2⟩, h3, h4⟩
      refine ⟨h1.1, h1.2.1, h1.2.2, ?_, (sep_iff xs).2 ⟨h2, h4⟩⟩
      cases xs with
      | nil => trivial
      | cons q r => exact h3 q List.mem_cons_self
theorem sep_len : ∀ (xs : List Spn) (p : Spn), Sep (p :: xs) → (xs.length : Int) * 2 + p.1 ≤ 3000
  | [], p, h => by have := h.2.1; have := h.2.2.1; simp; omega
  | q :: xs, p, h => by
    have ih := sep_len xs q h.tail
    have h1 := h.2.1
    have h2 : p.2 + 2 ≤ q.1 := h.2.2.2.1
    rw [List.length_cons]; omega
theorem sep_short {xs : List Spn} (h : Sep xs) : xs.length ≤ 3001 := by
  cases xs with
  | nil => simp
  | cons p xs => have := sep_len xs p h; have := h.1; rw [List.length_cons]; omega

/-- What is left of the span p without the years from u to v. -/
def cutS (u v : Int) (p : Spn) : List Spn := (if p.1 < u then [(p.1, min p.2 (u - 1))] else []) ++ (if v < p.2 then [(max p.1 (v + 1), p.2)] else [])
theorem cutS_mem {u v : Int} {p q : Spn} (h : q ∈ cutS u v p) (hp : p.1 ≤ p.2) (huv : u ≤ v) : p.1 ≤ q.1 ∧ q.1 ≤ q.2 ∧ q.2 ≤ p.2 := by
  unfold cutS at h
  rcases List.mem_append.1 h with h | h
  · split at h
    · simp at h; subst h; simp only; omega
    · cases h
  · split at h
    · simp at h; subst h; simp only; omega
    · cases h
theorem cutS_pair {u v : Int} {p : Spn} (huv : u ≤ v) : (cutS u v p).Pairwise (fun p q => p.2 + 2 ≤ q.1) := by
  unfold cutS
  split <;> split <;> simp
  omega
theorem memS_if {z : Int} {c : Prop} [Decidable c] {q : Spn} : memS z (if c then [q] else []) ↔ c ∧ q.1 ≤ z ∧ z ≤ q.2 := by
  by_cases h : c
  · rw [if_pos h, memS_one]; simp [h]
  · rw [if_neg h]; simp [h, memS_nil]
theorem cutS_has {u v z : Int} {p : Spn} (huv : u ≤ v) : memS z (cutS u v p) ↔ (p.1 ≤ z ∧ z ≤ p.2) ∧ ¬ (u ≤ z ∧ z ≤ v) := by
  unfold cutS
  rw [memS_app, memS_if, memS_if]
  simp only
  omega
theorem cut_sep {u v : Int} {xs : List Spn} (huv : u ≤ v) (h : Sep xs) : Sep (xs.flatMap (cutS u v)) := by
  rw [sep_iff] at h ⊢
  refine ⟨fun q hq => ?_, ?_⟩
  · obtain ⟨p, hp, hq⟩ := List.mem_flatMap.1 hq
    have h1 := h.1 p hp
    have h2 := cutS_mem hq h1.2.1 huv
    omega
  · rw [List.pairwise_flatMap]
    refine ⟨fun p _ => cutS_pair huv, ?_⟩
    refine List.Pairwise.imp_of_mem ?_ h.2
    intro p q hp hq hpq x hx y hy
    have h1 := cutS_mem hx (h.1 p hp).2.1 huv
    have h2 := cutS_mem hy (h.1 q hq).2.1 huv
    omega
theorem memS_flatMap {z : Int} {f : Spn → List Spn} (xs : List Spn) : memS z (xs.flatMap f) ↔ ∃ p ∈ xs, memS z (f p) := by
  unfold memS
  constructor
  · rintro ⟨q, hq, h⟩
    obtain ⟨p, hp, hq⟩ := List.mem_flatMap.1 hq
    exact ⟨p, hp, q, hq, h⟩
  · rintro ⟨p, hp, q, hq, h⟩
    exact ⟨q, List.mem_flatMap.2 ⟨p, hp, hq⟩, h⟩
theorem cut_has {u v z : Int} {xs : List Spn} (huv : u ≤ v) : memS z (xs.flatMap (cutS u v)) ↔ memS z xs ∧ ¬ (u ≤ z ∧ z ≤ v) := by
  rw [memS_flatMap]
  constructor
  · rintro ⟨p, hp, h⟩
    rw [cutS_has huv] at h
    exact ⟨⟨p, hp, h.1⟩, h.2⟩
  · rintro ⟨⟨p, hp, h⟩, h2⟩
    exact ⟨p, hp, (cutS_has huv).2 ⟨h, h2⟩⟩
theorem cut_len (u v : Int) (xs : List Spn) : (xs.flatMap (cutS u v)).length ≤ xs.length * 2 := by
  induction xs with
  | nil => simp
  | cons p xs ih =>
    rw [List.flatMap_cons, List.length_append, List.length_cons]
    have : (cutS u v p).length ≤ 2 := by unfold cutS; split <;> split <;> simp
    omega
theorem flat_step {α β : Type} (f : α → List β) (xs : List α) (k : Nat) (p : α) (h : xs[k]? = some p) : (xs.take (k + 1)).flatMap f = (xs.take k).flatMap f ++ f p := by
  have hl := (List.getElem?_eq_some_iff.1 h).1
  have he : xs[k] = p := (List.getElem?_eq_some_iff.1 h).2
  rw [List.take_succ_eq_append_getElem hl, he, List.flatMap_append]; simp

/-- What is left of xs without the first k spans of ys. -/
def Left (xs ys : List Spn) (k : Nat) (zs : List Spn) : Prop := Sep zs ∧ ∀ z, memS z zs ↔ memS z xs ∧ ¬ memS z (ys.take k)
theorem Left.start {xs : List Spn} (ys : List Spn) (h : Sep xs) : Left xs ys 0 xs := ⟨h, fun z => by rw [List.take_zero]; exact ⟨fun h => ⟨h, memS_nil z⟩, fun h => h.1⟩⟩
theorem Left.step {xs ys zs : List Spn} {k : Nat} {u v : Int} (h : Left xs ys k zs) (hk : ys[k]? = some (u, v)) (huv : u ≤ v) : Left xs ys (k + 1) (zs.flatMap (cutS u v)) := by
  have hl := (List.getElem?_eq_some_iff.1 hk).1
  have he : ys[k] = (u, v) := (List.getElem?_eq_some_iff.1 hk).2
  refine ⟨cut_sep huv h.1, fun z => ?_⟩
  rw [cut_has huv, h.2 z, List.take_succ_eq_append_getElem hl, he, memS_app, memS_one]
  simp only
  constructor
  · rintro ⟨⟨h1, h2⟩, h3⟩; exact ⟨h1, fun h => h.elim h2 h3⟩
  · rintro ⟨h1, h2⟩; exact ⟨⟨h1, fun h => h2 (.inl h)⟩, fun h => h2 (.inr h)⟩
end
section
set_option linter.unusedVariables false
open Go.RowKit

/-- Is the year asked for? -/
def askB (both : Bool) (xs ys : List Spn) (z : Int) : Bool := if both then hasB xs z || hasB ys z else hasB xs z && !hasB ys z
/-- The spans of the years asked for, up to year y. -/
def Upto (both : Bool) (xs ys zs : List Spn) (y : Int) : Prop := Sep zs ∧ ∀ z, memS z zs ↔ (askB both xs ys z = true ∧ -3000 ≤ z ∧ z < y)
theorem nil_or_snoc {α : Type} (l : List α) : l = [] ∨ ∃ ws q, l = ws ++ [q] := by
  rcases List.eq_nil_or_concat l with h | ⟨ws, q, h⟩
  · exact .inl h
  · exact .inr ⟨ws, q, by rw [h, List.concat_eq_append]⟩
theorem Upto.start (both : Bool) (xs ys : List Spn) : Upto both xs ys [] (-3000) := ⟨trivial, fun z => ⟨fun h => absurd h (memS_nil z), fun h => by omega⟩⟩
theorem Upto.skip {both : Bool} {xs ys zs : List Spn} {y : Int} (h : Upto both xs ys zs y) (hp : askB both xs ys y = false) : Upto both xs ys zs (y + 1) :=
  ⟨h.1, fun z => by
    rw [h.2 z]
    constructor
    · rintro ⟨h1, h2, h3⟩; exact ⟨h1, h2, by omega⟩
    · rintro ⟨h1, h2, h3⟩
      refine ⟨h1, h2, ?_⟩
      have : z ≠ y := by rintro rfl; rw [hp] at h1; cases h1
      omega⟩
theorem Upto.last {both : Bool} {xs ys ws : List Spn} {q : Spn} {y : Int} (h : Upto both xs ys (ws ++ [q]) y) : q.1 ≤ q.2 ∧ -3000 ≤ q.1 ∧ q.2 < y ∧ q.2 ≤ 3000 := by
  have hq : memS q.2 (ws ++ [q]) ∧ q.1 ≤ q.2 ∧ -3000 ≤ q.1 ∧ q.2 ≤ 3000 := by
    have hs : ∀ {ws : List Spn}, Sep (ws ++ [q]) → q.1 ≤ q.2 ∧ -3000 ≤ q.1 ∧ q.2 ≤ 3000 := by
      intro ws
      induction ws with
      | nil => intro h; exact ⟨h.2.1, h.1, h.2.2.1⟩
      | cons p ws ih => intro h; exact ih h.tail
    have h1 := hs h.1
    exact ⟨(memS_app _ _ _).2 (.inr ((memS_one _ _).2 ⟨h1.1, Int.le_refl _⟩)), h1⟩
  exact ⟨hq.2.1, hq.2.2.1, ((h.2 _).1 hq.1).2.2, hq.2.2.2⟩
theorem Upto.widen {both : Bool} {xs ys ws : List Spn} {q : Spn} {y : Int} (h : Upto both xs ys (ws ++ [q]) y) (hp : askB both xs ys y = true) (hq : q.2 = y - 1) (hy : y ≤ 3000) (hy0 : -3000 ≤ y) : Upto both xs ys (ws ++ [(q.1, y)]) (y + 1) := by
  have hl := h.last
  refine ⟨h.1.widen (by omega) hy, fun z => ?_⟩
  have hz := h.2 z
  rw [memS_app, memS_one] at hz ⊢
  constructor
  · rintro (h1 | ⟨h1, h2⟩)
    · have := hz.1 (.inl h1); exact ⟨this.1, this.2.1, by omega⟩
    · by_cases e : z = y
      · subst e; exact ⟨hp, hy0, by omega⟩
      · have := hz.1 (.inr ⟨h1, by simp only at h2; omega⟩); exact ⟨this.1, this.2.1, by omega⟩
  · rintro ⟨h1, h2, h3⟩
    by_cases e : z = y
    · subst e; exact .inr ⟨by show q.1 ≤ z; omega, Int.le_refl _⟩
    · rcases hz.2 ⟨h1, h2, by omega⟩ with h4 | ⟨h4, h5⟩
      · exact .inl h4
      · exact .inr ⟨h4, by show z ≤ y; omega⟩
theorem Upto.add {both : Bool} {xs ys zs : List Spn} {y : Int} (h : Upto both xs ys zs y) (hp : askB both xs ys y = true) (hy : y ≤ 3000) (hy0 : -3000 ≤ y) (hq : ∀ ws q, zs = ws ++ [q] → q.2 ≠ y - 1) : Upto both xs ys (zs ++ [(y, y)]) (y + 1) := by
  have hs : Sep (zs ++ [(y, y)]) := by
    rcases nil_or_snoc zs with rfl | ⟨ws, q, rfl⟩
    · exact Sep.one hy0 (Int.le_refl _) hy
    · have hl := h.last
      have hn := hq ws q rfl
      exact h.1.app hy0 (Int.le_refl _) hy (by show q.2 + 2 ≤ y; omega)
  refine ⟨hs, fun z => ?_⟩
  rw [memS_app, memS_one, h.2 z]
  constructor
  · rintro (⟨h1, h2, h3⟩ | ⟨h1, h2⟩)
    · exact ⟨h1, h2, by omega⟩
    · obtain rfl : z = y := by simp only at h1 h2; omega
      exact ⟨hp, hy0, by omega⟩
  · rintro ⟨h1, h2, h3⟩
    by_cases e : z = y
    · subst e; exact .inr ⟨Int.le_refl _, Int.le_refl _⟩
    · exact .inl ⟨h1, h2, by omega⟩
theorem spanV_set (ws : List Spn) (q : Spn) (y : Int) : (spanV (ws ++ [q])).set (ws.length * 2 + 1) (.int .i64 y) = spanV (ws ++ [(q.1, y)]) := by
  rw [spanV_app, spanV_app, spanV_one, spanV_one, List.set_append_right _ _ (by rw [spanV_len]; omega), spanV_len, show ws.length * 2 + 1 - ws.length * 2 = 1 by omega]
  rfl
theorem two_cells (w : World) (x y : Int) (t : TypeId) : ∀ (j : Nat) u, [Value.int .i64 x, .int .i64 y][j]? = some u → (w.alloc (.cells #[.int .i64 x, .int .i64 y] t)).cell? ((⟨w.heap.size, 0, none⟩ : Addr).add j) = some u := by
  intro j u h
  rw [add_plain2, Nat.zero_add, World.cell?_alloc_at _ _ _ _ rfl]
  match j, h with
  | 0, h => exact h
  | 1, h => exact h
theorem two_one (x y : Int) : ∀ u ∈ [Value.int .i64 x, .int .i64 y], u.oneCell' = true := by
  intro u hu; simp at hu; rcases hu with rfl | rfl <;> rfl
theorem span_form {w : World} {base : Nat} {v : Value} {m : Nat} {xs : List Value} {t : TypeId} (h : w.ownsRow base t 2 v m xs) : ∃ A c, v = .slice A m c := by
  rcases h.2 with ⟨rfl, rfl⟩ | ⟨g, cap, cur, rfl, _⟩
  · exact ⟨_, _, rfl⟩
  · exact ⟨_, _, rfl⟩
def BuildPost (both : Bool) (xs ys : List Spn) (w : World) (e : Ending) (w' : World) : Prop :=
  ∃ (zs : List Spn) (A : Option Addr) (c : Nat), zs.length ≤ 6001 ∧ Upto both xs ys zs 3001 ∧ e = .returned (.slice A zs.length c) ∧ w'.ownsRow w.heap.size 25 2 (.slice A zs.length c) zs.length (spanV zs) ∧ Below w.heap.size w w'

theorem below_grown_ {w w' : World} (h : Below w.heap.size w w') (row : Option Nat) : w.grownBy w' row := ⟨h.os, h.tape, h.output, h.size, fun k hk _ => h.block k hk⟩

set_option maxHeartbeats 4000000 in
set_option maxRecDepth 100000 in
theorem cBuild_minus (A B : Option Addr) (n n' cap cap' : Nat) (xs ys : List Spn) (w : World) (hbig : n ≤ 1048576) (hbig' : n' ≤ 1048576) (h : SpanAt w w.heap.size A n xs) (h' : SpanAt w w.heap.size B n' ys) :
    Calls Tryz.prog 80 #[.slice A n cap, .slice B n' cap', .bool false] w (BuildPost false xs ys w) := by
  obtain ⟨i0, hi0, hz0, hz1, hz2⟩ := info_parts info_span
  have H := Lib.hid h
  have H' := Lib.hid h'
  clear h h'
  go_enter Tryz.func80, Tryz.ntmps80
  go_wp2_with fail
  go_loopw [7, 8] (fun o yy wr => ∃ (m c : Nat) (C : Option Addr) (zs : List Spn) (y : Int), -3000 ≤ y ∧ y ≤ 3001 ∧ yy = .int .i64 y ∧ o = .slice C m c ∧ (m : Int) ≤ y + 3000 ∧ Hid (m = zs.length) ∧ Hid (Upto false xs ys zs y) ∧ wr.ownsRow w.heap.size 25 2 (.slice C m c) m (spanV zs) ∧ Below w.heap.size w wr) (fun _ yy _ => (3001 - intOf yy).toNat)
  case atStart =>
    exact ⟨0, 0, _, [], -3000, by omega, by omega, rfl, rfl, by omega, Lib.hid rfl, Lib.hid (Upto.start _ _ _), World.ownsRow_lit (e := 25) (base := w.heap.size) (size := 2) w #[] 0 (Nat.le_refl _) (by decide) rfl, (Below.refl _ _).alloc (Nat.le_refl _) _⟩
  case round =>
    obtain ⟨m, c, C, zs, y, hy0, hy1, rfl, rfl, hm, HM, HU, hown, hbw⟩ := hrel
    by_cases hlt : y ≤ 3000
    · have CA := Lib.hid (fun W (hb : Below wr.heap.size wr W) => cHas_spec A n cap xs y W hbig ((H.out.below (hbw.trans (hb.mono hbw.size))).more (Nat.le_trans hbw.size hb.size)))
      have CB := Lib.hid (fun W (hb : Below wr.heap.size wr W) => cHas_spec B n' cap' ys y W hbig' ((H'.out.below (hbw.trans (hb.mono hbw.size))).more (Nat.le_trans hbw.size hb.size)))
      cases ha : hasB xs y
      · have HP : Hid (askB false xs ys y = false) := Lib.hid (by unfold askB; simp [ha])
        have HS := Lib.hid (HU.out.skip HP.out)
        rw [ha] at CA
        clear ha
        go_wp2_with fail
        refine (CA.out _ (Below.refl _ _)).mono ?_
        rintro e w1 ⟨rfl, hc1⟩
        have hb1 := hc1
        go_wp2_with fail
        go_roundw
        case rel => exact ⟨m, c, C, zs, y + 1, by omega, by omega, rfl, rfl, by omega, HM, HS, hown.kept (below_grown_ hb1 none) (by cases hC : (Value.slice C m c).ownBlock <;> simp), hbw.trans (hb1.mono hbw.size)⟩
        case measure => simp [intOf]; omega
      · cases hb : hasB ys y
        · have HP : Hid (askB false xs ys y = true) := Lib.hid (by unfold askB; simp [ha, hb])
          rw [ha] at CA
          rw [hb] at CB
          clear ha hb
          go_wp2_with fail
          refine (CA.out _ (Below.refl _ _)).mono ?_
          rintro e w1 ⟨rfl, hc1⟩
          have hb1 := hc1
          go_wp2_with fail
          refine (CB.out _ hb1).mono ?_
          rintro e w2 ⟨rfl, hc2⟩
          have hb2 := hb1.trans (hc2.mono hb1.size)
          have hown2 := hown.kept (below_grown_ hb2 none) (by cases hC : (Value.slice C m c).ownBlock <;> simp)
          have hbw2 := hbw.trans (hb2.mono hbw.size)
          clear hown hbw
          by_cases hm0 : m = 0
          · have z1 : decide (0 < m) = false := decide_eq_false (by omega)
            have z2 : decide ((0 : Int) < (m : Int)) = false := decide_eq_false (by omega)
            have HT := Lib.hid (HU.out.add HP.out hlt hy0 (fun ws q e => by have h1 := HM.out; rw [e, List.length_append] at h1; simp at h1; omega))
            clear hm0
            go_wp2_with (at_builtin; refine wpList_append_own _ rfl _ _ 62 rfl w.heap.size 25 i0 _ 2 16 Tryz.underlying62 hi0 hz0 hz1 hz2 rfl (by decide) _ _ _ rfl (hown2.alloc _) ⟨w2.heap.size, 0, none⟩ 1 1 [.int .i64 y, .int .i64 y] rfl rfl (two_cells _ _ _ _) (two_one _ _) ?d23 ?d24 ?d25 ?_)
            case d23 => unfold maxLen; omega
            case d24 => omega
            case d25 => have := hbw2.size; simp; omega
            intro v' wz hown1 hgrow1 _
            rw [← spanV_one (y, y), ← spanV_app] at hown1
            obtain ⟨C', c', rfl⟩ := span_form hown1
            have hbz := (hbw2.alloc hbw2.size _).grown hgrow1 (by have := hbw2.size; simp; omega) (fun x hx => (hown2.lt x hx).1)
            clear z1 z2 hown2 hbw2
            go_wp2_with fail
            go_roundw
            case rel => exact ⟨m + 1, c', C', zs ++ [(y, y)], y + 1, by omega, by omega, rfl, rfl, by omega, Lib.hid (by rw [List.length_append, ← HM.out]; rfl), HT, hown1, hbz⟩
            case measure => simp [intOf]; omega
          · obtain ⟨ws, q, hws⟩ : ∃ ws q, zs = ws ++ [q] := by
              rcases nil_or_snoc zs with h1 | ⟨ws, q, h1⟩
              · exact absurd HM.out (by rw [h1]; exact hm0)
              · exact ⟨ws, q, h1⟩
            have hlen : m = ws.length + 1 := by rw [HM.out, hws]; simp
            obtain ⟨r, hr⟩ : ∃ r, r = ws.length := ⟨_, rfl⟩
            obtain ⟨g, cc, hv, _, hgl⟩ := hown2.form (by omega)
            obtain ⟨rfl, rfl⟩ : C = some ⟨g, 0, none⟩ ∧ c = cc := by injection hv with h1 h2 h3; exact ⟨h1, h3⟩
            have HL := Lib.hid hlen
            have HR := Lib.hid hr
            have HW := Lib.hid hws
            have hrm : (m : Int) - 1 = (r : Int) := by omega
            have hr0 : (0 : Int) ≤ (r : Int) := Int.natCast_nonneg _
            have hr1 : (r : Int) < (m : Int) := by omega
            have hrn : r < m := by omega
            have z1 : decide (0 < m) = true := decide_eq_true (by omega)
            have z2 : decide ((0 : Int) < (m : Int)) = true := decide_eq_true (by omega)
            have hU2 := HU.out
            rw [hws] at hU2
            have hlast := hU2.last
            have hcell : w2.cell? ⟨g, r * 2 + 1, none⟩ = some (.int .i64 q.2) := by
              rw [hown2.cellAt (r * 2 + 1) (by omega), hws]
              refine (spanV_at (ws ++ [q]) r q ?_).2
              rw [hr, List.getElem?_append_right (Nat.le_refl _), Nat.sub_self]; rfl
            have hfr := hown2.frozenAt (r * 2 + 1)
            obtain ⟨qx, qy⟩ := q
            have q1 : -3000 ≤ qy := by have := hlast.1; have := hlast.2.1; simp only at *; omega
            have q2 : qy ≤ 3000 := hlast.2.2.2
            clear hws hlen hv hr hlast hm0
            by_cases hq : qy = y - 1
            · have HT := Lib.hid (hU2.widen HP.out hq hlt hy0)
              have z3 : (qy == y - 1) = true := by rw [beq_iff_eq]; exact hq
              have hst := (hown2.stored (r * 2 + 1) (.int .i64 y)).1
              rw [HW.out, HR.out, spanV_set, ← HR.out] at hst
              have hbz : Below w.heap.size w (w2.setCell ⟨g, r * 2 + 1, none⟩ (.int .i64 y)) := hbw2.setCell (p := ⟨g, r * 2 + 1, none⟩) (hown2.lt g rfl).1 _
              clear hq hU2 hown2
              go_wp2_with fail
              go_roundw
              case rel => exact ⟨m, c, _, ws ++ [(qx, y)], y + 1, by omega, by omega, rfl, rfl, by omega, Lib.hid (by rw [HL.out, List.length_append]; rfl), HT, hst, hbz⟩
              case measure => simp [intOf]; omega
            · have HT := Lib.hid (HU.out.add HP.out hlt hy0 (fun ws' q' e => by
                rw [HW.out] at e
                have e2 := List.append_inj_right' e rfl
                injection e2 with e3
                rw [← e3]; exact hq))
              have z3 : (qy == y - 1) = false := by rw [beq_eq_false_iff_ne]; exact hq
              clear hq hU2
              go_wp2_with (at_builtin; refine wpList_append_own _ rfl _ _ 62 rfl w.heap.size 25 i0 _ 2 16 Tryz.underlying62 hi0 hz0 hz1 hz2 rfl (by decide) _ _ _ rfl (hown2.alloc _) ⟨w2.heap.size, 0, none⟩ 1 1 [.int .i64 y, .int .i64 y] rfl rfl (two_cells _ _ _ _) (two_one _ _) ?e23 ?e24 ?e25 ?_)
              case e23 => unfold maxLen; omega
              case e24 => omega
              case e25 => have := hbw2.size; simp; omega
              intro v' wz hown1 hgrow1 _
              rw [← spanV_one (y, y), ← spanV_app] at hown1
              obtain ⟨C', c', rfl⟩ := span_form hown1
              have hbz := (hbw2.alloc hbw2.size _).grown hgrow1 (by have := hbw2.size; simp; omega) (fun x hx => (hown2.lt x hx).1)
              clear z1 z2 z3 hown2 hbw2 hcell hfr
              go_wp2_with fail
              go_roundw
              case rel => exact ⟨m + 1, c', C', zs ++ [(y, y)], y + 1, by omega, by omega, rfl, rfl, by omega, Lib.hid (by rw [List.length_append, ← HM.out]; rfl), HT, hown1, hbz⟩
              case measure => simp [intOf]; omega
        · have HP : Hid (askB false xs ys y = false) := Lib.hid (by unfold askB; simp [ha, hb])
          have HS := Lib.hid (HU.out.skip HP.out)
          rw [ha] at CA
          rw [hb] at CB
          clear ha hb
          go_wp2_with fail
          refine (CA.out _ (Below.refl _ _)).mono ?_
          rintro e w1 ⟨rfl, hc1⟩
          have hb1 := hc1
          go_wp2_with fail
          refine (CB.out _ hb1).mono ?_
          rintro e w2 ⟨rfl, hc2⟩
          have hb2 := hb1.trans (hc2.mono hb1.size)
          go_wp2_with fail
          go_roundw
          case rel => exact ⟨m, c, C, zs, y + 1, by omega, by omega, rfl, rfl, by omega, HM, HS, hown.kept (below_grown_ hb2 none) (by cases hC : (Value.slice C m c).ownBlock <;> simp), hbw.trans (hb2.mono hbw.size)⟩
          case measure => simp [intOf]; omega
    · obtain rfl : y = 3001 := by omega
      have hl : m = zs.length := HM.out
      subst hl
      go_wp2_with fail
      go_ret
      exact ⟨zs, C, c, by omega, HU.out, rfl, hown, hbw⟩

set_option maxHeartbeats 4000000 in
set_option maxRecDepth 100000 in
theorem cBuild_union (A B : Option Addr) (n n' cap cap' : Nat) (xs ys : List Spn) (w : World) (hbig : n ≤ 1048576) (hbig' : n' ≤ 1048576) (h : SpanAt w w.heap.size A n xs) (h' : SpanAt w w.heap.size B n' ys) :
    Calls Tryz.prog 80 #[.slice A n cap, .slice B n' cap', .bool true] w (BuildPost true xs ys w) := by
  obtain ⟨i0, hi0, hz0, hz1, hz2⟩ := info_parts info_span
  have H := Lib.hid h
  have H' := Lib.hid h'
  clear h h'
  go_enter Tryz.func80, Tryz.ntmps80
  go_wp2_with fail
  go_loopw [7, 8] (fun o yy wr => ∃ (m c : Nat) (C : Option Addr) (zs : List Spn) (y : Int), -3000 ≤ y ∧ y ≤ 3001 ∧ yy = .int .i64 y ∧ o = .slice C m c ∧ (m : Int) ≤ y + 3000 ∧ Hid (m = zs.length) ∧ Hid (Upto true xs ys zs y) ∧ wr.ownsRow w.heap.size 25 2 (.slice C m c) m (spanV zs) ∧ Below w.heap.size w wr) (fun _ yy _ => (3001 - intOf yy).toNat)
  case atStart =>
    exact ⟨0, 0, _, [], -3000, by omega, by omega, rfl, rfl, by omega, Lib.hid rfl, Lib.hid (Upto.start _ _ _), World.ownsRow_lit (e := 25) (base := w.heap.size) (size := 2) w #[] 0 (Nat.le_refl _) (by decide) rfl, (Below.refl _ _).alloc (Nat.le_refl _) _⟩
  case round =>
    obtain ⟨m, c, C, zs, y, hy0, hy1, rfl, rfl, hm, HM, HU, hown, hbw⟩ := hrel
    by_cases hlt : y ≤ 3000
    · have CA := Lib.hid (fun W (hb : Below wr.heap.size wr W) => cHas_spec A n cap xs y W hbig ((H.out.below (hbw.trans (hb.mono hbw.size))).more (Nat.le_trans hbw.size hb.size)))
      have CB := Lib.hid (fun W (hb : Below wr.heap.size wr W) => cHas_spec B n' cap' ys y W hbig' ((H'.out.below (hbw.trans (hb.mono hbw.size))).more (Nat.le_trans hbw.size hb.size)))
      cases ha : hasB xs y
      · cases hb : hasB ys y
        · have HP : Hid (askB true xs ys y = false) := Lib.hid (by unfold askB; simp [ha, hb])
          have HS := Lib.hid (HU.out.skip HP.out)
          rw [ha] at CA
          rw [hb] at CB
          clear ha hb
          go_wp2_with fail
          refine (CA.out _ (Below.refl _ _)).mono ?_
          rintro e w1 ⟨rfl, hc1⟩
          have hb1 := hc1
          go_wp2_with fail
          refine (CA.out _ hb1).mono ?_
          rintro e w2 ⟨rfl, hc2⟩
          have hb2 := hb1.trans (hc2.mono hb1.size)
          go_wp2_with fail
          refine (CB.out _ hb2).mono ?_
          rintro e w3 ⟨rfl, hc3⟩
          have hb3 := hb2.trans (hc3.mono hb2.size)
          go_wp2_with fail
          go_roundw
          case rel => exact ⟨m, c, C, zs, y + 1, by omega, by omega, rfl, rfl, by omega, HM, HS, hown.kept (below_grown_ hb3 none) (by cases hC : (Value.slice C m c).ownBlock <;> simp), hbw.trans (hb3.mono hbw.size)⟩
          case measure => simp [intOf]; omega
        · have HP : Hid (askB true xs ys y = true) := Lib.hid (by unfold askB; simp [ha, hb])
          rw [ha] at CA
          rw [hb] at CB
          clear ha hb
          go_wp2_with fail
          refine (CA.out _ (Below.refl _ _)).mono ?_
          rintro e w1 ⟨rfl, hc1⟩
          have hb1 := hc1
          go_wp2_with fail
          refine (CA.out _ hb1).mono ?_
          rintro e w2 ⟨rfl, hc2⟩
          have hb2 := hb1.trans (hc2.mono hb1.size)
          go_wp2_with fail
          refine (CB.out _ hb2).mono ?_
          rintro e w3 ⟨rfl, hc3⟩
          have hb3 := hb2.trans (hc3.mono hb2.size)
          have hown3 := hown.kept (below_grown_ hb3 none) (by cases hC : (Value.slice C m c).ownBlock <;> simp)
          have hbw3 := hbw.trans (hb3.mono hbw.size)
          clear hown hbw
          by_cases hm0 : m = 0
          · have z1 : decide (0 < m) = false := decide_eq_false (by omega)
            have z2 : decide ((0 : Int) < (m : Int)) = false := decide_eq_false (by omega)
            have HT := Lib.hid (HU.out.add HP.out hlt hy0 (fun ws q e => by have h1 := HM.out; rw [e, List.length_append] at h1; simp at h1; omega))
            clear hm0
            go_wp2_with (at_builtin; refine wpList_append_own _ rfl _ _ 62 rfl w.heap.size 25 i0 _ 2 16 Tryz.underlying62 hi0 hz0 hz1 hz2 rfl (by decide) _ _ _ rfl (hown3.alloc _) ⟨w3.heap.size, 0, none⟩ 1 1 [.int .i64 y, .int .i64 y] rfl rfl (two_cells _ _ _ _) (two_one _ _) ?d33 ?d34 ?d35 ?_)
            case d33 => unfold maxLen; omega
            case d34 => omega
            case d35 => have := hbw3.size; simp; omega
            intro v' wz hown1 hgrow1 _
            rw [← spanV_one (y, y), ← spanV_app] at hown1
            obtain ⟨C', c', rfl⟩ := span_form hown1
            have hbz := (hbw3.alloc hbw3.size _).grown hgrow1 (by have := hbw3.size; simp; omega) (fun x hx => (hown3.lt x hx).1)
            clear z1 z2 hown3 hbw3
            go_wp2_with fail
            go_roundw
            case rel => exact ⟨m + 1, c', C', zs ++ [(y, y)], y + 1, by omega, by omega, rfl, rfl, by omega, Lib.hid (by rw [List.length_append, ← HM.out]; rfl), HT, hown1, hbz⟩
            case measure => simp [intOf]; omega
          · obtain ⟨ws, q, hws⟩ : ∃ ws q, zs = ws ++ [q] := by
              rcases nil_or_snoc zs with h1 | ⟨ws, q, h1⟩
              · exact absurd HM.out (by rw [h1]; exact hm0)
              · exact ⟨ws, q, h1⟩
            have hlen : m = ws.length + 1 := by rw [HM.out, hws]; simp
            obtain ⟨r, hr⟩ : ∃ r, r = ws.length := ⟨_, rfl⟩
            obtain ⟨g, cc, hv, _, hgl⟩ := hown3.form (by omega)
            obtain ⟨rfl, rfl⟩ : C = some ⟨g, 0, none⟩ ∧ c = cc := by injection hv with h1 h2 h3; exact ⟨h1, h3⟩
            have HL := Lib.hid hlen
            have HR := Lib.hid hr
            have HW := Lib.hid hws
            have hrm : (m : Int) - 1 = (r : Int) := by omega
            have hr0 : (0 : Int) ≤ (r : Int) := Int.natCast_nonneg _
            have hr1 : (r : Int) < (m : Int) := by omega
            have hrn : r < m := by omega
            have z1 : decide (0 < m) = true := decide_eq_true (by omega)
            have z2 : decide ((0 : Int) < (m : Int)) = true := decide_eq_true (by omega)
            have hU2 := HU.out
            rw [hws] at hU2
            have hlast := hU2.last
            have hcell : w3.cell? ⟨g, r * 2 + 1, none⟩ = some (.int .i64 q.2) := by
              rw [hown3.cellAt (r * 2 + 1) (by omega), hws]
              refine (spanV_at (ws ++ [q]) r q ?_).2
              rw [hr, List.getElem?_append_right (Nat.le_refl _), Nat.sub_self]; rfl
            have hfr := hown3.frozenAt (r * 2 + 1)
            obtain ⟨qx, qy⟩ := q
            have q1 : -3000 ≤ qy := by have := hlast.1; have := hlast.2.1; simp only at *; omega
            have q2 : qy ≤ 3000 := hlast.2.2.2
            clear hws hlen hv hr hlast hm0
            by_cases hq : qy = y - 1
            · have HT := Lib.hid (hU2.widen HP.out hq hlt hy0)
              have z3 : (qy == y - 1) = true := by rw [beq_iff_eq]; exact hq
              have hst := (hown3.stored (r * 2 + 1) (.int .i64 y)).1
              rw [HW.out, HR.out, spanV_set, ← HR.out] at hst
              have hbz : Below w.heap.size w (w3.setCell ⟨g, r * 2 + 1, none⟩ (.int .i64 y)) := hbw3.setCell (p := ⟨g, r * 2 + 1, none⟩) (hown3.lt g rfl).1 _
              clear hq hU2 hown3
              go_wp2_with fail
              go_roundw
              case rel => exact ⟨m, c, _, ws ++ [(qx, y)], y + 1, by omega, by omega, rfl, rfl, by omega, Lib.hid (by rw [HL.out, List.length_append]; rfl), HT, hst, hbz⟩
              case measure => simp [intOf]; omega
            · have HT := Lib.hid (HU.out.add HP.out hlt hy0 (fun ws' q' e => by
                rw [HW.out] at e
                have e2 := List.append_inj_right' e rfl
                injection e2 with e3
                rw [← e3]; exact hq))
              have z3 : (qy == y - 1) = false := by rw [beq_eq_false_iff_ne]; exact hq
              clear hq hU2
              go_wp2_with (at_builtin; refine wpList_append_own _ rfl _ _ 62 rfl w.heap.size 25 i0 _ 2 16 Tryz.underlying62 hi0 hz0 hz1 hz2 rfl (by decide) _ _ _ rfl (hown3.alloc _) ⟨w3.heap.size, 0, none⟩ 1 1 [.int .i64 y, .int .i64 y] rfl rfl (two_cells _ _ _ _) (two_one _ _) ?e33 ?e34 ?e35 ?_)
              case e33 => unfold maxLen; omega
              case e34 => omega
              case e35 => have := hbw3.size; simp; omega
              intro v' wz hown1 hgrow1 _
              rw [← spanV_one (y, y), ← spanV_app] at hown1
              obtain ⟨C', c', rfl⟩ := span_form hown1
              have hbz := (hbw3.alloc hbw3.size _).grown hgrow1 (by have := hbw3.size; simp; omega) (fun x hx => (hown3.lt x hx).1)
              clear z1 z2 z3 hown3 hbw3 hcell hfr
              go_wp2_with fail
              go_roundw
              case rel => exact ⟨m + 1, c', C', zs ++ [(y, y)], y + 1, by omega, by omega, rfl, rfl, by omega, Lib.hid (by rw [List.length_append, ← HM.out]; rfl), HT, hown1, hbz⟩
              case measure => simp [intOf]; omega
      · cases hb : hasB ys y
        · have HP : Hid (askB true xs ys y = true) := Lib.hid (by unfold askB; simp [ha, hb])
          rw [ha] at CA
          rw [hb] at CB
          clear ha hb
          go_wp2_with fail
          refine (CA.out _ (Below.refl _ _)).mono ?_
          rintro e w1 ⟨rfl, hc1⟩
          have hb1 := hc1
          go_wp2_with fail
          refine (CB.out _ hb1).mono ?_
          rintro e w2 ⟨rfl, hc2⟩
          have hb2 := hb1.trans (hc2.mono hb1.size)
          go_wp2_with fail
          refine (CA.out _ hb2).mono ?_
          rintro e w3 ⟨rfl, hc3⟩
          have hb3 := hb2.trans (hc3.mono hb2.size)
          have hown3 := hown.kept (below_grown_ hb3 none) (by cases hC : (Value.slice C m c).ownBlock <;> simp)
          have hbw3 := hbw.trans (hb3.mono hbw.size)
          clear hown hbw
          by_cases hm0 : m = 0
          · have z1 : decide (0 < m) = false := decide_eq_false (by omega)
            have z2 : decide ((0 : Int) < (m : Int)) = false := decide_eq_false (by omega)
            have HT := Lib.hid (HU.out.add HP.out hlt hy0 (fun ws q e => by have h1 := HM.out; rw [e, List.length_append] at h1; simp at h1; omega))
            clear hm0
            go_wp2_with (at_builtin; refine wpList_append_own _ rfl _ _ 62 rfl w.heap.size 25 i0 _ 2 16 Tryz.underlying62 hi0 hz0 hz1 hz2 rfl (by decide) _ _ _ rfl (hown3.alloc _) ⟨w3.heap.size, 0, none⟩ 1 1 [.int .i64 y, .int .i64 y] rfl rfl (two_cells _ _ _ _) (two_one _ _) ?d33 ?d34 ?d35 ?_)
            case d33 => unfold maxLen; omega
            case d34 => omega
            case d35 => have := hbw3.size; simp; omega
            intro v' wz hown1 hgrow1 _
            rw [← spanV_one (y, y), ← spanV_app] at hown1
            obtain ⟨C', c', rfl⟩ := span_form hown1
            have hbz := (hbw3.alloc hbw3.size _).grown hgrow1 (by have := hbw3.size; simp; omega) (fun x hx => (hown3.lt x hx).1)
            clear z1 z2 hown3 hbw3
            go_wp2_with fail
            go_roundw
            case rel => exact ⟨m + 1, c', C', zs ++ [(y, y)], y + 1, by omega, by omega, rfl, rfl, by omega, Lib.hid (by rw [List.length_append, ← HM.out]; rfl), HT, hown1, hbz⟩
            case measure => simp [intOf]; omega
          · obtain ⟨ws, q, hws⟩ : ∃ ws q, zs = ws ++ [q] := by
              rcases nil_or_snoc zs with h1 | ⟨ws, q, h1⟩
              · exact absurd HM.out (by rw [h1]; exact hm0)
              · exact ⟨ws, q, h1⟩
            have hlen : m = ws.length + 1 := by rw [HM.out, hws]; simp
            obtain ⟨r, hr⟩ : ∃ r, r = ws.length := ⟨_, rfl⟩
            obtain ⟨g, cc, hv, _, hgl⟩ := hown3.form (by omega)
            obtain ⟨rfl, rfl⟩ : C = some ⟨g, 0, none⟩ ∧ c = cc := by injection hv with h1 h2 h3; exact ⟨h1, h3⟩
            have HL := Lib.hid hlen
            have HR := Lib.hid hr
            have HW := Lib.hid hws
            have hrm : (m : Int) - 1 = (r : Int) := by omega
            have hr0 : (0 : Int) ≤ (r : Int) := Int.natCast_nonneg _
            have hr1 : (r : Int) < (m : Int) := by omega
            have hrn : r < m := by omega
            have z1 : decide (0 < m) = true := decide_eq_true (by omega)
            have z2 : decide ((0 : Int) < (m : Int)) = true := decide_eq_true (by omega)
            have hU2 := HU.out
            rw [hws] at hU2
            have hlast := hU2.last
            have hcell : w3.cell? ⟨g, r * 2 + 1, none⟩ = some (.int .i64 q.2) := by
              rw [hown3.cellAt (r * 2 + 1) (by omega), hws]
              refine (spanV_at (ws ++ [q]) r q ?_).2
              rw [hr, List.getElem?_append_right (Nat.le_refl _), Nat.sub_self]; rfl
            have hfr := hown3.frozenAt (r * 2 + 1)
            obtain ⟨qx, qy⟩ := q
            have q1 : -3000 ≤ qy := by have := hlast.1; have := hlast.2.1; simp only at *; omega
            have q2 : qy ≤ 3000 := hlast.2.2.2
            clear hws hlen hv hr hlast hm0
            by_cases hq : qy = y - 1
            · have HT := Lib.hid (hU2.widen HP.out hq hlt hy0)
              have z3 : (qy == y - 1) = true := by rw [beq_iff_eq]; exact hq
              have hst := (hown3.stored (r * 2 + 1) (.int .i64 y)).1
              rw [HW.out, HR.out, spanV_set, ← HR.out] at hst
              have hbz : Below w.heap.size w (w3.setCell ⟨g, r * 2 + 1, none⟩ (.int .i64 y)) := hbw3.setCell (p := ⟨g, r * 2 + 1, none⟩) (hown3.lt g rfl).1 _
              clear hq hU2 hown3
              go_wp2_with fail
              go_roundw
              case rel => exact ⟨m, c, _, ws ++ [(qx, y)], y + 1, by omega, by omega, rfl, rfl, by omega, Lib.hid (by rw [HL.out, List.length_append]; rfl), HT, hst, hbz⟩
              case measure => simp [intOf]; omega
            · have HT := Lib.hid (HU.out.add HP.out hlt hy0 (fun ws' q' e => by
                rw [HW.out] at e
                have e2 := List.append_inj_right' e rfl
                injection e2 with e3
                rw [← e3]; exact hq))
              have z3 : (qy == y - 1) = false := by rw [beq_eq_false_iff_ne]; exact hq
              clear hq hU2
              go_wp2_with (at_builtin; refine wpList_append_own _ rfl _ _ 62 rfl w.heap.size 25 i0 _ 2 16 Tryz.underlying62 hi0 hz0 hz1 hz2 rfl (by decide) _ _ _ rfl (hown3.alloc _) ⟨w3.heap.size, 0, none⟩ 1 1 [.int .i64 y, .int .i64 y] rfl rfl (two_cells _ _ _ _) (two_one _ _) ?e33 ?e34 ?e35 ?_)
              case e33 => unfold maxLen; omega
              case e34 => omega
              case e35 => have := hbw3.size; simp; omega
              intro v' wz hown1 hgrow1 _
              rw [← spanV_one (y, y), ← spanV_app] at hown1
              obtain ⟨C', c', rfl⟩ := span_form hown1
              have hbz := (hbw3.alloc hbw3.size _).grown hgrow1 (by have := hbw3.size; simp; omega) (fun x hx => (hown3.lt x hx).1)
              clear z1 z2 z3 hown3 hbw3 hcell hfr
              go_wp2_with fail
              go_roundw
              case rel => exact ⟨m + 1, c', C', zs ++ [(y, y)], y + 1, by omega, by omega, rfl, rfl, by omega, Lib.hid (by rw [List.length_append, ← HM.out]; rfl), HT, hown1, hbz⟩
              case measure => simp [intOf]; omega
        · have HP : Hid (askB true xs ys y = true) := Lib.hid (by unfold askB; simp [ha, hb])
          rw [ha] at CA
          rw [hb] at CB
          clear ha hb
          go_wp2_with fail
          refine (CA.out _ (Below.refl _ _)).mono ?_
          rintro e w1 ⟨rfl, hc1⟩
          have hb1 := hc1
          go_wp2_with fail
          refine (CB.out _ hb1).mono ?_
          rintro e w2 ⟨rfl, hc2⟩
          have hb2 := hb1.trans (hc2.mono hb1.size)
          go_wp2_with fail
          refine (CA.out _ hb2).mono ?_
          rintro e w3 ⟨rfl, hc3⟩
          have hb3 := hb2.trans (hc3.mono hb2.size)
          have hown3 := hown.kept (below_grown_ hb3 none) (by cases hC : (Value.slice C m c).ownBlock <;> simp)
          have hbw3 := hbw.trans (hb3.mono hbw.size)
          clear hown hbw
          by_cases hm0 : m = 0
          · have z1 : decide (0 < m) = false := decide_eq_false (by omega)
            have z2 : decide ((0 : Int) < (m : Int)) = false := decide_eq_false (by omega)
            have HT := Lib.hid (HU.out.add HP.out hlt hy0 (fun ws q e => by have h1 := HM.out; rw [e, List.length_append] at h1; simp at h1; omega))
            clear hm0
            go_wp2_with (at_builtin; refine wpList_append_own _ rfl _ _ 62 rfl w.heap.size 25 i0 _ 2 16 Tryz.underlying62 hi0 hz0 hz1 hz2 rfl (by decide) _ _ _ rfl (hown3.alloc _) ⟨w3.heap.size, 0, none⟩ 1 1 [.int .i64 y, .int .i64 y] rfl rfl (two_cells _ _ _ _) (two_one _ _) ?d33 ?d34 ?d35 ?_)
            case d33 => unfold maxLen; omega
            case d34 => omega
            case d35 => have := hbw3.size; simp; omega
            intro v' wz hown1 hgrow1 _
            rw [← spanV_one (y, y), ← spanV_app] at hown1
            obtain ⟨C', c', rfl⟩ := span_form hown1
            have hbz := (hbw3.alloc hbw3.size _).grown hgrow1 (by have := hbw3.size; simp; omega) (fun x hx => (hown3.lt x hx).1)
            clear z1 z2 hown3 hbw3
            go_wp2_with fail
            go_roundw
            case rel => exact ⟨m + 1, c', C', zs ++ [(y, y)], y + 1, by omega, by omega, rfl, rfl, by omega, Lib.hid (by rw [List.length_append, ← HM.out]; rfl), HT, hown1, hbz⟩
            case measure => simp [intOf]; omega
          · obtain ⟨ws, q, hws⟩ : ∃ ws q, zs = ws ++ [q] := by
              rcases nil_or_snoc zs with h1 | ⟨ws, q, h1⟩
              · exact absurd HM.out (by rw [h1]; exact hm0)
              · exact ⟨ws, q, h1⟩
            have hlen : m = ws.length + 1 := by rw [HM.out, hws]; simp
            obtain ⟨r, hr⟩ : ∃ r, r = ws.length := ⟨_, rfl⟩
            obtain ⟨g, cc, hv, _, hgl⟩ := hown3.form (by omega)
            obtain ⟨rfl, rfl⟩ : C = some ⟨g, 0, none⟩ ∧ c = cc := by injection hv with h1 h2 h3; exact ⟨h1, h3⟩
            have HL := Lib.hid hlen
            have HR := Lib.hid hr
            have HW := Lib.hid hws
            have hrm : (m : Int) - 1 = (r : Int) := by omega
            have hr0 : (0 : Int) ≤ (r : Int) := Int.natCast_nonneg _
            have hr1 : (r : Int) < (m : Int) := by omega
            have hrn : r < m := by omega
            have z1 : decide (0 < m) = true := decide_eq_true (by omega)
            have z2 : decide ((0 : Int) < (m : Int)) = true := decide_eq_true (by omega)
            have hU2 := HU.out
            rw [hws] at hU2
            have hlast := hU2.last
            have hcell : w3.cell? ⟨g, r * 2 + 1, none⟩ = some (.int .i64 q.2) := by
              rw [hown3.cellAt (r * 2 + 1) (by omega), hws]
              refine (spanV_at (ws ++ [q]) r q ?_).2
              rw [hr, List.getElem?_append_right (Nat.le_refl _), Nat.sub_self]; rfl
            have hfr := hown3.frozenAt (r * 2 + 1)
            obtain ⟨qx, qy⟩ := q
            have q1 : -3000 ≤ qy := by have := hlast.1; have := hlast.2.1; simp only at *; omega
            have q2 : qy ≤ 3000 := hlast.2.2.2
            clear hws hlen hv hr hlast hm0
            by_cases hq : qy = y - 1
            · have HT := Lib.hid (hU2.widen HP.out hq hlt hy0)
              have z3 : (qy == y - 1) = true := by rw [beq_iff_eq]; exact hq
              have hst := (hown3.stored (r * 2 + 1) (.int .i64 y)).1
              rw [HW.out, HR.out, spanV_set, ← HR.out] at hst
              have hbz : Below w.heap.size w (w3.setCell ⟨g, r * 2 + 1, none⟩ (.int .i64 y)) := hbw3.setCell (p := ⟨g, r * 2 + 1, none⟩) (hown3.lt g rfl).1 _
              clear hq hU2 hown3
              go_wp2_with fail
              go_roundw
              case rel => exact ⟨m, c, _, ws ++ [(qx, y)], y + 1, by omega, by omega, rfl, rfl, by omega, Lib.hid (by rw [HL.out, List.length_append]; rfl), HT, hst, hbz⟩
              case measure => simp [intOf]; omega
            · have HT := Lib.hid (HU.out.add HP.out hlt hy0 (fun ws' q' e => by
                rw [HW.out] at e
                have e2 := List.append_inj_right' e rfl
                injection e2 with e3
                rw [← e3]; exact hq))
              have z3 : (qy == y - 1) = false := by rw [beq_eq_false_iff_ne]; exact hq
              clear hq hU2
              go_wp2_with (at_builtin; refine wpList_append_own _ rfl _ _ 62 rfl w.heap.size 25 i0 _ 2 16 Tryz.underlying62 hi0 hz0 hz1 hz2 rfl (by decide) _ _ _ rfl (hown3.alloc _) ⟨w3.heap.size, 0, none⟩ 1 1 [.int .i64 y, .int .i64 y] rfl rfl (two_cells _ _ _ _) (two_one _ _) ?e33 ?e34 ?e35 ?_)
              case e33 => unfold maxLen; omega
              case e34 => omega
              case e35 => have := hbw3.size; simp; omega
              intro v' wz hown1 hgrow1 _
              rw [← spanV_one (y, y), ← spanV_app] at hown1
              obtain ⟨C', c', rfl⟩ := span_form hown1
              have hbz := (hbw3.alloc hbw3.size _).grown hgrow1 (by have := hbw3.size; simp; omega) (fun x hx => (hown3.lt x hx).1)
              clear z1 z2 z3 hown3 hbw3 hcell hfr
              go_wp2_with fail
              go_roundw
              case rel => exact ⟨m + 1, c', C', zs ++ [(y, y)], y + 1, by omega, by omega, rfl, rfl, by omega, Lib.hid (by rw [List.length_append, ← HM.out]; rfl), HT, hown1, hbz⟩
              case measure => simp [intOf]; omega
    · obtain rfl : y = 3001 := by omega
      have hl : m = zs.length := HM.out
      subst hl
      go_wp2_with fail
      go_ret
      exact ⟨zs, C, c, by omega, HU.out, rfl, hown, hbw⟩

end
section
set_option linter.unusedVariables false
open Go.RowKit

def CutPost (x y u v : Int) (w : World) (e : Ending) (w' : World) : Prop :=
  ∃ (A : Option Addr) (c : Nat), e = .returned (.slice A (cutS u v (x, y)).length c) ∧ w'.ownsRow w.heap.size 25 2 (.slice A (cutS u v (x, y)).length c) (cutS u v (x, y)).length (spanV (cutS u v (x, y))) ∧ Below w.heap.size w w'
theorem BoxAt.grown {w w' : World} {B : Nat} {x y : Int} {row : Option Nat} (h : BoxAt w B x y) (hg : w.grownBy w' row) (hne : some B ≠ row) : BoxAt w' B x y :=
  ⟨Nat.lt_of_lt_of_le h.1 hg.size, hg.cell (a := ⟨B, 0, none⟩) h.2.1 hne, hg.cell (a := ⟨B, 1, none⟩) h.2.2 hne⟩
end
section
set_option linter.unusedVariables false
open Go.RowKit

/-- The code and the list that the union (or what is left) of two lists has. -/
def SetIs (both : Bool) (xs ys : List Spn) (code : Int) (zs : List Spn) : Prop :=
  ((yearsB xs && yearsB ys) = false ∧ code = 1 ∧ zs = []) ∨ ((yearsB xs && yearsB ys) = true ∧ ∃ full, Upto both xs ys full 3001 ∧ ((12 < full.length ∧ code = 3 ∧ zs = []) ∨ (full.length ≤ 12 ∧ code = 0 ∧ zs = full)))
theorem Upto.uniq {both : Bool} {xs ys zs zs' : List Spn} {y : Int} (h : Upto both xs ys zs y) (h' : Upto both xs ys zs' y) : zs = zs' :=
  sep_unique _ _ h.1 h'.1 fun z => (h.2 z).trans (h'.2 z).symm
theorem SetIs.uniq {both : Bool} {xs ys zs zs' : List Spn} {c c' : Int} (h : SetIs both xs ys c zs) (h' : SetIs both xs ys c' zs') : c = c' ∧ zs = zs' := by
  rcases h with ⟨h1, rfl, rfl⟩ | ⟨h1, f, hf, h2⟩ <;> rcases h' with ⟨h1', rfl, rfl⟩ | ⟨h1', f', hf', h2'⟩
  · exact ⟨rfl, rfl⟩
  · rw [h1] at h1'; cases h1'
  · rw [h1] at h1'; cases h1'
  · have e := hf.uniq hf'
    subst e
    rcases h2 with ⟨h2, rfl, rfl⟩ | ⟨h2, rfl, rfl⟩ <;> rcases h2' with ⟨h3, rfl, rfl⟩ | ⟨h3, rfl, rfl⟩
    · exact ⟨rfl, rfl⟩
    · omega
    · omega
    · exact ⟨rfl, rfl⟩
theorem SetIs.short {both : Bool} {xs ys zs : List Spn} {c : Int} (h : SetIs both xs ys c zs) : zs.length ≤ 12 := by
  rcases h with ⟨_, _, rfl⟩ | ⟨_, f, _, ⟨_, _, rfl⟩ | ⟨h, _, rfl⟩⟩
  · simp
  · simp
  · exact h
def SetPost (both : Bool) (xs ys : List Spn) (w : World) (e : Ending) (w' : World) : Prop :=
  ∃ (C : Option Addr) (n c : Nat) (code : Int) (zs : List Spn), n = zs.length ∧ SetIs both xs ys code zs ∧ e = .returned (.tuple #[.slice C n c, .int .i64 code]) ∧ w'.ownsRow w.heap.size 25 2 (.slice C n c) n (spanV zs) ∧ Below w.heap.size w w'
theorem ownsRow_base {w : World} {b b' : Nat} {t : TypeId} {s n : Nat} {v : Value} {xs : List Value} (h : w.ownsRow b t s v n xs) (hb : b' ≤ b) : w.ownsRow b' t s v n xs := by
  refine ⟨h.1, ?_⟩
  rcases h.2 with h2 | ⟨g, cap, cur, h1, h2, h3⟩
  · exact .inl h2
  · exact .inr ⟨g, cap, cur, h1, by omega, h3⟩


theorem span_cells {w : World} {B n : Nat} {b o : Nat} {xs : List Spn} (h : SpanAt w B (some ⟨b, o, none⟩) n xs) : ∀ (j : Nat) u, (spanV xs)[j]? = some u → w.cell? ((⟨b, o, none⟩ : Addr).add j) = some u := by
  intro j u hu
  have hj := (List.getElem?_eq_some_iff.1 hu).1
  rw [spanV_len] at hj
  obtain ⟨p, hp⟩ : ∃ p, xs[j / 2]? = some p := ⟨xs[j / 2]'(by omega), List.getElem?_eq_getElem _⟩
  obtain ⟨b', o', hA, _, h1, h2⟩ := h.2 _ p hp
  injection hA with hA
  injection hA with e1 e2 _
  subst e1; subst e2
  have hv := spanV_at xs _ p hp
  rw [add_plain2]
  by_cases he : j % 2 = 0
  · rw [show j / 2 * 2 = j by omega] at hv h1
    rw [hv.1] at hu; rw [h1]; exact hu
  · rw [show j / 2 * 2 + 1 = j by omega] at hv
    rw [show o + j / 2 * 2 + 1 = o + j by omega] at h2
    rw [hv.2] at hu; rw [h2]; exact hu
theorem spanV_one' (xs : List Spn) : ∀ u ∈ spanV xs, u.oneCell' = true := by
  intro u hu
  unfold spanV at hu
  obtain ⟨p, _, hp⟩ := List.mem_flatMap.1 hu
  simp at hp
  rcases hp with rfl | rfl <;> rfl

theorem cLimited (C : Option Addr) (n c : Nat) (w : World) (hbig : n ≤ 1048576) :
    Calls Tryz.prog 119 #[.slice C n c] w fun e w' => e = .returned (if 12 < n then .tuple #[.slice none 0 0, .int .i64 3] else .tuple #[.slice C n c, .int .i64 0]) ∧ w = w' := by
  by_cases h : 12 < n
  · rw [if_pos h]
    go_enter Tryz.func119, Tryz.ntmps119
    go_wp2
    go_ret2
    exact ⟨rfl, rfl⟩
  · rw [if_neg h]
    go_enter Tryz.func119, Tryz.ntmps119
    go_wp2
    go_ret2
    exact ⟨rfl, rfl⟩
end
section
set_option linter.unusedVariables false
open Go.RowKit

/-- A row of spans of one's own. -/
def Row (w : World) (A : Option Addr) (n c : Nat) (xs : List Spn) : Prop := w.ownsRow 0 25 2 (.slice A n c) n (spanV xs)
theorem Row.of {w : World} {A : Option Addr} {n c b : Nat} {xs : List Spn} (h : w.ownsRow b 25 2 (.slice A n c) n (spanV xs)) : Row w A n c xs := ownsRow_base h (Nat.zero_le _)
theorem Row.len {w : World} {A : Option Addr} {n c : Nat} {xs : List Spn} (h : Row w A n c xs) : xs.length = n := by have := h.1; rw [spanV_len] at this; omega
theorem Row.grown {w w' : World} {A : Option Addr} {n c : Nat} {xs : List Spn} {row : Option Nat} (h : Row w A n c xs) (hg : w.grownBy w' row) (hne : ∀ x, (Value.slice A n c).ownBlock = some x → row ≠ some x) : Row w' A n c xs := by
  refine World.ownsRow.kept h hg ?_
  cases hC : (Value.slice A n c).ownBlock with
  | none => exact .inl rfl
  | some x => exact .inr (fun e => hne x hC e.symm)
theorem Row.below {w w' : World} {A : Option Addr} {n c : Nat} {xs : List Spn} (h : Row w A n c xs) (hb : Below w.heap.size w w') : Row w' A n c xs := h.grown (below_grown_ hb none) (fun _ _ e => by cases e)
theorem Row.span {w : World} {A : Option Addr} {n c : Nat} {xs : List Spn} (h : Row w A n c xs) : SpanAt w w.heap.size A n xs := SpanAt.own h

def marksP (k n : Nat) : List Spn := (List.range n).map fun (i : Nat) => (((k + 2 * i : Nat) : Int), ((k + 2 * i + 1 : Nat) : Int))
theorem marksP_len (k n : Nat) : (marksP k n).length = n := by simp [marksP]
theorem marksP_at (k n j : Nat) (h : j < n) : (marksP k n)[j]? = some (((k + 2 * j : Nat) : Int), ((k + 2 * j + 1 : Nat) : Int)) := by simp [marksP, h]
theorem marksP_succ (k j : Nat) : marksP k (j + 1) = marksP k j ++ [(((k + 2 * j : Nat) : Int), ((k + 2 * j + 1 : Nat) : Int))] := by unfold marksP; rw [List.range_succ, List.map_append]; rfl
def markSp (k j : Nat) (xs : List Spn) : List Spn := marksP k j ++ xs.drop j
theorem markSp_len (k j : Nat) (xs : List Spn) (h : j ≤ xs.length) : (markSp k j xs).length = xs.length := by unfold markSp; rw [List.length_append, marksP_len, List.length_drop]; omega
theorem spanV_set2 (ys : List Spn) (q : Spn) (zs : List Spn) (a b : Int) : ((spanV (ys ++ q :: zs)).set (ys.length * 2) (.int .i64 a)).set (ys.length * 2 + 1) (.int .i64 b) = spanV (ys ++ (a, b) :: zs) := by
  rw [spanV_app, spanV_cons, List.set_append_right _ _ (by rw [spanV_len]; exact Nat.le_refl _), List.set_append_right _ _ (by rw [spanV_len]; omega), spanV_len, Nat.sub_self, show ys.length * 2 + 1 - ys.length * 2 = 1 by omega, spanV_app, spanV_cons]
  rfl
theorem markSp_step (k j : Nat) (xs : List Spn) (h : j < xs.length) : ((spanV (markSp k j xs)).set (j * 2) (.int .i64 ((k + 2 * j : Nat) : Int))).set (j * 2 + 1) (.int .i64 ((k + 2 * j + 1 : Nat) : Int)) = spanV (markSp k (j + 1) xs) := by
  have h1 := spanV_set2 (marksP k j) xs[j] (xs.drop (j + 1)) ((k + 2 * j : Nat) : Int) ((k + 2 * j + 1 : Nat) : Int)
  rw [marksP_len] at h1
  unfold markSp
  rw [List.drop_eq_getElem_cons h, h1, marksP_succ, List.append_assoc]; rfl

def MarkPost (A : Option Addr) (n c k : Nat) (w : World) (e : Ending) (w' : World) : Prop :=
  e = .returned (.int .i64 ((k + 2 * n : Nat) : Int)) ∧ Row w' A n c (marksP k n) ∧ w.grownBy w' (Value.slice A n c).ownBlock

end
section
set_option linter.unusedVariables false
open Go.RowKit

theorem cNaN (x : Int) (w : World) : Calls Tryz.prog 154 #[.int .i64 x] w fun e w' => e = .returned (.bool false) ∧ w = w' := by
  have hd : (x != x) = false := by simp
  go_enter Tryz.func154, Tryz.ntmps154
  go_wp2
  go_ret
  exact ⟨rfl, rfl⟩
theorem cCmp (x y : Int) (w : World) : Calls Tryz.prog 118 #[.int .i64 x, .int .i64 y] w fun e w' => e = .returned (.int .i64 (Lib.compareInt x y)) ∧ w = w' := by
  unfold Lib.compareInt
  by_cases h1 : x < y
  · rw [if_pos h1]
    go_enter Tryz.func118, Tryz.ntmps118
    go_wp2_with (go_at_call 154; refine (cNaN _ _).mono ?_; rintro e w' ⟨rfl, rfl⟩)
    go_ret
    exact ⟨rfl, rfl⟩
  rw [if_neg h1]
  by_cases h2 : x > y
  · rw [if_pos h2]
    have h3 : y < x := h2
    go_enter Tryz.func118, Tryz.ntmps118
    go_wp2_with (go_at_call 154; refine (cNaN _ _).mono ?_; rintro e w' ⟨rfl, rfl⟩)
    go_ret
    exact ⟨rfl, rfl⟩
  · rw [if_neg h2]
    have h3 : ¬ y < x := h2
    go_enter Tryz.func118, Tryz.ntmps118
    go_wp2_with (go_at_call 154; refine (cNaN _ _).mono ?_; rintro e w' ⟨rfl, rfl⟩)
    go_ret
    exact ⟨rfl, rfl⟩

def encSp (x : Spn) : List Value := [.int .i64 x.1, .int .i64 x.2]
theorem cClosure (x y : Spn) (W : World) : Calls Tryz.prog 117 #[.agg #[.int .i64 x.1, .int .i64 x.2], .agg #[.int .i64 y.1, .int .i64 y.2]] W fun e w' => e = .returned (.int .i64 (Lib.compareInt x.1 y.1)) ∧ ∃ q os', w' = Sort.grow (W.drewN q) os' := by
  have hcon := fun W' => cCmp x.1 y.1 W'
  generalize Lib.compareInt x.1 y.1 = r at hcon ⊢
  obtain ⟨x1, x2⟩ := x
  obtain ⟨y1, y2⟩ := y
  go_enter Tryz.func117, Tryz.ntmps117
  go_wp2_with (go_at_call 118; refine (hcon _).mono ?_; rintro e w' ⟨rfl, rfl⟩)
  go_ret
  exact ⟨rfl, 0, _, by rw [Sort.alloc_eq_grow, Sort.alloc_eq_grow, Sort.grow_grow]; rfl⟩
theorem cmpSp (blk off size : Nat) (w : World) : CmpLays Tryz.prog 117 #[] encSp 2 (fun x y : Spn => Lib.compareInt x.1 y.1) blk off size w :=
  fun _ _ _ _ x y => cClosure x y _
theorem ltSp (x y : Spn) : ltOf (fun x y : Spn => Lib.compareInt x.1 y.1) x y = decide (x.1 < y.1) := by
  unfold ltOf Lib.compareInt
  by_cases h1 : x.1 < y.1
  · simp [h1]
  · by_cases h2 : y.1 < x.1 <;> simp [h1, h2]
theorem swoSp : Sort.SWO (ltOf fun x y : Spn => Lib.compareInt x.1 y.1) where
  irrefl x := by rw [ltSp]; simp
  trans x y z h1 h2 := by rw [ltSp] at *; simp at *; omega
  ntrans x y z h1 h2 := by rw [ltSp] at *; simp at *; omega

theorem flat_sp (d : Array Spn) : Sort.flatK encSp 2 d = (spanV d.toList).toArray := by
  have hl := spanV_len d.toList
  refine Sort.ext_get! (by rw [Sort.size_flatK]; simp [hl]) fun t ht => ?_
  have ht2 : t < d.size * 2 := by rw [Sort.size_flatK] at ht; exact ht
  rw [Sort.get_flatK _ _ _ _ ht2]
  have hp : d.toList[t / 2]? = some d[t / 2]! := by
    have hlt : t / 2 < d.size := by omega
    rw [getElem!_pos d _ hlt, Array.getElem?_toList, Array.getElem?_eq_getElem hlt]
  have hv := spanV_at _ _ _ hp
  have hs : t < (spanV d.toList).toArray.size := by rw [List.size_toArray, hl]; simpa using ht2
  rw [getElem!_pos (spanV d.toList).toArray t hs, List.getElem_toArray]
  have key : ∀ u, (spanV d.toList)[t]? = some u → (spanV d.toList)[t]'(by rw [hl]; simpa using ht2) = u := fun u hu => Option.some.inj ((List.getElem?_eq_getElem _).symm.trans hu)
  have h2 : t % 2 = 0 ∨ t % 2 = 1 := by omega
  rcases h2 with h2 | h2
  · rw [h2, key _ (by rw [← hv.1]; congr 1; omega)]; rfl
  · rw [h2, key _ (by rw [← hv.2]; congr 1; omega)]; rfl
theorem holds_row {w : World} {b n c : Nat} {xs : List Spn} (h : Row w (some ⟨b, 0, none⟩) n c xs) : Sort.HoldsK encSp 2 w b 0 xs.toArray := by
  unfold Sort.HoldsK
  rw [flat_sp]
  intro j hj
  have hl := spanV_len xs
  have hjl : j < (spanV xs).length := by simpa using hj
  have hn := h.len
  rw [Nat.zero_add]
  refine ⟨?_, World.ownsRow.frozenAt h j⟩
  rw [World.ownsRow.cellAt h j (by omega), List.getElem?_eq_getElem hjl]
  simp only [id]
  rw [getElem!_pos (spanV xs.toArray.toList).toArray j (by simpa using hj)]
  simp

theorem sort_row {w : World} {b n c : Nat} {xs : List Spn} (d' : Array Spn) (q : Nat) (os : Array Obj) (h : Row w (some ⟨b, 0, none⟩) n c xs) (hs : d'.size = xs.length) (hb : b < w.heap.size) :
    Row (sortWorldK encSp 2 w b 0 q d' os) (some ⟨b, 0, none⟩) n c d'.toList ∧ w.grownBy (sortWorldK encSp 2 w b 0 q d' os) (some b) := by
  have hn := h.len
  obtain ⟨h1, h2⟩ := h
  rcases h2 with ⟨h2, _⟩ | ⟨g, cap, cur, hv, hg0, hh, hnc, hcm, hcs, htk⟩
  · injection h2 with h2; cases h2
  obtain ⟨rfl, rfl⟩ : b = g ∧ c = cap := by injection hv with e1 e2 e3; injection e1 with e1; injection e1 with e1; exact ⟨e1, e3⟩
  have hF : (Sort.flatK encSp 2 d').size = n * 2 := by rw [Sort.size_flatK, hs, hn]
  have hfl : Sort.flatK encSp 2 d' = (spanV d'.toList).toArray := flat_sp d'
  have hsl : (spanV d'.toList).length = n * 2 := by rw [spanV_len]; simp [hs, hn]
  have hheap : (sortWorldK encSp 2 w b 0 q d' os).heap = (w.heap.modify b (Sort.onCells (Sort.putCells id 0 (Sort.flatK encSp 2 d')))) ++ os := rfl
  have hblk : (sortWorldK encSp 2 w b 0 q d' os).heap[b]? = some (.cells (Sort.putCells id 0 (Sort.flatK encSp 2 d') cur) 25 (0, 0)) := by
    rw [hheap, Array.getElem?_append_left (by simpa using hb), Array.getElem?_modify, if_pos rfl, hh]; rfl
  refine ⟨⟨by rw [spanV_len]; simp [hs, hn], .inr ⟨b, c, _, rfl, Nat.zero_le _, hblk, hnc, hcm, by simp [Sort.putCells, hcs], ?_⟩⟩, ⟨rfl, rfl, rfl, by rw [hheap]; simp, fun k hk hne => ?_⟩⟩
  · apply List.ext_getElem?
    intro t
    rw [List.getElem?_take]
    by_cases ht : t < n * 2
    · rw [if_pos ht]
      have htc : t < cur.size := by rw [hcs]; have := Nat.mul_le_mul_right 2 hnc; omega
      rw [Array.getElem?_toList]
      unfold Sort.putCells
      rw [Array.getElem?_mapIdx, Array.getElem?_eq_getElem htc, Option.map_some, if_pos ⟨Nat.zero_le _, by rw [hF]; omega⟩, Nat.sub_zero, hfl, getElem!_pos (spanV d'.toList).toArray t (by simpa [hsl] using ht), List.getElem_toArray, List.getElem?_eq_getElem (by omega)]
      rfl
    · rw [if_neg ht, List.getElem?_eq_none (by omega)]
  · rw [hheap, Array.getElem?_append_left (by simpa using hk), Array.getElem?_modify, if_neg (fun e => hne (by rw [e]))]

theorem isAggSp : ∀ w, (isAgg 25).run Tryz.prog w = .ok true w := Tryz.isAgg25
theorem sizeSp : ∀ w, (Go.sizeOf 25).run Tryz.prog w = .ok 2 w := Tryz.sizeOf25

set_option maxRecDepth 100000 in
theorem cSort (b n c : Nat) (xs : List Spn) (w : World) (hbig : n ≤ 1048576) (h : Row w (some ⟨b, 0, none⟩) n c xs) :
    Calls Tryz.prog 116 #[.slice (some ⟨b, 0, none⟩) n c, .func (.func 117) #[] #[]] w fun e w' =>
      e = .returned (.tuple #[]) ∧ ∃ ys : List Spn, ys.Perm xs ∧ (∀ (i j : Nat) (p q : Spn), i < j → ys[i]? = some p → ys[j]? = some q → p.1 ≤ q.1) ∧ Row w' (some ⟨b, 0, none⟩) n c ys ∧ w.grownBy w' (some b) := by
  have hb : b < w.heap.size := (World.ownsRow.lt h b rfl).2
  have eg : ∀ args w, (callFunc 117 args).run Tryz.prog w = .ok (.enter 117 args) w := enters_of Tryz.func117 (by kernel_rfl) rfl
  have hsz : xs.toArray.size = n := by simp [h.len]
  have hcon := AnyQ.slices_SortFunc Tryz.sortSp 2 isAggSp sizeSp encSp (fun _ => rfl) (fun x v hv => by simp [encSp] at hv; rcases hv with rfl | rfl <;> rfl) (fun x y : Spn => Lib.compareInt x.1 y.1) swoSp 117 #[] b 0 c xs.toArray w eg (cmpSp b 0 _ w) (holds_row h) hb (by rw [hsz]; omega)
  change Calls Tryz.prog 116 _ _ _ at hcon
  rw [hsz] at hcon
  refine hcon.mono ?_
  rintro e w' ⟨he, d', q, os, hp, hs, rfl⟩
  have hd : d'.size = xs.length := by have := hp.1; simpa using this
  have hr := sort_row d' q os h hd hb
  refine ⟨he, d'.toList, ?_, ?_, hr.1, hr.2⟩
  · have h3 := hp.2.2
    have e1 : d'.extract 0 n = d' := by rw [← h.len, ← hd]; simp
    have e2 : xs.toArray.extract 0 n = xs.toArray := by rw [← hsz]; simp
    rw [e1, e2] at h3
    simpa using h3
  · intro i j p r hij hi hj
    have hjl := (List.getElem?_eq_some_iff.1 hj).1
    have hjs : j < d'.size := by simpa using hjl
    have h4 := hs i j (Nat.zero_le _) hij (by rw [← h.len, ← hd]; exact hjs)
    rw [ltSp] at h4
    have ei : d'[i]! = p := by
      rw [getElem!_pos d' i (by omega)]
      rw [Array.getElem?_toList, Array.getElem?_eq_getElem (by omega)] at hi
      exact Option.some.inj hi
    have ej : d'[j]! = r := by
      rw [getElem!_pos d' j hjs]
      rw [Array.getElem?_toList, Array.getElem?_eq_getElem hjs] at hj
      exact Option.some.inj hj
    rw [ei, ej] at h4
    simp at h4
    exact h4
end
section
set_option linter.unusedVariables false
open Go.RowKit

/-- What has been joined of the first k spans. -/
def Joined (ys : List Spn) (k : Nat) (zs : List Spn) : Prop := Sep zs ∧ (∀ z, memS z zs ↔ memS z (ys.take k)) ∧ (∀ ws q, zs = ws ++ [q] → ∃ p ∈ ys.take k, p.1 = q.1) ∧ zs.length ≤ k
def Valid (ys : List Spn) : Prop := ∀ p ∈ ys, spB p.1 p.2 = true
def Rising (ys : List Spn) : Prop := ∀ (i j : Nat) (p q : Spn), i < j → ys[i]? = some p → ys[j]? = some q → p.1 ≤ q.1
theorem Joined.start (ys : List Spn) : Joined ys 0 [] := ⟨trivial, fun z => by rw [List.take_zero], fun ws q h => by simp at h, Nat.le_refl _⟩
theorem take_mem {ys : List Spn} {k : Nat} {p : Spn} (h : p ∈ ys.take k) : ∃ i, i < k ∧ ys[i]? = some p := by
  obtain ⟨i, hi, he⟩ := List.mem_iff_getElem.1 h
  rw [List.length_take] at hi
  refine ⟨i, by omega, ?_⟩
  rw [← he, List.getElem_take, List.getElem?_eq_getElem]
theorem take_next {ys : List Spn} {k : Nat} {s : Spn} (h : ys[k]? = some s) : ys.take (k + 1) = ys.take k ++ [s] := by
  have hl := (List.getElem?_eq_some_iff.1 h).1
  have he : ys[k] = s := (List.getElem?_eq_some_iff.1 h).2
  rw [List.take_succ_eq_append_getElem hl, he]
theorem Joined.last_le {ys ws : List Spn} {k : Nat} {q s : Spn} (h : Joined ys k (ws ++ [q])) (hr : Rising ys) (hs : ys[k]? = some s) : q.1 ≤ s.1 := by
  obtain ⟨p, hp, he⟩ := h.2.2.1 ws q rfl
  obtain ⟨i, hi, hp⟩ := take_mem hp
  rw [← he]; exact hr i k p s hi hp hs
theorem Sep.last_ {ws : List Spn} {q : Spn} (h : Sep (ws ++ [q])) : -3000 ≤ q.1 ∧ q.1 ≤ q.2 ∧ q.2 ≤ 3000 := ((sep_iff _).1 h).1 q (by simp)
theorem Joined.widen {ys ws : List Spn} {k : Nat} {q s : Spn} (h : Joined ys k (ws ++ [q])) (hr : Rising ys) (hv : Valid ys) (hs : ys[k]? = some s) (ht : s.1 ≤ q.2 + 1) : Joined ys (k + 1) (ws ++ [(q.1, max q.2 s.2)]) := by
  have h1 := h.last_le hr hs
  have h2 := spB_bd (hv s (List.mem_of_getElem? hs))
  have h3 := h.1.last_
  refine ⟨h.1.widen (by omega) (by omega), fun z => ?_, fun ws' q' he => ?_, by have := h.2.2.2; simp at this ⊢; omega⟩
  · rw [take_next hs, memS_app, memS_app, memS_one, memS_one, ← h.2.1 z, memS_app, memS_one]
    simp only
    constructor
    · rintro (a | ⟨a, b⟩)
      · exact .inl (.inl a)
      · by_cases c : z ≤ q.2
        · exact .inl (.inr ⟨a, c⟩)
        · exact .inr ⟨by omega, by omega⟩
    · rintro ((a | ⟨a, b⟩) | ⟨a, b⟩)
      · exact .inl a
      · exact .inr ⟨a, by omega⟩
      · exact .inr ⟨by omega, by omega⟩
  · have e := List.append_inj' he rfl
    injection e.2 with e2
    obtain ⟨p, hp, hq⟩ := h.2.2.1 ws q rfl
    exact ⟨p, by rw [take_next hs]; exact List.mem_append_left _ hp, by rw [← e2]; exact hq⟩
theorem Joined.add {ys zs : List Spn} {k : Nat} {s : Spn} (h : Joined ys k zs) (hv : Valid ys) (hs : ys[k]? = some s) (ht : ∀ ws q, zs = ws ++ [q] → q.2 + 1 < s.1) : Joined ys (k + 1) (zs ++ [s]) := by
  have h2 := spB_bd (hv s (List.mem_of_getElem? hs))
  refine ⟨?_, fun z => ?_, fun ws' q' he => ?_, by have := h.2.2.2; simp; omega⟩
  · rcases nil_or_snoc zs with rfl | ⟨ws, q, rfl⟩
    · exact Sep.one h2.1 h2.2.1 h2.2.2
    · have := ht ws q rfl
      exact h.1.app h2.1 h2.2.1 h2.2.2 (by omega)
  · rw [take_next hs, memS_app, memS_app, h.2.1 z]
  · have e := List.append_inj' he rfl
    injection e.2 with e2
    exact ⟨s, by rw [take_next hs]; simp, by rw [e2]⟩
theorem max_set (ws : List Spn) (q : Spn) (r : Int) : (spanV (ws ++ [q])).set (ws.length * 2 + 1) (.int .i64 r) = spanV (ws ++ [(q.1, r)]) := spanV_set ws q r

def JoinPost (ys : List Spn) (w : World) (e : Ending) (w' : World) : Prop :=
  ∃ (zs : List Spn) (C : Option Addr) (m c : Nat), m = zs.length ∧ Joined ys ys.length zs ∧ e = .returned (.slice C m c) ∧ w'.ownsRow w.heap.size 25 2 (.slice C m c) m (spanV zs) ∧ Below w.heap.size w w'

set_option maxHeartbeats 4000000 in
set_option maxRecDepth 100000 in
theorem cJoinT (A : Option Addr) (n cap : Nat) (ys : List Spn) (w : World) (hbig : n ≤ 1048576) (h : SpanAt w w.heap.size A n ys) (hv : Valid ys) (hr : Rising ys) :
    Calls Tryz.prog 120 #[.slice A n cap] w (JoinPost ys w) := by
  obtain ⟨i0, hi0, hz0, hz1, hz2⟩ := info_parts info_span
  have H := Lib.hid h
  have HV := Lib.hid hv
  have HR := Lib.hid hr
  clear h hv hr
  go_enter Tryz.func120, Tryz.ntmps120
  go_wp2_with fail
  go_loopw [3, 9] (fun o i wr => ∃ (k m c : Nat) (C : Option Addr) (zs : List Spn), k ≤ n ∧ i = .int .i64 k ∧ o = .slice C m c ∧ Hid (m = zs.length) ∧ m ≤ k ∧ Hid (Joined ys k zs) ∧ wr.ownsRow w.heap.size 25 2 (.slice C m c) m (spanV zs) ∧ Below w.heap.size w wr) (fun _ i _ => n - (intOf i).toNat)
  case atStart => exact ⟨0, 0, 0, none, [], Nat.zero_le _, rfl, rfl, Lib.hid rfl, Nat.le_refl _, Lib.hid (Joined.start ys), World.ownsRow_nil _ _ _ _, Below.refl _ _⟩
  case round =>
    obtain ⟨k, m, c, C, zs, hk, rfl, rfl, HM, hm1, HJ, hown, hbw⟩ := hrel
    by_cases hlt : k < n
    · obtain ⟨p, hp⟩ : ∃ p, ys[k]? = some p := ⟨ys[k]'(by have := H.out.1; omega), List.getElem?_eq_getElem _⟩
      obtain ⟨b, o, rfl, hbl, c0, c1⟩ := (H.out.below hbw).2 k p hp
      have hsp := spB_bd (HV.out p (List.mem_of_getElem? hp))
      obtain ⟨x, y⟩ := p
      have HP := Lib.hid hp
      have q1 : -3000 ≤ x := hsp.1
      have q2 : x ≤ 3000 := by have := hsp.2.1; have := hsp.2.2; simp only at *; omega
      have q3 : -3000 ≤ y := by have := hsp.2.1; simp only at *; omega
      have q4 : y ≤ 3000 := hsp.2.2
      have hbA := hbw.alloc hbw.size (.cells #[.int .i64 x, .int .i64 y] 25)
      have hownA := hown.alloc (.cells #[.int .i64 x, .int .i64 y] 25)
      clear hp hsp hown
      by_cases hm0 : m = 0
      · have HJ2 := Lib.hid (HJ.out.add HV.out HP.out (fun ws q e => by have h1 := HM.out; rw [e, List.length_append] at h1; simp at h1; omega))
        have z1 : decide ((0 : Int) ≤ (m : Int) - 1) = false := decide_eq_false (by omega)
        have z2 : decide ((1 : Int) ≤ (m : Int)) = false := decide_eq_false (by omega)
        have z3 : decide (1 ≤ m) = false := decide_eq_false (by omega)
        have z4 : decide (0 < m) = false := decide_eq_false (by omega)
        have s1 : IntKind.i64.wrap ((m : Int) - 1) = (m : Int) - 1 := IntWalk.i64_in _ (by omega)
        clear hbw hm0
        go_wp2_with fail
        go_quiet (fail)
        obtain ⟨WD, hWD⟩ : ∃ WD, WD = (wr.alloc (.cells #[.int .i64 x, .int .i64 y] 25)).drewN nq := ⟨_, rfl⟩
        have HOD : Hid (WD.ownsRow w.heap.size 25 2 (.slice C m c) m (spanV zs)) := Lib.hid (by rw [hWD]; exact hownA)
        have HBD : Hid (Below w.heap.size w WD) := Lib.hid (by rw [hWD]; exact ⟨hbA.os, hbA.tape, hbA.output, hbA.size, hbA.block⟩)
        have k0 : WD.cell? ⟨wr.heap.size, 0, none⟩ = some (.int .i64 x) := by rw [hWD]; exact (box_cell wr x y _).1
        have k1 : WD.cell? ⟨wr.heap.size, 1, none⟩ = some (.int .i64 y) := by rw [hWD]; exact (box_cell wr x y _).2
        rw [← hWD]
        clear hWD hownA hbA z1 z2 z3 z4 s1
        go_wp2_with (at_builtin; refine wpList_append_own _ rfl _ _ 62 rfl w.heap.size 25 i0 _ 2 16 Tryz.underlying62 hi0 hz0 hz1 hz2 rfl (by decide) _ _ _ rfl (HOD.out.alloc _) ⟨WD.heap.size, 0, none⟩ 1 1 [.int .i64 x, .int .i64 y] rfl rfl (two_cells _ _ _ _) (two_one _ _) ?a3 ?a4 ?a5 ?_)
        case a3 => unfold maxLen; omega
        case a4 => omega
        case a5 => have := HBD.out.size; simp; omega
        intro v' wz hown1 hgrow1 _
        rw [← spanV_one (x, y), ← spanV_app] at hown1
        obtain ⟨C', c', rfl⟩ := span_form hown1
        have hbz := (HBD.out.alloc HBD.out.size _).grown hgrow1 (by have := HBD.out.size; simp; omega) (fun x0 hx0 => (HOD.out.lt x0 hx0).1)
        go_wp2_with fail
        go_roundw
        case rel => exact ⟨k + 1, m + 1, c', C', zs ++ [(x, y)], by omega, by go_num, rfl, Lib.hid (by rw [List.length_append, ← HM.out]; rfl), by omega, HJ2, hown1, hbz⟩
        case measure => simp [intOf]; omega
      · obtain ⟨ws, q, hws⟩ : ∃ ws q, zs = ws ++ [q] := by
          rcases nil_or_snoc zs with h1 | h1
          · exact absurd HM.out (by rw [h1]; exact hm0)
          · exact h1
        have hlen : m = ws.length + 1 := by rw [HM.out, hws]; simp
        obtain ⟨r, hr⟩ : ∃ r, r = ws.length := ⟨_, rfl⟩
        obtain ⟨g, cc, hv, _, hgl⟩ := hownA.form (by omega)
        obtain ⟨rfl, rfl⟩ : C = some ⟨g, 0, none⟩ ∧ c = cc := by injection hv with h1 h2 h3; exact ⟨h1, h3⟩
        have HL := Lib.hid hlen
        have HRR := Lib.hid hr
        have HW := Lib.hid hws
        have hrm : (m : Int) - 1 = (r : Int) := by omega
        have hr0 : (0 : Int) ≤ (r : Int) := Int.natCast_nonneg _
        have hr1 : (r : Int) < (m : Int) := by omega
        have s1 : IntKind.i64.wrap ((m : Int) - 1) = (m : Int) - 1 := IntWalk.i64_in _ (by omega)
        have z1 : decide ((0 : Int) ≤ (r : Int)) = true := decide_eq_true (by omega)
        have hJ2 := HJ.out
        rw [hws] at hJ2
        have hlast := hJ2.1.last_
        have hcell : (wr.alloc (.cells #[.int .i64 x, .int .i64 y] 25)).cell? ⟨g, r * 2 + 1, none⟩ = some (.int .i64 q.2) := by
          rw [hownA.cellAt (r * 2 + 1) (by omega), hws]
          refine (spanV_at (ws ++ [q]) r q ?_).2
          rw [hr, List.getElem?_append_right (Nat.le_refl _), Nat.sub_self]; rfl
        have hfr := hownA.frozenAt (r * 2 + 1)
        obtain ⟨qx, qy⟩ := q
        have q5 : -3000 ≤ qy := by have := hlast.1; have := hlast.2.1; simp only at *; omega
        have q6 : qy ≤ 3000 := hlast.2.2
        have s2 : IntKind.i64.wrap (qy + 1) = qy + 1 := IntWalk.i64_in _ (by omega)
        clear hws hlen hv hr hlast hm0 hbw
        by_cases ht : x ≤ qy + 1
        · have HT := Lib.hid (hJ2.widen HR.out HV.out HP.out ht)
          have z5 : decide (x ≤ qy + 1) = true := decide_eq_true ht
          clear ht hJ2
          go_wp2_with fail
          go_quiet (fail)
          obtain ⟨WD, hWD⟩ : ∃ WD, WD = (wr.alloc (.cells #[.int .i64 x, .int .i64 y] 25)).drewN nq := ⟨_, rfl⟩
          have HOD : Hid (WD.ownsRow w.heap.size 25 2 (.slice (some ⟨g, 0, none⟩) m c) m (spanV zs)) := Lib.hid (by rw [hWD]; exact hownA)
          have HBD : Hid (Below w.heap.size w WD) := Lib.hid (by rw [hWD]; exact ⟨hbA.os, hbA.tape, hbA.output, hbA.size, hbA.block⟩)
          have k0 : WD.cell? ⟨wr.heap.size, 0, none⟩ = some (.int .i64 x) := by rw [hWD]; exact (box_cell wr x y _).1
          have k1 : WD.cell? ⟨wr.heap.size, 1, none⟩ = some (.int .i64 y) := by rw [hWD]; exact (box_cell wr x y _).2
          rw [← hWD]
          have hcell2 : WD.cell? ⟨g, r * 2 + 1, none⟩ = some (.int .i64 qy) := by rw [hWD]; exact hcell
          have hfr2 : WD.frozen? ⟨g, r * 2 + 1, none⟩ = false := by rw [hWD]; exact hfr
          obtain ⟨mx, hmxe⟩ : ∃ mx, mx = max qy y := ⟨_, rfl⟩
          have hmx : ∀ W, (Builtin.max_ #[2, 2] 2 #[.int .i64 qy, .int .i64 y]).run Tryz.prog W = .ok (.int .i64 mx) W := fun W => by
            rw [run_max_int2, hmxe]
            congr 2
            by_cases hc : qy < y
            · rw [if_pos hc, Int.max_eq_right (by omega)]
            · rw [if_neg hc, Int.max_eq_left (by omega)]
          have hst := (HOD.out.stored (r * 2 + 1) (.int .i64 mx)).1
          rw [HW.out, HRR.out, max_set, ← HRR.out] at hst
          have HT2 : Hid (Joined ys (k + 1) (ws ++ [(qx, mx)])) := Lib.hid (by rw [hmxe]; exact HT.out)
          have hbz : Below w.heap.size w (WD.setCell ⟨g, r * 2 + 1, none⟩ (.int .i64 mx)) := HBD.out.setCell (p := ⟨g, r * 2 + 1, none⟩) (HOD.out.lt g rfl).1 _
          have HST := Lib.hid hst
          have HME := Lib.hid hmxe
          clear hWD hownA hbA hcell hfr z5 s2 hst hmxe
          go_wp2_with fail
          go_still_tail 12, (by kernel_rfl)
          change wpList _ _ _ _ _ WD.drew
          go_wp2_with fail
          go_roundw
          case rel => exact ⟨k + 1, m, c, _, ws ++ [(qx, mx)], by omega, by go_num, rfl, Lib.hid (by rw [HL.out, List.length_append]; rfl), by omega, HT2, HST.out, hbz.drew⟩
          case measure => simp [intOf]; omega
        · have HJ2 := Lib.hid (HJ.out.add HV.out HP.out (fun ws' q' e => by
            rw [HW.out] at e
            have e2 := List.append_inj_right' e rfl
            injection e2 with e3
            rw [← e3]; show qy + 1 < x; omega))
          have z5 : decide (x ≤ qy + 1) = false := decide_eq_false ht
          clear ht hJ2
          go_wp2_with fail
          go_quiet (fail)
          obtain ⟨WD, hWD⟩ : ∃ WD, WD = (wr.alloc (.cells #[.int .i64 x, .int .i64 y] 25)).drewN nq := ⟨_, rfl⟩
          have HOD : Hid (WD.ownsRow w.heap.size 25 2 (.slice (some ⟨g, 0, none⟩) m c) m (spanV zs)) := Lib.hid (by rw [hWD]; exact hownA)
          have HBD : Hid (Below w.heap.size w WD) := Lib.hid (by rw [hWD]; exact ⟨hbA.os, hbA.tape, hbA.output, hbA.size, hbA.block⟩)
          have k0 : WD.cell? ⟨wr.heap.size, 0, none⟩ = some (.int .i64 x) := by rw [hWD]; exact (box_cell wr x y _).1
          have k1 : WD.cell? ⟨wr.heap.size, 1, none⟩ = some (.int .i64 y) := by rw [hWD]; exact (box_cell wr x y _).2
          rw [← hWD]
          clear hWD hownA hbA hcell hfr z1 z5 s1 s2
          go_wp2_with (at_builtin; refine wpList_append_own _ rfl _ _ 62 rfl w.heap.size 25 i0 _ 2 16 Tryz.underlying62 hi0 hz0 hz1 hz2 rfl (by decide) _ _ _ rfl (HOD.out.alloc _) ⟨WD.heap.size, 0, none⟩ 1 1 [.int .i64 x, .int .i64 y] rfl rfl (two_cells _ _ _ _) (two_one _ _) ?b3 ?b4 ?b5 ?_)
          case b3 => unfold maxLen; omega
          case b4 => omega
          case b5 => have := HBD.out.size; simp; omega
          intro v' wz hown1 hgrow1 _
          rw [← spanV_one (x, y), ← spanV_app] at hown1
          obtain ⟨C', c', rfl⟩ := span_form hown1
          have hbz := (HBD.out.alloc HBD.out.size _).grown hgrow1 (by have := HBD.out.size; simp; omega) (fun x0 hx0 => (HOD.out.lt x0 hx0).1)
          go_wp2_with fail
          go_roundw
          case rel => exact ⟨k + 1, m + 1, c', C', zs ++ [(x, y)], by omega, by go_num, rfl, Lib.hid (by rw [List.length_append, ← HM.out]; rfl), by omega, HJ2, hown1, hbz⟩
          case measure => simp [intOf]; omega
    · obtain rfl : k = n := by omega
      have hj : Joined ys ys.length zs := by have h1 := HJ.out; rw [← H.out.1] at h1; exact h1
      have HJE := Lib.hid hj
      clear hj
      go_wp2_with fail
      go_ret
      exact ⟨zs, C, m, c, HM.out, HJE.out, rfl, hown, hbw⟩
end
section
set_option linter.unusedVariables false
open Go.RowKit

theorem years_sep {xs : List Spn} (h : yearsB xs = true) : Sep xs := sep_of_chain xs (yearsB_yes h).2
theorem left_upto {xs ys zs : List Spn} (h : Left xs ys ys.length zs) (hx : yearsB xs = true) : Upto false xs ys zs 3001 := by
  refine ⟨h.1, fun z => ?_⟩
  rw [h.2 z, List.take_length]
  have hs := (sep_iff xs).1 (years_sep hx)
  constructor
  · rintro ⟨h1, h2⟩
    obtain ⟨p, hp, h3, h4⟩ := h1
    have := hs.1 p hp
    refine ⟨?_, by omega, by omega⟩
    have a1 : hasB xs z = true := inB_mem.2 ⟨p, hp, h3, h4⟩
    have a2 : hasB ys z = false := by
      cases hb : hasB ys z
      · rfl
      · exact absurd (inB_mem.1 hb) h2
    unfold askB; simp [a1, a2]
  · rintro ⟨h1, _, _⟩
    unfold askB at h1; simp at h1
    exact ⟨inB_mem.1 h1.1, fun hm => by rw [inB_mem.2 hm] at h1; simp at h1⟩
theorem SpanAt.mono_ {w w' : World} {A : Option Addr} {n : Nat} {xs : List Spn} (h : SpanAt w w.heap.size A n xs) (hb : Below w.heap.size w w') : SpanAt w' w'.heap.size A n xs := (h.below hb).more hb.size

end
section
set_option linter.unusedVariables false
open Go.RowKit

theorem cSort_any (C : Option Addr) (n c base : Nat) (xs : List Spn) (w : World) (hbig : n ≤ 1048576) (h : w.ownsRow base 25 2 (.slice C n c) n (spanV xs)) :
    Calls Tryz.prog 116 #[.slice C n c, .func (.func 117) #[] #[]] w fun e w' =>
      e = .returned (.tuple #[]) ∧ ∃ ys : List Spn, ys.Perm xs ∧ Rising ys ∧ Row w' C n c ys ∧ w.grownBy w' (Value.slice C n c).ownBlock := by
  have hr := Row.of h
  rcases Nat.eq_zero_or_pos n with rfl | hp
  · have hcon := AnyF.slices_SortFunc_none Tryz.sortSp C c (.func (.func 117) #[] #[]) w
    change Calls Tryz.prog 116 _ _ _ at hcon
    refine hcon.mono ?_
    rintro e w' ⟨rfl, rfl⟩
    have hx : xs = [] := List.eq_nil_of_length_eq_zero hr.len
    subst hx
    exact ⟨rfl, [], List.Perm.refl _, fun i j p q _ hi => by simp at hi, hr, World.grownBy.refl _ _⟩
  · obtain ⟨g, cc, hv, _, _⟩ := h.form hp
    obtain ⟨rfl, rfl⟩ : C = some ⟨g, 0, none⟩ ∧ c = cc := by injection hv with h1 h2 h3; exact ⟨h1, h3⟩
    exact (cSort g n c xs w hbig hr).mono fun e w' ⟨he, ys, h1, h2, h3, h4⟩ => ⟨he, ys, h1, h2, h3, h4⟩

theorem perm_mem {xs ys : List Spn} (h : ys.Perm xs) (z : Int) : memS z ys ↔ memS z xs := by
  unfold memS
  exact ⟨fun ⟨p, hp, h1⟩ => ⟨p, h.mem_iff.1 hp, h1⟩, fun ⟨p, hp, h1⟩ => ⟨p, h.mem_iff.2 hp, h1⟩⟩
theorem union_upto {xs ys us zs : List Spn} (hx : yearsB xs = true) (hy : yearsB ys = true) (hp : us.Perm (xs ++ ys)) (h : Joined us us.length zs) : Upto true xs ys zs 3001 := by
  refine ⟨h.1, fun z => ?_⟩
  rw [h.2.1 z, List.take_length, perm_mem hp, memS_app]
  have hsx := (sep_iff xs).1 (years_sep hx)
  have hsy := (sep_iff ys).1 (years_sep hy)
  have key : ∀ {l : List Spn}, (∀ p ∈ l, -3000 ≤ p.1 ∧ p.1 ≤ p.2 ∧ p.2 ≤ 3000) → memS z l → -3000 ≤ z ∧ z < 3001 := by
    rintro l hl ⟨p, hp, h1, h2⟩
    have := hl p hp
    omega
  have e : askB true xs ys z = true ↔ memS z xs ∨ memS z ys := by
    unfold askB
    simp only [if_true, Bool.or_eq_true, inB_mem]
  rw [e]
  constructor
  · rintro (h1 | h1)
    · exact ⟨.inl h1, key hsx.1 h1⟩
    · exact ⟨.inr h1, key hsy.1 h1⟩
  · rintro ⟨h1, _⟩; exact h1
theorem union_valid {xs ys us : List Spn} (hx : yearsB xs = true) (hy : yearsB ys = true) (hp : us.Perm (xs ++ ys)) : Valid us := by
  intro p hm
  rcases List.mem_append.1 (hp.mem_iff.1 hm) with h | h
  · exact years_mem hx p h
  · exact years_mem hy p h

end
end Go.Proofs.YthlilfdndpnbkaaGreatDoor
