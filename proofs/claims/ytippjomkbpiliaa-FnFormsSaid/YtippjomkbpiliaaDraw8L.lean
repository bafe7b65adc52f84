/-
  The contract of spec.l08Table: a drawn table of endings in a row of one's own.
-/
import Derived.Test.YtippjomkbpiliaaDraw8E
import Derived.Test.YtippjomkbpiliaaDrawPush
namespace Go.Proofs.Ytippjomkbpiliaa
set_option linter.unusedVariables false
set_option linter.unusedSimpArgs false
open Go.RowKit

theorem grown_of_below8 {w w' : World} (h : Below w.heap.size w w') : w.grownBy w' none := ⟨h.os, h.tape, h.output, h.size, fun k hk _ => h.block k hk⟩
theorem info_en : (Try.prog.info? 60).map (fun i => (i.zero, i.size, i.bytes)) = some (some (.agg #[.string ByteArray.empty, .string ByteArray.empty, .int .i64 0]), 3, 40) := by kernel_rfl
/-- A row of endings on its way. -/
def TSt (w : World) (B len : Nat) (V : World) (g m c : Nat) (xs : List En) : Prop :=
  V.ownsRow w.heap.size 60 3 (.slice (some ⟨g, 0, none⟩) m c) m (enV xs) ∧ Src V B len ∧ w.grownBy V (some B) ∧ B < w.heap.size ∧ ∀ e ∈ xs, e.1.size ≤ 8 ∧ e.2.1.size ≤ 8
theorem own_keptE {w V V' : World} {s m : Nat} {t : TypeId} {v : Value} {xs : List Value} {r : Option Nat} (h : V.ownsRow w.heap.size t s v m xs) (hg : V.grownBy V' r) (hr : ∀ k, r = some k → ∀ g, v.ownBlock = some g → g ≠ k) : V'.ownsRow w.heap.size t s v m xs :=
  h.kept hg (by
    cases hv : v.ownBlock with
    | none => exact .inl rfl
    | some x => exact .inr (fun e => hr x e.symm x hv rfl))
theorem TSt.next {w V V' : World} {B len g m c : Nat} {xs : List En} (h : TSt w B len V g m c xs) (hS : Src V' B len) (hg : V.grownBy V' (some B)) : TSt w B len V' g m c xs :=
  ⟨own_keptE h.1 hg (fun k hk g' hg' => by cases hk; have := (h.1.lt g' hg').1; have := h.2.2.2.1; omega), hS, h.2.2.1.trans hg, h.2.2.2⟩
theorem TSt.below {w V V' : World} {B len g m c : Nat} {xs : List En} (h : TSt w B len V g m c xs) (hb : Below V.heap.size V V') : TSt w B len V' g m c xs :=
  ⟨own_keptE h.1 (grown_of_below8 hb) (fun k hk => by cases hk), h.2.1.own (grown_of_below8 hb) (fun k hk => by cases hk), grown_ownB h.2.2.1 (grown_of_below8 hb) (fun k hk => by cases hk), h.2.2.2⟩
theorem TSt.alloc {w V : World} {B len g m c : Nat} {xs : List En} (h : TSt w B len V g m c xs) (o : Obj) : TSt w B len (V.alloc o) g m c xs :=
  h.below ((Below.refl _ _).alloc (Nat.le_refl _) o)
theorem TSt.drew {w V : World} {B len g m c : Nat} {xs : List En} (h : TSt w B len V g m c xs) : TSt w B len V.drew g m c xs :=
  ⟨h.1, h.2.1, ⟨h.2.2.1.os, h.2.2.1.tape, h.2.2.1.output, h.2.2.1.size, h.2.2.1.block⟩, h.2.2.2⟩
theorem TSt.at_ {w V : World} {B len g m c : Nat} {xs : List En} (h : TSt w B len V g m c xs) : EnAt V V.heap.size (some ⟨g, 0, none⟩) m xs := own_en h.1
theorem TSt.len {w V : World} {B len g m c : Nat} {xs : List En} (h : TSt w B len V g m c xs) : m = xs.length := by have := h.1.1; rw [enV_len] at this; omega
theorem TSt.cap {w V : World} {B len g m c : Nat} {xs : List En} (h : TSt w B len V g m c xs) : m ≤ c ∧ w.heap.size ≤ g ∧ g < V.heap.size := by
  rcases h.1.2 with ⟨h1, h2⟩ | ⟨g1, cap1, cur, h1, h2, h3, h4, _⟩
  · cases h1
  · cases h1; exact ⟨h4, h2, (Array.getElem?_eq_some_iff.1 h3).1⟩
theorem erow_form {w : World} {b n : Nat} {v : Value} {xs : List Value} (h : w.ownsRow b 60 3 v n xs) (hne : v ≠ .slice none 0 0) : ∃ g c, v = .slice (some ⟨g, 0, none⟩) n c := by
  rcases h.2 with ⟨h1, h2⟩ | ⟨g1, cap1, cur, h1, _⟩
  · exact absurd h1 hne
  · exact ⟨g1, cap1, h1⟩
theorem enV_cellOk (xs : List En) : ∀ u ∈ enV xs, u.oneCell' = true := fun u hu => by
  unfold enV at hu
  rw [List.mem_flatMap] at hu
  obtain ⟨e, _, he⟩ := hu
  simp only [encE, List.mem_cons, List.not_mem_nil, or_false] at he
  rcases he with rfl | rfl | rfl <;> rfl
theorem own_low8 {w : World} {lo lo' n t s : Nat} {v : Value} {xs : List Value} (h : w.ownsRow lo t s v n xs) (hl : lo' ≤ lo) : w.ownsRow lo' t s v n xs :=
  ⟨h.1, by
    rcases h.2 with h2 | ⟨g, cap, cur, h1, h2, h3⟩
    · exact .inl h2
    · exact .inr ⟨g, cap, cur, h1, Nat.le_trans hl h2, h3⟩⟩
/-- append(out, e) at a row of one's own. -/
theorem wpList_pushE {ops : Array Oper} {rest : List Oper} {o : Oper} {a : Act} {Q : Exit → Act → World → Prop} {w V : World} {B len g m c : Nat} {xs : List En} {x y : ByteArray} {z : Int} (hL : TSt w B len V g m c xs) (hx8 : x.size ≤ 8 ∧ y.size ≤ 8) (hgd : o.guard = none) (s p : Operand)
    (ho : o.op = .call { callee := .builtin .append, args := #[s, p], argTypes := #[24, 24] }) (hs : a.eval s = .slice (some ⟨g, 0, none⟩) m c) (hx : a.eval p = .slice (some ⟨V.heap.size, 0, none⟩) 1 1) (hm : m ≤ 1048576)
    (h : ∀ (g' c' : Nat) (w' : World), TSt w B len w' g' (m + 1) c' (xs ++ [(x, y, z)]) → (∀ (g0 m0 c0 : Nat) (xs0 : List En), g0 ≠ g → TSt w B len V g0 m0 c0 xs0 → TSt w B len w' g0 m0 c0 xs0) → wpList Try.prog ops Q rest (a.put o.dst (.slice (some ⟨g', 0, none⟩) (m + 1) c')) w') : wpList Try.prog ops Q (o :: rest) a (V.alloc (.cells #[.string x, .string y, .int .i64 z] 60)) := by
  obtain ⟨i0, hi0, hz0, hz1, hz2⟩ := info_parts info_en
  have hE := EB.new V (x, y, z)
  have hA := hL.alloc (.cells #[.string x, .string y, .int .i64 z] 60)
  refine wpList_append_own _ hgd s p 24 ho w.heap.size 60 i0 _ 3 40 Try.underlying24 hi0 hz0 hz1 hz2 rfl (by decide) _ m (enV xs) hs hA.1 ⟨V.heap.size, 0, none⟩ 1 1 (enV [(x, y, z)]) hx rfl ?_ (enV_cellOk _) (by unfold maxLen; omega) (by omega) hA.2.2.1.size ?_
  · intro j u hj
    rw [enV_one] at hj
    match j, hj with
    | 0, hj => cases hj; exact hE.1.2.1
    | 1, hj => cases hj; exact hE.1.2.2.1
    | 2, hj => cases hj; exact hE.1.2.2.2
  · intro v' w' h1 h2 h3
    rw [← enV_app] at h1
    obtain ⟨g', c', rfl⟩ := erow_form h1 (fun e => by have := h3.1 e; cases this.1)
    have hob : ∀ k, (Value.slice (some ⟨g, 0, none⟩) m c).ownBlock = some k → w.heap.size ≤ k := own_lo hL.1 (Nat.le_refl _)
    have hS' := hA.2.1.own h2 (fun k hk => by have := hob k hk; have := hL.2.2.2.1; omega)
    have hG' := grown_ownB hA.2.2.1 h2 hob
    refine h g' c' w' ⟨h1, hS', hG', hL.2.2.2.1, ?_⟩ (fun g0 m0 c0 xs0 hne h0 => ?_)
    · intro e he
      rcases List.mem_append.1 he with h5 | h5
      · exact hL.2.2.2.2 e h5
      · rw [List.mem_singleton] at h5; rw [h5]; exact hx8
    · have h7 := h0.alloc (.cells #[.string x, .string y, .int .i64 z] 60)
      exact ⟨own_keptE h7.1 h2 (fun k hk g2 hg2 => by
        have e1 : k = g := by simp [Value.ownBlock] at hk; exact hk.symm
        have e2 : g2 = g0 := by simp [Value.ownBlock] at hg2; exact hg2.symm
        omega), hS', hG', h0.2.2.2⟩
/-- append([]Ending{}, out...): a copy. -/
theorem wpList_copyE {ops : Array Oper} {rest : List Oper} {o : Oper} {a : Act} {Q : Exit → Act → World → Prop} {w V : World} {B len g m c : Nat} {xs : List En} (hL : TSt w B len V g m c xs) (hgd : o.guard = none) (s p : Operand)
    (ho : o.op = .call { callee := .builtin .append, args := #[s, p], argTypes := #[24, 24] }) (hs : a.eval s = .slice (some ⟨V.heap.size, 0, none⟩) 0 0) (hx : a.eval p = .slice (some ⟨g, 0, none⟩) m c) (hm : m ≤ 1048576)
    (h : ∀ (g' c' : Nat) (w' : World), g < g' → TSt w B len w' g m c xs → TSt w B len w' g' m c' xs → wpList Try.prog ops Q rest (a.put o.dst (.slice (some ⟨g', 0, none⟩) m c')) w') : wpList Try.prog ops Q (o :: rest) a (V.alloc (.cells #[] 60)) := by
  obtain ⟨i0, hi0, hz0, hz1, hz2⟩ := info_parts info_en
  have hA := hL.alloc (.cells #[] 60)
  have hsz := hL.2.2.1.size
  have hgl := hL.cap
  have hO := World.ownsRow_lit (e := 60) (base := V.heap.size) (size := 3) V #[] 0 (Nat.le_refl _) (by decide) rfl
  refine wpList_append_own _ hgd s p 24 ho V.heap.size 60 i0 _ 3 40 Try.underlying24 hi0 hz0 hz1 hz2 rfl (by decide) _ 0 [] hs hO ⟨g, 0, none⟩ m c (enV xs) hx (by rw [enV_len, ← hL.len]) ?_ (enV_cellOk _) (by unfold maxLen; omega) (by omega) (by simp) ?_
  · intro j u hj
    have hjl := (List.getElem?_eq_some_iff.1 hj).1
    rw [enV_len] at hjl
    have h9 := hA.1.cellAt j (by have := hL.len; omega)
    rw [hj] at h9
    rw [add_plain', Nat.zero_add]; exact h9
  · intro v' w' h1 h2 h3
    rw [Nat.zero_add, List.nil_append] at h1
    obtain ⟨g', c', rfl⟩ := erow_form h1 (fun e => by have := h3.1 e; cases this.1)
    have hob : ∀ k, (Value.slice (some ⟨V.heap.size, 0, none⟩) 0 0).ownBlock = some k → k = V.heap.size := fun k hk => by simp [Value.ownBlock] at hk; exact hk.symm
    have hS' := hA.2.1.own h2 (fun k hk => by have := hob k hk; have := hL.2.2.2.1; omega)
    have hG' := grown_ownB hA.2.2.1 h2 (fun k hk => by rw [hob k hk]; exact hsz)
    have hgg : V.heap.size ≤ g' := (h1.lt g' rfl).1
    have hkk : ∀ k, (Value.slice (some ⟨V.heap.size, 0, none⟩) 0 0).ownBlock = some k → ∀ g2, (Value.slice (some ⟨g, 0, none⟩) m c).ownBlock = some g2 → g2 ≠ k := fun k hk g2 hg2 => by
      have e1 := hob k hk
      have e2 : g2 = g := by simp [Value.ownBlock] at hg2; exact hg2.symm
      omega
    exact h g' c' w' (by omega) ⟨own_keptE hA.1 h2 hkk, hS', hG', hL.2.2.2⟩ ⟨own_low8 h1 hsz, hS', hG', hL.2.2.2⟩

def TabPost (w : World) (B len : Nat) (e : Ending) (w' : World) : Prop :=
  ∃ (g n c : Nat) (xs : List En), n ≤ 40 ∧ e = .returned (.slice (some ⟨g, 0, none⟩) n c) ∧ TSt w B len w' g n c xs
def lit18 : ByteArray := ⟨#[97, 98, 99, 100, 101, 102, 103, 104, 105, 106, 107, 108, 109, 110, 111, 112, 113, 114]⟩

set_option maxHeartbeats 8000000 in
set_option maxRecDepth 100000 in
theorem cTableD (B len : Nat) (w : World) (hlen : len ≤ 1048576) (h : Src w B len) :
    Calls Try.prog 62 #[.pointer (some ⟨B, 0, none⟩)] w (TabPost w B len) := by
  have hBl := h.lt
  have HT0 : Hid (TSt w B len (w.alloc (.cells #[] 60)) w.heap.size 0 0 []) := Lib.hid ⟨World.ownsRow_lit (e := 60) (base := w.heap.size) (size := 3) w #[] 0 (Nat.le_refl _) (by decide) rfl, h.alloc _, World.grownBy_alloc w _ (some B), hBl, by simp⟩
  have C0 := Lib.hid (cNext B len 7 _ hlen (by omega) (by omega) HT0.out.2.1)
  clear h
  go_enter Try.func62, Try.ntmps62
  go_wp2_with fail
  refine C0.out.mono ?_
  rintro e w1 ⟨r, hr0, hr1, rfl, hS1, g1⟩
  obtain ⟨k0, rfl⟩ : ∃ k : Nat, r = k := ⟨r.toNat, by omega⟩
  have hk0 : k0 ≤ 6 := by omega
  have HT1 := Lib.hid (HT0.out.next hS1 g1)
  clear hS1 g1 hr1 C0 HT0
  go_wp2_with fail
  go_loopw [3, 4, 5] (fun o i x wr => ∃ (k m g c : Nat) (xs : List En) (y : Value), k + m ≤ 6 ∧ i = .int .i64 (k : Int) ∧ o = .slice (some ⟨g, 0, none⟩) m c ∧ y = x ∧ Hid (TSt w B len wr g m c xs)) (fun _ i _ _ => (intOf i).toNat)
  case atStart => exact ⟨k0, 0, _, 0, [], _, by omega, rfl, rfl, rfl, HT1⟩
  case round =>
    clear HT1
    obtain ⟨k, m, g, c, xs, y, hkm, rfl, rfl, rfl, HT⟩ := hrel
    by_cases hk : 0 < k
    · have z1 : decide ((0 : Int) < (k : Int)) = true := decide_eq_true (by omega)
      have z1' : decide (0 < k) = true := decide_eq_true hk
      go_wp2_with (first
        | (at_builtin; refine wpList_copyE HT.out rfl _ _ rfl rfl rfl (by omega) ?_; intro g2 c2 w2 hgg hA2 hB2; have HA2 := Lib.hid hA2; have HB2 := Lib.hid hB2; clear hA2 hB2))
      have CE := Lib.hid (cEndD B len w2 hlen HA2.out.2.1)
      refine CE.out.mono ?_
      rintro e w3 ⟨o, n, z, ho, hn, rfl, hS3, g3⟩
      have HA3 := Lib.hid (HA2.out.next hS3 g3)
      have HB3 := Lib.hid (HB2.out.next hS3 g3)
      clear hS3 g3 CE HA2 HB2 HT
      have H8 := Lib.hid (And.intro ho hn)
      go_wp2_with (first
        | (at_builtin; refine wpList_pushE HB3.out H8.out rfl _ _ rfl rfl rfl (by omega) ?_; intro g4 c4 w4 hB4 hK4; have HB4 := Lib.hid hB4; have HA4 := Lib.hid (hK4 _ _ _ _ (by omega) HA3.out); clear hB4 hK4))
      have CT := Lib.hid (tTabE_spec (some ⟨g4, 0, none⟩) (m + 1) c4 _ w4 (by omega) (fun e he => by have := HB4.out.2.2.2.2 e he; unfold maxLen; omega) HB4.out.at_)
      refine CT.out.mono ?_
      rintro e w5 ⟨rfl, hb5⟩
      have HA5 := Lib.hid (HA4.out.below hb5)
      have HB5 := Lib.hid (HB4.out.below hb5)
      clear hb5 CT HA3 HB3 HA4 HB4
      have hsub : ((k : Int) - 1) = ((k - 1 : Nat) : Int) := by omega
      cases hb : tabE (xs ++ [(o, n, z)])
      · clear HB5
        go_wp2_with fail
        go_roundw
        case rel => exact ⟨k - 1, m, g, c, xs, _, by omega, by go_num, rfl, rfl, HA5⟩
        case measure => simp [intOf]; omega
      · clear HA5
        go_wp2_with fail
        go_roundw
        case rel => exact ⟨k - 1, m + 1, g4, c4, _, _, by omega, by go_num, rfl, rfl, HB5⟩
        case measure => simp [intOf]; omega
    · have z1 : decide ((0 : Int) < (k : Int)) = false := decide_eq_false (by omega)
      have z1' : decide (0 < k) = false := decide_eq_false hk
      have C6 := Lib.hid (cNext B len 24 wr hlen (by omega) (by omega) HT.out.2.1)
      go_wp2_with fail
      refine C6.out.mono ?_
      rintro e w6 ⟨r, hr0, hr1, rfl, hS6, g6⟩
      have HT6 := Lib.hid (HT.out.next hS6 g6)
      clear hS6 g6 C6 HT hr1
      by_cases h0 : r = 0
      · have z0 : (r == 0) = true := by simp [h0]
        have CE := Lib.hid (cEndD B len w6 hlen HT6.out.2.1)
        clear h0
        go_wp2_with fail
        refine CE.out.mono ?_
        rintro e w7 ⟨o, n, z, ho, hn, rfl, hS7, g7⟩
        have HT7 := Lib.hid (HT6.out.next hS7 g7)
        have H8 := Lib.hid (And.intro ho hn)
        clear hS7 g7 CE HT6
        go_wp2_with (first
          | (at_builtin; refine wpList_pushE HT7.out H8.out rfl _ _ rfl rfl rfl (by omega) ?_; intro g4 c4 w8 hB4 hK4; have HB4 := Lib.hid hB4; clear hB4 hK4))
        go_ret
        exact ⟨g4, m + 1, c4, _, by omega, rfl, HB4.out⟩
      have z0 : (r == 0) = false := by rw [beq_eq_false_iff_ne]; exact h0
      by_cases h1 : r = 1
      · have z2 : (r == 1) = true := by simp [h1]
        clear h0 h1
        go_wp2_with fail
        go_loopw [3, 6] (fun o i wr => ∃ (j m g c : Nat) (xs : List En), j ≤ 18 ∧ m ≤ 6 + j ∧ i = .int .i64 (j : Int) ∧ o = .slice (some ⟨g, 0, none⟩) m c ∧ Hid (TSt w B len wr g m c xs)) (fun _ i _ => 18 - (intOf i).toNat)
        case atStart => exact ⟨0, m, g, c, xs, by omega, by omega, rfl, rfl, HT6⟩
        case round =>
          clear HT6
          obtain ⟨j, m2, g2, c2, ys, hj, hm2, rfl, rfl, HT⟩ := hrel
          have C7 := Lib.hid (cNext B len 2 wr hlen (by omega) (by omega) HT.out.2.1)
          go_wp2_with fail
          refine C7.out.mono ?_
          rintro e w7 ⟨q0, hq0, hq1, rfl, hS7, g7⟩
          have HT7 := Lib.hid (HT.out.next hS7 g7)
          clear hS7 g7 C7 HT
          obtain ⟨q, rfl⟩ : ∃ q : Nat, q0 = q := ⟨q0.toNat, by omega⟩
          have hq2 : q < 2 := by omega
          clear hq1
          have hw16 : IntKind.i64.wrap (16 + (q : Int)) = 16 + (q : Int) := by rw [IntKind.wrap_i64]; omega
          by_cases hA : (m2 : Int) < 16 + (q : Int)
          · have zA : decide ((m2 : Int) < 16 + (q : Int)) = true := decide_eq_true hA
            by_cases hB : (j : Int) < 18
            · have zB : decide ((j : Int) < 18) = true := decide_eq_true hB
              have hj0 : (0 : Int) ≤ (j : Int) := Int.natCast_nonneg _
              have hj1 : (j : Int) + 1 ≤ 18 := by omega
              have hj2 : (0 : Int) ≤ (j : Int) + 1 := by omega
              have hj3 : (j : Int) ≤ (j : Int) + 1 := by omega
              have hj4 : ((j : Int) + 1).toNat = j + 1 := by omega
              have hj5 : j ≤ j + 1 := Nat.le_succ j
              have hjw : IntKind.i64.wrap ((j : Int) + 1) = (j : Int) + 1 := by rw [IntKind.wrap_i64]; omega
              go_wp2_with (first
                | (at_builtin; refine wpList_pushE HT7.out ⟨by decide, by rw [ByteArray.size_append, ByteArray.size_extract]; have h1 : (⟨#[121]⟩ : ByteArray).size = 1 := rfl; omega⟩ rfl _ _ rfl rfl rfl (by omega) ?_; intro g4 c4 w8 hB4 hK4; have HB4 := Lib.hid hB4; clear hB4 hK4))
              go_roundw
              case rel => exact ⟨j + 1, m2 + 1, g4, c4, _, by omega, by omega, by go_num, rfl, HB4⟩
              case measure => simp [intOf]; omega
            · have zB : decide ((j : Int) < 18) = false := decide_eq_false hB
              go_wp2_with fail
              go_ret
              exact ⟨g2, m2, c2, _, by omega, rfl, HT7.out⟩
          · have zA : decide ((m2 : Int) < 16 + (q : Int)) = false := decide_eq_false hA
            go_wp2_with fail
            go_ret
            exact ⟨g2, m2, c2, _, by omega, rfl, HT7.out⟩
      have z2 : (r == 1) = false := by rw [beq_eq_false_iff_ne]; exact h1
      clear h0 h1
      go_wp2_with fail
      go_ret
      exact ⟨g, m, c, _, by omega, rfl, HT6.out⟩
end Go.Proofs.Ytippjomkbpiliaa
