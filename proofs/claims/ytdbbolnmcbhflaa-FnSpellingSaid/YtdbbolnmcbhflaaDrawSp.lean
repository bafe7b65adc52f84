/-
  The contracts of spec.DrawSpellWord and spec.DrawJoinLetters.
-/
import Derived.Test.YtdbbolnmcbhflaaDrawAl2
import Derived.Test.YtdbbolnmcbhflaaIntRow
import Derived.Test.YtdbbolnmcbhflaaPickN
namespace Go.Proofs.Ytdbbolnmcbhflaa
set_option linter.unusedVariables false
open Go.RowKit

theorem Src.drew_ {w : World} {B len : Nat} (h : Src w B len) : Src w.drew B len := h
theorem info_num : (Try.prog.info? 2).map (fun i => (i.zero, i.size, i.bytes)) = some (some (.int .i64 0), 1, 8) := by kernel_rfl
theorem mk16w (w w' : World) (q : Nat) (hq : q < 2) {v : Value} (h : (Instr.makeSlice 33 (.int .i64 (16 + (q : Int))) (.int .i64 (16 + (q : Int)))).run Try.prog w = .ok v w') :
    (Instr.makeSlice 33 (.int .i64 (IntKind.i64.wrap (16 + (q : Int)))) (.int .i64 (IntKind.i64.wrap (16 + (q : Int))))).run Try.prog w = .ok v w' := by
  rw [show IntKind.i64.wrap (16 + (q : Int)) = 16 + (q : Int) from by rw [IntKind.wrap_i64]; omega]; exact h
/-- The result of a draw of an alphabet and a text. -/
theorem rowLow {w : World} {b b' : Nat} {t : TypeId} {s n : Nat} {v : Value} {xs : List Value} (h : w.ownsRow b t s v n xs) (hb : b' ≤ b) : w.ownsRow b' t s v n xs := by
  refine ⟨h.1, ?_⟩
  rcases h.2 with h2 | ⟨g, cap, cur, h1, h2, h3⟩
  · exact .inl h2
  · exact .inr ⟨g, cap, cur, h1, Nat.le_trans hb h2, h3⟩
def DSpPost (w : World) (e : Ending) (w' : World) : Prop := ∃ (v : Value) (n : Nat) (xs : List ByteArray) (t : ByteArray), n ≤ 60 ∧ t.size ≤ 64 ∧ e = .returned (.tuple #[v, .string t]) ∧ TRow w' w.heap.size 64 n v xs ∧ Below w.heap.size w w'
theorem below_of_src {w w1 w2 : World} (h : Below w.heap.size w w1) (hg : w1.grownBy w2 (some w.heap.size)) : Below w.heap.size w w2 := h.grown hg h.size (fun k hk => by cases hk; exact Nat.le_refl _)

set_option maxHeartbeats 1000000 in
theorem cDrawSpell (A : Option Addr) (len cap : Nat) (w : World) (hlen : len ≤ 1048576) (h : CodeIn w A len) :
    Calls Try.prog 13 #[.slice A len cap] w (DSpPost w) := by
  have C0 := Lib.hid (cFrom A len cap w hlen h)
  clear h
  go_enter Try.func13, Try.ntmps13
  go_wp2_with fail
  refine C0.out.mono ?_
  rintro e w1 ⟨rfl, hS1, hb1⟩
  have hl1 := hS1.lt
  have C1 := Lib.hid (cAlDraw w.heap.size len w1 hlen hS1)
  clear hS1 C0
  go_wp2_with fail
  refine C1.out.mono ?_
  rintro e w2 ⟨v, n, xs, hn, rfl, hO2, hS2, g2⟩
  have hb2 := Lib.hid (below_of_src hb1 g2)
  have C2 := Lib.hid (cDrawWord w.heap.size len w2 hlen hS2)
  have HO2 := Lib.hid hO2
  clear hS2 g2 C1 hO2
  go_wp2_with fail
  refine C2.out.mono ?_
  rintro e w3 ⟨t, ht, rfl, hS3, g3⟩
  have hb3 := Lib.hid (below_of_src hb2.out g3)
  have HO3 := Lib.hid (HO2.out.kept g3 hl1)
  clear hS3 g3 C2 HO2
  go_wp2_with fail
  go_ret2
  exact ⟨v, n, xs, t, hn, ht, rfl, ⟨rowLow HO3.out.1 (by omega), HO3.out.2⟩, hb3.out⟩

theorem mk16 (w : World) (q : Nat) (hq : q < 2) : ∃ w', (Instr.makeSlice 33 (.int .i64 (16 + (q : Int))) (.int .i64 (16 + (q : Int)))).run Try.prog w = .ok (.slice (some ⟨w.heap.size, 0, none⟩) (16 + q) (16 + q)) w' ∧
    w'.ownsRow w.heap.size 2 1 (.slice (some ⟨w.heap.size, 0, none⟩) (16 + q) (16 + q)) (16 + q) (intV (List.replicate (16 + q) 0)) ∧ w.grownBy w' none := by
  obtain ⟨i0, hi0, hz0, hz1, hz2⟩ := info_parts info_num
  obtain ⟨w', h1, h2, h3⟩ := run_make_full (P := Try.prog) w w.heap.size 33 2 i0 _ 1 Try.underlying33 hi0 hz0 hz1 .i64 .i64 (16 + q) (by rw [hz2]; omega) (by unfold maxLen; omega) (Nat.le_refl _)
  refine ⟨w', by simpa using h1, ?_, h3⟩
  have e : (madeCells (Value.int .i64 0).cells ((16 + q) * 1)).toList = intV (List.replicate (16 + q) 0) := by
    rw [Nat.mul_one]
    apply List.ext_getElem?
    intro j
    by_cases h : j < 16 + q
    · simp [madeCells, intV, h, Nat.mod_one, Value.cells]
    · rw [List.getElem?_eq_none (by simp [madeCells]; omega), List.getElem?_eq_none (by simp [intV]; omega)]
  rw [← e]; exact h2

theorem TRow.grow {w w' : World} {lo m n : Nat} {v : Value} {xs : List ByteArray} {row : Option Nat} (h : TRow w lo m n v xs) (hg : w.grownBy w' row) (hne : ∀ x, v.ownBlock = some x → row ≠ some x) : TRow w' lo m n v xs :=
  ⟨h.1.kept hg (by
    cases hv : Value.ownBlock _ with
    | none => exact .inl rfl
    | some x => exact .inr (fun e => hne x hv e.symm)), h.2⟩
def DJoinPost (w : World) (e : Ending) (w' : World) : Prop := ∃ (v v' : Value) (n m : Nat) (xs : List ByteArray) (zs : List Int), n ≤ 60 ∧ m ≤ 64 ∧ e = .returned (.tuple #[v, v']) ∧ TRow w' w.heap.size 64 n v xs ∧ w'.ownsRow w.heap.size 2 1 v' m (intV zs) ∧ Below w.heap.size w w'
theorem own_row_kept {w w' : World} {lo n B : Nat} {v : Value} {zs : List Value} (h : w.ownsRow lo 2 1 v n zs) (hg : w.grownBy w' (some B)) (hB : B < lo) : w'.ownsRow lo 2 1 v n zs :=
  h.kept hg (by
    cases hv : Value.ownBlock _ with
    | none => exact .inl rfl
    | some x =>
      have h1 := (h.lt x hv).1
      exact .inr (by intro e; injection e with e; omega))
theorem int_form {w : World} {b n : Nat} {v : Value} {xs : List Value} (h : w.ownsRow b 2 1 v n xs) : ∃ A c, v = .slice A n c := by
  rcases h.2 with ⟨rfl, h0⟩ | ⟨g, cap, cur, rfl, _⟩
  · exact ⟨none, 0, by rw [h0]⟩
  · exact ⟨_, _, rfl⟩

set_option maxHeartbeats 4000000 in
set_option maxRecDepth 100000 in
theorem cDrawJoin (A : Option Addr) (len cap : Nat) (w : World) (hlen : len ≤ 1048576) (h : CodeIn w A len) :
    Calls Try.prog 20 #[.slice A len cap] w (DJoinPost w) := by
  obtain ⟨i0, hi0, hz0, hz1, hz2⟩ := info_parts info_num
  have C0 := Lib.hid (cFrom A len cap w hlen h)
  clear h
  go_enter Try.func20, Try.ntmps20
  go_wp2_with fail
  refine C0.out.mono ?_
  rintro e w1 ⟨rfl, hS1, hb1⟩
  have hl1 := hS1.lt
  have C1 := Lib.hid (cAlDraw w.heap.size len w1 hlen hS1)
  clear hS1 C0
  go_wp2_with fail
  refine C1.out.mono ?_
  rintro e w2 ⟨v, n, xs, hn, rfl, hO2, hS2, g2⟩
  obtain ⟨A1, c1, hv1⟩ := hO2.form
  subst hv1
  have hb2 := below_of_src hb1 g2
  have hl2 := hS2.lt
  obtain ⟨P, hP⟩ : ∃ P, P = w2.heap.size := ⟨_, rfl⟩
  have HLT := Lib.hid (show ∀ x, (Value.slice A1 n c1).ownBlock = some x → x < P from fun x hx => by rw [hP]; exact (hO2.1.lt x hx).2)
  have hS3 := hS2.alloc (.cells #[] 2)
  have O3 := Lib.hid (World.ownsRow_lit (e := 2) (base := P) (size := 1) w2 #[] 0 (by omega) (by decide) rfl)
  have HO3 : Hid (TRow (w2.alloc (.cells #[] 2)) w1.heap.size 64 n (.slice A1 n c1) xs) := Lib.hid ⟨hO2.1.alloc _, hO2.2⟩
  have hb3 := hb2.alloc hb2.size (.cells #[] 2)
  have C2 := Lib.hid (cNext w.heap.size len 7 _ hlen (by omega) (by omega) hS3)
  have hPB : w.heap.size < P := by omega
  have h1P : w1.heap.size ≤ P := by rw [hP]; exact g2.size
  have HP := Lib.hid hP
  have hw1 : w.heap.size ≤ w1.heap.size := hb1.size
  clear hS2 hS3 g2 C1 hO2 hP hb1 hb2
  go_wp2_with fail
  refine C2.out.mono ?_
  rintro e w4 ⟨r, hr0, hr1, rfl, hS4, g4⟩
  obtain ⟨n0, rfl⟩ : ∃ k : Nat, r = k := ⟨r.toNat, by omega⟩
  have hn0 : n0 < 7 := by omega
  have HB4 := Lib.hid (below_of_src hb3 g4)
  have O4 := Lib.hid (own_row_kept O3.out g4 hPB)
  have HO4 := Lib.hid (HO3.out.kept g4 hl1)
  have HS4 := Lib.hid hS4
  have hp4 : Hid (P ≤ w4.heap.size) := Lib.hid (by have h1 := g4.size; have h2 := HP.out; rw [World.size_alloc] at h1; omega)
  clear hS4 g4 hr1 C2 hb3 O3 HO3
  go_wp2_with fail
  go_loopw [6, 7] (fun o i wr => ∃ (m k : Nat) (u : Value) (zs : List Int), k + m ≤ 6 ∧ i = .int .i64 m ∧ u = o ∧ Hid (wr.ownsRow P 2 1 u k (intV zs)) ∧ Hid (TRow wr w1.heap.size 64 n (.slice A1 n c1) xs) ∧ Hid (Src wr w.heap.size len) ∧ Hid (P ≤ wr.heap.size) ∧ Hid (Below w.heap.size w wr)) (fun _ i _ => (intOf i).toNat)
  case atStart => exact ⟨n0, 0, _, [], by omega, rfl, rfl, O4, HO4, HS4, hp4, HB4⟩
  case round =>
    clear O4 HO4 HS4 hp4 HB4
    obtain ⟨m, k, u, zs, hkm, rfl, rfl, HO, HT, HS, HPW, HB⟩ := hrel
    by_cases hm : 0 < m
    · have z1 : decide ((0 : Int) < (m : Int)) = true := decide_eq_true (by omega)
      have z1' : decide (0 < m) = true := decide_eq_true hm
      go_wp2_with fail
      all_goals
        refine (cNext w.heap.size len _ wr hlen (by omega) (by omega) HS.out).mono ?_
        rintro e w5 ⟨r, hr0, hr1, rfl, hS5, g5⟩
        have HB5 := Lib.hid (below_of_src HB.out g5)
        have HO5 := Lib.hid (own_row_kept HO.out g5 hPB)
        have HT5 := Lib.hid (HT.out.kept g5 hl1)
        have HS5 := Lib.hid hS5
        have HP5 : Hid (P ≤ w5.heap.size) := Lib.hid (Nat.le_trans HPW.out g5.size)
        clear hS5 g5 HB HO HT HS HPW hr1
        have hp5 := HP5.out
        go_wp2_with (at_builtin; refine wpList_append_own _ rfl _ _ 33 rfl P 2 i0 _ 1 8 Try.underlying33 hi0 hz0 hz1 hz2 rfl (by decide) _ _ _ rfl (HO5.out.alloc _) ⟨w5.heap.size, 0, none⟩ 1 1 [.int .i64 r] rfl rfl ?c1 ?c2 ?c3 ?c4 ?c5 ?_)
        case c1 => exact one_cell' _ _ _ (new_one _ _ _)
        case c2 => intro u hu; simp at hu; subst hu; rfl
        case c3 => unfold maxLen; omega
        case c4 => omega
        case c5 => simp; omega
        intro v' w7 hown7 hgrow7 _
        rw [intV_snoc] at hown7
        have hrow : ∀ x, Value.ownBlock _ = some x → P ≤ x := fun x hx => (HO5.out.lt x hx).1
        have gA := World.grownBy_alloc w5 (.cells #[.int .i64 r] 2) u.ownBlock
        have HO7 := Lib.hid hown7
        have HS7 := Lib.hid ((HS5.out.grow gA (fun x hx => by have := hrow x hx; omega)).grow hgrow7 (fun x hx => by have := hrow x hx; omega))
        have HB7 := Lib.hid ((HB5.out.grown gA HB5.out.size (fun x hx => by have := hrow x hx; omega)).grown hgrow7 (by have := HB5.out.size; simp; omega) (fun x hx => by have := hrow x hx; omega))
        have HT7 := Lib.hid ((HT5.out.grow gA (fun x hx e => by have := hrow x e; have := HLT.out x hx; omega)).grow hgrow7 (fun x hx e => by have := hrow x e; have := HLT.out x hx; omega))
        have HP7 : Hid (P ≤ w7.heap.size) := Lib.hid (by have := hgrow7.size; simp at this; omega)
        clear hown7 hgrow7 gA hrow
        go_wp2_with fail
        go_roundw
        case rel => exact ⟨m - 1, k + 1, v', zs ++ [r], by omega, by go_num, rfl, HO7, HT7, HS7, HP7, HB7⟩
        case measure => simp [intOf]; omega
    · have z1 : decide ((0 : Int) < (m : Int)) = false := decide_eq_false (by omega)
      have z1' : decide (0 < m) = false := decide_eq_false hm
      have C3 := Lib.hid (cNext w.heap.size len 24 wr hlen (by omega) (by omega) HS.out)
      go_wp2_with fail
      refine C3.out.mono ?_
      rintro e w5 ⟨r, hr0, hr1, rfl, hS5, g5⟩
      have HB5 := Lib.hid (below_of_src HB.out g5)
      have HO5 := Lib.hid (own_row_kept HO.out g5 hPB)
      have HT5 := Lib.hid (HT.out.kept g5 hl1)
      have HS5 := Lib.hid hS5
      have HP5 : Hid (P ≤ w5.heap.size) := Lib.hid (Nat.le_trans HPW.out g5.size)
      have hr2 : r < 24 := by omega
      clear hS5 g5 C3 HB HO HT HS HPW hr1
      have hp5 := HP5.out
      obtain ⟨A2, c2, hu⟩ := int_form HO5.out
      subst hu
      by_cases h0 : r = 0
      · have z2 : (r == 0) = true := by simp [h0]
        have hR := rowLit w5 [-1, (n : Int)] (-1000) 1000 (by intro v hv; simp at hv; omega) 2
        have hS6 := HS5.out.alloc (.cells (([-1, (n : Int)] : List Int).map (Value.int .i64)).toArray 2)
        have C4 := Lib.hid (cPick w.heap.size len w5.heap.size 2 2 (-1000) 1000 _ hlen (by omega) (by omega) (by have := HS5.out.lt; omega) hR hS6)
        have gZ := World.grownBy_alloc w5 (.cells (([-1, (n : Int)] : List Int).map (Value.int .i64)).toArray 2) (some w.heap.size)
        have HB6 := Lib.hid (below_of_src HB5.out gZ)
        have HO6 := Lib.hid (own_row_kept HO5.out gZ hPB)
        have HT6 := Lib.hid (HT5.out.kept gZ hl1)
        clear hR hS6 h0 gZ
        go_wp2_with fail
        refine C4.out.mono ?_
        rintro e w6 ⟨d, hd0, hd1, rfl, hS7, g7⟩
        have HB7 := Lib.hid (below_of_src HB6.out g7)
        have HO7 := Lib.hid (own_row_kept HO6.out g7 hPB)
        have HT7 := Lib.hid (HT6.out.kept g7 hl1)
        have hp7 : P ≤ w6.heap.size := by have := g7.size; simp at this; omega
        clear hS7 g7 C4 HB6 HO6 HT6 HB5 HO5 HT5
        go_wp2_with (at_builtin; refine wpList_append_own _ rfl _ _ 33 rfl P 2 i0 _ 1 8 Try.underlying33 hi0 hz0 hz1 hz2 rfl (by decide) _ _ _ rfl (HO7.out.alloc _) ⟨w6.heap.size, 0, none⟩ 1 1 [.int .i64 d] rfl rfl ?d1 ?d2 ?d3 ?d4 ?d5 ?_)
        case d1 => exact one_cell' _ _ _ (new_one _ _ _)
        case d2 => intro u hu; simp at hu; subst hu; rfl
        case d3 => unfold maxLen; omega
        case d4 => omega
        case d5 => simp; omega
        intro v' w7 hown7 hgrow7 _
        rw [intV_snoc] at hown7
        have hrow : ∀ x, (Value.slice A2 k c2).ownBlock = some x → P ≤ x := fun x hx => (HO7.out.lt x hx).1
        have gA := World.grownBy_alloc w6 (.cells #[.int .i64 d] 2) (Value.slice A2 k c2).ownBlock
        have HO8 := Lib.hid hown7
        have HB8 := Lib.hid ((HB7.out.grown gA HB7.out.size (fun x hx => by have := hrow x hx; omega)).grown hgrow7 (by have := HB7.out.size; simp; omega) (fun x hx => by have := hrow x hx; omega))
        have HT8 := Lib.hid ((HT7.out.grow gA (fun x hx e => by have := hrow x e; have := HLT.out x hx; omega)).grow hgrow7 (fun x hx e => by have := hrow x e; have := HLT.out x hx; omega))
        clear hown7 hgrow7 gA hrow
        go_wp2_with fail
        go_ret2
        exact ⟨_, _, n, k + 1, xs, _, hn, by omega, rfl, ⟨rowLow HT8.out.1 (by omega), HT8.out.2⟩, rowLow HO8.out (by omega), HB8.out⟩
      have z2 : (r == 0) = false := by rw [beq_eq_false_iff_ne]; exact h0
      by_cases h1 : r = 1
      · have z3 : (r == 1) = true := by simp [h1]
        clear h0 h1
        go_wp2_with fail
        go_region_with (go_at_call 41; refine (cNext w.heap.size len 2 _ hlen (by omega) (by omega) (Src.drew_ HS5.out)).mono ?_; rintro e w6 ⟨p, hp0, hp1, rfl, hS6, g6⟩; obtain ⟨q, rfl⟩ : ∃ q : Nat, p = q := ⟨p.toNat, by omega⟩; obtain ⟨w7, hmk, hown7, g7⟩ := mk16 w6 q (by omega); have hmk2 := mk16w w6 w7 q (by omega) hmk)
        have HT6 := Lib.hid (TRow.grow (TRow.kept (w := w5.drew) HT5.out g6 hl1) g7 (fun x hx e => by cases e))
        have HB6 := Lib.hid ((below_of_src (Below.drew HB5.out) g6).grown g7 (by have h1 := HB5.out.size; have h2 := g6.size; exact Nat.le_trans h1 h2) (fun x hx => by cases hx))
        have HO6 := Lib.hid hown7
        have hs6 : w.heap.size ≤ w6.heap.size := by have h1 := HB5.out.size; have h2 := g6.size; exact Nat.le_trans h1 h2
        clear g6 g7 hmk hmk2 hown7 hS6
        go_wp2_with fail
        go_ret2
        exact ⟨_, _, n, 16 + q, xs, _, hn, by omega, rfl, ⟨rowLow HT6.out.1 (by omega), HT6.out.2⟩, rowLow HO6.out hs6, HB6.out⟩
      have z3 : (r == 1) = false := by rw [beq_eq_false_iff_ne]; exact h1
      clear h0 h1
      go_wp2_with fail
      go_ret2
      exact ⟨_, _, n, k, xs, zs, hn, by omega, rfl, ⟨rowLow HT5.out.1 (by omega), HT5.out.2⟩, rowLow HO5.out (by omega), HB5.out⟩
end Go.Proofs.Ytdbbolnmcbhflaa
