/-
  The contract of spec.DrawIsSpelling.
-/
import Derived.Test.YtdbbolnmcbhflaaDrawSp
import Derived.Test.YtdbbolnmcbhflaaLawSpell
namespace Go.Proofs.Ytdbbolnmcbhflaa
set_option linter.unusedVariables false
open Go.RowKit

theorem CodeIn.below {w w' : World} {A : Option Addr} {len : Nat} (h : CodeIn w A len) (hb : Below w.heap.size w w') : CodeIn w' A len := fun hp => by
  obtain ⟨b, o, hA, hlt, hc⟩ := h hp
  refine ⟨b, o, hA, Nat.lt_of_lt_of_le hlt hb.size, fun j hj => ?_⟩
  obtain ⟨z, h0, h1, h2⟩ := hc j hj
  exact ⟨z, h0, h1, (hb.cell (by exact hlt)).trans h2⟩
theorem bgrow {w w' : World} (h : Below w.heap.size w w') : w.grownBy w' none := ⟨h.os, h.tape, h.output, h.size, fun k hk _ => h.block k hk⟩
theorem Src.below {w w' : World} {B len : Nat} (h : Src w B len) (hb : Below w.heap.size w w') : Src w' B len := h.grow (bgrow hb) (fun x hx => by cases hx)
theorem TRow.below {w w' : World} {lo m n : Nat} {v : Value} {xs : List ByteArray} (h : TRow w lo m n v xs) (hb : Below w.heap.size w w') : TRow w' lo m n v xs := h.grow (bgrow hb) (fun x hx e => by cases e)
theorem own_below {w w' : World} {lo n : Nat} {v : Value} {zs : List Value} (h : w.ownsRow lo 2 1 v n zs) (hb : Below w.heap.size w w') : w'.ownsRow lo 2 1 v n zs := h.kept (bgrow hb) (by
  cases hv : Value.ownBlock _ with
  | none => exact .inl rfl
  | some x => exact .inr (by simp))
theorem TRow.textAt {w : World} {lo m n c : Nat} {A : Option Addr} {xs : List ByteArray} (h : TRow w lo m n (.slice A n c) xs) : TextAt w w.heap.size A n xs :=
  ⟨h.len, fun hp => by
    obtain ⟨g, cc, hv, _, hgl⟩ := World.ownsRow.form h.1 hp
    obtain ⟨rfl, rfl⟩ : A = some ⟨g, 0, none⟩ ∧ c = cc := by injection hv with h1 h2 h3; exact ⟨h1, h3⟩
    exact ⟨g, 0, rfl, hgl, fun j x hx => by rw [Nat.zero_add]; exact (World.ownsRow.cellAt h.1 j (by have := (List.getElem?_eq_some_iff.1 hx).1; have := h.len; omega)).trans (strV_at _ _ _ hx)⟩⟩

set_option maxHeartbeats 2000000 in
set_option maxRecDepth 100000 in
theorem cDrawIsSp (A : Option Addr) (len cap : Nat) (w : World) (hlen : len ≤ 1048576) (h : CodeIn w A len) :
    Calls Try.prog 23 #[.slice A len cap] w (DJoinPost w) := by
  have C0 := Lib.hid (cFrom A len cap w hlen h)
  have H := Lib.hid h
  clear h
  go_enter Try.func23, Try.ntmps23
  go_wp2_with fail
  refine C0.out.mono ?_
  rintro e w1 ⟨rfl, hS1, hb1⟩
  have hl1 := hS1.lt
  have C1 := Lib.hid (cDrawJoin A len cap w1 hlen (H.out.below hb1))
  have HS1 := Lib.hid hS1
  clear hS1 C0
  go_wp2_with fail
  refine C1.out.mono ?_
  rintro e w2 ⟨v, v', n, m, xs, zs, hn, hm, rfl, hT2, hZ2, hb2⟩
  obtain ⟨A1, c1, hv1⟩ := hT2.form
  obtain ⟨A2, c2, hv2⟩ := int_form hZ2
  subst hv1
  subst hv2
  have hS2 := HS1.out.below hb2
  have B2 := Lib.hid (hb1.trans (hb2.mono hb1.size))
  have HT2 := Lib.hid hT2
  have HZ2 := Lib.hid hZ2
  have C2 := Lib.hid (cGood w.heap.size len w2 hlen hS2)
  have hw1 : w.heap.size ≤ w1.heap.size := hb1.size
  have hw2 : w1.heap.size ≤ w2.heap.size := hb2.size
  clear hT2 hZ2 hS2 hb1 hb2 HS1 C1
  go_wp2_with fail
  refine C2.out.mono ?_
  rintro e w3 ⟨t, ht, rfl, hS3, g3⟩
  have B3 := Lib.hid (below_of_src B2.out g3)
  have HT3 := Lib.hid (HT2.out.kept g3 hl1)
  have HZ3 := Lib.hid (own_row_kept HZ2.out g3 hl1)
  have HS3 := Lib.hid hS3
  have hw13 : w1.heap.size ≤ w3.heap.size := Nat.le_trans hw2 g3.size
  have C3 := Lib.hid (tSW_spec A1 n c1 xs t w3 (by omega) (fun x hx => by have := HT3.out.2 x hx; unfold maxLen; omega) HT3.out.textAt (by omega))
  obtain ⟨ys, hys⟩ : ∃ ys, ys = zsW xs t := ⟨_, rfl⟩
  obtain ⟨cd, hcd⟩ : ∃ cd, cd = codeW xs t := ⟨_, rfl⟩
  have hyl : ys.length ≤ 64 := by rw [hys]; have := zsW_len xs t; omega
  rw [← hys, ← hcd] at C3
  have HYL := Lib.hid hyl
  clear hS3 g3 B2 HT2 HZ2 C2 hys hcd hyl
  go_wp2_with fail
  refine (show Calls Try.prog _ _ _ (SWOut ys cd w3) from C3.out).mono ?_
  rintro e w4 ⟨A3, n3, c3, rfl, hO4, hb4⟩
  have B4 := Lib.hid (B3.out.trans (hb4.mono B3.out.size))
  have HT4 := Lib.hid (HT3.out.below hb4)
  have HZ4 := Lib.hid (own_below HZ3.out hb4)
  have HS4 := Lib.hid (HS3.out.below hb4)
  have HO4 := Lib.hid hO4
  have hn3 : n3 ≤ 64 := by have h1 := hO4.1; rw [intV_len] at h1; have := HYL.out; omega
  have hw3 : w.heap.size ≤ w3.heap.size := B3.out.size
  clear hO4 hb4 B3 HT3 HZ3 HS3 C3
  by_cases h0 : cd = 0
  · have z0 : (cd == 0) = true := by simp [h0]
    have C4 := Lib.hid (cNext w.heap.size len 2 w4 hlen (by omega) (by omega) HS4.out)
    clear h0
    go_wp2_with fail
    refine C4.out.mono ?_
    rintro e w5 ⟨r, hr0, hr1, rfl, hS5, g5⟩
    have B5 := Lib.hid (below_of_src B4.out g5)
    have HT5 := Lib.hid (HT4.out.kept g5 hl1)
    have HZ5 := Lib.hid (own_row_kept HZ4.out g5 hl1)
    have HO5 := Lib.hid (own_row_kept HO4.out g5 (by omega))
    clear hS5 g5 C4
    by_cases h1 : r = 0
    · have z1 : (r == 0) = true := by simp [h1]
      clear h1
      go_wp2_with fail
      go_ret2
      exact ⟨_, _, n, n3, xs, ys, hn, hn3, rfl, ⟨rowLow HT5.out.1 hw1, HT5.out.2⟩, rowLow HO5.out hw3, B5.out⟩
    · have z1 : (r == 0) = false := by rw [beq_eq_false_iff_ne]; exact h1
      clear h1
      go_wp2_with fail
      go_ret2
      exact ⟨_, _, n, m, xs, zs, hn, hm, rfl, ⟨rowLow HT5.out.1 hw1, HT5.out.2⟩, rowLow HZ5.out hw1, B5.out⟩
  · have z0 : (cd == 0) = false := by rw [beq_eq_false_iff_ne]; exact h0
    clear h0
    go_wp2_with fail
    go_ret2
    exact ⟨_, _, n, m, xs, zs, hn, hm, rfl, ⟨rowLow HT4.out.1 hw1, HT4.out.2⟩, rowLow HZ4.out hw1, B4.out⟩
end Go.Proofs.Ytdbbolnmcbhflaa
