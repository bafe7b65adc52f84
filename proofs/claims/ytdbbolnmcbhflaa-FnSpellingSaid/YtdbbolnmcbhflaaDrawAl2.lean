/-
  The contract of spec.l03Draw: a drawn alphabet, or another list of short texts.
-/
import Derived.Test.YtdbbolnmcbhflaaDrawAl
namespace Go.Proofs.Ytdbbolnmcbhflaa
set_option linter.unusedVariables false
open Go.RowKit

theorem TRow.cut0 {w : World} {lo m n : Nat} {A : Option Addr} {c : Nat} {xs : List ByteArray} (h : TRow w lo m n (.slice A n c) xs) : TRow w lo m 0 (.slice A 0 c) [] := by
  refine ⟨⟨rfl, ?_⟩, by simp⟩
  rcases h.1.2 with ⟨h1, h2⟩ | ⟨g1, cap1, cur, h1, h2, h3, h4, h5, h6, h7⟩
  · injection h1 with e1 e2 e3
    rw [e1, e3]; exact .inl ⟨rfl, rfl⟩
  · injection h1 with e1 e2 e3
    rw [e1, e3]; exact .inr ⟨g1, cap1, cur, rfl, h2, h3, Nat.zero_le _, h5, h6, by simp [strV]⟩
theorem TRow.set0 {w : World} {lo m n g c : Nat} {xs : List ByteArray} {y : ByteArray} (h : TRow w lo m n (.slice (some ⟨g, 0, none⟩) n c) xs) (hy : y.size ≤ m) : TRow (w.setCell ⟨g, 0, none⟩ (.string y)) lo m n (.slice (some ⟨g, 0, none⟩) n c) (xs.set 0 y) := by
  refine ⟨?_, fun x hx => ?_⟩
  · have := (h.1.stored 0 (.string y)).1
    rw [show strV (xs.set 0 y) = (strV xs).set 0 (.string y) from by simp [strV, List.map_set]]
    exact this
  · rcases List.mem_or_eq_of_mem_set hx with h1 | h1
    · exact h.2 x h1
    · rw [h1]; exact hy
def lit4 : Array Value := #[.string ⟨#[]⟩, .string ⟨#[97, 98, 99, 100]⟩, .string ⟨#[65]⟩, .string ⟨#[122, 122, 122]⟩]
theorem row4 (w : World) : TextRow (w.alloc (.cells #[.string ⟨#[]⟩, .string ⟨#[97, 98, 99, 100]⟩, .string ⟨#[65]⟩, .string ⟨#[122, 122, 122]⟩] 9)) w.heap.size 4 4 := by
  refine ⟨by simp, fun j hj => ?_⟩
  rw [World.cell?_alloc_at _ _ _ _ rfl]
  have h : j = 0 ∨ j = 1 ∨ j = 2 ∨ j = 3 := by omega
  rcases h with rfl | rfl | rfl | rfl
  all_goals exact ⟨_, by decide, rfl⟩

set_option maxHeartbeats 2000000 in
set_option maxRecDepth 100000 in
theorem cAlDraw (B len : Nat) (w : World) (hlen : len ≤ 1048576) (h : Src w B len) :
    Calls Try.prog 34 #[.pointer (some ⟨B, 0, none⟩)] w (TRowPost 64 w B len) := by
  obtain ⟨i0, hi0, hz0, hz1, hz2⟩ := info_parts info_str
  have hBl := h.lt
  have C0 := Lib.hid (cAlGood B len w hlen h)
  clear h
  go_enter Try.func34, Try.ntmps34
  go_wp2_with fail
  refine C0.out.mono ?_
  rintro e w1 ⟨v, n, xs, hn0, hn1, rfl, hO1, hS1, g1⟩
  obtain ⟨g, c, rfl, hgl, hgs⟩ := World.ownsRow.form hO1.1 hn0
  have C1 := Lib.hid (cNext B len 24 w1 hlen (by omega) (by omega) hS1)
  have HO1 := Lib.hid hO1
  clear hO1 hS1 C0
  go_wp2_with fail
  refine C1.out.mono ?_
  rintro e w2 ⟨r, hr0, hr1, rfl, hS2, g2⟩
  have hr2 : r < 24 := by omega
  have HO2 := Lib.hid (HO1.out.kept g2 hBl)
  have HG2 := Lib.hid (g1.trans g2)
  have HS2 := Lib.hid hS2
  have hsz := HG2.out.size
  have hgs2 : g < w2.heap.size := Nat.lt_of_lt_of_le hgs g2.size
  obtain ⟨x0, hx0⟩ : ∃ x, xs[0]? = some x := ⟨xs[0]'(by have := HO1.out.len; omega), List.getElem?_eq_getElem _⟩
  have hx64 : x0.size ≤ 64 := HO1.out.2 x0 (List.mem_of_getElem? hx0)
  have hc0 : w2.cell? ⟨g, 0, none⟩ = some (.string x0) := (HO2.out.1.cellAt 0 (by omega)).trans (strV_at _ _ _ hx0)
  clear hS2 g1 g2 hr1 C1 HO1 hx0
  by_cases h0 : r = 0
  · have z0 : (r == 0) = true := by simp [h0]
    clear h0
    go_wp2_with (at_builtin; refine wpList_append_own _ rfl _ _ 30 rfl w.heap.size 9 i0 _ 1 16 Try.underlying30 hi0 hz0 hz1 hz2 rfl (by decide) _ _ _ rfl (HO2.out.1.alloc _) ⟨w2.heap.size, 0, none⟩ 1 1 [.string x0] rfl rfl ?c1 ?c2 ?c3 ?c4 ?c5 ?_)
    case c1 => exact one_cell' _ _ _ (new_one _ _ _)
    case c2 => intro u hu; simp at hu; subst hu; rfl
    case c3 => unfold maxLen; omega
    case c4 => omega
    case c5 => simp; omega
    intro v' w7 hown7 hgrow7 _
    have hrow : ∀ x, (Value.slice (some ⟨g, 0, none⟩) n c).ownBlock = some x → w.heap.size ≤ x := fun x hx => (HO2.out.1.lt x hx).1
    have gA := World.grownBy_alloc w2 (.cells #[.string x0] 9) (Value.slice (some ⟨g, 0, none⟩) n c).ownBlock
    have HO7 := Lib.hid (TRow.snoc hown7 HO2.out.2 (by omega))
    have HS7 := Lib.hid (Src.grow (HS2.out.grow gA (fun x hx => by have := hrow x hx; omega)) hgrow7 (fun x hx => by have := hrow x hx; omega))
    have HG7 := Lib.hid (grown_new (grown_new HG2.out gA hrow) hgrow7 hrow)
    clear hown7 hgrow7 gA hrow
    go_wp2_with fail
    go_ret
    exact ⟨_, n + 1, _, by omega, rfl, HO7.out, HS7.out, HG7.out⟩
  have z0 : (r == 0) = false := by rw [beq_eq_false_iff_ne]; exact h0
  by_cases h1 : r = 1
  · have z1 : (r == 1) = true := by simp [h1]
    have HR3 := Lib.hid (row4 w2)
    have C3 := Lib.hid (cNext B len 4 _ hlen (by omega) (by omega) (HS2.out.alloc (.cells #[.string ⟨#[]⟩, .string ⟨#[97, 98, 99, 100]⟩, .string ⟨#[65]⟩, .string ⟨#[122, 122, 122]⟩] 9)))
    have gA := World.grownBy_alloc w2 (.cells #[.string ⟨#[]⟩, .string ⟨#[97, 98, 99, 100]⟩, .string ⟨#[65]⟩, .string ⟨#[122, 122, 122]⟩] 9) (some B)
    clear h0 h1
    go_wp2_with fail
    refine C3.out.mono ?_
    rintro e w4 ⟨q0, hq0, hq1, rfl, hS4, g4⟩
    obtain ⟨q, rfl⟩ : ∃ q : Nat, q0 = q := ⟨q0.toNat, by omega⟩
    have hq : q < 4 := by omega
    obtain ⟨y, hy, hcy⟩ := (HR3.out.kept g4 (by omega)).2 q hq
    have HO4 := Lib.hid ((HO2.out.kept gA hBl).kept g4 hBl)
    have HG4 := Lib.hid ((HG2.out.trans gA).trans g4)
    have hc4 : w4.cell? ⟨g, 0, none⟩ = some (.string x0) := g4.cell (gA.cell hc0 (by simp; omega)) (by simp; omega)
    have f4 := HO4.out.1.frozenAt 0
    have HS5 := Lib.hid (Src.grow hS4 (grown_set w4 g 0 (.string y)) (fun x hx => by cases hx; omega))
    have HG5 := Lib.hid (grown_new HG4.out (grown_set w4 g 0 (.string y)) (fun x hx => by cases hx; exact hgl))
    have HO5 := Lib.hid (TRow.set0 HO4.out (y := y) (by omega))
    have hqn : (q : Int) < 4 := by omega
    clear hS4 g4 gA hq1 C3 hc0
    go_wp2_with fail
    go_ret
    exact ⟨_, n, _, by omega, rfl, HO5.out, HS5.out, HG5.out⟩
  have z1 : (r == 1) = false := by rw [beq_eq_false_iff_ne]; exact h1
  by_cases h2 : r = 2
  · have z2 : (r == 2) = true := by simp [h2]
    clear h0 h1 h2
    go_wp2_with fail
    go_ret
    exact ⟨_, 0, [], by omega, rfl, HO2.out.cut0, HS2.out, HG2.out⟩
  have z2 : (r == 2) = false := by rw [beq_eq_false_iff_ne]; exact h2
  by_cases h3 : r = 3
  · have z3 : (r == 3) = true := by simp [h3]
    clear h0 h1 h2 h3 hc0
    go_wp2_with fail
    go_loopw [3, 4] (fun o i wr => ∃ (k m : Nat) (v : Value) (ys : List ByteArray), k ≤ 26 ∧ m ≤ 26 + k ∧ i = .int .i64 k ∧ v = o ∧ Hid (TRow wr w.heap.size 64 m v ys) ∧ Hid (Src wr B len) ∧ Hid (w.grownBy wr (some B))) (fun _ i _ => 26 - (intOf i).toNat)
    case atStart => exact ⟨0, n, _, xs, Nat.zero_le _, by omega, rfl, rfl, HO2, HS2, HG2⟩
    case round =>
      clear HO2 HS2 HG2
      obtain ⟨k, m, v, ys, hk, hmk, rfl, rfl, HO, HS, HG⟩ := hrel
      obtain ⟨A1, c1, hv1⟩ := HO.out.form
      have C4 := Lib.hid (cNext B len 2 wr hlen (by omega) (by omega) HS.out)
      have hsz3 := HG.out.size
      subst hv1
      go_wp2_with fail
      refine C4.out.mono ?_
      rintro e w4 ⟨q, hq0, hq1, rfl, hS4, g4⟩
      have hq2 : q < 2 := by omega
      have HO4 := Lib.hid (HO.out.kept g4 hBl)
      have HG4 := Lib.hid (HG.out.trans g4)
      have HS4 := Lib.hid hS4
      have hsz4 := HG4.out.size
      clear hS4 g4 hq1 C4 HO HS HG
      by_cases hlt : (m : Int) < 40 + q
      · have d1 : decide ((m : Int) < 40 + q) = true := decide_eq_true hlt
        by_cases hk26 : k < 26
        · have d2 : decide ((k : Int) < 26) = true := decide_eq_true (by omega)
          obtain ⟨y, hye⟩ : ∃ y : ByteArray, y = (⟨#[113]⟩ : ByteArray) ++ (⟨#[97, 98, 99, 100, 101, 102, 103, 104, 105, 106, 107, 108, 109, 110, 111, 112, 113, 114, 115, 116, 117, 118, 119, 120, 121, 122]⟩ : ByteArray).extract k (k + 1) := ⟨_, rfl⟩
          have hy64 : y.size ≤ 64 := by
            rw [hye, ByteArray.size_append, ByteArray.size_extract]
            have h1 : (⟨#[113]⟩ : ByteArray).size = 1 := rfl
            have h2 : (⟨#[97, 98, 99, 100, 101, 102, 103, 104, 105, 106, 107, 108, 109, 110, 111, 112, 113, 114, 115, 116, 117, 118, 119, 120, 121, 122]⟩ : ByteArray).size = 26 := rfl
            omega
          have HYE := Lib.hid hye
          have e1 : (0 : Int) ≤ (k : Int) := Int.natCast_nonneg _
          have e2 : (k : Int) < 26 := by omega
          have hsl : (Instr.slice 9 (.string (⟨#[97, 98, 99, 100, 101, 102, 103, 104, 105, 106, 107, 108, 109, 110, 111, 112, 113, 114, 115, 116, 117, 118, 119, 120, 121, 122]⟩ : ByteArray)) (some (.int .i64 (k : Int))) (some (.int .i64 ((k : Int) + 1))) none).run Try.prog w4 = .ok (.string ((⟨#[97, 98, 99, 100, 101, 102, 103, 104, 105, 106, 107, 108, 109, 110, 111, 112, 113, 114, 115, 116, 117, 118, 119, 120, 121, 122]⟩ : ByteArray).extract k (k + 1))) w4 := by
            have h2 : (⟨#[97, 98, 99, 100, 101, 102, 103, 104, 105, 106, 107, 108, 109, 110, 111, 112, 113, 114, 115, 116, 117, 118, 119, 120, 121, 122]⟩ : ByteArray).size = 26 := rfl
            have h := run_slice_string (P := Try.prog) (w := w4) 9 (⟨#[97, 98, 99, 100, 101, 102, 103, 104, 105, 106, 107, 108, 109, 110, 111, 112, 113, 114, 115, 116, 117, 118, 119, 120, 121, 122]⟩ : ByteArray) .i64 .i64 (k : Int) ((k : Int) + 1) Try.underlying9 (by omega) (by omega) (by rw [h2]; omega)
            rw [h]
            congr 2
          rw [hye] at hy64
          clear hye HYE
          go_wp2_with (at_builtin; refine wpList_append_own _ rfl _ _ 30 rfl w.heap.size 9 i0 _ 1 16 Try.underlying30 hi0 hz0 hz1 hz2 rfl (by decide) _ _ _ rfl (HO4.out.1.alloc _) ⟨w4.heap.size, 0, none⟩ 1 1 [.string ((⟨#[113]⟩ : ByteArray) ++ (⟨#[97, 98, 99, 100, 101, 102, 103, 104, 105, 106, 107, 108, 109, 110, 111, 112, 113, 114, 115, 116, 117, 118, 119, 120, 121, 122]⟩ : ByteArray).extract k (k + 1))] rfl rfl ?d1 ?d2 ?d3 ?d4 ?d5 ?_)
          case d1 => exact one_cell' _ _ _ (new_one _ _ _)
          case d2 => intro u hu; simp only [List.mem_singleton] at hu; subst hu; rfl
          case d3 => unfold maxLen; omega
          case d4 => omega
          case d5 => simp; omega
          intro v' w7 hown7 hgrow7 _
          have hrow : ∀ x, (Value.slice A1 m c1).ownBlock = some x → w.heap.size ≤ x := fun x hx => (HO4.out.1.lt x hx).1
          have gA := World.grownBy_alloc w4 (.cells #[.string ((⟨#[113]⟩ : ByteArray) ++ (⟨#[97, 98, 99, 100, 101, 102, 103, 104, 105, 106, 107, 108, 109, 110, 111, 112, 113, 114, 115, 116, 117, 118, 119, 120, 121, 122]⟩ : ByteArray).extract k (k + 1))] 9) (Value.slice A1 m c1).ownBlock
          have HO7 := Lib.hid (TRow.snoc hown7 HO4.out.2 hy64)
          have HS7 := Lib.hid (Src.grow (HS4.out.grow gA (fun x hx => by have := hrow x hx; omega)) hgrow7 (fun x hx => by have := hrow x hx; omega))
          have HG7 := Lib.hid (grown_new (grown_new HG4.out gA hrow) hgrow7 hrow)
          clear hown7 hgrow7 gA hrow hsl
          go_wp2_with fail
          go_roundw
          case rel => exact ⟨k + 1, m + 1, v', _, by omega, by omega, by go_num, rfl, HO7, HS7, HG7⟩
          case measure => simp [intOf]; omega
        · have d2 : decide ((k : Int) < 26) = false := decide_eq_false (by omega)
          go_wp2_with fail
          go_ret
          exact ⟨_, m, ys, by omega, rfl, HO4.out, HS4.out, HG4.out⟩
      · have d1 : decide ((m : Int) < 40 + q) = false := decide_eq_false hlt
        go_wp2_with fail
        go_ret
        exact ⟨_, m, ys, by omega, rfl, HO4.out, HS4.out, HG4.out⟩
  have z3 : (r == 3) = false := by rw [beq_eq_false_iff_ne]; exact h3
  clear h0 h1 h2 h3
  go_wp2_with fail
  go_ret
  exact ⟨_, n, xs, by omega, rfl, HO2.out, HS2.out, HG2.out⟩
end Go.Proofs.Ytdbbolnmcbhflaa
