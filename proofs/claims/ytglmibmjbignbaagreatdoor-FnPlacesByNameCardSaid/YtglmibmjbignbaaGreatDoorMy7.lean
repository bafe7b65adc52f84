/-
  Slices of texts of any length: what a walk holds of one, and the contracts of the laws' helpers at it.
-/
import Derived.Test.YtglmibmjbignbaaGreatDoorMy6
import Derived.Test.YtglmibmjbignbaaGreatDoorMy5
namespace Go.Proofs.YtglmibmjbignbaaGreatDoor
section
set_option linter.unusedVariables false
open Go.RowKit

/-- A slice that holds the texts xs, in a block below B. -/
def TextAt (w : World) (B : Nat) (A : Option Addr) (n : Nat) (xs : List ByteArray) : Prop :=
  n = xs.length ∧ (0 < n → ∃ b o, A = some ⟨b, o, none⟩ ∧ b < B ∧ ∀ (j : Nat) x, xs[j]? = some x → w.cell? ⟨b, o + j, none⟩ = some (.string x))
theorem TextAt.below {w w' : World} {B C : Nat} {A : Option Addr} {n : Nat} {xs : List ByteArray} (h : TextAt w B A n xs) (hb : Below C w w') (hBC : B ≤ C) : TextAt w' B A n xs :=
  ⟨h.1, fun hp => by obtain ⟨b, o, h1, h2, h3⟩ := h.2 hp; exact ⟨b, o, h1, h2, fun j x hx => (hb.cell (by exact Nat.lt_of_lt_of_le h2 hBC)).trans (h3 j x hx)⟩⟩
theorem TextAt.more {w : World} {B C : Nat} {A : Option Addr} {n : Nat} {xs : List ByteArray} (h : TextAt w B A n xs) (hBC : B ≤ C) : TextAt w C A n xs :=
  ⟨h.1, fun hp => by obtain ⟨b, o, h1, h2, h3⟩ := h.2 hp; exact ⟨b, o, h1, Nat.lt_of_lt_of_le h2 hBC, h3⟩⟩
theorem TextAt.drewN {w : World} {B : Nat} {A : Option Addr} {n : Nat} {xs : List ByteArray} (h : TextAt w B A n xs) (m : Nat) : TextAt (w.drewN m) B A n xs := h
theorem below_drN {B : Nat} {a w : World} (h : Below B a w) (n : Nat) : Below B a (w.drewN n) := ⟨h.os, h.tape, h.output, h.size, h.block⟩
theorem textAt_arg {w : World} {a : Option Addr} {n cap : Nat} {zs : List ByteArray} (h : IsStrs w a n cap zs) :
    n ≤ maxLen ∧ (∀ x ∈ zs.take n, x.size ≤ maxLen) ∧ TextAt w w.heap.size a n (zs.take n) := by
  rcases Nat.eq_zero_or_pos n with rfl | hp
  · exact ⟨Nat.zero_le _, by simp, by simp, fun h => absurd h (by omega)⟩
  · obtain ⟨b, o, rfl, hb, hl, hm, hc, hs⟩ := h.row hp
    exact ⟨hm, hs, hl.symm, fun _ => ⟨b, o, rfl, hb, hc⟩⟩

theorem tSz (A : Option Addr) (n cap B : Nat) (xs : List ByteArray) (w : World) (hm : n ≤ maxLen) (hs : ∀ x ∈ xs, x.size ≤ maxLen) (h : TextAt w B A n xs) :
    Calls Tryz.prog 50 #[.slice A n cap, .int .i64 1048576] w (SomeR (SmallS n xs) w) := by
  rcases Nat.eq_zero_or_pos n with rfl | hp
  · refine (cSzS_none A cap w).mono ?_
    rintro e w' ⟨rfl, rfl⟩
    have hx : xs = [] := List.length_eq_zero_iff.1 h.1.symm
    exact ⟨1048576, ⟨by omega, .inr ⟨by omega, by simp [hx]⟩⟩, rfl, rfl⟩
  · obtain ⟨b, o, rfl, hb, hc⟩ := h.2 hp
    exact cSzS b o n cap xs w h.1 hm hs hc

theorem tEqS (g cap g' cap' n B C : Nat) (xs : List ByteArray) (w : World) (hbig : n ≤ 1048576) (h1 : TextAt w B (some ⟨g, 0, none⟩) n xs) (h2 : TextAt w C (some ⟨g', 0, none⟩) n xs) :
    Calls Tryz.prog 42 #[.slice (some ⟨g, 0, none⟩) n cap, .slice (some ⟨g', 0, none⟩) n cap'] w fun e w' => e = .returned (.bool true) ∧ ∃ m, w' = w.drewN m := by
  rcases Nat.eq_zero_or_pos n with rfl | hp
  · refine (cEqS_none _ _ _ _ _).mono ?_
    rintro e w' ⟨rfl, rfl⟩
    exact ⟨rfl, 0, rfl⟩
  · obtain ⟨b, o, e1, hb, hc⟩ := h1.2 hp
    obtain ⟨b', o', e2, hb', hc'⟩ := h2.2 hp
    obtain ⟨rfl, rfl⟩ : g = b ∧ 0 = o := by cases e1; exact ⟨rfl, rfl⟩
    obtain ⟨rfl, rfl⟩ : g' = b' ∧ 0 = o' := by cases e2; exact ⟨rfl, rfl⟩
    exact cEqS g cap g' cap' n xs w h1.1 (by omega) (fun j x hx => by have := hc j x hx; rwa [Nat.zero_add] at this) (fun j x hx => by have := hc' j x hx; rwa [Nat.zero_add] at this)

end
section
set_option linter.unusedVariables false
open Go.RowKit

theorem CodeIn.below {w w' : World} {A : Option Addr} {len : Nat} (h : CodeIn w A len) (hb : Below w.heap.size w w') : CodeIn w' A len := fun hp => by
  obtain ⟨b, o, hA, hlt, hc⟩ := h hp
  refine ⟨b, o, hA, Nat.lt_of_lt_of_le hlt hb.size, fun j hj => ?_⟩
  obtain ⟨z, h0, h1, h2⟩ := hc j hj
  exact ⟨z, h0, h1, (hb.cell (by exact hlt)).trans h2⟩
theorem below_of_src {w w1 w2 : World} (h : Below w.heap.size w w1) (hg : w1.grownBy w2 (some w.heap.size)) : Below w.heap.size w w2 := h.grown hg h.size (fun k hk => by cases hk; exact Nat.le_refl _)
theorem TRow.textAt {w : World} {lo m n c : Nat} {A : Option Addr} {xs : List ByteArray} (h : TRow w lo m n (.slice A n c) xs) : TextAt w w.heap.size A n xs :=
  ⟨h.len, fun hp => by
    obtain ⟨g, cc, hv, _, hgl⟩ := World.ownsRow.form h.1 hp
    obtain ⟨rfl, rfl⟩ : A = some ⟨g, 0, none⟩ ∧ c = cc := by injection hv with h1 h2 h3; exact ⟨h1, h3⟩
    exact ⟨g, 0, rfl, hgl, fun j x hx => by rw [Nat.zero_add]; exact (World.ownsRow.cellAt h.1 j (by have := (List.getElem?_eq_some_iff.1 hx).1; have := h.len; omega)).trans (strV_at _ _ _ hx)⟩⟩
/-- The capacity is no less than the length. -/
theorem TRow.cap {w : World} {lo m n c : Nat} {A : Option Addr} {xs : List ByteArray} (h : TRow w lo m n (.slice A n c) xs) : n ≤ c := by
  rcases h.1.2 with ⟨h1, h2⟩ | ⟨g1, cap1, cur, h1, h2, h3, h4, _⟩
  · omega
  · injection h1 with e1 e2 e3; omega
def RowsPost (w : World) (e : Ending) (w' : World) : Prop := ∃ (A : Option Addr) (n c : Nat) (xs : List ByteArray), n ≤ 60 ∧ n ≤ c ∧ (∀ x ∈ xs, x.size ≤ maxLen) ∧ e = .returned (.slice A n c) ∧ TextAt w' w'.heap.size A n xs ∧ Below w.heap.size w w'
def StrPost (w : World) (e : Ending) (w' : World) : Prop := ∃ t : ByteArray, t.size ≤ 1000000 ∧ e = .returned (.string t) ∧ Below w.heap.size w w'

theorem joinB_size (xs : List ByteArray) (h : ∀ x ∈ xs, x.size ≤ 64) : (joinB xs).size ≤ xs.length * 65 := by
  have h1 := join_len (xs.map (·.data.toList)) (by
    intro y hy
    rw [List.mem_map] at hy
    obtain ⟨z, hz, rfl⟩ := hy
    have h2 := h z hz
    have h3 := size_list z
    omega)
  rw [List.length_map] at h1
  have h2 := size_list (joinB xs)
  rw [joinB_data] at h2
  omega

end
section
set_option linter.unusedVariables false
open Go.RowKit

def lenV : Value → Nat
  | .slice _ n _ => n
  | _ => 0
set_option maxHeartbeats 2000000 in
set_option maxRecDepth 100000 in
theorem cGoodPhrase (B len : Nat) (w : World) (hlen : len ≤ 1048576) (h : Src w B len) :
    Calls Tryz.prog 139 #[.pointer (some ⟨B, 0, none⟩)] w (TextPost 1000 w B len) := by
  obtain ⟨i0, hi0, hz0, hz1, hz2⟩ := info_parts info_str
  have hBl := h.lt
  have HO := Lib.hid (World.ownsRow_lit (e := 9) (base := w.heap.size) (size := 1) w #[] 0 (Nat.le_refl _) (by decide) rfl)
  have HG := Lib.hid (World.grownBy_alloc w (.cells #[] 9) (some B))
  have C0 := Lib.hid (cNext B len 3 _ hlen (by omega) (by omega) (h.alloc (.cells #[] 9)))
  clear h
  go_enter Tryz.func139, Tryz.ntmps139
  go_wp2_with fail
  refine C0.out.mono ?_
  rintro e w1 ⟨r, hr0, hr1, rfl, hS1, g1⟩
  obtain ⟨n0, rfl⟩ : ∃ k : Nat, r = k := ⟨r.toNat, by omega⟩
  have hn0 : n0 < 3 := by omega
  have HO1 : Hid (TRow w1 w.heap.size 64 0 (.slice (some ⟨w.heap.size, 0, none⟩) 0 0) []) := Lib.hid (TRow.kept (w := w.alloc (.cells #[] 9)) ⟨HO.out, by simp⟩ g1 hBl)
  have HG1 := Lib.hid (HG.out.trans g1)
  have HS1 := Lib.hid hS1
  clear hS1 g1 hr1 C0 HO HG
  go_wp2_with fail
  go_loopw [3, 4] (fun o i wr => ∃ (k m : Nat) (v : Value) (xs : List ByteArray), k + m = n0 + 1 ∧ i = .int .i64 m ∧ v = o ∧ Hid (TRow wr w.heap.size 64 k v xs) ∧ Hid (Src wr B len) ∧ Hid (w.grownBy wr (some B))) (fun _ i _ => (intOf i).toNat)
  case atStart => exact ⟨0, n0 + 1, _, [], by omega, by go_num, rfl, HO1, HS1, HG1⟩
  case round =>
    clear HO1 HS1 HG1
    obtain ⟨k, m, v, xs, hkm, rfl, rfl, HO, HS, HG⟩ := hrel
    have hsz := HG.out.size
    by_cases hm : 0 < m
    · have z1 : decide ((0 : Int) < (m : Int)) = true := decide_eq_true (by omega)
      have z1' : decide (0 < m) = true := decide_eq_true hm
      have C1 := Lib.hid (cGood B len wr hlen HS.out)
      go_wp2_with fail
      refine C1.out.mono ?_
      rintro e w4 ⟨y, hy, rfl, hS4, g4⟩
      have HO4 := Lib.hid (HO.out.kept g4 hBl)
      have HG4 := Lib.hid (HG.out.trans g4)
      have HS4 := Lib.hid hS4
      have hsz4 := HG4.out.size
      clear hS4 g4 C1 HO HS HG
      go_wp2_with (at_builtin; refine wpList_append_own _ rfl _ _ 38 rfl w.heap.size 9 i0 _ 1 16 Tryz.underlying38 hi0 hz0 hz1 hz2 rfl (by decide) _ _ _ rfl (HO4.out.1.alloc _) ⟨w4.heap.size, 0, none⟩ 1 1 [.string y] rfl rfl ?c1 ?c2 ?c3 ?c4 ?c5 ?_)
      case c1 => exact one_cell' _ _ _ (new_one _ _ _)
      case c2 => intro u hu; simp only [List.mem_singleton] at hu; subst hu; rfl
      case c3 => unfold maxLen; omega
      case c4 => omega
      case c5 => simp; omega
      intro v' w7 hown7 hgrow7 _
      have hrow : ∀ x, v.ownBlock = some x → w.heap.size ≤ x := fun x hx => (HO4.out.1.lt x hx).1
      have gA := World.grownBy_alloc w4 (.cells #[.string y] 9) v.ownBlock
      have HO7 := Lib.hid (TRow.snoc hown7 HO4.out.2 (by omega))
      have HS7 := Lib.hid (Src.grow (HS4.out.grow gA (fun x hx => by have := hrow x hx; omega)) hgrow7 (fun x hx => by have := hrow x hx; omega))
      have HG7 := Lib.hid (grown_new (grown_new HG4.out gA hrow) hgrow7 hrow)
      clear hown7 hgrow7 gA hrow
      go_wp2_with fail
      go_roundw
      case rel => exact ⟨k + 1, m - 1, v', xs ++ [y], by omega, by go_num, rfl, HO7, HS7, HG7⟩
      case measure => simp [intOf]; omega
    · have z1 : decide ((0 : Int) < (m : Int)) = false := decide_eq_false (by omega)
      have z1' : decide (0 < m) = false := decide_eq_false hm
      obtain ⟨g, c, hv, _, hgl⟩ := World.ownsRow.form HO.out.1 (by omega)
      have hnl := HO.out.len
      subst hv
      have CW := Lib.hid (cWords g 0 c k xs wr hnl (by omega) HO.out.2 (fun j x hx => by rw [Nat.zero_add]; exact (HO.out.1.cellAt j (by have := (List.getElem?_eq_some_iff.1 hx).1; omega)).trans (strV_at _ _ _ hx)))
      have hjs := joinB_size xs HO.out.2
      obtain ⟨t, ht⟩ : ∃ t, t = joinB xs := ⟨_, rfl⟩
      rw [← ht] at CW hjs
      have hts : t.size ≤ 1000 := by omega
      clear hjs ht hnl
      go_wp2_with fail
      refine CW.out.mono ?_
      rintro e w' ⟨rfl, rfl⟩
      go_wp2_with fail
      go_ret
      exact ⟨t, hts, rfl, HS.out, HG.out⟩

theorem row5 (w : World) : TextRow (w.alloc (.cells #[.string ⟨#[]⟩, .string ⟨#[97, 32, 32, 98]⟩, .string ⟨#[32, 97]⟩, .string ⟨#[97, 32, 98, 32, 99, 32, 100, 32, 101, 32, 102, 32, 103, 32, 104]⟩, .string ⟨#[97, 32, 98, 32, 99, 32, 100, 32, 101, 32, 102, 32, 103, 32, 104, 32, 105]⟩] 9)) w.heap.size 5 17 := by
  refine ⟨by simp, fun j hj => ?_⟩
  rw [World.cell?_alloc_at _ _ _ _ rfl]
  have h : j = 0 ∨ j = 1 ∨ j = 2 ∨ j = 3 ∨ j = 4 := by omega
  rcases h with rfl | rfl | rfl | rfl | rfl
  all_goals exact ⟨_, by decide, rfl⟩

set_option maxHeartbeats 2000000 in
theorem cDrawPhrase (B len : Nat) (w : World) (hlen : len ≤ 1048576) (h : Src w B len) :
    Calls Tryz.prog 90 #[.pointer (some ⟨B, 0, none⟩)] w (TextPost 2000 w B len) := by
  have hBl := h.lt
  have C0 := Lib.hid (cGoodPhrase B len w hlen h)
  clear h
  go_enter Tryz.func90, Tryz.ntmps90
  go_wp2_with fail
  refine C0.out.mono ?_
  rintro e w1 ⟨t, ht, rfl, hS1, g1⟩
  have C1 := Lib.hid (cNext B len 20 w1 hlen (by omega) (by omega) hS1)
  clear hS1 C0
  go_wp2_with fail
  refine C1.out.mono ?_
  rintro e w2 ⟨r, hr0, hr1, rfl, hS2, g2⟩
  have HG2 := Lib.hid (g1.trans g2)
  have HS2 := Lib.hid hS2
  have hl2 := hS2.lt
  clear hS2 g1 g2 hr1 C1
  by_cases h0 : r = 0
  · have z0 : (r == 0) = true := by simp [h0]
    have C2 := Lib.hid (cDamage B len t w2 hlen (by omega) HS2.out)
    clear h0
    go_wp2_with fail
    refine C2.out.mono ?_
    rintro e w3 ⟨u, hu, rfl, hS3, g3⟩
    have HG3 := Lib.hid (HG2.out.trans g3)
    have HS3 := Lib.hid hS3
    clear hS3 g3 C2
    go_wp2_with fail
    go_ret
    exact ⟨u, by omega, rfl, HS3.out, HG3.out⟩
  have z0 : (r == 0) = false := by rw [beq_eq_false_iff_ne]; exact h0
  by_cases h1 : r = 1
  · have z1 : (r == 1) = true := by simp [h1]
    have HR := Lib.hid (row5 w2)
    have gA := World.grownBy_alloc w2 (.cells #[.string ⟨#[]⟩, .string ⟨#[97, 32, 32, 98]⟩, .string ⟨#[32, 97]⟩, .string ⟨#[97, 32, 98, 32, 99, 32, 100, 32, 101, 32, 102, 32, 103, 32, 104]⟩, .string ⟨#[97, 32, 98, 32, 99, 32, 100, 32, 101, 32, 102, 32, 103, 32, 104, 32, 105]⟩] 9) (some B)
    have C2 := Lib.hid (cNext B len 5 _ hlen (by omega) (by omega) (HS2.out.alloc (.cells #[.string ⟨#[]⟩, .string ⟨#[97, 32, 32, 98]⟩, .string ⟨#[32, 97]⟩, .string ⟨#[97, 32, 98, 32, 99, 32, 100, 32, 101, 32, 102, 32, 103, 32, 104]⟩, .string ⟨#[97, 32, 98, 32, 99, 32, 100, 32, 101, 32, 102, 32, 103, 32, 104, 32, 105]⟩] 9)))
    have HGA := Lib.hid (HG2.out.trans gA)
    clear h0 h1 gA
    go_wp2_with fail
    refine C2.out.mono ?_
    rintro e w3 ⟨q0, hq0, hq1, rfl, hS3, g3⟩
    obtain ⟨q, rfl⟩ : ∃ q : Nat, q0 = q := ⟨q0.toNat, by omega⟩
    have hq : q < 5 := by omega
    obtain ⟨y, hy, hcy⟩ := (HR.out.kept g3 (by omega)).2 q hq
    have HG3 := Lib.hid (HGA.out.trans g3)
    have HS3 := Lib.hid hS3
    have hqn : (q : Int) < 5 := by omega
    clear hS3 g3 hq1 C2
    go_wp2_with fail
    go_ret
    exact ⟨y, by omega, rfl, HS3.out, HG3.out⟩
  have z1 : (r == 1) = false := by rw [beq_eq_false_iff_ne]; exact h1
  clear h0 h1
  go_wp2_with fail
  go_ret
  exact ⟨t, by omega, rfl, HS2.out, HG2.out⟩

end
end Go.Proofs.YtglmibmjbignbaaGreatDoor
