/-
  The contracts of spec.l01From, spec.l01Good, spec.l01DrawWord: a source out of a code, and drawn words (some text of bounded length).
-/
import Derived.Test.YtlogbgkbdjdkkaaNext
import Derived.BigRegion
namespace Go.Proofs.Ytlogbgkbdjdkkaa
set_option linter.unusedVariables false
open Go.RowKit

/-- The code that came in: its bytes, wherever they lie. -/
def CodeIn (w : World) (A : Option Addr) (len : Nat) : Prop :=
  0 < len → ∃ b o, A = some ⟨b, o, none⟩ ∧ b < w.heap.size ∧ ∀ j, j < len → ∃ z : Int, 0 ≤ z ∧ z ≤ 255 ∧ w.cell? ⟨b, o + j, none⟩ = some (.int .u8 z)
theorem CodeIn.at_ {w w' : World} {A : Option Addr} {len : Nat} (h : CodeIn w A len) (hb : Below w.heap.size w w') : CodeAt w' w.heap.size A len := fun hp => by
  obtain ⟨b, o, hA, hlt, hc⟩ := h hp
  refine ⟨b, o, hA, by omega, Nat.lt_of_lt_of_le hlt hb.size, fun j hj => ?_⟩
  obtain ⟨z, h0, h1, h2⟩ := hc j hj
  exact ⟨z, h0, h1, (hb.cell hlt).trans h2⟩

set_option maxHeartbeats 1000000 in
set_option maxRecDepth 100000 in
theorem cFrom (A : Option Addr) (len cap : Nat) (w : World) (hlen : len ≤ 1048576) (h : CodeIn w A len) :
    Calls Try.prog 45 #[.slice A len cap] w fun e w' => e = .returned (.pointer (some ⟨w.heap.size, 0, none⟩)) ∧ Src w' w.heap.size len ∧ Below w.heap.size w w' := by
  have H := Lib.hid h
  clear h
  go_enter Try.func45, Try.ntmps45
  go_wp2
  have T0 := Lib.hid (show TabAt (w.alloc (.cells #[.slice A len cap, .int .i64 0, .int .i64 51031] 53)) w.heap.size 53 (srcCells A len cap 0 51031) from TabAt.new w 53 _)
  go_loopw [4] (fun i wr => ∃ (k : Nat) (seed : Int), k ≤ len ∧ i = .int .i64 k ∧ 0 ≤ seed ∧ seed ≤ 2147483646 ∧ Hid (TabAt wr w.heap.size 53 (srcCells A len cap 0 seed)) ∧ Below w.heap.size w wr) (fun i _ => len - (intOf i).toNat)
  case atStart => exact ⟨0, 51031, Nat.zero_le _, rfl, by omega, by omega, T0, (Below.refl _ _).alloc (Nat.le_refl _) _⟩
  case round =>
    clear T0
    obtain ⟨k, seed, hk, rfl, hs0, hs1, HT, hbw⟩ := hrel
    by_cases hlt : k < len
    · by_cases h64 : k < 64
      · obtain ⟨b, o, rfl, hbl, hcc⟩ := H.out (by omega)
        obtain ⟨z, hz0, hz1, hcz⟩ := hcc k hlt
        have dz := (hbw.cell (by exact hbl)).trans hcz
        have d2 : wr.cell? ⟨w.heap.size, 2, none⟩ = some (.int .i64 seed) := (HT.out.cell 2).trans rfl
        have g2 := HT.out.frozen 2
        have hb1 : 0 ≤ (seed * 73 + z) % 2147483647 := by omega
        have hb2 : (seed * 73 + z) % 2147483647 ≤ 2147483646 := by omega
        have T1 := HT.out.set 2 (.int .i64 ((seed * 73 + z) % 2147483647))
        rw [src_set2] at T1
        have TT := Lib.hid T1
        have hbw1 := hbw.drew.setCell (p := ⟨w.heap.size, 2, none⟩) (Nat.le_refl _) (.int .i64 ((seed * 73 + z) % 2147483647))
        clear hcc hcz T1
        go_wp2
        go_region
        all_goals
          go_wp2
          go_roundw
          case rel => exact ⟨k + 1, _, by omega, by go_num, hb1, hb2, TT, hbw1⟩
          case measure => simp [intOf]; omega
      · go_wp2
        go_ret
        exact ⟨rfl, ⟨A, cap, 0, seed, HT.out, by omega, by omega, hs0, hs1, H.out.at_ hbw⟩, hbw⟩
    · go_wp2
      go_ret
      exact ⟨rfl, ⟨A, cap, 0, seed, HT.out, by omega, by omega, hs0, hs1, H.out.at_ hbw⟩, hbw⟩

/-- A row of short texts at block P. -/
def TextRow (w : World) (P n m : Nat) : Prop := P < w.heap.size ∧ ∀ j, j < n → ∃ x : ByteArray, x.size ≤ m ∧ w.cell? ⟨P, j, none⟩ = some (.string x)
theorem TextRow.kept {w w' : World} {P n m B : Nat} (h : TextRow w P n m) (hg : w.grownBy w' (some B)) (hne : P ≠ B) : TextRow w' P n m :=
  ⟨Nat.lt_of_lt_of_le h.1 hg.size, fun j hj => by
    obtain ⟨x, hx, hc⟩ := h.2 j hj
    exact ⟨x, hx, hg.cell hc (by simp; exact hne)⟩⟩
theorem good_row (w : World) : TextRow (w.alloc (.cells #[.string ⟨#[97, 115, 104]⟩, .string ⟨#[102, 111, 114, 100]⟩, .string ⟨#[116, 111, 110]⟩, .string ⟨#[98, 121]⟩, .string ⟨#[107, 105, 114, 107]⟩, .string ⟨#[104, 97, 114]⟩, .string ⟨#[119, 105, 99, 107]⟩, .string ⟨#[101, 108, 121]⟩, .string ⟨#[111, 115]⟩, .string ⟨#[108, 111]⟩, .string ⟨#[98, 114, 105, 103]⟩, .string ⟨#[109, 97]⟩, .string ⟨#[114, 105]⟩, .string ⟨#[110, 97]⟩, .string ⟨#[115, 116]⟩, .string ⟨#[97, 101]⟩] 9)) w.heap.size 16 4 := by
  refine ⟨by simp, fun j hj => ?_⟩
  rw [World.cell?_alloc_at _ _ _ _ rfl]
  have h : j = 0 ∨ j = 1 ∨ j = 2 ∨ j = 3 ∨ j = 4 ∨ j = 5 ∨ j = 6 ∨ j = 7 ∨ j = 8 ∨ j = 9 ∨ j = 10 ∨ j = 11 ∨ j = 12 ∨ j = 13 ∨ j = 14 ∨ j = 15 := by omega
  rcases h with rfl | rfl | rfl | rfl | rfl | rfl | rfl | rfl | rfl | rfl | rfl | rfl | rfl | rfl | rfl | rfl
  all_goals exact ⟨_, by decide, rfl⟩
theorem bad_row (w : World) : TextRow (w.alloc (.cells #[.string ⟨#[]⟩, .string ⟨#[70, 111, 114, 100]⟩, .string ⟨#[97, 49]⟩, .string ⟨#[97, 98, 99, 100, 101, 102, 103, 104, 105, 106, 107, 108, 109, 110, 111, 112]⟩, .string ⟨#[97, 98, 99, 100, 101, 102, 103, 104, 105, 106, 107, 108, 109, 110, 111, 112, 113]⟩, .string ⟨#[97, 32, 98]⟩] 9)) w.heap.size 6 17 := by
  refine ⟨by simp, fun j hj => ?_⟩
  rw [World.cell?_alloc_at _ _ _ _ rfl]
  have h : j = 0 ∨ j = 1 ∨ j = 2 ∨ j = 3 ∨ j = 4 ∨ j = 5 := by omega
  rcases h with rfl | rfl | rfl | rfl | rfl | rfl
  all_goals exact ⟨_, by decide, rfl⟩
theorem Src.lt {w : World} {B len : Nat} (h : Src w B len) : B < w.heap.size := by
  obtain ⟨A, cap, a, s, hT, _⟩ := h
  exact hT.lt
theorem Src.alloc {w : World} {B len : Nat} (h : Src w B len) (o : Obj) : Src (w.alloc o) B len := by
  obtain ⟨A, cap, a, s, hT, h1, h2, h3, h4, h5⟩ := h
  exact ⟨A, cap, a, s, hT.alloc o, h1, h2, h3, h4, h5.kept (World.grownBy_alloc w o _)⟩
def TextPost (m : Nat) (w : World) (B len : Nat) (e : Ending) (w' : World) : Prop := ∃ t : ByteArray, t.size ≤ m ∧ e = .returned (.string t) ∧ Src w' B len ∧ w.grownBy w' (some B)

end Go.Proofs.Ytlogbgkbdjdkkaa
