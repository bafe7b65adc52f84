/-
  The contracts of spec.l01From, spec.l01Good, spec.l01DrawWord: a source out of a code, and drawn words (some text of bounded length).
-/
import Derived.Test.YthlilfdndpnbkaaGreatDoorNext
import Derived.BigRegion
import Derived.Test.YthlilfdndpnbkaaGreatDoorMg1
import Derived.BigQuiet
import Derived.Deep.QuietTactic
import Derived.Handy
import Derived.Laws.Rows
namespace Go.Proofs.YthlilfdndpnbkaaGreatDoor
section
set_option linter.unusedVariables false
open Go.RowKit

/-- The code that came in: its bytes, wherever they lie. -/
def CodeIn (w : World) (A : Option Addr) (len : Nat) : Prop :=
  0 < len → ∃ b o, A = some ⟨b, o, none⟩ ∧ b < w.heap.size ∧ ∀ j, j < len → ∃ z : Int, 0 ≤ z ∧ z ≤ 255 ∧ w.cell? ⟨b, o + j, none⟩ = some (.int .u8 z)
theorem CodeIn.at_ {w w' : World} {A : Option Addr} {len : Nat} (h : CodeIn w A len) (hb : Below w.heap.size w w') : CodeAt w' w.heap.size A len := fun hp => by
  obtain ⟨b, o, hA, hlt, hc⟩ := h hp
  refine ⟨b, o, hA, by omega, Nat.lt_of_lt_of_le hlt hb.size, fun j hj => ?_⟩
  obtain ⟨z, h0, h1, h2⟩ := hc j hj
  exact ⟨z, h0, h1, (hb.cell hlt).trans h2⟩

set_option maxHeartbeats 1000000 in
set_option maxRecDepth 100000 in
theorem cFrom (A : Option Addr) (len cap : Nat) (w : World) (hlen : len ≤ 1048576) (h : CodeIn w A len) :
    Calls Tryz.prog 42 #[.slice A len cap] w fun e w' => e = .returned (.pointer (some ⟨w.heap.size, 0, none⟩)) ∧ Src w' w.heap.size len ∧ Below w.heap.size w w' := by
  have H := Lib.hid h
  clear h
  go_enter Tryz.func42, Tryz.ntmps42
  go_wp2
  have T0 := Lib.hid (show TabAt (w.alloc (.cells #[.slice A len cap, .int .i64 0, .int .i64 51031] 122)) w.heap.size 122 (srcCells A len cap 0 51031) from TabAt.new w 122 _)
  go_loopw [4] (fun i wr => ∃ (k : Nat) (seed : Int), k ≤ len ∧ i = .int .i64 k ∧ 0 ≤ seed ∧ seed ≤ 2147483646 ∧ Hid (TabAt wr w.heap.size 122 (srcCells A len cap 0 seed)) ∧ Below w.heap.size w wr) (fun i _ => len - (intOf i).toNat)
  case atStart => exact ⟨0, 51031, Nat.zero_le _, rfl, by omega, by omega, T0, (Below.refl _ _).alloc (Nat.le_refl _) _⟩
  case round =>
    clear T0
    obtain ⟨k, seed, hk, rfl, hs0, hs1, HT, hbw⟩ := hrel
    by_cases hlt : k < len
    · by_cases h64 : k < 64
      · obtain ⟨b, o, rfl, hbl, hcc⟩ := H.out (by omega)
        obtain ⟨z, hz0, hz1, hcz⟩ := hcc k hlt
        have dz := (hbw.cell (by exact hbl)).trans hcz
        have d2 : wr.cell? ⟨w.heap.size, 2, none⟩ = some (.int .i64 seed) := (HT.out.cell 2).trans rfl
        have g2 := HT.out.frozen 2
        have hb1 : 0 ≤ (seed * 73 + z) % 2147483647 := by omega
        have hb2 : (seed * 73 + z) % 2147483647 ≤ 2147483646 := by omega
        have T1 := HT.out.set 2 (.int .i64 ((seed * 73 + z) % 2147483647))
        rw [src_set2] at T1
        have TT := Lib.hid T1
        have hbw1 := hbw.drew.setCell (p := ⟨w.heap.size, 2, none⟩) (Nat.le_refl _) (.int .i64 ((seed * 73 + z) % 2147483647))
        clear hcc hcz T1
        go_wp2
        go_region
        all_goals
          go_wp2
          go_roundw
          case rel => exact ⟨k + 1, _, by omega, by go_num, hb1, hb2, TT, hbw1⟩
          case measure => simp [intOf]; omega
      · go_wp2
        go_ret
        exact ⟨rfl, ⟨A, cap, 0, seed, HT.out, by omega, by omega, hs0, hs1, H.out.at_ hbw⟩, hbw⟩
    · go_wp2
      go_ret
      exact ⟨rfl, ⟨A, cap, 0, seed, HT.out, by omega, by omega, hs0, hs1, H.out.at_ hbw⟩, hbw⟩

/-- A row of short texts at block P. -/
def TextRow (w : World) (P n m : Nat) : Prop := P < w.heap.size ∧ ∀ j, j < n → ∃ x : ByteArray, x.size ≤ m ∧ w.cell? ⟨P, j, none⟩ = some (.string x)
theorem TextRow.kept {w w' : World} {P n m B : Nat} (h : TextRow w P n m) (hg : w.grownBy w' (some B)) (hne : P ≠ B) : TextRow w' P n m :=
  ⟨Nat.lt_of_lt_of_le h.1 hg.size, fun j hj => by
    obtain ⟨x, hx, hc⟩ := h.2 j hj
    exact ⟨x, hx, hg.cell hc (by simp; exact hne)⟩⟩
theorem good_row (w : World) : TextRow (w.alloc (.cells #[.string ⟨#[97, 115, 104]⟩, .string ⟨#[102, 111, 114, 100]⟩, .string ⟨#[116, 111, 110]⟩, .string ⟨#[98, 121]⟩, .string ⟨#[107, 105, 114, 107]⟩, .string ⟨#[104, 97, 114]⟩, .string ⟨#[119, 105, 99, 107]⟩, .string ⟨#[101, 108, 121]⟩, .string ⟨#[111, 115]⟩, .string ⟨#[108, 111]⟩, .string ⟨#[98, 114, 105, 103]⟩, .string ⟨#[109, 97]⟩, .string ⟨#[114, 105]⟩, .string ⟨#[110, 97]⟩, .string ⟨#[115, 116]⟩, .string ⟨#[97, 101]⟩] 9)) w.heap.size 16 4 := by
  refine ⟨by simp, fun j hj => ?_⟩
  rw [World.cell?_alloc_at _ _ _ _ rfl]
  have h : j = 0 ∨ j = 1 ∨ j = 2 ∨ j = 3 ∨ j = 4 ∨ j = 5 ∨ j = 6 ∨ j = 7 ∨ j = 8 ∨ j = 9 ∨ j = 10 ∨ j = 11 ∨ j = 12 ∨ j = 13 ∨ j = 14 ∨ j = 15 := by omega
  rcases h with rfl | rfl | rfl | rfl | rfl | rfl | rfl | rfl | rfl | rfl | rfl | rfl | rfl | rfl | rfl | rfl
  all_goals exact ⟨_, by decide, rfl⟩
theorem bad_row (w : World) : TextRow (w.alloc (.cells #[.string ⟨#[]⟩, .string ⟨#[70, 111, 114, 100]⟩, .string ⟨#[97, 49]⟩, .string ⟨#[97, 98, 99, 100, 101, 102, 103, 104, 105, 106, 107, 108, 109, 110, 111, 112]⟩, .string ⟨#[97, 98, 99, 100, 101, 102, 103, 104, 105, 106, 107, 108, 109, 110, 111, 112, 113]⟩, .string ⟨#[97, 32, 98]⟩] 9)) w.heap.size 6 17 := by
  refine ⟨by simp, fun j hj => ?_⟩
  rw [World.cell?_alloc_at _ _ _ _ rfl]
  have h : j = 0 ∨ j = 1 ∨ j = 2 ∨ j = 3 ∨ j = 4 ∨ j = 5 := by omega
  rcases h with rfl | rfl | rfl | rfl | rfl | rfl
  all_goals exact ⟨_, by decide, rfl⟩
theorem Src.lt {w : World} {B len : Nat} (h : Src w B len) : B < w.heap.size := by
  obtain ⟨A, cap, a, s, hT, _⟩ := h
  exact hT.lt
theorem Src.alloc {w : World} {B len : Nat} (h : Src w B len) (o : Obj) : Src (w.alloc o) B len := by
  obtain ⟨A, cap, a, s, hT, h1, h2, h3, h4, h5⟩ := h
  exact ⟨A, cap, a, s, hT.alloc o, h1, h2, h3, h4, h5.kept (World.grownBy_alloc w o _)⟩
def TextPost (m : Nat) (w : World) (B len : Nat) (e : Ending) (w' : World) : Prop := ∃ t : ByteArray, t.size ≤ m ∧ e = .returned (.string t) ∧ Src w' B len ∧ w.grownBy w' (some B)

set_option maxHeartbeats 1000000 in
set_option maxRecDepth 100000 in
theorem cGood (B len : Nat) (w : World) (hlen : len ≤ 1048576) (h : Src w B len) :
    Calls Tryz.prog 123 #[.pointer (some ⟨B, 0, none⟩)] w (TextPost 64 w B len) := by
  have hB := h.lt
  have H := Lib.hid (h.alloc (.cells #[.string ⟨#[97, 115, 104]⟩, .string ⟨#[102, 111, 114, 100]⟩, .string ⟨#[116, 111, 110]⟩, .string ⟨#[98, 121]⟩, .string ⟨#[107, 105, 114, 107]⟩, .string ⟨#[104, 97, 114]⟩, .string ⟨#[119, 105, 99, 107]⟩, .string ⟨#[101, 108, 121]⟩, .string ⟨#[111, 115]⟩, .string ⟨#[108, 111]⟩, .string ⟨#[98, 114, 105, 103]⟩, .string ⟨#[109, 97]⟩, .string ⟨#[114, 105]⟩, .string ⟨#[110, 97]⟩, .string ⟨#[115, 116]⟩, .string ⟨#[97, 101]⟩] 9))
  clear h
  have HR := Lib.hid (good_row w)
  go_enter Tryz.func123, Tryz.ntmps123
  go_wp2_with fail
  refine (cNext B len 3 _ hlen (by omega) (by omega) H.out).mono ?_
  rintro e w1 ⟨r, hr0, hr1, rfl, hS, hg⟩
  have HR1 := Lib.hid (HR.out.kept hg (by omega))
  have hG := (World.grownBy_alloc w (.cells #[.string ⟨#[97, 115, 104]⟩, .string ⟨#[102, 111, 114, 100]⟩, .string ⟨#[116, 111, 110]⟩, .string ⟨#[98, 121]⟩, .string ⟨#[107, 105, 114, 107]⟩, .string ⟨#[104, 97, 114]⟩, .string ⟨#[119, 105, 99, 107]⟩, .string ⟨#[101, 108, 121]⟩, .string ⟨#[111, 115]⟩, .string ⟨#[108, 111]⟩, .string ⟨#[98, 114, 105, 103]⟩, .string ⟨#[109, 97]⟩, .string ⟨#[114, 105]⟩, .string ⟨#[110, 97]⟩, .string ⟨#[115, 116]⟩, .string ⟨#[97, 101]⟩] 9) (some B)).trans hg
  have hr2 : r < 3 := by omega
  have HS := Lib.hid hS
  clear hr1 hS hg HR H
  go_wp2_with fail
  go_loopw [4, 5] (fun o n wr => ∃ (t : ByteArray) (k : Int), o = .string t ∧ n = .int .i64 k ∧ 0 ≤ k ∧ k ≤ 3 ∧ (t.size : Int) ≤ (3 - k) * 4 ∧ Hid (Src wr B len) ∧ Hid (TextRow wr w.heap.size 16 4) ∧ w.grownBy wr (some B)) (fun _ n _ => (intOf n).toNat)
  case atStart => exact ⟨⟨#[]⟩, _, rfl, rfl, by omega, by omega, by show (0 : Int) ≤ _; omega, HS, HR1, hG⟩
  case round =>
    clear HS HR1 hG
    obtain ⟨t, k, rfl, rfl, hk0, hk1, ht, HS, HR, hG⟩ := hrel
    by_cases hlt : 0 < k
    · go_wp2_with fail
      refine (cNext B len 16 _ hlen (by omega) (by omega) HS.out).mono ?_
      rintro e w2 ⟨q, hq0, hq1, rfl, hS2, hg2⟩
      have HR2 := Lib.hid (HR.out.kept hg2 (by omega))
      have hG2 := hG.trans hg2
      have HS2 := Lib.hid hS2
      obtain ⟨j, rfl⟩ : ∃ j : Nat, q = j := ⟨q.toNat, by omega⟩
      have hj : j < 16 := by omega
      obtain ⟨x, hx, hcx⟩ := HR2.out.2 j hj
      clear hS2 hg2 hq1 HS HR
      go_wp2_with fail
      go_roundw
      case rel => exact ⟨_, _, rfl, rfl, by omega, by omega, (by rw [ByteArray.size_append]; omega), HS2, HR2, hG2⟩
      case measure => simp [intOf]; omega
    · go_wp2_with fail
      go_ret
      exact ⟨t, by omega, rfl, HS.out, hG⟩

end
section
set_option linter.unusedVariables false
open Go.RowKit

theorem bcell {W w1 : World} (hb : Below W.heap.size W w1) : (∀ b o, b < W.heap.size → w1.cell? ⟨b, o, none⟩ = W.cell? ⟨b, o, none⟩) ∧ (∀ b o, b < W.heap.size → w1.frozen? ⟨b, o, none⟩ = W.frozen? ⟨b, o, none⟩) :=
  ⟨fun b o h => hb.cell (p := ⟨b, o, none⟩) h, fun b o h => hb.frozen (p := ⟨b, o, none⟩) h⟩
theorem box_cell (w : World) (x y : Int) (t : TypeId) : (w.alloc (.cells #[.int .i64 x, .int .i64 y] t)).cell? ⟨w.heap.size, 0, none⟩ = some (.int .i64 x) ∧ (w.alloc (.cells #[.int .i64 x, .int .i64 y] t)).cell? ⟨w.heap.size, 1, none⟩ = some (.int .i64 y) :=
  ⟨by rw [World.cell?_alloc_at _ _ _ _ rfl]; rfl, by rw [World.cell?_alloc_at _ _ _ _ rfl]; rfl⟩

def BoxAt (w : World) (B : Nat) (x y : Int) : Prop := B < w.heap.size ∧ w.cell? ⟨B, 0, none⟩ = some (.int .i64 x) ∧ w.cell? ⟨B, 1, none⟩ = some (.int .i64 y)
theorem BoxAt.below {w w' : World} {B : Nat} {x y : Int} (h : BoxAt w B x y) (hb : Below w.heap.size w w') : BoxAt w' B x y :=
  ⟨Nat.lt_of_lt_of_le h.1 hb.size, (hb.cell (p := ⟨B, 0, none⟩) h.1).trans h.2.1, (hb.cell (p := ⟨B, 1, none⟩) h.1).trans h.2.2⟩
theorem BoxAt.new (w : World) (x y : Int) (t : TypeId) : BoxAt (w.alloc (.cells #[.int .i64 x, .int .i64 y] t)) w.heap.size x y := ⟨by simp, (box_cell w x y t).1, (box_cell w x y t).2⟩
/-- A box that may be written. -/
def ResAt (w : World) (B : Nat) (x y : Int) : Prop := BoxAt w B x y ∧ w.frozen? ⟨B, 0, none⟩ = false ∧ w.frozen? ⟨B, 1, none⟩ = false
theorem ResAt.below {w w' : World} {B : Nat} {x y : Int} (h : ResAt w B x y) (hb : Below w.heap.size w w') : ResAt w' B x y :=
  ⟨h.1.below hb, (hb.frozen (p := ⟨B, 0, none⟩) h.1.1).trans h.2.1, (hb.frozen (p := ⟨B, 1, none⟩) h.1.1).trans h.2.2⟩
theorem ResAt.new (w : World) (x y : Int) (t : TypeId) : ResAt (w.alloc (.cells #[.int .i64 x, .int .i64 y] t)) w.heap.size x y :=
  ⟨BoxAt.new w x y t, by unfold World.frozen?; rw [heap_alloc_new]; simp, by unfold World.frozen?; rw [heap_alloc_new]; simp⟩
theorem below_alloc (w : World) (o : Obj) : Below w.heap.size w (w.alloc o) := (Below.refl _ _).alloc (Nat.le_refl _) _
theorem BoxAt.alloc {w : World} {B : Nat} {x y : Int} (h : BoxAt w B x y) (o : Obj) : BoxAt (w.alloc o) B x y := h.below (below_alloc w o)
theorem below_set2 {B : Nat} {w w' : World} (h : Below B w w') {g : Nat} (hg : B ≤ g) (x y : Value) : Below B w ((w'.setCell ⟨g, 0, none⟩ x).setCell ⟨g, 1, none⟩ y) := (h.setCell hg x).setCell hg y
end
end Go.Proofs.YthlilfdndpnbkaaGreatDoor
