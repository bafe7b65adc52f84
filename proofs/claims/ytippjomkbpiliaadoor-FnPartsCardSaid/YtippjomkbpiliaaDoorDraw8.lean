/-
  The draws of chapter 8: lists of generics, phrases with a generic.
-/
import Derived.Test.YtippjomkbpiliaaDoorDrawPh
import Derived.Test.YtippjomkbpiliaaDoorDrawPush
import Derived.Test.YtippjomkbpiliaaDoorPtPlain
import Derived.Test.YtippjomkbpiliaaDoorPt
namespace Go.Proofs.YtippjomkbpiliaaDoor
set_option linter.unusedVariables false
set_option linter.unusedSimpArgs false
open Go.RowKit

def gen5 : List ByteArray := [⟨#[114, 105, 118, 101, 114]⟩, ⟨#[102, 111, 114, 100]⟩, ⟨#[104, 105, 108, 108]⟩, ⟨#[108, 97, 107, 101]⟩, ⟨#[98, 97, 121]⟩]
theorem gen5_sz : ∀ x ∈ gen5, x.size ≤ 64 := by
  intro x hx
  simp only [gen5, List.mem_cons, List.not_mem_nil, or_false] at hx
  rcases hx with rfl | rfl | rfl | rfl | rfl <;> decide
theorem gen5_row (w : World) : TRow (w.alloc (.cells #[.string ⟨#[114, 105, 118, 101, 114]⟩, .string ⟨#[102, 111, 114, 100]⟩, .string ⟨#[104, 105, 108, 108]⟩, .string ⟨#[108, 97, 107, 101]⟩, .string ⟨#[98, 97, 121]⟩] 9)) w.heap.size 64 5 (.slice (some ⟨w.heap.size, 0, none⟩) 5 5) gen5 :=
  ⟨World.ownsRow_lit (e := 9) (base := w.heap.size) (size := 1) w #[.string ⟨#[114, 105, 118, 101, 114]⟩, .string ⟨#[102, 111, 114, 100]⟩, .string ⟨#[104, 105, 108, 108]⟩, .string ⟨#[108, 97, 107, 101]⟩, .string ⟨#[98, 97, 121]⟩] 5 (Nat.le_refl _) (by decide) rfl, gen5_sz⟩
theorem TRow.take {w : World} {lo m n g c : Nat} {xs : List ByteArray} (h : TRow w lo m n (.slice (some ⟨g, 0, none⟩) n c) xs) {q : Nat} (hq : q ≤ n) : TRow w lo m q (.slice (some ⟨g, 0, none⟩) q c) (xs.take q) :=
  ⟨by
    have h1 := own_prefix8 h.1 hq
    rw [Nat.mul_one] at h1
    rw [show strV (xs.take q) = (strV xs).take q from by unfold strV; rw [List.map_take]]
    exact h1, fun x hx => h.2 x (List.mem_of_mem_take hx)⟩
def GenPost (w : World) (B len : Nat) (e : Ending) (w' : World) : Prop := ∃ (A : Option Addr) (n c : Nat) (xs : List ByteArray), n ≤ 6 ∧ e = .returned (.slice A n c) ∧ TRow w' w.heap.size 64 n (.slice A n c) xs ∧ Src w' B len ∧ w.grownBy w' (some B)
theorem row3a (w : World) : TextRow (w.alloc (.cells #[.string ⟨#[102, 111, 114, 100]⟩, .string ⟨#[]⟩, .string ⟨#[109, 111, 117, 110, 116]⟩] 9)) w.heap.size 3 17 := by
  refine ⟨by simp, fun j hj => ?_⟩
  rw [World.cell?_alloc_at _ _ _ _ rfl]
  have h : j = 0 ∨ j = 1 ∨ j = 2 := by omega
  rcases h with rfl | rfl | rfl
  all_goals exact ⟨_, by decide, rfl⟩
theorem row3b (w : World) : TextRow (w.alloc (.cells #[.string ⟨#[114, 105, 118, 101, 114]⟩, .string ⟨#[102, 111, 114, 100]⟩, .string ⟨#[104, 105, 108, 108]⟩] 9)) w.heap.size 3 17 := by
  refine ⟨by simp, fun j hj => ?_⟩
  rw [World.cell?_alloc_at _ _ _ _ rfl]
  have h : j = 0 ∨ j = 1 ∨ j = 2 := by omega
  rcases h with rfl | rfl | rfl
  all_goals exact ⟨_, by decide, rfl⟩
theorem row3c (w : World) : TextRow (w.alloc (.cells #[.string ⟨#[108, 97, 107, 101]⟩, .string ⟨#[98, 97, 121]⟩, .string ⟨#[114, 105, 118, 101, 114]⟩] 9)) w.heap.size 3 17 := by
  refine ⟨by simp, fun j hj => ?_⟩
  rw [World.cell?_alloc_at _ _ _ _ rfl]
  have h : j = 0 ∨ j = 1 ∨ j = 2 := by omega
  rcases h with rfl | rfl | rfl
  all_goals exact ⟨_, by decide, rfl⟩
theorem row3d (w : World) : TextRow (w.alloc (.cells #[.string ⟨#[102, 111, 114, 100]⟩, .string ⟨#[114, 105, 118, 101, 114, 32, 102, 111, 114, 100]⟩, .string ⟨#[108, 97, 107, 101]⟩] 9)) w.heap.size 3 17 := by
  refine ⟨by simp, fun j hj => ?_⟩
  rw [World.cell?_alloc_at _ _ _ _ rfl]
  have h : j = 0 ∨ j = 1 ∨ j = 2 := by omega
  rcases h with rfl | rfl | rfl
  all_goals exact ⟨_, by decide, rfl⟩

set_option maxHeartbeats 2000000 in
set_option maxRecDepth 100000 in
theorem cGenD (B len : Nat) (w : World) (hlen : len ≤ 1048576) (h : Src w B len) :
    Calls Tryd.prog 27 #[.pointer (some ⟨B, 0, none⟩)] w (GenPost w B len) := by
  have hBl := h.lt
  have HO := Lib.hid (gen5_row w)
  have HG := Lib.hid (World.grownBy_alloc w (.cells #[.string ⟨#[114, 105, 118, 101, 114]⟩, .string ⟨#[102, 111, 114, 100]⟩, .string ⟨#[104, 105, 108, 108]⟩, .string ⟨#[108, 97, 107, 101]⟩, .string ⟨#[98, 97, 121]⟩] 9) (some B))
  have C0 := Lib.hid (cNext B len 12 _ hlen (by omega) (by omega) (h.alloc (.cells #[.string ⟨#[114, 105, 118, 101, 114]⟩, .string ⟨#[102, 111, 114, 100]⟩, .string ⟨#[104, 105, 108, 108]⟩, .string ⟨#[108, 97, 107, 101]⟩, .string ⟨#[98, 97, 121]⟩] 9)))
  clear h
  go_enter Tryd.func27, Tryd.ntmps27
  go_wp2_with fail
  refine C0.out.mono ?_
  rintro e w1 ⟨r, hr0, hr1, rfl, hS1, g1⟩
  have HO1 : Hid (TRow w1 w.heap.size 64 5 (.slice (some ⟨w.heap.size, 0, none⟩) 5 5) gen5) := Lib.hid (HO.out.kept g1 hBl)
  have HG1 := Lib.hid (HG.out.trans g1)
  have HS1 := Lib.hid hS1
  clear hS1 g1 hr1 C0 HO HG
  by_cases h0 : r = 0
  · have z0 : (r == 0) = true := by simp [h0]
    have C1 := Lib.hid (cNext B len 6 w1 hlen (by omega) (by omega) HS1.out)
    clear h0
    go_wp2_with fail
    refine C1.out.mono ?_
    rintro e w2 ⟨q0, hq0, hq1, rfl, hS2, g2⟩
    obtain ⟨q, rfl⟩ : ∃ q : Nat, q0 = q := ⟨q0.toNat, by omega⟩
    have hq : q ≤ 5 := by omega
    have hqi : (q : Int) ≤ 5 := by omega
    have HT := Lib.hid ((HO1.out.kept g2 hBl).take hq)
    have HG2 := Lib.hid (HG1.out.trans g2)
    have HS2 := Lib.hid hS2
    clear hS2 g2 hq1 C1
    go_wp2_with fail
    go_ret
    exact ⟨_, q, 5, _, by omega, rfl, HT.out, HS2.out, HG2.out⟩
  have z0 : (r == 0) = false := by rw [beq_eq_false_iff_ne]; exact h0
  by_cases h1 : r = 1
  · have z1 : (r == 1) = true := by simp [h1]
    have HR := Lib.hid (row3a w1)
    have gA := World.grownBy_alloc w1 (.cells #[.string ⟨#[102, 111, 114, 100]⟩, .string ⟨#[]⟩, .string ⟨#[109, 111, 117, 110, 116]⟩] 9) (some B)
    have C2 := Lib.hid (cNext B len 3 _ hlen (by omega) (by omega) (HS1.out.alloc (.cells #[.string ⟨#[102, 111, 114, 100]⟩, .string ⟨#[]⟩, .string ⟨#[109, 111, 117, 110, 116]⟩] 9)))
    have HGA := Lib.hid (HG1.out.trans gA)
    have HOA := Lib.hid (HO1.out.kept gA hBl)
    have hBl1 : B < w1.heap.size := Nat.lt_of_lt_of_le hBl HG1.out.size
    clear h0 h1 gA
    go_wp2_with fail
    refine C2.out.mono ?_
    rintro e w3 ⟨q0, hq0, hq1, rfl, hS3, g3⟩
    obtain ⟨q, rfl⟩ : ∃ q : Nat, q0 = q := ⟨q0.toNat, by omega⟩
    have hq : q < 3 := by omega
    obtain ⟨y, hy, hcy⟩ := (HR.out.kept g3 (by omega)).2 q hq
    have HG3 := Lib.hid (HGA.out.trans g3)
    have HO3 := Lib.hid (HOA.out.kept g3 hBl)
    have HS3 := Lib.hid hS3
    have hqn : (q : Int) < 3 := by omega
    clear hS3 g3 hq1 C2 HO1 HOA HR
    go_wp2_with (at_builtin; refine wpList_push_str rfl _ _ rfl w.heap.size _ 5 gen5 rfl (HO3.out.1.alloc _) w3.heap.size rfl y (new_one _ _ _) (by omega) (Nat.le_trans HG3.out.size (by simp)) ?_)
    intro A7 c7 w7 hown7 hgrow7
    have gB := World.grownBy_alloc w3 (.cells #[.string y] 9) (some B)
    have HT7 : Hid (TRow w7 w.heap.size 64 6 (.slice A7 6 c7) (gen5 ++ [y])) := Lib.hid ⟨hown7, fun x hx => by
      rcases List.mem_append.1 hx with h5 | h5
      · exact gen5_sz x h5
      · rw [List.mem_singleton] at h5; rw [h5]; omega⟩
    have HS7 := Lib.hid ((HS3.out.alloc (.cells #[.string y] 9)).own hgrow7 (own_gt HO3.out.1 hBl))
    have HG7 := Lib.hid (grown_ownB (HG3.out.trans gB) hgrow7 (own_lo HO3.out.1 (Nat.le_refl _)))
    clear hown7 hgrow7 gB
    go_wp2_with fail
    go_ret
    exact ⟨_, 6, _, _, by omega, rfl, HT7.out, HS7.out, HG7.out⟩
  have z1 : (r == 1) = false := by rw [beq_eq_false_iff_ne]; exact h1
  clear h0 h1
  go_wp2_with fail
  go_ret
  exact ⟨_, 5, 5, _, by omega, rfl, HO1.out, HS1.out, HG1.out⟩

set_option maxHeartbeats 2000000 in
set_option maxRecDepth 100000 in
theorem cPhraseD (B len : Nat) (w : World) (hlen : len ≤ 1048576) (h : Src w B len) :
    Calls Tryd.prog 28 #[.pointer (some ⟨B, 0, none⟩)] w (TextPost 3000 w B len) := by
  have hBl := h.lt
  have C0 := Lib.hid (cDrawPhrase B len w hlen h)
  have hs1 : (⟨#[32]⟩ : ByteArray).size = 1 := rfl
  have HSZ : Hid (∀ a b : ByteArray, a.size ≤ 2000 → b.size ≤ 2000 → (a ++ ⟨#[32]⟩ ++ b).size ≤ a.size + b.size + 1) := Lib.hid (fun a b _ _ => by rw [ByteArray.size_append, ByteArray.size_append]; omega)
  clear h hs1
  go_enter Tryd.func28, Tryd.ntmps28
  go_wp2_with fail
  refine C0.out.mono ?_
  rintro e w1 ⟨t, ht, rfl, hS1, g1⟩
  have C1 := Lib.hid (cNext B len 4 w1 hlen (by omega) (by omega) hS1)
  clear hS1 C0
  go_wp2_with fail
  refine C1.out.mono ?_
  rintro e w2 ⟨r, hr0, hr1, rfl, hS2, g2⟩
  have HG2 := Lib.hid (g1.trans g2)
  have HS2 := Lib.hid hS2
  have hl2 := hS2.lt
  clear hS2 g1 g2 hr1 C1
  by_cases h0 : r = 0
  · have z0 : (r == 0) = true := by simp [h0]
    have HR := Lib.hid (row3b w2)
    have gA := World.grownBy_alloc w2 (.cells #[.string ⟨#[114, 105, 118, 101, 114]⟩, .string ⟨#[102, 111, 114, 100]⟩, .string ⟨#[104, 105, 108, 108]⟩] 9) (some B)
    have C2 := Lib.hid (cNext B len 3 _ hlen (by omega) (by omega) (HS2.out.alloc (.cells #[.string ⟨#[114, 105, 118, 101, 114]⟩, .string ⟨#[102, 111, 114, 100]⟩, .string ⟨#[104, 105, 108, 108]⟩] 9)))
    have HGA := Lib.hid (HG2.out.trans gA)
    clear h0 gA
    go_wp2_with fail
    refine C2.out.mono ?_
    rintro e w3 ⟨q0, hq0, hq1, rfl, hS3, g3⟩
    obtain ⟨q, rfl⟩ : ∃ q : Nat, q0 = q := ⟨q0.toNat, by omega⟩
    have hq : q < 3 := by omega
    obtain ⟨y, hy, hcy⟩ := (HR.out.kept g3 (by omega)).2 q hq
    have HG3 := Lib.hid (HGA.out.trans g3)
    have HS3 := Lib.hid hS3
    have hqn : (q : Int) < 3 := by omega
    clear hS3 g3 hq1 C2
    go_wp2_with fail
    go_ret
    exact ⟨t ++ ⟨#[32]⟩ ++ y, by have := HSZ.out t y (by omega) (by omega); omega, rfl, HS3.out, HG3.out⟩
  have z0 : (r == 0) = false := by rw [beq_eq_false_iff_ne]; exact h0
  by_cases h1 : r = 1
  · have z1 : (r == 1) = true := by simp [h1]
    have HR := Lib.hid (row3c w2)
    have gA := World.grownBy_alloc w2 (.cells #[.string ⟨#[108, 97, 107, 101]⟩, .string ⟨#[98, 97, 121]⟩, .string ⟨#[114, 105, 118, 101, 114]⟩] 9) (some B)
    have C2 := Lib.hid (cNext B len 3 _ hlen (by omega) (by omega) (HS2.out.alloc (.cells #[.string ⟨#[108, 97, 107, 101]⟩, .string ⟨#[98, 97, 121]⟩, .string ⟨#[114, 105, 118, 101, 114]⟩] 9)))
    have HGA := Lib.hid (HG2.out.trans gA)
    clear h0 h1 gA
    go_wp2_with fail
    refine C2.out.mono ?_
    rintro e w3 ⟨q0, hq0, hq1, rfl, hS3, g3⟩
    obtain ⟨q, rfl⟩ : ∃ q : Nat, q0 = q := ⟨q0.toNat, by omega⟩
    have hq : q < 3 := by omega
    obtain ⟨y, hy, hcy⟩ := (HR.out.kept g3 (by omega)).2 q hq
    have HG3 := Lib.hid (HGA.out.trans g3)
    have HS3 := Lib.hid hS3
    have hqn : (q : Int) < 3 := by omega
    clear hS3 g3 hq1 C2
    go_wp2_with fail
    go_ret
    exact ⟨y ++ ⟨#[32]⟩ ++ t, by have := HSZ.out y t (by omega) (by omega); omega, rfl, HS3.out, HG3.out⟩
  have z1 : (r == 1) = false := by rw [beq_eq_false_iff_ne]; exact h1
  by_cases h2 : r = 2
  · have z2 : (r == 2) = true := by simp [h2]
    have HR := Lib.hid (row3d w2)
    have gA := World.grownBy_alloc w2 (.cells #[.string ⟨#[102, 111, 114, 100]⟩, .string ⟨#[114, 105, 118, 101, 114, 32, 102, 111, 114, 100]⟩, .string ⟨#[108, 97, 107, 101]⟩] 9) (some B)
    have C2 := Lib.hid (cNext B len 3 _ hlen (by omega) (by omega) (HS2.out.alloc (.cells #[.string ⟨#[102, 111, 114, 100]⟩, .string ⟨#[114, 105, 118, 101, 114, 32, 102, 111, 114, 100]⟩, .string ⟨#[108, 97, 107, 101]⟩] 9)))
    have HGA := Lib.hid (HG2.out.trans gA)
    clear h0 h1 h2 gA
    go_wp2_with fail
    refine C2.out.mono ?_
    rintro e w3 ⟨q0, hq0, hq1, rfl, hS3, g3⟩
    obtain ⟨q, rfl⟩ : ∃ q : Nat, q0 = q := ⟨q0.toNat, by omega⟩
    have hq : q < 3 := by omega
    obtain ⟨y, hy, hcy⟩ := (HR.out.kept g3 (by omega)).2 q hq
    have HG3 := Lib.hid (HGA.out.trans g3)
    have HS3 := Lib.hid hS3
    have hqn : (q : Int) < 3 := by omega
    clear hS3 g3 hq1 C2
    go_wp2_with fail
    go_ret
    exact ⟨y, by omega, rfl, HS3.out, HG3.out⟩
  have z2 : (r == 2) = false := by rw [beq_eq_false_iff_ne]; exact h2
  clear h0 h1 h2
  go_wp2_with fail
  go_ret
  exact ⟨t, by omega, rfl, HS2.out, HG2.out⟩
end Go.Proofs.YtippjomkbpiliaaDoor
