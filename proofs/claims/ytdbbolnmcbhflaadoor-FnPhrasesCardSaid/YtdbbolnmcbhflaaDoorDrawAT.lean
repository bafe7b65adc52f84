/-
  The contracts of spec.DrawAlphabetText and spec.DrawReadAlphabet.
-/
import Derived.Test.YtdbbolnmcbhflaaDoorDrawAl2
import Derived.Test.YtdbbolnmcbhflaaDoorDamage
import Derived.Test.YtdbbolnmcbhflaaDoorTextD
import Derived.Test.YtdbbolnmcbhflaaDoorJoin
namespace Go.Proofs.YtdbbolnmcbhflaaDoor
set_option linter.unusedVariables false
open Go.RowKit

theorem CodeIn.below {w w' : World} {A : Option Addr} {len : Nat} (h : CodeIn w A len) (hb : Below w.heap.size w w') : CodeIn w' A len := fun hp => by
  obtain ⟨b, o, hA, hlt, hc⟩ := h hp
  refine ⟨b, o, hA, Nat.lt_of_lt_of_le hlt hb.size, fun j hj => ?_⟩
  obtain ⟨z, h0, h1, h2⟩ := hc j hj
  exact ⟨z, h0, h1, (hb.cell (by exact hlt)).trans h2⟩
theorem below_of_src {w w1 w2 : World} (h : Below w.heap.size w w1) (hg : w1.grownBy w2 (some w.heap.size)) : Below w.heap.size w w2 := h.grown hg h.size (fun k hk => by cases hk; exact Nat.le_refl _)
theorem TRow.textAt {w : World} {lo m n c : Nat} {A : Option Addr} {xs : List ByteArray} (h : TRow w lo m n (.slice A n c) xs) : TextAt w w.heap.size A n xs :=
  ⟨h.len, fun hp => by
    obtain ⟨g, cc, hv, _, hgl⟩ := World.ownsRow.form h.1 hp
    obtain ⟨rfl, rfl⟩ : A = some ⟨g, 0, none⟩ ∧ c = cc := by injection hv with h1 h2 h3; exact ⟨h1, h3⟩
    exact ⟨g, 0, rfl, hgl, fun j x hx => by rw [Nat.zero_add]; exact (World.ownsRow.cellAt h.1 j (by have := (List.getElem?_eq_some_iff.1 hx).1; have := h.len; omega)).trans (strV_at _ _ _ hx)⟩⟩
/-- The capacity is no less than the length. -/
theorem TRow.cap {w : World} {lo m n c : Nat} {A : Option Addr} {xs : List ByteArray} (h : TRow w lo m n (.slice A n c) xs) : n ≤ c := by
  rcases h.1.2 with ⟨h1, h2⟩ | ⟨g1, cap1, cur, h1, h2, h3, h4, _⟩
  · omega
  · injection h1 with e1 e2 e3; omega
def RowsPost (w : World) (e : Ending) (w' : World) : Prop := ∃ (A : Option Addr) (n c : Nat) (xs : List ByteArray), n ≤ 60 ∧ n ≤ c ∧ (∀ x ∈ xs, x.size ≤ maxLen) ∧ e = .returned (.slice A n c) ∧ TextAt w' w'.heap.size A n xs ∧ Below w.heap.size w w'
def StrPost (w : World) (e : Ending) (w' : World) : Prop := ∃ t : ByteArray, t.size ≤ 1000000 ∧ e = .returned (.string t) ∧ Below w.heap.size w w'

set_option maxHeartbeats 1000000 in
theorem cDrawAT (A : Option Addr) (len cap : Nat) (w : World) (hlen : len ≤ 1048576) (h : CodeIn w A len) :
    Calls Tryd.prog 29 #[.slice A len cap] w (RowsPost w) := by
  have C0 := Lib.hid (cFrom A len cap w hlen h)
  clear h
  go_enter Tryd.func29, Tryd.ntmps29
  go_wp2_with fail
  refine C0.out.mono ?_
  rintro e w1 ⟨rfl, hS1, hb1⟩
  have C1 := Lib.hid (cAlDraw w.heap.size len w1 hlen hS1)
  clear hS1 C0
  go_wp2_with fail
  refine C1.out.mono ?_
  rintro e w2 ⟨v, n, xs, hn, rfl, hT, _, g2⟩
  obtain ⟨A1, c1, hv⟩ := hT.form
  subst hv
  have HP := Lib.hid (show RowsPost w (.returned (.slice A1 n c1)) w2 from ⟨A1, n, c1, xs, hn, hT.cap, fun x hx => by have := hT.2 x hx; unfold maxLen; omega, rfl, hT.textAt, below_of_src hb1 g2⟩)
  clear hT g2 hb1 C1
  go_wp2_with fail
  go_ret
  exact HP.out

theorem joinB_size (xs : List ByteArray) (h : ∀ x ∈ xs, x.size ≤ 64) : (joinB xs).size ≤ xs.length * 65 := by
  have h1 := join_len (xs.map (·.data.toList)) (by
    intro y hy
    rw [List.mem_map] at hy
    obtain ⟨z, hz, rfl⟩ := hy
    have h2 := h z hz
    have h3 := size_list z
    omega)
  rw [List.length_map] at h1
  have h2 := size_list (joinB xs)
  rw [joinB_data] at h2
  omega

set_option maxHeartbeats 1000000 in
theorem cDrawRA (A : Option Addr) (len cap : Nat) (w : World) (hlen : len ≤ 1048576) (h : CodeIn w A len) :
    Calls Tryd.prog 32 #[.slice A len cap] w (StrPost w) := by
  have C0 := Lib.hid (cFrom A len cap w hlen h)
  clear h
  go_enter Tryd.func32, Tryd.ntmps32
  go_wp2_with fail
  refine C0.out.mono ?_
  rintro e w1 ⟨rfl, hS1, hb1⟩
  have C1 := Lib.hid (cAlGood w.heap.size len w1 hlen hS1)
  clear hS1 C0
  go_wp2_with fail
  refine C1.out.mono ?_
  rintro e w2 ⟨v, n, xs, hn0, hn, rfl, hT, hS2, g2⟩
  obtain ⟨g, c, hv, _, hgl⟩ := World.ownsRow.form hT.1 hn0
  subst hv
  have hb2 := below_of_src hb1 g2
  have CW := Lib.hid (cWords g 0 c n xs w2 hT.len (by omega) hT.2 (fun j x hx => by rw [Nat.zero_add]; exact (hT.1.cellAt j (by have := (List.getElem?_eq_some_iff.1 hx).1; have := hT.len; omega)).trans (strV_at _ _ _ hx)))
  have hjs := joinB_size xs hT.2
  have hnl := hT.len
  obtain ⟨t, ht⟩ : ∃ t, t = joinB xs := ⟨_, rfl⟩
  rw [← ht] at CW hjs
  have hts : t.size ≤ 2000 := by omega
  have HS2 := Lib.hid hS2
  have B2 := Lib.hid hb2
  have C3 := Lib.hid (cNext w.heap.size len 3 w2 hlen (by omega) (by omega) hS2)
  clear hT hS2 g2 hb1 hb2 C1 hjs ht hnl
  go_wp2_with fail
  refine CW.out.mono ?_
  rintro e w' ⟨rfl, rfl⟩
  go_wp2_with fail
  refine C3.out.mono ?_
  rintro e w3 ⟨r, hr0, hr1, rfl, hS3, g3⟩
  have B3 := Lib.hid (below_of_src B2.out g3)
  have C4 := Lib.hid (cDamage w.heap.size len t w3 hlen (by omega) hS3)
  clear hS3 g3 hr1 C3
  by_cases h0 : r = 0
  · have z0 : (r == 0) = true := by simp [h0]
    clear h0
    go_wp2_with fail
    refine C4.out.mono ?_
    rintro e w4 ⟨u, hu, rfl, _, g4⟩
    have B4 := Lib.hid (below_of_src B3.out g4)
    clear g4 C4
    go_wp2_with fail
    go_ret
    exact ⟨u, by omega, rfl, B4.out⟩
  · have z0 : (r == 0) = false := by rw [beq_eq_false_iff_ne]; exact h0
    clear h0
    go_wp2_with fail
    go_ret
    exact ⟨t, by omega, rfl, B3.out⟩
end Go.Proofs.YtdbbolnmcbhflaaDoor
