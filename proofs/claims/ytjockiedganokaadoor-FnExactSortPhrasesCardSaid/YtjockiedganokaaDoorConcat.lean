/-
  The contracts of slices.Grow and slices.Concat at slices of texts.
-/
import Derived.Test.YtjockiedganokaaDoorSl
import Derived.Test.YtjockiedganokaaDoorSplit
import Derived.Test.YtjockiedganokaaDoorTexts
import Derived.ArgAppend
import Derived.Laws.AppendOwnNone
namespace Go.Proofs.YtjockiedganokaaDoor
set_option linter.unusedVariables false
open Go.RowKit

theorem cGrowT (k : Nat) (w : World) (hk : k ≤ 4194304) :
    Calls Tryd.prog 103 #[.slice none 0 0, .int .i64 k] w fun e w' => (∃ A c, e = .returned (.slice A 0 c) ∧ w'.ownsRow w.heap.size 9 1 (.slice A 0 c) 0 []) ∧ Below w.heap.size w w' := by
  obtain ⟨i0, hi0, hz0, hz1, hz2⟩ := info_parts info_str
  rcases Nat.eq_zero_or_pos k with rfl | hp
  · have h := Any8.slices_Grow_room Tryd.growT none 0 0 0 w (Nat.le_refl _) (by omega) (by omega) (by omega)
    change Calls Tryd.prog 103 _ _ _ at h
    refine h.mono ?_
    rintro e w' ⟨rfl, rfl⟩
    exact ⟨⟨none, 0, rfl, World.ownsRow_nil _ _ _ _⟩, Below.refl _ _⟩
  · have h := Any8.slices_Grow_grow Tryd.growT i0 (.string ByteArray.empty) hi0 hz0 (by omega) none 0 0 k [] w (Nat.le_refl _) (by omega) (by rw [hz2]; omega) (by omega) (by simp) (fun _ => rfl) (fun a ha => by cases ha)
    change Calls Tryd.prog 103 _ _ _ at h
    refine h.mono ?_
    rintro e w' ⟨rfl, rfl⟩
    have h1 := grownCap_ge w (0 + k) 0 9
    have h2 := grownCap_le_maxLen w (0 + k) 0 9 (by unfold maxLen; omega)
    refine ⟨⟨_, _, rfl, ?_⟩, (Below.refl _ _).drew.alloc (Nat.le_refl _) _⟩
    refine World.ownsRow_made w.drew _ _ (Nat.le_refl _) h2 ?_
    change ((#[] : Array Value) ++ Builtin.zeroCells (Value.string ByteArray.empty).cells (0 + k - 0) ++ Builtin.zeroCells (Value.string ByteArray.empty).cells (grownCap w (0 + k) 0 9 - (0 + k))).size = grownCap w (0 + k) 0 9 * 1
    rw [Array.size_append, Array.size_append, size_zeroCells, size_zeroCells]
    have h3 : (Value.string ByteArray.empty).cells.size = 1 := rfl
    rw [h3]
    generalize grownCap w (0 + k) 0 9 = G at h1 h2 ⊢
    simp; omega

/-- A slice of texts: nil, or with cells in a block that is there. -/
def SrcT (w : World) (A : Option Addr) (n cap : Nat) (xs : List ByteArray) : Prop :=
  (A = none ∧ n = 0 ∧ cap = 0 ∧ xs = []) ∨ ∃ b o, A = some ⟨b, o, none⟩ ∧ b < w.heap.size ∧ n = xs.length ∧ ∀ (j : Nat) x, xs[j]? = some x → w.cell? ⟨b, o + j, none⟩ = some (.string x)
theorem SrcT.len {w : World} {A : Option Addr} {n cap : Nat} {xs : List ByteArray} (h : SrcT w A n cap xs) : n = xs.length := by
  rcases h with ⟨_, rfl, _, rfl⟩ | ⟨_, _, _, _, h, _⟩
  · rfl
  · exact h
theorem SrcT.below {w w' : World} {A : Option Addr} {n cap : Nat} {xs : List ByteArray} (h : SrcT w A n cap xs) (hb : Below w.heap.size w w') : SrcT w' A n cap xs := by
  rcases h with h | ⟨b, o, h1, h2, h3, h4⟩
  · exact .inl h
  · exact .inr ⟨b, o, h1, Nat.lt_of_lt_of_le h2 hb.size, h3, fun j x hx => (hb.cell (by exact h2)).trans (h4 j x hx)⟩
theorem SrcT.at {w : World} {A : Option Addr} {n cap : Nat} {xs : List ByteArray} (h : SrcT w A n cap xs) : TextAt w w.heap.size A n xs := by
  rcases h with ⟨_, rfl, _, rfl⟩ | ⟨b, o, h1, h2, h3, h4⟩
  · exact ⟨rfl, fun h => absurd h (by omega)⟩
  · exact ⟨h3, fun _ => ⟨b, o, h1, h2, h4⟩⟩
theorem wpList_append_src {ops : Array Oper} {rest : List Oper} {o : Oper} {a : Act} {w : World} {Q : Exit → Act → World → Prop} (hgd : o.guard = none) (s x : Operand)
    (ho : o.op = .call { callee := .builtin .append, args := #[s, x], argTypes := #[24, 24] }) (base : Nat) (v : Value) (n : Nat) (xs : List ByteArray) (hs : a.eval s = v) (hown : w.ownsRow base 9 1 v n (strV xs))
    (A : Option Addr) (m c : Nat) (ys : List ByteArray) (hx : a.eval x = .slice A m c) (hsrc : SrcT w A m c ys) (hbig : n + m ≤ 4194304) (hbase : base ≤ w.heap.size)
    (h : ∀ v' w', w'.ownsRow base 9 1 v' (n + m) (strV (xs ++ ys)) → w.grownBy w' v.ownBlock → wpList Tryd.prog ops Q rest (a.put o.dst v') w') : wpList Tryd.prog ops Q (o :: rest) a w := by
  obtain ⟨i0, hi0, hz0, hz1, hz2⟩ := info_parts info_str
  rcases hsrc with ⟨rfl, rfl, rfl, rfl⟩ | ⟨b, off, rfl, hb, hn, hc⟩
  · refine wpList_append_own_none hgd s x 24 ho base 9 i0 1 Tryd.underlying24 hi0 v n (strV xs) hs hown hx ?_
    exact h v w (by simpa using hown) (World.grownBy.refl _ _)
  · refine wpList_append_own _ hgd s x 24 ho base 9 i0 _ 1 16 Tryd.underlying24 hi0 hz0 hz1 hz2 rfl (by decide) v n (strV xs) hs hown ⟨b, off, none⟩ m c (strV ys) hx (by rw [strV_len, Nat.mul_one, hn]) ?_ ?_ (by unfold maxLen; omega) (by omega) hbase ?_
    · intro j u hu
      unfold strV at hu
      rw [List.getElem?_map] at hu
      obtain ⟨y, hy, rfl⟩ : ∃ y, ys[j]? = some y ∧ Value.string y = u := by
        cases e : ys[j]? with
        | none => rw [e] at hu; cases hu
        | some y => rw [e] at hu; exact ⟨y, rfl, by simpa using hu⟩
      rw [Addr.add_lit]; exact hc j y hy
    · intro u hu
      unfold strV at hu
      rw [List.mem_map] at hu
      obtain ⟨y, _, rfl⟩ := hu; rfl
    · intro v' w' h1 h2 _
      exact h v' w' (by rw [show strV (xs ++ ys) = strV xs ++ strV ys from by simp [strV]]; exact h1) h2
theorem str_form {w : World} {b n : Nat} {v : Value} {xs : List Value} (h : w.ownsRow b 9 1 v n xs) : ∃ A c, v = .slice A n c := by
  rcases h.2 with ⟨rfl, h0⟩ | ⟨g, cap, cur, rfl, _⟩
  · exact ⟨none, 0, by rw [h0]⟩
  · exact ⟨_, _, rfl⟩

set_option maxHeartbeats 2000000 in
set_option maxRecDepth 100000 in
theorem cConcat (G n n' cap cap' : Nat) (A A' : Option Addr) (xs ys : List ByteArray) (w : World) (hbig : n ≤ 1048576) (hbig' : n' ≤ 1048576) (hG : G < w.heap.size) (g0 : w.cell? ⟨G, 0, none⟩ = some (.slice A n cap)) (g1 : w.cell? ⟨G, 1, none⟩ = some (.slice A' n' cap')) (h : SrcT w A n cap xs) (h' : SrcT w A' n' cap' ys) :
    Calls Tryd.prog 69 #[.slice (some ⟨G, 0, none⟩) 2 2] w fun e w' => (∃ C c, e = .returned (.slice C (n + n') c) ∧ w'.ownsRow w.heap.size 9 1 (.slice C (n + n') c) (n + n') (strV (xs ++ ys))) ∧ Below w.heap.size w w' := by
  have H := Lib.hid h
  have H' := Lib.hid h'
  have HG0 := Lib.hid g0
  have HG1 := Lib.hid g1
  have u1 : (0 : Int) ≤ (n : Int) := Int.natCast_nonneg _
  have u2 : (0 : Int) ≤ (n' : Int) := Int.natCast_nonneg _
  clear h h'
  go_enter Tryd.func69, Tryd.ntmps69
  go_wp2_with fail
  refine wp_loop_rounds 3 ?_
  rw [rounds_succ]
  go_wp2_with fail
  rw [rounds_succ]
  go_wp2_with fail
  rw [rounds_succ]
  go_wp2_with fail
  have hg := cGrowT (n + n') w (by omega)
  rw [show ((n + n' : Nat) : Int) = (n : Int) + (n' : Int) by omega] at hg
  refine hg.mono ?_
  rintro e w1 ⟨⟨C, c, rfl, hown⟩, hb1⟩
  have k0 := (hb1.cell (p := ⟨G, 0, none⟩) hG).trans HG0.out
  have k1 := (hb1.cell (p := ⟨G, 1, none⟩) hG).trans HG1.out
  have HS1 := Lib.hid (H.out.below hb1)
  have own0 : w1.ownsRow w.heap.size 9 1 (.slice C 0 c) 0 (strV []) := hown
  clear hg g0 g1
  go_wp2_with fail
  refine wp_loop_rounds 3 ?_
  rw [rounds_succ]
  go_wp2_with (at_builtin; refine wpList_append_src rfl _ _ rfl w.heap.size _ 0 [] rfl own0 A n cap xs rfl HS1.out (by omega) hb1.size ?_)
  intro v2 w2 hown2 hgrow2
  try rw [Nat.zero_add] at hown2
  obtain ⟨C2, c2, rfl⟩ := str_form hown2
  have hb2 := hb1.grown hgrow2 hb1.size (fun k hk => (hown.lt k hk).1)
  have m0 := (hb2.cell (p := ⟨G, 0, none⟩) hG).trans HG0.out
  have m1 := (hb2.cell (p := ⟨G, 1, none⟩) hG).trans HG1.out
  have HS2 := Lib.hid (H'.out.below hb2)
  clear k0 k1 hown own0
  go_wp2_with fail
  rw [rounds_succ]
  go_wp2_with (at_builtin; refine wpList_append_src rfl _ _ rfl w.heap.size _ n _ rfl hown2 A' n' cap' ys rfl HS2.out (by omega) hb2.size ?_)
  intro v3 w3 hown3 hgrow3
  try rw [List.nil_append] at hown3
  obtain ⟨C3, c3, rfl⟩ := str_form hown3
  have hb3 := hb2.grown hgrow3 hb2.size (fun k hk => (hown2.lt k hk).1)
  clear m0 m1 hown2
  go_wp2_with fail
  rw [rounds_succ]
  go_wp2_with fail
  go_ret
  exact ⟨⟨C3, c3, rfl, hown3⟩, hb3⟩
end Go.Proofs.YtjockiedganokaaDoor
