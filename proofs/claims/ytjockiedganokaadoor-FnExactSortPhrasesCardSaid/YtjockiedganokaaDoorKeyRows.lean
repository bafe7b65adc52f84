/-
  Rows of keys: what a walk holds of the slice of keys that impl.keysOf makes.
-/
import Derived.Test.YtjockiedganokaaDoorKeyOf
import Derived.Test.YtjockiedganokaaDoorArePh
import Derived.Test.YtjockiedganokaaDoorConcat
import Derived.Test.YtjockiedganokaaDoorWithin
namespace Go.Proofs.YtjockiedganokaaDoor
set_option linter.unusedVariables false
open Go.RowKit

/-- The slice v holds the key k in a block that is not g. -/
def KeyAt (w : World) (g : Nat) (v : Value) (k : List Int) : Prop :=
  ∃ b c, v = .slice (some ⟨b, 0, none⟩) k.length c ∧ b ≠ g ∧ b < w.heap.size ∧ k.length ≤ c ∧ c ≤ maxLen ∧ ∀ (j : Nat) x, k[j]? = some x → w.cell? ⟨b, j, none⟩ = some (.int .i64 x)
def KeysAt (w : World) (g : Nat) (vs : List Value) (ks : List (List Int)) : Prop :=
  vs.length = ks.length ∧ ∀ (j : Nat) v k, vs[j]? = some v → ks[j]? = some k → KeyAt w g v k
theorem KeyAt.kept {w w' : World} {g : Nat} {v : Value} {k : List Int} (h : KeyAt w g v k) (hs : w.heap.size ≤ w'.heap.size) (hb : ∀ b, b < w.heap.size → b ≠ g → w'.heap[b]? = w.heap[b]?) : KeyAt w' g v k := by
  obtain ⟨b, c, h1, h2, h3, h4, h5, h6⟩ := h
  exact ⟨b, c, h1, h2, Nat.lt_of_lt_of_le h3 hs, h4, h5, fun j x hx => (cell_blk (hb b h3 h2) j).trans (h6 j x hx)⟩
theorem KeyAt.below {w w' : World} {g : Nat} {v : Value} {k : List Int} (h : KeyAt w g v k) (hb : Below w.heap.size w w') : KeyAt w' g v k := h.kept hb.size (fun b hl _ => hb.block b hl)
theorem KeysAt.kept {w w' : World} {g : Nat} {vs : List Value} {ks : List (List Int)} (h : KeysAt w g vs ks) (hs : w.heap.size ≤ w'.heap.size) (hb : ∀ b, b < w.heap.size → b ≠ g → w'.heap[b]? = w.heap[b]?) : KeysAt w' g vs ks :=
  ⟨h.1, fun j v k h1 h2 => (h.2 j v k h1 h2).kept hs hb⟩
theorem KeysAt.below {w w' : World} {g : Nat} {vs : List Value} {ks : List (List Int)} (h : KeysAt w g vs ks) (hb : Below w.heap.size w w') : KeysAt w' g vs ks := h.kept hb.size (fun b hl _ => hb.block b hl)
theorem KeyAt.of {w : World} {g B : Nat} {v : Value} {k : List Int} (h : w.ownsRow B 2 1 v k.length (intV k)) (hk : 0 < k.length) (hg : g < B) : KeyAt w g v k := by
  obtain ⟨b, c, rfl, h1, h2⟩ := World.ownsRow.form h hk
  rcases h.2 with ⟨he, _⟩ | ⟨g', cap, cur, hv, h3, h4, h5, h6, h7, h8⟩
  · cases he
  · obtain ⟨rfl, rfl⟩ : b = g' ∧ c = cap := by injection hv with e1 e2 e3; injection e1 with e1; injection e1 with e1; exact ⟨e1, e3⟩
    exact ⟨b, c, rfl, by omega, h2, h5, h6, fun j x hx => (h.cellAt j (by have := (List.getElem?_eq_some_iff.1 hx).1; omega)).trans (intV_at _ _ _ hx)⟩
/-- What impl.keysOf answers: a code and no keys, or a row of one's own that has them. -/
def codeK (xs ps : List ByteArray) (ig : List Int) (nl : Nat) : Int :=
  if alphaB xs && phrasesB ps then (if allW 0 ((xs.length : Int) - 1) ig then (if ps.all (canP xs) then (if 20 < nl then 3 else 0) else 4) else 2) else 1
def KeysPost (xs ps : List ByteArray) (ig : List Int) (nl : Nat) (w : World) (e : Ending) (w' : World) : Prop :=
  (codeK xs ps ig nl ≠ 0 ∧ e = .returned (.tuple #[.slice none 0 0, .int .i64 (codeK xs ps ig nl)]) ∧ Below w.heap.size w w') ∨
  (codeK xs ps ig nl = 0 ∧ ∃ (g : Nat) (vs : List Value), e = .returned (.tuple #[.slice (some ⟨g, 0, none⟩) ps.length ps.length, .int .i64 0]) ∧ w'.ownsRow w.heap.size 67 1 (.slice (some ⟨g, 0, none⟩) ps.length ps.length) ps.length vs ∧
    w.heap.size ≤ g ∧ g < w'.heap.size ∧ KeysAt w' g vs (ps.map (keyP xs)) ∧ Below w.heap.size w w')
theorem codeK_zero {xs ps : List ByteArray} {ig : List Int} {nl : Nat} (h : codeK xs ps ig nl = 0) : alphaB xs = true ∧ phrasesB ps = true ∧ allW 0 ((xs.length : Int) - 1) ig = true ∧ ps.all (canP xs) = true ∧ nl ≤ 20 := by
  unfold codeK at h
  split at h
  · rename_i h1
    rw [Bool.and_eq_true] at h1
    split at h
    · rename_i h2
      split at h
      · rename_i h3
        split at h
        · cases h
        · rename_i h4
          exact ⟨h1.1, h1.2, h2, h3, by omega⟩
      · cases h
    · cases h
  · cases h
theorem key_pos (xs : List ByteArray) (s : ByteArray) (h : phraseB s = true) (hc : canP xs s = true) : 0 < (keyP xs s).length := by
  obtain ⟨w, i, _, _, h3, _⟩ := key_first xs s h hc
  exact (List.getElem?_eq_some_iff.1 h3).1
end Go.Proofs.YtjockiedganokaaDoor
