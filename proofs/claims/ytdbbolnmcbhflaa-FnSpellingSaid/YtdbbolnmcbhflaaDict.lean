/-
  The map of an alphabet: block b is a map that has just the texts xs as keys, each with its place in xs.
-/
import Derived.Test.YtdbbolnmcbhflaaAlphaS
import Derived.Maps.OwnSet
import Derived.StringKeys
import Derived.OwnWalk
namespace Go.Proofs.Ytdbbolnmcbhflaa
set_option linter.unusedVariables false
open Go.RowKit Go.Maps Go.WideMaps

theorem dict_law : Keyed Try.prog 9 := string_keyed Try.underlying9
theorem zero_int (w : World) : (zeroValue 2).run Try.prog w = .ok (.int .i64 0) w := by kernel_rfl
def keyL (x : ByteArray) : Lit := .string x.data.toList
theorem keyL_inj {x y : ByteArray} (h : keyL x = keyL y) : x = y := by
  unfold keyL at h; exact ByteArray.ext (Array.toList_inj.1 (by simpa using h))
def numL (n : Int) : DataW Unit := .lit (.int .i64 n)
/-- What a look-up yields. -/
def lookI (xs : List ByteArray) (x : ByteArray) : Int := if x ∈ xs then (posL xs x : Int) else 0
def DictD (D : DataW Unit) (xs : List ByteArray) : Prop := IsMap D ∧ ∀ x : ByteArray, x.size ≤ maxLen → Maps.has D (keyL x) = decide (x ∈ xs) ∧ D.atKey (keyL x) (numL 0) = numL (lookI xs x)
def Dict (w : World) (b : Nat) (xs : List ByteArray) : Prop := ∃ D : DataW Unit, w.ownsMap Try.prog 9 (plainElem Try.prog 2) b xs.length D ∧ DictD D xs

theorem dict_key (x : ByteArray) (h : x.size ≤ maxLen) : keyOf Try.prog 9 (.string x) = some (keyL x) := keyOf_string_mk Try.underlying9 h
theorem Dict.lt {w : World} {b : Nat} {xs : List ByteArray} (h : Dict w b xs) : b < w.heap.size := by obtain ⟨D, h, _⟩ := h; exact h.lt
theorem Dict.kept {w w' : World} {b : Nat} {xs : List ByteArray} {row : Option Nat} (h : Dict w b xs) (hg : w.grownBy w' row) (hne : some b ≠ row) : Dict w' b xs := by
  obtain ⟨D, h, hD⟩ := h; exact ⟨D, h.kept hg hne, hD⟩
theorem Dict.below {w w' : World} {b : Nat} {xs : List ByteArray} (h : Dict w b xs) (hb : Below w.heap.size w w') : Dict w' b xs :=
  h.kept (row := none) ⟨hb.os, hb.tape, hb.output, hb.size, fun k hk _ => hb.block k hk⟩ (by simp)
theorem Dict.alloc {w : World} {b : Nat} {xs : List ByteArray} (h : Dict w b xs) (o : Obj) : Dict (w.alloc o) b xs := by
  obtain ⟨D, h, hD⟩ := h; exact ⟨D, h.alloc o, hD⟩
theorem Dict.made (w : World) : Dict (w.alloc (.map #[] 0)) w.heap.size [] :=
  ⟨.map [], World.ownsMap_made _ _ _ _, isMap_empty, fun x _ => ⟨by simp [Maps.has], by simp [DataW.atKey, lookI]⟩⟩

/-- 'v, ok := m[x]'. -/
theorem Dict.look {w : World} {b : Nat} {xs : List ByteArray} (h : Dict w b xs) (x : ByteArray) (hx : x.size ≤ maxLen) :
    (Instr.lookup 55 (.map (some b)) (.string x) true).run Try.prog w = .ok (.tuple #[.int .i64 (lookI xs x), .bool (decide (x ∈ xs))]) w := by
  obtain ⟨D, h, hm, hD⟩ := h
  obtain ⟨v, ps, hrun, hv⟩ := h.look_ok dict_law Try.underlying55 (zero_int w) (plainElem_int Try.underlying2 (by decide)) (dict_key x hx)
  obtain ⟨h1, h2⟩ := hD x hx
  rw [show (DataW.lit (.int .i64 0) : DataW Unit) = numL 0 from rfl, h2] at hv
  obtain ⟨c, rfl, hc, hwc⟩ := plainElem_int_inv Try.underlying2 hv
  have hc' : lookI xs x = c := by
    have := congrArg Prod.fst hc
    simpa [numL] using this
  rw [hrun, h1, hc']
/-- 'm[x]'. -/
theorem Dict.look0 {w : World} {b : Nat} {xs : List ByteArray} (h : Dict w b xs) (x : ByteArray) (hx : x.size ≤ maxLen) :
    (Instr.lookup 55 (.map (some b)) (.string x) false).run Try.prog w = .ok (.int .i64 (lookI xs x)) w := by
  obtain ⟨D, h, hm, hD⟩ := h
  obtain ⟨c, hrun, hat, _⟩ := h.lookup_int dict_law Try.underlying55 Try.underlying2 (zero_int w) (dict_key x hx)
  have h2 := (hD x hx).2
  unfold numL at h2
  rw [hat] at h2
  have hc' : lookI xs x = c := by simpa using h2.symm
  rw [hrun, hc']

theorem look_step (xs : List ByteArray) (k : Nat) (x y : ByteArray) (h : xs[k]? = some x) (hn : x ∉ xs.take k) : lookI (xs.take (k + 1)) y = if y = x then (k : Int) else lookI (xs.take k) y := by
  have hk : k < xs.length := (List.getElem?_eq_some_iff.1 h).1
  rw [take_snocL h]
  have key : ∀ (a : List ByteArray), y ∈ a → posL (a ++ [x]) y = posL a y := by
    intro a
    induction a with
    | nil => intro h; simp at h
    | cons z a ih =>
      intro h
      simp only [List.cons_append, posL]
      by_cases e : z = y
      · simp [e]
      · rw [if_neg e, if_neg e, ih (by rcases List.mem_cons.1 h with h | h
                                       · exact absurd h.symm e
                                       · exact h)]
  by_cases hy : y = x
  · subst hy
    rw [if_pos rfl]
    unfold lookI
    rw [if_pos (by simp)]
    have := pos_at (xs.take k ++ [y]) k y (by rw [List.getElem?_append_right (by simp; omega)]; simp; rw [Nat.min_eq_left (by omega)]; simp) (by rw [List.take_append_of_le_length (by simp; omega), List.take_take, Nat.min_self]; exact hn)
    rw [this]
  · rw [if_neg hy]
    unfold lookI
    by_cases hm : y ∈ xs.take k
    · rw [if_pos hm, if_pos (by simp [hm]), key _ hm]
    · rw [if_neg hm, if_neg (by rw [List.mem_append, List.mem_singleton]; rintro (h | h); exact hm h; exact hy h)]
theorem isKey_keyL (x : ByteArray) (h : x.size ≤ maxLen) : WideAt.IsKeyLit (keyL x) := by
  exact trivial
theorem dictD_step {D : DataW Unit} (xs : List ByteArray) (k : Nat) (x : ByteArray) (hD : DictD D (xs.take k)) (h : xs[k]? = some x) (hn : x ∉ xs.take k) (hx : x.size ≤ maxLen) : DictD (D.put (keyL x) (numL k)) (xs.take (k + 1)) := by
  refine ⟨hD.1.put _ _, fun y hy => ?_⟩
  rw [look_step xs k x y h hn]
  by_cases e : y = x
  · subst e
    rw [if_pos rfl, has_put_same hD.1 (isKey_keyL y hx), atKey_put_same hD.1 (isKey_keyL y hx)]
    exact ⟨by rw [decide_eq_true]; rw [take_snocL h]; simp, rfl⟩
  · have hne : keyL y ≠ keyL x := fun hh => e (keyL_inj hh)
    rw [if_neg e, has_put_other hne, atKey_put_other hne]
    refine ⟨?_, (hD.2 y hy).2⟩
    rw [(hD.2 y hy).1, decide_eq_decide, take_snocL h, List.mem_append, List.mem_singleton]
    exact ⟨.inl, fun hh => hh.elim id (fun h2 => absurd h2 e)⟩
end Go.Proofs.Ytdbbolnmcbhflaa
