/-
  Numbers joined by a separator: plain facts, and the contracts of spec.l01Join and impl.joinNumbers at any separator.
-/
import Derived.Test.YthlilfdndpnbkaaGreatDoorMg10
import Derived.Test.YthlilfdndpnbkaaGreatDoorPlain
import Derived.BigQuiet
import Derived.Deep.QuietTactic
import Derived.Below
import Derived.WalkKit
namespace Go.Proofs.YthlilfdndpnbkaaGreatDoor
section
set_option linter.unusedVariables false
open Go.RowKit

def jL (sp : UInt8) (l : List (List UInt8)) : List UInt8 := Lib.join l [sp]
def jB (sp : UInt8) (xs : List ByteArray) : ByteArray := ⟨(Lib.join (xs.map (·.data.toList)) (sepB sp).data.toList).toArray⟩
theorem jL_cons (sp : UInt8) (a b : List UInt8) (l : List (List UInt8)) : jL sp (a :: b :: l) = a ++ sp :: jL sp (b :: l) := by
  simp [jL, Lib.join, List.intercalate, List.intersperse]
theorem jL_one (sp : UInt8) (a : List UInt8) : jL sp [a] = a := by simp [jL, Lib.join, List.intercalate, List.intersperse]
theorem jL_snoc (sp : UInt8) : ∀ (a : List UInt8) (l : List (List UInt8)) (x : List UInt8), jL sp ((a :: l) ++ [x]) = jL sp (a :: l) ++ sp :: x
  | a, [], x => by rw [List.singleton_append, jL_cons sp, jL_one sp, jL_one sp]
  | a, b :: l, x => by
    rw [List.cons_append, List.cons_append, jL_cons sp, ← List.cons_append, jL_snoc sp b l x, jL_cons sp]; simp
theorem jB_data (sp : UInt8) (xs : List ByteArray) : (jB sp xs).data.toList = jL sp (xs.map (·.data.toList)) := by simp [jB, jL, sepB]
theorem jB_one (sp : UInt8) (x : ByteArray) : jB sp [x] = x := by
  apply ByteArray.ext; apply Array.toList_inj.1
  rw [jB_data sp]; exact jL_one sp _
theorem jB_snoc (sp : UInt8) (xs : List ByteArray) (x : ByteArray) (h : xs ≠ []) : jB sp (xs ++ [x]) = jB sp xs ++ ⟨#[sp]⟩ ++ x := by
  apply ByteArray.ext; apply Array.toList_inj.1
  rw [jB_data sp]
  cases xs with
  | nil => exact absurd rfl h
  | cons a l =>
    rw [List.map_append, List.map_cons, List.map_singleton, jL_snoc sp]
    simp [jB_data sp]
theorem j_step (sp : UInt8) (xs : List Int) (k : Nat) (x : Int) (hk : 0 < k) (h : xs[k]? = some x) : jB sp (nums (xs.take (k + 1))) = jB sp (nums (xs.take k)) ++ ⟨#[sp]⟩ ++ numB x := by
  have hl := (List.getElem?_eq_some_iff.1 h).1
  rw [nums_step xs k x h]
  exact jB_snoc sp _ _ (by intro e; have := congrArg List.length e; simp only [nums, List.length_map, List.length_take, List.length_nil] at this; omega)
theorem j_first (sp : UInt8) (xs : List Int) (x : Int) (h : xs[0]? = some x) : jB sp (nums (xs.take 1)) = ByteArray.empty ++ numB x := by
  rw [nums_step xs 0 x h, List.take_zero]
  show jB sp [numB x] = _
  rw [jB_one sp]
  apply ByteArray.ext; simp

theorem j_len (sp : UInt8) : ∀ (l : List (List UInt8)), (∀ y ∈ l, y.length ≤ 1000000000002) → (jL sp l).length ≤ l.length * 1000000000003
  | [], _ => by simp [jL, Lib.join, List.intercalate, List.intersperse]
  | [a], h => by rw [jL_one sp]; have := h a (by simp); simp; omega
  | a :: b :: l, h => by
    rw [jL_cons sp, List.length_append, List.length_cons]
    have h1 := h a (by simp)
    have h2 := j_len sp (b :: l) (fun y hy => h y (List.mem_cons_of_mem _ hy))
    simp only [List.length_cons] at h2 ⊢
    omega
theorem j_small (sp : UInt8) (xs : List Int) (h : okAll xs = true) (hn : xs.length ≤ 60) : (Lib.join ((nums xs).map (·.data.toList)) (sepB sp).data.toList).length ≤ 140737488355328 := by
  have h1 := j_len sp ((nums xs).map (·.data.toList)) (by
    intro y hy
    rw [List.mem_map] at hy
    obtain ⟨z, hz, rfl⟩ := hy
    unfold nums at hz
    rw [List.mem_map] at hz
    obtain ⟨v, hv, rfl⟩ := hz
    have h2 := numB_len v
    have h3 := size_list (numB v)
    have h4 := okAll_mem xs h v hv
    omega)
  have hl : ((nums xs).map (·.data.toList)).length = xs.length := by simp [nums]
  rw [hl] at h1
  have h2 : (Lib.join ((nums xs).map (·.data.toList)) (sepB sp).data.toList) = jL sp ((nums xs).map (·.data.toList)) := rfl
  rw [h2]; omega

end
section
set_option linter.unusedVariables false
open Go.RowKit

end
section
set_option linter.unusedVariables false
open Go.RowKit

theorem wp_region_class {P : Program} {id : Nat} {Q : Exit → Act → World → Prop} {a : Act} {w : World} {l : List Oper} {T : Type} (f : T → World) (t0 : T) (h0 : f t0 = w.drewN 1) (hm : P.follows .mixedOrders = true) (hB : Region.lexB .any l.toArray = true)
    (h : wpQuiet P l.toArray (fun w' => ∃ t, w' = f t) (fun a' => ∀ w', (∃ t, w' = f t) → Q .normal a' w') l a) : (Code.region id l.toArray true).wp P Q a w :=
  wp_region_quiet (C := fun w' => ∃ t, w' = f t) hm hB ⟨t0, h0.symm⟩ (by simpa using h)

/-- All worlds above W, by a letter. -/
theorem class_of (W : World) : ∃ (T : Type) (f : T → World) (t0 : T), Nonempty T ∧ f t0 = W.drewN 1 ∧ (∀ t, Below W.heap.size W (f t)) ∧ ∀ w', Below W.heap.size W w' → ∃ t, w' = f t :=
  ⟨{ w' : World // Below W.heap.size W w' }, Subtype.val, ⟨W.drewN 1, rfl, rfl, rfl, Nat.le_refl _, fun _ _ => rfl⟩, ⟨⟨W, Below.refl _ _⟩⟩, rfl, fun t => t.2, fun w' h => ⟨⟨w', h⟩, rfl⟩⟩

theorem Calls.class_of {P : Program} {g : FuncId} {args : Array Value} {v : Value} {T : Type} {f : T → World} {W : World} (hf : ∀ t, Below W.heap.size W (f t)) (hb : ∀ w', Below W.heap.size W w' → ∃ t, w' = f t) {t : T}
    (h : Calls P g args (f t) fun e w' => e = .returned v ∧ Below (f t).heap.size (f t) w') : Calls P g args (f t) fun e w' => e = .returned v ∧ ∃ t', w' = f t' :=
  h.mono fun _ _ ⟨he, hw⟩ => ⟨he, hb _ ((hf t).trans (hw.mono (hf t).size))⟩
theorem Calls.class_same {P : Program} {g : FuncId} {args : Array Value} {v : Value} {T : Type} {f : T → World} {t : T}
    (h : Calls P g args (f t) fun e w' => e = .returned v ∧ f t = w') : Calls P g args (f t) fun e w' => e = .returned v ∧ ∃ t', w' = f t' :=
  h.mono fun _ _ ⟨he, hw⟩ => ⟨he, t, hw.symm⟩
end
end Go.Proofs.YthlilfdndpnbkaaGreatDoor
