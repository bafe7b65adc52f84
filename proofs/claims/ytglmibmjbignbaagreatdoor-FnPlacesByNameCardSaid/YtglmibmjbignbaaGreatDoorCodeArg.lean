/-
  A code that came in as bytes is a code of bytes in memory.
-/
import Derived.Test.YtglmibmjbignbaaGreatDoorMy2
import Derived.Test.YtglmibmjbignbaaGreatDoorMy1
import Derived.OpenShut
namespace Go.Proofs.YtglmibmjbignbaaGreatDoor
set_option linter.unusedVariables false
open Go.RowKit

theorem IsInts.row8 {k : IntKind} {w : World} {a : Option Addr} {len cap : Nat} {zs : List Int} (h : IsInts k w a len cap zs) (hp : 0 < len) :
    ∃ b o, a = some ⟨b, o, none⟩ ∧ b < w.heap.size ∧ (zs.take len).length = len ∧ len ≤ maxLen ∧ (∀ (j : Nat) x, (zs.take len)[j]? = some x → w.cell? ⟨b, o + j, none⟩ = some (.int k x)) ∧ ∀ n ∈ zs.take len, (Lit.int k n).wf = true := by
  rcases h with ⟨_, h, _⟩ | ⟨x, rfl, hl, hm, hz, hc, hs⟩
  · omega
  · obtain ⟨b, o, spot⟩ := x
    have hspot : spot = none := by simpa [Addr.add] using World.cell?_spot (hc 0 (by omega))
    subst hspot
    have h0 := hc 0 (by omega)
    rw [add_plain'] at h0
    refine ⟨b, o, rfl, World.block_lt_of_cell? w _ h0, by simp; omega, by omega, fun j y hj => ?_, fun s hs' => hs s (List.mem_of_mem_take hs')⟩
    have hjl := (List.getElem?_eq_some_iff.1 hj).1
    rw [List.length_take] at hjl
    have h1 := hc j (by omega)
    rw [add_plain'] at h1
    rw [h1]
    rw [List.getElem?_take, if_pos (by omega)] at hj
    simp [List.getD, hj]
theorem codeIn {w : World} {a : Option Addr} {len cap : Nat} {zs : List Int} (h : IsInts .u8 w a len cap zs) : len ≤ maxLen ∧ CodeIn w a len := by
  rcases Nat.eq_zero_or_pos len with rfl | hp
  · exact ⟨Nat.zero_le _, fun h => by omega⟩
  · obtain ⟨b, o, rfl, hb, hl, hm, hc, hs⟩ := h.row8 hp
    refine ⟨hm, fun _ => ⟨b, o, rfl, hb, fun j hj => ?_⟩⟩
    have hx : (zs.take len)[j]? = some ((zs.take len)[j]'(by omega)) := List.getElem?_eq_getElem _
    have hz := bounds_u8 (hs _ (List.mem_of_getElem? hx))
    exact ⟨_, hz.1, hz.2, hc j _ hx⟩
end Go.Proofs.YtglmibmjbignbaaGreatDoor
