/-
  The contracts of impl.IsSoundTable, impl.codeOfWords, impl.soundTableFor, spec.IsSoundTable and spec.l07Code.
-/
import Derived.Test.YtmbahbnadkmnkaaDoorSndT
import Derived.Deep.RegionWith
import Derived.Deep.AppendLies
import Derived.Deep.RegionLaw
namespace Go.Proofs.YtmbahbnadkmnkaaDoor
set_option linter.unusedVariables false
open Go.RowKit

theorem cAreAll_none (A : Option Addr) (c : Nat) (w : World) :
    Calls Tryd.prog 29 #[.slice A 0 c, .func (.func 30) #[] #[]] w fun e w' => e = .returned (.bool true) ∧ w = w' := by
  go_enter Tryd.func29, Tryd.ntmps29
  go_wp2
  refine wp_loop_rounds 1 ?_
  rw [rounds_succ]
  go_wp2
  go_ret
  exact ⟨rfl, rfl⟩
theorem tAreW (A : Option Addr) (n c B : Nat) (ls : List ByteArray) (w : World) (hb : n ≤ maxLen) (hs : ∀ x ∈ ls, x.size ≤ maxLen) (h : TextAt w B A n ls) :
    Calls Tryd.prog 23 #[.slice A n c] w fun e w' => e = .returned (.bool (wordsB ls)) ∧ w = w' := by
  rcases Nat.eq_zero_or_pos n with rfl | hp
  · obtain rfl : ls = [] := List.eq_nil_of_length_eq_zero h.1.symm
    go_enter Tryd.func23, Tryd.ntmps23
    go_wp2_with (go_at_call 29; refine (cAreAll_none A c _).mono ?_; rintro e w' ⟨rfl, rfl⟩)
    go_ret
    exact ⟨rfl, rfl⟩
  · obtain ⟨b, o, rfl, hbl, hc⟩ := h.2 hp
    exact cAreWords b o c n ls w h.1 hb hs hc

def codeW (ls os : List ByteArray) : Int := if wordsB ls && wordsB os then (if 20 < ls.length then 3 else 0) else 1
theorem codeW_bad1 {ls os : List ByteArray} (h : wordsB ls = false) : codeW ls os = 1 := by unfold codeW; rw [h]; rfl
theorem codeW_bad2 {ls os : List ByteArray} (h : wordsB os = false) : codeW ls os = 1 := by unfold codeW; rw [h, Bool.and_false]; rfl
theorem codeW_big {ls os : List ByteArray} (h1 : wordsB ls = true) (h2 : wordsB os = true) (h : 20 < ls.length) : codeW ls os = 3 := by unfold codeW; rw [h1, h2, if_pos (by rfl), if_pos h]
theorem codeW_ok {ls os : List ByteArray} (h1 : wordsB ls = true) (h2 : wordsB os = true) (h : ¬ 20 < ls.length) : codeW ls os = 0 := by unfold codeW; rw [h1, h2, if_pos (by rfl), if_neg h]
theorem codeW_zero {ls os : List ByteArray} (h : codeW ls os = 0) : wordsB ls = true ∧ wordsB os = true ∧ ls.length ≤ 20 := by
  cases h1 : wordsB ls
  · rw [codeW_bad1 h1] at h; exact absurd h (by decide)
  cases h2 : wordsB os
  · rw [codeW_bad2 h2] at h; exact absurd h (by decide)
  by_cases h3 : 20 < ls.length
  · rw [codeW_big h1 h2 h3] at h; exact absurd h (by decide)
  · exact ⟨rfl, rfl, by omega⟩
def code7 (xs : List Int) (ls os : List ByteArray) : Int := if tabB xs then codeW ls os else 1
theorem code7_no {xs : List Int} {ls os : List ByteArray} (h : tabB xs = false) : code7 xs ls os = 1 := by unfold code7; rw [h]; rfl
theorem code7_yes {xs : List Int} {ls os : List ByteArray} (h : tabB xs = true) : code7 xs ls os = codeW ls os := by unfold code7; rw [h]; rfl
theorem code7_zero {xs : List Int} {ls os : List ByteArray} (h : code7 xs ls os = 0) : tabB xs = true ∧ wordsB ls = true ∧ wordsB os = true ∧ ls.length ≤ 20 := by
  cases h1 : tabB xs
  · rw [code7_no h1] at h; exact absurd h (by decide)
  · rw [code7_yes h1] at h; exact ⟨rfl, codeW_zero h⟩
theorem wordsB_mem {ls : List ByteArray} (h : wordsB ls = true) {x : ByteArray} (hx : x ∈ ls) : wordB x = true := by
  unfold wordsB at h; rw [List.all_eq_true] at h; exact h x hx
theorem wordsB_one (a : ByteArray) : wordsB [a] = wordB a := by simp [wordsB]

theorem still_load_row {P : Program} {ops : Array Oper} {o : Oper} {a : Act} {w : World} {K : Act → Prop} {E : Prop} (hgd : o.guard = none) (ty : TypeId) (x : Operand) (ho : o.op = .load ty x)
    (g : Nat) (hx : a.eval x = .pointer (some ⟨g, 0, none⟩)) (t : TypeId) (cs : Array Value) (fr : Nat × Nat) (d : TypeDesc) (hg : w.heap[g]? = some (.cells cs t fr))
    (hu : P.underlying ty = some d) (hd : (match d with | .struct _ | .array _ _ => true | _ => false) = true) (hi : (P.info? ty).map (·.size) = some cs.size)
    (h : K (a.put o.dst (.agg cs))) : if Region.wanted o (yielded ops a.tmps) = true then o.still P a w K else E := by
  have hw : Region.wanted o (yielded ops a.tmps) = true := by simp [Region.wanted, hgd]
  rw [if_pos hw]
  unfold Oper.still execOp
  simp only [ho, hx, Instr.loadAt, Instr.sureAddr, Sem.run_bind, Sem.run_pure, Result.andThen_ok, run_loadVar_row w g t ty cs fr d hg hu hd hi]
  exact ⟨rfl, h⟩
theorem TabAt.drew {w : World} {g : Nat} {t : TypeId} {cs : Array Value} (h : TabAt w g t cs) : TabAt w.drew g t cs := h
/-- What the reading of a table and a list gives. -/
def ForOut (xs : List Int) (ls os : List ByteArray) (w : World) (e : Ending) (w' : World) : Prop := e = .returned (.tuple #[.agg (tabC xs), .int .i64 (code7 xs ls os)]) ∧ Below w.heap.size w w'
end Go.Proofs.YtmbahbnadkmnkaaDoor
