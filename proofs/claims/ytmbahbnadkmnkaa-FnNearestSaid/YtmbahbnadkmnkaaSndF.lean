/-
  The contracts of impl.IsSoundTable, impl.codeOfWords, impl.soundTableFor, spec.IsSoundTable and spec.l07Code.
-/
import Derived.Test.YtmbahbnadkmnkaaSndT
import Derived.Deep.RegionWith
import Derived.Deep.AppendLies
import Derived.Deep.RegionLaw
namespace Go.Proofs.Ytmbahbnadkmnkaa
set_option linter.unusedVariables false
open Go.RowKit

theorem cAreAll_none (A : Option Addr) (c : Nat) (w : World) :
    Calls Try.prog 70 #[.slice A 0 c, .func (.func 71) #[] #[]] w fun e w' => e = .returned (.bool true) ∧ w = w' := by
  go_enter Try.func70, Try.ntmps70
  go_wp2
  refine wp_loop_rounds 1 ?_
  rw [rounds_succ]
  go_wp2
  go_ret
  exact ⟨rfl, rfl⟩
theorem tAreW (A : Option Addr) (n c B : Nat) (ls : List ByteArray) (w : World) (hb : n ≤ maxLen) (hs : ∀ x ∈ ls, x.size ≤ maxLen) (h : TextAt w B A n ls) :
    Calls Try.prog 54 #[.slice A n c] w fun e w' => e = .returned (.bool (wordsB ls)) ∧ w = w' := by
  rcases Nat.eq_zero_or_pos n with rfl | hp
  · obtain rfl : ls = [] := List.eq_nil_of_length_eq_zero h.1.symm
    go_enter Try.func54, Try.ntmps54
    go_wp2_with (go_at_call 70; refine (cAreAll_none A c _).mono ?_; rintro e w' ⟨rfl, rfl⟩)
    go_ret
    exact ⟨rfl, rfl⟩
  · obtain ⟨b, o, rfl, hbl, hc⟩ := h.2 hp
    exact cAreWords b o c n ls w h.1 hb hs hc

def codeW (ls os : List ByteArray) : Int := if wordsB ls && wordsB os then (if 20 < ls.length then 3 else 0) else 1
theorem codeW_bad1 {ls os : List ByteArray} (h : wordsB ls = false) : codeW ls os = 1 := by unfold codeW; rw [h]; rfl
theorem codeW_bad2 {ls os : List ByteArray} (h : wordsB os = false) : codeW ls os = 1 := by unfold codeW; rw [h, Bool.and_false]; rfl
theorem codeW_big {ls os : List ByteArray} (h1 : wordsB ls = true) (h2 : wordsB os = true) (h : 20 < ls.length) : codeW ls os = 3 := by unfold codeW; rw [h1, h2, if_pos (by rfl), if_pos h]
theorem codeW_ok {ls os : List ByteArray} (h1 : wordsB ls = true) (h2 : wordsB os = true) (h : ¬ 20 < ls.length) : codeW ls os = 0 := by unfold codeW; rw [h1, h2, if_pos (by rfl), if_neg h]
theorem codeW_zero {ls os : List ByteArray} (h : codeW ls os = 0) : wordsB ls = true ∧ wordsB os = true ∧ ls.length ≤ 20 := by
  cases h1 : wordsB ls
  · rw [codeW_bad1 h1] at h; exact absurd h (by decide)
  cases h2 : wordsB os
  · rw [codeW_bad2 h2] at h; exact absurd h (by decide)
  by_cases h3 : 20 < ls.length
  · rw [codeW_big h1 h2 h3] at h; exact absurd h (by decide)
  · exact ⟨rfl, rfl, by omega⟩
def code7 (xs : List Int) (ls os : List ByteArray) : Int := if tabB xs then codeW ls os else 1
theorem code7_no {xs : List Int} {ls os : List ByteArray} (h : tabB xs = false) : code7 xs ls os = 1 := by unfold code7; rw [h]; rfl
theorem code7_yes {xs : List Int} {ls os : List ByteArray} (h : tabB xs = true) : code7 xs ls os = codeW ls os := by unfold code7; rw [h]; rfl
theorem code7_zero {xs : List Int} {ls os : List ByteArray} (h : code7 xs ls os = 0) : tabB xs = true ∧ wordsB ls = true ∧ wordsB os = true ∧ ls.length ≤ 20 := by
  cases h1 : tabB xs
  · rw [code7_no h1] at h; exact absurd h (by decide)
  · rw [code7_yes h1] at h; exact ⟨rfl, codeW_zero h⟩
theorem wordsB_mem {ls : List ByteArray} (h : wordsB ls = true) {x : ByteArray} (hx : x ∈ ls) : wordB x = true := by
  unfold wordsB at h; rw [List.all_eq_true] at h; exact h x hx
theorem wordsB_one (a : ByteArray) : wordsB [a] = wordB a := by simp [wordsB]

theorem cCodeW (A A1 : Option Addr) (n c n1 c1 B B1 : Nat) (ls os : List ByteArray) (w : World) (hb : n ≤ maxLen) (hs : ∀ x ∈ ls, x.size ≤ maxLen) (h : TextAt w B A n ls)
    (hb1 : n1 ≤ maxLen) (hs1 : ∀ x ∈ os, x.size ≤ maxLen) (h1 : TextAt w B1 A1 n1 os) :
    Calls Try.prog 44 #[.slice A n c, .slice A1 n1 c1] w fun e w' => e = .returned (.int .i64 (codeW ls os)) ∧ w = w' := by
  have C1 := Lib.hid (fun W (e : W = w) => tAreW A n c B ls W hb hs (by subst e; exact h))
  have C2 := Lib.hid (fun W (e : W = w) => tAreW A1 n1 c1 B1 os W hb1 hs1 (by subst e; exact h1))
  have HN := Lib.hid h.1
  unfold maxLen at hb hb1
  clear h h1 hs hs1
  cases e1 : wordsB ls
  · rw [e1] at C1
    rw [codeW_bad1 e1]
    clear e1
    go_enter Try.func44, Try.ntmps44
    go_wp2_with fail
    refine (C1.out w rfl).mono ?_
    rintro e w' ⟨rfl, rfl⟩
    go_wp2_with fail
    go_ret
    exact ⟨rfl, rfl⟩
  cases e2 : wordsB os
  · rw [e1] at C1
    rw [e2] at C2
    rw [codeW_bad2 e2]
    clear e1 e2
    go_enter Try.func44, Try.ntmps44
    go_wp2_with fail
    refine (C1.out w rfl).mono ?_
    rintro e w' ⟨rfl, rfl⟩
    go_wp2_with fail
    refine (C2.out w rfl).mono ?_
    rintro e w' ⟨rfl, rfl⟩
    go_wp2_with fail
    go_ret
    exact ⟨rfl, rfl⟩
  by_cases h20 : 20 < n
  · rw [codeW_big e1 e2 (by have := HN.out; omega)]
    rw [e1] at C1
    rw [e2] at C2
    clear e1 e2
    go_enter Try.func44, Try.ntmps44
    go_wp2_with fail
    refine (C1.out w rfl).mono ?_
    rintro e w' ⟨rfl, rfl⟩
    go_wp2_with fail
    refine (C2.out w rfl).mono ?_
    rintro e w' ⟨rfl, rfl⟩
    go_wp2_with fail
    go_ret
    exact ⟨rfl, rfl⟩
  · rw [codeW_ok e1 e2 (by have := HN.out; omega)]
    rw [e1] at C1
    rw [e2] at C2
    clear e1 e2
    go_enter Try.func44, Try.ntmps44
    go_wp2_with fail
    refine (C1.out w rfl).mono ?_
    rintro e w' ⟨rfl, rfl⟩
    go_wp2_with fail
    refine (C2.out w rfl).mono ?_
    rintro e w' ⟨rfl, rfl⟩
    go_wp2_with fail
    go_ret
    exact ⟨rfl, rfl⟩

set_option maxHeartbeats 1000000 in
set_option maxRecDepth 100000 in
theorem cIsTab (A : Option Addr) (n c : Nat) (xs : List Int) (w : World) (hb : n ≤ maxLen) (h : NumAt w w.heap.size A n xs) :
    Calls Try.prog 22 #[.slice A n c] w fun e w' => e = .returned (.bool (tabB xs)) ∧ Below w.heap.size w w' := by
  have CT := Lib.hid (cTabOf A n c xs w hb h)
  have hz := zero26
  have hne := zs26_ne
  have hsz := tabC_size xs
  have hcl := tabC_cells xs
  obtain ⟨cs, hcs⟩ : ∃ cs, cs = tabC xs := ⟨_, rfl⟩
  obtain ⟨r, hr⟩ : ∃ r, r = tabB xs := ⟨_, rfl⟩
  unfold TabOut at CT
  rw [← hcs, ← hr] at CT
  rw [← hcs] at hsz hcl
  rw [← hr]
  have HS := Lib.hid hsz
  have HC := Lib.hid hcl
  clear h hcs hr hsz hcl
  go_enter Try.func22, Try.ntmps22
  go_wp2_with (first
    | (go_at_call 56; refine CT.out.mono ?_; rintro e w1 ⟨rfl, hb1⟩; have T1 := Lib.hid (TabAt.new w1 75 zs26))
    | (refine wpList_store_row rfl _ _ _ rfl w1.heap.size _ rfl rfl 75 _ T1.out (size26.trans (by rw [HS.out])) (by rw [zs26_size, HS.out]) HC.out ?_))
  go_ret
  exact ⟨rfl, below_setRow (hb1.alloc hb1.size _) hb1.size _⟩

theorem still_load_row {P : Program} {ops : Array Oper} {o : Oper} {a : Act} {w : World} {K : Act → Prop} {E : Prop} (hgd : o.guard = none) (ty : TypeId) (x : Operand) (ho : o.op = .load ty x)
    (g : Nat) (hx : a.eval x = .pointer (some ⟨g, 0, none⟩)) (t : TypeId) (cs : Array Value) (fr : Nat × Nat) (d : TypeDesc) (hg : w.heap[g]? = some (.cells cs t fr))
    (hu : P.underlying ty = some d) (hd : (match d with | .struct _ | .array _ _ => true | _ => false) = true) (hi : (P.info? ty).map (·.size) = some cs.size)
    (h : K (a.put o.dst (.agg cs))) : if Region.wanted o (yielded ops a.tmps) = true then o.still P a w K else E := by
  have hw : Region.wanted o (yielded ops a.tmps) = true := by simp [Region.wanted, hgd]
  rw [if_pos hw]
  unfold Oper.still execOp
  simp only [ho, hx, Instr.loadAt, Instr.sureAddr, Sem.run_bind, Sem.run_pure, Result.andThen_ok, run_loadVar_row w g t ty cs fr d hg hu hd hi]
  exact ⟨rfl, h⟩
theorem TabAt.drew {w : World} {g : Nat} {t : TypeId} {cs : Array Value} (h : TabAt w g t cs) : TabAt w.drew g t cs := h
/-- What the reading of a table and a list gives. -/
def ForOut (xs : List Int) (ls os : List ByteArray) (w : World) (e : Ending) (w' : World) : Prop := e = .returned (.tuple #[.agg (tabC xs), .int .i64 (code7 xs ls os)]) ∧ Below w.heap.size w w'
set_option maxHeartbeats 1000000 in
set_option maxRecDepth 100000 in
theorem cTabFor (A A1 A2 : Option Addr) (n c n1 c1 n2 c2 : Nat) (xs : List Int) (ls os : List ByteArray) (w : World) (hb : n ≤ maxLen) (h : NumAt w w.heap.size A n xs)
    (hb1 : n1 ≤ maxLen) (hs1 : ∀ x ∈ ls, x.size ≤ maxLen) (h1 : TextAt w w.heap.size A1 n1 ls) (hb2 : n2 ≤ maxLen) (hs2 : ∀ x ∈ os, x.size ≤ maxLen) (h2 : TextAt w w.heap.size A2 n2 os) :
    Calls Try.prog 58 #[.slice A n c, .slice A1 n1 c1, .slice A2 n2 c2] w (ForOut xs ls os w) := by
  have CT := Lib.hid (fun (W : World) (hW : Below w.heap.size w W) => cTabOf A n c xs W hb ((h.below hW (Nat.le_refl _)).more hW.size))
  have CC := Lib.hid (fun (W : World) (hW : Below w.heap.size w W) => cCodeW A1 A2 n1 c1 n2 c2 _ _ ls os W hb1 hs1 (h1.below hW (Nat.le_refl _)) hb2 hs2 (h2.below hW (Nat.le_refl _)))
  have hz := zero26
  have hne := zs26_ne
  have hsz := tabC_size xs
  have hcl := tabC_cells xs
  unfold ForOut
  unfold TabOut at CT
  obtain ⟨cs, hcs⟩ : ∃ cs, cs = tabC xs := ⟨_, rfl⟩
  rw [← hcs] at CT hsz hcl ⊢
  have HS := Lib.hid hsz
  have HC := Lib.hid hcl
  have hB0 := (Below.refl w.heap.size w).alloc (Nat.le_refl _) (.cells zs26 75)
  have CT0 := Lib.hid (CT.out _ hB0)
  have T0 := Lib.hid (TabAt.new w 75 zs26)
  have B0 := Lib.hid hB0
  clear h h1 h2 hcs hsz hcl hs1 hs2 CT hB0
  cases hr : tabB xs
  · rw [hr] at CT0
    rw [code7_no hr]
    clear hr CC
    go_enter Try.func58, Try.ntmps58
    go_wp2_with fail
    refine CT0.out.mono ?_
    rintro e w1 ⟨rfl, hb1⟩
    have hsz1 := hb1.size
    rw [World.size_alloc] at hsz1
    have T2 : Hid (TabAt w1 w.heap.size 75 zs26) := Lib.hid (T0.out.below hb1 (by simp))
    have T3 := Lib.hid (TabAt.new w1 75 zs26)
    have B1 := Lib.hid (B0.out.trans (hb1.mono (by simp)))
    have T4 : Hid (TabAt (w1.alloc (.cells zs26 75)) w.heap.size 75 zs26) := Lib.hid (T2.out.alloc _)
    clear hb1
    have B2 := Lib.hid (B1.out.alloc B1.out.size (.cells zs26 75))
    have T5 : Hid (TabAt ((w1.alloc (.cells zs26 75)).setRow w1.heap.size cs) w1.heap.size 75 cs) := Lib.hid (TabAt.setSame T3.out)
    have T6 : Hid (TabAt ((w1.alloc (.cells zs26 75)).setRow w1.heap.size cs) w.heap.size 75 zs26) := Lib.hid (T4.out.below (below_setRow (Below.refl w1.heap.size _) (Nat.le_refl _) cs) (by omega))
    have B3 : Hid (Below w.heap.size w ((w1.alloc (.cells zs26 75)).setRow w1.heap.size cs)) := Lib.hid (below_setRow B2.out (by omega) cs)
    go_wp2_with (first
      | (refine wpList_store_row rfl _ _ _ rfl w1.heap.size _ rfl rfl 75 _ T3.out (size26.trans (by rw [HS.out])) (by rw [zs26_size, HS.out]) HC.out ?_)
      | (refine wpList_load_row rfl _ _ rfl w1.heap.size rfl 75 _ (0, 0) _ T5.out Try.underlying75 rfl (size26.trans (by rw [HS.out])) ?_)
      | (refine wpList_store_row rfl _ _ _ rfl w.heap.size _ rfl rfl 75 _ T6.out (size26.trans (by rw [HS.out])) (by rw [zs26_size, HS.out]) HC.out ?_))
    have hld := run_loadVar_row (P := Try.prog) _ w.heap.size 75 75 cs (0, 0) _ (TabAt.setSame (cs := cs) T6.out) Try.underlying75 rfl (size26.trans (by rw [HS.out]))
    refine bodyPost_ret (v := .tuple #[.agg cs, .int .i64 1]) ?_ rfl ⟨rfl, below_setRow B3.out (Nat.le_refl _) _⟩
    simp [results, Try.results58, asAddr, hld]
  · rw [hr] at CT0
    rw [code7_yes hr]
    obtain ⟨code, hcode⟩ : ∃ code, code = codeW ls os := ⟨_, rfl⟩
    rw [← hcode] at CC ⊢
    clear hr hcode
    go_enter Try.func58, Try.ntmps58
    go_wp2_with fail
    refine CT0.out.mono ?_
    rintro e w1 ⟨rfl, hb1⟩
    have hsz1 := hb1.size
    rw [World.size_alloc] at hsz1
    have T2 : Hid (TabAt w1 w.heap.size 75 zs26) := Lib.hid (T0.out.below hb1 (by simp))
    have T3 := Lib.hid (TabAt.new w1 75 zs26)
    have B1 := Lib.hid (B0.out.trans (hb1.mono (by simp)))
    have T4 : Hid (TabAt (w1.alloc (.cells zs26 75)) w.heap.size 75 zs26) := Lib.hid (T2.out.alloc _)
    clear hb1
    have B2 := Lib.hid (B1.out.alloc B1.out.size (.cells zs26 75))
    have T5 : Hid (TabAt ((w1.alloc (.cells zs26 75)).setRow w1.heap.size cs) w1.heap.size 75 cs) := Lib.hid (TabAt.setSame T3.out)
    have T6 : Hid (TabAt ((w1.alloc (.cells zs26 75)).setRow w1.heap.size cs) w.heap.size 75 zs26) := Lib.hid (T4.out.below (below_setRow (Below.refl w1.heap.size _) (Nat.le_refl _) cs) (by omega))
    have B3 : Hid (Below w.heap.size w ((w1.alloc (.cells zs26 75)).setRow w1.heap.size cs)) := Lib.hid (below_setRow B2.out (by omega) cs)
    go_wp2_with (refine wpList_store_row rfl _ _ _ rfl w1.heap.size _ rfl rfl 75 _ T3.out (size26.trans (by rw [HS.out])) (by rw [zs26_size, HS.out]) HC.out ?_)
    obtain ⟨w2, hw2⟩ : ∃ w2, w2 = (w1.alloc (.cells zs26 75)).setRow w1.heap.size cs := ⟨_, rfl⟩
    rw [← hw2] at T5 T6 B3 ⊢
    clear hw2 T4 B2 T3 T2
    have CC2 := Lib.hid (CC.out _ B3.out.drew)
    refine wp_region_still_tail 4 (by kernel_rfl) (by kernel_rfl) ?_
    simp only [List.take_succ_cons, List.take_zero, List.drop_succ_cons, List.drop_zero]
    refine wpStill_step (fun K hK => ?_)
    refine still_load_row rfl _ _ rfl w1.heap.size rfl 75 _ (0, 0) _ (TabAt.drew T5.out) Try.underlying75 rfl (size26.trans (by rw [HS.out])) ?_
    refine hK _ ?_
    clear hK K
    still_step
    still_step
    refine wpStill_step (fun K hK => ?_)
    go_simp
    refine ⟨_, CC2.out.mono (fun e w' h => ⟨h.1, h.2.symm⟩), hK _ ?_⟩
    clear hK K
    refine wpStill_nil ?_
    change wpList _ _ _ _ _ w2.drew
    go_wp2_with (refine wpList_store_row rfl _ _ _ rfl w.heap.size _ rfl rfl 75 _ (TabAt.drew T6.out) (size26.trans (by rw [HS.out])) (by rw [zs26_size, HS.out]) HC.out ?_)
    have hld := run_loadVar_row (P := Try.prog) _ w.heap.size 75 75 cs (0, 0) _ (TabAt.setSame (cs := cs) (TabAt.drew T6.out)) Try.underlying75 rfl (size26.trans (by rw [HS.out]))
    refine bodyPost_ret (v := .tuple #[.agg cs, .int .i64 code]) ?_ rfl ⟨rfl, below_setRow B3.out.drew (Nat.le_refl _) _⟩
    simp [results, Try.results58, asAddr, hld]
end Go.Proofs.Ytmbahbnadkmnkaa
