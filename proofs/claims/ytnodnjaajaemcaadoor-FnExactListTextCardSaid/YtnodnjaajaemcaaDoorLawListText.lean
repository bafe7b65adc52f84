/-
  The law of ListText: its call answers true, and nothing that was there changes.
-/
import Derived.Test.YtnodnjaajaemcaaDoorListText
import Derived.Test.YtnodnjaajaemcaaDoorIntArgs
import GoSem.ClaimJoined
namespace Go.Proofs.YtnodnjaajaemcaaDoor
set_option linter.unusedVariables false
open Go.RowKit

theorem below_dr2 {B : Nat} {a w : World} (h : Below B a w) (n : Nat) : Below B a (w.drewN n) := ⟨h.os, h.tape, h.output, h.size, h.block⟩
theorem wList_none (A : Option Addr) (cap : Nat) (w : World) :
    Calls Tryd.prog 6 #[.slice A 0 cap] w fun e w' => e = .returned (.bool true) ∧ Below w.heap.size w w' := by
  go_enter Tryd.func6, Tryd.ntmps6
  go_wp2_with fail
  refine (cToI_none _ _ _).mono ?_
  rintro e w1 ⟨rfl, hb1⟩
  go_wp2_with fail
  refine (cLT_spec_none _ _ _).mono ?_
  rintro e w' ⟨rfl, rfl⟩
  go_wp2_with fail
  refine (cToI_none _ _ _).mono ?_
  rintro e w2 ⟨rfl, hb2⟩
  have hb12 := hb1.trans (hb2.mono hb1.size)
  go_wp2_with fail
  refine (cLT_impl_none _ _ _).mono ?_
  rintro e w' ⟨rfl, rfl⟩
  go_wp2_with fail
  refine (cToI_none _ _ _).mono ?_
  rintro e w3 ⟨rfl, hb3⟩
  have hb13 := hb12.trans (hb3.mono hb12.size)
  go_wp2_with fail
  refine (cEqI_none _ _ _ _ _).mono ?_
  rintro e w' ⟨rfl, rfl⟩
  go_wp2_with fail
  go_ret
  exact ⟨rfl, hb13⟩

set_option maxHeartbeats 1000000 in
theorem wList_some (b o n cap : Nat) (xs : List Int) (w : World) (hn : n = xs.length) (hpos : 0 < n) (hbig : n ≤ maxLen) (hb : b < w.heap.size) (hgl : 1 < w.heap.size)
    (hc : ∀ (j : Nat) x, xs[j]? = some x → w.cell? ⟨b, o + j, none⟩ = some (.int .i64 x)) (htab : Lib.TabIs Tryd.prog w "internal/strconv.uint64pow10" .u64 Lib.pow10Tab) :
    Calls Tryd.prog 6 #[.slice (some ⟨b, o, none⟩) n cap] w fun e w' => e = .returned (.bool true) ∧ Below w.heap.size w w' := by
  unfold maxLen at hbig
  have HN := Lib.hid hn
  have HC := Lib.hid hc
  have HT := Lib.hid htab
  clear hn hc htab
  by_cases h1 : 1048576 < n
  · go_enter Tryd.func6, Tryd.ntmps6
    go_wp2_with fail
    go_ret
    exact ⟨rfl, Below.refl _ _⟩
  have hn1 : n ≤ 1048576 := by omega
  have cellsOf : ∀ (W : World) (base g : Nat), W.ownsRow base 2 1 (.slice (some ⟨g, 0, none⟩) n n) n (intV xs) → ∀ (j : Nat) x, xs[j]? = some x → W.cell? ⟨g, j, none⟩ = some (.int .i64 x) := fun W base g h j x hx => (h.cellAt j (by have := (List.getElem?_eq_some_iff.1 hx).1; have := HN.out; omega)).trans (intV_at _ _ _ hx)
  have KC := Lib.hid cellsOf
  clear cellsOf
  have CV : Hid ((∃ v c, listV xs = .tuple #[.string v, .int .i64 c])) := Lib.hid (by
    unfold listV
    split
    · split
      · exact ⟨_, _, rfl⟩
      · exact ⟨_, _, rfl⟩
    · exact ⟨_, _, rfl⟩)
  obtain ⟨tv, tc, hv⟩ := CV.out
  have HV := Lib.hid hv
  clear hv CV
  go_enter Tryd.func6, Tryd.ntmps6
  go_wp2_with fail
  refine (cToI b o n cap xs w HN.out hn1 hb HC.out).mono ?_
  rintro e w1 ⟨rfl, own1, hb1⟩
  have hl1 : w.heap.size < w1.heap.size := (own1.lt _ rfl).2
  have K1 := Lib.hid (KC.out _ _ _ own1)
  clear own1
  have CS := Lib.hid (cLT_spec w.heap.size n n xs w1 HN.out hpos hn1 hl1 (by intro j x hx; rw [Nat.zero_add]; exact K1.out j x hx))
  rw [HV.out] at CS
  go_wp2_with fail
  refine CS.out.mono ?_
  rintro e w2 ⟨rfl, hb2⟩
  have hb12 := hb1.trans (hb2.mono hb1.size)
  go_wp2_with fail
  refine (cToI b o n cap xs w2 HN.out hn1 (Nat.lt_of_lt_of_le hb hb12.size) (fun j x hx => (hb12.cell (by exact hb)).trans (HC.out j x hx))).mono ?_
  rintro e w3 ⟨rfl, own3, hb3⟩
  have hl3 : w2.heap.size < w3.heap.size := (own3.lt _ rfl).2
  have K3 := Lib.hid (KC.out _ _ _ own3)
  have hb13 := hb12.trans (hb3.mono hb12.size)
  clear own3
  have CI := Lib.hid (cLT_impl w2.heap.size n n xs w3 HN.out hpos hn1 hl3 (Nat.lt_of_lt_of_le hgl hb13.size) (by intro j x hx; rw [Nat.zero_add]; exact K3.out j x hx) (tab_below hb13 pow_named hgl HT.out))
  rw [HV.out] at CI
  go_wp2_with fail
  refine CI.out.mono ?_
  rintro e w4 ⟨rfl, hb4⟩
  have hb14 := hb13.trans (hb4.mono hb13.size)
  go_wp2_with fail
  refine (cToI b o n cap xs w4 HN.out hn1 (Nat.lt_of_lt_of_le hb hb14.size) (fun j x hx => (hb14.cell (by exact hb)).trans (HC.out j x hx))).mono ?_
  rintro e w5 ⟨rfl, own5, hb5⟩
  have K5 := Lib.hid (KC.out _ _ _ own5)
  have hb15 := hb14.trans (hb5.mono hb14.size)
  clear own5
  go_wp2_with fail
  refine (cEqI w2.heap.size n w4.heap.size n n xs w5 HN.out (by omega) (fun j x hx => (hb5.cell (Nat.lt_of_lt_of_le hl3 hb4.size)).trans ((hb4.cell hl3).trans (K3.out j x hx))) K5.out).mono ?_
  rintro e w' ⟨rfl, m, rfl⟩
  go_wp2_with fail
  go_ret
  exact ⟨rfl, below_dr2 hb15 m⟩

/-- A table that stands anywhere on the row's list. -/
theorem tabIs_mem {P : Program} {W : World} {name : String} {k : IntKind} {zs : List Int} {g : Nat} {t e : TypeId} {n : Nat}
    (hg : P.globalNamed name = some g) (hty : (P.globals[g]?).map (·.type) = some t) (ht : P.underlying t = some (.array n e)) (he : P.underlying e = some (.int k)) (hce : P.cellsOf e = 1) (hct : P.cellsOf t = n) :
    ∀ (laid : List (String × DataW Unit)) (ps : List MemPlace), DataW.LaidVars P W laid ps → (name, Lib.tabData k zs) ∈ laid → Lib.TabIs P W name k zs
  | [], _, _, hm => by simp at hm
  | (m, d) :: r, ps, h, hm => by
    obtain ⟨g', t', cs, fuel, p, q, hg', ht', hvar, hd, hr, _⟩ := h
    rw [List.mem_cons] at hm
    rcases hm with hm | hm
    · injection hm with h1 h2
      subst h1; subst h2
      obtain rfl := Option.some.inj (hg.symm.trans hg')
      obtain rfl := Option.some.inj (hty.symm.trans ht')
      unfold Lib.TabIs
      rw [hvar, ← Lib.cells_of_tab ht he hce hct hd]
    · exact tabIs_mem hg hty ht he hce hct r q hr hm

theorem powTab {W : World} {laid : List (String × DataW Unit)} (h : laidMet Tryd.prog laid W) (hm : ("internal/strconv.uint64pow10", Lib.tabData .u64 Lib.pow10Tab) ∈ laid) : Lib.TabIs Tryd.prog W "internal/strconv.uint64pow10" .u64 Lib.pow10Tab := by
  obtain ⟨ps, hv, _⟩ := h
  exact tabIs_mem (t := 94) (e := 85) pow_named (by kernel_rfl) Tryd.underlying94 Tryd.underlying85 (by kernel_rfl) (by kernel_rfl) laid ps hv hm

theorem wListText (a : Option Addr) (n cap : Nat) (zs : List Int) (w : World) (h : IsInts .i64 w a n cap zs) (htab : Lib.TabIs Tryd.prog w "internal/strconv.uint64pow10" .u64 Lib.pow10Tab) :
    Calls Tryd.prog 6 #[.slice a n cap] w fun e w' => e = .returned (.bool true) ∧ Below w.heap.size w w' := by
  have hgl : 1 < w.heap.size := World.block_lt_of_cell? w _ (htab.cell pow_named 0 (by rw [Lib.pow10Tab_length]; omega))
  rcases Nat.eq_zero_or_pos n with rfl | hp
  · exact wList_none a cap w
  · obtain ⟨b, o, rfl, hb, hl, hm, hc, hs⟩ := h.row hp
    exact wList_some b o n cap (zs.take n) w hl.symm hp hm hb hgl hc htab
end Go.Proofs.YtnodnjaajaemcaaDoor
