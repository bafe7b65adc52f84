/-
  The contracts of impl.CountParsings and spec.CountParsings.
-/
import Derived.Test.YtnfdbpfegmodcaaCntS
import Derived.Test.YtnfdbpfegmodcaaFinder
namespace Go.Proofs.Ytnfdbpfegmodcaa
set_option linter.unusedVariables false
open Go.RowKit

/-- A text that may have parsings. -/
def okT (s : ByteArray) : Bool := decide (s.size ≤ 48) && lowAll s.data.toList
theorem okT_len {s : ByteArray} (h : okT s = true) : s.size ≤ 48 := by unfold okT at h; rw [Bool.and_eq_true, decide_eq_true_eq] at h; exact h.1
theorem okT_stop (s : ByteArray) (k : Nat) (h : k < s.size) (hc : lowB s[k] = false) : okT s = false := by unfold okT; rw [lowAll_stop s k h hc, Bool.and_false]
theorem okT_sum (s : ByteArray) (h : lowAll s.data.toList = true) : okT s = (decide ((0 : Int) ≤ (s.size : Int)) && decide ((s.size : Int) ≤ 48)) := by
  unfold okT; rw [h, Bool.and_true, decide_eq_true (by omega : (0 : Int) ≤ (s.size : Int)), Bool.true_and, decide_eq_decide]; omega

theorem cTextOk (s : ByteArray) (w : World) (hs : s.size ≤ maxLen) :
    Calls Try.prog 85 #[.string s] w fun e w' => e = .returned (.bool (okT s)) ∧ w = w' := by
  have C := Lib.hid (cLetters s w hs)
  unfold maxLen at hs
  by_cases h : s.size ≤ 48
  · have HX : Hid (okT s = lowAll s.data.toList) := Lib.hid (by unfold okT; rw [decide_eq_true h, Bool.true_and])
    have h' : (s.size : Int) ≤ 48 := by omega
    go_enter Try.func85, Try.ntmps85
    go_wp2_with (go_at_call 116; refine C.out.mono ?_; rintro e w' ⟨rfl, rfl⟩)
    go_ret
    exact ⟨ret_bool HX.out.symm, rfl⟩
  · have HX : Hid (okT s = false) := Lib.hid (by unfold okT; rw [decide_eq_false h, Bool.false_and])
    go_enter Try.func85, Try.ntmps85
    go_wp2
    go_ret
    exact ⟨ret_bool HX.out.symm, rfl⟩

set_option maxHeartbeats 400000 in
theorem cLow48 (s : ByteArray) (w : World) (hs : s.size ≤ maxLen) :
    Calls Try.prog 118 #[.string s, .int .i64 0, .int .i64 48] w fun e w' => e = .returned (.bool (okT s)) ∧ w = w' := by
  unfold maxLen at hs
  go_enter Try.func118, Try.ntmps118
  go_wp2
  go_loop [7] (fun i => ∃ k : Nat, k ≤ s.size ∧ i = .int .i64 k ∧ Hid (lowAll (s.data.toList.take k) = true)) (fun i => s.size - (intOf i).toNat)
  case atStart => exact ⟨0, Nat.zero_le _, rfl, Lib.hid (lowAll_zero s)⟩
  case round =>
    obtain ⟨k, hk, rfl, HA⟩ := hrel
    by_cases hlt : k < s.size
    · go_wp2
      all_goals first
        | (have hno : (s[k].toNat : Int) < 97 ∨ (122 : Int) < (s[k].toNat : Int) := by first | assumption | omega
           go_ret
           exact ⟨ret_bool (okT_stop s k hlt (lowB_no _ hno)).symm, rfl⟩)
        | (go_round
           case rel => exact ⟨k + 1, by omega, by go_num, Lib.hid (lowAll_step s k hlt HA.out (lowB_yes _ (by omega) (by omega)))⟩
           case measure => simp [intOf]; omega)
    · go_wp2_with (go_at_call 132; refine (cIn_any _ _ _ _).mono ?_; rintro e w' ⟨rfl, rfl⟩)
      go_ret
      exact ⟨ret_bool (okT_sum s ((lowAll_end s k (by omega)).symm.trans HA.out)).symm, rfl⟩

def ok5 (rs : List Ru) (s : ByteArray) : Bool := tableB rs && okT s
theorem ok5_table {rs : List Ru} {s : ByteArray} (h : ok5 rs s = true) : tableB rs = true := by unfold ok5 at h; rw [Bool.and_eq_true] at h; exact h.1
theorem ok5_text {rs : List Ru} {s : ByteArray} (h : ok5 rs s = true) : okT s = true := by unfold ok5 at h; rw [Bool.and_eq_true] at h; exact h.2
def code5 (rs : List Ru) (s : ByteArray) : Int := if ok5 rs s then 0 else 1
theorem code5_no {rs : List Ru} {s : ByteArray} (h : ok5 rs s = false) : code5 rs s = 1 := by unfold code5; rw [h]; rfl
theorem code5_yes {rs : List Ru} {s : ByteArray} (h : ok5 rs s = true) : code5 rs s = 0 := by unfold code5; rw [h]; rfl
theorem cCode5 (A : Option Addr) (n c : Nat) (rs : List Ru) (s : ByteArray) (w : World) (hb : n ≤ maxLen) (hs : s.size ≤ maxLen) (h : RulesAt w w.heap.size A n rs) :
    Calls Try.prog 87 #[.slice A n c, .string s] w fun e w' => e = .returned (.int .i64 (code5 rs s)) ∧ Below w.heap.size w w' := by
  have CT := Lib.hid (cIsTable_spec A n c w.heap.size rs w hb h (Nat.le_refl _))
  have CL := Lib.hid (fun W => cLow48 s W hs)
  clear h
  cases h1 : tableB rs
  · rw [h1] at CT
    rw [code5_no (by unfold ok5; rw [h1]; rfl)]
    clear h1
    go_enter Try.func87, Try.ntmps87
    go_wp2_with (go_at_call 67; refine CT.out.mono ?_; rintro e w1 ⟨rfl, hb1⟩)
    go_ret
    exact ⟨rfl, hb1⟩
  · rw [h1] at CT
    cases h2 : okT s
    · rw [h2] at CL
      rw [code5_no (by unfold ok5; rw [h2, Bool.and_false])]
      clear h1 h2
      go_enter Try.func87, Try.ntmps87
      go_wp2_with (first
        | (go_at_call 67; refine CT.out.mono ?_; rintro e w1 ⟨rfl, hb1⟩)
        | (go_at_call 118; refine (CL.out _).mono ?_; rintro e w2 ⟨rfl, rfl⟩))
      go_ret
      exact ⟨rfl, hb1⟩
    · rw [h2] at CL
      rw [code5_yes (by unfold ok5; rw [h1, h2]; rfl)]
      clear h1 h2
      go_enter Try.func87, Try.ntmps87
      go_wp2_with (first
        | (go_at_call 67; refine CT.out.mono ?_; rintro e w1 ⟨rfl, hb1⟩)
        | (go_at_call 118; refine (CL.out _).mono ?_; rintro e w2 ⟨rfl, rfl⟩))
      go_ret
      exact ⟨rfl, hb1⟩

theorem idx49 (cs : Array Value) (k : Nat) (x : Int) (h : cs[k]? = some (.int .i64 x)) (hk : k < 49) (w : World) : (Instr.index 94 (.agg cs) (.int .i64 (k : Int))).run Try.prog w = .ok (.int .i64 x) w := by
  have h1 : (isAgg 2).run Try.prog w = .ok false w := by kernel_rfl
  have h2 : (sizeOf 2).run Try.prog w = .ok 1 w := by kernel_rfl
  simp [Instr.index, run_underlying Try.underlying94, asIntOf, part, h1, h2, h, Sem.run_bind, Result.andThen, go_sem]
  intro h9
  omega

/-- The number of parsings of a text. -/
def numP (rs : List Ru) (s : ByteArray) : Int := cntW (roms rs) s.data.toList s.size
theorem numP_bd (rs : List Ru) (s : ByteArray) : 0 ≤ numP rs s ∧ numP rs s ≤ 1000000000001 := cntW_bd _ _ _
def cntN (rs : List Ru) (s : ByteArray) : Int := if ok5 rs s then (if 1000000000000 < numP rs s then 0 else numP rs s) else 0
def cntE (rs : List Ru) (s : ByteArray) : Int := if ok5 rs s then (if 1000000000000 < numP rs s then 3 else 0) else 1
theorem cnt_bad {rs : List Ru} {s : ByteArray} (h : ok5 rs s = false) : cntN rs s = 0 ∧ cntE rs s = 1 := by unfold cntN cntE; rw [h]; exact ⟨rfl, rfl⟩
theorem cnt_big {rs : List Ru} {s : ByteArray} (h : ok5 rs s = true) (hg : 1000000000000 < numP rs s) : cntN rs s = 0 ∧ cntE rs s = 3 := by
  unfold cntN cntE; rw [h, if_pos rfl, if_pos rfl, if_pos hg, if_pos hg]; exact ⟨rfl, rfl⟩
theorem cnt_ok {rs : List Ru} {s : ByteArray} (h : ok5 rs s = true) (hg : ¬ 1000000000000 < numP rs s) : cntN rs s = numP rs s ∧ cntE rs s = 0 := by
  unfold cntN cntE; rw [h, if_pos rfl, if_pos rfl, if_neg hg, if_neg hg]; exact ⟨rfl, rfl⟩

set_option maxHeartbeats 1000000 in
set_option maxRecDepth 100000 in
theorem cCnt_impl (A : Option Addr) (n c : Nat) (rs : List Ru) (s : ByteArray) (w : World) (hb : n ≤ maxLen) (hs : s.size ≤ maxLen) (h : RulesAt w w.heap.size A n rs) :
    Calls Try.prog 36 #[.slice A n c, .string s] w fun e w' => e = .returned (.tuple #[.int .i64 (cntN rs s), .int .i64 (cntE rs s)]) ∧ Below w.heap.size w w' := by
  have CT := Lib.hid (cIsTable A n c rs w hb h)
  have CL := Lib.hid (fun W => cTextOk s W hs)
  have CR := Lib.hid (fun (W : World) (h48 : s.size ≤ 48) (hW : Below w.heap.size w W) => cCountRests A n c rs s W hb h48 ((h.below hW (Nat.le_refl _)).more hW.size))
  clear h
  cases h1 : tableB rs
  · rw [h1] at CT
    obtain ⟨e1, e2⟩ := cnt_bad (rs := rs) (s := s) (by unfold ok5; rw [h1]; rfl)
    rw [e1, e2]
    clear h1 e1 e2
    go_enter Try.func36, Try.ntmps36
    go_wp2_with (go_at_call 29; refine CT.out.mono ?_; rintro e w1 ⟨rfl, hb1⟩)
    go_ret2
    exact ⟨rfl, hb1⟩
  rw [h1] at CT
  cases h2 : okT s
  · rw [h2] at CL
    obtain ⟨e1, e2⟩ := cnt_bad (rs := rs) (s := s) (by unfold ok5; rw [h2, Bool.and_false])
    rw [e1, e2]
    clear h1 h2 e1 e2
    go_enter Try.func36, Try.ntmps36
    go_wp2_with (first
      | (go_at_call 29; refine CT.out.mono ?_; rintro e w1 ⟨rfl, hb1⟩)
      | (go_at_call 85; refine (CL.out _).mono ?_; rintro e w2 ⟨rfl, rfl⟩))
    go_ret2
    exact ⟨rfl, hb1⟩
  rw [h2] at CL
  have hok : ok5 rs s = true := by unfold ok5; rw [h1, h2]; rfl
  have h48 := okT_len h2
  have hget : (cntC (cntW (roms rs) s.data.toList) (s.size + 1) 0)[s.size]? = some (.int .i64 (numP rs s)) := cntC_lt (by omega) (by omega)
  have CR2 := Lib.hid (fun W hW => CR.out W h48 hW)
  obtain ⟨cs, hcs⟩ : ∃ cs, cs = cntC (cntW (roms rs) s.data.toList) (s.size + 1) 0 := ⟨_, rfl⟩
  rw [← hcs] at hget CR2
  clear CR
  obtain ⟨x, hx⟩ : ∃ x, x = numP rs s := ⟨_, rfl⟩
  have hbd := numP_bd rs s
  rw [← hx] at hget hbd
  have hidx := idx49 cs s.size x hget (by omega)
  by_cases hg : 1000000000000 < x
  · obtain ⟨e1, e2⟩ := cnt_big hok (by rw [← hx]; exact hg)
    rw [e1, e2]
    clear h1 h2 e1 e2 hok hx hcs
    go_enter Try.func36, Try.ntmps36
    go_wp2_with (first
      | (go_at_call 29; refine CT.out.mono ?_; rintro e w1 ⟨rfl, hb1⟩)
      | (go_at_call 85; refine (CL.out _).mono ?_; rintro e w2 ⟨rfl, rfl⟩)
      | (go_at_call 86; refine (CR2.out _ hb1).mono ?_; rintro e w3 ⟨rfl, hb3⟩))
    go_ret2
    exact ⟨rfl, hb1.trans (hb3.mono hb1.size)⟩
  · obtain ⟨e1, e2⟩ := cnt_ok hok (by rw [← hx]; exact hg)
    rw [e1, e2, ← hx]
    clear h1 h2 e1 e2 hok hx hcs
    go_enter Try.func36, Try.ntmps36
    go_wp2_with (first
      | (go_at_call 29; refine CT.out.mono ?_; rintro e w1 ⟨rfl, hb1⟩)
      | (go_at_call 85; refine (CL.out _).mono ?_; rintro e w2 ⟨rfl, rfl⟩)
      | (go_at_call 86; refine (CR2.out _ hb1).mono ?_; rintro e w3 ⟨rfl, hb3⟩))
    go_ret2
    exact ⟨rfl, hb1.trans (hb3.mono hb1.size)⟩

set_option maxHeartbeats 1000000 in
theorem cCnt_spec (A : Option Addr) (n c : Nat) (rs : List Ru) (s : ByteArray) (w : World) (hb : n ≤ maxLen) (hs : s.size ≤ maxLen) (h : RulesAt w w.heap.size A n rs) :
    Calls Try.prog 37 #[.slice A n c, .string s] w fun e w' => e = .returned (.tuple #[.int .i64 (cntN rs s), .int .i64 (cntE rs s)]) ∧ Below w.heap.size w w' := by
  have CC := Lib.hid (cCode5 A n c rs s w hb hs h)
  have CR := Lib.hid (fun (W : World) (h48 : s.size ≤ 48) (hW : Below w.heap.size w W) => cWays A n c rs s W hb h48 ((h.below hW (Nat.le_refl _)).more hW.size))
  clear h
  cases hok : ok5 rs s
  · rw [code5_no hok] at CC
    obtain ⟨e1, e2⟩ := cnt_bad hok
    rw [e1, e2]
    clear hok e1 e2
    go_enter Try.func37, Try.ntmps37
    go_wp2_with (go_at_call 87; refine CC.out.mono ?_; rintro e w1 ⟨rfl, hb1⟩)
    go_ret2
    exact ⟨rfl, hb1⟩
  rw [code5_yes hok] at CC
  have h48 := okT_len (ok5_text hok)
  have CR2 := Lib.hid (fun W hW => CR.out W h48 hW)
  clear CR
  obtain ⟨x, hx⟩ : ∃ x, x = numP rs s := ⟨_, rfl⟩
  have hbd := numP_bd rs s
  rw [← hx] at hbd
  have HX := Lib.hid hx
  by_cases hg : 1000000000000 < x
  · obtain ⟨e1, e2⟩ := cnt_big hok (by rw [← hx]; exact hg)
    rw [e1, e2]
    clear hok e1 e2 hx
    go_enter Try.func37, Try.ntmps37
    go_wp2_with (first
      | (go_at_call 87; refine CC.out.mono ?_; rintro e w1 ⟨rfl, hb1⟩)
      | (go_at_call 88; refine (CR2.out _ hb1).mono ?_; rintro e w2 ⟨rfl, own2, hb2⟩; have k0 : w2.cell? ⟨w1.heap.size, 0, none⟩ = some (.int .i64 x) := (own2.cellAt 0 (by omega)).trans (by rw [waysV_at (by omega), HX.out]; rfl); have HB2 := Lib.hid (hb1.trans (hb2.mono hb1.size)); clear own2 hb2))
    go_ret2
    exact ⟨rfl, HB2.out⟩
  · obtain ⟨e1, e2⟩ := cnt_ok hok (by rw [← hx]; exact hg)
    rw [e1, e2, ← hx]
    clear hok e1 e2 hx
    go_enter Try.func37, Try.ntmps37
    go_wp2_with (first
      | (go_at_call 87; refine CC.out.mono ?_; rintro e w1 ⟨rfl, hb1⟩)
      | (go_at_call 88; refine (CR2.out _ hb1).mono ?_; rintro e w2 ⟨rfl, own2, hb2⟩; have k0 : w2.cell? ⟨w1.heap.size, 0, none⟩ = some (.int .i64 x) := (own2.cellAt 0 (by omega)).trans (by rw [waysV_at (by omega), HX.out]; rfl); have HB2 := Lib.hid (hb1.trans (hb2.mono hb1.size)); clear own2 hb2))
    go_ret2
    exact ⟨rfl, HB2.out⟩
end Go.Proofs.Ytnfdbpfegmodcaa
