/-
  The contracts of IsPlace of the program and of what it calls: holds, lieWithin, entryOf, isRight.
-/
import Derived.Test.YtglmibmjbignbaaGreatDoorMz8
import Derived.Test.YtglmibmjbignbaaGreatDoorPlLaw
import Derived.Test.YtglmibmjbignbaaGreatDoorMz10
import Derived.Test.YtglmibmjbignbaaGreatDoorMz15
import Derived.Laws.Cover1
namespace Go.Proofs.YtglmibmjbignbaaGreatDoor
section
set_option linter.unusedVariables false
open Go.RowKit

theorem cHolds2 (x y u v : Int) (w : World) :
    Calls Tryz.prog 124 #[.agg #[.int .i64 x, .int .i64 y], .agg #[.int .i64 u, .int .i64 v]] w fun e w' => e = .returned (.bool (decide (x ≤ u) && decide (v ≤ y))) ∧ Below w.heap.size w w' := by
  have C1 := Lib.hid (fun W => cMeet x y u v W)
  obtain ⟨W0, hW0⟩ : ∃ W0 : World, W0 = (w.alloc (.cells #[.int .i64 x, .int .i64 y] 26)).alloc (.cells #[.int .i64 u, .int .i64 v] 26) := ⟨_, rfl⟩
  have B0 : Below w.heap.size w W0 := by rw [hW0]; exact ((Below.refl _ _).alloc (Nat.le_refl _) _).alloc (by simp) _
  have K1 : BoxAt W0 w.heap.size x y := by rw [hW0]; exact (BoxAt.new w x y _).alloc _
  have K2 : BoxAt W0 (w.heap.size + 1) u v := by rw [hW0]; have h := BoxAt.new (w.alloc (.cells #[.int .i64 x, .int .i64 y] 26)) u v 26; simpa using h
  have HW := Lib.hid hW0
  clear hW0
  go_enter Tryz.func124, Tryz.ntmps124
  go_wp2_with fail
  rw [← HW.out]
  clear HW
  obtain ⟨l1, a0, a1⟩ := K1
  obtain ⟨l2, b0, b1⟩ := K2
  obtain ⟨T, f, t0, hT, ht0, hf, hback⟩ := class_of W0
  have k0 : ∀ t, (f t).cell? ⟨w.heap.size, 0, none⟩ = some (.int .i64 x) := fun t => ((hf t).cell (p := ⟨w.heap.size, 0, none⟩) l1).trans a0
  have k1 : ∀ t, (f t).cell? ⟨w.heap.size, 1, none⟩ = some (.int .i64 y) := fun t => ((hf t).cell (p := ⟨w.heap.size, 1, none⟩) l1).trans a1
  have k2 : ∀ t, (f t).cell? ⟨w.heap.size + 1, 0, none⟩ = some (.int .i64 u) := fun t => ((hf t).cell (p := ⟨w.heap.size + 1, 0, none⟩) l2).trans b0
  have k3 : ∀ t, (f t).cell? ⟨w.heap.size + 1, 1, none⟩ = some (.int .i64 v) := fun t => ((hf t).cell (p := ⟨w.heap.size + 1, 1, none⟩) l2).trans b1
  have HF := Lib.hid hf
  have HK := Lib.hid hback
  clear hf hback
  refine wp_region_class f t0 ht0 (by kernel_rfl) (by kernel_rfl) ?_
  clear ht0
  have hEq := fun W => run_eqSp (max x u) (min y v) u v W
  have hGd := guard_span
  repeat (go_big_quiet_step (first | (go_at_call 125; exact Calls.class_of HF.out HK.out (C1.out _))))
  refine wpQuiet_nil ?_
  rintro w' ⟨t, rfl⟩
  have hbt := B0.trans ((HF.out t).mono B0.size)
  go_wp2
  go_ret
  refine ⟨ret_bool ?_, hbt⟩
  rw [Bool.eq_iff_iff]
  simp
  omega

/-- The closure that asks whether a name lies outside of the years that it has taken up. -/
theorem cOut1 (x : Nm) (gb : Nat) (f u : Int) (w : World) (hb : Bx w gb [.int .i64 f, .int .i64 u]) :
    Calls Tryz.prog 171 #[nmA x, .pointer (some ⟨gb, 0, none⟩)] w fun e w' => e = .returned (.bool (!(wiB f u x))) ∧ Below w.heap.size w w' := by
  have CH := Lib.hid (fun W => cHolds2 f u x.f x.u W)
  have hA : Below w.heap.size w (w.alloc (.cells #[.string x.t, .string x.l, .int .i64 x.s, .int .i64 x.f, .int .i64 x.u] 100)) := (Below.refl _ _).alloc (Nat.le_refl _) _
  have k0 := (hb.2 0 _ rfl).1
  have k1 := (hb.2 1 _ rfl).1
  have hl := hb.1
  have HA := Lib.hid hA
  have HX : Hid (wiB f u x = (decide (f ≤ x.f) && decide (x.u ≤ u))) := Lib.hid rfl
  rw [HX.out]
  obtain ⟨q, hq⟩ : ∃ q, q = (decide (f ≤ x.f) && decide (x.u ≤ u)) := ⟨_, rfl⟩
  rw [← hq] at CH ⊢
  clear hA hb HX hq
  go_enter Tryz.func171, Tryz.ntmps171
  go_wp2_with fail
  refine (CH.out _).mono ?_
  rintro e w1 ⟨rfl, g1⟩
  have hbt := bstep9 HA.out HA.out.size g1
  clear g1
  go_wp2_with fail
  go_ret
  exact ⟨rfl, hbt⟩

def outB (f u : Int) (x : Nm) : Bool := !(wiB f u x)
theorem anyW_step {f u : Int} {xs : List Nm} {k : Nat} {y : Nm} (h : xs[k]? = some y) (ha : (xs.take k).any (outB f u) = false) (hc : outB f u y = false) : (xs.take (k + 1)).any (outB f u) = false := by
  rw [take_snoc9 h, List.any_append, ha]; simp [hc]
theorem anyW_hit {f u : Int} {xs : List Nm} {k : Nat} {y : Nm} (h : xs[k]? = some y) (hc : outB f u y = true) : xs.any (outB f u) = true := List.any_eq_true.2 ⟨y, List.mem_of_getElem? h, hc⟩
theorem all_any (f u : Int) (xs : List Nm) : xs.all (wiB f u) = !(xs.any (outB f u)) := by
  induction xs with
  | nil => rfl
  | cons x xs ih => rw [List.all_cons, List.any_cons, ih]; unfold outB; cases wiB f u x <;> simp

def IdxW (f u : Int) (xs : List Nm) (w : World) (e : Ending) (w' : World) : Prop :=
  (∃ r : Int, e = .returned (.int .i64 r) ∧ ((xs.any (outB f u) = true ∧ 0 ≤ r) ∨ (xs.any (outB f u) = false ∧ r = -1))) ∧ Below w.heap.size w w'
set_option maxHeartbeats 1000000 in
set_option maxRecDepth 100000 in
theorem cIdxW (A : Option Addr) (n c gb : Nat) (f u : Int) (xs : List Nm) (w : World) (hb : n ≤ 1048576) (h : NmAt w w.heap.size A n xs) (hB : Bx w gb [.int .i64 f, .int .i64 u]) :
    Calls Tryz.prog 189 #[.slice A n c, .func (.func 171) #[] #[.pointer (some ⟨gb, 0, none⟩)]] w (IdxW f u xs w) := by
  have C := Lib.hid (fun y W (hW : Below w.heap.size w W) => cOut1 y gb f u W (hB.next hW))
  have HN := Lib.hid h.1
  have H := Lib.hid h
  clear h hB
  go_enter Tryz.func189, Tryz.ntmps189
  go_wp2
  go_loopw [8] (fun i wr => ∃ k : Nat, k ≤ n ∧ i = .int .i64 k ∧ Hid ((xs.take k).any (outB f u) = false) ∧ Below w.heap.size w wr) (fun i _ => n - (intOf i).toNat)
  case atStart => exact ⟨0, Nat.zero_le _, rfl, Lib.hid (by simp), Below.refl _ _⟩
  case round =>
    obtain ⟨k, hk, rfl, HA, hbw⟩ := hrel
    by_cases hlt : k < n
    · obtain ⟨y, hy⟩ : ∃ y, xs[k]? = some y := ⟨xs[k]'(by have := HN.out; omega), List.getElem?_eq_getElem _⟩
      obtain ⟨b, o, rfl, hbl, c0, c1, c2, c3, c4⟩ := (H.out.below hbw (Nat.le_refl _)).row hy
      have CC := Lib.hid (C.out y wr hbw)
      rw [show (!(wiB f u y)) = outB f u y from rfl] at CC
      have HY := Lib.hid hy
      have u1 : (0 : Int) ≤ (k : Int) := Int.natCast_nonneg _
      have u2 : (k : Int) < (n : Int) := by omega
      clear hy
      cases hv : outB f u y
      · rw [hv] at CC
        have HA2 := Lib.hid (anyW_step HY.out HA.out hv)
        clear hv
        go_wp2_with fail
        refine CC.out.mono ?_
        rintro e w1 ⟨rfl, g1⟩
        have hbt := bstep9 hbw hbw.size g1
        clear g1 c0 c1 c2 c3 c4
        go_wp2_with fail
        go_roundw
        case rel => exact ⟨k + 1, by omega, by go_num, HA2, hbt⟩
        case measure => simp [intOf]; omega
      · rw [hv] at CC
        have HA2 := Lib.hid (anyW_hit HY.out hv)
        clear hv
        go_wp2_with fail
        refine CC.out.mono ?_
        rintro e w1 ⟨rfl, g1⟩
        have hbt := bstep9 hbw hbw.size g1
        clear g1 c0 c1 c2 c3 c4
        go_wp2_with fail
        go_ret
        exact ⟨⟨_, rfl, .inl ⟨HA2.out, by omega⟩⟩, hbt⟩
    · have HA2 : Hid (xs.any (outB f u) = false) := Lib.hid (by have := HA.out; rwa [List.take_of_length_le (by have := HN.out; omega)] at this)
      go_wp2
      go_ret
      exact ⟨⟨_, rfl, .inr ⟨HA2.out, rfl⟩⟩, hbw⟩
theorem cContW (A : Option Addr) (n c gb : Nat) (f u : Int) (xs : List Nm) (w : World) (hb : n ≤ 1048576) (h : NmAt w w.heap.size A n xs) (hB : Bx w gb [.int .i64 f, .int .i64 u]) :
    Calls Tryz.prog 170 #[.slice A n c, .func (.func 171) #[] #[.pointer (some ⟨gb, 0, none⟩)]] w fun e w' => e = .returned (.bool (xs.any (outB f u))) ∧ Below w.heap.size w w' := by
  have C := Lib.hid (cIdxW A n c gb f u xs w hb h hB)
  clear h hB
  go_enter Tryz.func170, Tryz.ntmps170
  go_wp2_with fail
  refine C.out.mono ?_
  rintro e w' ⟨⟨r, rfl, hc⟩, hb1⟩
  rcases hc with ⟨ha, hr⟩ | ⟨ha, rfl⟩
  · have HA := Lib.hid ha
    clear ha
    go_wp2_with fail
    go_ret
    exact ⟨ret_bool HA.out.symm, hb1⟩
  · have HA := Lib.hid ha
    clear ha
    go_wp2_with fail
    go_ret
    exact ⟨ret_bool HA.out.symm, hb1⟩

set_option maxHeartbeats 1000000 in
theorem cLie (A : Option Addr) (n c : Nat) (f u : Int) (xs : List Nm) (w : World) (hb : n ≤ 1048576) (hz : Sz9 xs) (h : NmAt w w.heap.size A n xs) (hcap : n ≤ c) (hsh : w.ShapedOpen Tryz.prog) (her : Er6 w) :
    Calls Tryz.prog 132 #[.slice A n c, .agg #[.int .i64 f, .int .i64 u]] w fun e w' => e = .returned (.bool (namesB xs && xs.all (wiB f u))) ∧ Below w.heap.size w w' := by
  have hmf : ∀ (fn : Fn) (first cap : Array Value) (w : World), (Instr.makeFunc fn first cap).run Tryz.prog w = .ok (.func fn first cap) w := fun _ _ _ _ => rfl
  have hA : Below w.heap.size w (w.alloc (.cells #[.int .i64 f, .int .i64 u] 26)) := (Below.refl _ _).alloc (Nat.le_refl _) _
  have CN := Lib.hid (cAreN_impl A n c xs _ hb hz (h.grow hA) hcap (shaped_below hsh hA) (her.below hA))
  have CW := Lib.hid (fun W (hW : Below w.heap.size w W) (hB : Bx W w.heap.size [.int .i64 f, .int .i64 u]) => cContW A n c w.heap.size f u xs W hb (h.grow hW) hB)
  have HB := Lib.hid (Bx.new w #[.int .i64 f, .int .i64 u] 26)
  have HA := Lib.hid hA
  clear h hz hsh her hA
  rw [all_any]
  obtain ⟨a, ha⟩ : ∃ a, a = namesB xs := ⟨_, rfl⟩
  obtain ⟨q, hq⟩ : ∃ q, q = xs.any (outB f u) := ⟨_, rfl⟩
  rw [← ha] at CN ⊢
  rw [← hq] at CW ⊢
  clear ha hq
  go_enter Tryz.func132, Tryz.ntmps132
  go_wp2_with fail
  refine CN.out.mono ?_
  rintro e w1 ⟨rfl, g1⟩
  have hbt := bstep9 HA.out HA.out.size g1
  have CW1 := Lib.hid (CW.out w1 hbt (HB.out.next g1))
  clear g1
  cases a
  · go_wp2_with fail
    go_ret
    exact ⟨rfl, hbt⟩
  · go_wp2_with fail
    refine CW1.out.mono ?_
    rintro e w2 ⟨rfl, g2⟩
    have hbt2 := bstep9 hbt hbt.size g2
    clear g2
    go_wp2_with fail
    go_ret
    exact ⟨ret_bool (by simp), hbt2⟩

abbrev enA (p : Pl) (A : Option Addr) (d : Nat) : Value := .agg #[.slice A p.ns.length d, .string p.c, .int .i64 p.k, .int .i64 p.f, .int .i64 p.u]
theorem cEntry (p : Pl) (A : Option Addr) (d : Nat) (w : World) :
    Calls Tryz.prog 65 #[plv11 p A d] w fun e w' => e = .returned (enA p A d) ∧ Below w.heap.size w w' := by
  obtain ⟨c, k, f, u, ns⟩ := p
  unfold plv11 enA
  dsimp only
  obtain ⟨n, hn⟩ : ∃ n, n = ns.length := ⟨_, rfl⟩
  rw [← hn]
  clear hn
  go_enter Tryz.func65, Tryz.ntmps65
  go_wp2_with fail
  refine bodyPost_ret (v := .agg #[.slice A n d, .string c, .int .i64 k, .int .i64 f, .int .i64 u]) ?_ rfl ⟨rfl, ?_⟩
  · simp [results, Tryz.results65, go_sem, World.cell?_alloc_at]
  · go_grown

set_option maxHeartbeats 1000000 in
theorem cRight (p : Pl) (A : Option Addr) (d : Nat) (w : World) (hc : p.c.size ≤ maxLen) (hb : p.ns.length ≤ 1048576) (hz : Sz9 p.ns) (h : NmAt w w.heap.size A p.ns.length p.ns) (hcap : p.ns.length ≤ d) (hsh : w.ShapedOpen Tryz.prog) (her : Er6 w) :
    Calls Tryz.prog 81 #[enA p A d] w fun e w' => e = .returned (.bool (plB p)) ∧ Below w.heap.size w w' := by
  have hcs := pl_cases p
  obtain ⟨c, k, f, u, ns⟩ := p
  unfold enA
  dsimp only at hc hb hz h hcap hcs ⊢
  obtain ⟨b, hbb⟩ : ∃ b, b = plB ⟨c, k, f, u, ns⟩ := ⟨_, rfl⟩
  rw [← hbb] at hcs ⊢
  clear hbb
  have CW := Lib.hid (fun W => cIsWord_impl c W hc)
  have CV := Lib.hid (fun W => cValid f u W)
  have CL := Lib.hid (fun W (hW : Below w.heap.size w W) => cLie A ns.length d f u ns W hb hz (h.grow hW) hcap (shaped_below hsh hW) (her.below hW))
  clear h hz hsh her
  obtain ⟨n, hn⟩ : ∃ n, n = ns.length := ⟨_, rfl⟩
  rw [← hn] at hb hcap CL ⊢
  clear hn
  have HA := Lib.hid (below_alloc11 w (.cells #[.slice A n d, .string c, .int .i64 k, .int .i64 f, .int .i64 u] 87))
  have HX := Lib.hid (Bx.new w #[.slice A n d, .string c, .int .i64 k, .int .i64 f, .int .i64 u] 87)
  rcases hcs with ⟨rfl, e1, e2, e3, e4, e5, e6⟩ | ⟨rfl, e1 | ⟨e1, e2 | ⟨e2, e3, e4 | ⟨e4, e5⟩⟩⟩⟩
  · rw [e1] at CW
    rw [e4] at CV
    rw [e5, e6] at CL
    clear e1 e4 e5 e6
    go_enter Tryz.func81, Tryz.ntmps81
    go_wp2_with fail
    refine (CW.out _).mono ?_
    rintro e w1 ⟨rfl, rfl⟩
    go_wp2_with fail
    refine (CV.out _).mono ?_
    rintro e w2 ⟨rfl, g2⟩
    obtain ⟨x0, x1, x2, x3, x4, _⟩ := (HX.out.next g2).five
    have hbt := bstep9 HA.out HA.out.size g2
    have CL2 := Lib.hid (CL.out _ hbt)
    clear g2
    go_wp2_with fail
    refine CL2.out.mono ?_
    rintro e w3 ⟨rfl, g3⟩
    have hbt3 := bstep9 hbt hbt.size g3
    clear g3 x0 x1 x2 x3 x4
    go_wp2_with fail
    go_ret
    exact ⟨rfl, hbt3⟩
  · rw [e1] at CW
    clear e1
    go_enter Tryz.func81, Tryz.ntmps81
    go_wp2_with fail
    refine (CW.out _).mono ?_
    rintro e w1 ⟨rfl, rfl⟩
    go_wp2_with fail
    go_ret
    exact ⟨rfl, HA.out⟩
  · rw [e1] at CW
    clear e1
    by_cases hk : 0 ≤ k
    · have hk2 : ¬ k < 20 := by simp [hk] at e2; omega
      clear e2
      go_enter Tryz.func81, Tryz.ntmps81
      go_wp2_with fail
      refine (CW.out _).mono ?_
      rintro e w1 ⟨rfl, rfl⟩
      go_wp2_with fail
      go_ret
      exact ⟨rfl, HA.out⟩
    · clear e2
      go_enter Tryz.func81, Tryz.ntmps81
      go_wp2_with fail
      refine (CW.out _).mono ?_
      rintro e w1 ⟨rfl, rfl⟩
      go_wp2_with fail
      go_ret
      exact ⟨rfl, HA.out⟩
  · rw [e1] at CW
    rw [e4] at CV
    clear e1 e4
    go_enter Tryz.func81, Tryz.ntmps81
    go_wp2_with fail
    refine (CW.out _).mono ?_
    rintro e w1 ⟨rfl, rfl⟩
    go_wp2_with fail
    refine (CV.out _).mono ?_
    rintro e w2 ⟨rfl, g2⟩
    have hbt := bstep9 HA.out HA.out.size g2
    clear g2
    go_wp2_with fail
    go_ret
    exact ⟨rfl, hbt⟩
  · have e6 : (namesB ns && ns.all (wiB f u)) = false := by
      rcases e5 with e5 | ⟨e5, e6⟩
      · rw [e5]; rfl
      · rw [e5, e6]; rfl
    rw [e1] at CW
    rw [e4] at CV
    rw [e6] at CL
    clear e1 e4 e5 e6
    go_enter Tryz.func81, Tryz.ntmps81
    go_wp2_with fail
    refine (CW.out _).mono ?_
    rintro e w1 ⟨rfl, rfl⟩
    go_wp2_with fail
    refine (CV.out _).mono ?_
    rintro e w2 ⟨rfl, g2⟩
    obtain ⟨x0, x1, x2, x3, x4, _⟩ := (HX.out.next g2).five
    have hbt := bstep9 HA.out HA.out.size g2
    have CL2 := Lib.hid (CL.out _ hbt)
    clear g2
    go_wp2_with fail
    refine CL2.out.mono ?_
    rintro e w3 ⟨rfl, g3⟩
    have hbt3 := bstep9 hbt hbt.size g3
    clear g3 x0 x1 x2 x3 x4
    go_wp2_with fail
    go_ret
    exact ⟨rfl, hbt3⟩
set_option maxHeartbeats 1000000 in
theorem cIsPl_impl (p : Pl) (A : Option Addr) (d : Nat) (w : World) (hc : p.c.size ≤ maxLen) (hb : p.ns.length ≤ 1048576) (hz : Sz9 p.ns) (h : NmAt w w.heap.size A p.ns.length p.ns) (hcap : p.ns.length ≤ d) (hsh : w.ShapedOpen Tryz.prog) (her : Er6 w) :
    Calls Tryz.prog 25 #[plv11 p A d] w fun e w' => e = .returned (.bool (plB p)) ∧ Below w.heap.size w w' := by
  have CE := Lib.hid (fun W => cEntry p A d W)
  have CR := Lib.hid (fun W (hW : Below w.heap.size w W) => cRight p A d W hc hb hz (h.grow hW) hcap (shaped_below hsh hW) (her.below hW))
  clear h hz hsh her
  obtain ⟨b, hbb⟩ : ∃ b, b = plB p := ⟨_, rfl⟩
  rw [← hbb] at CR ⊢
  clear hbb
  have HA := Lib.hid (below_alloc11 w (.cells #[.string p.c, .int .i64 p.k, .int .i64 p.f, .int .i64 p.u, .slice A p.ns.length d] 29))
  go_enter Tryz.func25, Tryz.ntmps25
  go_wp2_with fail
  refine (CE.out _).mono ?_
  rintro e w1 ⟨rfl, g1⟩
  have hbt := bstep9 HA.out HA.out.size g1
  have CR2 := Lib.hid (CR.out _ hbt)
  clear g1
  go_wp2_with fail
  refine CR2.out.mono ?_
  rintro e w2 ⟨rfl, g2⟩
  have hbt2 := bstep9 hbt hbt.size g2
  clear g2
  go_wp2_with fail
  go_ret
  exact ⟨rfl, hbt2⟩
end
section
set_option linter.unusedVariables false
open Go.RowKit

theorem bytesLess11 (a b : ByteArray) : Op.bytesLess a.toList b.toList = ltB a b := less_dec a b
theorem le_yes {a b : ByteArray} (h : ltB b a = true) : Op.bytesLess a.toList b.toList = false ∧ (a.toList == b.toList) = false := by
  rw [bytesLess11, toList_beq]
  rw [ltB_iff] at h
  refine ⟨(ltB_not _ _).2 (fun k => ltT_irr _ (ltT_tr _ _ _ h k)), decide_eq_false (fun e => ?_)⟩
  subst e; exact ltT_irr _ h
theorem le_no {a b : ByteArray} (h : ltB b a = false) : (Op.bytesLess a.toList b.toList = true ∧ (a.toList == b.toList) = false) ∨ (Op.bytesLess a.toList b.toList = false ∧ (a.toList == b.toList) = true) := by
  rw [bytesLess11, toList_beq]
  rw [ltB_not] at h
  by_cases e : a = b
  · subst e; exact .inr ⟨(ltB_not _ _).2 (ltT_irr _), decide_eq_true rfl⟩
  · exact .inl ⟨(ltB_iff _ _).2 (ltT_tri _ _ h (fun k => e k.symm)), decide_eq_false e⟩
set_option maxHeartbeats 4000000 in
set_option maxRecDepth 100000 in
theorem cIsReg_impl (A : Option Addr) (n c : Nat) (ps : List Pl) (w : World) (hb : n ≤ 1048576) (hz : Sz11 ps) (h : PlAt w w.heap.size A n ps) (hsh : w.ShapedOpen Tryz.prog) (her : Er6 w) :
    Calls Tryz.prog 23 #[.slice A n c] w fun e w' => e = .returned (.bool (regB ps)) ∧ Below w.heap.size w w' := by
  have HN := Lib.hid h.1
  have H := Lib.hid h
  have CC := Lib.hid (fun (p : Pl) (hp : p ∈ ps) A d W (hW : Below w.heap.size w W) (hn : NmAt W W.heap.size A p.ns.length p.ns) (hd : p.ns.length ≤ d) =>
    cIsPl_impl p A d W (by have := (hz p hp).1; unfold maxLen; omega) (hz p hp).2.1 (hz p hp).2.2 hn hd (shaped_below hsh hW) (her.below hW))
  clear h hsh her hz
  by_cases hlen : 10 < n
  · have HX := Lib.hid (reg_long (ps := ps) (by have := HN.out; omega))
    go_enter Tryz.func23, Tryz.ntmps23
    go_wp2_with fail
    go_ret
    exact ⟨ret_bool HX.out.symm, Below.refl _ _⟩
  go_enter Tryz.func23, Tryz.ntmps23
  go_wp2_with fail
  go_loopw [10] (fun i wr => ∃ k : Nat, k ≤ n ∧ i = .int .i64 k ∧ Hid (GoodP (ps.take k)) ∧ Below w.heap.size w wr) (fun i _ => n - (intOf i).toNat)
  case atStart => exact ⟨0, Nat.zero_le _, rfl, Lib.hid (goodP_zero ps), Below.refl _ _⟩
  case round =>
    obtain ⟨k, hk, rfl, HG, hbw⟩ := hrel
    by_cases hlt : k < n
    · obtain ⟨p, hp⟩ : ∃ p, ps[k]? = some p := ⟨ps[k]'(by have := HN.out; omega), List.getElem?_eq_getElem _⟩
      have hrow := (H.out.below hbw (Nat.le_refl _)).row hp
      have HPREV : Hid (0 < k → ∃ q A' d', ps[k - 1]? = some q ∧ ∃ b o, A = some ⟨b, o, none⟩ ∧ b < w.heap.size ∧ wr.cell? ⟨b, o + (k - 1) * 5, none⟩ = some (.string q.c)) := Lib.hid (fun h0 => by
        obtain ⟨q, hq⟩ : ∃ q, ps[k - 1]? = some q := ⟨ps[k - 1]'(by have := HN.out; omega), List.getElem?_eq_getElem _⟩
        obtain ⟨b, o, h1, h2, A', d', h3, _⟩ := (H.out.below hbw (Nat.le_refl _)).row hq
        exact ⟨q, A', d', hq, b, o, h1, h2, h3⟩)
      obtain ⟨b, o, rfl, hbl, A1, d1, c0, c1, c2, c3, c4, hnm, hd⟩ := hrow
      have hbo := hbw.alloc hbw.size (.cells #[.string p.c, .int .i64 p.k, .int .i64 p.f, .int .i64 p.u, .slice A1 p.ns.length d1] 29)
      have CX := Lib.hid (fun W (hW : Below wr.heap.size wr W) => CC.out p (List.mem_of_getElem? hp) A1 d1 W (bstep9 hbw hbw.size hW) ((hnm.more hbw.size).grow hW) hd)
      have HBX := Lib.hid (Bx.new wr #[.string p.c, .int .i64 p.k, .int .i64 p.f, .int .i64 p.u, .slice A1 p.ns.length d1] 29)
      have HP := Lib.hid hp
      have HB := Lib.hid hbw
      have HBO := Lib.hid hbo
      have HBL := Lib.hid (Nat.lt_of_lt_of_le hbl hbw.size)
      have u1 : (0 : Int) ≤ (k : Int) := Int.natCast_nonneg _
      have u2 : (k : Int) < (n : Int) := by omega
      obtain ⟨q, hq⟩ : ∃ q, q = plB p := ⟨_, rfl⟩
      rw [← hq] at CX
      clear hp hnm hbo
      go_wp2_with fail
      obtain ⟨W0, hW0⟩ : ∃ W0 : World, W0 = wr.alloc (.cells #[.string p.c, .int .i64 p.k, .int .i64 p.f, .int .i64 p.u, .slice A1 p.ns.length d1] 29) := ⟨_, rfl⟩
      rw [← hW0]
      have HBW : Hid (Below wr.heap.size wr W0) := Lib.hid (by rw [hW0]; exact below_alloc11 _ _)
      rw [← hW0] at HBX HBO
      obtain ⟨T, f, t0, hT, ht0, hf, hback⟩ := class_of W0
      have k0 : ∀ t, (f t).cell? ⟨wr.heap.size, 0, none⟩ = some (.string p.c) := fun t => (HBX.out.next (hf t)).five.1
      have k1 : ∀ t, (f t).cell? ⟨wr.heap.size, 1, none⟩ = some (.int .i64 p.k) := fun t => (HBX.out.next (hf t)).five.2.1
      have k2 : ∀ t, (f t).cell? ⟨wr.heap.size, 2, none⟩ = some (.int .i64 p.f) := fun t => (HBX.out.next (hf t)).five.2.2.1
      have k3 : ∀ t, (f t).cell? ⟨wr.heap.size, 3, none⟩ = some (.int .i64 p.u) := fun t => (HBX.out.next (hf t)).five.2.2.2.1
      have k4 : ∀ t, (f t).cell? ⟨wr.heap.size, 4, none⟩ = some (.slice A1 p.ns.length d1) := fun t => (HBX.out.next (hf t)).five.2.2.2.2.1
      have HF := Lib.hid hf
      have HK := Lib.hid hback
      clear hf hback c0 c1 c2 c3 c4 hW0
      cases q
      · have HX := Lib.hid (reg_no (goodP_bad HP.out hq.symm))
        clear hq
        refine wp_region_class f t0 ht0 (by kernel_rfl) (by kernel_rfl) ?_
        clear ht0
        repeat (go_big_quiet_step (first | (go_at_call 25; exact Calls.class_of HF.out HK.out (CX.out _ (bstep9 HBW.out HBW.out.size (HF.out _))))))
        refine wpQuiet_nil ?_
        rintro w' ⟨t, rfl⟩
        have hbt := bstep9 HBO.out HBO.out.size (HF.out t)
        go_wp2_with fail
        go_ret
        exact ⟨ret_bool HX.out.symm, hbt⟩
      · have HQ := Lib.hid hq
        clear hq
        by_cases h0 : 0 < k
        · obtain ⟨q', A', d', hq', b', o', hA', _, hc'⟩ := HPREV.out h0
          obtain ⟨rfl, rfl⟩ : b = b' ∧ o = o' := by injection hA' with hA'; injection hA' with e1 e2; exact ⟨e1, e2⟩
          have m0 : ∀ t, (f t).cell? ⟨b, o + (k - 1) * 5, none⟩ = some (.string q'.c) := fun t => ((HF.out t).cell (p := ⟨b, o + (k - 1) * 5, none⟩) (Nat.lt_of_lt_of_le HBL.out HBW.out.size)).trans ((HBW.out.cell (p := ⟨b, o + (k - 1) * 5, none⟩) HBL.out).trans hc')
          have u3 : (0 : Int) < (k : Int) := by omega
          have u4 : (0 : Int) ≤ (k : Int) - 1 := by omega
          have u5 : (k : Int) - 1 < (n : Int) := by omega
          have u6 : ((k : Int) - 1).toNat = k - 1 := by omega
          have u7 : IntKind.i64.wrap ((k : Int) - 1) = (k : Int) - 1 := by rw [IntKind.wrap_i64]; omega
          have HQ' := Lib.hid hq'
          clear hA' hc' hq'
          rcases hv : ltB q'.c p.c with _ | _
          · have HX := Lib.hid (reg_no (goodP_ord HP.out h0 HQ'.out hv))
            rcases le_no hv with ⟨hl1, hl2⟩ | ⟨hl1, hl2⟩
            all_goals
              clear hv
              refine wp_region_class f t0 ht0 (by kernel_rfl) (by kernel_rfl) ?_
              clear ht0
              repeat (go_big_quiet_step (first | (go_at_call 25; exact Calls.class_of HF.out HK.out (CX.out _ (bstep9 HBW.out HBW.out.size (HF.out _))))))
              refine wpQuiet_nil ?_
              rintro w' ⟨t, rfl⟩
              have hbt := bstep9 HBO.out HBO.out.size (HF.out t)
              go_wp2_with fail
              go_ret
              exact ⟨ret_bool HX.out.symm, hbt⟩
          · have HG2 := Lib.hid (goodP_step HP.out HG.out HQ.out.symm (fun x _ hx => by rw [HQ'.out] at hx; obtain rfl := Option.some.inj hx; exact hv))
            obtain ⟨hl1, hl2⟩ := le_yes hv
            clear hv
            refine wp_region_class f t0 ht0 (by kernel_rfl) (by kernel_rfl) ?_
            clear ht0
            repeat (go_big_quiet_step (first | (go_at_call 25; exact Calls.class_of HF.out HK.out (CX.out _ (bstep9 HBW.out HBW.out.size (HF.out _))))))
            refine wpQuiet_nil ?_
            rintro w' ⟨t, rfl⟩
            have hbt := bstep9 HBO.out HBO.out.size (HF.out t)
            go_wp2_with fail
            go_roundw
            case rel => exact ⟨k + 1, by omega, by go_num, HG2, hbt⟩
            case measure => simp [intOf]; omega
        · obtain rfl : k = 0 := by omega
          have HG2 := Lib.hid (goodP_step HP.out HG.out HQ.out.symm (fun x hx => absurd hx (by omega)))
          refine wp_region_class f t0 ht0 (by kernel_rfl) (by kernel_rfl) ?_
          clear ht0
          repeat (go_big_quiet_step (first | (go_at_call 25; exact Calls.class_of HF.out HK.out (CX.out _ (bstep9 HBW.out HBW.out.size (HF.out _))))))
          refine wpQuiet_nil ?_
          rintro w' ⟨t, rfl⟩
          have hbt := bstep9 HBO.out HBO.out.size (HF.out t)
          go_wp2_with fail
          go_roundw
          case rel => exact ⟨0 + 1, by omega, by go_num, HG2, hbt⟩
          case measure => simp [intOf]; omega
    · have HG2 := Lib.hid (reg_yes (ps := ps) (by have := HN.out; omega) (goodP_end (k := k) (by have := HN.out; omega) HG.out))
      go_wp2_with fail
      go_ret
      exact ⟨ret_bool HG2.out.symm, hbw⟩
end
end Go.Proofs.YtglmibmjbignbaaGreatDoor
