/-
  The contracts of IsPlace of the program and of what it calls: holds, lieWithin, entryOf, isRight.
-/
import Derived.Test.YtkbkgbhnfopgnaaDoorPlPlain
import Derived.Test.YtkbkgbhnfopgnaaDoorPlLaw
import Derived.Test.YtkbkgbhnfopgnaaDoorBx
import Derived.Test.YtkbkgbhnfopgnaaDoorAreN
import Derived.Test.YtkbkgbhnfopgnaaDoorHas
namespace Go.Proofs.YtkbkgbhnfopgnaaDoor
set_option linter.unusedVariables false
open Go.RowKit

theorem cHolds2 (x y u v : Int) (w : World) :
    Calls Tryd.prog 77 #[.agg #[.int .i64 x, .int .i64 y], .agg #[.int .i64 u, .int .i64 v]] w fun e w' => e = .returned (.bool (decide (x ≤ u) && decide (v ≤ y))) ∧ Below w.heap.size w w' := by
  have C1 := Lib.hid (fun W => cMeet x y u v W)
  obtain ⟨W0, hW0⟩ : ∃ W0 : World, W0 = (w.alloc (.cells #[.int .i64 x, .int .i64 y] 29)).alloc (.cells #[.int .i64 u, .int .i64 v] 29) := ⟨_, rfl⟩
  have B0 : Below w.heap.size w W0 := by rw [hW0]; exact ((Below.refl _ _).alloc (Nat.le_refl _) _).alloc (by simp) _
  have K1 : BoxAt W0 w.heap.size x y := by rw [hW0]; exact (BoxAt.new w x y _).alloc _
  have K2 : BoxAt W0 (w.heap.size + 1) u v := by rw [hW0]; have h := BoxAt.new (w.alloc (.cells #[.int .i64 x, .int .i64 y] 29)) u v 29; simpa using h
  have HW := Lib.hid hW0
  clear hW0
  go_enter Tryd.func77, Tryd.ntmps77
  go_wp2_with fail
  rw [← HW.out]
  clear HW
  obtain ⟨l1, a0, a1⟩ := K1
  obtain ⟨l2, b0, b1⟩ := K2
  obtain ⟨T, f, t0, hT, ht0, hf, hback⟩ := class_of W0
  have k0 : ∀ t, (f t).cell? ⟨w.heap.size, 0, none⟩ = some (.int .i64 x) := fun t => ((hf t).cell (p := ⟨w.heap.size, 0, none⟩) l1).trans a0
  have k1 : ∀ t, (f t).cell? ⟨w.heap.size, 1, none⟩ = some (.int .i64 y) := fun t => ((hf t).cell (p := ⟨w.heap.size, 1, none⟩) l1).trans a1
  have k2 : ∀ t, (f t).cell? ⟨w.heap.size + 1, 0, none⟩ = some (.int .i64 u) := fun t => ((hf t).cell (p := ⟨w.heap.size + 1, 0, none⟩) l2).trans b0
  have k3 : ∀ t, (f t).cell? ⟨w.heap.size + 1, 1, none⟩ = some (.int .i64 v) := fun t => ((hf t).cell (p := ⟨w.heap.size + 1, 1, none⟩) l2).trans b1
  have HF := Lib.hid hf
  have HK := Lib.hid hback
  clear hf hback
  refine wp_region_class f t0 ht0 (by kernel_rfl) (by kernel_rfl) ?_
  clear ht0
  have hEq := fun W => run_eqSp (max x u) (min y v) u v W
  have hGd := guard_span
  repeat (go_big_quiet_step (first | (go_at_call 81; exact Calls.class_of HF.out HK.out (C1.out _))))
  refine wpQuiet_nil ?_
  rintro w' ⟨t, rfl⟩
  have hbt := B0.trans ((HF.out t).mono B0.size)
  go_wp2
  go_ret
  refine ⟨ret_bool ?_, hbt⟩
  rw [Bool.eq_iff_iff]
  simp
  omega

/-- The closure that asks whether a name lies outside of the years that it has taken up. -/
theorem cOut1 (x : Nm) (gb : Nat) (f u : Int) (w : World) (hb : Bx w gb [.int .i64 f, .int .i64 u]) :
    Calls Tryd.prog 86 #[nmA x, .pointer (some ⟨gb, 0, none⟩)] w fun e w' => e = .returned (.bool (!(wiB f u x))) ∧ Below w.heap.size w w' := by
  have CH := Lib.hid (fun W => cHolds2 f u x.f x.u W)
  have hA : Below w.heap.size w (w.alloc (.cells #[.string x.t, .string x.l, .int .i64 x.s, .int .i64 x.f, .int .i64 x.u] 65)) := (Below.refl _ _).alloc (Nat.le_refl _) _
  have k0 := (hb.2 0 _ rfl).1
  have k1 := (hb.2 1 _ rfl).1
  have hl := hb.1
  have HA := Lib.hid hA
  have HX : Hid (wiB f u x = (decide (f ≤ x.f) && decide (x.u ≤ u))) := Lib.hid rfl
  rw [HX.out]
  obtain ⟨q, hq⟩ : ∃ q, q = (decide (f ≤ x.f) && decide (x.u ≤ u)) := ⟨_, rfl⟩
  rw [← hq] at CH ⊢
  clear hA hb HX hq
  go_enter Tryd.func86, Tryd.ntmps86
  go_wp2_with fail
  refine (CH.out _).mono ?_
  rintro e w1 ⟨rfl, g1⟩
  have hbt := bstep9 HA.out HA.out.size g1
  clear g1
  go_wp2_with fail
  go_ret
  exact ⟨rfl, hbt⟩

def outB (f u : Int) (x : Nm) : Bool := !(wiB f u x)
theorem anyW_step {f u : Int} {xs : List Nm} {k : Nat} {y : Nm} (h : xs[k]? = some y) (ha : (xs.take k).any (outB f u) = false) (hc : outB f u y = false) : (xs.take (k + 1)).any (outB f u) = false := by
  rw [take_snoc9 h, List.any_append, ha]; simp [hc]
theorem anyW_hit {f u : Int} {xs : List Nm} {k : Nat} {y : Nm} (h : xs[k]? = some y) (hc : outB f u y = true) : xs.any (outB f u) = true := List.any_eq_true.2 ⟨y, List.mem_of_getElem? h, hc⟩
theorem all_any (f u : Int) (xs : List Nm) : xs.all (wiB f u) = !(xs.any (outB f u)) := by
  induction xs with
  | nil => rfl
  | cons x xs ih => rw [List.all_cons, List.any_cons, ih]; unfold outB; cases wiB f u x <;> simp

def IdxW (f u : Int) (xs : List Nm) (w : World) (e : Ending) (w' : World) : Prop :=
  (∃ r : Int, e = .returned (.int .i64 r) ∧ ((xs.any (outB f u) = true ∧ 0 ≤ r) ∨ (xs.any (outB f u) = false ∧ r = -1))) ∧ Below w.heap.size w w'
set_option maxHeartbeats 1000000 in
set_option maxRecDepth 100000 in
theorem cIdxW (A : Option Addr) (n c gb : Nat) (f u : Int) (xs : List Nm) (w : World) (hb : n ≤ 1048576) (h : NmAt w w.heap.size A n xs) (hB : Bx w gb [.int .i64 f, .int .i64 u]) :
    Calls Tryd.prog 92 #[.slice A n c, .func (.func 86) #[] #[.pointer (some ⟨gb, 0, none⟩)]] w (IdxW f u xs w) := by
  have C := Lib.hid (fun y W (hW : Below w.heap.size w W) => cOut1 y gb f u W (hB.next hW))
  have HN := Lib.hid h.1
  have H := Lib.hid h
  clear h hB
  go_enter Tryd.func92, Tryd.ntmps92
  go_wp2
  go_loopw [8] (fun i wr => ∃ k : Nat, k ≤ n ∧ i = .int .i64 k ∧ Hid ((xs.take k).any (outB f u) = false) ∧ Below w.heap.size w wr) (fun i _ => n - (intOf i).toNat)
  case atStart => exact ⟨0, Nat.zero_le _, rfl, Lib.hid (by simp), Below.refl _ _⟩
  case round =>
    obtain ⟨k, hk, rfl, HA, hbw⟩ := hrel
    by_cases hlt : k < n
    · obtain ⟨y, hy⟩ : ∃ y, xs[k]? = some y := ⟨xs[k]'(by have := HN.out; omega), List.getElem?_eq_getElem _⟩
      obtain ⟨b, o, rfl, hbl, c0, c1, c2, c3, c4⟩ := (H.out.below hbw (Nat.le_refl _)).row hy
      have CC := Lib.hid (C.out y wr hbw)
      rw [show (!(wiB f u y)) = outB f u y from rfl] at CC
      have HY := Lib.hid hy
      have u1 : (0 : Int) ≤ (k : Int) := Int.natCast_nonneg _
      have u2 : (k : Int) < (n : Int) := by omega
      clear hy
      cases hv : outB f u y
      · rw [hv] at CC
        have HA2 := Lib.hid (anyW_step HY.out HA.out hv)
        clear hv
        go_wp2_with fail
        refine CC.out.mono ?_
        rintro e w1 ⟨rfl, g1⟩
        have hbt := bstep9 hbw hbw.size g1
        clear g1 c0 c1 c2 c3 c4
        go_wp2_with fail
        go_roundw
        case rel => exact ⟨k + 1, by omega, by go_num, HA2, hbt⟩
        case measure => simp [intOf]; omega
      · rw [hv] at CC
        have HA2 := Lib.hid (anyW_hit HY.out hv)
        clear hv
        go_wp2_with fail
        refine CC.out.mono ?_
        rintro e w1 ⟨rfl, g1⟩
        have hbt := bstep9 hbw hbw.size g1
        clear g1 c0 c1 c2 c3 c4
        go_wp2_with fail
        go_ret
        exact ⟨⟨_, rfl, .inl ⟨HA2.out, by omega⟩⟩, hbt⟩
    · have HA2 : Hid (xs.any (outB f u) = false) := Lib.hid (by have := HA.out; rwa [List.take_of_length_le (by have := HN.out; omega)] at this)
      go_wp2
      go_ret
      exact ⟨⟨_, rfl, .inr ⟨HA2.out, rfl⟩⟩, hbw⟩
theorem cContW (A : Option Addr) (n c gb : Nat) (f u : Int) (xs : List Nm) (w : World) (hb : n ≤ 1048576) (h : NmAt w w.heap.size A n xs) (hB : Bx w gb [.int .i64 f, .int .i64 u]) :
    Calls Tryd.prog 85 #[.slice A n c, .func (.func 86) #[] #[.pointer (some ⟨gb, 0, none⟩)]] w fun e w' => e = .returned (.bool (xs.any (outB f u))) ∧ Below w.heap.size w w' := by
  have C := Lib.hid (cIdxW A n c gb f u xs w hb h hB)
  clear h hB
  go_enter Tryd.func85, Tryd.ntmps85
  go_wp2_with fail
  refine C.out.mono ?_
  rintro e w' ⟨⟨r, rfl, hc⟩, hb1⟩
  rcases hc with ⟨ha, hr⟩ | ⟨ha, rfl⟩
  · have HA := Lib.hid ha
    clear ha
    go_wp2_with fail
    go_ret
    exact ⟨ret_bool HA.out.symm, hb1⟩
  · have HA := Lib.hid ha
    clear ha
    go_wp2_with fail
    go_ret
    exact ⟨ret_bool HA.out.symm, hb1⟩

set_option maxHeartbeats 1000000 in
theorem cLie (A : Option Addr) (n c : Nat) (f u : Int) (xs : List Nm) (w : World) (hb : n ≤ 1048576) (hz : Sz9 xs) (h : NmAt w w.heap.size A n xs) (hcap : n ≤ c) (hsh : w.ShapedOpen Tryd.prog) (her : Er6 w) :
    Calls Tryd.prog 70 #[.slice A n c, .agg #[.int .i64 f, .int .i64 u]] w fun e w' => e = .returned (.bool (namesB xs && xs.all (wiB f u))) ∧ Below w.heap.size w w' := by
  have hmf : ∀ (fn : Fn) (first cap : Array Value) (w : World), (Instr.makeFunc fn first cap).run Tryd.prog w = .ok (.func fn first cap) w := fun _ _ _ _ => rfl
  have hA : Below w.heap.size w (w.alloc (.cells #[.int .i64 f, .int .i64 u] 29)) := (Below.refl _ _).alloc (Nat.le_refl _) _
  have CN := Lib.hid (cAreN_impl A n c xs _ hb hz (h.grow hA) hcap (shaped_below hsh hA) (her.below hA))
  have CW := Lib.hid (fun W (hW : Below w.heap.size w W) (hB : Bx W w.heap.size [.int .i64 f, .int .i64 u]) => cContW A n c w.heap.size f u xs W hb (h.grow hW) hB)
  have HB := Lib.hid (Bx.new w #[.int .i64 f, .int .i64 u] 29)
  have HA := Lib.hid hA
  clear h hz hsh her hA
  rw [all_any]
  obtain ⟨a, ha⟩ : ∃ a, a = namesB xs := ⟨_, rfl⟩
  obtain ⟨q, hq⟩ : ∃ q, q = xs.any (outB f u) := ⟨_, rfl⟩
  rw [← ha] at CN ⊢
  rw [← hq] at CW ⊢
  clear ha hq
  go_enter Tryd.func70, Tryd.ntmps70
  go_wp2_with fail
  refine CN.out.mono ?_
  rintro e w1 ⟨rfl, g1⟩
  have hbt := bstep9 HA.out HA.out.size g1
  have CW1 := Lib.hid (CW.out w1 hbt (HB.out.next g1))
  clear g1
  cases a
  · go_wp2_with fail
    go_ret
    exact ⟨rfl, hbt⟩
  · go_wp2_with fail
    refine CW1.out.mono ?_
    rintro e w2 ⟨rfl, g2⟩
    have hbt2 := bstep9 hbt hbt.size g2
    clear g2
    go_wp2_with fail
    go_ret
    exact ⟨ret_bool (by simp), hbt2⟩

abbrev enA (p : Pl) (A : Option Addr) (d : Nat) : Value := .agg #[.slice A p.ns.length d, .string p.c, .int .i64 p.k, .int .i64 p.f, .int .i64 p.u]
theorem cEntry (p : Pl) (A : Option Addr) (d : Nat) (w : World) :
    Calls Tryd.prog 40 #[plv11 p A d] w fun e w' => e = .returned (enA p A d) ∧ Below w.heap.size w w' := by
  obtain ⟨c, k, f, u, ns⟩ := p
  unfold plv11 enA
  dsimp only
  obtain ⟨n, hn⟩ : ∃ n, n = ns.length := ⟨_, rfl⟩
  rw [← hn]
  clear hn
  go_enter Tryd.func40, Tryd.ntmps40
  go_wp2_with fail
  refine bodyPost_ret (v := .agg #[.slice A n d, .string c, .int .i64 k, .int .i64 f, .int .i64 u]) ?_ rfl ⟨rfl, ?_⟩
  · simp [results, Tryd.results40, go_sem, World.cell?_alloc_at]
  · go_grown

set_option maxHeartbeats 1000000 in
theorem cRight (p : Pl) (A : Option Addr) (d : Nat) (w : World) (hc : p.c.size ≤ maxLen) (hb : p.ns.length ≤ 1048576) (hz : Sz9 p.ns) (h : NmAt w w.heap.size A p.ns.length p.ns) (hcap : p.ns.length ≤ d) (hsh : w.ShapedOpen Tryd.prog) (her : Er6 w) :
    Calls Tryd.prog 41 #[enA p A d] w fun e w' => e = .returned (.bool (plB p)) ∧ Below w.heap.size w w' := by
  have hcs := pl_cases p
  obtain ⟨c, k, f, u, ns⟩ := p
  unfold enA
  dsimp only at hc hb hz h hcap hcs ⊢
  obtain ⟨b, hbb⟩ : ∃ b, b = plB ⟨c, k, f, u, ns⟩ := ⟨_, rfl⟩
  rw [← hbb] at hcs ⊢
  clear hbb
  have CW := Lib.hid (fun W => cIsWord_impl c W hc)
  have CV := Lib.hid (fun W => cValid f u W)
  have CL := Lib.hid (fun W (hW : Below w.heap.size w W) => cLie A ns.length d f u ns W hb hz (h.grow hW) hcap (shaped_below hsh hW) (her.below hW))
  clear h hz hsh her
  obtain ⟨n, hn⟩ : ∃ n, n = ns.length := ⟨_, rfl⟩
  rw [← hn] at hb hcap CL ⊢
  clear hn
  have HA := Lib.hid (below_alloc11 w (.cells #[.slice A n d, .string c, .int .i64 k, .int .i64 f, .int .i64 u] 70))
  have HX := Lib.hid (Bx.new w #[.slice A n d, .string c, .int .i64 k, .int .i64 f, .int .i64 u] 70)
  rcases hcs with ⟨rfl, e1, e2, e3, e4, e5, e6⟩ | ⟨rfl, e1 | ⟨e1, e2 | ⟨e2, e3, e4 | ⟨e4, e5⟩⟩⟩⟩
  · rw [e1] at CW
    rw [e4] at CV
    rw [e5, e6] at CL
    clear e1 e4 e5 e6
    go_enter Tryd.func41, Tryd.ntmps41
    go_wp2_with fail
    refine (CW.out _).mono ?_
    rintro e w1 ⟨rfl, rfl⟩
    go_wp2_with fail
    refine (CV.out _).mono ?_
    rintro e w2 ⟨rfl, g2⟩
    obtain ⟨x0, x1, x2, x3, x4, _⟩ := (HX.out.next g2).five
    have hbt := bstep9 HA.out HA.out.size g2
    have CL2 := Lib.hid (CL.out _ hbt)
    clear g2
    go_wp2_with fail
    refine CL2.out.mono ?_
    rintro e w3 ⟨rfl, g3⟩
    have hbt3 := bstep9 hbt hbt.size g3
    clear g3 x0 x1 x2 x3 x4
    go_wp2_with fail
    go_ret
    exact ⟨rfl, hbt3⟩
  · rw [e1] at CW
    clear e1
    go_enter Tryd.func41, Tryd.ntmps41
    go_wp2_with fail
    refine (CW.out _).mono ?_
    rintro e w1 ⟨rfl, rfl⟩
    go_wp2_with fail
    go_ret
    exact ⟨rfl, HA.out⟩
  · rw [e1] at CW
    clear e1
    by_cases hk : 0 ≤ k
    · have hk2 : ¬ k < 20 := by simp [hk] at e2; omega
      clear e2
      go_enter Tryd.func41, Tryd.ntmps41
      go_wp2_with fail
      refine (CW.out _).mono ?_
      rintro e w1 ⟨rfl, rfl⟩
      go_wp2_with fail
      go_ret
      exact ⟨rfl, HA.out⟩
    · clear e2
      go_enter Tryd.func41, Tryd.ntmps41
      go_wp2_with fail
      refine (CW.out _).mono ?_
      rintro e w1 ⟨rfl, rfl⟩
      go_wp2_with fail
      go_ret
      exact ⟨rfl, HA.out⟩
  · rw [e1] at CW
    rw [e4] at CV
    clear e1 e4
    go_enter Tryd.func41, Tryd.ntmps41
    go_wp2_with fail
    refine (CW.out _).mono ?_
    rintro e w1 ⟨rfl, rfl⟩
    go_wp2_with fail
    refine (CV.out _).mono ?_
    rintro e w2 ⟨rfl, g2⟩
    have hbt := bstep9 HA.out HA.out.size g2
    clear g2
    go_wp2_with fail
    go_ret
    exact ⟨rfl, hbt⟩
  · have e6 : (namesB ns && ns.all (wiB f u)) = false := by
      rcases e5 with e5 | ⟨e5, e6⟩
      · rw [e5]; rfl
      · rw [e5, e6]; rfl
    rw [e1] at CW
    rw [e4] at CV
    rw [e6] at CL
    clear e1 e4 e5 e6
    go_enter Tryd.func41, Tryd.ntmps41
    go_wp2_with fail
    refine (CW.out _).mono ?_
    rintro e w1 ⟨rfl, rfl⟩
    go_wp2_with fail
    refine (CV.out _).mono ?_
    rintro e w2 ⟨rfl, g2⟩
    obtain ⟨x0, x1, x2, x3, x4, _⟩ := (HX.out.next g2).five
    have hbt := bstep9 HA.out HA.out.size g2
    have CL2 := Lib.hid (CL.out _ hbt)
    clear g2
    go_wp2_with fail
    refine CL2.out.mono ?_
    rintro e w3 ⟨rfl, g3⟩
    have hbt3 := bstep9 hbt hbt.size g3
    clear g3 x0 x1 x2 x3 x4
    go_wp2_with fail
    go_ret
    exact ⟨rfl, hbt3⟩
set_option maxHeartbeats 1000000 in
theorem cIsPl_impl (p : Pl) (A : Option Addr) (d : Nat) (w : World) (hc : p.c.size ≤ maxLen) (hb : p.ns.length ≤ 1048576) (hz : Sz9 p.ns) (h : NmAt w w.heap.size A p.ns.length p.ns) (hcap : p.ns.length ≤ d) (hsh : w.ShapedOpen Tryd.prog) (her : Er6 w) :
    Calls Tryd.prog 12 #[plv11 p A d] w fun e w' => e = .returned (.bool (plB p)) ∧ Below w.heap.size w w' := by
  have CE := Lib.hid (fun W => cEntry p A d W)
  have CR := Lib.hid (fun W (hW : Below w.heap.size w W) => cRight p A d W hc hb hz (h.grow hW) hcap (shaped_below hsh hW) (her.below hW))
  clear h hz hsh her
  obtain ⟨b, hbb⟩ : ∃ b, b = plB p := ⟨_, rfl⟩
  rw [← hbb] at CR ⊢
  clear hbb
  have HA := Lib.hid (below_alloc11 w (.cells #[.string p.c, .int .i64 p.k, .int .i64 p.f, .int .i64 p.u, .slice A p.ns.length d] 32))
  go_enter Tryd.func12, Tryd.ntmps12
  go_wp2_with fail
  refine (CE.out _).mono ?_
  rintro e w1 ⟨rfl, g1⟩
  have hbt := bstep9 HA.out HA.out.size g1
  have CR2 := Lib.hid (CR.out _ hbt)
  clear g1
  go_wp2_with fail
  refine CR2.out.mono ?_
  rintro e w2 ⟨rfl, g2⟩
  have hbt2 := bstep9 hbt hbt.size g2
  clear g2
  go_wp2_with fail
  go_ret
  exact ⟨rfl, hbt2⟩
end Go.Proofs.YtkbkgbhnfopgnaaDoor
