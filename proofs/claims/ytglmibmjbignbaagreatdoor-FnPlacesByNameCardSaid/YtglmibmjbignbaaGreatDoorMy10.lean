/-
  The contracts of slices.ContainsFunc at excludes, of checkNames and of AreNames of both packages.
-/
import Derived.Test.YtglmibmjbignbaaGreatDoorMy9
namespace Go.Proofs.YtglmibmjbignbaaGreatDoor
section
set_option linter.unusedVariables false
open Go.RowKit

theorem any9_step {x y : Nm} {xs : List Nm} {k : Nat} (h : xs[k]? = some y) (ha : (xs.take k).any (clB x) = false) (hc : clB x y = false) : (xs.take (k + 1)).any (clB x) = false := by
  rw [take_snoc9 h, List.any_append, ha]; simp [hc]
theorem any9_hit {x y : Nm} {xs : List Nm} {k : Nat} (h : xs[k]? = some y) (hc : clB x y = true) : xs.any (clB x) = true := List.any_eq_true.2 ⟨y, List.mem_of_getElem? h, hc⟩
theorem any9_all {x : Nm} {xs : List Nm} {k : Nat} (hk : xs.length ≤ k) (ha : (xs.take k).any (clB x) = false) : xs.any (clB x) = false := by rwa [List.take_of_length_le hk] at ha
theorem any9_no {x : Nm} {xs : List Nm} (ha : xs.any (clB x) = false) : ∀ y ∈ xs, clB x y = false := fun y hy => by
  rw [List.any_eq_false] at ha; simpa using ha y hy
theorem any9_yes {x : Nm} {xs : List Nm} (ha : xs.any (clB x) = true) : ¬ ∀ y ∈ xs, clB x y = false := fun h => by
  obtain ⟨y, hy, hc⟩ := List.any_eq_true.1 ha; rw [h y hy] at hc; cases hc

def IdxX (x : Nm) (xs : List Nm) (w : World) (e : Ending) (w' : World) : Prop :=
  (∃ r : Int, e = .returned (.int .i64 r) ∧ ((xs.any (clB x) = true ∧ 0 ≤ r) ∨ (xs.any (clB x) = false ∧ r = -1))) ∧ Below w.heap.size w w'
set_option maxHeartbeats 1000000 in
set_option maxRecDepth 100000 in
theorem cIdxX (A : Option Addr) (n c : Nat) (x : Nm) (xs : List Nm) (w : World) (hb : n ≤ 1048576) (h1 : spB x.f x.u = true) (hx : ∀ y ∈ xs, spB y.f y.u = true) (h : NmAt w w.heap.size A n xs) :
    Calls Tryz.prog 221 #[.slice A n c, .func (.func 208) #[nmA x] #[]] w (IdxX x xs w) := by
  have C := Lib.hid (fun y W (hy : y ∈ xs) => cExcl x y W h1 (hx y hy))
  have HN := Lib.hid h.1
  have H := Lib.hid h
  clear h h1 hx
  go_enter Tryz.func221, Tryz.ntmps221
  go_wp2
  go_loopw [8] (fun i wr => ∃ k : Nat, k ≤ n ∧ i = .int .i64 k ∧ Hid ((xs.take k).any (clB x) = false) ∧ Below w.heap.size w wr) (fun i _ => n - (intOf i).toNat)
  case atStart => exact ⟨0, Nat.zero_le _, rfl, Lib.hid (by simp), Below.refl _ _⟩
  case round =>
    obtain ⟨k, hk, rfl, HA, hbw⟩ := hrel
    by_cases hlt : k < n
    · obtain ⟨y, hy⟩ : ∃ y, xs[k]? = some y := ⟨xs[k]'(by have := HN.out; omega), List.getElem?_eq_getElem _⟩
      obtain ⟨b, o, rfl, hbl, c0, c1, c2, c3, c4⟩ := (H.out.below hbw (Nat.le_refl _)).row hy
      have CC := Lib.hid (fun W => C.out y W (List.mem_of_getElem? hy))
      have HY := Lib.hid hy
      have u1 : (0 : Int) ≤ (k : Int) := Int.natCast_nonneg _
      have u2 : (k : Int) < (n : Int) := by omega
      clear hy
      cases hv : clB x y
      · rw [hv] at CC
        have HA2 := Lib.hid (any9_step HY.out HA.out hv)
        clear hv
        go_wp2_with fail
        refine (CC.out _).mono ?_
        rintro e w1 ⟨rfl, g1⟩
        have hbt := bstep9 hbw hbw.size g1
        clear g1 c0 c1 c2 c3 c4
        go_wp2_with fail
        go_roundw
        case rel => exact ⟨k + 1, by omega, by go_num, HA2, hbt⟩
        case measure => simp [intOf]; omega
      · rw [hv] at CC
        have HA2 := Lib.hid (any9_hit HY.out hv)
        clear hv
        go_wp2_with fail
        refine (CC.out _).mono ?_
        rintro e w1 ⟨rfl, g1⟩
        have hbt := bstep9 hbw hbw.size g1
        clear g1 c0 c1 c2 c3 c4
        go_wp2_with fail
        go_ret
        exact ⟨⟨_, rfl, .inl ⟨HA2.out, by omega⟩⟩, hbt⟩
    · have HA2 := Lib.hid (any9_all (x := x) (xs := xs) (k := k) (by have := HN.out; omega) HA.out)
      go_wp2
      go_ret
      exact ⟨⟨_, rfl, .inr ⟨HA2.out, rfl⟩⟩, hbw⟩
theorem cContX (A : Option Addr) (n c : Nat) (x : Nm) (xs : List Nm) (w : World) (hb : n ≤ 1048576) (h1 : spB x.f x.u = true) (hx : ∀ y ∈ xs, spB y.f y.u = true) (h : NmAt w w.heap.size A n xs) :
    Calls Tryz.prog 207 #[.slice A n c, .func (.func 208) #[nmA x] #[]] w fun e w' => e = .returned (.bool (xs.any (clB x))) ∧ Below w.heap.size w w' := by
  have C := Lib.hid (cIdxX A n c x xs w hb h1 hx h)
  clear h h1 hx
  go_enter Tryz.func207, Tryz.ntmps207
  go_wp2_with fail
  refine C.out.mono ?_
  rintro e w' ⟨⟨r, rfl, hc⟩, hb1⟩
  rcases hc with ⟨ha, hr⟩ | ⟨ha, rfl⟩
  · have HA := Lib.hid ha
    clear ha
    go_wp2_with fail
    go_ret
    exact ⟨ret_bool HA.out.symm, hb1⟩
  · have HA := Lib.hid ha
    clear ha
    go_wp2_with fail
    go_ret
    exact ⟨ret_bool HA.out.symm, hb1⟩

theorem nm_sp {x : Nm} (h : nmB x = true) : spB x.f x.u = true := (nm_parts h).2.2.2.2
theorem good9_sp {xs : List Nm} (h : Good xs) : ∀ y ∈ xs, spB y.f y.u = true := fun y hy => by
  obtain ⟨k, hk⟩ := List.mem_iff_getElem?.1 hy
  exact nm_sp (h k y hk).1
def Sz9 (xs : List Nm) : Prop := ∀ e ∈ xs, e.t.size ≤ 1048576 ∧ e.l.size ≤ 1048576

set_option maxHeartbeats 2000000 in
set_option maxRecDepth 100000 in
theorem cChkNames (A : Option Addr) (n c : Nat) (xs : List Nm) (w : World) (hb : n ≤ 1048576) (hz : Sz9 xs) (h : NmAt w w.heap.size A n xs) (hcap : n ≤ c) (hsh : w.ShapedOpen Tryz.prog) (her : Er6 w) :
    Calls Tryz.prog 188 #[.slice A n c] w (ChkOut (namesB xs) w) := by
  have HN := Lib.hid h.1
  have H := Lib.hid h
  have HE := Lib.hid (fun W (hW : Below w.heap.size w W) => her.below hW)
  have CC := Lib.hid (fun (x : Nm) (hx : x ∈ xs) W (hW : Below w.heap.size w W) => cCheck x W (by have := (hz x hx).1; omega) (by have := (hz x hx).2; unfold maxLen; omega) (shaped_below hsh hW) (her.below hW).e)
  clear h hsh her hz
  by_cases hlen : 12 < n
  · obtain ⟨v, hv⟩ := (HE.out w (Below.refl _ _)).m
    have HX := Lib.hid (names_long (xs := xs) (by have := HN.out; omega))
    have hd : decide ((12 : Int) < (n : Int)) = true := decide_eq_true (by omega)
    go_enter Tryz.func188, Tryz.ntmps188
    go_wp2_with fail
    go_ret
    exact ⟨⟨_, rfl, .inr ⟨HX.out, _, rfl⟩⟩, Below.refl _ _⟩
  have hd : decide ((12 : Int) < (n : Int)) = false := decide_eq_false (by omega)
  have HCAP := Lib.hid hcap
  clear hcap
  go_enter Tryz.func188, Tryz.ntmps188
  go_wp2_with fail
  go_loopw [12] (fun i wr => ∃ k : Nat, k ≤ n ∧ i = .int .i64 k ∧ Hid (Good (xs.take k)) ∧ Below w.heap.size w wr) (fun i _ => n - (intOf i).toNat)
  case atStart => exact ⟨0, Nat.zero_le _, rfl, Lib.hid (good9_zero xs), Below.refl _ _⟩
  case round =>
    obtain ⟨k, hk, rfl, HG, hbw⟩ := hrel
    by_cases hlt : k < n
    · obtain ⟨x, hx⟩ : ∃ x, xs[k]? = some x := ⟨xs[k]'(by have := HN.out; omega), List.getElem?_eq_getElem _⟩
      have HR := (H.out.below hbw (Nat.le_refl _)).row hx
      have HX := Lib.hid hx
      have u1 : (0 : Int) ≤ (k : Int) := Int.natCast_nonneg _
      have u2 : (k : Int) < (n : Int) := by omega
      have u3 : (k : Int) ≤ (c : Int) := by have := HCAP.out; omega
      have CX := Lib.hid (fun W hW => CC.out x (List.mem_of_getElem? hx) W hW)
      have KB := Lib.hid (fun W hW => nm_box (w := wr) (W := W) (x := x) (t := 100) hW)
      have hbo := hbw.alloc hbw.size (.cells #[.string x.t, .string x.l, .int .i64 x.s, .int .i64 x.f, .int .i64 x.u] 100)
      obtain ⟨b, o, rfl, hbl, c0, c1, c2, c3, c4⟩ := HR
      have HBO := Lib.hid hbo
      clear hx hbo
      go_wp2_with fail
      refine (CX.out _ HBO.out).mono ?_
      rintro e w1 ⟨⟨v, rfl, hv⟩, g1⟩
      have hbt := bstep9 HBO.out HBO.out.size g1
      obtain ⟨k0, k1, k2, k3, k4⟩ := KB.out w1 g1
      rcases hv with ⟨hnb, rfl⟩ | ⟨hnb, u, rfl⟩
      · have HNB := Lib.hid hnb
        have HBT := Lib.hid hbt
        have l1 : wr.heap.size < w1.heap.size := by have := g1.size; simp at this; omega
        have CY := Lib.hid (fun W (hW : Below w1.heap.size w1 W) => cContX (some ⟨b, o, none⟩) k c x (xs.take k) W (by omega) (nm_sp hnb) (good9_sp HG.out) (((H.out.below (bstep9 hbt hbt.size hW) (Nat.le_refl _)).more (bstep9 hbt hbt.size hW).size).pre (by omega)))
        clear hnb hbt c0 c1 c2 c3 c4 g1 KB CX
        go_wp2_with fail
        obtain ⟨T, f, t0, hT, ht0, hf, hback⟩ := class_of w1
        have j0 : ∀ t, (f t).cell? ⟨wr.heap.size, 0, none⟩ = some (.string x.t) := fun t => ((hf t).cell (p := ⟨wr.heap.size, 0, none⟩) l1).trans k0
        have j1 : ∀ t, (f t).cell? ⟨wr.heap.size, 1, none⟩ = some (.string x.l) := fun t => ((hf t).cell (p := ⟨wr.heap.size, 1, none⟩) l1).trans k1
        have j2 : ∀ t, (f t).cell? ⟨wr.heap.size, 2, none⟩ = some (.int .i64 x.s) := fun t => ((hf t).cell (p := ⟨wr.heap.size, 2, none⟩) l1).trans k2
        have j3 : ∀ t, (f t).cell? ⟨wr.heap.size, 3, none⟩ = some (.int .i64 x.f) := fun t => ((hf t).cell (p := ⟨wr.heap.size, 3, none⟩) l1).trans k3
        have j4 : ∀ t, (f t).cell? ⟨wr.heap.size, 4, none⟩ = some (.int .i64 x.u) := fun t => ((hf t).cell (p := ⟨wr.heap.size, 4, none⟩) l1).trans k4
        clear k0 k1 k2 k3 k4
        have HF := Lib.hid hf
        have HK := Lib.hid hback
        clear hf hback
        refine wp_region_class f t0 ht0 (by kernel_rfl) (by kernel_rfl) ?_
        clear ht0
        repeat (go_big_quiet_step (first | (go_at_call 207; exact Calls.class_of HF.out HK.out (CY.out _ (HF.out _)))))
        refine wpQuiet_nil ?_
        rintro w' ⟨t, rfl⟩
        have hbt2 := bstep9 HBT.out HBT.out.size (HF.out t)
        obtain ⟨q, hq⟩ : ∃ q, q = (xs.take k).any (clB x) := ⟨_, rfl⟩
        rw [← hq]
        cases q
        · have HG2 := Lib.hid (good9_step HX.out HG.out HNB.out (any9_no hq.symm))
          clear hq
          go_wp2_with fail
          go_roundw
          case rel => exact ⟨k + 1, by omega, by go_num, HG2, hbt2⟩
          case measure => simp [intOf]; omega
        · have HG2 := Lib.hid (names_no (good9_any HX.out (any9_yes hq.symm)))
          obtain ⟨v, hv⟩ := (HE.out _ hbt2).n
          clear hq
          go_wp2_with fail
          go_ret
          exact ⟨⟨_, rfl, .inr ⟨HG2.out, _, rfl⟩⟩, hbt2⟩
      · have HG2 := Lib.hid (names_no (good9_bad HX.out hnb))
        clear hnb c0 c1 c2 c3 c4 k0 k1 k2 k3 k4 g1
        go_wp2_with fail
        go_ret
        exact ⟨⟨_, rfl, .inr ⟨HG2.out, _, rfl⟩⟩, hbt⟩
    · have HG2 := Lib.hid (names_yes (xs := xs) (by have := HN.out; omega) (good9_end (k := k) (by have := HN.out; omega) HG.out))
      go_wp2_with fail
      go_ret
      exact ⟨⟨_, rfl, .inl ⟨HG2.out, rfl⟩⟩, hbw⟩
theorem cAreN_impl (A : Option Addr) (n c : Nat) (xs : List Nm) (w : World) (hb : n ≤ 1048576) (hz : Sz9 xs) (h : NmAt w w.heap.size A n xs) (hcap : n ≤ c) (hsh : w.ShapedOpen Tryz.prog) (her : Er6 w) :
    Calls Tryz.prog 169 #[.slice A n c] w fun e w' => e = .returned (.bool (namesB xs)) ∧ Below w.heap.size w w' := by
  have CC := Lib.hid (cChkNames A n c xs w hb hz h hcap hsh her)
  clear h hsh her hz
  obtain ⟨b, hb⟩ : ∃ b, b = namesB xs := ⟨_, rfl⟩
  rw [← hb] at CC ⊢
  clear hb
  go_enter Tryz.func169, Tryz.ntmps169
  go_wp2_with fail
  refine CC.out.mono ?_
  rintro e w1 ⟨⟨v, rfl, hv⟩, hbt⟩
  rcases hv with ⟨rfl, rfl⟩ | ⟨rfl, u, rfl⟩
  · go_wp2_with fail
    go_ret
    exact ⟨rfl, hbt⟩
  · go_wp2_with fail
    go_ret
    exact ⟨rfl, hbt⟩
end
section
set_option linter.unusedVariables false
open Go.RowKit

theorem cl_s {x y : Nm} (h : ¬ y.s = 0) : clB x y = false := by unfold clB; rw [decide_eq_false h]; simp
theorem cl_l {x y : Nm} (h : ¬ x.l = y.l) : clB x y = false := by unfold clB; rw [decide_eq_false h]; simp
theorem cl_m {x y : Nm} (h1 : x.s = 0) (h2 : y.s = 0) (h3 : x.l = y.l) : clB x y = meetB x.f x.u y.f y.u := by unfold clB; rw [decide_eq_true h1, decide_eq_true h2, decide_eq_true h3]; rfl
theorem cl_step {x : Nm} {y : Nm} {xs : List Nm} {m : Nat} (h : xs[m]? = some y) (ha : ∀ z ∈ xs.take m, clB x z = false) (hc : clB x y = false) : ∀ z ∈ xs.take (m + 1), clB x z = false := by
  rw [take_snoc9 h]; intro z hz; rw [List.mem_append] at hz
  rcases hz with hz | hz
  · exact ha z hz
  · obtain rfl : z = y := by simpa using hz
    exact hc

set_option maxHeartbeats 4000000 in
set_option maxRecDepth 100000 in
theorem cAreN_spec (A : Option Addr) (n c : Nat) (xs : List Nm) (w : World) (hb : n ≤ 1048576) (hz : Sz9 xs) (h : NmAt w w.heap.size A n xs) :
    Calls Tryz.prog 85 #[.slice A n c] w fun e w' => e = .returned (.bool (namesB xs)) ∧ Below w.heap.size w w' := by
  have HN := Lib.hid h.1
  have H := Lib.hid h
  have CC := Lib.hid (fun (x : Nm) (hx : x ∈ xs) W => cIsName_spec x W (by have := (hz x hx).1; omega) (by have := (hz x hx).2; unfold maxLen; omega))
  have CM := Lib.hid (fun (x y : Nm) W => cMeet_spec x.f x.u y.f y.u W)
  clear h hz
  go_enter Tryz.func85, Tryz.ntmps85
  go_wp2_with fail
  go_loopw [3] (fun i wr => ∃ k : Nat, k ≤ n ∧ i = .int .i64 k ∧ Hid (Good (xs.take k)) ∧ Below w.heap.size w wr) (fun i _ => n - (intOf i).toNat)
  case atStart => exact ⟨0, Nat.zero_le _, rfl, Lib.hid (good9_zero xs), Below.refl _ _⟩
  case round =>
    rename World => wo
    obtain ⟨k, hk, rfl, HG, hbw⟩ := hrel
    by_cases hlt : k < n
    · obtain ⟨x, hx⟩ : ∃ x, xs[k]? = some x := ⟨xs[k]'(by have := HN.out; omega), List.getElem?_eq_getElem _⟩
      have HR := (H.out.below hbw (Nat.le_refl _)).row hx
      have HX := Lib.hid hx
      have u1 : (0 : Int) ≤ (k : Int) := Int.natCast_nonneg _
      have u2 : (k : Int) < (n : Int) := by omega
      have CX := Lib.hid (fun W => CC.out x (List.mem_of_getElem? hx) W)
      have KB := Lib.hid (fun W hW => nm_box (w := wo) (W := W) (x := x) (t := 100) hW)
      have hbo := hbw.alloc hbw.size (.cells #[.string x.t, .string x.l, .int .i64 x.s, .int .i64 x.f, .int .i64 x.u] 100)
      obtain ⟨b, o, rfl, hbl, c0, c1, c2, c3, c4⟩ := HR
      have HBO := Lib.hid hbo
      have HBL := Lib.hid (show wo.heap.size < (wo.alloc (.cells #[.string x.t, .string x.l, .int .i64 x.s, .int .i64 x.f, .int .i64 x.u] 100)).heap.size by simp)
      clear hx hbo
      obtain ⟨q, hq⟩ : ∃ q, q = nmB x := ⟨_, rfl⟩
      rw [← hq] at CX
      go_wp2_with fail
      refine (CX.out _).mono ?_
      rintro e w1 ⟨rfl, g1⟩
      have hbt := bstep9 HBO.out HBO.out.size g1
      have HBT := Lib.hid hbt
      have HB1 := Lib.hid g1
      have HL1 := Lib.hid (Nat.lt_of_lt_of_le HBL.out g1.size)
      clear hbt g1 c0 c1 c2 c3 c4 CX
      cases q
      · have HG2 := Lib.hid (names_no (good9_bad HX.out hq.symm))
        clear hq
        go_wp2_with fail
        go_ret
        exact ⟨ret_bool HG2.out.symm, HBT.out⟩
      have HQ := Lib.hid hq
      clear hq
      go_wp2_with fail
      go_loopw [5] (fun i wq => ∃ m : Nat, m ≤ k ∧ i = .int .i64 m ∧ Hid (∀ z ∈ xs.take m, clB x z = false) ∧ Below w1.heap.size w1 wq) (fun i _ => k - (intOf i).toNat)
      case atStart => exact ⟨0, Nat.zero_le _, rfl, Lib.hid (by simp), Below.refl _ _⟩
      case round =>
        obtain ⟨m, hm, rfl, HA, hbq⟩ := hrel
        by_cases hlm : m < k
        · obtain ⟨y, hy⟩ : ∃ y, xs[m]? = some y := ⟨xs[m]'(by have := HN.out; omega), List.getElem?_eq_getElem _⟩
          have hbwq := bstep9 HBT.out HBT.out.size hbq
          obtain ⟨b2, o2, hA, hbl2, d0, d1, d2, d3, d4⟩ := (H.out.below hbwq (Nat.le_refl _)).row hy
          obtain ⟨rfl, rfl⟩ : b = b2 ∧ o = o2 := by injection hA with hA; injection hA with e1 e2; exact ⟨e1, e2⟩
          obtain ⟨k0, k1, k2, k3, k4⟩ := KB.out wr (HB1.out.trans (hbq.mono HB1.out.size))
          have HY := Lib.hid hy
          have u3 : (0 : Int) ≤ (m : Int) := Int.natCast_nonneg _
          have u4 : (m : Int) < (n : Int) := by omega
          have u5 : (m : Int) < (k : Int) := by omega
          have hlw : wo.heap.size < wr.heap.size := Nat.lt_of_lt_of_le HL1.out hbq.size
          have hbb := hbq.alloc hbq.size (.cells #[.string y.t, .string y.l, .int .i64 y.s, .int .i64 y.f, .int .i64 y.u] 100)
          have HBB := Lib.hid hbb
          have HBW := Lib.hid hbwq
          clear hy hA hbb hbwq
          by_cases s1 : x.s = 0
          · have z1 : (x.s == 0) = true := by simp [s1]
            by_cases s2 : y.s = 0
            · have z2 : (y.s == 0) = true := by simp [s2]
              by_cases s3 : x.l = y.l
              · have z3 : (x.l.toList == y.l.toList) = true := by rw [toList_beq]; exact decide_eq_true s3
                have HC := Lib.hid (cl_m s1 s2 s3)
                have CY := Lib.hid (CM.out x y)
                obtain ⟨v, hv⟩ : ∃ v, v = meetB x.f x.u y.f y.u := ⟨_, rfl⟩
                rw [← hv] at HC CY
                clear s1 s2 s3 hv
                go_wp2_with fail
                refine (CY.out _).mono ?_
                rintro e w2 ⟨rfl, g2⟩
                have hb2 := bstep9 HBB.out HBB.out.size g2
                clear g2
                cases v
                · have HA2 := Lib.hid (cl_step HY.out HA.out HC.out)
                  go_wp2_with fail
                  go_roundw
                  case rel => exact ⟨m + 1, by omega, by go_num, HA2, hb2⟩
                  case measure => simp [intOf]; omega
                · have HG2 := Lib.hid (names_no (good9_meet HX.out HY.out hlm HC.out))
                  go_wp2_with fail
                  go_ret
                  exact ⟨ret_bool HG2.out.symm, bstep9 HBT.out HBT.out.size hb2⟩
              · have z3 : (x.l.toList == y.l.toList) = false := by rw [toList_beq]; exact decide_eq_false s3
                have HA2 := Lib.hid (cl_step HY.out HA.out (cl_l s3))
                clear s1 s2 s3
                go_wp2_with fail
                go_roundw
                case rel => exact ⟨m + 1, by omega, by go_num, HA2, HBB.out⟩
                case measure => simp [intOf]; omega
            · have z2 : (y.s == 0) = false := by simp [s2]
              have HA2 := Lib.hid (cl_step HY.out HA.out (cl_s s2))
              clear s1 s2
              go_wp2_with fail
              go_roundw
              case rel => exact ⟨m + 1, by omega, by go_num, HA2, HBB.out⟩
              case measure => simp [intOf]; omega
          · have z1 : (x.s == 0) = false := by simp [s1]
            have HA2 := Lib.hid (cl_step HY.out HA.out (cl_no s1))
            clear s1
            go_wp2_with fail
            go_roundw
            case rel => exact ⟨m + 1, by omega, by go_num, HA2, HBB.out⟩
            case measure => simp [intOf]; omega
        · obtain rfl : m = k := by omega
          have HG2 := Lib.hid (good9_step HX.out HG.out HQ.out.symm HA.out)
          have hb2 := bstep9 HBT.out HBT.out.size hbq
          go_wp2_with fail
          go_roundw
          case rel => exact ⟨m + 1, by omega, by go_num, HG2, hb2⟩
          case measure => simp [intOf]; omega
    · have HG2 := Lib.hid (names_sum n HN.out (good9_end (k := k) (by have := HN.out; omega) HG.out))
      go_wp2_with fail
      go_ret
      exact ⟨ret_bool HG2.out.symm, hbw⟩
end
end Go.Proofs.YtglmibmjbignbaaGreatDoor
