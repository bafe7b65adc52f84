/-
  The contracts of slices.ContainsFunc at excludes, of checkNames and of AreNames of both packages.
-/
import Derived.Test.YtkbkgbhnfopgnaaDoorExcl
namespace Go.Proofs.YtkbkgbhnfopgnaaDoor
set_option linter.unusedVariables false
open Go.RowKit

theorem any9_step {x y : Nm} {xs : List Nm} {k : Nat} (h : xs[k]? = some y) (ha : (xs.take k).any (clB x) = false) (hc : clB x y = false) : (xs.take (k + 1)).any (clB x) = false := by
  rw [take_snoc9 h, List.any_append, ha]; simp [hc]
theorem any9_hit {x y : Nm} {xs : List Nm} {k : Nat} (h : xs[k]? = some y) (hc : clB x y = true) : xs.any (clB x) = true := List.any_eq_true.2 ⟨y, List.mem_of_getElem? h, hc⟩
theorem any9_all {x : Nm} {xs : List Nm} {k : Nat} (hk : xs.length ≤ k) (ha : (xs.take k).any (clB x) = false) : xs.any (clB x) = false := by rwa [List.take_of_length_le hk] at ha
theorem any9_no {x : Nm} {xs : List Nm} (ha : xs.any (clB x) = false) : ∀ y ∈ xs, clB x y = false := fun y hy => by
  rw [List.any_eq_false] at ha; simpa using ha y hy
theorem any9_yes {x : Nm} {xs : List Nm} (ha : xs.any (clB x) = true) : ¬ ∀ y ∈ xs, clB x y = false := fun h => by
  obtain ⟨y, hy, hc⟩ := List.any_eq_true.1 ha; rw [h y hy] at hc; cases hc

def IdxX (x : Nm) (xs : List Nm) (w : World) (e : Ending) (w' : World) : Prop :=
  (∃ r : Int, e = .returned (.int .i64 r) ∧ ((xs.any (clB x) = true ∧ 0 ≤ r) ∨ (xs.any (clB x) = false ∧ r = -1))) ∧ Below w.heap.size w w'
set_option maxHeartbeats 1000000 in
set_option maxRecDepth 100000 in
theorem cIdxX (A : Option Addr) (n c : Nat) (x : Nm) (xs : List Nm) (w : World) (hb : n ≤ 1048576) (h1 : spB x.f x.u = true) (hx : ∀ y ∈ xs, spB y.f y.u = true) (h : NmAt w w.heap.size A n xs) :
    Calls Tryd.prog 100 #[.slice A n c, .func (.func 97) #[nmA x] #[]] w (IdxX x xs w) := by
  have C := Lib.hid (fun y W (hy : y ∈ xs) => cExcl x y W h1 (hx y hy))
  have HN := Lib.hid h.1
  have H := Lib.hid h
  clear h h1 hx
  go_enter Tryd.func100, Tryd.ntmps100
  go_wp2
  go_loopw [8] (fun i wr => ∃ k : Nat, k ≤ n ∧ i = .int .i64 k ∧ Hid ((xs.take k).any (clB x) = false) ∧ Below w.heap.size w wr) (fun i _ => n - (intOf i).toNat)
  case atStart => exact ⟨0, Nat.zero_le _, rfl, Lib.hid (by simp), Below.refl _ _⟩
  case round =>
    obtain ⟨k, hk, rfl, HA, hbw⟩ := hrel
    by_cases hlt : k < n
    · obtain ⟨y, hy⟩ : ∃ y, xs[k]? = some y := ⟨xs[k]'(by have := HN.out; omega), List.getElem?_eq_getElem _⟩
      obtain ⟨b, o, rfl, hbl, c0, c1, c2, c3, c4⟩ := (H.out.below hbw (Nat.le_refl _)).row hy
      have CC := Lib.hid (fun W => C.out y W (List.mem_of_getElem? hy))
      have HY := Lib.hid hy
      have u1 : (0 : Int) ≤ (k : Int) := Int.natCast_nonneg _
      have u2 : (k : Int) < (n : Int) := by omega
      clear hy
      cases hv : clB x y
      · rw [hv] at CC
        have HA2 := Lib.hid (any9_step HY.out HA.out hv)
        clear hv
        go_wp2_with fail
        refine (CC.out _).mono ?_
        rintro e w1 ⟨rfl, g1⟩
        have hbt := bstep9 hbw hbw.size g1
        clear g1 c0 c1 c2 c3 c4
        go_wp2_with fail
        go_roundw
        case rel => exact ⟨k + 1, by omega, by go_num, HA2, hbt⟩
        case measure => simp [intOf]; omega
      · rw [hv] at CC
        have HA2 := Lib.hid (any9_hit HY.out hv)
        clear hv
        go_wp2_with fail
        refine (CC.out _).mono ?_
        rintro e w1 ⟨rfl, g1⟩
        have hbt := bstep9 hbw hbw.size g1
        clear g1 c0 c1 c2 c3 c4
        go_wp2_with fail
        go_ret
        exact ⟨⟨_, rfl, .inl ⟨HA2.out, by omega⟩⟩, hbt⟩
    · have HA2 := Lib.hid (any9_all (x := x) (xs := xs) (k := k) (by have := HN.out; omega) HA.out)
      go_wp2
      go_ret
      exact ⟨⟨_, rfl, .inr ⟨HA2.out, rfl⟩⟩, hbw⟩
theorem cContX (A : Option Addr) (n c : Nat) (x : Nm) (xs : List Nm) (w : World) (hb : n ≤ 1048576) (h1 : spB x.f x.u = true) (hx : ∀ y ∈ xs, spB y.f y.u = true) (h : NmAt w w.heap.size A n xs) :
    Calls Tryd.prog 96 #[.slice A n c, .func (.func 97) #[nmA x] #[]] w fun e w' => e = .returned (.bool (xs.any (clB x))) ∧ Below w.heap.size w w' := by
  have C := Lib.hid (cIdxX A n c x xs w hb h1 hx h)
  clear h h1 hx
  go_enter Tryd.func96, Tryd.ntmps96
  go_wp2_with fail
  refine C.out.mono ?_
  rintro e w' ⟨⟨r, rfl, hc⟩, hb1⟩
  rcases hc with ⟨ha, hr⟩ | ⟨ha, rfl⟩
  · have HA := Lib.hid ha
    clear ha
    go_wp2_with fail
    go_ret
    exact ⟨ret_bool HA.out.symm, hb1⟩
  · have HA := Lib.hid ha
    clear ha
    go_wp2_with fail
    go_ret
    exact ⟨ret_bool HA.out.symm, hb1⟩

theorem nm_sp {x : Nm} (h : nmB x = true) : spB x.f x.u = true := (nm_parts h).2.2.2.2
theorem good9_sp {xs : List Nm} (h : Good xs) : ∀ y ∈ xs, spB y.f y.u = true := fun y hy => by
  obtain ⟨k, hk⟩ := List.mem_iff_getElem?.1 hy
  exact nm_sp (h k y hk).1
def Sz9 (xs : List Nm) : Prop := ∀ e ∈ xs, e.t.size ≤ 1048576 ∧ e.l.size ≤ 1048576

set_option maxHeartbeats 2000000 in
set_option maxRecDepth 100000 in
theorem cChkNames (A : Option Addr) (n c : Nat) (xs : List Nm) (w : World) (hb : n ≤ 1048576) (hz : Sz9 xs) (h : NmAt w w.heap.size A n xs) (hcap : n ≤ c) (hsh : w.ShapedOpen Tryd.prog) (her : Er6 w) :
    Calls Tryd.prog 91 #[.slice A n c] w (ChkOut (namesB xs) w) := by
  have HN := Lib.hid h.1
  have H := Lib.hid h
  have HE := Lib.hid (fun W (hW : Below w.heap.size w W) => her.below hW)
  have CC := Lib.hid (fun (x : Nm) (hx : x ∈ xs) W (hW : Below w.heap.size w W) => cCheck x W (by have := (hz x hx).1; omega) (by have := (hz x hx).2; unfold maxLen; omega) (shaped_below hsh hW) (her.below hW).e)
  clear h hsh her hz
  by_cases hlen : 12 < n
  · obtain ⟨v, hv⟩ := (HE.out w (Below.refl _ _)).m
    have HX := Lib.hid (names_long (xs := xs) (by have := HN.out; omega))
    have hd : decide ((12 : Int) < (n : Int)) = true := decide_eq_true (by omega)
    go_enter Tryd.func91, Tryd.ntmps91
    go_wp2_with fail
    go_ret
    exact ⟨⟨_, rfl, .inr ⟨HX.out, _, rfl⟩⟩, Below.refl _ _⟩
  have hd : decide ((12 : Int) < (n : Int)) = false := decide_eq_false (by omega)
  have HCAP := Lib.hid hcap
  clear hcap
  go_enter Tryd.func91, Tryd.ntmps91
  go_wp2_with fail
  go_loopw [12] (fun i wr => ∃ k : Nat, k ≤ n ∧ i = .int .i64 k ∧ Hid (Good (xs.take k)) ∧ Below w.heap.size w wr) (fun i _ => n - (intOf i).toNat)
  case atStart => exact ⟨0, Nat.zero_le _, rfl, Lib.hid (good9_zero xs), Below.refl _ _⟩
  case round =>
    obtain ⟨k, hk, rfl, HG, hbw⟩ := hrel
    by_cases hlt : k < n
    · obtain ⟨x, hx⟩ : ∃ x, xs[k]? = some x := ⟨xs[k]'(by have := HN.out; omega), List.getElem?_eq_getElem _⟩
      have HR := (H.out.below hbw (Nat.le_refl _)).row hx
      have HX := Lib.hid hx
      have u1 : (0 : Int) ≤ (k : Int) := Int.natCast_nonneg _
      have u2 : (k : Int) < (n : Int) := by omega
      have u3 : (k : Int) ≤ (c : Int) := by have := HCAP.out; omega
      have CX := Lib.hid (fun W hW => CC.out x (List.mem_of_getElem? hx) W hW)
      have KB := Lib.hid (fun W hW => nm_box (w := wr) (W := W) (x := x) (t := 65) hW)
      have hbo := hbw.alloc hbw.size (.cells #[.string x.t, .string x.l, .int .i64 x.s, .int .i64 x.f, .int .i64 x.u] 65)
      obtain ⟨b, o, rfl, hbl, c0, c1, c2, c3, c4⟩ := HR
      have HBO := Lib.hid hbo
      clear hx hbo
      go_wp2_with fail
      refine (CX.out _ HBO.out).mono ?_
      rintro e w1 ⟨⟨v, rfl, hv⟩, g1⟩
      have hbt := bstep9 HBO.out HBO.out.size g1
      obtain ⟨k0, k1, k2, k3, k4⟩ := KB.out w1 g1
      rcases hv with ⟨hnb, rfl⟩ | ⟨hnb, u, rfl⟩
      · have HNB := Lib.hid hnb
        have HBT := Lib.hid hbt
        have l1 : wr.heap.size < w1.heap.size := by have := g1.size; simp at this; omega
        have CY := Lib.hid (fun W (hW : Below w1.heap.size w1 W) => cContX (some ⟨b, o, none⟩) k c x (xs.take k) W (by omega) (nm_sp hnb) (good9_sp HG.out) (((H.out.below (bstep9 hbt hbt.size hW) (Nat.le_refl _)).more (bstep9 hbt hbt.size hW).size).pre (by omega)))
        clear hnb hbt c0 c1 c2 c3 c4 g1 KB CX
        go_wp2_with fail
        obtain ⟨T, f, t0, hT, ht0, hf, hback⟩ := class_of w1
        have j0 : ∀ t, (f t).cell? ⟨wr.heap.size, 0, none⟩ = some (.string x.t) := fun t => ((hf t).cell (p := ⟨wr.heap.size, 0, none⟩) l1).trans k0
        have j1 : ∀ t, (f t).cell? ⟨wr.heap.size, 1, none⟩ = some (.string x.l) := fun t => ((hf t).cell (p := ⟨wr.heap.size, 1, none⟩) l1).trans k1
        have j2 : ∀ t, (f t).cell? ⟨wr.heap.size, 2, none⟩ = some (.int .i64 x.s) := fun t => ((hf t).cell (p := ⟨wr.heap.size, 2, none⟩) l1).trans k2
        have j3 : ∀ t, (f t).cell? ⟨wr.heap.size, 3, none⟩ = some (.int .i64 x.f) := fun t => ((hf t).cell (p := ⟨wr.heap.size, 3, none⟩) l1).trans k3
        have j4 : ∀ t, (f t).cell? ⟨wr.heap.size, 4, none⟩ = some (.int .i64 x.u) := fun t => ((hf t).cell (p := ⟨wr.heap.size, 4, none⟩) l1).trans k4
        clear k0 k1 k2 k3 k4
        have HF := Lib.hid hf
        have HK := Lib.hid hback
        clear hf hback
        refine wp_region_class f t0 ht0 (by kernel_rfl) (by kernel_rfl) ?_
        clear ht0
        repeat (go_big_quiet_step (first | (go_at_call 96; exact Calls.class_of HF.out HK.out (CY.out _ (HF.out _)))))
        refine wpQuiet_nil ?_
        rintro w' ⟨t, rfl⟩
        have hbt2 := bstep9 HBT.out HBT.out.size (HF.out t)
        obtain ⟨q, hq⟩ : ∃ q, q = (xs.take k).any (clB x) := ⟨_, rfl⟩
        rw [← hq]
        cases q
        · have HG2 := Lib.hid (good9_step HX.out HG.out HNB.out (any9_no hq.symm))
          clear hq
          go_wp2_with fail
          go_roundw
          case rel => exact ⟨k + 1, by omega, by go_num, HG2, hbt2⟩
          case measure => simp [intOf]; omega
        · have HG2 := Lib.hid (names_no (good9_any HX.out (any9_yes hq.symm)))
          obtain ⟨v, hv⟩ := (HE.out _ hbt2).n
          clear hq
          go_wp2_with fail
          go_ret
          exact ⟨⟨_, rfl, .inr ⟨HG2.out, _, rfl⟩⟩, hbt2⟩
      · have HG2 := Lib.hid (names_no (good9_bad HX.out hnb))
        clear hnb c0 c1 c2 c3 c4 k0 k1 k2 k3 k4 g1
        go_wp2_with fail
        go_ret
        exact ⟨⟨_, rfl, .inr ⟨HG2.out, _, rfl⟩⟩, hbt⟩
    · have HG2 := Lib.hid (names_yes (xs := xs) (by have := HN.out; omega) (good9_end (k := k) (by have := HN.out; omega) HG.out))
      go_wp2_with fail
      go_ret
      exact ⟨⟨_, rfl, .inl ⟨HG2.out, rfl⟩⟩, hbw⟩
theorem cAreN_impl (A : Option Addr) (n c : Nat) (xs : List Nm) (w : World) (hb : n ≤ 1048576) (hz : Sz9 xs) (h : NmAt w w.heap.size A n xs) (hcap : n ≤ c) (hsh : w.ShapedOpen Tryd.prog) (her : Er6 w) :
    Calls Tryd.prog 84 #[.slice A n c] w fun e w' => e = .returned (.bool (namesB xs)) ∧ Below w.heap.size w w' := by
  have CC := Lib.hid (cChkNames A n c xs w hb hz h hcap hsh her)
  clear h hsh her hz
  obtain ⟨b, hb⟩ : ∃ b, b = namesB xs := ⟨_, rfl⟩
  rw [← hb] at CC ⊢
  clear hb
  go_enter Tryd.func84, Tryd.ntmps84
  go_wp2_with fail
  refine CC.out.mono ?_
  rintro e w1 ⟨⟨v, rfl, hv⟩, hbt⟩
  rcases hv with ⟨rfl, rfl⟩ | ⟨rfl, u, rfl⟩
  · go_wp2_with fail
    go_ret
    exact ⟨rfl, hbt⟩
  · go_wp2_with fail
    go_ret
    exact ⟨rfl, hbt⟩
end Go.Proofs.YtkbkgbhnfopgnaaDoor
