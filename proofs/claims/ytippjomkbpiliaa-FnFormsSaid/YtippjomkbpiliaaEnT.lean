/-
  The contracts of impl.IsEndingTable and spec.IsEndingTable: each returns 'tabE xs'.
-/
import Derived.Test.YtippjomkbpiliaaEnI
namespace Go.Proofs.Ytippjomkbpiliaa
set_option linter.unusedVariables false
open Go.RowKit Go.Shelf Go.Lib

theorem bstep {B : Nat} {a b c : World} (h : Below B a b) (hB : B ≤ b.heap.size) (k : Below b.heap.size b c) : Below B a c := h.trans (k.mono hB)

set_option maxHeartbeats 1000000 in
set_option maxRecDepth 100000 in
theorem cDifE (b o c n : Nat) (xs : List En) (w : World) (hn : n = xs.length) (hbig : n ≤ 1048576) (hcap : n ≤ c) (hbl : b < w.heap.size)
    (hc : ∀ (j : Nat) e, xs[j]? = some e → EnCell w b (o + j * 3) e) :
    Calls Try.prog 53 #[.slice (some ⟨b, o, none⟩) n c] w fun e w' => e = .returned (.bool (decide xs.Nodup)) ∧ Below w.heap.size w w' := by
  have HN := Lib.hid hn
  have HC := Lib.hid hc
  have CC := Lib.hid (fun (k : Nat) (hk : k ≤ n) (x : En) (W : World) (hW : Below w.heap.size w W) => cContE b o k c xs x W (by omega) (by omega) (fun j e he => (hc j e he).below hW hbl))
  clear hn hc
  go_enter Try.func53, Try.ntmps53
  go_wp2
  go_loopw [7] (fun i wr => ∃ k : Nat, k ≤ n ∧ i = .int .i64 k ∧ Hid ((xs.take k).Nodup) ∧ Below w.heap.size w wr) (fun i _ => n - (intOf i).toNat)
  case atStart => exact ⟨0, Nat.zero_le _, rfl, Lib.hid (by simp), Below.refl _ _⟩
  case round =>
    obtain ⟨k, hk, rfl, HA, hbw⟩ := hrel
    by_cases hlt : k < n
    · obtain ⟨x, hx⟩ : ∃ x, xs[k]? = some x := ⟨xs[k]'(by have := HN.out; omega), List.getElem?_eq_getElem _⟩
      obtain ⟨c0, c1, c2⟩ := (HC.out k x hx).below hbw hbl
      have HX := Lib.hid hx
      have hkc : k ≤ c := by omega
      have hb1 := hbw.alloc hbw.size (.cells #[.string x.1, .string x.2.1, .int .i64 x.2.2] 60)
      have n0 : (wr.alloc (.cells #[.string x.1, .string x.2.1, .int .i64 x.2.2] 60)).cell? ⟨wr.heap.size, 0, none⟩ = some (.string x.1) := by rw [World.cell?_alloc_at _ _ _ _ rfl]; rfl
      have n1 : (wr.alloc (.cells #[.string x.1, .string x.2.1, .int .i64 x.2.2] 60)).cell? ⟨wr.heap.size, 1, none⟩ = some (.string x.2.1) := by rw [World.cell?_alloc_at _ _ _ _ rfl]; rfl
      have n2 : (wr.alloc (.cells #[.string x.1, .string x.2.1, .int .i64 x.2.2] 60)).cell? ⟨wr.heap.size, 2, none⟩ = some (.int .i64 x.2.2) := by rw [World.cell?_alloc_at _ _ _ _ rfl]; rfl
      have q0 : wr.heap.size < (wr.alloc (.cells #[.string x.1, .string x.2.1, .int .i64 x.2.2] 60)).heap.size := by simp
      have CX := Lib.hid (fun W hW => CC.out k hk x W hW)
      have HB := Lib.hid hb1
      have u1 : (0 : Int) ≤ (k : Int) := Int.natCast_nonneg _
      have u2 : (k : Int) < (n : Int) := by omega
      clear hx hb1
      by_cases hm : x ∈ xs.take k
      · rw [decide_eq_true hm] at CX
        have HM := Lib.hid (nodupE_stop HX.out hm)
        clear hm
        go_wp2_with fail
        obtain ⟨T, f, t0, hT, ht0, hf, hback⟩ := class_of (wr.alloc (.cells #[.string x.1, .string x.2.1, .int .i64 x.2.2] 60))
        have k0 : ∀ t, (f t).cell? ⟨wr.heap.size, 0, none⟩ = some (.string x.1) := fun t => ((hf t).cell (p := ⟨wr.heap.size, 0, none⟩) q0).trans n0
        have k1 : ∀ t, (f t).cell? ⟨wr.heap.size, 1, none⟩ = some (.string x.2.1) := fun t => ((hf t).cell (p := ⟨wr.heap.size, 1, none⟩) q0).trans n1
        have k2 : ∀ t, (f t).cell? ⟨wr.heap.size, 2, none⟩ = some (.int .i64 x.2.2) := fun t => ((hf t).cell (p := ⟨wr.heap.size, 2, none⟩) q0).trans n2
        have CY := Lib.hid (fun t => CX.out (f t) (HB.out.trans ((hf t).mono HB.out.size)))
        have HF := Lib.hid hf
        have HK := Lib.hid hback
        clear hf hback
        refine wp_region_class f t0 ht0 (by kernel_rfl) (by kernel_rfl) ?_
        clear ht0
        repeat (go_big_quiet_step (first | (go_at_call 75; exact Calls.class_of HF.out HK.out (CY.out _))))
        refine wpQuiet_nil ?_
        rintro w' ⟨t, rfl⟩
        have hbt := HB.out.trans ((HF.out t).mono HB.out.size)
        go_wp2
        go_ret
        exact ⟨ret_bool (decide_eq_false HM.out).symm, hbt⟩
      · rw [decide_eq_false hm] at CX
        have HM := Lib.hid (nodupE_step HX.out HA.out hm)
        clear hm
        go_wp2_with fail
        obtain ⟨T, f, t0, hT, ht0, hf, hback⟩ := class_of (wr.alloc (.cells #[.string x.1, .string x.2.1, .int .i64 x.2.2] 60))
        have k0 : ∀ t, (f t).cell? ⟨wr.heap.size, 0, none⟩ = some (.string x.1) := fun t => ((hf t).cell (p := ⟨wr.heap.size, 0, none⟩) q0).trans n0
        have k1 : ∀ t, (f t).cell? ⟨wr.heap.size, 1, none⟩ = some (.string x.2.1) := fun t => ((hf t).cell (p := ⟨wr.heap.size, 1, none⟩) q0).trans n1
        have k2 : ∀ t, (f t).cell? ⟨wr.heap.size, 2, none⟩ = some (.int .i64 x.2.2) := fun t => ((hf t).cell (p := ⟨wr.heap.size, 2, none⟩) q0).trans n2
        have CY := Lib.hid (fun t => CX.out (f t) (HB.out.trans ((hf t).mono HB.out.size)))
        have HF := Lib.hid hf
        have HK := Lib.hid hback
        clear hf hback
        refine wp_region_class f t0 ht0 (by kernel_rfl) (by kernel_rfl) ?_
        clear ht0
        repeat (go_big_quiet_step (first | (go_at_call 75; exact Calls.class_of HF.out HK.out (CY.out _))))
        refine wpQuiet_nil ?_
        rintro w' ⟨t, rfl⟩
        have hbt := HB.out.trans ((HF.out t).mono HB.out.size)
        go_wp2
        go_roundw
        case rel => exact ⟨k + 1, by omega, by go_num, HM, hbt⟩
        case measure => simp [intOf]; omega
    · have HE := Lib.hid (show xs.Nodup by have := HA.out; rwa [List.take_of_length_le (by have := HN.out; omega)] at this)
      go_wp2
      go_ret
      exact ⟨ret_bool (decide_eq_true HE.out).symm, hbw⟩
theorem cDifE_none (A : Option Addr) (c : Nat) (w : World) :
    Calls Try.prog 53 #[.slice A 0 c] w fun e w' => e = .returned (.bool true) ∧ w = w' := by
  go_enter Try.func53, Try.ntmps53
  go_wp2
  refine wp_loop_rounds 1 ?_
  rw [rounds_succ]
  go_wp2
  go_ret
  exact ⟨rfl, rfl⟩
theorem tDifE (A : Option Addr) (n c : Nat) (xs : List En) (w : World) (hbig : n ≤ 1048576) (hcap : n ≤ c) (h : EnAt w w.heap.size A n xs) :
    Calls Try.prog 53 #[.slice A n c] w fun e w' => e = .returned (.bool (decide xs.Nodup)) ∧ Below w.heap.size w w' := by
  rcases Nat.eq_zero_or_pos n with rfl | hp
  · obtain rfl : xs = [] := List.eq_nil_of_length_eq_zero h.1.symm
    exact (cDifE_none A c w).mono fun e w' ⟨h1, h2⟩ => ⟨by rw [h1]; rfl, h2 ▸ Below.refl _ _⟩
  · obtain ⟨b, o, rfl, hb, hc⟩ := h.2 hp
    exact cDifE b o c n xs w h.1 hbig hcap hb hc

set_option maxHeartbeats 1000000 in
set_option maxRecDepth 100000 in
theorem tTabE_impl (A : Option Addr) (n c : Nat) (xs : List En) (w : World) (hbig : n ≤ 1048576) (hcap : n ≤ c) (hs : ∀ e ∈ xs, e.1.size ≤ maxLen ∧ e.2.1.size ≤ maxLen) (h : EnAt w w.heap.size A n xs) :
    Calls Try.prog 20 #[.slice A n c] w fun e w' => e = .returned (.bool (tabE xs)) ∧ Below w.heap.size w w' := by
  have CD := Lib.hid (fun W (hW : Below w.heap.size w W) => tDifE A n c xs W hbig hcap (h.grow hW))
  have HN := Lib.hid h.1
  have HC := Lib.hid h
  have HS := Lib.hid hs
  clear hs h
  by_cases hl : n ≤ 16
  · have hd : decide ((16 : Int) < (n : Int)) = false := decide_eq_false (by omega)
    go_enter Try.func20, Try.ntmps20
    go_wp2
    go_loopw [10] (fun i wr => ∃ k : Nat, k ≤ n ∧ i = .int .i64 k ∧ Hid (endsB (xs.take k) = true) ∧ Below w.heap.size w wr) (fun i _ => n - (intOf i).toNat)
    case atStart => exact ⟨0, Nat.zero_le _, rfl, Lib.hid rfl, Below.refl _ _⟩
    case round =>
      obtain ⟨k, hk, rfl, HA, hbw⟩ := hrel
      by_cases hlt : k < n
      · obtain ⟨x, hx⟩ : ∃ x, xs[k]? = some x := ⟨xs[k]'(by have := HN.out; omega), List.getElem?_eq_getElem _⟩
        obtain ⟨b, o, rfl, hbl, c0, c1, c2⟩ := (HC.out.below hbw (Nat.le_refl _)).row hx
        have hsx := HS.out x (List.mem_of_getElem? hx)
        have HX := Lib.hid hx
        obtain ⟨xo, xn, xc⟩ := x
        have hb1 := hbw.alloc hbw.size (.cells #[.string xo, .string xn, .int .i64 xc] 60)
        have CV := Lib.hid (fun W => cEndB_impl xo xn xc W hsx.1 hsx.2)
        have HB := Lib.hid hb1
        have u1 : (0 : Int) ≤ (k : Int) := Int.natCast_nonneg _
        have u2 : (k : Int) < (n : Int) := by omega
        clear hx hsx hb1
        cases hv : endB (xo, xn, xc)
        · rw [hv] at CV
          have HM := Lib.hid (tabE_bad xs (ends_stop HX.out hv))
          clear hv
          go_wp2_with fail
          refine (CV.out _).mono ?_
          rintro e w2 ⟨rfl, hb2⟩
          have hbt := bstep HB.out HB.out.size hb2
          go_wp2_with fail
          go_ret
          exact ⟨ret_bool HM.out.symm, hbt⟩
        · rw [hv] at CV
          have HM := Lib.hid (ends_step HX.out HA.out hv)
          clear hv
          go_wp2_with fail
          refine (CV.out _).mono ?_
          rintro e w2 ⟨rfl, hb2⟩
          have hbt := bstep HB.out HB.out.size hb2
          clear hb2
          go_wp2_with fail
          go_roundw
          case rel => exact ⟨k + 1, by omega, by go_num, HM, hbt⟩
          case measure => simp [intOf]; omega
      · have HE := Lib.hid (tabE_dif xs (by have := HN.out; omega) (ends_all (by have := HN.out; omega) HA.out))
        have CX := Lib.hid (CD.out _ hbw)
        rw [← HE.out] at CX
        clear HE
        obtain ⟨r, hr⟩ : ∃ r, r = tabE xs := ⟨_, rfl⟩
        rw [← hr] at CX
        have HR := Lib.hid hr
        clear hr
        go_wp2_with fail
        refine CX.out.mono ?_
        rintro e w2 ⟨rfl, hb2⟩
        have hbt := bstep hbw hbw.size hb2
        go_wp2_with fail
        go_ret
        exact ⟨ret_bool HR.out, hbt⟩
  · have hd : decide ((16 : Int) < (n : Int)) = true := decide_eq_true (by omega)
    have HE := Lib.hid (tabE_long xs (by have := HN.out; omega))
    go_enter Try.func20, Try.ntmps20
    go_wp2
    go_ret
    exact ⟨ret_bool HE.out.symm, Below.refl _ _⟩
end Go.Proofs.Ytippjomkbpiliaa
