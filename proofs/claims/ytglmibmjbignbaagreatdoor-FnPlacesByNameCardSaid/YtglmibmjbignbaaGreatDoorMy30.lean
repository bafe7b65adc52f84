/-
  The contracts of PlacesIn of both packages.
-/
import Derived.Test.YtglmibmjbignbaaGreatDoorMy29
import Derived.Test.YtglmibmjbignbaaGreatDoorMy7
import Derived.Test.YtglmibmjbignbaaGreatDoorMy1
import Derived.Test.YtglmibmjbignbaaGreatDoorMy4
import Derived.Test.YtglmibmjbignbaaGreatDoorMy12
import Derived.Test.YtglmibmjbignbaaGreatDoorMy9
import Derived.Test.YtglmibmjbignbaaGreatDoorMy6
namespace Go.Proofs.YtglmibmjbignbaaGreatDoor
section
set_option linter.unusedVariables false
open Go.RowKit

theorem cIn1 (p : Pl) (A : Option Addr) (d gb : Nat) (y : Int) (w : World) (hB : Bx w gb [.int .i64 y]) :
    Calls Tryz.prog 73 #[enA p A d, .pointer (some ⟨gb, 0, none⟩)] w fun e w' => e = .returned (.bool (exB p y)) ∧ Below w.heap.size w w' := by
  have CE := Lib.hid (fun W => cExists p A d y W)
  have HA := Lib.hid (below_alloc11 w (.cells #[.slice A p.ns.length d, .string p.c, .int .i64 p.k, .int .i64 p.f, .int .i64 p.u] 87))
  have k0 := (hB.2 0 _ rfl).1
  have hl := hB.1
  clear hB
  go_enter Tryz.func73, Tryz.ntmps73
  go_wp2_with fail
  refine (CE.out _).mono ?_
  rintro e w1 ⟨rfl, g1⟩
  have hbt := bstep9 HA.out HA.out.size g1
  clear g1
  go_wp2_with fail
  go_ret
  exact ⟨rfl, hbt⟩
set_option maxHeartbeats 1000000 in
theorem cPlIn_impl (A : Option Addr) (n c : Nat) (ps : List Pl) (y : Int) (w : World) (hb : n ≤ 1048576) (hz : Sz11 ps) (h : PlAt w w.heap.size A n ps) (hsh : w.ShapedOpen Tryz.prog) (her : Er6 w) :
    Calls Tryz.prog 17 #[.slice A n c, .int .i64 y] w (OutT11 (piZ ps y) (pyC ps y) w) := by
  have hmf : ∀ (fn : Fn) (first cap : Array Value) (w : World), (Instr.makeFunc fn first cap).run Tryz.prog w = .ok (.func fn first cap) w := fun _ _ _ _ => rfl
  have hA := below_alloc11 w (.cells #[.int .i64 y] 2)
  have HA := Lib.hid hA
  have HX := Lib.hid (Bx.new w #[.int .i64 y] 2)
  have CK := Lib.hid (cChkReg A n c ps y _ hb hz (h.grow hA) (shaped_below hsh hA) (her.below hA))
  have CW := Lib.hid (fun W (hW : Below w.heap.size w W) (hB : Bx W w.heap.size [.int .i64 y]) => cWhereIn A n c ps w.heap.size (fun p => exB p y) W hb (h.grow hW) (fun p _ A d V hV _ _ => cIn1 p A d w.heap.size y V (hB.next hV)))
  clear h hz hsh her hA
  obtain ⟨q, hq⟩ : ∃ q, q = pyC ps y := ⟨_, rfl⟩
  by_cases h0 : q = 0
  · subst h0
    rw [piZ_ok hq.symm, ← hq]
    rw [← hq] at CK
    clear hq
    go_enter Tryz.func17, Tryz.ntmps17
    go_wp2_with fail
    refine CK.out.mono ?_
    rintro e w1 ⟨rfl, g1⟩
    have hbt := bstep9 HA.out HA.out.size g1
    have CW1 := Lib.hid (CW.out w1 hbt (HX.out.next g1))
    clear g1
    go_wp2_with fail
    refine CW1.out.mono ?_
    rintro e w2 ⟨B, m, d, rfl, hown, g2⟩
    have hb2 := bstep9 hbt hbt.size g2
    have HO := Lib.hid (World.ownsRow.mono hown hbt.size)
    clear hown g2
    go_wp2_with fail
    go_ret2
    exact ⟨B, m, d, rfl, HO.out, hb2⟩
  · rw [piZ_no (by rw [← hq]; exact h0), ← hq]
    rw [← hq] at CK
    have hd : (q != 0) = true := by simp [h0]
    clear hq h0 CW
    go_enter Tryz.func17, Tryz.ntmps17
    go_wp2_with fail
    refine CK.out.mono ?_
    rintro e w1 ⟨rfl, g1⟩
    have hbt := bstep9 HA.out HA.out.size g1
    clear g1
    go_wp2_with fail
    go_ret2
    exact ⟨none, 0, 0, rfl, World.ownsRow_nil _ _ _ _, hbt⟩
set_option maxHeartbeats 2000000 in
set_option maxRecDepth 100000 in
theorem cPlIn_spec (A : Option Addr) (n c : Nat) (ps : List Pl) (y : Int) (w : World) (hb : n ≤ 1048576) (hz : Sz11 ps) (h : PlAt w w.heap.size A n ps) :
    Calls Tryz.prog 18 #[.slice A n c, .int .i64 y] w (OutT11 (piZ ps y) (pyC ps y) w) := by
  obtain ⟨i0, hi0, hz0, hz1, hz2⟩ := info_parts info_strW
  have CK := Lib.hid (cL11Year A n c ps y w hb hz h)
  have CE := Lib.hid (fun p A d W => cL11Ex p A d y W)
  have H := Lib.hid h
  have HN := Lib.hid h.1
  clear h hz
  obtain ⟨q, hq⟩ : ∃ q, q = pyC ps y := ⟨_, rfl⟩
  by_cases h0 : q = 0
  · subst h0
    rw [piZ_ok hq.symm, ← hq]
    rw [← hq] at CK
    clear hq
    go_enter Tryz.func18, Tryz.ntmps18
    go_wp2_with fail
    refine CK.out.mono ?_
    rintro e w1 ⟨rfl, hbt⟩
    have HO0 := Lib.hid (World.ownsRow_lit (e := 9) (base := w.heap.size) (size := 1) w1 #[] 0 hbt.size (by decide) rfl)
    have hb1a := hbt.alloc hbt.size (.cells #[] 9)
    go_wp2_with fail
    go_loopw [7, 8] (fun o i wr => ∃ (k m d : Nat) (B : Option Addr), k ≤ n ∧ i = .int .i64 k ∧ o = .slice B m d ∧ Hid (m ≤ k) ∧ Hid (wr.ownsRow w.heap.size 9 1 (.slice B m d) m (strV (cdZ (fun p => exB p y) (ps.take k)))) ∧ Below w.heap.size w wr) (fun _ i _ => n - (intOf i).toNat)
    case atStart => exact ⟨0, 0, 0, _, Nat.zero_le _, rfl, rfl, Lib.hid (Nat.le_refl _), HO0, hb1a⟩
    case round =>
      clear HO0 hb1a hbt
      obtain ⟨k, m, d, B, hk, rfl, rfl, HM, HO, hbw⟩ := hrel
      by_cases hlt : k < n
      · obtain ⟨p, hp⟩ : ∃ p, ps[k]? = some p := ⟨ps[k]'(by have := HN.out; omega), List.getElem?_eq_getElem _⟩
        have HRR := Lib.hid ((H.out.below hbw (Nat.le_refl _)).row hp)
        obtain ⟨b, o, rfl, hbl, A1, d1, c0, c1, c2, c3, c4, hnm, hd⟩ := HRR.out
        have CX := Lib.hid (CE.out p A1 d1 wr)
        have HP := Lib.hid hp
        have u1 : (0 : Int) ≤ (k : Int) := Int.natCast_nonneg _
        have u2 : (k : Int) < (n : Int) := by omega
        have l1 := Nat.lt_of_lt_of_le hbl hbw.size
        clear hp hnm hd HRR
        cases hf : exB p y
        · rw [hf] at CX
          have HST := Lib.hid (cdZ_no (P := fun p => exB p y) HP.out hf)
          clear hf
          go_wp2_with fail
          refine CX.out.mono ?_
          rintro e w2 ⟨rfl, g2⟩
          have hbt := bstep9 hbw hbw.size g2
          have HO2 : Hid (w2.ownsRow w.heap.size 9 1 (.slice B m d) m (strV (cdZ (fun p => exB p y) (ps.take (k + 1))))) := Lib.hid (by rw [HST.out]; exact keptW HO.out g2)
          clear g2 c0 c1 c2 c3 c4
          go_wp2_with fail
          go_roundw
          case rel => exact ⟨k + 1, m, d, B, by omega, by go_num, rfl, Lib.hid (by have := HM.out; omega), HO2, hbt⟩
          case measure => simp [intOf]; omega
        · rw [hf] at CX
          have HST := Lib.hid (cdZ_yes (P := fun p => exB p y) HP.out hf)
          clear hf
          go_wp2_with fail
          refine CX.out.mono ?_
          rintro e w2 ⟨rfl, g2⟩
          have hbt := bstep9 hbw hbw.size g2
          have hown := keptW HO.out g2
          have hmk := HM.out
          have q0 : w2.cell? ⟨b, o + k * 5, none⟩ = some (.string p.c) := (g2.cell (p := ⟨b, o + k * 5, none⟩) l1).trans c0
          clear g2 c0 c1 c2 c3 c4
          go_wp2_with (at_builtin; refine wpList_append_own _ rfl _ _ 38 rfl w.heap.size 9 i0 _ 1 16 Tryz.underlying38 hi0 hz0 hz1 hz2 rfl (by decide) _ _ _ rfl (hown.alloc _) ⟨w2.heap.size, 0, none⟩ 1 1 [.string p.c] rfl rfl ?d1 ?d2 ?d3 ?d4 ?d5 ?_)
          case d1 => exact one_cell' _ _ _ (new_one _ _ _)
          case d2 => intro u hu; simp at hu; subst hu; rfl
          case d3 => unfold maxLen; omega
          case d4 => omega
          case d5 => have := hbt.size; simp; omega
          intro v' w3 hown3 hgrow3 _
          rw [strV_snocW] at hown3
          have hb3 : Below w.heap.size w w3 := (hbt.alloc hbt.size _).grown hgrow3 (by have := hbt.size; simp; omega) (fun x hx => (hown.lt x hx).1)
          have HO3 : Hid (w3.ownsRow w.heap.size 9 1 v' (m + 1) (strV (cdZ (fun p => exB p y) (ps.take (k + 1))))) := Lib.hid (by rw [HST.out]; exact hown3)
          obtain ⟨g', c', rfl, _, _⟩ := World.ownsRow.form HO3.out (by omega)
          clear hown3 hown hgrow3 q0
          go_wp2_with fail
          go_roundw
          case rel => exact ⟨k + 1, m + 1, c', some ⟨g', 0, none⟩, by omega, by go_num, rfl, Lib.hid (by omega), HO3, hb3⟩
          case measure => simp [intOf]; omega
      · have HF : Hid (wr.ownsRow w.heap.size 9 1 (.slice B m d) m (strV (cdZ (fun p => exB p y) ps))) := Lib.hid (by have := HO.out; rwa [List.take_of_length_le (by have := HN.out; omega)] at this)
        go_wp2_with fail
        go_ret2
        exact ⟨B, m, d, rfl, HF.out, hbw⟩
  · rw [piZ_no (by rw [← hq]; exact h0), ← hq]
    rw [← hq] at CK
    have hd : (q != 0) = true := by simp [h0]
    clear hq h0
    go_enter Tryz.func18, Tryz.ntmps18
    go_wp2_with fail
    refine CK.out.mono ?_
    rintro e w1 ⟨rfl, hbt⟩
    go_wp2_with fail
    go_ret2
    exact ⟨none, 0, 0, rfl, World.ownsRow_nil _ _ _ _, hbt⟩
end
section
set_option linter.unusedVariables false
set_option linter.unusedSimpArgs false
open Go.RowKit

def hasT (s : ByteArray) (xs : List ByteArray) : Bool := xs.any (fun x => decide (x = s))
theorem hasT_miss (s : ByteArray) (xs : List ByteArray) (k : Nat) (x : ByteArray) (h : xs[k]? = some x) (hx : ¬ x = s) : hasT s (xs.take (k + 1)) = hasT s (xs.take k) := by
  have hl := (List.getElem?_eq_some_iff.1 h).1
  have he : xs[k] = x := (List.getElem?_eq_some_iff.1 h).2
  rw [List.take_succ_eq_append_getElem hl]; unfold hasT; simp [List.any_append, he, hx]
theorem hasT_in {s : ByteArray} {xs : List ByteArray} (h : s ∈ xs) : hasT s xs = true := by unfold hasT; rw [List.any_eq_true]; exact ⟨s, h, by simp⟩
theorem eqT_yes (x s : ByteArray) (h : x = s) : (x.toList == s.toList) = true := by rw [h]; exact beq_self_eq_true _
theorem eqT_no (x s : ByteArray) (h : ¬ x = s) : (x.toList == s.toList) = false := by rw [toList_beq]; exact decide_eq_false h
theorem retB (a b : Bool) (h : a = b) : Ending.returned (.bool a) = .returned (.bool b) := by rw [h]
theorem cHasT (s : ByteArray) (b o c n : Nat) (xs : List ByteArray) (w : World) (hn : n = xs.length) (hbig : n ≤ 1048576)
    (hc : ∀ (j : Nat) x, xs[j]? = some x → w.cell? ⟨b, o + j, none⟩ = some (.string x)) :
    Calls Tryz.prog 27 #[.slice (some ⟨b, o, none⟩) n c, .string s] w fun e w' => e = .returned (.bool (hasT s xs)) ∧ w = w' := by
  have HN := Lib.hid hn
  have HC := Lib.hid hc
  clear hn hc
  go_enter Tryz.func27, Tryz.ntmps27
  go_wp2
  go_loop [5] (fun i => ∃ k : Nat, k ≤ n ∧ i = .int .i64 k ∧ Hid (hasT s (xs.take k) = false)) (fun i => n - (intOf i).toNat)
  case atStart => exact ⟨0, Nat.zero_le _, rfl, Lib.hid rfl⟩
  case round =>
    obtain ⟨k, hk, rfl, HA⟩ := hrel
    by_cases hlt : k < n
    · obtain ⟨x, hx⟩ : ∃ x, xs[k]? = some x := ⟨xs[k]'(by have := HN.out; omega), List.getElem?_eq_getElem _⟩
      have hcx := HC.out k x hx
      have HX := Lib.hid hx
      clear hx
      by_cases he : x = s
      · have hd := eqT_yes x s he
        have HE := Lib.hid he
        clear he
        go_wp2
        go_ret
        exact ⟨retB _ _ (by symm; exact hasT_in (by rw [← HE.out]; exact List.mem_of_getElem? HX.out)), rfl⟩
      · have hd := eqT_no x s he
        have HE := Lib.hid he
        clear he
        go_wp2
        go_round
        case rel => exact ⟨k + 1, by omega, by go_num, Lib.hid ((hasT_miss s xs k x HX.out HE.out).trans HA.out)⟩
        case measure => simp [intOf]; omega
    · go_wp2
      go_ret
      exact ⟨retB _ _ (by have := HA.out; rw [List.take_of_length_le (by have := HN.out; omega)] at this; exact this.symm), rfl⟩
theorem tHasT (s : ByteArray) (A : Option Addr) (n c B : Nat) (xs : List ByteArray) (w : World) (hbig : n ≤ 1048576) (hp : s ∈ xs) (h : TextAt w B A n xs) :
    Calls Tryz.prog 27 #[.slice A n c, .string s] w fun e w' => e = .returned (.bool true) ∧ w = w' := by
  obtain ⟨b, o, rfl, hb, hc⟩ := h.2 (by rw [h.1]; exact List.length_pos_of_mem hp)
  have k := cHasT s b o c n xs w h.1 hbig hc
  rw [hasT_in hp] at k
  exact k

theorem cHasT_none (s : ByteArray) (A : Option Addr) (c : Nat) (w : World) :
    Calls Tryz.prog 27 #[.slice A 0 c, .string s] w fun e w' => e = .returned (.bool false) ∧ w = w' := by
  go_enter Tryz.func27, Tryz.ntmps27
  go_wp2
  refine wp_loop_rounds 1 ?_
  rw [rounds_succ]
  go_wp2
  go_ret
  exact ⟨rfl, rfl⟩
theorem aHasT (s : ByteArray) (A : Option Addr) (n c B : Nat) (xs : List ByteArray) (w : World) (hbig : n ≤ 1048576) (h : TextAt w B A n xs) :
    Calls Tryz.prog 27 #[.slice A n c, .string s] w fun e w' => e = .returned (.bool (hasT s xs)) ∧ w = w' := by
  rcases Nat.eq_zero_or_pos n with rfl | hp
  · obtain rfl : xs = [] := List.eq_nil_of_length_eq_zero h.1.symm
    exact cHasT_none s A c w
  · obtain ⟨b, o, rfl, hb, hc⟩ := h.2 hp
    exact cHasT s b o c n xs w h.1 hbig hc
end
section
set_option linter.unusedVariables false
open Go.RowKit

theorem cLikeT_none (A A' : Option Addr) (cap cap' : Nat) (w : World) :
    Calls Tryz.prog 22 #[.slice A 0 cap, .slice A' 0 cap'] w fun e w' => e = .returned (.bool true) ∧ w = w' := by
  go_enter Tryz.func22, Tryz.ntmps22
  go_wp2
  refine wp_loop_rounds 1 ?_
  rw [rounds_succ]
  go_wp2
  go_ret
  exact ⟨rfl, rfl⟩
set_option maxHeartbeats 1000000 in
theorem cLikeT (A A' : Option Addr) (cap cap' n B B' : Nat) (xs : List ByteArray) (w : World) (hbig : n ≤ 1099511627776) (h : TextAt w B A n xs) (h' : TextAt w B' A' n xs) :
    Calls Tryz.prog 22 #[.slice A n cap, .slice A' n cap'] w fun e w' => e = .returned (.bool true) ∧ Below w.heap.size w w' := by
  rcases Nat.eq_zero_or_pos n with rfl | hp
  · exact (cLikeT_none A A' cap cap' w).mono fun e w' ⟨he, hw⟩ => ⟨he, hw ▸ Below.refl _ _⟩
  have HN := Lib.hid h.1
  obtain ⟨g, o, rfl, _, h1⟩ := h.2 hp
  obtain ⟨g', o', rfl, _, h2⟩ := h'.2 hp
  have H1 := Lib.hid h1
  have H2 := Lib.hid h2
  clear h1 h2 h h'
  go_enter Tryz.func22, Tryz.ntmps22
  go_wp2
  go_loopw [5] (fun i wr => ∃ j m : Nat, j ≤ n ∧ i = .int .i64 j ∧ wr = w.drewN m) (fun i _ => n - (intOf i).toNat)
  case atStart => exact ⟨0, 0, Nat.zero_le _, rfl, rfl⟩
  case round =>
    obtain ⟨j, m, hj, rfl, rfl⟩ := hrel
    by_cases hlt : j < n
    · obtain ⟨x, hx⟩ : ∃ x, xs[j]? = some x := ⟨xs[j]'(by have := HN.out; omega), List.getElem?_eq_getElem _⟩
      have c1 : w.cell? ⟨g, o + j, none⟩ = some (.string x) := H1.out j x hx
      have c2 : w.cell? ⟨g', o' + j, none⟩ = some (.string x) := H2.out j x hx
      clear hx
      have e1 : (0 : Int) ≤ (j : Int) := Int.natCast_nonneg _
      have e2 : (j : Int) < (n : Int) := by omega
      have hd : (x.toList != x.toList) = false := by rw [bne, beq_self_eq_true]; rfl
      go_wp2
      go_quiet (fail)
      go_wp2
      go_roundw
      case rel => exact ⟨j + 1, _, by omega, by go_num, rfl⟩
      case measure => simp [intOf]; omega
    · go_wp2
      go_ret
      exact ⟨rfl, ⟨rfl, rfl, rfl, Nat.le_refl _, fun _ _ => rfl⟩⟩

theorem likeT (A A' : Option Addr) (n n' c c' : Nat) (xs : List ByteArray) (w : World) (hn : n ≤ 1048576) (h : TextAt w w.heap.size A n xs) (h' : TextAt w w.heap.size A' n' xs) :
    Calls Tryz.prog 22 #[.slice A n c, .slice A' n' c'] w fun e w' => e = .returned (.bool true) ∧ Below w.heap.size w w' := by
  have e : n' = n := h'.1.trans h.1.symm
  rw [e] at h' ⊢
  exact cLikeT A A' c c' n _ _ xs w (by omega) h h'
end
section
set_option linter.unusedVariables false
open Go.RowKit

theorem cBig (A : Option Addr) (len cap : Nat) (w : World) (h : len ≤ maxLen) :
    Calls Tryz.prog 9 #[.slice A len cap] w fun e w' => e = .returned (.bool (decide (4096 < len))) ∧ w = w' := by
  unfold maxLen at h
  by_cases h1 : 4096 < len
  · have hd : decide ((4096 : Int) < (len : Int)) = true := decide_eq_true (by omega)
    have HD := Lib.hid (decide_eq_true h1)
    clear h1
    go_enter Tryz.func9, Tryz.ntmps9
    go_wp2
    go_ret
    exact ⟨ret_bool HD.out.symm, rfl⟩
  · have hd : decide ((4096 : Int) < (len : Int)) = false := decide_eq_false (by omega)
    have HD := Lib.hid (decide_eq_false h1)
    clear h1
    go_enter Tryz.func9, Tryz.ntmps9
    go_wp2
    go_ret
    exact ⟨ret_bool HD.out.symm, rfl⟩
end
end Go.Proofs.YtglmibmjbignbaaGreatDoor
