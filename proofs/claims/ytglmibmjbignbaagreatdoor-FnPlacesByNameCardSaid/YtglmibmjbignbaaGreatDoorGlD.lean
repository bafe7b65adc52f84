/-
  The contract of spec.l11List: a drawn register, rarely another list.
-/
import Derived.Test.YtglmibmjbignbaaGreatDoorGlA
namespace Go.Proofs.YtglmibmjbignbaaGreatDoor
set_option linter.unusedVariables false
open Go.RowKit

def GlPost (w : World) (B len : Nat) (e : Ending) (w' : World) : Prop := ∃ (A : Option Addr) (n c : Nat) (ps : List Pl), e = .returned (.slice A n c) ∧ n ≤ 12 ∧ LP w B len w' A n c ps
theorem LN.lenG {w V : World} {R B len m c : Nat} {A : Option Addr} {xs : List Nm} (h : LN w R B len V (.slice A m c) m xs) : m ≤ c := by
  obtain ⟨A', c', e, h1, _⟩ := h.form
  injection e with e1 e2 e3
  omega

def abcG : ByteArray := ⟨#[97, 98, 99, 100, 101, 102, 103, 104, 105, 106, 107, 108]⟩
def letG (k : Nat) : ByteArray := [(⟨#[97]⟩ : ByteArray), ⟨#[98]⟩, ⟨#[99]⟩, ⟨#[100]⟩, ⟨#[101]⟩, ⟨#[102]⟩, ⟨#[103]⟩, ⟨#[104]⟩, ⟨#[105]⟩, ⟨#[106]⟩, ⟨#[107]⟩, ⟨#[108]⟩].getD k ByteArray.empty
theorem letG_size (k : Nat) (h : k < 12) : (letG k).size ≤ 1 := by
  match k, h with
  | 0, _ => decide
  | 1, _ => decide
  | 2, _ => decide
  | 3, _ => decide
  | 4, _ => decide
  | 5, _ => decide
  | 6, _ => decide
  | 7, _ => decide
  | 8, _ => decide
  | 9, _ => decide
  | 10, _ => decide
  | 11, _ => decide
theorem sliceG (k : Nat) (h : k < 12) (W : World) : (Instr.slice 9 (.string ⟨#[97, 98, 99, 100, 101, 102, 103, 104, 105, 106, 107, 108]⟩) (some (.int .i64 (k : Int))) (some (.int .i64 ((k : Int) + 1))) none).run Tryz.prog W = .ok (.string (letG k)) W := by
  match k, h with
  | 0, _ => exact (show (Instr.slice 9 (.string ⟨#[97, 98, 99, 100, 101, 102, 103, 104, 105, 106, 107, 108]⟩) (some (.int .i64 ((0 : Nat) : Int))) (some (.int .i64 (((0 : Nat) : Int) + 1))) none).run Tryz.prog W = .ok (.string (letG 0)) W by kernel_rfl)
  | 1, _ => exact (show (Instr.slice 9 (.string ⟨#[97, 98, 99, 100, 101, 102, 103, 104, 105, 106, 107, 108]⟩) (some (.int .i64 ((1 : Nat) : Int))) (some (.int .i64 (((1 : Nat) : Int) + 1))) none).run Tryz.prog W = .ok (.string (letG 1)) W by kernel_rfl)
  | 2, _ => exact (show (Instr.slice 9 (.string ⟨#[97, 98, 99, 100, 101, 102, 103, 104, 105, 106, 107, 108]⟩) (some (.int .i64 ((2 : Nat) : Int))) (some (.int .i64 (((2 : Nat) : Int) + 1))) none).run Tryz.prog W = .ok (.string (letG 2)) W by kernel_rfl)
  | 3, _ => exact (show (Instr.slice 9 (.string ⟨#[97, 98, 99, 100, 101, 102, 103, 104, 105, 106, 107, 108]⟩) (some (.int .i64 ((3 : Nat) : Int))) (some (.int .i64 (((3 : Nat) : Int) + 1))) none).run Tryz.prog W = .ok (.string (letG 3)) W by kernel_rfl)
  | 4, _ => exact (show (Instr.slice 9 (.string ⟨#[97, 98, 99, 100, 101, 102, 103, 104, 105, 106, 107, 108]⟩) (some (.int .i64 ((4 : Nat) : Int))) (some (.int .i64 (((4 : Nat) : Int) + 1))) none).run Tryz.prog W = .ok (.string (letG 4)) W by kernel_rfl)
  | 5, _ => exact (show (Instr.slice 9 (.string ⟨#[97, 98, 99, 100, 101, 102, 103, 104, 105, 106, 107, 108]⟩) (some (.int .i64 ((5 : Nat) : Int))) (some (.int .i64 (((5 : Nat) : Int) + 1))) none).run Tryz.prog W = .ok (.string (letG 5)) W by kernel_rfl)
  | 6, _ => exact (show (Instr.slice 9 (.string ⟨#[97, 98, 99, 100, 101, 102, 103, 104, 105, 106, 107, 108]⟩) (some (.int .i64 ((6 : Nat) : Int))) (some (.int .i64 (((6 : Nat) : Int) + 1))) none).run Tryz.prog W = .ok (.string (letG 6)) W by kernel_rfl)
  | 7, _ => exact (show (Instr.slice 9 (.string ⟨#[97, 98, 99, 100, 101, 102, 103, 104, 105, 106, 107, 108]⟩) (some (.int .i64 ((7 : Nat) : Int))) (some (.int .i64 (((7 : Nat) : Int) + 1))) none).run Tryz.prog W = .ok (.string (letG 7)) W by kernel_rfl)
  | 8, _ => exact (show (Instr.slice 9 (.string ⟨#[97, 98, 99, 100, 101, 102, 103, 104, 105, 106, 107, 108]⟩) (some (.int .i64 ((8 : Nat) : Int))) (some (.int .i64 (((8 : Nat) : Int) + 1))) none).run Tryz.prog W = .ok (.string (letG 8)) W by kernel_rfl)
  | 9, _ => exact (show (Instr.slice 9 (.string ⟨#[97, 98, 99, 100, 101, 102, 103, 104, 105, 106, 107, 108]⟩) (some (.int .i64 ((9 : Nat) : Int))) (some (.int .i64 (((9 : Nat) : Int) + 1))) none).run Tryz.prog W = .ok (.string (letG 9)) W by kernel_rfl)
  | 10, _ => exact (show (Instr.slice 9 (.string ⟨#[97, 98, 99, 100, 101, 102, 103, 104, 105, 106, 107, 108]⟩) (some (.int .i64 ((10 : Nat) : Int))) (some (.int .i64 (((10 : Nat) : Int) + 1))) none).run Tryz.prog W = .ok (.string (letG 10)) W by kernel_rfl)
  | 11, _ => exact (show (Instr.slice 9 (.string ⟨#[97, 98, 99, 100, 101, 102, 103, 104, 105, 106, 107, 108]⟩) (some (.int .i64 ((11 : Nat) : Int))) (some (.int .i64 (((11 : Nat) : Int) + 1))) none).run Tryz.prog W = .ok (.string (letG 11)) W by kernel_rfl)

set_option maxHeartbeats 20000000 in
set_option maxRecDepth 100000 in
theorem cGlD (B len : Nat) (w : World) (hlen : len ≤ 1048576) (h : Src w B len) :
    Calls Tryz.prog 53 #[.pointer (some ⟨B, 0, none⟩)] w (GlPost w B len) := by
  have hBl := h.lt
  have CN := Lib.hid (fun (V : World) (n : Int) (hV : Src V B len) (h1 : -1000000000 ≤ n) (h2 : n ≤ 10000000000) => cNext B len n V hlen h1 h2 hV)
  have CG := Lib.hid (fun (V : World) (hV : Src V B len) => cGdD B len V hlen hV)
  have CD := Lib.hid (fun (V : World) (hV : Src V B len) => cGeD B len V hlen hV)
  have H1 := Lib.hid (LP.nil h)
  clear h
  go_enter Tryz.func53, Tryz.ntmps53
  go_wp2_with fail
  refine (CN.out _ 7 H1.out.src (by omega) (by omega)).mono ?_
  rintro e w2 ⟨r, hr0, hr1, rfl, hS2, g2⟩
  have H2 := Lib.hid (H1.out.next hS2 g2)
  obtain ⟨j, rfl⟩ : ∃ j : Nat, r = j := ⟨r.toNat, by omega⟩
  have hj6 : j ≤ 6 := by omega
  clear hS2 g2 H1 hr0 hr1
  go_wp2_with fail
  go_loopw [3, 4] (fun ov i wr => ∃ (k n c : Nat) (A : Option Addr) (ps : List Pl), k ≤ 6 ∧ i = .int .i64 k ∧ ov = .slice A n c ∧ n ≤ 10 ∧ Hid (LP w B len wr A n c ps)) (fun _ i _ => (intOf i).toNat)
  case atStart => exact ⟨j, 0, 0, _, [], hj6, rfl, rfl, by omega, H2⟩
  case round =>
    clear H2 hj6
    obtain ⟨k, n, c, A, ps, hk6, rfl, rfl, hn, HL⟩ := hrel
    by_cases hk : 0 < k
    · obtain ⟨q, rfl⟩ : ∃ q, k = q + 1 := ⟨k - 1, by omega⟩
      have hk2 : (0 : Int) < ((q + 1 : Nat) : Int) := by omega
      go_wp2_with fail
      refine (CG.out _ HL.out.src).mono ?_
      rintro e w4 ⟨p, A1, c1, rfl, hp, hle, hln⟩
      have HL4 := Lib.hid (HL.out.next hln.src hln.grown)
      have HQ : Hid (SmQ p) := Lib.hid ⟨hp.sm, by omega, hln.small⟩
      have CA := Lib.hid (cAdd_spec A A1 n c c1 ps p w4 (by omega) HL4.out.sz (smq_sz HQ.out) HL4.out.pl HL4.out.form (own_nm hln.own) hln.lenG)
      obtain ⟨d, hd⟩ : ∃ d, d = adC ps p := ⟨_, rfl⟩
      rw [← hd] at CA
      have HD := Lib.hid hd
      clear hp hle hln HL hd
      unfold plv11 at CA
      by_cases h0 : d = 0
      · subst h0
        go_wp2_with fail
        refine CA.out.mono ?_
        rintro e w5 ⟨A5, n5, c5, es5, rfl, hes, how, hb5⟩
        have HL5 := Lib.hid (HL4.out.add HQ.out HD.out.symm hes how hb5)
        have hn5 : n5 ≤ 10 := by
          have h1 := how.len
          have h2 := congrArg List.length hes
          rw [plsOf_len] at h2
          have h3 := adZ_ten HD.out.symm
          omega
        clear hes how hb5
        go_wp2_with fail
        go_roundw
        case rel => exact ⟨q, n5, c5, A5, _, by omega, by go_num, rfl, hn5, HL5⟩
        case measure => simp [intOf]
      · have d0 : (d == 0) = false := by rw [beq_eq_false_iff_ne]; exact h0
        go_wp2_with fail
        refine CA.out.mono ?_
        rintro e w5 ⟨A5, n5, c5, es5, rfl, hes, how, hb5⟩
        have HL5 := Lib.hid (HL4.out.below hb5)
        clear hes how hb5
        go_wp2_with fail
        go_roundw
        case rel => exact ⟨q, n, c, A, ps, by omega, by go_num, rfl, hn, HL5⟩
        case measure => simp [intOf]
    · obtain rfl : k = 0 := by omega
      clear hk6 hk
      go_wp2_with fail
      refine (CN.out _ 24 HL.out.src (by omega) (by omega)).mono ?_
      rintro e w3 ⟨r, hr0, hr1, rfl, hS3, g3⟩
      have HL3 := Lib.hid (HL.out.next hS3 g3)
      clear hS3 g3 HL hr1
      by_cases h0 : r = 0
      · subst h0
        clear hr0
        obtain ⟨es, he, ho3⟩ := HL3.out.own
        go_wp2_with fail
        refine (CD.out _ HL3.out.src).mono ?_
        rintro e w4 ⟨p, A1, c1, rfl, hp, hle, hln⟩
        have HL4 := Lib.hid (HL3.out.next hln.src hln.grown)
        have HQ : Hid (SmQ p) := Lib.hid ⟨hp, hle, hln.small⟩
        have HO4 := Lib.hid (own_next hBl ho3 hln.grown)
        have HIN : Hid (0 < p.ns.length → w4.ownsRow w.heap.size 100 5 (.slice A1 p.ns.length c1) p.ns.length (nmV p.ns)) := Lib.hid (fun _ => rowBase hln.own HL3.out.grown.size)
        have HAP : Hid (∀ x ∈ es, 0 < x.p.ns.length → 0 < p.ns.length → x.a ≠ A1) := Lib.hid (fun x hx h1 h2 => ho3.newer hln.own h2 x hx h1)
        have HE := Lib.hid he
        clear hp hle hln ho3 HL3 he
        unfold plv11
        go_wp2_with (at_builtin; refine wpList_appP HL4.out HQ.out es HE.out HO4.out HIN.out HAP.out rfl _ _ rfl rfl rfl (by omega) ?_; intro A5 c5 w5 hl5; have HL5 := Lib.hid hl5; clear hl5)
        go_ret
        exact ⟨_, n + 1, _, _, rfl, by omega, HL5.out⟩
      have d0 : (r == 0) = false := by rw [beq_eq_false_iff_ne]; exact h0
      by_cases h1 : r = 1
      · subst h1
        clear hr0
        go_wp2_with fail
        go_loopw [3, 7] (fun ov i wr => ∃ (k n c : Nat) (A : Option Addr) (ps : List Pl), k ≤ 12 ∧ i = .int .i64 k ∧ ov = .slice A n c ∧ n ≤ 12 ∧ Hid (LP w B len wr A n c ps)) (fun _ i _ => 12 - (intOf i).toNat)
        case atStart => exact ⟨0, n, c, A, ps, by omega, rfl, rfl, by omega, HL3⟩
        case round =>
          clear HL3 hn
          obtain ⟨k, n, c, A, ps, hk, rfl, rfl, hn, HL⟩ := hrel
          go_wp2_with fail
          refine (CN.out _ 2 HL.out.src (by omega) (by omega)).mono ?_
          rintro e w4 ⟨y, hy0, hy1, rfl, hS4, g4⟩
          have HL4 := Lib.hid (HL.out.next hS4 g4)
          clear hS4 g4 HL
          have hy2 : y ≤ 1 := by omega
          clear hy1
          by_cases hlt2 : (n : Int) < 10 + y
          · by_cases hk12 : k < 12
            · have e1 : (k : Int) < 12 := by omega
              have e2 : (0 : Int) ≤ (k : Int) := by omega
              have hsl := sliceG k hk12
              have hls := letG_size k hk12
              have HQ : Hid (SmQ ⟨⟨#[122]⟩ ++ letG k, 0, 1500, 1600, []⟩) := Lib.hid ⟨⟨by show (⟨#[122]⟩ ++ letG k : ByteArray).size ≤ 64; rw [ByteArray.size_append]; have : (⟨#[122]⟩ : ByteArray).size = 1 := rfl; omega, (by show (-4000 : Int) ≤ 0 ∧ (0 : Int) ≤ 4000; decide), (by show (-4000 : Int) ≤ 1500 ∧ (1500 : Int) ≤ 4000; decide), (by show (-4000 : Int) ≤ 1600 ∧ (1600 : Int) ≤ 4000; decide)⟩, Nat.zero_le _, (fun x hx => by cases hx)⟩
              have hn12 : n + 1 ≤ 12 := by omega
              generalize letG k = lk at hsl HQ hls
              have hls9 : (⟨#[122]⟩ : ByteArray).size + lk.size ≤ maxLen := by have : (⟨#[122]⟩ : ByteArray).size = 1 := rfl; unfold maxLen; omega
              go_wp2_with (at_builtin; go_loud (refine wpList_appP0 HL4.out HQ.out rfl _ _ rfl rfl rfl (by omega) ?_); intro A5 c5 w5 hl5; have HL5 := Lib.hid hl5; clear hl5)
              go_roundw
              case rel => exact ⟨k + 1, n + 1, c5, A5, _, by omega, by go_num, rfl, hn12, HL5⟩
              case measure => simp [intOf]; omega
            · have e1 : decide ((k : Int) < 12) = false := decide_eq_false (by omega)
              go_wp2_with fail
              go_ret
              exact ⟨_, n, _, ps, rfl, hn, HL4.out⟩
          · go_wp2_with fail
            go_ret
            exact ⟨_, n, _, ps, rfl, hn, HL4.out⟩
      · have d1 : (r == 1) = false := by rw [beq_eq_false_iff_ne]; exact h1
        go_wp2_with fail
        go_ret
        exact ⟨_, n, _, ps, rfl, by omega, HL3.out⟩
end Go.Proofs.YtglmibmjbignbaaGreatDoor
