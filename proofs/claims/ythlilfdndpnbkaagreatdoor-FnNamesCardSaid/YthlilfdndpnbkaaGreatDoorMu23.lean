/-
  The contract of laws.likeInts on equal rows.
-/
import Derived.Test.YthlilfdndpnbkaaGreatDoorMu14
import Derived.Test.YthlilfdndpnbkaaGreatDoorMu9
import Derived.Test.YthlilfdndpnbkaaGreatDoorMu11
import Derived.Test.YthlilfdndpnbkaaGreatDoorMu2
import Derived.Test.YthlilfdndpnbkaaGreatDoorMu5
import Derived.Test.YthlilfdndpnbkaaGreatDoorMu17
import Derived.Test.YthlilfdndpnbkaaGreatDoorMu3
import Derived.Deep.AppendLies
namespace Go.Proofs.YthlilfdndpnbkaaGreatDoor
section
set_option linter.unusedVariables false
open Go.RowKit

theorem cLikeN_none (A A' : Option Addr) (cap cap' : Nat) (w : World) :
    Calls Tryz.prog 30 #[.slice A 0 cap, .slice A' 0 cap'] w fun e w' => e = .returned (.bool true) ∧ w = w' := by
  go_enter Tryz.func30, Tryz.ntmps30
  go_wp2
  refine wp_loop_rounds 1 ?_
  rw [rounds_succ]
  go_wp2
  go_ret
  exact ⟨rfl, rfl⟩
set_option maxHeartbeats 1000000 in
theorem cLikeN (A A' : Option Addr) (cap cap' n B B' : Nat) (xs : List Int) (w : World) (hbig : n ≤ 1099511627776) (h : NumAt w B A n xs) (h' : NumAt w B' A' n xs) :
    Calls Tryz.prog 30 #[.slice A n cap, .slice A' n cap'] w fun e w' => e = .returned (.bool true) ∧ Below w.heap.size w w' := by
  rcases Nat.eq_zero_or_pos n with rfl | hp
  · exact (cLikeN_none A A' cap cap' w).mono fun e w' ⟨he, hw⟩ => ⟨he, hw ▸ Below.refl _ _⟩
  have HN := Lib.hid h.1
  obtain ⟨g, o, rfl, _, h1⟩ := h.2 hp
  obtain ⟨g', o', rfl, _, h2⟩ := h'.2 hp
  have H1 := Lib.hid h1
  have H2 := Lib.hid h2
  clear h1 h2 h h'
  go_enter Tryz.func30, Tryz.ntmps30
  go_wp2
  go_loopw [5] (fun i wr => ∃ j m : Nat, j ≤ n ∧ i = .int .i64 j ∧ wr = w.drewN m) (fun i _ => n - (intOf i).toNat)
  case atStart => exact ⟨0, 0, Nat.zero_le _, rfl, rfl⟩
  case round =>
    obtain ⟨j, m, hj, rfl, rfl⟩ := hrel
    by_cases hlt : j < n
    · obtain ⟨x, hx⟩ : ∃ x, xs[j]? = some x := ⟨xs[j]'(by have := HN.out; omega), List.getElem?_eq_getElem _⟩
      have c1 : w.cell? ⟨g, o + j, none⟩ = some (.int .i64 x) := H1.out j x hx
      have c2 : w.cell? ⟨g', o' + j, none⟩ = some (.int .i64 x) := H2.out j x hx
      clear hx
      have e1 : (0 : Int) ≤ (j : Int) := Int.natCast_nonneg _
      have e2 : (j : Int) < (n : Int) := by omega
      have hd : (x != x) = false := by simp
      go_wp2
      go_quiet (fail)
      go_wp2
      go_roundw
      case rel => exact ⟨j + 1, _, by omega, by go_num, rfl⟩
      case measure => simp [intOf]; omega
    · go_wp2
      go_ret
      exact ⟨rfl, ⟨rfl, rfl, rfl, Nat.le_refl _, fun _ _ => rfl⟩⟩

theorem likeN (A A' : Option Addr) (n n' c c' : Nat) (xs : List Int) (w : World) (hn : n ≤ 1048576) (h : NumAt w w.heap.size A n xs) (h' : NumAt w w.heap.size A' n' xs) :
    Calls Tryz.prog 30 #[.slice A n c, .slice A' n' c'] w fun e w' => e = .returned (.bool true) ∧ Below w.heap.size w w' := by
  have e : n' = n := h'.1.trans h.1.symm
  rw [e] at h' ⊢
  exact cLikeN A A' c c' n _ _ xs w (by omega) h h'
end
section
set_option linter.unusedVariables false
open Go.RowKit

theorem cLikeT_none (A A' : Option Addr) (cap cap' : Nat) (w : World) :
    Calls Tryz.prog 31 #[.slice A 0 cap, .slice A' 0 cap'] w fun e w' => e = .returned (.bool true) ∧ w = w' := by
  go_enter Tryz.func31, Tryz.ntmps31
  go_wp2
  refine wp_loop_rounds 1 ?_
  rw [rounds_succ]
  go_wp2
  go_ret
  exact ⟨rfl, rfl⟩
set_option maxHeartbeats 1000000 in
theorem cLikeT (A A' : Option Addr) (cap cap' n B B' : Nat) (xs : List ByteArray) (w : World) (hbig : n ≤ 1099511627776) (h : TextAt w B A n xs) (h' : TextAt w B' A' n xs) :
    Calls Tryz.prog 31 #[.slice A n cap, .slice A' n cap'] w fun e w' => e = .returned (.bool true) ∧ Below w.heap.size w w' := by
  rcases Nat.eq_zero_or_pos n with rfl | hp
  · exact (cLikeT_none A A' cap cap' w).mono fun e w' ⟨he, hw⟩ => ⟨he, hw ▸ Below.refl _ _⟩
  have HN := Lib.hid h.1
  obtain ⟨g, o, rfl, _, h1⟩ := h.2 hp
  obtain ⟨g', o', rfl, _, h2⟩ := h'.2 hp
  have H1 := Lib.hid h1
  have H2 := Lib.hid h2
  clear h1 h2 h h'
  go_enter Tryz.func31, Tryz.ntmps31
  go_wp2
  go_loopw [5] (fun i wr => ∃ j m : Nat, j ≤ n ∧ i = .int .i64 j ∧ wr = w.drewN m) (fun i _ => n - (intOf i).toNat)
  case atStart => exact ⟨0, 0, Nat.zero_le _, rfl, rfl⟩
  case round =>
    obtain ⟨j, m, hj, rfl, rfl⟩ := hrel
    by_cases hlt : j < n
    · obtain ⟨x, hx⟩ : ∃ x, xs[j]? = some x := ⟨xs[j]'(by have := HN.out; omega), List.getElem?_eq_getElem _⟩
      have c1 : w.cell? ⟨g, o + j, none⟩ = some (.string x) := H1.out j x hx
      have c2 : w.cell? ⟨g', o' + j, none⟩ = some (.string x) := H2.out j x hx
      clear hx
      have e1 : (0 : Int) ≤ (j : Int) := Int.natCast_nonneg _
      have e2 : (j : Int) < (n : Int) := by omega
      have hd : (x.toList != x.toList) = false := by rw [bne, beq_self_eq_true]; rfl
      go_wp2
      go_quiet (fail)
      go_wp2
      go_roundw
      case rel => exact ⟨j + 1, _, by omega, by go_num, rfl⟩
      case measure => simp [intOf]; omega
    · go_wp2
      go_ret
      exact ⟨rfl, ⟨rfl, rfl, rfl, Nat.le_refl _, fun _ _ => rfl⟩⟩

theorem likeT (A A' : Option Addr) (n n' c c' : Nat) (xs : List ByteArray) (w : World) (hn : n ≤ 1048576) (h : TextAt w w.heap.size A n xs) (h' : TextAt w w.heap.size A' n' xs) :
    Calls Tryz.prog 31 #[.slice A n c, .slice A' n' c'] w fun e w' => e = .returned (.bool true) ∧ Below w.heap.size w w' := by
  have e : n' = n := h'.1.trans h.1.symm
  rw [e] at h' ⊢
  exact cLikeT A A' c c' n _ _ xs w (by omega) h h'
end
section
set_option linter.unusedVariables false
set_option linter.unusedSimpArgs false
open Go.RowKit

def hasT (s : ByteArray) (xs : List ByteArray) : Bool := xs.any (fun x => decide (x = s))
theorem hasT_miss (s : ByteArray) (xs : List ByteArray) (k : Nat) (x : ByteArray) (h : xs[k]? = some x) (hx : ¬ x = s) : hasT s (xs.take (k + 1)) = hasT s (xs.take k) := by
  have hl := (List.getElem?_eq_some_iff.1 h).1
  have he : xs[k] = x := (List.getElem?_eq_some_iff.1 h).2
  rw [List.take_succ_eq_append_getElem hl]; unfold hasT; simp [List.any_append, he, hx]
theorem hasT_in {s : ByteArray} {xs : List ByteArray} (h : s ∈ xs) : hasT s xs = true := by unfold hasT; rw [List.any_eq_true]; exact ⟨s, h, by simp⟩
theorem eqT_yes (x s : ByteArray) (h : x = s) : (x.toList == s.toList) = true := by rw [h]; exact beq_self_eq_true _
theorem eqT_no (x s : ByteArray) (h : ¬ x = s) : (x.toList == s.toList) = false := by rw [toList_beq]; exact decide_eq_false h
theorem retB (a b : Bool) (h : a = b) : Ending.returned (.bool a) = .returned (.bool b) := by rw [h]
theorem cHasT (s : ByteArray) (b o c n : Nat) (xs : List ByteArray) (w : World) (hn : n = xs.length) (hbig : n ≤ 1048576)
    (hc : ∀ (j : Nat) x, xs[j]? = some x → w.cell? ⟨b, o + j, none⟩ = some (.string x)) :
    Calls Tryz.prog 33 #[.slice (some ⟨b, o, none⟩) n c, .string s] w fun e w' => e = .returned (.bool (hasT s xs)) ∧ w = w' := by
  have HN := Lib.hid hn
  have HC := Lib.hid hc
  clear hn hc
  go_enter Tryz.func33, Tryz.ntmps33
  go_wp2
  go_loop [5] (fun i => ∃ k : Nat, k ≤ n ∧ i = .int .i64 k ∧ Hid (hasT s (xs.take k) = false)) (fun i => n - (intOf i).toNat)
  case atStart => exact ⟨0, Nat.zero_le _, rfl, Lib.hid rfl⟩
  case round =>
    obtain ⟨k, hk, rfl, HA⟩ := hrel
    by_cases hlt : k < n
    · obtain ⟨x, hx⟩ : ∃ x, xs[k]? = some x := ⟨xs[k]'(by have := HN.out; omega), List.getElem?_eq_getElem _⟩
      have hcx := HC.out k x hx
      have HX := Lib.hid hx
      clear hx
      by_cases he : x = s
      · have hd := eqT_yes x s he
        have HE := Lib.hid he
        clear he
        go_wp2
        go_ret
        exact ⟨retB _ _ (by symm; exact hasT_in (by rw [← HE.out]; exact List.mem_of_getElem? HX.out)), rfl⟩
      · have hd := eqT_no x s he
        have HE := Lib.hid he
        clear he
        go_wp2
        go_round
        case rel => exact ⟨k + 1, by omega, by go_num, Lib.hid ((hasT_miss s xs k x HX.out HE.out).trans HA.out)⟩
        case measure => simp [intOf]; omega
    · go_wp2
      go_ret
      exact ⟨retB _ _ (by have := HA.out; rw [List.take_of_length_le (by have := HN.out; omega)] at this; exact this.symm), rfl⟩
theorem tHasT (s : ByteArray) (A : Option Addr) (n c B : Nat) (xs : List ByteArray) (w : World) (hbig : n ≤ 1048576) (hp : s ∈ xs) (h : TextAt w B A n xs) :
    Calls Tryz.prog 33 #[.slice A n c, .string s] w fun e w' => e = .returned (.bool true) ∧ w = w' := by
  obtain ⟨b, o, rfl, hb, hc⟩ := h.2 (by rw [h.1]; exact List.length_pos_of_mem hp)
  have k := cHasT s b o c n xs w h.1 hbig hc
  rw [hasT_in hp] at k
  exact k

theorem cHasT_none (s : ByteArray) (A : Option Addr) (c : Nat) (w : World) :
    Calls Tryz.prog 33 #[.slice A 0 c, .string s] w fun e w' => e = .returned (.bool false) ∧ w = w' := by
  go_enter Tryz.func33, Tryz.ntmps33
  go_wp2
  refine wp_loop_rounds 1 ?_
  rw [rounds_succ]
  go_wp2
  go_ret
  exact ⟨rfl, rfl⟩
theorem aHasT (s : ByteArray) (A : Option Addr) (n c B : Nat) (xs : List ByteArray) (w : World) (hbig : n ≤ 1048576) (h : TextAt w B A n xs) :
    Calls Tryz.prog 33 #[.slice A n c, .string s] w fun e w' => e = .returned (.bool (hasT s xs)) ∧ w = w' := by
  rcases Nat.eq_zero_or_pos n with rfl | hp
  · obtain rfl : xs = [] := List.eq_nil_of_length_eq_zero h.1.symm
    exact cHasT_none s A c w
  · obtain ⟨b, o, rfl, hb, hc⟩ := h.2 hp
    exact cHasT s b o c n xs w h.1 hbig hc
end
section
set_option linter.unusedVariables false
open Go.RowKit

theorem Src.own {w w' : World} {B len : Nat} {r : Option Nat} (h : Src w B len) (hg : w.grownBy w' r) (hr : ∀ k, r = some k → B < k) : Src w' B len := by
  obtain ⟨A, cap, at_, seed, hT, h1, h2, h3, h4, hC⟩ := h
  refine ⟨A, cap, at_, seed, (hg.block B hT.lt (fun e => by have := hr B e.symm; omega)).trans hT, h1, h2, h3, h4, fun hp => ?_⟩
  obtain ⟨b, o, hA, hne, hlt, hc⟩ := hC hp
  refine ⟨b, o, hA, hne, Nat.lt_of_lt_of_le hlt hg.size, fun j hj => ?_⟩
  obtain ⟨z, z0, z1, z2⟩ := hc j hj
  exact ⟨z, z0, z1, hg.cell z2 (fun e => by have := hr b e.symm; omega)⟩
theorem grown_ownB {w w1 w2 : World} {B : Nat} {r : Option Nat} (h : w.grownBy w1 (some B)) (hg : w1.grownBy w2 r) (hr : ∀ k, r = some k → w.heap.size ≤ k) : w.grownBy w2 (some B) :=
  ⟨hg.os.trans h.os, hg.tape.trans h.tape, hg.output.trans h.output, Nat.le_trans h.size hg.size, fun k hk hne =>
    (hg.block k (Nat.lt_of_lt_of_le hk h.size) (fun e => by have := hr k e.symm; omega)).trans (h.block k hk hne)⟩
theorem own_lo {w : World} {base s n : Nat} {t : TypeId} {v : Value} {xs : List Value} (h : w.ownsRow base t s v n xs) {C : Nat} (hC : C ≤ base) : ∀ k, v.ownBlock = some k → C ≤ k := fun k hk => Nat.le_trans hC (h.lt k hk).1
theorem own_gt {w : World} {base s n : Nat} {t : TypeId} {v : Value} {xs : List Value} (h : w.ownsRow base t s v n xs) {C : Nat} (hC : C < base) : ∀ k, v.ownBlock = some k → C < k := fun k hk => Nat.lt_of_lt_of_le hC (h.lt k hk).1
theorem info_str7 : (Tryz.prog.info? 9).map (fun i => (i.zero, i.size, i.bytes)) = some (some (.string ByteArray.empty), 1, 16) := by kernel_rfl
theorem info_int7 : (Tryz.prog.info? 2).map (fun i => (i.zero, i.size, i.bytes)) = some (some (.int .i64 0), 1, 8) := by kernel_rfl
/-- append(v, y) of texts. -/
theorem wpList_push_str {ops : Array Oper} {rest : List Oper} {o : Oper} {a : Act} {w : World} {Q : Exit → Act → World → Prop} (hgd : o.guard = none) (s x : Operand)
    (ho : o.op = .call { callee := .builtin .append, args := #[s, x], argTypes := #[48, 48] }) (base : Nat) (v : Value) (n : Nat) (xs : List ByteArray) (hs : a.eval s = v) (hown : w.ownsRow base 9 1 v n (strV xs))
    (g : Nat) (hx : a.eval x = .slice (some ⟨g, 0, none⟩) 1 1) (y : ByteArray) (hc : w.cell? ⟨g, 0, none⟩ = some (.string y)) (hn : n ≤ 1048576) (hbase : base ≤ w.heap.size)
    (h : ∀ (A : Option Addr) (c : Nat) (w' : World), w'.ownsRow base 9 1 (.slice A (n + 1) c) (n + 1) (strV (xs ++ [y])) → w.grownBy w' v.ownBlock → wpList Tryz.prog ops Q rest (a.put o.dst (.slice A (n + 1) c)) w') : wpList Tryz.prog ops Q (o :: rest) a w := by
  obtain ⟨i0, hi0, hz0, hz1, hz2⟩ := info_parts info_str7
  refine wpList_append_own _ hgd s x 48 ho base 9 i0 _ 1 16 Tryz.underlying48 hi0 hz0 hz1 hz2 rfl (by decide) v n (strV xs) hs hown ⟨g, 0, none⟩ 1 1 [.string y] hx rfl (one_cell' _ _ _ hc) (fun u hu => by simp at hu; subst hu; rfl) (by unfold maxLen; omega) (by omega) hbase ?_
  intro v' w' h1 h2 _
  rw [strV_snoc] at h1
  obtain ⟨g2, c2, rfl, _, _⟩ := h1.form (Nat.succ_pos _)
  exact h _ c2 w' h1 h2
theorem wpList_push_int {ops : Array Oper} {rest : List Oper} {o : Oper} {a : Act} {w : World} {Q : Exit → Act → World → Prop} (hgd : o.guard = none) (s x : Operand)
    (ho : o.op = .call { callee := .builtin .append, args := #[s, x], argTypes := #[41, 41] }) (base : Nat) (v : Value) (n : Nat) (xs : List Int) (hs : a.eval s = v) (hown : w.ownsRow base 2 1 v n (intV xs))
    (g : Nat) (hx : a.eval x = .slice (some ⟨g, 0, none⟩) 1 1) (y : Int) (hc : w.cell? ⟨g, 0, none⟩ = some (.int .i64 y)) (hn : n ≤ 1048576) (hbase : base ≤ w.heap.size)
    (h : ∀ (A : Option Addr) (c : Nat) (w' : World), w'.ownsRow base 2 1 (.slice A (n + 1) c) (n + 1) (intV (xs ++ [y])) → w.grownBy w' v.ownBlock → wpList Tryz.prog ops Q rest (a.put o.dst (.slice A (n + 1) c)) w') : wpList Tryz.prog ops Q (o :: rest) a w := by
  obtain ⟨i0, hi0, hz0, hz1, hz2⟩ := info_parts info_int7
  refine wpList_append_own _ hgd s x 41 ho base 2 i0 _ 1 8 Tryz.underlying41 hi0 hz0 hz1 hz2 rfl (by decide) v n (intV xs) hs hown ⟨g, 0, none⟩ 1 1 [.int .i64 y] hx rfl (one_cell' _ _ _ hc) (fun u hu => by simp at hu; subst hu; rfl) (by unfold maxLen; omega) (by omega) hbase ?_
  intro v' w' h1 h2 _
  rw [intV_snoc] at h1
  obtain ⟨g2, c2, rfl, _, _⟩ := h1.form (Nat.succ_pos _)
  exact h _ c2 w' h1 h2
end
end Go.Proofs.YthlilfdndpnbkaaGreatDoor
