/-
  The contracts of spec.l01Split and spec.l01Phrase: the pieces of a text between the occurrences of one byte.
-/
import Derived.Test.YtkbkgbhnfopgnaaDoorMq2
import Derived.Test.YtkbkgbhnfopgnaaDoorSplitPlain
import Derived.OwnWalk
import Derived.Laws.OwnMore
import Derived.Deep.AppendLies
import Derived.Handy
namespace Go.Proofs.YtkbkgbhnfopgnaaDoor
set_option linter.unusedVariables false
open Go.RowKit

theorem info_str : (Tryd.prog.info? 9).map (fun i => (i.zero, i.size, i.bytes)) = some (some (.string ByteArray.empty), 1, 16) := by kernel_rfl
theorem one_cell' (w : World) (B : Nat) (u : Value) (h : w.cell? ⟨B, 0, none⟩ = some u) : ∀ (j : Nat) x, [u][j]? = some x → w.cell? ((⟨B, 0, none⟩ : Addr).add j) = some x := by
  intro j x hx
  match j, hx with
  | 0, hx => obtain rfl : u = x := by simpa using hx
             simpa [Addr.add] using h
theorem new_one (w : World) (v : Value) (t : TypeId) : (w.alloc (.cells #[v] t)).cell? ⟨w.heap.size, 0, none⟩ = some v := by
  rw [World.cell?_alloc_at _ _ _ _ rfl]; rfl
def strV (xs : List ByteArray) : List Value := xs.map Value.string
theorem strV_len (xs : List ByteArray) : (strV xs).length = xs.length := by simp [strV]
theorem strV_snoc (xs : List ByteArray) (x : ByteArray) : strV xs ++ [.string x] = strV (xs ++ [x]) := by simp [strV]
theorem strV_at (xs : List ByteArray) (j : Nat) (x : ByteArray) (h : xs[j]? = some x) : (strV xs)[j]? = some (.string x) := by simp [strV, h]

/-- No byte c of s from place a up to place i. -/
def NoSep (c : UInt8) (s : ByteArray) (a i : Nat) : Prop := ∀ j, a ≤ j → j < i → s.data.toList[j]? ≠ some c
theorem NoSep.nil (c : UInt8) (s : ByteArray) (a : Nat) : NoSep c s a a := fun j h1 h2 => by omega
theorem NoSep.step {c : UInt8} {s : ByteArray} {a i : Nat} (h : NoSep c s a i) (hi : i < s.size) (hc : s[i] ≠ c) : NoSep c s a (i + 1) := fun j h1 h2 => by
  by_cases e : j < i
  · exact h j h1 e
  · obtain rfl : j = i := by omega
    rw [List.getElem?_eq_getElem (by simpa using hi)]
    intro hh; exact hc (Option.some.inj hh)

set_option maxHeartbeats 1000000 in
set_option maxRecDepth 100000 in
theorem cSplit (c : UInt8) (n : Int) (hn : n = (c.toNat : Int)) (s : ByteArray) (w : World) (hs : s.size ≤ 1073741824) :
    Calls Tryd.prog 94 #[.string s, .int .u8 n] w fun e w' => ∃ v, e = .returned v ∧ w'.ownsRow w.heap.size 9 1 v (piecesB c s).length (strV (piecesB c s)) ∧ Below w.heap.size w w' := by
  obtain ⟨i0, hi0, hz0, hz1, hz2⟩ := info_parts info_str
  have HN := Lib.hid hn
  clear hn
  go_enter Tryd.func94, Tryd.ntmps94
  go_wp2
  go_loopw [5, 6, 7] (fun o f i wr => ∃ (k a m : Nat) (v : Value) (xs : List ByteArray), k ≤ s.size + 1 ∧ i = .int .i64 k ∧ f = .int .i64 a ∧ o = v ∧ Hid (m = xs.length) ∧ Hid ((k ≤ s.size ∧ a ≤ k ∧ m ≤ a ∧ NoSep c s a k ∧ xs ++ restB c s a = piecesB c s) ∨ (k = s.size + 1 ∧ xs = piecesB c s)) ∧
      wr.ownsRow w.heap.size 9 1 v m (strV xs) ∧ Below w.heap.size w wr) (fun _ _ i _ => s.size + 1 - (intOf i).toNat)
  case atStart =>
    exact ⟨0, 0, 0, _, [], Nat.zero_le _, rfl, rfl, rfl, Lib.hid rfl, Lib.hid (.inl ⟨Nat.zero_le _, Nat.le_refl _, Nat.le_refl _, NoSep.nil _ _ _, by rw [rest_zero]; rfl⟩), World.ownsRow_lit (e := 9) (base := w.heap.size) (size := 1) w #[] 0 (Nat.le_refl _) (by decide) rfl, (Below.refl _ _).alloc (Nat.le_refl _) _⟩
  case round =>
    obtain ⟨k, a, m, v, xs, hk, rfl, rfl, rfl, HM, HR, hown, hbw⟩ := hrel
    by_cases hlt : k ≤ s.size
    · obtain ⟨h1, h2, h3, h4, h5⟩ : k ≤ s.size ∧ a ≤ k ∧ m ≤ a ∧ NoSep c s a k ∧ xs ++ restB c s a = piecesB c s := by
        rcases HR.out with h | h
        · exact h
        · omega
      have H4 := Lib.hid h4
      have H5 := Lib.hid h5
      clear h4 h5 HR
      by_cases he : k = s.size
      · have HE := Lib.hid he
        have hd : ((k : Int) == (s.size : Int)) = true := by simp [he]
        clear he
        go_wp2_with (at_builtin; refine wpList_append_own _ rfl _ _ 46 rfl w.heap.size 9 i0 _ 1 16 Tryd.underlying46 hi0 hz0 hz1 hz2 rfl (by decide) _ _ _ rfl (hown.alloc _) ⟨wr.heap.size, 0, none⟩ 1 1 [.string (s.extract a k)] rfl rfl ?c1 ?c2 ?c3 ?c4 ?c5 ?_)
        case c1 => exact one_cell' _ _ _ (new_one _ _ _)
        case c2 => intro u hu; simp at hu; subst hu; rfl
        case c3 => unfold maxLen; omega
        case c4 => omega
        case c5 => have := hbw.size; simp; omega
        intro v' w1 hown1 hgrow1 _
        rw [strV_snoc] at hown1
        have hb1 : Below w.heap.size w w1 := (hbw.alloc hbw.size _).grown hgrow1 (by have := hbw.size; simp; omega) (fun x hx => (hown.lt x hx).1)
        go_wp2
        go_roundw
        case rel => exact ⟨k + 1, k + 1, m + 1, v', xs ++ [s.extract a k], by omega, by go_num, by go_num, rfl, Lib.hid (by rw [List.length_append, HM.out]; rfl), Lib.hid (.inr ⟨by rw [HE.out], by rw [← H5.out, rest_end c s a (by omega) (by rw [← HE.out]; exact H4.out), HE.out]⟩), hown1, hb1⟩
        case measure => simp [intOf]; omega
      · have hkl : k < s.size := by omega
        have hd : ((k : Int) == (s.size : Int)) = false := by rw [beq_eq_false_iff_ne]; omega
        clear he
        by_cases hc : s[k] = c
        · have HC := Lib.hid hc
          have hd2 : ((s[k].toNat : Int) == n) = true := by rw [HN.out, hc]; simp
          clear hc
          go_wp2_with (at_builtin; refine wpList_append_own _ rfl _ _ 46 rfl w.heap.size 9 i0 _ 1 16 Tryd.underlying46 hi0 hz0 hz1 hz2 rfl (by decide) _ _ _ rfl (hown.alloc _) ⟨wr.heap.size, 0, none⟩ 1 1 [.string (s.extract a k)] rfl rfl ?d1 ?d2 ?d3 ?d4 ?d5 ?_)
          case d1 => exact one_cell' _ _ _ (new_one _ _ _)
          case d2 => intro u hu; simp at hu; subst hu; rfl
          case d3 => unfold maxLen; omega
          case d4 => omega
          case d5 => have := hbw.size; simp; omega
          intro v' w1 hown1 hgrow1 _
          rw [strV_snoc] at hown1
          have hb1 : Below w.heap.size w w1 := (hbw.alloc hbw.size _).grown hgrow1 (by have := hbw.size; simp; omega) (fun x hx => (hown.lt x hx).1)
          go_wp2
          go_roundw
          case rel => exact ⟨k + 1, k + 1, m + 1, v', xs ++ [s.extract a k], by omega, by go_num, by go_num, rfl, Lib.hid (by rw [List.length_append, HM.out]; rfl), Lib.hid (.inl ⟨by omega, Nat.le_refl _, by omega, NoSep.nil _ _ _, by rw [← H5.out, rest_hit c s a k h2 hkl HC.out H4.out, List.append_assoc]; rfl⟩), hown1, hb1⟩
          case measure => simp [intOf]; omega
        · have HC := Lib.hid hc
          have hd2 : ((s[k].toNat : Int) == n) = false := by
            rw [HN.out, beq_eq_false_iff_ne]; intro hh; exact hc (UInt8.toNat_inj.1 (by omega))
          clear hc
          go_wp2
          go_roundw
          case rel => exact ⟨k + 1, a, m, _, xs, by omega, by go_num, rfl, rfl, HM, Lib.hid (.inl ⟨by omega, by omega, by omega, H4.out.step hkl HC.out, H5.out⟩), hown, hbw⟩
          case measure => simp [intOf]; omega
    · have hx : xs = piecesB c s := by
        rcases HR.out with h | h
        · omega
        · exact h.2
      go_wp2
      go_ret
      refine ⟨_, rfl, ?_, hbw⟩
      rw [← hx, ← HM.out]; exact hown
end Go.Proofs.YtkbkgbhnfopgnaaDoor
