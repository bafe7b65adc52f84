/-
  The law of texts of spans: what was drawn is a span and a text; both packages answer alike, and each answer is recovered from the other.
-/
import Derived.Test.YtlncmnheaifdmaaDoorDrawSpan
import Derived.Test.YtlncmnheaifdmaaDoorLawReadSpan
import Derived.Test.YtlncmnheaifdmaaDoorNeSp
import Derived.Test.YtlncmnheaifdmaaDoorCodeArg
namespace Go.Proofs.YtlncmnheaifdmaaDoor
set_option linter.unusedVariables false
open Go.RowKit

set_option maxHeartbeats 4000000 in
set_option maxRecDepth 100000 in
theorem wSpanTexts (A : Option Addr) (len cap : Nat) (w : World) (hl : len ≤ maxLen) (h : CodeIn w A len) (hlaid : Laid w) (hsh : w.ShapedOpen Tryd.prog) :
    Calls Tryd.prog 5 #[.slice A len cap] w fun e w' => e = .returned (.bool true) ∧ Below w.heap.size w w' := by
  have hgl : 0 < w.heap.size := World.block_lt_of_cell? w _ (hlaid.1.cell pow_named 0 (by rw [Lib.pow10Tab_length]; omega))
  have CB := Lib.hid (cBig A len cap w hl)
  by_cases h1 : 4096 < len
  · rw [decide_eq_true h1] at CB
    clear h h1 hl hlaid hsh
    go_enter Tryd.func5, Tryd.ntmps5
    go_wp2_with fail
    refine CB.out.mono ?_
    rintro e w' ⟨rfl, rfl⟩
    go_wp2_with fail
    go_ret
    exact ⟨rfl, Below.refl _ _⟩
  rw [decide_eq_false h1] at CB
  have CD := Lib.hid (cDrawSpanText A len cap w (by omega) h)
  have CR := Lib.hid (fun W (hW : Below w.heap.size w W) => cDrawReadSpan A len cap W (by omega) (h.below hW))
  have CI := Lib.hid (fun (x y : Int) W (hW : Below w.heap.size w W) => cSpanText_impl x y W (Nat.lt_of_lt_of_le hgl hW.size) (tab_below hW pow_named hgl hlaid.1))
  have CJ := Lib.hid (fun (s : ByteArray) (u v c : Int) W (hW : Below w.heap.size w W) (hs : s.size ≤ 1073741824) hcase => cRS_both s u v c W hs (hlaid.below hW) (shaped_below2 hsh hW) hcase)
  have hgd := guard_span
  clear h h1 hl hlaid hsh
  go_enter Tryd.func5, Tryd.ntmps5
  go_wp2_with fail
  refine CB.out.mono ?_
  rintro e w' ⟨rfl, rfl⟩
  go_wp2_with fail
  refine CD.out.mono ?_
  rintro e w1 ⟨x, y, hx0, hx1, hy0, hy1, rfl, b1⟩
  have X1 := BoxAt.new w1 x y 44
  have b2 := b1.alloc b1.size (.cells #[.int .i64 x, .int .i64 y] 44)
  have I1 := Lib.hid (CI.out x y _ b2)
  have S1 := Lib.hid (cSpanText_spec x y)
  have V1 := Lib.hid (cIsSpan_impl x y)
  have n1 := run_neSame x y
  have hxs : (spanB x y).size ≤ 10000 := by
    have h1 := numB_len x
    have h2 := numB_len y
    have h3 : (⟨#[46, 46]⟩ : ByteArray).size = 2 := rfl
    unfold spanB
    rw [ByteArray.size_append, ByteArray.size_append]
    omega
  cases hv0 : spB x y
  · have hV := spTV_no hv0
    rw [hV] at I1
    have S1 := Lib.hid (fun W => hV ▸ S1.out W)
    have V1 := Lib.hid (fun W => hv0 ▸ V1.out W)
    clear hV hv0 hxs
    go_wp2_with fail
    refine I1.out.mono ?_
    rintro e w3 ⟨rfl, g3⟩
    have b3 := b2.trans (g3.mono b2.size)
    have X3 := X1.below g3
    obtain ⟨_, x30, x31⟩ := id X3
    go_wp2_with fail
    refine (S1.out _).mono ?_
    rintro e w4 ⟨rfl, g4⟩
    have b4 := b3.trans (g4.mono b3.size)
    have X4 := X3.below g4
    go_wp2_with fail
    refine (CR.out _ b4).mono ?_
    rintro e w5 ⟨s, hs, rfl, g5⟩
    have b5 := b4.trans (g5.mono b4.size)
    have X5 := X4.below g5
    obtain ⟨u, v, c, hcase⟩ := rs_case s
    have J1 := Lib.hid (CJ.out s u v c w5 b5 (by omega) hcase)
    have T1 := Lib.hid (fun W => cRS_spec s u v c W (by omega) hcase)
    unfold rsV at J1 T1
    have n2 := run_neSame u v
    have hzz : (s.toList == s.toList) = true := beq_self_eq_true _
    have hcc : (c == c) = true := beq_self_eq_true _
    have hcn : (c != c) = false := by simp
    go_wp2_with fail
    refine J1.out.mono ?_
    rintro e w6 ⟨rfl, g6⟩
    have b6 := b5.trans (g6.mono b5.size)
    have X6 := (X5.below g6).below (below_alloc w6 (.cells #[.int .i64 u, .int .i64 v] 44))
    have Y6 := BoxAt.new w6 u v 44
    have b7 := b6.alloc b6.size (.cells #[.int .i64 u, .int .i64 v] 44)
    go_wp2_with fail
    refine (T1.out _).mono ?_
    rintro e w8 ⟨rfl, g8⟩
    have b8 := b7.trans (g8.mono b7.size)
    have X8 := (X6.below g8).below (below_alloc w8 (.cells #[.int .i64 u, .int .i64 v] 44))
    have Y8 := (Y6.below g8).below (below_alloc w8 (.cells #[.int .i64 u, .int .i64 v] 44))
    have Z8 := BoxAt.new w8 u v 44
    have b9 := b8.alloc b8.size (.cells #[.int .i64 u, .int .i64 v] 44)
    obtain ⟨_, x80, x81⟩ := id X8
    obtain ⟨_, y80, y81⟩ := id Y8
    obtain ⟨_, z80, z81⟩ := id Z8
    go_wp2_with fail
    refine (V1.out _).mono ?_
    rintro e w10 ⟨rfl, g10⟩
    have b10 := b9.trans (g10.mono b9.size)
    have X10 := X8.below g10
    obtain ⟨_, p0, p1⟩ := id X10
    obtain ⟨_, q0, q1⟩ := Y8.below g10
    have L1 := Lib.hid (fun hv : spB u v = true => show _ from spTV_ok hv ▸ CI.out u v w10 b10)
    rcases hcase with ⟨hse, hv, rfl⟩ | ⟨_, rfl, rfl, rfl⟩
    · have M1 := L1.out hv
      have hzs : ((spanB u v).toList == s.toList) = true := by rw [hse, beq_self_eq_true]
      have M := Lib.hid M1
      clear M1 L1 J1 T1 hse hv
      go_wp2_with fail
      refine M.out.mono ?_
      rintro e w11 ⟨rfl, g11⟩
      have b11 := b10.trans (g11.mono b10.size)
      have X11 := X10.below g11
      go_wp2_with fail
      go_ret
      exact ⟨rfl, b11⟩
    · clear L1 J1 T1
      go_wp2_with fail
      go_ret
      exact ⟨rfl, b10⟩
  · have hV := spTV_ok hv0
    rw [hV] at I1
    have S1 := Lib.hid (fun W => hV ▸ S1.out W)
    have V1 := Lib.hid (fun W => hv0 ▸ V1.out W)
    have HV := Lib.hid hv0
    have htt : ((spanB x y).toList == (spanB x y).toList) = true := beq_self_eq_true _
    clear hV hv0
    go_wp2_with fail
    refine I1.out.mono ?_
    rintro e w3 ⟨rfl, g3⟩
    have b3 := b2.trans (g3.mono b2.size)
    have X3 := X1.below g3
    obtain ⟨_, x30, x31⟩ := id X3
    go_wp2_with fail
    refine (S1.out _).mono ?_
    rintro e w4 ⟨rfl, g4⟩
    have b4 := b3.trans (g4.mono b3.size)
    have X4 := X3.below g4
    go_wp2_with fail
    refine (CR.out _ b4).mono ?_
    rintro e w5 ⟨s, hs, rfl, g5⟩
    have b5 := b4.trans (g5.mono b4.size)
    have X5 := X4.below g5
    obtain ⟨u, v, c, hcase⟩ := rs_case s
    have J1 := Lib.hid (CJ.out s u v c w5 b5 (by omega) hcase)
    have T1 := Lib.hid (fun W => cRS_spec s u v c W (by omega) hcase)
    unfold rsV at J1 T1
    have n2 := run_neSame u v
    have hzz : (s.toList == s.toList) = true := beq_self_eq_true _
    have hcc : (c == c) = true := beq_self_eq_true _
    have hcn : (c != c) = false := by simp
    go_wp2_with fail
    refine J1.out.mono ?_
    rintro e w6 ⟨rfl, g6⟩
    have b6 := b5.trans (g6.mono b5.size)
    have X6 := (X5.below g6).below (below_alloc w6 (.cells #[.int .i64 u, .int .i64 v] 44))
    have Y6 := BoxAt.new w6 u v 44
    have b7 := b6.alloc b6.size (.cells #[.int .i64 u, .int .i64 v] 44)
    go_wp2_with fail
    refine (T1.out _).mono ?_
    rintro e w8 ⟨rfl, g8⟩
    have b8 := b7.trans (g8.mono b7.size)
    have X8 := (X6.below g8).below (below_alloc w8 (.cells #[.int .i64 u, .int .i64 v] 44))
    have Y8 := (Y6.below g8).below (below_alloc w8 (.cells #[.int .i64 u, .int .i64 v] 44))
    have Z8 := BoxAt.new w8 u v 44
    have b9 := b8.alloc b8.size (.cells #[.int .i64 u, .int .i64 v] 44)
    obtain ⟨_, x80, x81⟩ := id X8
    obtain ⟨_, y80, y81⟩ := id Y8
    obtain ⟨_, z80, z81⟩ := id Z8
    go_wp2_with fail
    refine (V1.out _).mono ?_
    rintro e w10 ⟨rfl, g10⟩
    have b10 := b9.trans (g10.mono b9.size)
    have X10 := X8.below g10
    obtain ⟨_, p0, p1⟩ := id X10
    obtain ⟨_, q0, q1⟩ := Y8.below g10
    have L1 := Lib.hid (fun hv : spB u v = true => show _ from spTV_ok hv ▸ CI.out u v w10 b10)
    rcases hcase with ⟨hse, hv, rfl⟩ | ⟨_, rfl, rfl, rfl⟩
    · have M1 := L1.out hv
      have hzs : ((spanB u v).toList == s.toList) = true := by rw [hse, beq_self_eq_true]
      have M := Lib.hid M1
      clear M1 L1 J1 T1 hse hv
      go_wp2_with fail
      refine M.out.mono ?_
      rintro e w11 ⟨rfl, g11⟩
      have b11 := b10.trans (g11.mono b10.size)
      have X11 := X10.below g11
      go_wp2_with fail
      refine (CJ.out (spanB x y) x y 0 _ b11 (by omega) (.inl ⟨rfl, HV.out, rfl⟩)).mono ?_
      rintro e w20 ⟨rfl, g20⟩
      unfold rsV
      have b20 := b11.trans (g20.mono b11.size)
      obtain ⟨_, r0, r1⟩ := (X11.below g20).below (below_alloc w20 (.cells #[.int .i64 x, .int .i64 y] 44))
      obtain ⟨_, s0, s1⟩ := BoxAt.new w20 x y 44
      have b21 := b20.alloc b20.size (.cells #[.int .i64 x, .int .i64 y] 44)
      go_wp2_with fail
      go_ret
      exact ⟨rfl, b21⟩
    · clear L1 J1 T1
      go_wp2_with fail
      refine (CJ.out (spanB x y) x y 0 _ b10 (by omega) (.inl ⟨rfl, HV.out, rfl⟩)).mono ?_
      rintro e w20 ⟨rfl, g20⟩
      unfold rsV
      have b20 := b10.trans (g20.mono b10.size)
      obtain ⟨_, r0, r1⟩ := (X10.below g20).below (below_alloc w20 (.cells #[.int .i64 x, .int .i64 y] 44))
      obtain ⟨_, s0, s1⟩ := BoxAt.new w20 x y 44
      have b21 := b20.alloc b20.size (.cells #[.int .i64 x, .int .i64 y] 44)
      go_wp2_with fail
      go_ret
      exact ⟨rfl, b21⟩
end Go.Proofs.YtlncmnheaifdmaaDoor
