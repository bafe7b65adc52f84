/-
  The law of lists: both packages answer alike, and each answer is recovered from the other.
-/
import Derived.Test.YtdbbolnmcbhflaaDoorListLaw
import Derived.Test.YtdbbolnmcbhflaaDoorNeSp
import Derived.Test.YtdbbolnmcbhflaaDoorCodeArg
namespace Go.Proofs.YtdbbolnmcbhflaaDoor
set_option linter.unusedVariables false
open Go.RowKit

set_option maxHeartbeats 4000000 in
set_option maxRecDepth 100000 in
theorem wLists (A : Option Addr) (len cap : Nat) (w : World) (hl : len ≤ maxLen) (h : CodeIn w A len) (hlaid : Laid w) (hsh : w.ShapedOpen Tryd.prog) :
    Calls Tryd.prog 4 #[.slice A len cap] w fun e w' => e = .returned (.bool true) ∧ Below w.heap.size w w' := by
  have CB := Lib.hid (cBig A len cap w hl)
  by_cases h1 : 4096 < len
  · rw [decide_eq_true h1] at CB
    clear h h1 hl hlaid hsh
    go_enter Tryd.func4, Tryd.ntmps4
    go_wp2_with fail
    refine CB.out.mono ?_
    rintro e w' ⟨rfl, rfl⟩
    go_wp2_with fail
    go_ret
    exact ⟨rfl, Below.refl _ _⟩
  rw [decide_eq_false h1] at CB
  have CD := Lib.hid (cDrawListText A len cap w (by omega) h)
  have CR := Lib.hid (fun W (hW : Below w.heap.size w W) => cDrawReadList A len cap W (by omega) (h.below hW))
  have CI := Lib.hid (fun (A : Option Addr) (n cap : Nat) (xs : List Int) W (hW : Below w.heap.size w W) (hn : n ≤ 61) (hr : RowI W A n cap xs) => cLTr_impl A n cap xs W hn hr (hlaid.below hW))
  have CJ := Lib.hid (fun (s : ByteArray) (ys : List Int) (d : Int) W (hW : Below w.heap.size w W) (hs : s.size ≤ 1073741824) hcase => cRL_impl s ys d W hs (hlaid.below hW) (shaped_below2 hsh hW) hcase)
  clear h h1 hl hlaid hsh
  go_enter Tryd.func4, Tryd.ntmps4
  go_wp2_with fail
  refine CB.out.mono ?_
  rintro e w' ⟨rfl, rfl⟩
  go_wp2_with fail
  refine CD.out.mono ?_
  rintro e w1 ⟨A0, n, c0, xs, hn, rfl, r1, b1⟩
  have hxl := r1.len
  obtain ⟨t, c, hV, ht, hRL, hc60⟩ := lt_form xs (by omega)
  have I1 := Lib.hid (CI.out A0 n c0 xs w1 b1 hn r1)
  have S1 := Lib.hid (fun W hr => cLTr_spec A0 n c0 xs W hn hr)
  rw [hV] at I1 S1
  have R1 := Lib.hid r1
  have HRL := Lib.hid hRL
  have HXL := Lib.hid hxl
  clear hV r1 hRL hxl hc60
  have htt : (t.toList == t.toList) = true := beq_self_eq_true _
  have hcn : (c != c) = false := by simp
  go_wp2_with fail
  refine I1.out.mono ?_
  rintro e w2 ⟨rfl, g2⟩
  have b2 := b1.trans (g2.mono b1.size)
  have R2 := Lib.hid (R1.out.below g2)
  go_wp2_with fail
  refine (S1.out w2 R2.out).mono ?_
  rintro e w3 ⟨rfl, g3⟩
  have b3 := b2.trans (g3.mono b2.size)
  have R3 := Lib.hid (R2.out.below g3)
  go_wp2_with fail
  refine (CR.out _ b3).mono ?_
  rintro e w4 ⟨s, hs, rfl, g4⟩
  have b4 := b3.trans (g4.mono b3.size)
  have R4 := Lib.hid (R3.out.below g4)
  obtain ⟨ys, d, hcase⟩ := RL.have_ s
  have hyl := hcase.len
  have J1 := Lib.hid (CJ.out s ys d w4 b4 (by omega) hcase)
  have T1 := Lib.hid (fun W => cRL_spec s ys d W (by omega) hcase)
  obtain ⟨m, hm⟩ : ∃ m, m = ys.length := ⟨_, rfl⟩
  unfold RLPost at J1 T1
  rw [← hm] at J1 T1 hyl
  have HC := Lib.hid hcase
  have hss : (s.toList == s.toList) = true := beq_self_eq_true _
  have hdn : (d != d) = false := by simp
  clear hcase hm
  go_wp2_with fail
  refine J1.out.mono ?_
  rintro e w5 ⟨A1, c1, rfl, own1, g5⟩
  have b5 := b4.trans (g5.mono b4.size)
  have R5 := Lib.hid (R4.out.below g5)
  have Q5 := Lib.hid (RowI.of own1)
  clear own1
  go_wp2_with fail
  refine (T1.out _).mono ?_
  rintro e w6 ⟨A2, c2, rfl, own2, g6⟩
  have b6 := b5.trans (g6.mono b5.size)
  have R6 := Lib.hid (R5.out.below g6)
  have Q6 := Lib.hid (Q5.out.below g6)
  have P6 := Lib.hid (RowI.of own2)
  clear own2
  go_wp2_with fail
  refine (cLikeI A1 A2 c1 c2 m ys w6 (by omega) Q6.out P6.out).mono ?_
  rintro e w7 ⟨rfl, g7⟩
  have b7 := b6.trans (g7.mono b6.size)
  have R7 := Lib.hid (R6.out.below g7)
  have Q7 := Lib.hid (Q6.out.below g7)
  have L2 : ∀ W (b : Below w.heap.size w W), c = 0 → Calls Tryd.prog 26 #[.string t] W (RLPost xs 0 W) := fun W b hc => CJ.out t xs 0 W b (by omega) (HRL.out hc)
  have HL2 := Lib.hid L2
  clear L2 J1 T1
  by_cases hd0 : d = 0
  · subst hd0
    have L1 := Lib.hid (CI.out A1 m c1 ys w7 b7 (by omega) Q7.out)
    rw [lt_of HC.out] at L1
    go_wp2_with fail
    refine L1.out.mono ?_
    rintro e w8 ⟨rfl, g8⟩
    have b8 := b7.trans (g8.mono b7.size)
    have R8 := Lib.hid (R7.out.below g8)
    by_cases hc0 : c = 0
    · have M := Lib.hid (HL2.out w8 b8 hc0)
      subst hc0
      unfold RLPost at M
      rw [HXL.out] at M
      go_wp2_with fail
      refine M.out.mono ?_
      rintro e w9 ⟨A3, c3, rfl, own3, g9⟩
      have b9 := b8.trans (g9.mono b8.size)
      have R9 := Lib.hid (R8.out.below g9)
      have P9 := Lib.hid (RowI.of own3)
      clear own3
      go_wp2_with fail
      refine (cLikeI A3 A0 c3 c0 n xs w9 (by omega) P9.out R9.out).mono ?_
      rintro e w10 ⟨rfl, g10⟩
      have b10 := b9.trans (g10.mono b9.size)
      go_wp2_with fail
      go_ret
      exact ⟨rfl, b10⟩
    · have z1 : (c != 0) = true := by simpa using hc0
      clear hc0
      go_wp2_with fail
      go_ret
      exact ⟨rfl, b8⟩
  · have z0 : (d == 0) = false := by rw [beq_eq_false_iff_ne]; exact hd0
    clear hd0
    by_cases hc0 : c = 0
    · have M := Lib.hid (HL2.out w7 b7 hc0)
      subst hc0
      unfold RLPost at M
      rw [HXL.out] at M
      go_wp2_with fail
      refine M.out.mono ?_
      rintro e w9 ⟨A3, c3, rfl, own3, g9⟩
      have b9 := b7.trans (g9.mono b7.size)
      have R9 := Lib.hid (R7.out.below g9)
      have P9 := Lib.hid (RowI.of own3)
      clear own3
      go_wp2_with fail
      refine (cLikeI A3 A0 c3 c0 n xs w9 (by omega) P9.out R9.out).mono ?_
      rintro e w10 ⟨rfl, g10⟩
      have b10 := b9.trans (g10.mono b9.size)
      go_wp2_with fail
      go_ret
      exact ⟨rfl, b10⟩
    · have z1 : (c != 0) = true := by simpa using hc0
      clear hc0
      go_wp2_with fail
      go_ret
      exact ⟨rfl, b7⟩
end Go.Proofs.YtdbbolnmcbhflaaDoor
