/-
  The law of romanising.
-/
import Derived.Test.YtnfdbpfegmodcaaRomMath
import Derived.Test.YtnfdbpfegmodcaaLikes
import Derived.Test.YtnfdbpfegmodcaaUseless
import Derived.Test.YtnfdbpfegmodcaaCodeArg
import Derived.Test.YtnfdbpfegmodcaaBig
import Derived.Test.YtnfdbpfegmodcaaDrawThree
import Derived.Test.YtnfdbpfegmodcaaCovered
import Derived.Test.YtnfdbpfegmodcaaAddI
import Derived.Test.YtnfdbpfegmodcaaAddS
import Derived.Test.YtnfdbpfegmodcaaAddOut
namespace Go.Proofs.Ytnfdbpfegmodcaa
set_option linter.unusedVariables false
open Go.RowKit

theorem TabD.ex {w : World} {R g c k : Nat} {es : List El} (h : TabD w R g c k es) : ∃ (b o n cc : Nat) (rs : List Ru), tabV g c k es = .slice (some ⟨b, o, none⟩) n cc ∧ TabF w (some ⟨b, o, none⟩) n cc rs := ⟨g, k * 2, _, _, _, rfl, h.toF⟩
theorem rowNum {w : World} {B n c : Nat} {A : Option Addr} {xs : List Int} (h : w.ownsRow B 2 1 (.slice A n c) n (intV xs)) : NumAt w w.heap.size A n xs := RowI.num (RowI.of h)
theorem dRom (A : Option Addr) (len cap : Nat) (w : World) (hlen : len ≤ 1048576) (h : CodeIn w A len) :
    Calls Try.prog 14 #[.slice A len cap] w fun e w' => ∃ (b o n c : Nat) (rs : List Ru) (A' : Option Addr) (n' c' : Nat) (xs : List Int), e = .returned (.tuple #[.slice (some ⟨b, o, none⟩) n c, .slice A' n' c']) ∧ TabF w' (some ⟨b, o, none⟩) n c rs ∧ n' ≤ 13 ∧ n' ≤ c' ∧ c' ≤ maxLen ∧ NumAt w' w'.heap.size A' n' xs ∧ Below w.heap.size w w' :=
  (cDrawRom A len cap w hlen h).mono (by
    rintro e w' ⟨g, c, k, es, A', n', c', xs, rfl, hT, h1, h2, h3, hO, hb⟩
    obtain ⟨b, o, n, cc, rs, hv, hF⟩ := hT.ex
    rw [hv]
    exact ⟨b, o, n, cc, rs, A', n', c', xs, rfl, hF, h1, h2, h3, rowNum hO, hb⟩)
theorem dCov (A : Option Addr) (len cap : Nat) (w : World) (hlen : len ≤ 1048576) (h : CodeIn w A len) :
    Calls Try.prog 19 #[.slice A len cap] w fun e w' => ∃ (b o n c : Nat) (rs : List Ru), e = .returned (.slice (some ⟨b, o, none⟩) n c) ∧ TabF w' (some ⟨b, o, none⟩) n c rs ∧ Below w.heap.size w w' :=
  (cDrawCovered A len cap w hlen h).mono (by
    rintro e w' ⟨g, c, k, es, rfl, hT, hb⟩
    obtain ⟨b, o, n, cc, rs, hv, hF⟩ := hT.ex
    rw [hv]
    exact ⟨b, o, n, cc, rs, rfl, hF, hb⟩)
theorem dAdd (A : Option Addr) (len cap : Nat) (w : World) (hlen : len ≤ 1048576) (h : CodeIn w A len) :
    Calls Try.prog 24 #[.slice A len cap] w fun e w' => ∃ (b o n c : Nat) (rs : List Ru) (g m d : Nat) (ys : List Int) (t : ByteArray), e = .returned (.tuple #[.slice (some ⟨b, o, none⟩) n c, .agg #[.slice (some ⟨g, 0, none⟩) m d, .string t]]) ∧ TabF w' (some ⟨b, o, none⟩) n c rs ∧ m ≤ 4 ∧ m ≤ d ∧ d ≤ maxLen ∧ t.size ≤ 5 ∧ NumAt w' w'.heap.size (some ⟨g, 0, none⟩) m ys ∧ Below w.heap.size w w' :=
  (cDrawAdd A len cap w hlen h).mono (by
    rintro e w' ⟨g, c, k, es, g1, n1, c1, xs, t, rfl, hT, h1, h2, hO, hb⟩
    obtain ⟨b, o, n, cc, rs, hv, hF⟩ := hT.ex
    obtain ⟨A2, c2, hv2, h3, h4⟩ := int_formS hO
    cases hv2
    rw [hv]
    exact ⟨b, o, n, cc, rs, g1, n1, _, xs, t, rfl, hF, h1, h3, h4, h2, rowNum hO, hb⟩)
/-- What a call leaves of numbers. -/
def NOut (zs : List Int) (code : Int) (w : World) (e : Ending) (w' : World) : Prop := ∃ (A : Option Addr) (n c : Nat), e = .returned (.tuple #[.slice A n c, .int .i64 code]) ∧ NumAt w' w'.heap.size A n zs ∧ Below w.heap.size w w'
theorem UOut.n {zs : List Int} {code : Int} {w w' : World} {e : Ending} (h : UOut zs code w e w') : NOut zs code w e w' := by
  obtain ⟨A, n, c, rfl, hO, hb⟩ := h
  exact ⟨A, n, c, rfl, rowNum hO, hb⟩
def QOut (zs : List Ru) (code : Int) (w : World) (e : Ending) (w' : World) : Prop := ∃ (A : Option Addr) (n c : Nat), e = .returned (.tuple #[.slice A n c, .int .i64 code]) ∧ RulesAt w' w'.heap.size A n zs ∧ Below w.heap.size w w'
theorem AOut.q {rs : List Ru} {r : Ru} {w w' : World} {e : Ending} (h : AOut (addZ rs r) (addC rs r) w e w') : QOut (addZ rs r) (addC rs r) w e w' := by
  obtain ⟨v, rfl, hR, hb⟩ := h.out
  obtain ⟨A, c, rfl, hR2⟩ := hR.rules (addZ_small rs r).2.1
  exact ⟨A, _, c, rfl, hR2, hb⟩
theorem likeN (A A' : Option Addr) (n n' c c' : Nat) (xs : List Int) (w : World) (hn : n ≤ 1048576) (h : NumAt w w.heap.size A n xs) (h' : NumAt w w.heap.size A' n' xs) :
    Calls Try.prog 27 #[.slice A n c, .slice A' n' c'] w fun e w' => e = .returned (.bool true) ∧ Below w.heap.size w w' := by
  have e : n' = n := h'.1.trans h.1.symm
  rw [e] at h' ⊢
  exact cLikeN A A' c c' n _ _ xs w (by omega) h h'
theorem likeQ (A A' : Option Addr) (n n' c c' : Nat) (rs : List Ru) (w : World) (hn : n ≤ 1048576) (hr : ∀ r ∈ rs, r.1.length ≤ 3 ∧ r.2.size ≤ 4) (h : RulesAt w w.heap.size A n rs) (h' : RulesAt w w.heap.size A' n' rs) :
    Calls Try.prog 28 #[.slice A n c, .slice A' n' c'] w fun e w' => e = .returned (.bool true) ∧ Below w.heap.size w w' := by
  have e : n' = n := h'.1.trans h.1.symm
  rw [e] at h' ⊢
  exact cLikeRs A A' n c c' rs w hn (fun r hx => by have := hr r hx; omega) h h'
/-- What holds from w on. -/
def KP (P : World → Prop) (w : World) : Prop := ∀ W, Below w.heap.size w W → P W
theorem KP.next {P : World → Prop} {w w' : World} (h : KP P w) (hb : Below w.heap.size w w') : KP P w' := fun W hW => h W (hb.trans (hW.mono hb.size))
theorem KP.here {P : World → Prop} {w : World} (h : KP P w) : P w := h w (Below.refl _ _)
theorem KP.num {w : World} {A : Option Addr} {n : Nat} {xs : List Int} (h : NumAt w w.heap.size A n xs) : KP (fun W => NumAt W W.heap.size A n xs) w := fun W hW => (h.below hW (Nat.le_refl _)).more hW.size
theorem KP.rules {w : World} {A : Option Addr} {n : Nat} {rs : List Ru} (h : RulesAt w w.heap.size A n rs) : KP (fun W => RulesAt W W.heap.size A n rs) w := fun W hW => (h.below hW (Nat.le_refl _)).more hW.size
theorem KP.tab {w : World} {A : Option Addr} {n c : Nat} {rs : List Ru} (h : TabF w A n c rs) : KP (fun W => TabF W A n c rs) w := fun W hW => h.below hW
theorem KP.code {w : World} {A : Option Addr} {len : Nat} (h : CodeIn w A len) : KP (fun W => CodeIn W A len) w := fun W hW => h.belowG hW
theorem KP.pair {w : World} {B : Nat} {u v : Value} (h : PairAt w B u v) : KP (fun W => PairAt W B u v) w := fun W hW => h.below hW
theorem KP.from_ (w : World) : KP (fun W => Below w.heap.size w W) w := fun W hW => hW
theorem code_table {rs : List Ru} {xs : List Int} (h : codeU rs xs = 0) : tableB rs = true := by
  unfold codeU at h
  cases hok : okU rs xs
  · rw [hok] at h; simp at h
  · unfold okU at hok; rw [Bool.and_eq_true] at hok; exact hok.1
theorem covC_eq (rs : List Ru) : (covC rs == 0) = tableB rs := by
  unfold covC
  cases tableB rs <;> rfl
theorem intV_appL (xs ys : List Int) : intV xs ++ intV ys = intV (xs ++ ys) := by simp [intV]

set_option maxHeartbeats 8000000 in
set_option maxRecDepth 100000 in
theorem wRomanised (A : Option Addr) (len cap : Nat) (w : World) (hl : len ≤ maxLen) (h : CodeIn w A len) :
    Calls Try.prog 3 #[.slice A len cap] w fun e w' => e = .returned (.bool true) ∧ Below w.heap.size w w' := by
  have CB := Lib.hid (cBig A len cap w hl)
  by_cases h1 : 4096 < len
  · rw [decide_eq_true h1] at CB
    clear h h1 hl
    go_enter Try.func3, Try.ntmps3
    go_wp2_with fail
    refine CB.out.mono ?_
    rintro e w' ⟨rfl, rfl⟩
    go_wp2_with fail
    go_ret
    exact ⟨rfl, Below.refl _ _⟩
  rw [decide_eq_false h1] at CB
  have hlen : len ≤ 4096 := by omega
  have C_0 := Lib.hid (KP.code h)
  have B_0 := Lib.hid (KP.from_ w)
  obtain ⟨i0, hi0, hz0, hz1, hz2⟩ := info_parts info_num
  clear h h1 hl
  go_enter Try.func3, Try.ntmps3
  go_wp2_with fail
  refine CB.out.mono ?_
  rintro e w0 ⟨rfl, rfl⟩
  clear CB
  have CX1 := Lib.hid (dRom A len cap w (by omega) C_0.out.here)
  go_wp2_with fail
  refine CX1.out.mono ?_
  rintro e w1 ⟨b1, o1, n1, c1, rs, A1, m1, d1, xs, rfl, hT, hm1, hmd1, hdm1, hS, g1⟩
  clear CX1
  have C_1 := Lib.hid (C_0.out.next g1)
  have B_1 := Lib.hid (B_0.out.next g1)
  clear g1 C_0 B_0
  have T_1 := Lib.hid (KP.tab hT)
  have S_1 := Lib.hid (KP.num hS)
  clear hT hS
  obtain ⟨t, bad, hV, hcode, hgood⟩ := rom_forms rs xs
  obtain ⟨zu, hzu⟩ : ∃ zu, zu = zsU rs xs := ⟨_, rfl⟩
  have hzl : zu.length ≤ 13 := by have h1 := zsU_len rs xs; have h2 := S_1.out.here.1; rw [← hzu] at h1; omega
  have HRI : Hid (∀ W, TabF W (some ⟨b1, o1, none⟩) n1 c1 rs → NumAt W W.heap.size A1 m1 xs → Calls Try.prog 15 #[.slice (some ⟨b1, o1, none⟩) n1 c1, .slice A1 m1 d1] W fun e w' => e = .returned (.tuple #[.string t, .int .i64 bad]) ∧ Below W.heap.size W w') := Lib.hid (fun W hT hS => by
    have h9 := cRoman_impl (some ⟨b1, o1, none⟩) A1 n1 m1 c1 d1 rs xs W (by have := hT.n31; omega) (by omega) hmd1 hdm1 hT.rules hS
    rw [hV] at h9; exact h9)
  have HRS : Hid (∀ W, TabF W (some ⟨b1, o1, none⟩) n1 c1 rs → NumAt W W.heap.size A1 m1 xs → Calls Try.prog 16 #[.slice (some ⟨b1, o1, none⟩) n1 c1, .slice A1 m1 d1] W fun e w' => e = .returned (.tuple #[.string t, .int .i64 bad]) ∧ Below W.heap.size W w') := Lib.hid (fun W hT hS => by
    have h9 := cRoman_spec (some ⟨b1, o1, none⟩) A1 n1 m1 c1 d1 rs xs W (by have := hT.n31; omega) (by omega) hmd1 hdm1 hT.rules hS
    rw [hV] at h9; exact h9)
  have HUI : Hid (∀ W, TabF W (some ⟨b1, o1, none⟩) n1 c1 rs → NumAt W W.heap.size A1 m1 xs → Calls Try.prog 17 #[.slice (some ⟨b1, o1, none⟩) n1 c1, .slice A1 m1 d1] W (NOut zu bad W)) := Lib.hid (fun W hT hS => by
    have h9 := cUsed_impl (some ⟨b1, o1, none⟩) A1 n1 m1 c1 d1 rs xs W (by have := hT.n31; unfold maxLen; omega) (by omega) hmd1 hdm1 hT.rules hS
    rw [hcode, ← hzu] at h9; exact h9.mono (fun e w' h => h.n))
  have HUS : Hid (∀ W, TabF W (some ⟨b1, o1, none⟩) n1 c1 rs → NumAt W W.heap.size A1 m1 xs → Calls Try.prog 18 #[.slice (some ⟨b1, o1, none⟩) n1 c1, .slice A1 m1 d1] W (NOut zu bad W)) := Lib.hid (fun W hT hS => by
    have h9 := cUsed_spec (some ⟨b1, o1, none⟩) A1 n1 m1 c1 d1 rs xs W (by have := hT.n31; omega) (by omega) hmd1 hdm1 hT.rules hS
    rw [hcode, ← hzu] at h9; exact h9.mono (fun e w' h => h.n))
  have HGOOD := Lib.hid hgood
  have HCODE := Lib.hid hcode
  have HZU := Lib.hid hzu
  clear hV hcode hgood hzu
  have CX2 := Lib.hid (HRI.out w1 T_1.out.here S_1.out.here)
  go_wp2_with fail
  refine CX2.out.mono ?_
  rintro e w2 ⟨rfl, g2⟩
  clear CX2
  have C_2 := Lib.hid (C_1.out.next g2)
  have B_2 := Lib.hid (B_1.out.next g2)
  have T_2 := Lib.hid (T_1.out.next g2)
  have S_2 := Lib.hid (S_1.out.next g2)
  clear g2 C_1 B_1 T_1 S_1
  have CX3 := Lib.hid (HRS.out w2 T_2.out.here S_2.out.here)
  go_wp2_with fail
  refine CX3.out.mono ?_
  rintro e w3 ⟨rfl, g3⟩
  clear CX3
  have C_3 := Lib.hid (C_2.out.next g3)
  have B_3 := Lib.hid (B_2.out.next g3)
  have T_3 := Lib.hid (T_2.out.next g3)
  have S_3 := Lib.hid (S_2.out.next g3)
  clear g3 C_2 B_2 T_2 S_2
  have CX4 := Lib.hid (HUI.out w3 T_3.out.here S_3.out.here)
  go_wp2_with fail
  refine CX4.out.mono ?_
  rintro e w4 ⟨A4, n4, c4, rfl, hN, g4⟩
  clear CX4
  have C_4 := Lib.hid (C_3.out.next g4)
  have B_4 := Lib.hid (B_3.out.next g4)
  have T_4 := Lib.hid (T_3.out.next g4)
  have S_4 := Lib.hid (S_3.out.next g4)
  clear g4 C_3 B_3 T_3 S_3
  have U_4 := Lib.hid (KP.num hN)
  clear hN
  have CX5 := Lib.hid (HUS.out w4 T_4.out.here S_4.out.here)
  go_wp2_with fail
  refine CX5.out.mono ?_
  rintro e w5 ⟨A5, n5, c5, rfl, hN, g5⟩
  clear CX5
  have C_5 := Lib.hid (C_4.out.next g5)
  have B_5 := Lib.hid (B_4.out.next g5)
  have T_5 := Lib.hid (T_4.out.next g5)
  have S_5 := Lib.hid (S_4.out.next g5)
  have U_5 := Lib.hid (U_4.out.next g5)
  clear g5 C_4 B_4 T_4 S_4 U_4
  have V_5 := Lib.hid (KP.num hN)
  clear hN
  clear HRI HRS HUI HUS
  have CX6 := Lib.hid (dCov A len cap w5 (by omega) C_5.out.here)
  go_wp2_with fail
  refine CX6.out.mono ?_
  rintro e w6 ⟨b6, o6, n6, c6, rs2, rfl, hT, g6⟩
  clear CX6
  have C_6 := Lib.hid (C_5.out.next g6)
  have B_6 := Lib.hid (B_5.out.next g6)
  have T_6 := Lib.hid (T_5.out.next g6)
  have S_6 := Lib.hid (S_5.out.next g6)
  have U_6 := Lib.hid (U_5.out.next g6)
  have V_6 := Lib.hid (V_5.out.next g6)
  clear g6 C_5 B_5 T_5 S_5 U_5 V_5
  have X_6 := Lib.hid (KP.tab hT)
  clear hT
  have CX7 := Lib.hid ((cCov_impl (some ⟨b6, o6, none⟩) n6 c6 rs2 w6 (by have := X_6.out.here.n31; omega) X_6.out.here.rules).mono (fun e w' h => h.n))
  go_wp2_with fail
  refine CX7.out.mono ?_
  rintro e w7 ⟨A7, n7, c7, rfl, hN, g7⟩
  clear CX7
  have C_7 := Lib.hid (C_6.out.next g7)
  have B_7 := Lib.hid (B_6.out.next g7)
  have T_7 := Lib.hid (T_6.out.next g7)
  have S_7 := Lib.hid (S_6.out.next g7)
  have U_7 := Lib.hid (U_6.out.next g7)
  have V_7 := Lib.hid (V_6.out.next g7)
  have X_7 := Lib.hid (X_6.out.next g7)
  clear g7 C_6 B_6 T_6 S_6 U_6 V_6 X_6
  have Y_7 := Lib.hid (KP.num hN)
  clear hN
  have CX8 := Lib.hid ((cCov_spec (some ⟨b6, o6, none⟩) n6 c6 rs2 w7 (by have := X_7.out.here.n31; omega) X_7.out.here.rules).mono (fun e w' h => h.n))
  go_wp2_with fail
  refine CX8.out.mono ?_
  rintro e w8 ⟨A8, n8, c8, rfl, hN, g8⟩
  clear CX8
  have C_8 := Lib.hid (C_7.out.next g8)
  have B_8 := Lib.hid (B_7.out.next g8)
  have T_8 := Lib.hid (T_7.out.next g8)
  have S_8 := Lib.hid (S_7.out.next g8)
  have U_8 := Lib.hid (U_7.out.next g8)
  have V_8 := Lib.hid (V_7.out.next g8)
  have X_8 := Lib.hid (X_7.out.next g8)
  have Y_8 := Lib.hid (Y_7.out.next g8)
  clear g8 C_7 B_7 T_7 S_7 U_7 V_7 X_7 Y_7
  have Z_8 := Lib.hid (KP.num hN)
  clear hN
  have CX9 := Lib.hid ((cUseI (some ⟨b6, o6, none⟩) n6 c6 rs2 w8 (by have := X_8.out.here.n31; omega) X_8.out.here.rules X_8.out.here.caps).mono (fun e w' h => h.n))
  go_wp2_with fail
  refine CX9.out.mono ?_
  rintro e w9 ⟨A9, n9, c9, rfl, hN, g9⟩
  clear CX9
  have C_9 := Lib.hid (C_8.out.next g9)
  have B_9 := Lib.hid (B_8.out.next g9)
  have T_9 := Lib.hid (T_8.out.next g9)
  have S_9 := Lib.hid (S_8.out.next g9)
  have U_9 := Lib.hid (U_8.out.next g9)
  have V_9 := Lib.hid (V_8.out.next g9)
  have X_9 := Lib.hid (X_8.out.next g9)
  have Y_9 := Lib.hid (Y_8.out.next g9)
  have Z_9 := Lib.hid (Z_8.out.next g9)
  clear g9 C_8 B_8 T_8 S_8 U_8 V_8 X_8 Y_8 Z_8
  have D_9 := Lib.hid (KP.num hN)
  clear hN
  have CX10 := Lib.hid ((cUseS (some ⟨b6, o6, none⟩) n6 c6 rs2 w9 (by have := X_9.out.here.n31; omega) X_9.out.here.nc X_9.out.here.cm X_9.out.here.rules X_9.out.here.caps).mono (fun e w' h => h.n))
  go_wp2_with fail
  refine CX10.out.mono ?_
  rintro e w10 ⟨A10, n10, c10, rfl, hN, g10⟩
  clear CX10
  have C_10 := Lib.hid (C_9.out.next g10)
  have B_10 := Lib.hid (B_9.out.next g10)
  have T_10 := Lib.hid (T_9.out.next g10)
  have S_10 := Lib.hid (S_9.out.next g10)
  have U_10 := Lib.hid (U_9.out.next g10)
  have V_10 := Lib.hid (V_9.out.next g10)
  have X_10 := Lib.hid (X_9.out.next g10)
  have Y_10 := Lib.hid (Y_9.out.next g10)
  have Z_10 := Lib.hid (Z_9.out.next g10)
  have D_10 := Lib.hid (D_9.out.next g10)
  clear g10 C_9 B_9 T_9 S_9 U_9 V_9 X_9 Y_9 Z_9 D_9
  have E_10 := Lib.hid (KP.num hN)
  clear hN
  have CX11 := Lib.hid (dAdd A len cap w10 (by omega) C_10.out.here)
  go_wp2_with fail
  refine CX11.out.mono ?_
  rintro e w11 ⟨b11, o11, n11, c11, rs3, q11, m11, d11, ys, t11, rfl, hT, hm11, hmd11, hdm11, ht11, hN, g11⟩
  clear CX11
  clear C_10
  have B_11 := Lib.hid (B_10.out.next g11)
  have T_11 := Lib.hid (T_10.out.next g11)
  have S_11 := Lib.hid (S_10.out.next g11)
  have U_11 := Lib.hid (U_10.out.next g11)
  have V_11 := Lib.hid (V_10.out.next g11)
  have X_11 := Lib.hid (X_10.out.next g11)
  have Y_11 := Lib.hid (Y_10.out.next g11)
  have Z_11 := Lib.hid (Z_10.out.next g11)
  have D_11 := Lib.hid (D_10.out.next g11)
  have E_11 := Lib.hid (E_10.out.next g11)
  clear g11 B_10 T_10 S_10 U_10 V_10 X_10 Y_10 Z_10 D_10 E_10
  have F_11 := Lib.hid (KP.tab hT)
  have G_11 := Lib.hid (KP.num hN)
  clear hT hN
  obtain ⟨w12, hw12⟩ : ∃ W, W = w11.alloc (.cells #[.slice (some ⟨q11, 0, none⟩) m11 d11, .string t11] 35) := ⟨_, rfl⟩
  have g12 : Below w11.heap.size w11 w12 := by rw [hw12]; exact alloc_below _ _
  have hP : PairAt w12 w11.heap.size (.slice (some ⟨q11, 0, none⟩) m11 d11) (.string t11) := by rw [hw12]; exact PairAt.new _ _ _ _
  have B_12 := Lib.hid (B_11.out.next g12)
  have T_12 := Lib.hid (T_11.out.next g12)
  have S_12 := Lib.hid (S_11.out.next g12)
  have U_12 := Lib.hid (U_11.out.next g12)
  have V_12 := Lib.hid (V_11.out.next g12)
  have X_12 := Lib.hid (X_11.out.next g12)
  have Y_12 := Lib.hid (Y_11.out.next g12)
  have Z_12 := Lib.hid (Z_11.out.next g12)
  have D_12 := Lib.hid (D_11.out.next g12)
  have E_12 := Lib.hid (E_11.out.next g12)
  have F_12 := Lib.hid (F_11.out.next g12)
  have G_12 := Lib.hid (G_11.out.next g12)
  clear g12 B_11 T_11 S_11 U_11 V_11 X_11 Y_11 Z_11 D_11 E_11 F_11 G_11
  have P_12 := Lib.hid (KP.pair hP)
  clear hP
  obtain ⟨_, p0, p1⟩ := P_12.out.here
  have CX13 := Lib.hid ((cAddI (some ⟨b11, o11, none⟩) (some ⟨q11, 0, none⟩) n11 c11 m11 d11 rs3 (ys, t11) w12 (by have := F_12.out.here.n31; omega) (by omega) (by show t11.size ≤ maxLen; unfold maxLen; omega) F_12.out.here.rules G_12.out.here).mono (fun e w' h => h.q))
  go_wp2_with fail
  rw [← hw12]
  clear hw12
  refine CX13.out.mono ?_
  rintro e w13 ⟨A13, n13, c13, rfl, hN, g13⟩
  clear CX13 p0 p1
  have B_13 := Lib.hid (B_12.out.next g13)
  have T_13 := Lib.hid (T_12.out.next g13)
  have S_13 := Lib.hid (S_12.out.next g13)
  have U_13 := Lib.hid (U_12.out.next g13)
  have V_13 := Lib.hid (V_12.out.next g13)
  have X_13 := Lib.hid (X_12.out.next g13)
  have Y_13 := Lib.hid (Y_12.out.next g13)
  have Z_13 := Lib.hid (Z_12.out.next g13)
  have D_13 := Lib.hid (D_12.out.next g13)
  have E_13 := Lib.hid (E_12.out.next g13)
  have F_13 := Lib.hid (F_12.out.next g13)
  have G_13 := Lib.hid (G_12.out.next g13)
  have P_13 := Lib.hid (P_12.out.next g13)
  clear g13 B_12 T_12 S_12 U_12 V_12 X_12 Y_12 Z_12 D_12 E_12 F_12 G_12 P_12
  have I_13 := Lib.hid (KP.rules hN)
  clear hN
  obtain ⟨_, p0, p1⟩ := P_13.out.here
  have CX14 := Lib.hid ((cAddS b11 o11 (some ⟨q11, 0, none⟩) n11 c11 m11 d11 rs3 (ys, t11) w13 (by have := F_13.out.here.n31; omega) (by omega) (by show t11.size ≤ maxLen; unfold maxLen; omega) F_13.out.here.rules G_13.out.here).mono (fun e w' h => h.q))
  go_wp2_with fail
  refine CX14.out.mono ?_
  rintro e w14 ⟨A14, n14, c14, rfl, hN, g14⟩
  clear CX14
  clear p0 p1
  clear F_13
  have B_14 := Lib.hid (B_13.out.next g14)
  have T_14 := Lib.hid (T_13.out.next g14)
  have S_14 := Lib.hid (S_13.out.next g14)
  have U_14 := Lib.hid (U_13.out.next g14)
  have V_14 := Lib.hid (V_13.out.next g14)
  have X_14 := Lib.hid (X_13.out.next g14)
  have Y_14 := Lib.hid (Y_13.out.next g14)
  have Z_14 := Lib.hid (Z_13.out.next g14)
  have D_14 := Lib.hid (D_13.out.next g14)
  have E_14 := Lib.hid (E_13.out.next g14)
  have G_14 := Lib.hid (G_13.out.next g14)
  have P_14 := Lib.hid (P_13.out.next g14)
  have I_14 := Lib.hid (I_13.out.next g14)
  clear g14 B_13 T_13 S_13 U_13 V_13 X_13 Y_13 Z_13 D_13 E_13 G_13 P_13 I_13
  have J_14 := Lib.hid (KP.rules hN)
  clear hN
  have htt : (t.toList == t.toList) = true := beq_self_eq_true _
  have hbb : (bad != bad) = false := by simp
  have hcv : (covC rs2 != covC rs2) = false := by simp
  have hus : (useC rs2 != useC rs2) = false := by simp
  have had : (addC rs3 (ys, t11) != addC rs3 (ys, t11)) = false := by simp
  have hn4 : n4 ≤ 13 := by have h1 := U_14.out.here.1; omega
  have hn7 : n7 ≤ 20 := by have h1 := Y_14.out.here.1; have h2 := covZ_len rs2; omega
  have hn9 : n9 ≤ 30 := by have h1 := D_14.out.here.1; have h2 := useZ_len rs2; omega
  have hn13 : n13 ≤ 30 := by have h1 := I_14.out.here.1; have h2 := (addZ_small rs3 (ys, t11)).1; omega
  have CX15 := Lib.hid (likeN A4 A5 n4 n5 c4 c5 zu w14 (by omega) U_14.out.here V_14.out.here)
  go_wp2_with fail
  refine CX15.out.mono ?_
  rintro e w15 ⟨rfl, g15⟩
  clear CX15
  clear V_14
  have B_15 := Lib.hid (B_14.out.next g15)
  have T_15 := Lib.hid (T_14.out.next g15)
  have S_15 := Lib.hid (S_14.out.next g15)
  have U_15 := Lib.hid (U_14.out.next g15)
  have X_15 := Lib.hid (X_14.out.next g15)
  have Y_15 := Lib.hid (Y_14.out.next g15)
  have Z_15 := Lib.hid (Z_14.out.next g15)
  have D_15 := Lib.hid (D_14.out.next g15)
  have E_15 := Lib.hid (E_14.out.next g15)
  have G_15 := Lib.hid (G_14.out.next g15)
  have P_15 := Lib.hid (P_14.out.next g15)
  have I_15 := Lib.hid (I_14.out.next g15)
  have J_15 := Lib.hid (J_14.out.next g15)
  clear g15 B_14 T_14 S_14 U_14 X_14 Y_14 Z_14 D_14 E_14 G_14 P_14 I_14 J_14
  have CX16 := Lib.hid (likeN A7 A8 n7 n8 c7 c8 (covZ rs2) w15 (by omega) Y_15.out.here Z_15.out.here)
  go_wp2_with fail
  refine CX16.out.mono ?_
  rintro e w16 ⟨rfl, g16⟩
  clear CX16
  clear Y_15
  clear Z_15
  have B_16 := Lib.hid (B_15.out.next g16)
  have T_16 := Lib.hid (T_15.out.next g16)
  have S_16 := Lib.hid (S_15.out.next g16)
  have U_16 := Lib.hid (U_15.out.next g16)
  have X_16 := Lib.hid (X_15.out.next g16)
  have D_16 := Lib.hid (D_15.out.next g16)
  have E_16 := Lib.hid (E_15.out.next g16)
  have G_16 := Lib.hid (G_15.out.next g16)
  have P_16 := Lib.hid (P_15.out.next g16)
  have I_16 := Lib.hid (I_15.out.next g16)
  have J_16 := Lib.hid (J_15.out.next g16)
  clear g16 B_15 T_15 S_15 U_15 X_15 D_15 E_15 G_15 P_15 I_15 J_15
  have CX17 := Lib.hid (likeN A9 A10 n9 n10 c9 c10 (useZ rs2) w16 (by omega) D_16.out.here E_16.out.here)
  go_wp2_with fail
  refine CX17.out.mono ?_
  rintro e w17 ⟨rfl, g17⟩
  clear CX17
  clear D_16
  clear E_16
  have B_17 := Lib.hid (B_16.out.next g17)
  have T_17 := Lib.hid (T_16.out.next g17)
  have S_17 := Lib.hid (S_16.out.next g17)
  have U_17 := Lib.hid (U_16.out.next g17)
  have X_17 := Lib.hid (X_16.out.next g17)
  have G_17 := Lib.hid (G_16.out.next g17)
  have P_17 := Lib.hid (P_16.out.next g17)
  have I_17 := Lib.hid (I_16.out.next g17)
  have J_17 := Lib.hid (J_16.out.next g17)
  clear g17 B_16 T_16 S_16 U_16 X_16 G_16 P_16 I_16 J_16
  have CX18 := Lib.hid (likeQ A13 A14 n13 n14 c13 c14 (addZ rs3 (ys, t11)) w17 (by omega) (addZ_small rs3 (ys, t11)).2.1 I_17.out.here J_17.out.here)
  go_wp2_with fail
  refine CX18.out.mono ?_
  rintro e w18 ⟨rfl, g18⟩
  clear CX18
  clear J_17
  have B_18 := Lib.hid (B_17.out.next g18)
  have T_18 := Lib.hid (T_17.out.next g18)
  have S_18 := Lib.hid (S_17.out.next g18)
  have U_18 := Lib.hid (U_17.out.next g18)
  have X_18 := Lib.hid (X_17.out.next g18)
  have G_18 := Lib.hid (G_17.out.next g18)
  have P_18 := Lib.hid (P_17.out.next g18)
  have I_18 := Lib.hid (I_17.out.next g18)
  clear g18 B_17 T_17 S_17 U_17 X_17 G_17 P_17 I_17
  have CX19 := Lib.hid (cIsTable (some ⟨b6, o6, none⟩) n6 c6 rs2 w18 (by have := X_18.out.here.n31; unfold maxLen; omega) X_18.out.here.rules)
  go_wp2_with fail
  refine CX19.out.mono ?_
  rintro e w19 ⟨rfl, g19⟩
  clear CX19
  clear X_18
  have B_19 := Lib.hid (B_18.out.next g19)
  have T_19 := Lib.hid (T_18.out.next g19)
  have S_19 := Lib.hid (S_18.out.next g19)
  have U_19 := Lib.hid (U_18.out.next g19)
  have G_19 := Lib.hid (G_18.out.next g19)
  have P_19 := Lib.hid (P_18.out.next g19)
  have I_19 := Lib.hid (I_18.out.next g19)
  clear g19 B_18 T_18 S_18 U_18 G_18 P_18 I_18
  have hq1 := covC_eq rs2
  obtain ⟨tb, htb⟩ : ∃ tb, tb = tableB rs2 := ⟨_, rfl⟩
  rw [← htb] at hq1 ⊢
  have hq2 : (tb != tb) = false := by simp
  clear htb
  by_cases hk7 : addC rs3 (ys, t11) = 0
  · have hz7 : (addC rs3 (ys, t11) == 0) = true := by simp [hk7]
    have CX20 := Lib.hid (show Calls Try.prog 15 #[.slice A13 n13 c13, .slice (some ⟨q11, 0, none⟩) m11 d11] w19 (fun e w' => e = .returned (.tuple #[.string t11, .int .i64 0]) ∧ Below w19.heap.size w19 w') from by
      have h9 := cRoman_impl A13 (some ⟨q11, 0, none⟩) n13 m11 c13 d11 (addZ rs3 (ys, t11)) ys w19 (by omega) (by omega) hmd11 hdm11 I_19.out.here G_19.out.here
      rw [add_rom (rs := rs3) (r := (ys, t11)) hk7] at h9; exact h9)
    have ht11e : (t11.toList == t11.toList) = true := beq_self_eq_true _
    obtain ⟨_, p0, p1⟩ := P_19.out.here
    clear hk7
    go_wp2_with fail
    refine CX20.out.mono ?_
    rintro e w20 ⟨rfl, g20⟩
    clear CX20 p0 p1
    have B_20 := Lib.hid (B_19.out.next g20)
    have T_20 := Lib.hid (T_19.out.next g20)
    have S_20 := Lib.hid (S_19.out.next g20)
    have U_20 := Lib.hid (U_19.out.next g20)
    have G_20 := Lib.hid (G_19.out.next g20)
    have P_20 := Lib.hid (P_19.out.next g20)
    have I_20 := Lib.hid (I_19.out.next g20)
    clear g20 B_19 T_19 S_19 U_19 G_19 P_19 I_19
    obtain ⟨_, p0, p1⟩ := P_20.out.here
    by_cases hb0 : bad = 0
    · have hbn : (bad != 0) = false := by simp [hb0]
      obtain ⟨hcat, hkeys, hgz⟩ := HGOOD.out hb0
      have htab := code_table (HCODE.out.trans hb0)
      rw [← HZU.out] at hcat hkeys hgz
      have HCAT := Lib.hid hcat
      have HKEYS := Lib.hid hkeys
      have HGZ := Lib.hid hgz
      have HRB : Hid (∀ r ∈ rs, ruleB r = true) := Lib.hid (fun r hr => goodT_mem (table_good htab) hr)
      have HRL := Lib.hid T_20.out.here.rules.1
      have HUL := Lib.hid U_20.out.here.1
      have O0 := Lib.hid (World.ownsRow_lit (e := 2) (base := w20.heap.size) (size := 1) w20 #[] 0 (Nat.le_refl _) (by decide) rfl)
      have B0 := Lib.hid (alloc_below w20 (.cells #[] 2))
      clear hcat hkeys hgz htab hb0
      go_wp2_with fail
      go_loopw [30, 31, 32] (fun p q i wr => ∃ (k m : Nat) (v : Value), k ≤ n4 ∧ i = .int .i64 k ∧ p = .string (catR rs (zu.take k)) ∧ v = q ∧ m ≤ k * 4 ∧ (catR rs (zu.take k)).size ≤ k * 5 ∧ Hid (wr.ownsRow w20.heap.size 2 1 v m (intV (catK rs (zu.take k)))) ∧ Hid (Below w20.heap.size w20 wr)) (fun _ _ i _ => n4 - (intOf i).toNat)
      case atStart => exact ⟨0, 0, _, Nat.zero_le _, rfl, rfl, rfl, Nat.zero_le _, Nat.zero_le _, O0, B0⟩
      case round =>
        clear O0 B0
        obtain ⟨k, m, v, hk, rfl, rfl, rfl, hm4, hts, HO, HW⟩ := hrel
        by_cases hlt : k < n4
        · obtain ⟨i, hi⟩ : ∃ i, zu[k]? = some i := ⟨zu[k]'(by have := HUL.out; omega), List.getElem?_eq_getElem _⟩
          obtain ⟨b', o', hA4, hb', hci⟩ := (U_20.out wr HW.out).row hi
          subst hA4
          obtain ⟨q, rfl, hq⟩ := HGZ.out i (List.mem_of_getElem? hi)
          obtain ⟨r, hr⟩ : ∃ r, rs[q]? = some r := ⟨rs[q]'hq, List.getElem?_eq_getElem _⟩
          obtain ⟨b, o, hA1, hbl, A2, n2, c2, k0, k1, k2, _, k4⟩ := (T_20.out wr HW.out).rules.row hr
          cases hA1
          have hsm := (T_20.out wr HW.out).small r (List.mem_of_getElem? hr)
          have hl1 := (signs_len (rule_signs (HRB.out r (List.mem_of_getElem? hr)))).1
          have hn2 := k2.1
          obtain ⟨b2, o2, hA2, hb2, hc2⟩ := k2.2 (by omega)
          subst hA2
          have hst : catR rs (zu.take (k + 1)) = catR rs (zu.take k) ++ r.2 := by rw [catR_step hi, romAt_at hr]
          have hsk : catK rs (zu.take (k + 1)) = catK rs (zu.take k) ++ r.1 := by rw [catK_step hi, keyAt_at hr]
          have HST := Lib.hid hst
          have HSK := Lib.hid hsk
          have HC2 := Lib.hid hc2
          have HN2 := Lib.hid hn2
          have hn24 : n2 ≤ 4 := by omega
          have hr5 : r.2.size ≤ 5 := hsm.2
          have q0 : (0 : Int) ≤ (q : Int) := by omega
          have q1 : (q : Int) < (n1 : Int) := by have := HRL.out; omega
          have hk13 : k ≤ 13 := by omega
          clear hr hi hst hsk k2 hc2 hn2 hsm hl1
          go_wp2_with (at_builtin; refine wpList_append_own _ rfl _ _ 25 rfl w20.heap.size 2 i0 _ 1 8 Try.underlying25 hi0 hz0 hz1 hz2 rfl (by decide) _ _ _ rfl HO.out ⟨b2, o2, none⟩ n2 c2 (intV r.1) rfl ?c0 ?c1 ?c2 ?c3 ?c4 ?c5 ?_)
          case c0 => rw [intV_len]; have := HN2.out; omega
          case c1 => intro j u hu; obtain ⟨x, hx, rfl⟩ := intV_get hu; rw [add_plainG]; exact HC2.out j x hx
          case c2 => intro u hu; simp [intV] at hu; obtain ⟨x, _, rfl⟩ := hu; rfl
          case c3 => unfold maxLen; omega
          case c4 => omega
          case c5 => exact HW.out.size
          intro v' w30 hown hgrow _
          rw [intV_appL, ← HSK.out] at hown
          have HO2 := Lib.hid hown
          have HW2 : Hid (Below w20.heap.size w20 w30) := Lib.hid (HW.out.grown hgrow HW.out.size (fun x hx => (HO.out.lt x hx).1))
          have hts2 : (catR rs (zu.take (k + 1))).size ≤ (k + 1) * 5 := by rw [HST.out, ByteArray.size_append]; omega
          clear hown hgrow
          go_wp2_with fail
          go_roundw
          case rel => exact ⟨k + 1, m + n2, v', by omega, by go_num, by rw [HST.out], rfl, by omega, hts2, HO2, HW2⟩
          case measure => simp [intOf]; omega
        · have hw : zu.take k = zu := List.take_of_length_le (by have := HUL.out; omega)
          rw [hw, HCAT.out]
          rw [hw, HKEYS.out] at HO
          obtain ⟨A9, c9, hv9, _, _⟩ := int_formS HO.out
          subst hv9
          have CY := Lib.hid (likeN A9 A1 m m1 c9 d1 xs wr (by omega) (rowNum HO.out) (S_20.out wr HW.out))
          have HB9 := Lib.hid (B_20.out wr HW.out)
          clear hw hts
          go_wp2_with fail
          refine CY.out.mono ?_
          rintro e w31 ⟨rfl, g31⟩
          go_wp2_with fail
          go_ret
          exact ⟨rfl, HB9.out.trans (g31.mono HB9.out.size)⟩
    · have hbn : (bad != 0) = true := by simp [hb0]
      have HB9 := Lib.hid B_20.out.here
      clear hb0
      go_wp2_with fail
      go_ret
      exact ⟨rfl, HB9.out⟩
  · have hz7 : (addC rs3 (ys, t11) == 0) = false := by rw [beq_eq_false_iff_ne]; exact hk7
    clear hk7
    by_cases hb0 : bad = 0
    · have hbn : (bad != 0) = false := by simp [hb0]
      obtain ⟨hcat, hkeys, hgz⟩ := HGOOD.out hb0
      have htab := code_table (HCODE.out.trans hb0)
      rw [← HZU.out] at hcat hkeys hgz
      have HCAT := Lib.hid hcat
      have HKEYS := Lib.hid hkeys
      have HGZ := Lib.hid hgz
      have HRB : Hid (∀ r ∈ rs, ruleB r = true) := Lib.hid (fun r hr => goodT_mem (table_good htab) hr)
      have HRL := Lib.hid T_19.out.here.rules.1
      have HUL := Lib.hid U_19.out.here.1
      have O0 := Lib.hid (World.ownsRow_lit (e := 2) (base := w19.heap.size) (size := 1) w19 #[] 0 (Nat.le_refl _) (by decide) rfl)
      have B0 := Lib.hid (alloc_below w19 (.cells #[] 2))
      clear hcat hkeys hgz htab hb0
      go_wp2_with fail
      go_loopw [30, 31, 32] (fun p q i wr => ∃ (k m : Nat) (v : Value), k ≤ n4 ∧ i = .int .i64 k ∧ p = .string (catR rs (zu.take k)) ∧ v = q ∧ m ≤ k * 4 ∧ (catR rs (zu.take k)).size ≤ k * 5 ∧ Hid (wr.ownsRow w19.heap.size 2 1 v m (intV (catK rs (zu.take k)))) ∧ Hid (Below w19.heap.size w19 wr)) (fun _ _ i _ => n4 - (intOf i).toNat)
      case atStart => exact ⟨0, 0, _, Nat.zero_le _, rfl, rfl, rfl, Nat.zero_le _, Nat.zero_le _, O0, B0⟩
      case round =>
        clear O0 B0
        obtain ⟨k, m, v, hk, rfl, rfl, rfl, hm4, hts, HO, HW⟩ := hrel
        by_cases hlt : k < n4
        · obtain ⟨i, hi⟩ : ∃ i, zu[k]? = some i := ⟨zu[k]'(by have := HUL.out; omega), List.getElem?_eq_getElem _⟩
          obtain ⟨b', o', hA4, hb', hci⟩ := (U_19.out wr HW.out).row hi
          subst hA4
          obtain ⟨q, rfl, hq⟩ := HGZ.out i (List.mem_of_getElem? hi)
          obtain ⟨r, hr⟩ : ∃ r, rs[q]? = some r := ⟨rs[q]'hq, List.getElem?_eq_getElem _⟩
          obtain ⟨b, o, hA1, hbl, A2, n2, c2, k0, k1, k2, _, k4⟩ := (T_19.out wr HW.out).rules.row hr
          cases hA1
          have hsm := (T_19.out wr HW.out).small r (List.mem_of_getElem? hr)
          have hl1 := (signs_len (rule_signs (HRB.out r (List.mem_of_getElem? hr)))).1
          have hn2 := k2.1
          obtain ⟨b2, o2, hA2, hb2, hc2⟩ := k2.2 (by omega)
          subst hA2
          have hst : catR rs (zu.take (k + 1)) = catR rs (zu.take k) ++ r.2 := by rw [catR_step hi, romAt_at hr]
          have hsk : catK rs (zu.take (k + 1)) = catK rs (zu.take k) ++ r.1 := by rw [catK_step hi, keyAt_at hr]
          have HST := Lib.hid hst
          have HSK := Lib.hid hsk
          have HC2 := Lib.hid hc2
          have HN2 := Lib.hid hn2
          have hn24 : n2 ≤ 4 := by omega
          have hr5 : r.2.size ≤ 5 := hsm.2
          have q0 : (0 : Int) ≤ (q : Int) := by omega
          have q1 : (q : Int) < (n1 : Int) := by have := HRL.out; omega
          have hk13 : k ≤ 13 := by omega
          clear hr hi hst hsk k2 hc2 hn2 hsm hl1
          go_wp2_with (at_builtin; refine wpList_append_own _ rfl _ _ 25 rfl w19.heap.size 2 i0 _ 1 8 Try.underlying25 hi0 hz0 hz1 hz2 rfl (by decide) _ _ _ rfl HO.out ⟨b2, o2, none⟩ n2 c2 (intV r.1) rfl ?c0 ?c1 ?c2 ?c3 ?c4 ?c5 ?_)
          case c0 => rw [intV_len]; have := HN2.out; omega
          case c1 => intro j u hu; obtain ⟨x, hx, rfl⟩ := intV_get hu; rw [add_plainG]; exact HC2.out j x hx
          case c2 => intro u hu; simp [intV] at hu; obtain ⟨x, _, rfl⟩ := hu; rfl
          case c3 => unfold maxLen; omega
          case c4 => omega
          case c5 => exact HW.out.size
          intro v' w30 hown hgrow _
          rw [intV_appL, ← HSK.out] at hown
          have HO2 := Lib.hid hown
          have HW2 : Hid (Below w19.heap.size w19 w30) := Lib.hid (HW.out.grown hgrow HW.out.size (fun x hx => (HO.out.lt x hx).1))
          have hts2 : (catR rs (zu.take (k + 1))).size ≤ (k + 1) * 5 := by rw [HST.out, ByteArray.size_append]; omega
          clear hown hgrow
          go_wp2_with fail
          go_roundw
          case rel => exact ⟨k + 1, m + n2, v', by omega, by go_num, by rw [HST.out], rfl, by omega, hts2, HO2, HW2⟩
          case measure => simp [intOf]; omega
        · have hw : zu.take k = zu := List.take_of_length_le (by have := HUL.out; omega)
          rw [hw, HCAT.out]
          rw [hw, HKEYS.out] at HO
          obtain ⟨A9, c9, hv9, _, _⟩ := int_formS HO.out
          subst hv9
          have CY := Lib.hid (likeN A9 A1 m m1 c9 d1 xs wr (by omega) (rowNum HO.out) (S_19.out wr HW.out))
          have HB9 := Lib.hid (B_19.out wr HW.out)
          clear hw hts
          go_wp2_with fail
          refine CY.out.mono ?_
          rintro e w31 ⟨rfl, g31⟩
          go_wp2_with fail
          go_ret
          exact ⟨rfl, HB9.out.trans (g31.mono HB9.out.size)⟩
    · have hbn : (bad != 0) = true := by simp [hb0]
      have HB9 := Lib.hid B_19.out.here
      clear hb0
      go_wp2_with fail
      go_ret
      exact ⟨rfl, HB9.out⟩
end Go.Proofs.Ytnfdbpfegmodcaa
