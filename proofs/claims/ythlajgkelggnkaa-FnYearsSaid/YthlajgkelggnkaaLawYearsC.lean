/-
  The law of years: its call answers true.
-/
import Derived.Test.YthlajgkelggnkaaYearsMath
import Derived.Deep.DeepCutAuto
import Derived.Deep.CutRange
namespace Go.Proofs.Ythlajgkelggnkaa
set_option linter.unusedVariables false
open Go.RowKit

theorem doV_form (x y u v : Int) : doV x y u v = .tuple #[.bool (spB x y && spB u v && meetB x y u v), .int .i64 (if spB x y && spB u v then 0 else 1)] := by
  unfold doV; cases spB x y && spB u v <;> rfl
def meetX (x y u v : Int) : Int := if spB x y && spB u v && meetB x y u v then max x u else 0
def meetY (x y u v : Int) : Int := if spB x y && spB u v && meetB x y u v then min y v else 0
def meetC (x y u v : Int) : Int := if spB x y && spB u v then (if meetB x y u v then 0 else 4) else 1
theorem meetV_form (x y u v : Int) : meetV x y u v = .tuple #[.agg #[.int .i64 (meetX x y u v), .int .i64 (meetY x y u v)], .int .i64 (meetC x y u v)] := by
  unfold meetV meetX meetY meetC; cases spB x y && spB u v <;> cases meetB x y u v <;> rfl

theorem do_meet (x y u v : Int) : ((spB x y && spB u v && meetB x y u v) = false ∧ (if spB x y && spB u v then (0 : Int) else 1) = 1 ∧ meetC x y u v = 1) ∨ ((spB x y && spB u v && meetB x y u v) = true ∧ (if spB x y && spB u v then (0 : Int) else 1) = 0 ∧ meetC x y u v = 0) ∨ ((spB x y && spB u v && meetB x y u v) = false ∧ (if spB x y && spB u v then (0 : Int) else 1) = 0 ∧ meetC x y u v = 4) := by
  unfold meetC; cases spB x y && spB u v <;> cases meetB x y u v <;> simp
theorem SpanAt.new_ {w : World} {A : Option Addr} {n : Nat} {xs : List Sp} (h : SpanAt w w.heap.size A n xs) (o : Obj) : SpanAt (w.alloc o) (w.alloc o).heap.size A n xs := h.mono_ (below_alloc w o)
theorem grow_alloc {w w' : World} (h : Below w.heap.size w w') (o : Obj) : Below w.heap.size w (w'.alloc o) := h.alloc h.size o
theorem SpanAt.drw_ {w : World} {B : Nat} {A : Option Addr} {n : Nat} {xs : List Sp} (h : SpanAt w B A n xs) (m : Nat) : SpanAt (w.drewN m) B A n xs := h
theorem below_drN {B : Nat} {a w : World} (h : Below B a w) (n : Nat) : Below B a (w.drewN n) := ⟨h.os, h.tape, h.output, h.size, h.block⟩

set_option maxHeartbeats 8000000 in
set_option maxRecDepth 100000 in
theorem wYears (A : Option Addr) (len cap : Nat) (w : World) (hl : len ≤ maxLen) (h : CodeIn w A len) :
    Calls Try.prog 3 #[.slice A len cap] w fun e w' => e = .returned (.bool true) ∧ Below w.heap.size w w' := by
  have CB := Lib.hid (cBig A len cap w hl)
  by_cases h1 : 4096 < len
  · rw [decide_eq_true h1] at CB
    clear h h1 hl
    go_enter Try.func3, Try.ntmps3
    go_wp2_with fail
    refine CB.out.mono ?_
    rintro e w' ⟨rfl, rfl⟩
    go_wp2_with fail
    go_ret
    exact ⟨rfl, Below.refl _ _⟩
  rw [decide_eq_false h1] at CB
  have hlen : len ≤ 1048576 := by omega
  have CD := Lib.hid (cDrawUnion A len cap w hlen h)
  have H := Lib.hid h
  clear h h1 hl
  go_enter Try.func3, Try.ntmps3
  go_wp2_with fail
  refine CB.out.mono ?_
  rintro e w' ⟨rfl, rfl⟩
  go_wp2_with fail
  refine CD.out.mono ?_
  rintro e w1 ⟨g, k, c, xs, g', k', c', ys, hk, hk', rfl, r1, q1, b1⟩
  have R1 := Lib.hid r1
  have Q1 := Lib.hid q1
  have B1 := Lib.hid b1
  clear r1 q1 b1 CD CB
  go_wp2_with fail
  refine (cUnionOf_impl g 0 g' 0 k k' c c' xs ys w1 (by omega) (by omega) R1.out.span Q1.out.span).mono ?_
  rintro e w2 ⟨C2, n2, c2, cu, us, hn2, hsu, rfl, own2, g2⟩
  subst hn2
  have HSU := Lib.hid hsu
  have R2 := Lib.hid (R1.out.below g2)
  have Q2 := Lib.hid (Q1.out.below g2)
  have U2 := Lib.hid (Row.of own2).span
  have B2 := Lib.hid (B1.out.trans (g2.mono B1.out.size))
  clear hsu own2 g2
  go_wp2_with fail
  refine (cUnionOf_spec (some ⟨g, 0, none⟩) (some ⟨g', 0, none⟩) k k' c c' xs ys w2 (by omega) (by omega) R2.out.span Q2.out.span).mono ?_
  rintro e w3 ⟨C3, n3, c3, cu', us', hn3, hsu', rfl, own3, g3⟩
  obtain ⟨rfl, rfl⟩ := HSU.out.uniq hsu'
  subst hn3
  have R3 := Lib.hid (R2.out.below g3)
  have Q3 := Lib.hid (Q2.out.below g3)
  have U3 := Lib.hid (U2.out.mono_ g3)
  have V3 := Lib.hid (Row.of own3).span
  have B3 := Lib.hid (B2.out.trans (g3.mono B2.out.size))
  clear hsu' own3 g3
  go_wp2_with fail
  refine (cWithoutYears_impl g 0 g' 0 k k' c c' xs ys w3 (by omega) (by omega) R3.out.span Q3.out.span).mono ?_
  rintro e w4 ⟨C4, n4, c4, cw, ws, hn4, hsw, rfl, own4, g4⟩
  subst hn4
  have HSW := Lib.hid hsw
  have R4 := Lib.hid (R3.out.below g4)
  have Q4 := Lib.hid (Q3.out.below g4)
  have U4 := Lib.hid (U3.out.mono_ g4)
  have V4 := Lib.hid (V3.out.mono_ g4)
  have X4 := Lib.hid (Row.of own4).span
  have B4 := Lib.hid (B3.out.trans (g4.mono B3.out.size))
  clear hsw own4 g4
  go_wp2_with fail
  refine (cWithoutYears_spec (some ⟨g, 0, none⟩) (some ⟨g', 0, none⟩) k k' c c' xs ys w4 (by omega) (by omega) R4.out.span Q4.out.span).mono ?_
  rintro e w5 ⟨C5, n5, c5, cw', ws', hn5, hsw', rfl, own5, g5⟩
  obtain ⟨rfl, rfl⟩ := HSW.out.uniq hsw'
  subst hn5
  have R5 := Lib.hid (R4.out.below g5).span
  have Q5 := Lib.hid (Q4.out.below g5).span
  have U5 := Lib.hid (U4.out.mono_ g5)
  have V5 := Lib.hid (V4.out.mono_ g5)
  have X5 := Lib.hid (X4.out.mono_ g5)
  have Y5 := Lib.hid (Row.of own5).span
  have B5 := Lib.hid (B4.out.trans (g5.mono B4.out.size))
  have CM := Lib.hid (cDrawMO A len cap w5 hlen (H.out.below B5.out))
  clear hsw' own5 g5 R1 R2 R3 R4 Q1 Q2 Q3 Q4 U2 U3 U4 V3 V4 X4 B1 B2 B3 B4
  have hus : us.length ≤ 12 := HSU.out.short
  have hws : ws.length ≤ 12 := HSW.out.short
  go_wp2_with fail
  refine CM.out.mono ?_
  rintro e w6 ⟨x, y, u, v, rfl, g6⟩
  have R6 := Lib.hid (R5.out.mono_ g6)
  have Q6 := Lib.hid (Q5.out.mono_ g6)
  have U6 := Lib.hid (U5.out.mono_ g6)
  have V6 := Lib.hid (V5.out.mono_ g6)
  have X6 := Lib.hid (X5.out.mono_ g6)
  have Y6 := Lib.hid (Y5.out.mono_ g6)
  have B6 := Lib.hid (B5.out.trans (g6.mono B5.out.size))
  clear R5 Q5 U5 V5 X5 Y5 B5 CM g6
  go_wp2_with fail
  obtain ⟨W, hW⟩ : ∃ W : World, W = (w6.alloc (.cells #[.int .i64 x, .int .i64 y] 30)).alloc (.cells #[.int .i64 u, .int .i64 v] 30) := ⟨_, rfl⟩
  have KX : BoxAt W w6.heap.size x y := by rw [hW]; exact (BoxAt.new w6 x y _).alloc _
  have KY : BoxAt W (w6.heap.size + 1) u v := by
    have h := BoxAt.new (w6.alloc (.cells #[.int .i64 x, .int .i64 y] 30)) u v 30
    rw [hW]; simpa using h
  have g7 : Below w6.heap.size w6 W := by rw [hW]; exact grow_alloc (grow_alloc (Below.refl _ _) _) _
  have R7 := Lib.hid (R6.out.mono_ g7)
  have Q7 := Lib.hid (Q6.out.mono_ g7)
  have U7 := Lib.hid (U6.out.mono_ g7)
  have V7 := Lib.hid (V6.out.mono_ g7)
  have X7 := Lib.hid (X6.out.mono_ g7)
  have Y7 := Lib.hid (Y6.out.mono_ g7)
  have B7 := Lib.hid (B6.out.trans (g7.mono B6.out.size))
  obtain ⟨PX, hPX⟩ : ∃ P : Nat, P = w6.heap.size := ⟨_, rfl⟩
  rw [← hW]
  rw [← hPX] at KX KY ⊢
  clear hW g7 R6 Q6 U6 V6 X6 Y6 B6 hPX
  have CI := Lib.hid (fun W => cMeetOf_impl x y u v W)
  have CS := Lib.hid (fun W => cMeetOf_spec x y u v W)
  have DI := Lib.hid (fun W => cDo_impl x y u v W)
  have DS := Lib.hid (fun W => cDo_spec x y u v W)
  rw [meetV_form] at CI CS
  rw [doV_form] at DI DS
  have zd := do_meet x y u v
  obtain ⟨mx, hmx⟩ : ∃ m : Int, m = meetX x y u v := ⟨_, rfl⟩
  obtain ⟨my, hmy⟩ : ∃ m : Int, m = meetY x y u v := ⟨_, rfl⟩
  obtain ⟨mc, hmc⟩ : ∃ m : Int, m = meetC x y u v := ⟨_, rfl⟩
  obtain ⟨d, hd⟩ : ∃ d : Bool, d = (spB x y && spB u v && meetB x y u v) := ⟨_, rfl⟩
  obtain ⟨dc, hdc⟩ : ∃ m : Int, m = (if spB x y && spB u v then 0 else 1) := ⟨_, rfl⟩
  rw [← hmx, ← hmy, ← hmc] at CI CS
  rw [← hd, ← hdc] at DI DS
  rw [← hd, ← hmc, ← hdc] at zd
  have ZD := Lib.hid zd
  clear hmx hmy hmc hd hdc zd
  obtain ⟨lx, x0, x1⟩ := id KX
  obtain ⟨ly, y0, y1⟩ := id KY
  have HKX := Lib.hid KX
  have HKY := Lib.hid KY
  clear KX KY
  go_wp2_with fail
  refine (CI.out _).mono ?_
  rintro e w8 ⟨rfl, g8⟩
  clear lx x0 x1 ly y0 y1
  have g8' := grow_alloc g8 (.cells #[.int .i64 mx, .int .i64 my] 30)
  have R8 := Lib.hid (R7.out.mono_ g8')
  have Q8 := Lib.hid (Q7.out.mono_ g8')
  have U8 := Lib.hid (U7.out.mono_ g8')
  have V8 := Lib.hid (V7.out.mono_ g8')
  have X8 := Lib.hid (X7.out.mono_ g8')
  have Y8 := Lib.hid (Y7.out.mono_ g8')
  have B8 := Lib.hid (B7.out.trans (g8'.mono B7.out.size))
  have HKX8 := Lib.hid (HKX.out.below g8')
  have HKY8 := Lib.hid (HKY.out.below g8')
  have HKM8 := Lib.hid (BoxAt.new w8 mx my 30)
  obtain ⟨lx, x0, x1⟩ := HKX.out.below g8
  obtain ⟨ly, y0, y1⟩ := HKY.out.below g8
  clear g8 g8' R7 Q7 U7 V7 X7 Y7 B7 HKX HKY
  go_wp2_with fail
  refine (CS.out _).mono ?_
  rintro e w9 ⟨rfl, g9⟩
  clear lx x0 x1 ly y0 y1
  have g9' := grow_alloc g9 (.cells #[.int .i64 mx, .int .i64 my] 30)
  have R9 := Lib.hid (R8.out.mono_ g9')
  have Q9 := Lib.hid (Q8.out.mono_ g9')
  have U9 := Lib.hid (U8.out.mono_ g9')
  have V9 := Lib.hid (V8.out.mono_ g9')
  have X9 := Lib.hid (X8.out.mono_ g9')
  have Y9 := Lib.hid (Y8.out.mono_ g9')
  have B9 := Lib.hid (B8.out.trans (g9'.mono B8.out.size))
  have HKX9 := Lib.hid (HKX8.out.below g9')
  have HKY9 := Lib.hid (HKY8.out.below g9')
  have HKM9 := Lib.hid (HKM8.out.below g9')
  have HKN9 := Lib.hid (BoxAt.new w9 mx my 30)
  obtain ⟨lx, x0, x1⟩ := HKX8.out.below g9
  obtain ⟨ly, y0, y1⟩ := HKY8.out.below g9
  clear g9 g9' R8 Q8 U8 V8 X8 Y8 B8 HKX8 HKY8 HKM8 CI CS
  go_wp2_with fail
  refine (DI.out _).mono ?_
  rintro e w10 ⟨rfl, g10⟩
  clear lx x0 x1 ly y0 y1
  have R10 := Lib.hid (R9.out.mono_ g10)
  have Q10 := Lib.hid (Q9.out.mono_ g10)
  have U10 := Lib.hid (U9.out.mono_ g10)
  have V10 := Lib.hid (V9.out.mono_ g10)
  have X10 := Lib.hid (X9.out.mono_ g10)
  have Y10 := Lib.hid (Y9.out.mono_ g10)
  have B10 := Lib.hid (B9.out.trans (g10.mono B9.out.size))
  have HKX10 := Lib.hid (HKX9.out.below g10)
  have HKY10 := Lib.hid (HKY9.out.below g10)
  have HKM10 := Lib.hid (HKM9.out.below g10)
  have HKN10 := Lib.hid (HKN9.out.below g10)
  obtain ⟨lx, x0, x1⟩ := HKX10.out
  obtain ⟨ly, y0, y1⟩ := HKY10.out
  clear g10 R9 Q9 U9 V9 X9 Y9 B9 HKX9 HKY9 HKM9 HKN9
  go_wp2_with fail
  refine (DS.out _).mono ?_
  rintro e w11 ⟨rfl, g11⟩
  clear lx x0 x1 ly y0 y1
  have R11 := Lib.hid (R10.out.mono_ g11)
  have Q11 := Lib.hid (Q10.out.mono_ g11)
  have U11 := Lib.hid (U10.out.mono_ g11)
  have V11 := Lib.hid (V10.out.mono_ g11)
  have X11 := Lib.hid (X10.out.mono_ g11)
  have Y11 := Lib.hid (Y10.out.mono_ g11)
  have B11 := Lib.hid (B10.out.trans (g11.mono B10.out.size))
  have HKM11 := Lib.hid (HKM10.out.below g11)
  have HKN11 := Lib.hid (HKN10.out.below g11)
  clear g11 R10 Q10 U10 V10 X10 Y10 B10 HKX10 HKY10 HKM10 HKN10 DI DS
  have zi : ∀ a : Int, (a != a) = false := fun a => bne_self_eq_false' a
  have zb : ∀ a : Bool, (a != a) = false := fun a => bne_self_eq_false' a
  have z1 := zi cu
  have z2 := zi cw
  have z3 := zi mc
  have z4 := zi dc
  have z5 := zb d
  have z6 := zb (yearsB xs)
  clear zi zb
  go_wp2_with fail
  refine (cLikeSp C2 C3 us.length c2 c3 us w11 (by omega) U11.out V11.out).mono ?_
  rintro e w12 ⟨rfl, g12⟩
  have R12 := Lib.hid (R11.out.mono_ g12)
  have Q12 := Lib.hid (Q11.out.mono_ g12)
  have U12 := Lib.hid (U11.out.mono_ g12)
  have X12 := Lib.hid (X11.out.mono_ g12)
  have Y12 := Lib.hid (Y11.out.mono_ g12)
  have B12 := Lib.hid (B11.out.trans (g12.mono B11.out.size))
  have HKM12 := Lib.hid (HKM11.out.below g12)
  have HKN12 := Lib.hid (HKN11.out.below g12)
  clear g12 R11 Q11 U11 V11 X11 Y11 B11 HKM11 HKN11
  go_wp2_with fail
  refine (cLikeSp C4 C5 ws.length c4 c5 ws w12 (by omega) X12.out Y12.out).mono ?_
  rintro e w13 ⟨rfl, g13⟩
  have R13 := Lib.hid (R12.out.mono_ g13)
  have Q13 := Lib.hid (Q12.out.mono_ g13)
  have U13 := Lib.hid (U12.out.mono_ g13)
  have X13 := Lib.hid (X12.out.mono_ g13)
  have B13 := Lib.hid (B12.out.trans (g13.mono B12.out.size))
  obtain ⟨lm, m0, m1⟩ := HKM12.out.below g13
  obtain ⟨ln, p0, p1⟩ := HKN12.out.below g13
  have hne := run_neSame mx my
  clear g13 R12 Q12 U12 X12 Y12 B12 HKM12 HKN12
  go_wp2_with fail
  clear lm m0 m1 ln p0 p1 hne
  refine (cAre_impl (some ⟨g, 0, none⟩) k c xs w13 (by omega) R13.out).mono ?_
  rintro e w14 ⟨rfl, g14⟩
  have R14 := Lib.hid (R13.out.mono_ g14)
  have Q14 := Lib.hid (Q13.out.mono_ g14)
  have U14 := Lib.hid (U13.out.mono_ g14)
  have X14 := Lib.hid (X13.out.mono_ g14)
  have B14 := Lib.hid (B13.out.trans (g14.mono B13.out.size))
  clear g14 R13 Q13 U13 X13 B13
  go_wp2_with fail
  refine (cAre_spec (some ⟨g, 0, none⟩) k c xs w14 (by omega) R14.out).mono ?_
  rintro e w15 ⟨rfl, g15⟩
  have R15 := Lib.hid (R14.out.mono_ g15)
  have Q15 := Lib.hid (Q14.out.mono_ g15)
  have U15 := Lib.hid (U14.out.mono_ g15)
  have X15 := Lib.hid (X14.out.mono_ g15)
  have B15 := Lib.hid (B14.out.trans (g15.mono B14.out.size))
  clear g15 R14 Q14 U14 X14 B14
  have CR := Lib.hid (cRoll A len cap w15 hlen (H.out.below B15.out))
  go_upto_region 15 with fail
  go_cut [154] (fun s wx => s = .bool false ∧ w15 = wx)
  case first =>
    rcases ZD.out with ⟨rfl, rfl, rfl⟩ | ⟨rfl, rfl, rfl⟩ | ⟨rfl, rfl, rfl⟩
    all_goals
      go_wp2_with fail
      go_meet
      exact ⟨rfl, rfl⟩
  case rest =>
    obtain ⟨rfl, rfl⟩ := hcut
    clear ZD
    go_wp2_with fail
    refine CR.out.mono ?_
    rintro e w16 ⟨rfl, ⟨x0, hT⟩, g16⟩
    have RL : Hid (Roll w w15.heap.size A len cap (some ⟨g, 0, none⟩) (some ⟨g', 0, none⟩) C2 C4 k k' us.length ws.length xs ys us ws w16) := Lib.hid ⟨R15.out.below g16, Q15.out.below g16, U15.out.below g16, X15.out.below g16, ⟨0, x0, Nat.zero_le _, hT⟩, (H.out.below B15.out).at_ g16, B15.out.trans (g16.mono B15.out.size), B15.out.size⟩
    obtain ⟨D, hD⟩ : ∃ D : Nat, D = w15.heap.size := ⟨_, rfl⟩
    rw [← hD] at RL ⊢
    clear hT g16 CR R15 Q15 U15 X15 B15 H hD
    go_wp2_with fail
    cases hyy : yearsB xs && yearsB ys
    · as_aux_lemma =>
        obtain ⟨rfl, rfl⟩ := set_bad HSU.out hyy
        obtain ⟨rfl, rfl⟩ := set_bad HSW.out hyy
        clear HSU HSW z1 z2
        have HY := Lib.hid hyy
        clear hyy
        go_loopw [24] (fun i wr => ∃ m : Nat, i = .int .i64 m ∧ Hid (Roll w D A len cap (some ⟨g, 0, none⟩) (some ⟨g', 0, none⟩) C2 C4 k k' 0 0 xs ys [] [] wr)) (fun i _ => 6 - (intOf i).toNat)
        case atStart => exact ⟨0, rfl, RL⟩
        case round =>
          clear RL
          obtain ⟨m, rfl, HR⟩ := hrel
          have KEEP := HY.out
          by_cases hm : m < 6
          · have z0 : decide ((m : Int) < 6) = true := decide_eq_true (by omega)
            obtain ⟨j, y0, hj, hT⟩ := HR.out.dice
            have CBW := Lib.hid (cBelow A len cap j D y0 wr hlen hj HR.out.code hT)
            clear hT KEEP
            go_wp2_with fail
            refine CBW.out.mono ?_
            rintro e w17 ⟨r, j', y', hr0, hr1, rfl, hj', hT', gd⟩
            have HR17 := Lib.hid (HR.out.rolled gd hj' hT')
            clear hT' gd HR CBW
            have CA := Lib.hid (cHasYear_impl (some ⟨g, 0, none⟩) k c xs (1000 + r) w17 (by omega) (HR17.out.s1.more (Nat.le_of_lt HR17.out.lt)))
            cases hx : yearsB xs
            · rw [hasV_bad hx] at CA
              clear hx
              go_wp2_with fail
              refine CA.out.mono ?_
              rintro e w18 ⟨rfl, g18⟩
              have HR18 := Lib.hid (HR17.out.after g18)
              have CQ := Lib.hid (cHasYear_impl (some ⟨g', 0, none⟩) k' c' ys (1000 + r) w18 (by omega) (HR18.out.s2.more (Nat.le_of_lt HR18.out.lt)))
              obtain ⟨pq, cq, hpq⟩ := hasV_form ys (1000 + r)
              rw [hpq] at CQ
              clear CA g18 hpq HR17
              go_wp2_with fail
              refine CQ.out.mono ?_
              rintro e w19 ⟨rfl, g19⟩
              have HR19 := Lib.hid (HR18.out.after g19)
              clear g19 CQ HR18
              go_wp2_with fail
              go_ret
              exact ⟨rfl, HR19.out.below⟩
            · rw [hasV_ok hx] at CA
              have hy : yearsB ys = false := by have := HY.out; rw [hx] at this; simpa using this
              have HYF := Lib.hid hy
              clear hx hy
              go_wp2_with fail
              refine CA.out.mono ?_
              rintro e w18 ⟨rfl, g18⟩
              have HR18 := Lib.hid (HR17.out.after g18)
              have CQ := Lib.hid (cHasYear_impl (some ⟨g', 0, none⟩) k' c' ys (1000 + r) w18 (by omega) (HR18.out.s2.more (Nat.le_of_lt HR18.out.lt)))
              rw [hasV_bad HYF.out] at CQ
              clear CA g18 HR17
              go_wp2_with fail
              refine CQ.out.mono ?_
              rintro e w19 ⟨rfl, g19⟩
              have HR19 := Lib.hid (HR18.out.after g19)
              clear g19 CQ HR18
              go_wp2_with fail
              go_ret
              exact ⟨rfl, HR19.out.below⟩
          · clear KEEP
            go_wp2_with fail
            go_ret
            exact ⟨rfl, HR.out.below⟩
    · have hxy : yearsB xs = true ∧ yearsB ys = true := by simpa using hyy
      have HX := Lib.hid hxy.1
      have HQY := Lib.hid hxy.2
      have DU : (cu = 3 ∧ Hid True) ∨ (cu = 0 ∧ Hid (yearsB us = true) ∧ Hid (Upto true xs ys us 3001)) := (set_ok HSU.out hyy).imp (fun h => ⟨h, Lib.hid trivial⟩) (fun h => ⟨h.1, Lib.hid h.2.1, Lib.hid h.2.2⟩)
      have DW : (cw = 3 ∧ Hid True) ∨ (cw = 0 ∧ Hid (yearsB ws = true) ∧ Hid (Upto false xs ys ws 3001)) := (set_ok HSW.out hyy).imp (fun h => ⟨h, Lib.hid trivial⟩) (fun h => ⟨h.1, Lib.hid h.2.1, Lib.hid h.2.2⟩)
      rcases DU with ⟨hcu, NU3⟩ | ⟨hcu, HYU, HUP⟩
      all_goals
        rcases DW with ⟨hcw, NW3⟩ | ⟨hcw, HYW, HWP⟩
      all_goals
        subst hcu
        subst hcw
        clear HSU HSW hyy z1 z2 hxy
        as_aux_lemma =>
          go_loopw [24] (fun i wr => ∃ m : Nat, i = .int .i64 m ∧ Hid (Roll w D A len cap (some ⟨g, 0, none⟩) (some ⟨g', 0, none⟩) C2 C4 k k' us.length ws.length xs ys us ws wr)) (fun i _ => 6 - (intOf i).toNat)
          case atStart => exact ⟨0, rfl, RL⟩
          case round =>
            clear RL
            obtain ⟨m, rfl, HR⟩ := hrel
            by_cases hm : m < 6
            · have z0 : decide ((m : Int) < 6) = true := decide_eq_true (by omega)
              obtain ⟨j, y0, hj, hT⟩ := HR.out.dice
              have CBW := Lib.hid (cBelow A len cap j D y0 wr hlen hj HR.out.code hT)
              clear hT
              go_wp2_with fail
              refine CBW.out.mono ?_
              rintro e w17 ⟨r, j', y', hr0, hr1, rfl, hj', hT', gd⟩
              have HR17 := Lib.hid (HR.out.rolled gd hj' hT')
              clear hT' gd HR CBW
              have CA := Lib.hid (cHasYear_impl (some ⟨g, 0, none⟩) k c xs (1000 + r) w17 (by omega) (HR17.out.s1.more (Nat.le_of_lt HR17.out.lt)))
              rw [hasV_ok HX.out] at CA
              obtain ⟨p, hp⟩ : ∃ p, p = hasB xs (1000 + r) := ⟨_, rfl⟩
              rw [← hp] at CA
              have HP := Lib.hid hp
              clear hp
              go_wp2_with fail
              refine CA.out.mono ?_
              rintro e w18 ⟨rfl, g18⟩
              have HR18 := Lib.hid (HR17.out.after g18)
              have CQ := Lib.hid (cHasYear_impl (some ⟨g', 0, none⟩) k' c' ys (1000 + r) w18 (by omega) (HR18.out.s2.more (Nat.le_of_lt HR18.out.lt)))
              rw [hasV_ok HQY.out] at CQ
              obtain ⟨q, hq⟩ : ∃ q, q = hasB ys (1000 + r) := ⟨_, rfl⟩
              rw [← hq] at CQ
              have HQ := Lib.hid hq
              clear hq CA g18 HR17
              go_wp2_with fail
              refine CQ.out.mono ?_
              rintro e w19 ⟨rfl, g19⟩
              have HR19 := Lib.hid (HR18.out.after g19)
              clear g19 CQ HR18
              cases p <;> cases q
              all_goals
                go_wp2_with fail
                first
                  | (have no := NU3.out
                     have HR20 := HR19)
                  | (have CU := Lib.hid (cHasYear_impl C2 us.length c2 us (1000 + r) w19 (by omega) (HR19.out.s3.more (Nat.le_of_lt HR19.out.lt)))
                     have e := set_has HUP.out (1000 + r) (by omega) (by omega)
                     simp [askB, ← HP.out, ← HQ.out] at e
                     rw [hasV_ok HYU.out, e] at CU
                     clear e
                     refine CU.out.mono ?_
                     rintro e w20 ⟨rfl, g20⟩
                     have HR20 := Lib.hid (HR19.out.after g20)
                     clear g20 CU
                     go_wp2_with fail)
                first
                  | (have no := NW3.out
                     have HR21 := HR20)
                  | (have CU := Lib.hid (cHasYear_impl C4 ws.length c4 ws (1000 + r) _ (by omega) (HR20.out.s4.more (Nat.le_of_lt HR20.out.lt)))
                     have e := set_has HWP.out (1000 + r) (by omega) (by omega)
                     simp [askB, ← HP.out, ← HQ.out] at e
                     rw [hasV_ok HYW.out, e] at CU
                     clear e
                     refine CU.out.mono ?_
                     rintro e w21 ⟨rfl, g21⟩
                     have HR21 := Lib.hid (HR20.out.after g21)
                     clear g21 CU
                     go_wp2_with fail)
                go_roundw
                case rel => exact ⟨m + 1, by go_num, HR21⟩
                case measure => simp [intOf]; omega
            · have z0 : decide ((m : Int) < 6) = false := decide_eq_false (by omega)
              first
                | (have no := NU3.out
                   go_wp2_with fail
                   go_ret
                   exact ⟨rfl, HR.out.below⟩)
                | (have no := NW3.out
                   go_wp2_with fail
                   go_ret
                   exact ⟨rfl, HR.out.below⟩)
                | (have hsum := cnt_union (years_sep HQY.out) HUP.out HWP.out
                   have bu := cnt_take_bd HYU.out us.length
                   have bw := cnt_take_bd HYW.out ws.length
                   have by_ := cnt_take_bd HQY.out ys.length
                   rw [List.take_length] at bu bw by_
                   have C1 := Lib.hid (fun V hV => cCount_impl C2 us.length c2 us V (by omega) hV)
                   have C2' := Lib.hid (fun V hV => cCount_impl C4 ws.length c4 ws V (by omega) hV)
                   have C3' := Lib.hid (fun V hV => cCount_impl (some ⟨g', 0, none⟩) k' c' ys V (by omega) hV)
                   rw [cntV_ok HYU.out] at C1
                   rw [cntV_ok HYW.out] at C2'
                   rw [cntV_ok HQY.out] at C3'
                   obtain ⟨nu, hnu⟩ : ∃ n : Int, n = cntS us := ⟨_, rfl⟩
                   obtain ⟨nw, hnw⟩ : ∃ n : Int, n = cntS ws := ⟨_, rfl⟩
                   obtain ⟨ny, hny⟩ : ∃ n : Int, n = cntS ys := ⟨_, rfl⟩
                   rw [← hnu] at C1 hsum bu
                   rw [← hnw] at C2' hsum bw
                   rw [← hny] at C3' hsum by_
                   clear hnu hnw hny
                   go_wp2_with fail
                   refine (C1.out _ (HR.out.s3.more (Nat.le_of_lt HR.out.lt))).mono ?_
                   rintro e w17 ⟨rfl, g17⟩
                   have HR17 := Lib.hid (HR.out.after g17)
                   clear g17 C1
                   go_wp2_with fail
                   refine (C2'.out _ (HR17.out.s4.more (Nat.le_of_lt HR17.out.lt))).mono ?_
                   rintro e w18 ⟨rfl, g18⟩
                   have HR18 := Lib.hid (HR17.out.after g18)
                   clear g18 C2'
                   go_wp2_with fail
                   refine (C3'.out _ (HR18.out.s2.more (Nat.le_of_lt HR18.out.lt))).mono ?_
                   rintro e w19 ⟨rfl, g19⟩
                   have HR19 := Lib.hid (HR18.out.after g19)
                   clear g19 C3'
                   subst hsum
                   go_wp2_with fail
                   go_ret
                   exact ⟨rfl, HR19.out.below⟩)
end Go.Proofs.Ythlajgkelggnkaa
