/-
  The contract of spec.ReadName.
-/
import Derived.Test.YthlilfdndpnbkaaGreatDoorRd9
namespace Go.Proofs.YthlilfdndpnbkaaGreatDoor
set_option linter.unusedVariables false
open Go.RowKit

theorem vB_numB {s : ByteArray} (h : vB s = true) : numB ((vN s : Nat) : Int) = s := by
  rw [numB_pos _ (by omega)]; simpa using vB_num h
theorem numB_vB {s : ByteArray} {v : Int} (h0 : 0 ≤ v) (h2 : v ≤ 2) (h : numB v = s) : vB s = true := by
  rw [numB_pos _ (by omega)] at h
  rw [← h]; exact (vB_dec v.toNat (by omega)).1

set_option maxHeartbeats 8000000 in
set_option maxRecDepth 100000 in
theorem cRd_spec (s : ByteArray) (w : World) (hs : s.size ≤ 1048576) :
    Calls Tryz.prog 12 #[.string s] w fun e w' => e = .returned (.tuple #[nmA (rdF s), .int .i64 (rdC s)]) ∧ Below w.heap.size w w' := by
  have CS := Lib.hid (fun W => cSplit 47 47 rfl s W (by omega))
  have hps : ∀ p ∈ piecesB 47 s, p.size ≤ 1048576 := fun p hp => Nat.le_trans (piece_sz9 47 _ s p hp) hs
  have CV := Lib.hid (fun x (hx : x.size ≤ 1048576) W => cValue x W (by omega))
  have CR := Lib.hid (fun d x y c (hx : d.size ≤ 1048576) hcase W => cRS_spec d x y c W (by omega) hcase)
  have CI := Lib.hid (fun (m : Nm) W (h1 : m.t.size ≤ 1048576) (h2 : m.l.size ≤ 1048576) => cIsName_spec m W (by omega) (by unfold maxLen; omega))
  have CT := Lib.hid (fun (m : Nm) W (h1 : m.t.size ≤ 1048576) (h2 : m.l.size ≤ 1048576) h => cL09Text m W h1 h2 h)
  have HF4 : Hid (∀ n : Nm, nmB n = true → ntB n = s → (piecesB 47 s).length = 4) := Lib.hid (fun n h1 h2 => rd_four h1 h2)
  obtain ⟨ps, hpe⟩ : ∃ ps, ps = piecesB 47 s := ⟨_, rfl⟩
  have HPE := Lib.hid hpe
  have hmax := pieces_len 47 s
  have hpos := pieces_pos 47 s
  rw [← hpe] at hps CS HF4 hmax hpos
  clear hpe
  have HS := Lib.hid hps
  obtain ⟨n, hn⟩ : ∃ n, n = ps.length := ⟨_, rfl⟩
  have HN := Lib.hid hn
  rw [← hn] at CS HF4 hmax hpos
  clear hps hn
  obtain ⟨W0, hW0⟩ : ∃ W0, W0 = w.alloc (.cells #[.string ⟨#[]⟩, .string ⟨#[]⟩, .int .i64 0, .int .i64 0, .int .i64 0] 27) := ⟨_, rfl⟩
  have hb0 : Below w.heap.size w W0 := by rw [hW0]; exact (Below.refl w.heap.size w).alloc (Nat.le_refl _) _
  have K0 : NRes W0 w.heap.size := by rw [hW0]; exact NRes.new w
  have HW0 := Lib.hid hW0
  have HB0 := Lib.hid hb0
  have HR0 := Lib.hid K0
  clear hW0 K0 hb0
  go_enter Tryz.func12, Tryz.ntmps12
  go_wp2_with fail
  rw [← HW0.out]
  refine (CS.out W0).mono ?_
  rintro e w1 ⟨rv, rfl, hown, g1⟩
  have hb1 := bstep9 HB0.out HB0.out.size g1
  have HR1 := Lib.hid (HR0.out.below g1)
  obtain ⟨g, cp, rfl, _, hgl⟩ := World.ownsRow.form hown hpos
  have HO := Lib.hid hown
  clear hown g1
  by_cases h4 : n = 4
  rotate_left
  · have hm := rd_miss (s := s) (fun m h1 h2 => h4 (HF4.out m h1 h2))
    have HM1 := Lib.hid hm.1
    have HM2 := Lib.hid hm.2
    have z1 : ((n : Int) != 4) = true := by simp; omega
    obtain ⟨lB, ⟨a0, a1, a2, a3, a4⟩, fB⟩ := HR1.out
    clear hm h4
    go_wp2_with fail
    refine bodyPost_ret (v := .tuple #[.agg #[.string ⟨#[]⟩, .string ⟨#[]⟩, .int .i64 0, .int .i64 0, .int .i64 0], .int .i64 6]) ?_ rfl ⟨by rw [HM1.out, HM2.out]; rfl, setR5 hb1 (Nat.le_refl _) _ _ _ _ _⟩
    simp [results, Tryz.results12, go_sem, a0, a1, a2, a3, a4]
  · subst h4
    obtain ⟨a, b, c, d, hQ⟩ : ∃ a b c d, ps = [a, b, c, d] := by
      match ps, HN.out with
      | [a, b, c, d], _ => exact ⟨a, b, c, d, rfl⟩
    subst hQ
    have HP := Lib.hid HPE.out.symm
    have sa := HS.out a (by simp)
    have sb := HS.out b (by simp)
    have sc := HS.out c (by simp)
    have sd := HS.out d (by simp)
    have k0 : w1.cell? ⟨g, 0, none⟩ = some (.string a) := World.ownsRow.cellAt HO.out 0 (by simp)
    have k1 : w1.cell? ⟨g, 1, none⟩ = some (.string b) := World.ownsRow.cellAt HO.out 1 (by simp)
    have k2 : w1.cell? ⟨g, 2, none⟩ = some (.string c) := World.ownsRow.cellAt HO.out 2 (by simp)
    have k3 : w1.cell? ⟨g, 3, none⟩ = some (.string d) := World.ownsRow.cellAt HO.out 3 (by simp)
    have KC : Hid (∀ W, Below w1.heap.size w1 W → W.cell? ⟨g, 0, none⟩ = some (.string a) ∧ W.cell? ⟨g, 1, none⟩ = some (.string b) ∧ W.cell? ⟨g, 2, none⟩ = some (.string c) ∧ W.cell? ⟨g, 3, none⟩ = some (.string d)) := Lib.hid (fun W hW =>
      ⟨(hW.cell (p := ⟨g, 0, none⟩) hgl).trans k0, (hW.cell (p := ⟨g, 1, none⟩) hgl).trans k1, (hW.cell (p := ⟨g, 2, none⟩) hgl).trans k2, (hW.cell (p := ⟨g, 3, none⟩) hgl).trans k3⟩)
    obtain ⟨x, y, cd, hcase⟩ := rs_case d
    have C1 := Lib.hid (CV.out c sc)
    have C2 := Lib.hid (CR.out d x y cd sd hcase)
    have HB1 := Lib.hid hb1
    unfold rsV at C2
    obtain ⟨q, hqv⟩ : ∃ q : Int, q = ((vN c : Nat) : Int) := ⟨_, rfl⟩
    rw [← hqv] at C1
    obtain ⟨vb, hvb⟩ : ∃ vb, vb = vB c := ⟨_, rfl⟩
    rw [← hvb] at C1
    have C3 := Lib.hid (fun W => CI.out ⟨a, b, q, x, y⟩ W sa sb)
    have C4 := Lib.hid (fun W h => CT.out ⟨a, b, q, x, y⟩ W sa sb h)
    have HQV := Lib.hid hqv
    have HVB := Lib.hid hvb
    have HCA := Lib.hid hcase
    clear k0 k1 k3 hb1 HN HS HF4 hqv hvb hcase HO
    go_wp2_with fail
    refine (C1.out _).mono ?_
    rintro e w2 ⟨rfl, g2⟩
    obtain ⟨_, _, _, q3⟩ := KC.out w2 g2
    have hb2 := bstep9 HB1.out HB1.out.size g2
    clear k2
    go_wp2_with fail
    refine (C2.out _).mono ?_
    rintro e w3 ⟨rfl, g3⟩
    have hb3 := bstep9 hb2 hb2.size g3
    have g13 := bstep9 g2 g2.size g3
    have gb := (Below.refl w3.heap.size w3).alloc (Nat.le_refl _) (.cells #[.int .i64 x, .int .i64 y] 25)
    have hb4 := bstep9 hb3 hb3.size gb
    have g14 := bstep9 g13 g13.size gb
    have HR4 := Lib.hid ((HR1.out.below g13).below gb)
    obtain ⟨q0, q1, _, _⟩ := KC.out w3 g13
    obtain ⟨r0, r1, _, _⟩ := KC.out _ g14
    have HB4 := Lib.hid hb4
    clear g2 g3 hb2 q3 g13 gb hb3 hb4
    have s0 : (w3.alloc (.cells #[.int .i64 x, .int .i64 y] 25)).cell? ⟨w3.heap.size, 0, none⟩ = some (.int .i64 x) := World.cell?_alloc_at _ _ _ _ rfl
    have s1 : (w3.alloc (.cells #[.int .i64 x, .int .i64 y] 25)).cell? ⟨w3.heap.size, 1, none⟩ = some (.int .i64 y) := World.cell?_alloc_at _ _ _ _ rfl
    have gz := (Below.refl (w3.alloc (.cells #[.int .i64 x, .int .i64 y] 25)).heap.size (w3.alloc (.cells #[.int .i64 x, .int .i64 y] 25))).alloc (Nat.le_refl _) (.cells #[.string ⟨#[]⟩, .string ⟨#[]⟩, .int .i64 0, .int .i64 0, .int .i64 0] 27)
    obtain ⟨p0, p1, _, _⟩ := KC.out _ (bstep9 g14 g14.size gz)
    have t0 := (gz.cell (p := ⟨w3.heap.size, 0, none⟩) (by simp)).trans s0
    have t1 := (gz.cell (p := ⟨w3.heap.size, 1, none⟩) (by simp)).trans s1
    clear gz g14
    go_wp2_with fail
    go_region
    obtain ⟨W6, hW6⟩ : ∃ W6, W6 = ((w3.alloc (.cells #[.int .i64 x, .int .i64 y] 25)).alloc (.cells #[.string a, .string b, .int .i64 q, .int .i64 x, .int .i64 y] 27)).drew := ⟨_, rfl⟩
    rw [← hW6]
    have hb6 : Below w.heap.size w W6 := by rw [hW6]; exact (HB4.out.alloc HB4.out.size _).drew
    have g6 : Below (w3.alloc (.cells #[.int .i64 x, .int .i64 y] 25)).heap.size (w3.alloc (.cells #[.int .i64 x, .int .i64 y] 25)) W6 := by rw [hW6]; exact ((Below.refl _ _).alloc (Nat.le_refl _) _).drew
    have KM : NmCell W6 (w3.heap.size + 1) 0 ⟨a, b, q, x, y⟩ := by
      have h1 := nm_new (w3.alloc (.cells #[.int .i64 x, .int .i64 y] 25)) ⟨a, b, q, x, y⟩ 27
      rw [World.size_alloc] at h1
      rw [hW6]; exact h1
    have lM : w3.heap.size + 1 < W6.heap.size := by rw [hW6]; show _ < (World.alloc _ _).heap.size; simp
    have HR6 := Lib.hid (HR4.out.below g6)
    have HKM := Lib.hid KM
    have HB6 := Lib.hid hb6
    obtain ⟨m0, m1, m2, m3, m4⟩ : W6.cell? ⟨w3.heap.size + 1, 0, none⟩ = some (.string a) ∧ W6.cell? ⟨w3.heap.size + 1, 1, none⟩ = some (.string b) ∧ W6.cell? ⟨w3.heap.size + 1, 2, none⟩ = some (.int .i64 q) ∧ W6.cell? ⟨w3.heap.size + 1, 3, none⟩ = some (.int .i64 x) ∧ W6.cell? ⟨w3.heap.size + 1, 4, none⟩ = some (.int .i64 y) := KM
    obtain ⟨lB, ⟨a0, a1, a2, a3, a4⟩, fB⟩ := HR6.out
    clear hW6 hb6 g6 s0 s1 t0 t1 p0 p1 r0 r1 q0 q1
    cases vb
    · have hm := rd_miss (s := s) (fun n h1 h2 => by
        obtain ⟨_, _, e3, _⟩ := rd_parts HP.out h1 h2
        obtain ⟨_, _, p1, p2, _⟩ := nm_parts h1
        have := numB_vB p1 p2 e3
        rw [← HVB.out] at this; cases this)
      have HM1 := Lib.hid hm.1
      have HM2 := Lib.hid hm.2
      clear hm
      go_wp2_with fail
      refine bodyPost_ret (v := .tuple #[.agg #[.string ⟨#[]⟩, .string ⟨#[]⟩, .int .i64 0, .int .i64 0, .int .i64 0], .int .i64 6]) ?_ rfl ⟨by rw [HM1.out, HM2.out]; rfl, setR5 HB6.out (Nat.le_refl _) _ _ _ _ _⟩
      simp [results, Tryz.results12, go_sem, a0, a1, a2, a3, a4]
    rcases HCA.out with ⟨hd, hxy, rfl⟩ | ⟨hno, rfl, rfl, rfl⟩
    rotate_left
    · have hm := rd_miss (s := s) (fun n h1 h2 => by
        obtain ⟨_, _, _, e4⟩ := rd_parts HP.out h1 h2
        exact hno n.f n.u (nm_sp9 h1) e4.symm)
      have HM1 := Lib.hid hm.1
      have HM2 := Lib.hid hm.2
      clear hm hno HCA
      go_wp2_with fail
      refine bodyPost_ret (v := .tuple #[.agg #[.string ⟨#[]⟩, .string ⟨#[]⟩, .int .i64 0, .int .i64 0, .int .i64 0], .int .i64 6]) ?_ rfl ⟨by rw [HM1.out, HM2.out]; rfl, setR5 HB6.out (Nat.le_refl _) _ _ _ _ _⟩
      simp [results, Tryz.results12, go_sem, a0, a1, a2, a3, a4]
    · have hv1 : numB q = c := by rw [HQV.out]; exact vB_numB HVB.out.symm
      have hv2 : -9223372036854775808 ≤ q ∧ q ≤ 9223372036854775807 := by rw [HQV.out]; have := vN_le c; omega
      have HSM := Lib.hid (fun (n : Nm) h1 h2 => rd_same (n := n) HP.out hv1 hv2 hd hxy h1 h2)
      have HNT : Hid (ntB ⟨a, b, q, x, y⟩ = s) := Lib.hid (by
        rw [nt_join HP.out]; unfold ntB; dsimp only; rw [hv1, hd])
      clear hv1 hv2 hd hxy HCA
      cases hnb : nmB ⟨a, b, q, x, y⟩
      · have hm := rd_miss (s := s) (fun n h1 h2 => by
          rw [HSM.out n h1 h2, hnb] at h1; cases h1)
        have HM1 := Lib.hid hm.1
        have HM2 := Lib.hid hm.2
        rw [hnb] at C3
        clear hm hnb a0 a1 a2 a3 a4 fB lB
        go_wp2_with fail
        refine (C3.out _).mono ?_
        rintro e w7 ⟨rfl, g7⟩
        have hb7 := bstep9 HB6.out HB6.out.size g7
        obtain ⟨lB, ⟨a0, a1, a2, a3, a4⟩, fB⟩ := HR6.out.below g7
        clear g7 m0 m1 m2 m3 m4
        go_wp2_with fail
        refine bodyPost_ret (v := .tuple #[.agg #[.string ⟨#[]⟩, .string ⟨#[]⟩, .int .i64 0, .int .i64 0, .int .i64 0], .int .i64 6]) ?_ rfl ⟨by rw [HM1.out, HM2.out]; rfl, setR5 hb7 (Nat.le_refl _) _ _ _ _ _⟩
        simp [results, Tryz.results12, go_sem, a0, a1, a2, a3, a4]
      · have hm := rd_hit hnb HNT.out
        have HM1 := Lib.hid hm.1
        have HM2 := Lib.hid hm.2
        have C5 := Lib.hid (fun W => C4.out W hnb)
        rw [HNT.out] at C5
        rw [hnb] at C3
        have zs : (s.toList != s.toList) = false := by simp
        clear hm hnb a0 a1 a2 a3 a4 fB lB C4 HNT
        go_wp2_with fail
        refine (C3.out _).mono ?_
        rintro e w7 ⟨rfl, g7⟩
        have hb7 := bstep9 HB6.out HB6.out.size g7
        have KM7 := HKM.out.below g7 lM
        have HR7 := Lib.hid (HR6.out.below g7)
        have lM7 := Nat.lt_of_lt_of_le lM g7.size
        have HKM7 := Lib.hid KM7
        obtain ⟨n0, n1, n2, n3, n4⟩ : w7.cell? ⟨w3.heap.size + 1, 0, none⟩ = some (.string a) ∧ w7.cell? ⟨w3.heap.size + 1, 1, none⟩ = some (.string b) ∧ w7.cell? ⟨w3.heap.size + 1, 2, none⟩ = some (.int .i64 q) ∧ w7.cell? ⟨w3.heap.size + 1, 3, none⟩ = some (.int .i64 x) ∧ w7.cell? ⟨w3.heap.size + 1, 4, none⟩ = some (.int .i64 y) := KM7
        clear g7 m0 m1 m2 m3 m4
        go_wp2_with fail
        refine (C5.out _).mono ?_
        rintro e w8 ⟨rfl, g8⟩
        have hb8 := bstep9 hb7 hb7.size g8
        have KM8 := HKM7.out.below g8 lM7
        obtain ⟨o0, o1, o2, o3, o4⟩ : w8.cell? ⟨w3.heap.size + 1, 0, none⟩ = some (.string a) ∧ w8.cell? ⟨w3.heap.size + 1, 1, none⟩ = some (.string b) ∧ w8.cell? ⟨w3.heap.size + 1, 2, none⟩ = some (.int .i64 q) ∧ w8.cell? ⟨w3.heap.size + 1, 3, none⟩ = some (.int .i64 x) ∧ w8.cell? ⟨w3.heap.size + 1, 4, none⟩ = some (.int .i64 y) := KM8
        obtain ⟨lB, ⟨a0, a1, a2, a3, a4⟩, fB⟩ := HR7.out.below g8
        clear g8 n0 n1 n2 n3 n4
        go_wp2_with fail
        refine bodyPost_ret (v := .tuple #[.agg #[.string a, .string b, .int .i64 q, .int .i64 x, .int .i64 y], .int .i64 0]) ?_ rfl ⟨by rw [HM1.out, HM2.out], setR5 hb8 (Nat.le_refl _) _ _ _ _ _⟩
        simp [results, Tryz.results12, go_sem, a0, a1, a2, a3, a4]
end Go.Proofs.YthlilfdndpnbkaaGreatDoor
