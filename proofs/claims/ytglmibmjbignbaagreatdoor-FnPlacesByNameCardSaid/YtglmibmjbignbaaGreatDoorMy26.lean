/-
  The contract of spec.l11Has.
-/
import Derived.Test.YtglmibmjbignbaaGreatDoorMy22
import Derived.Test.YtglmibmjbignbaaGreatDoorMy25
import Derived.Test.YtglmibmjbignbaaGreatDoorMy6
import Derived.Test.YtglmibmjbignbaaGreatDoorMy11
import Derived.Test.YtglmibmjbignbaaGreatDoorMy5
import Derived.Test.YtglmibmjbignbaaGreatDoorMy24
import Derived.Test.YtglmibmjbignbaaGreatDoorMy23
import Derived.Test.YtglmibmjbignbaaGreatDoorMy8
import Derived.Test.YtglmibmjbignbaaGreatDoorPlFS
import Derived.Lib.SliceRun
namespace Go.Proofs.YtglmibmjbignbaaGreatDoor
section
set_option linter.unusedVariables false
open Go.RowKit

set_option maxHeartbeats 4000000 in
set_option maxRecDepth 100000 in
theorem cL11Has (p : Pl) (A : Option Addr) (d : Nat) (t : ByteArray) (y : Int) (w : World) (hb : p.ns.length ≤ 1048576) (h : NmAt w w.heap.size A p.ns.length p.ns) :
    Calls Tryz.prog 78 #[plv11 p A d, .string t, .int .i64 y] w fun e w' => e = .returned (.bool (hasT11 p.ns y t)) ∧ Below w.heap.size w w' := by
  unfold plv11
  obtain ⟨W0, hW0⟩ : ∃ W0 : World, W0 = w.alloc (.cells #[.string p.c, .int .i64 p.k, .int .i64 p.f, .int .i64 p.u, .slice A p.ns.length d] 29) := ⟨_, rfl⟩
  have hA : Below w.heap.size w W0 := by rw [hW0]; exact below_alloc11 _ _
  have HA := Lib.hid hA
  have HX : Hid (Bx W0 w.heap.size [.string p.c, .int .i64 p.k, .int .i64 p.f, .int .i64 p.u, .slice A p.ns.length d]) := Lib.hid (by rw [hW0]; exact Bx.new w _ _)
  have hn := h.grow hA
  have CU := Lib.hid (cL09Used A p.ns.length d p.ns y W0 hb hn)
  have H := Lib.hid hn
  have HW0 := Lib.hid hW0
  have f0 := HX.out.five.2.2.2.2.1
  clear h hA hn hW0
  go_enter Tryz.func78, Tryz.ntmps78
  go_wp2_with fail
  rw [← HW0.out]
  refine CU.out.mono ?_
  rintro e w1 ⟨U, m, du, rfl, hown, hb1⟩
  have hU := own_num hown
  have HM : Hid (m = (usP p.ns y p.ns.length).length) := Lib.hid hU.1
  have hm9 : m ≤ 1048576 := by have h1 := hU.1; have h2 := usP_len p.ns y p.ns.length; omega
  have HU := Lib.hid hU
  have HME : Hid (∀ (j : Nat) v, (usP p.ns y p.ns.length)[j]? = some v → ∃ (i : Nat) (x : Nm), v = (i : Int) ∧ i < p.ns.length ∧ p.ns[i]? = some x ∧ usB x y = true) := Lib.hid (fun j v hj => by
    obtain ⟨i, x, h1, h2, h3⟩ := usP_mem p.ns y p.ns.length v (List.mem_of_getElem? hj)
    exact ⟨i, x, h1, h2, h3⟩)
  have HB1 := Lib.hid hb1
  obtain ⟨u, hu⟩ : ∃ u, u = usP p.ns y p.ns.length := ⟨_, rfl⟩
  rw [← hu] at HM HU HME
  have HUU := Lib.hid hu
  clear hown hU hb1 hu f0
  go_wp2_with fail
  go_loopw [8] (fun i wr => ∃ k : Nat, k ≤ m ∧ i = .int .i64 k ∧ Hid (∀ (j : Nat) (v : Int) (i : Nat) (x : Nm), j < k → u[j]? = some v → v = ((i : Nat) : Int) → p.ns[i]? = some x → x.t ≠ t) ∧ Below w1.heap.size w1 wr) (fun i _ => m - (intOf i).toNat)
  case atStart => exact ⟨0, Nat.zero_le _, rfl, Lib.hid (fun j v i x hj => by omega), Below.refl _ _⟩
  case round =>
    obtain ⟨k, hk, rfl, HC, hbr⟩ := hrel
    by_cases hlt : k < m
    · obtain ⟨v, hv⟩ : ∃ v, u[k]? = some v := ⟨u[k]'(by have := HM.out; omega), List.getElem?_eq_getElem _⟩
      obtain ⟨i, x, rfl, hi, hx, hus⟩ := HME.out k v hv
      have hbw := bstep9 HB1.out HB1.out.size hbr
      have HR := Lib.hid ((H.out.below hbw (Nat.le_refl _)))
      obtain ⟨b, o, rfl, hbl, c0, c1, c2', c3, c4⟩ := HR.out.row hx
      obtain ⟨b2, o2, rfl, hbl2, d0⟩ := numAt_row9 (HU.out.below hbr (Nat.le_refl _)) hv
      have f4 := (HX.out.next hbw).five.2.2.2.2.1
      have u3 : (0 : Int) ≤ (k : Int) := Int.natCast_nonneg _
      have u4 : (k : Int) < (m : Int) := by omega
      have u5 : (0 : Int) ≤ (i : Int) := Int.natCast_nonneg _
      have u6 : (i : Int) < (p.ns.length : Int) := by omega
      by_cases e : x.t = t
      · have z2 : (x.t.toList == t.toList) = true := by rw [toList_beq]; exact decide_eq_true e
        have HF : Hid (hasT11 p.ns y t = true) := Lib.hid (by rw [← e]; exact has_yes hx hus)
        have HBE := Lib.hid (bstep9 HA.out HA.out.size hbw)
        clear e hx hus hv hbw HC
        go_wp2_with fail
        first | done | (go_quiet (fail); go_wp2_with fail) | skip
        go_ret
        exact ⟨by rw [HF.out]; rfl, by first | exact HBE.out | exact below_drN_r HBE.out _⟩
      · have z2 : (x.t.toList == t.toList) = false := by rw [toList_beq]; exact decide_eq_false e
        have HC2 : Hid (∀ (j : Nat) (v : Int) (i : Nat) (x : Nm), j < k + 1 → u[j]? = some v → v = ((i : Nat) : Int) → p.ns[i]? = some x → x.t ≠ t) := Lib.hid (fun j v i' x' hj hv' hvi hx' => by
          by_cases hjk : j < k
          · exact HC.out j v i' x' hjk hv' hvi hx'
          · obtain rfl : j = k := by omega
            rw [hv] at hv'
            obtain rfl := Option.some.inj hv'
            obtain rfl : i = i' := by omega
            rw [hx] at hx'
            obtain rfl := Option.some.inj hx'
            exact e)
        clear e hx hus hv hbw HC
        go_wp2_with fail
        first | done | (go_quiet (fail); go_wp2_with fail) | skip
        go_roundw
        case rel => exact ⟨k + 1, by omega, by go_num, HC2, by first | exact hbr | exact below_drN_r hbr _⟩
        case measure => simp [intOf]; omega
    · have HF : Hid (hasT11 p.ns y t = false) := Lib.hid (has_no HUU.out (fun j v i x hj hv hx => HC.out j v i x (by have h1 := (List.getElem?_eq_some_iff.1 hj).1; have := HM.out; omega) hj hv hx))
      have HBE := Lib.hid (bstep9 HA.out HA.out.size (bstep9 HB1.out HB1.out.size hbr))
      go_wp2_with fail
      go_ret
      exact ⟨by rw [HF.out]; rfl, HBE.out⟩
end
section
set_option linter.unusedVariables false
open Go.RowKit

theorem nin_step {gs : List ByteArray} {k : Nat} {x y : ByteArray} (h : gs[k]? = some y) (ha : x ∉ gs.take k) (hne : ¬ y = x) : x ∉ gs.take (k + 1) := by
  have hk : k < gs.length := (List.getElem?_eq_some_iff.1 h).1
  have hy : gs[k] = y := (List.getElem?_eq_some_iff.1 h).2
  rw [List.take_succ_eq_append_getElem hk, hy, List.mem_append, List.mem_singleton]
  rintro (h1 | h1)
  · exact ha h1
  · exact hne h1.symm
theorem toList_beqC (a b : ByteArray) : (a.toList == b.toList) = decide (a = b) := by
  by_cases h : a = b
  · simp [h]
  · rw [decide_eq_false h, beq_eq_false_iff_ne]
    intro e
    rw [ByteArray.toList_eq, ByteArray.toList_eq] at e
    exact h (ByteArray.ext (Array.toList_inj.1 e))
set_option maxHeartbeats 1000000 in
theorem cIndexT (A : Option Addr) (n c B : Nat) (gs : List ByteArray) (x : ByteArray) (w : World) (hbig : n ≤ 1048576) (h : TextAt w B A n gs) :
    Calls Tryz.prog 137 #[.slice A n c, .string x] w fun e w' => (((∃ k : Nat, e = .returned (.int .i64 (k : Int))) ∧ x ∈ gs) ∨ (e = .returned (.int .i64 (-1)) ∧ x ∉ gs)) ∧ w = w' := by
  have HL := Lib.hid h.1
  have H := Lib.hid h
  clear h
  go_enter Tryz.func137, Tryz.ntmps137
  go_wp2
  go_loop [5, 8] (fun u i => ∃ (k : Nat) (q : Value), u = q ∧ k ≤ n ∧ i = .int .i64 k ∧ Hid (x ∉ gs.take k)) (fun _ i => n - (intOf i).toNat)
  case atStart => exact ⟨0, _, rfl, Nat.zero_le _, rfl, Lib.hid (by simp)⟩
  case round =>
    obtain ⟨k, q, rfl, hk, rfl, HA⟩ := hrel
    by_cases hlt : k < n
    · obtain ⟨y, hy⟩ : ∃ y, gs[k]? = some y := ⟨gs[k]'(by have := HL.out; omega), List.getElem?_eq_getElem _⟩
      obtain ⟨b, o, rfl, _, hcx⟩ := H.out.row2 hy
      have HY := Lib.hid hy
      have u1 : (0 : Int) ≤ (k : Int) := Int.natCast_nonneg _
      have u2 : (k : Int) < (n : Int) := by omega
      clear hy
      by_cases he : y = x
      · have hd : (x.toList == y.toList) = true := by rw [toList_beqC]; exact decide_eq_true he.symm
        have HR : Hid (x ∈ gs) := Lib.hid (by rw [← he]; exact List.mem_of_getElem? HY.out)
        clear he
        go_wp2
        go_ret
        exact ⟨.inl ⟨⟨k, rfl⟩, HR.out⟩, rfl⟩
      · have hd : (x.toList == y.toList) = false := by rw [toList_beqC]; exact decide_eq_false (fun e => he e.symm)
        have HE := Lib.hid he
        clear he
        go_wp2
        go_round
        case rel => exact ⟨k + 1, _, rfl, by omega, by go_num, Lib.hid (nin_step HY.out HA.out HE.out)⟩
        case measure => simp [intOf]; omega
    · have HR : Hid (x ∉ gs) := Lib.hid (by have h1 := HA.out; rwa [List.take_of_length_le (by have := HL.out; omega)] at h1)
      go_wp2
      go_ret
      exact ⟨.inr ⟨rfl, HR.out⟩, rfl⟩
theorem cContT (A : Option Addr) (n c B : Nat) (gs : List ByteArray) (x : ByteArray) (w : World) (hbig : n ≤ 1048576) (h : TextAt w B A n gs) :
    Calls Tryz.prog 88 #[.slice A n c, .string x] w fun e w' => e = .returned (.bool (decide (x ∈ gs))) ∧ w = w' := by
  have CI := Lib.hid (cIndexT A n c B gs x w hbig h)
  clear h
  go_enter Tryz.func88, Tryz.ntmps88
  go_wp2_with fail
  refine CI.out.mono ?_
  rintro e w' ⟨⟨⟨k, rfl⟩, hm⟩ | ⟨rfl, hm⟩, rfl⟩
  · have HD : Hid (decide (x ∈ gs) = true) := Lib.hid (decide_eq_true hm)
    clear hm
    have hk : decide ((k : Int) < 0) = false := decide_eq_false (by omega)
    have hk2 : decide ((0 : Int) ≤ (k : Int)) = true := decide_eq_true (by omega)
    go_wp2_with fail
    go_ret
    exact ⟨by rw [HD.out]; rfl, rfl⟩
  · have HD : Hid (decide (x ∈ gs) = false) := Lib.hid (decide_eq_false hm)
    clear hm
    go_wp2_with fail
    go_ret
    exact ⟨by rw [HD.out]; rfl, rfl⟩
end
section
set_option linter.unusedVariables false
open Go.RowKit

theorem setU_len (xs : List Nm) (y : Int) (h : xs.length ≤ 1048576) : (setT (txU xs y)).length ≤ 1048576 := by
  have h1 := setT_len (txU xs y); have h2 := txU_len xs y; omega
/-- Three boxes, read in any world of the region. -/
def NmQ (A0 : World) (b ga gb : Nat) (v0 v1 v2 : Value) (W : World) : Prop :=
  W.cell? ⟨b, 0, none⟩ = some v0 ∧ W.cell? ⟨ga, 0, none⟩ = some v1 ∧ W.cell? ⟨gb, 0, none⟩ = some v2 ∧ Below A0.heap.size A0 W ∧ b < A0.heap.size ∧ ga < A0.heap.size ∧ gb < A0.heap.size
theorem NmQ.keep {A0 W W' : World} {b ga gb : Nat} {v0 v1 v2 : Value} (h : NmQ A0 b ga gb v0 v1 v2 W) (hb : Below W.heap.size W W') : NmQ A0 b ga gb v0 v1 v2 W' := by
  obtain ⟨h0, h1, h2, h5, h6, h7, h8⟩ := h
  exact ⟨(hb.cell (p := ⟨b, 0, none⟩) (Nat.lt_of_lt_of_le h6 h5.size)).trans h0, (hb.cell (p := ⟨ga, 0, none⟩) (Nat.lt_of_lt_of_le h7 h5.size)).trans h1, (hb.cell (p := ⟨gb, 0, none⟩) (Nat.lt_of_lt_of_le h8 h5.size)).trans h2, bstep9 h5 h5.size hb, h6, h7, h8⟩
theorem NmQ.get {A0 W : World} {b ga gb : Nat} {v0 v1 v2 : Value} (h : NmQ A0 b ga gb v0 v1 v2 W) : Below A0.heap.size A0 W := h.2.2.2.1
theorem NmQ.start {w W0 : World} {ga gb b : Nat} {v0 v1 v2 : Value} (h0 : W0.cell? ⟨b, 0, none⟩ = some v0) (hl : b < W0.heap.size) (h1 : Bx W0 ga [v1]) (h2 : Bx W0 gb [v2]) : NmQ W0 b ga gb v0 v1 v2 W0.drew :=
  ⟨h0, (h1.2 0 _ rfl).1, (h2.2 0 _ rfl).1, (Below.refl _ _).drew, hl, h1.1, h2.1⟩
set_option maxHeartbeats 1000000 in
theorem cNm1 (p : Pl) (A : Option Addr) (d ga gb : Nat) (y : Int) (t : ByteArray) (w : World) (hb : p.ns.length ≤ 1048576) (hn : NmAt w w.heap.size A p.ns.length p.ns) (hY : Bx w ga [.int .i64 y]) (hT : Bx w gb [.string t]) :
    Calls Tryz.prog 87 #[enA p A d, .pointer (some ⟨ga, 0, none⟩), .pointer (some ⟨gb, 0, none⟩)] w fun e w' => e = .returned (.bool (hasT11 p.ns y t)) ∧ Below w.heap.size w w' := by
  obtain ⟨W0, hW0⟩ : ∃ W0 : World, W0 = w.alloc (.cells #[.slice A p.ns.length d, .string p.c, .int .i64 p.k, .int .i64 p.f, .int .i64 p.u] 87) := ⟨_, rfl⟩
  have hA : Below w.heap.size w W0 := by rw [hW0]; exact below_alloc11 _ _
  have HA := Lib.hid hA
  have hX : Bx W0 w.heap.size [.slice A p.ns.length d, .string p.c, .int .i64 p.k, .int .i64 p.f, .int .i64 p.u] := by rw [hW0]; exact Bx.new w _ _
  have hstart := NmQ.start (w := w) hX.five.1 hX.1 (hY.next hA) (hT.next hA)
  have CT := Lib.hid (fun W (hW : Below W0.heap.size W0 W) => cTexts A p.ns.length d p.ns y W hb ((hn.grow hA).grow hW))
  have HW0 := Lib.hid hW0
  have HS := Lib.hid (setU_len p.ns y hb)
  have HH := Lib.hid (set_has p.ns y t)
  have CC : Hid (∀ B m c B0 W, m ≤ 1048576 → TextAt W B0 B m (setT (txU p.ns y)) → Calls Tryz.prog 88 #[.slice B m c, .string t] W fun e w' => e = .returned (.bool (hasT11 p.ns y t)) ∧ W = w') := Lib.hid (fun B m c B0 W hm hT => by
    have h1 := cContT B m c B0 _ t W hm hT
    rw [HH.out] at h1
    exact h1)
  clear hA hn hY hT hW0 hX
  unfold enA
  obtain ⟨r, hr⟩ : ∃ r, r = hasT11 p.ns y t := ⟨_, rfl⟩
  rw [← hr] at CC ⊢
  clear hr HH
  go_enter Tryz.func87, Tryz.ntmps87
  go_wp2_with fail
  rw [← HW0.out]
  go_cut [4] (fun v wx => v = .bool r ∧ Below W0.heap.size W0 wx)
  case first =>
    go_region_held3 (fun W => W.cell? ⟨w.heap.size, 0, none⟩ = some (.slice A p.ns.length d) ∧ W.cell? ⟨ga, 0, none⟩ = some (.int .i64 y) ∧ W.cell? ⟨gb, 0, none⟩ = some (.string t) ∧ Below W0.heap.size W0 W ∧ w.heap.size < W0.heap.size ∧ ga < W0.heap.size ∧ gb < W0.heap.size)
      (first | (exact hstart) | (exact NmQ.keep (A0 := W0) (by assumption) hba) | assumption)
      (first
        | (go_at_call 75; refine (CT.out _ (NmQ.get (A0 := W0) (show NmQ W0 w.heap.size ga gb (.slice A p.ns.length d) (.int .i64 y) (.string t) _ by assumption))).mono ?_; rintro e wa ⟨B, m, c, rfl, hown, hba⟩; have hta := own_text hown; have hma : m ≤ 1048576 := (by have h1 := hown.1; rw [strV_len] at h1; have := HS.out; omega))
        | (go_at_call 88; refine (CC.out B m c _ _ hma (by first | exact hta | exact hta.drew)).mono ?_; rintro e wb ⟨rfl, rfl⟩))
    all_goals (go_wp2_with fail; go_meet)
    all_goals exact ⟨rfl, NmQ.get (A0 := W0) (show NmQ W0 w.heap.size ga gb (.slice A p.ns.length d) (.int .i64 y) (.string t) _ by assumption)⟩
  case rest =>
    obtain ⟨rfl, hb8⟩ := hcut
    go_wp2_with fail
    go_ret
    exact ⟨rfl, bstep9 HA.out HA.out.size hb8⟩
set_option maxHeartbeats 1000000 in
set_option maxRecDepth 100000 in
theorem cNm_impl (A : Option Addr) (n c : Nat) (ps : List Pl) (t : ByteArray) (y : Int) (w : World) (hb : n ≤ 1048576) (hz : Sz11 ps) (ht : t.size ≤ 1048576) (h : PlAt w w.heap.size A n ps) (hsh : w.ShapedOpen Tryz.prog) (her : Er6 w) :
    Calls Tryz.prog 28 #[.slice A n c, .string t, .int .i64 y] w (OutT11 (pnZ ps t y) (pnC ps t y) w) := by
  have hmf : ∀ (fn : Fn) (first cap : Array Value) (w : World), (Instr.makeFunc fn first cap).run Tryz.prog w = .ok (.func fn first cap) w := fun _ _ _ _ => rfl
  obtain ⟨V1, hV1⟩ : ∃ V1 : World, V1 = w.alloc (.cells #[.string t] 9) := ⟨_, rfl⟩
  obtain ⟨V2, hV2⟩ : ∃ V2 : World, V2 = V1.alloc (.cells #[.int .i64 y] 2) := ⟨_, rfl⟩
  have h1 : Below w.heap.size w V1 := by rw [hV1]; exact below_alloc11 _ _
  have h2 : Below V1.heap.size V1 V2 := by rw [hV2]; exact below_alloc11 _ _
  have h12 := bstep9 h1 h1.size h2
  have HB := Lib.hid h12
  have HT : Hid (Bx V2 w.heap.size [.string t]) := Lib.hid ((by rw [hV1]; exact Bx.new w #[.string t] 9 : Bx V1 w.heap.size [.string t]).next h2)
  have HY : Hid (Bx V2 V1.heap.size [.int .i64 y]) := Lib.hid (by rw [hV2]; exact Bx.new V1 #[.int .i64 y] 2)
  have CP := Lib.hid (cIsPhrase_impl t V2 (by omega) (shaped_below hsh h12))
  have CK := Lib.hid (fun W (hW : Below V2.heap.size V2 W) => cChkReg A n c ps y W hb hz (h.grow (bstep9 h12 h12.size hW)) (shaped_below hsh (bstep9 h12 h12.size hW)) (her.below (bstep9 h12 h12.size hW)))
  have CW := Lib.hid (fun W (hW : Below V2.heap.size V2 W) => cWhereNm A n c ps V1.heap.size w.heap.size (fun p => hasT11 p.ns y t) W hb (h.grow (bstep9 h12 h12.size hW)) (fun p hp A d V hV hn _ => cNm1 p A d V1.heap.size w.heap.size y t V (hz p hp).2.1 hn ((HY.out.next hW).next hV) ((HT.out.next hW).next hV)))
  have hs1 : V1.heap.size = w.heap.size + 1 := by rw [hV1]; simp
  rw [hs1] at HY CW
  have HV1 := Lib.hid hV1
  have HV2 := Lib.hid hV2
  have k0 := (HT.out.2 0 _ rfl).1
  clear hs1
  clear h hsh her hz h1 h2 h12 hV1 hV2
  rcases pn_cases ps t y with ⟨e1, e2, e3⟩ | ⟨e1, e2, e3, e4⟩ | ⟨e1, e2, e3, e4⟩
  · rw [e2, e3]
    rw [e1] at CP
    clear e1 e2 e3 CW CK
    go_enter Tryz.func28, Tryz.ntmps28
    go_wp2_with fail
    rw [← HV1.out, ← HV2.out]
    go_wp2_with fail
    refine CP.out.mono ?_
    rintro e w1 ⟨rfl, g1⟩
    have hbt := bstep9 HB.out HB.out.size g1
    clear g1
    go_wp2_with fail
    go_ret2
    exact ⟨none, 0, 0, rfl, World.ownsRow_nil _ _ _ _, hbt⟩
  · rw [e3, e4]
    rw [e1] at CP
    obtain ⟨q, hq⟩ : ∃ q, q = pyC ps y := ⟨_, rfl⟩
    rw [← hq] at CK e2 ⊢
    have hd : (q != 0) = true := by simp [e2]
    clear e1 e2 e3 e4 hq CW
    go_enter Tryz.func28, Tryz.ntmps28
    go_wp2_with fail
    rw [← HV1.out, ← HV2.out]
    go_wp2_with fail
    refine CP.out.mono ?_
    rintro e w1 ⟨rfl, g1⟩
    have k1 := ((HY.out.next g1).2 0 _ rfl).1
    have hbt := bstep9 HB.out HB.out.size g1
    have CK1 := Lib.hid (CK.out w1 g1)
    clear g1 k0
    go_wp2_with fail
    refine CK1.out.mono ?_
    rintro e w2 ⟨rfl, g2⟩
    have hb2 := bstep9 hbt hbt.size g2
    clear g2
    go_wp2_with fail
    go_ret2
    exact ⟨none, 0, 0, rfl, World.ownsRow_nil _ _ _ _, hb2⟩
  · rw [e3, e4]
    rw [e1] at CP
    rw [e2] at CK
    clear e1 e2 e3 e4
    go_enter Tryz.func28, Tryz.ntmps28
    go_wp2_with fail
    rw [← HV1.out, ← HV2.out]
    go_wp2_with fail
    refine CP.out.mono ?_
    rintro e w1 ⟨rfl, g1⟩
    have k1 := ((HY.out.next g1).2 0 _ rfl).1
    have hbt := bstep9 HB.out HB.out.size g1
    have CK1 := Lib.hid (CK.out w1 g1)
    have HG1 := Lib.hid g1
    clear g1 k0
    go_wp2_with fail
    refine CK1.out.mono ?_
    rintro e w2 ⟨rfl, g2⟩
    have hb2 := bstep9 hbt hbt.size g2
    have CW1 := Lib.hid (CW.out w2 (bstep9 HG1.out HG1.out.size g2))
    clear g2 k1
    go_wp2_with fail
    refine CW1.out.mono ?_
    rintro e w3 ⟨B, m, d, rfl, hown, g3⟩
    have hb3 := bstep9 hb2 hb2.size g3
    have HO := Lib.hid (World.ownsRow.mono hown hb2.size)
    clear hown g3
    go_wp2_with fail
    go_ret2
    exact ⟨B, m, d, rfl, HO.out, hb3⟩
end
section
set_option linter.unusedVariables false
open Go.RowKit

set_option maxHeartbeats 2000000 in
set_option maxRecDepth 100000 in
theorem cNm_spec (A : Option Addr) (n c : Nat) (ps : List Pl) (t : ByteArray) (y : Int) (w : World) (hb : n ≤ 1048576) (hz : Sz11 ps) (ht : t.size ≤ 1048576) (h : PlAt w w.heap.size A n ps) :
    Calls Tryz.prog 31 #[.slice A n c, .string t, .int .i64 y] w (OutT11 (pnZ ps t y) (pnC ps t y) w) := by
  obtain ⟨i0, hi0, hz0, hz1, hz2⟩ := info_parts info_strW
  have CP := Lib.hid (cIsPhrase_spec t w (by omega))
  have CK := Lib.hid (fun W (hW : Below w.heap.size w W) => cL11Year A n c ps y W hb hz (h.grow hW))
  have CE := Lib.hid (fun p (hp : p ∈ ps) A d W (hn : NmAt W W.heap.size A p.ns.length p.ns) => cL11Has p A d t y W (hz p hp).2.1 hn)
  have H := Lib.hid h
  have HN := Lib.hid h.1
  clear h hz
  rcases pn_cases ps t y with ⟨e1, e2, e3⟩ | ⟨e1, e2, e3, e4⟩ | ⟨e1, e2, e3, e4⟩
  · rw [e2, e3]
    rw [e1] at CP
    clear e1 e2 e3 CE CK
    go_enter Tryz.func31, Tryz.ntmps31
    go_wp2_with fail
    refine CP.out.mono ?_
    rintro e w1 ⟨rfl, g1⟩
    go_wp2_with fail
    go_ret2
    exact ⟨none, 0, 0, rfl, World.ownsRow_nil _ _ _ _, g1⟩
  · rw [e3, e4]
    rw [e1] at CP
    obtain ⟨q, hq⟩ : ∃ q, q = pyC ps y := ⟨_, rfl⟩
    rw [← hq] at CK e2 ⊢
    have hd : (q != 0) = true := by simp [e2]
    clear e1 e2 e3 e4 hq CE
    go_enter Tryz.func31, Tryz.ntmps31
    go_wp2_with fail
    refine CP.out.mono ?_
    rintro e w1 ⟨rfl, g1⟩
    have CK1 := Lib.hid (CK.out w1 g1)
    go_wp2_with fail
    refine CK1.out.mono ?_
    rintro e w2 ⟨rfl, g2⟩
    have hb2 := bstep9 g1 g1.size g2
    go_wp2_with fail
    go_ret2
    exact ⟨none, 0, 0, rfl, World.ownsRow_nil _ _ _ _, hb2⟩
  rw [e3, e4]
  rw [e1] at CP
  rw [e2] at CK
  clear e1 e2 e3 e4
  go_enter Tryz.func31, Tryz.ntmps31
  go_wp2_with fail
  refine CP.out.mono ?_
  rintro e w1 ⟨rfl, g1⟩
  have CK1 := Lib.hid (CK.out w1 g1)
  go_wp2_with fail
  refine CK1.out.mono ?_
  rintro e w2 ⟨rfl, g2⟩
  have hbt := bstep9 g1 g1.size g2
  have HO0 := Lib.hid (World.ownsRow_lit (e := 9) (base := w.heap.size) (size := 1) w2 #[] 0 hbt.size (by decide) rfl)
  have hb1a := hbt.alloc hbt.size (.cells #[] 9)
  clear g1 g2 CK1 CK CP
  go_wp2_with fail
  go_loopw [9, 10] (fun o i wr => ∃ (k m d : Nat) (B : Option Addr), k ≤ n ∧ i = .int .i64 k ∧ o = .slice B m d ∧ Hid (m ≤ k) ∧ Hid (wr.ownsRow w.heap.size 9 1 (.slice B m d) m (strV (cdZ (fun p => hasT11 p.ns y t) (ps.take k)))) ∧ Below w.heap.size w wr) (fun _ i _ => n - (intOf i).toNat)
  case atStart => exact ⟨0, 0, 0, _, Nat.zero_le _, rfl, rfl, Lib.hid (Nat.le_refl _), HO0, hb1a⟩
  case round =>
    clear HO0 hb1a hbt
    obtain ⟨k, m, d, B, hk, rfl, rfl, HM, HO, hbw⟩ := hrel
    by_cases hlt : k < n
    · obtain ⟨p, hp⟩ : ∃ p, ps[k]? = some p := ⟨ps[k]'(by have := HN.out; omega), List.getElem?_eq_getElem _⟩
      have HRR := Lib.hid ((H.out.below hbw (Nat.le_refl _)).row hp)
      obtain ⟨b, o, rfl, hbl, A1, d1, c0, c1, c2, c3, c4, hnm, hd⟩ := HRR.out
      have CX := Lib.hid (CE.out p (List.mem_of_getElem? hp) A1 d1 wr (hnm.more hbw.size))
      have HP := Lib.hid hp
      have u1 : (0 : Int) ≤ (k : Int) := Int.natCast_nonneg _
      have u2 : (k : Int) < (n : Int) := by omega
      have l1 := Nat.lt_of_lt_of_le hbl hbw.size
      clear hp hnm hd HRR
      unfold plv11 at CX
      cases hf : hasT11 p.ns y t
      · rw [hf] at CX
        have HST := Lib.hid (cdZ_no (P := fun p => hasT11 p.ns y t) HP.out hf)
        clear hf
        go_wp2_with fail
        refine CX.out.mono ?_
        rintro e w2 ⟨rfl, g2⟩
        have hbt := bstep9 hbw hbw.size g2
        have HO2 : Hid (w2.ownsRow w.heap.size 9 1 (.slice B m d) m (strV (cdZ (fun p => hasT11 p.ns y t) (ps.take (k + 1))))) := Lib.hid (by rw [HST.out]; exact keptW HO.out g2)
        clear g2 c0 c1 c2 c3 c4
        go_wp2_with fail
        go_roundw
        case rel => exact ⟨k + 1, m, d, B, by omega, by go_num, rfl, Lib.hid (by have := HM.out; omega), HO2, hbt⟩
        case measure => simp [intOf]; omega
      · rw [hf] at CX
        have HST := Lib.hid (cdZ_yes (P := fun p => hasT11 p.ns y t) HP.out hf)
        clear hf
        go_wp2_with fail
        refine CX.out.mono ?_
        rintro e w2 ⟨rfl, g2⟩
        have hbt := bstep9 hbw hbw.size g2
        have hown := keptW HO.out g2
        have hmk := HM.out
        have q0 : w2.cell? ⟨b, o + k * 5, none⟩ = some (.string p.c) := (g2.cell (p := ⟨b, o + k * 5, none⟩) l1).trans c0
        clear g2 c0 c1 c2 c3 c4
        go_wp2_with (at_builtin; refine wpList_append_own _ rfl _ _ 38 rfl w.heap.size 9 i0 _ 1 16 Tryz.underlying38 hi0 hz0 hz1 hz2 rfl (by decide) _ _ _ rfl (hown.alloc _) ⟨w2.heap.size, 0, none⟩ 1 1 [.string p.c] rfl rfl ?d1 ?d2 ?d3 ?d4 ?d5 ?_)
        case d1 => exact one_cell' _ _ _ (new_one _ _ _)
        case d2 => intro u hu; simp at hu; subst hu; rfl
        case d3 => unfold maxLen; omega
        case d4 => omega
        case d5 => have := hbt.size; simp; omega
        intro v' w3 hown3 hgrow3 _
        rw [strV_snocW] at hown3
        have hb3 : Below w.heap.size w w3 := (hbt.alloc hbt.size _).grown hgrow3 (by have := hbt.size; simp; omega) (fun x hx => (hown.lt x hx).1)
        have HO3 : Hid (w3.ownsRow w.heap.size 9 1 v' (m + 1) (strV (cdZ (fun p => hasT11 p.ns y t) (ps.take (k + 1))))) := Lib.hid (by rw [HST.out]; exact hown3)
        obtain ⟨g', c', rfl, _, _⟩ := World.ownsRow.form HO3.out (by omega)
        clear hown3 hown hgrow3 q0
        go_wp2_with fail
        go_roundw
        case rel => exact ⟨k + 1, m + 1, c', some ⟨g', 0, none⟩, by omega, by go_num, rfl, Lib.hid (by omega), HO3, hb3⟩
        case measure => simp [intOf]; omega
    · have HF : Hid (wr.ownsRow w.heap.size 9 1 (.slice B m d) m (strV (cdZ (fun p => hasT11 p.ns y t) ps))) := Lib.hid (by have := HO.out; rwa [List.take_of_length_le (by have := HN.out; omega)] at this)
      go_wp2_with fail
      go_ret2
      exact ⟨B, m, d, rfl, HF.out, hbw⟩
end
section
set_option linter.unusedVariables false
open Go.RowKit

set_option maxHeartbeats 2000000 in
set_option maxRecDepth 100000 in
theorem cWhereKd (A : Option Addr) (n c : Nat) (ps : List Pl) (ga gb : Nat) (P : Pl → Bool) (w : World) (hb : n ≤ 1048576) (h : PlAt w w.heap.size A n ps)
    (hcl : ∀ p ∈ ps, ∀ A d W, Below w.heap.size w W → NmAt W W.heap.size A p.ns.length p.ns → p.ns.length ≤ d → Calls Tryz.prog 97 #[enA p A d, .pointer (some ⟨ga, 0, none⟩), .pointer (some ⟨gb, 0, none⟩)] W fun e w' => e = .returned (.bool (P p)) ∧ Below W.heap.size W w') :
    Calls Tryz.prog 72 #[.slice A n c, .func (.func 97) #[] #[.pointer (some ⟨ga, 0, none⟩), .pointer (some ⟨gb, 0, none⟩)]] w (RowT11 (cdZ P ps) w) := by
  obtain ⟨i0, hi0, hz0, hz1, hz2⟩ := info_parts info_strW
  have H := Lib.hid h
  have HN := Lib.hid h.1
  have HC := Lib.hid hcl
  have CE := Lib.hid (fun p A d W => cEntry p A d W)
  clear h hcl
  go_enter Tryz.func72, Tryz.ntmps72
  go_wp2_with fail
  go_loopw [5, 10] (fun o i wr => ∃ (k m d : Nat) (B : Option Addr), k ≤ n ∧ i = .int .i64 k ∧ o = .slice B m d ∧ Hid (m ≤ k) ∧ Hid (wr.ownsRow w.heap.size 9 1 (.slice B m d) m (strV (cdZ P (ps.take k)))) ∧ Below w.heap.size w wr) (fun _ i _ => n - (intOf i).toNat)
  case atStart => exact ⟨0, 0, 0, none, Nat.zero_le _, rfl, rfl, Lib.hid (Nat.le_refl _), Lib.hid (World.ownsRow_nil _ _ _ _), Below.refl _ _⟩
  case round =>
    obtain ⟨k, m, d, B, hk, rfl, rfl, HM, HO, hbw⟩ := hrel
    by_cases hlt : k < n
    · obtain ⟨p, hp⟩ : ∃ p, ps[k]? = some p := ⟨ps[k]'(by have := HN.out; omega), List.getElem?_eq_getElem _⟩
      obtain ⟨b, o, rfl, hbl, A1, d1, c0, c1, c2, c3, c4, hnm, hd⟩ := (H.out.below hbw (Nat.le_refl _)).row hp
      obtain ⟨W0, hW0⟩ : ∃ W0 : World, W0 = wr.alloc (.cells #[.string p.c, .int .i64 p.k, .int .i64 p.f, .int .i64 p.u, .slice A1 p.ns.length d1] 29) := ⟨_, rfl⟩
      have HB0 : Hid (Below wr.heap.size wr W0) := Lib.hid (by rw [hW0]; exact below_alloc11 _ _)
      have HX : Hid (Bx W0 wr.heap.size [.string p.c, .int .i64 p.k, .int .i64 p.f, .int .i64 p.u, .slice A1 p.ns.length d1]) := Lib.hid (by rw [hW0]; exact Bx.new wr _ _)
      have HW0 := Lib.hid hW0
      have CC := Lib.hid (fun W (hW : Below wr.heap.size wr W) => HC.out p (List.mem_of_getElem? hp) A1 d1 W (bstep9 hbw hbw.size hW) ((hnm.more hbw.size).grow hW) hd)
      have CX := Lib.hid (CE.out p A1 d1 W0)
      have HP := Lib.hid hp
      have HB := Lib.hid hbw
      have u1 : (0 : Int) ≤ (k : Int) := Int.natCast_nonneg _
      have u2 : (k : Int) < (n : Int) := by omega
      clear hp hnm hd hbw hW0
      go_wp2_with fail
      rw [← HW0.out]
      refine CX.out.mono ?_
      rintro e w1 ⟨rfl, g1⟩
      have hb1 := bstep9 HB0.out HB0.out.size g1
      have CC1 := Lib.hid (CC.out w1 hb1)
      cases hf : P p
      · rw [hf] at CC1
        have HST := Lib.hid (cdZ_no HP.out hf)
        clear hf
        go_wp2_with fail
        refine CC1.out.mono ?_
        rintro e w2 ⟨rfl, g2⟩
        have hb2 := bstep9 hb1 hb1.size g2
        have hbt := bstep9 HB.out HB.out.size hb2
        have HO2 : Hid (w2.ownsRow w.heap.size 9 1 (.slice B m d) m (strV (cdZ P (ps.take (k + 1))))) := Lib.hid (by rw [HST.out]; exact keptW HO.out hb2)
        clear g1 g2 hb1 hb2 c0 c1 c2 c3 c4
        go_wp2_with fail
        go_roundw
        case rel => exact ⟨k + 1, m, d, B, by omega, by go_num, rfl, Lib.hid (by have := HM.out; omega), HO2, hbt⟩
        case measure => simp [intOf]; omega
      · rw [hf] at CC1
        have HST := Lib.hid (cdZ_yes HP.out hf)
        clear hf
        go_wp2_with fail
        refine CC1.out.mono ?_
        rintro e w2 ⟨rfl, g2⟩
        have hb2 := bstep9 hb1 hb1.size g2
        have hbt := bstep9 HB.out HB.out.size hb2
        have hown := keptW HO.out hb2
        have hmk := HM.out
        have q0 := ((HX.out.next g1).next g2).five.1
        clear g1 g2 hb1 hb2 c0 c1 c2 c3 c4
        go_wp2_with (at_builtin; refine wpList_append_own _ rfl _ _ 38 rfl w.heap.size 9 i0 _ 1 16 Tryz.underlying38 hi0 hz0 hz1 hz2 rfl (by decide) _ _ _ rfl (hown.alloc _) ⟨w2.heap.size, 0, none⟩ 1 1 [.string p.c] rfl rfl ?d1 ?d2 ?d3 ?d4 ?d5 ?_)
        case d1 => exact one_cell' _ _ _ (new_one _ _ _)
        case d2 => intro u hu; simp at hu; subst hu; rfl
        case d3 => unfold maxLen; omega
        case d4 => omega
        case d5 => have := hbt.size; simp; omega
        intro v' w3 hown3 hgrow3 _
        rw [strV_snocW] at hown3
        have hb3 : Below w.heap.size w w3 := (hbt.alloc hbt.size _).grown hgrow3 (by have := hbt.size; simp; omega) (fun x hx => (hown.lt x hx).1)
        have HO3 : Hid (w3.ownsRow w.heap.size 9 1 v' (m + 1) (strV (cdZ P (ps.take (k + 1))))) := Lib.hid (by rw [HST.out]; exact hown3)
        obtain ⟨g', c', rfl, _, _⟩ := World.ownsRow.form HO3.out (by omega)
        clear hown3 hown hgrow3 q0
        go_wp2_with fail
        go_roundw
        case rel => exact ⟨k + 1, m + 1, c', some ⟨g', 0, none⟩, by omega, by go_num, rfl, Lib.hid (by omega), HO3, hb3⟩
        case measure => simp [intOf]; omega
    · have HF : Hid (wr.ownsRow w.heap.size 9 1 (.slice B m d) m (strV (cdZ P ps))) := Lib.hid (by have := HO.out; rwa [List.take_of_length_le (by have := HN.out; omega)] at this)
      go_wp2_with fail
      go_ret
      exact ⟨B, m, d, rfl, HF.out, hbw⟩
end
section
set_option linter.unusedVariables false
open Go.RowKit

theorem intV_get10 {xs : List Int} {j : Nat} {u : Value} (h : (intV xs)[j]? = some u) : ∃ x, xs[j]? = some x ∧ u = .int .i64 x := by
  unfold intV at h
  rw [List.getElem?_map] at h
  cases hx : xs[j]? with
  | none => rw [hx] at h; cases h
  | some x => rw [hx] at h; exact ⟨x, rfl, (Option.some.inj h).symm⟩
theorem intV_set10 (xs : List Int) (k : Nat) (x : Int) : (intV xs).set k (.int .i64 x) = intV (xs.set k x) := by unfold intV; rw [List.map_set]
/-- A copy of one's own, with an address. -/
def Own10 (n : Nat) (xs : List Int) (w : World) (e : Ending) (w' : World) : Prop :=
  ∃ g c, e = .returned (.slice (some ⟨g, 0, none⟩) n c) ∧ w'.ownsRow w.heap.size 2 1 (.slice (some ⟨g, 0, none⟩) n c) n (intV xs) ∧ w.heap.size ≤ g ∧ Below w.heap.size w w'
def lvZ (xs : List Int) : List Int := if clsC xs [] = 0 then leafU xs xs.length else []
theorem lvZ_yes {xs : List Int} (h : clsC xs [] = 0) : lvZ xs = leafU xs xs.length := if_pos h
theorem lvZ_no {xs : List Int} (h : clsC xs [] ≠ 0) : lvZ xs = [] := if_neg h
theorem clsC_empty {xs : List Int} (h : clsC xs [] = 0) : Tree xs := tree_of (clsC_zero h).1
theorem lvZ_len (xs : List Int) : (lvZ xs).length ≤ 20 := by
  by_cases h : clsC xs [] = 0
  · rw [lvZ_yes h]; have := leaf_len xs xs.length; have := (clsC_empty h).le; omega
  · rw [lvZ_no h]; exact Nat.zero_le _
theorem cls_tree {xs : List Int} (h : treeB xs = true) : clsC xs [] = 0 := clsC_none h rfl
def addC (xs : List Int) (a : Int) : Int := if clsC xs [a] = 0 then (if xs.length = 20 then 3 else 0) else clsC xs [a]
def addZ (xs : List Int) (a : Int) : List Int := if addC xs a = 0 then xs ++ [a] else []
theorem addC_no {xs : List Int} {a : Int} (h : clsC xs [a] ≠ 0) : addC xs a = clsC xs [a] := if_neg h
theorem addC_full {xs : List Int} {a : Int} (h : clsC xs [a] = 0) (hl : xs.length = 20) : addC xs a = 3 := by unfold addC; rw [if_pos h, if_pos hl]
theorem addC_yes {xs : List Int} {a : Int} (h : clsC xs [a] = 0) (hl : xs.length ≠ 20) : addC xs a = 0 := by unfold addC; rw [if_pos h, if_neg hl]
theorem addZ_no {xs : List Int} {a : Int} (h : addC xs a ≠ 0) : addZ xs a = [] := if_neg h
theorem addZ_yes {xs : List Int} {a : Int} (h : addC xs a = 0) : addZ xs a = xs ++ [a] := if_pos h
theorem addC_zero {xs : List Int} {a : Int} (h : addC xs a = 0) : clsC xs [a] = 0 ∧ xs.length ≠ 20 := by
  unfold addC at h
  by_cases h1 : clsC xs [a] = 0
  · rw [if_pos h1] at h
    by_cases h2 : xs.length = 20
    · rw [if_pos h2] at h; omega
    · exact ⟨h1, h2⟩
  · rw [if_neg h1] at h; exact absurd h h1
theorem addZ_len (xs : List Int) (a : Int) : (addZ xs a).length ≤ 21 := by
  by_cases h : addC xs a = 0
  · rw [addZ_yes h, List.length_append]
    have := (clsC_one (addC_zero h).1).1.le
    simp; omega
  · rw [addZ_no h]; exact Nat.zero_le _
def movC (xs : List Int) (a p : Int) : Int := if clsC xs [a, p] = 0 then (if a ≤ p then 5 else 0) else clsC xs [a, p]
def movZ (xs : List Int) (a p : Int) : List Int := if movC xs a p = 0 then xs.set a.toNat p else []
theorem movC_no {xs : List Int} {a p : Int} (h : clsC xs [a, p] ≠ 0) : movC xs a p = clsC xs [a, p] := if_neg h
theorem movC_state {xs : List Int} {a p : Int} (h : clsC xs [a, p] = 0) (hl : a ≤ p) : movC xs a p = 5 := by unfold movC; rw [if_pos h, if_pos hl]
theorem movC_yes {xs : List Int} {a p : Int} (h : clsC xs [a, p] = 0) (hl : ¬ a ≤ p) : movC xs a p = 0 := by unfold movC; rw [if_pos h, if_neg hl]
theorem movC_zero {xs : List Int} {a p : Int} (h : movC xs a p = 0) : clsC xs [a, p] = 0 ∧ p < a := by
  unfold movC at h
  by_cases h1 : clsC xs [a, p] = 0
  · rw [if_pos h1] at h
    by_cases h2 : a ≤ p
    · rw [if_pos h2] at h; omega
    · exact ⟨h1, by omega⟩
  · rw [if_neg h1] at h; exact absurd h h1
theorem movZ_no {xs : List Int} {a p : Int} (h : movC xs a p ≠ 0) : movZ xs a p = [] := if_neg h
theorem movZ_yes {xs : List Int} {a p : Int} (h : movC xs a p = 0) : movZ xs a p = xs.set a.toNat p := if_pos h
theorem movZ_len (xs : List Int) (a p : Int) : (movZ xs a p).length ≤ 20 := by
  by_cases h : movC xs a p = 0
  · rw [movZ_yes h, List.length_set]
    exact (clsC_two (movC_zero h).1).1.le
  · rw [movZ_no h]; exact Nat.zero_le _
theorem acc_own {w V V' : World} {n g c : Nat} {xs : List Int} (h : V'.ownsRow V.heap.size 2 1 (.slice (some ⟨g, 0, none⟩) n c) n (intV xs)) (hw : Below w.heap.size w V) (hb : Below V.heap.size V V') : Acc V.heap.size w V' (some ⟨g, 0, none⟩) n c xs :=
  ⟨h, below_thenA hw hb, hw.size, hb.size⟩

end
end Go.Proofs.YtglmibmjbignbaaGreatDoor
