/-
  The laws' helpers on places: toPlaceS, eqPlace, eqPlaceS.
-/
import Derived.Test.YtglmibmjbignbaaGreatDoorPlLaw
import Derived.Test.YtglmibmjbignbaaGreatDoorNmMark
import Derived.Test.YtglmibmjbignbaaGreatDoorMz11
namespace Go.Proofs.YtglmibmjbignbaaGreatDoor
section
set_option linter.unusedVariables false
open Go.RowKit

theorem info_pl : (Tryz.prog.info? 29).map (fun i => (i.zero, i.size, i.bytes)) = some (some (.agg #[.string ByteArray.empty, .int .i64 0, .int .i64 0, .int .i64 0, .slice none 0 0]), 5, 64) := by kernel_rfl
def zPE : PE := ⟨⟨ByteArray.empty, 0, 0, 0, []⟩, none, 0⟩
theorem zPE_made (n : Nat) : (madeCells #[Value.string ByteArray.empty, Value.int .i64 0, Value.int .i64 0, Value.int .i64 0, Value.slice none 0 0] (n * 5)).toList = plV (List.replicate n zPE) := by
  apply List.ext_getElem?
  intro j
  by_cases h : j < n * 5
  · obtain ⟨q, r, rfl, hr⟩ : ∃ q r, j = q * 5 + r ∧ r < 5 := ⟨j / 5, j % 5, by omega, by omega⟩
    have hq : q < n := by omega
    have hz : (List.replicate n zPE)[q]? = some zPE := by simp [hq]
    have ha := plV_at _ q _ hz
    have hmod : (q * 5 + r) % 5 = r := by omega
    match r, hr with
    | 0, _ => rw [show q * 5 + 0 = q * 5 from rfl, ha.1]; simp [madeCells, hq, zPE]
    | 1, _ => rw [ha.2.1]; simp [madeCells, h, hmod, zPE]
    | 2, _ => rw [ha.2.2.1]; simp [madeCells, h, hmod, zPE]
    | 3, _ => rw [ha.2.2.2.1]; simp [madeCells, h, hmod, zPE]
    | 4, _ => rw [ha.2.2.2.2]; simp [madeCells, h, hmod, zPE]
  · rw [List.getElem?_eq_none (by simp [madeCells]; omega), List.getElem?_eq_none (by rw [plV_len]; simp; omega)]
theorem zset11 (es : List PE) (q : PE) (n k : Nat) (hl : es.length = k) (hk : k < n) : (es ++ List.replicate (n - k) zPE).set k q = es ++ [q] ++ List.replicate (n - (k + 1)) zPE := by
  obtain ⟨d, hd⟩ : ∃ d, n - k = d + 1 := ⟨n - k - 1, by omega⟩
  rw [List.set_append_right _ _ (by omega), hl, Nat.sub_self, hd, show n - (k + 1) = d by omega, List.replicate_succ, List.set_cons_zero, List.append_assoc]
  rfl
theorem OwnP.newer {w w1 : World} {lo hi n c m d : Nat} {A a : Option Addr} {es : List PE} {xs : List Nm} (h : OwnP w lo hi A n c es) (h1 : w1.ownsRow w.heap.size 100 5 (.slice a m d) m (nmV xs)) (hm : 0 < m) :
    ∀ x ∈ es, 0 < x.p.ns.length → x.a ≠ a := by
  intro x hx hp e
  obtain ⟨g1, c1, hv1, _, hl1⟩ := World.ownsRow.form (h.inner x hx hp).1 hp
  obtain ⟨g2, c2, hv2, _, _⟩ := World.ownsRow.form h1 hm
  have hl2 := (h1.lt g2 (by rw [hv2]; rfl)).1
  injection hv1 with e1
  injection hv2 with e2
  rw [e1, e2] at e
  injection e with e
  injection e with e
  omega
theorem OwnP.zeros {w : World} {lo n c : Nat} {A : Option Addr} {g : Nat} (hA : A = some ⟨g, 0, none⟩) (hg : g < w.heap.size) (h : w.ownsRow lo 29 5 (.slice A n c) n (plV (List.replicate n zPE))) : OwnP w lo w.heap.size A n c (List.replicate n zPE) := by
  refine ⟨h, fun k hk => (h.lt k hk).2, fun e he hp => ?_, fun i j x y _ hi _ hp _ => ?_⟩
  · rw [List.mem_replicate] at he; rw [he.2] at hp; exact absurd hp (by decide)
  · rw [List.getElem?_replicate] at hi; split at hi
    · obtain rfl := Option.some.inj hi; exact absurd hp (by decide)
    · cases hi

def CopyPl (n : Nat) (ps : List Pl) (w : World) (e : Ending) (w' : World) : Prop := ∃ A es, e = .returned (.slice A n n) ∧ plsOf es = ps ∧ OwnP w' w.heap.size w'.heap.size A n n es ∧ Below w.heap.size w w'
set_option maxHeartbeats 2000000 in
set_option maxRecDepth 100000 in
theorem uToPl (A : Option Addr) (n cap : Nat) (ps : List Pl) (w : World) (hbig : n ≤ 1048576) (hs : Sz11 ps) (h : PlAt w w.heap.size A n ps) :
    Calls Tryz.prog 41 #[.slice A n cap] w (CopyPl n ps w) := by
  obtain ⟨i0, hi0, hz0, hz1, hz2⟩ := info_parts info_pl
  have H := Lib.hid h
  have HN := Lib.hid h.1
  have HS := Lib.hid hs
  clear h hs
  go_enter Tryz.func41, Tryz.ntmps41
  go_wp2_with (at_make; refine wpList_make_full _ rfl _ _ 24 rfl w.heap.size 29 i0 _ 5 Tryz.underlying24 hi0 hz0 hz1 _ _ _ _ n rfl rfl (by simp) (by simp) ?b2 ?b3 (Nat.le_refl _) ?_)
  case b2 => rw [hz2]; omega
  case b3 => unfold maxLen; omega
  intro w0 hown0 hgrow0
  rw [zPE_made n] at hown0
  have hb0 : Below w.heap.size w w0 := (Below.refl _ _).grown hgrow0 (Nat.le_refl _) (fun k h => by cases h)
  have HO := Lib.hid (OwnP.zeros rfl (hown0.lt w.heap.size rfl).2 hown0)
  clear hown0 hgrow0
  go_wp2
  go_loopw [4] (fun i wr => ∃ (k : Nat) (es : List PE), k ≤ n ∧ i = .int .i64 k ∧ Hid (es.length = k ∧ plsOf es = ps.take k) ∧ Hid (OwnP wr w.heap.size wr.heap.size (some ⟨w.heap.size, 0, none⟩) n n (es ++ List.replicate (n - k) zPE)) ∧ Below w.heap.size w wr) (fun i _ => n - (intOf i).toNat)
  case atStart => exact ⟨0, [], Nat.zero_le _, rfl, Lib.hid ⟨rfl, by simp [plsOf]⟩, by simpa using HO, hb0⟩
  case round =>
    clear HO hb0
    obtain ⟨k, es, hk, rfl, HE, HO, hbw⟩ := hrel
    by_cases hlt : k < n
    · obtain ⟨p, hp⟩ : ∃ p, ps[k]? = some p := ⟨ps[k]'(by have := HN.out; omega), List.getElem?_eq_getElem _⟩
      obtain ⟨b, o, rfl, hbl, A1, d1, c0, c1, c2, c3, c4, hnm, _⟩ := (H.out.below hbw (Nat.le_refl _)).row hp
      have hsz := HS.out p (List.mem_of_getElem? hp)
      have CP := Lib.hid (uToPl1 p A1 d1 wr hsz.2.1 (hnm.more hbw.size))
      have HP := Lib.hid hp
      have u1 : (0 : Int) ≤ (k : Int) := Int.natCast_nonneg _
      have u2 : (k : Int) < (n : Int) := by omega
      clear hp hnm hsz
      go_wp2_with fail
      refine CP.out.mono ?_
      rintro e w1 ⟨A', rfl, hin, g1⟩
      have ho1 := (HO.out.below g1).up (hi' := w1.heap.size) g1.size
      have hbw1 := bstep9 hbw hbw.size g1
      have hnew : ∀ x ∈ es ++ List.replicate (n - k) zPE, 0 < x.p.ns.length → 0 < p.ns.length → x.a ≠ A' := fun x hx hp hq => HO.out.newer hin hq x hx hp
      have hown1 := ho1.row
      have hl1 := hown1.1
      obtain ⟨v0, d0⟩ : ∃ v, w1.cell? ⟨w.heap.size, k * 5, none⟩ = some v := ⟨_, (hown1.cellAt (k * 5) (by omega)).trans (List.getElem?_eq_getElem (by omega))⟩
      obtain ⟨v1, d1⟩ : ∃ v, w1.cell? ⟨w.heap.size, k * 5 + 1, none⟩ = some v := ⟨_, (hown1.cellAt (k * 5 + 1) (by omega)).trans (List.getElem?_eq_getElem (by omega))⟩
      obtain ⟨v2, d2⟩ : ∃ v, w1.cell? ⟨w.heap.size, k * 5 + 2, none⟩ = some v := ⟨_, (hown1.cellAt (k * 5 + 2) (by omega)).trans (List.getElem?_eq_getElem (by omega))⟩
      obtain ⟨v3, d3⟩ : ∃ v, w1.cell? ⟨w.heap.size, k * 5 + 3, none⟩ = some v := ⟨_, (hown1.cellAt (k * 5 + 3) (by omega)).trans (List.getElem?_eq_getElem (by omega))⟩
      obtain ⟨v4, d4⟩ : ∃ v, w1.cell? ⟨w.heap.size, k * 5 + 4, none⟩ = some v := ⟨_, (hown1.cellAt (k * 5 + 4) (by omega)).trans (List.getElem?_eq_getElem (by omega))⟩
      have f0 := hown1.frozenAt (k * 5)
      have f1 := hown1.frozenAt (k * 5 + 1)
      have f2 := hown1.frozenAt (k * 5 + 2)
      have f3 := hown1.frozenAt (k * 5 + 3)
      have f4 := hown1.frozenAt (k * 5 + 4)
      have s1 := hown1.stored (k * 5) (.string p.c)
      have s2 := s1.1.stored (k * 5 + 1) (.int .i64 p.k)
      have s3 := s2.1.stored (k * 5 + 2) (.int .i64 p.f)
      have s4 := s3.1.stored (k * 5 + 3) (.int .i64 p.u)
      have s5 := s4.1.stored (k * 5 + 4) (.slice A' p.ns.length p.ns.length)
      have hcs := plV_set5 (es ++ List.replicate (n - k) zPE) k ⟨p, A', p.ns.length⟩ (by rw [List.length_append, List.length_replicate, HE.out.1]; omega)
      have hst := s5.1
      rw [hcs] at hst
      have hfin := ho1.set (k := k) (e := ⟨p, A', p.ns.length⟩) (fun _ => ⟨World.ownsRow.mono hin hbw.size, fun b hb => (hin.lt b hb).2⟩) (fun j x hj hx h1 h2 => hnew x (List.mem_of_getElem? hx) h1 h2) hst ((((s1.2.trans s2.2).trans s3.2).trans s4.2).trans s5.2)
      rw [zset11 es ⟨p, A', p.ns.length⟩ n k HE.out.1 hlt] at hfin
      have hfin2 := hfin.here
      have HF := Lib.hid hfin2
      have HE2 : Hid ((es ++ [(⟨p, A', p.ns.length⟩ : PE)]).length = k + 1 ∧ plsOf (es ++ [(⟨p, A', p.ns.length⟩ : PE)]) = ps.take (k + 1)) := Lib.hid ⟨by simp [HE.out.1], by rw [plsOf_app, HE.out.2, take_snocP HP.out]; rfl⟩
      have hbw2 := below_set5 hbw1 (Nat.le_refl w.heap.size) (k * 5) (k * 5 + 1) (k * 5 + 2) (k * 5 + 3) (k * 5 + 4) (.string p.c) (.int .i64 p.k) (.int .i64 p.f) (.int .i64 p.u) (.slice A' p.ns.length p.ns.length)
      clear hl1 hown1 hcs s1 s2 s3 s4 s5 hst hfin hfin2 ho1 hnew hin g1
      go_wp2_with fail
      go_roundw
      case rel => exact ⟨k + 1, _, by omega, by go_num, HE2, HF, hbw2⟩
      case measure => simp [intOf]; omega
    · obtain rfl : k = n := by omega
      have HF : Hid (plsOf es = ps ∧ OwnP wr w.heap.size wr.heap.size (some ⟨w.heap.size, 0, none⟩) k k es) := Lib.hid (by
        have h1 := HO.out
        rw [Nat.sub_self, List.replicate_zero, List.append_nil] at h1
        have h2 := HE.out.2
        rw [List.take_of_length_le (by have := HN.out; omega)] at h2
        exact ⟨h2, h1⟩)
      go_wp2
      go_ret
      exact ⟨_, es, rfl, HF.out.1, HF.out.2, hbw⟩

set_option maxHeartbeats 1000000 in
theorem uEqPl1 (p : Pl) (A A' : Option Addr) (d d' : Nat) (w : World) (hb : p.ns.length ≤ 1048576) (h : NmAt w w.heap.size A p.ns.length p.ns) (h' : NmAt w w.heap.size A' p.ns.length p.ns) :
    Calls Tryz.prog 110 #[plv11 p A d, plv11 p A' d'] w fun e w' => e = .returned (.bool true) ∧ Below w.heap.size w w' := by
  obtain ⟨c, k, f, u, ns⟩ := p
  unfold plv11
  dsimp only at hb h h' ⊢
  obtain ⟨n, hn⟩ : ∃ n, n = ns.length := ⟨_, rfl⟩
  rw [← hn] at hb h h' ⊢
  have z1 : (c.toList != c.toList) = false := by simp
  have z2 : (k != k) = false := by simp
  have CS := Lib.hid (cEqSp9 f u)
  have CN := Lib.hid (fun W (hW : Below w.heap.size w W) => uEqN A A' n d d' ns W hb (h.grow hW) (h'.grow hW))
  clear h h' hn
  obtain ⟨W0, hW0⟩ : ∃ W0 : World, W0 = (w.alloc (.cells #[.string c, .int .i64 k, .int .i64 f, .int .i64 u, .slice A n d] 29)).alloc (.cells #[.string c, .int .i64 k, .int .i64 f, .int .i64 u, .slice A' n d'] 29) := ⟨_, rfl⟩
  have B0 : Below w.heap.size w W0 := by rw [hW0]; exact ((Below.refl _ _).alloc (Nat.le_refl _) _).alloc (by simp) _
  have X0 : Bx W0 w.heap.size [.string c, .int .i64 k, .int .i64 f, .int .i64 u, .slice A n d] := by rw [hW0]; exact (Bx.new w _ _).alloc _
  have Y0 : Bx W0 (w.heap.size + 1) [.string c, .int .i64 k, .int .i64 f, .int .i64 u, .slice A' n d'] := by
    rw [hW0]
    have := Bx.new (w.alloc (.cells #[.string c, .int .i64 k, .int .i64 f, .int .i64 u, .slice A n d] 29)) #[.string c, .int .i64 k, .int .i64 f, .int .i64 u, .slice A' n d'] 29
    simpa using this
  have HX := Lib.hid X0
  have HY := Lib.hid Y0
  have HB0 := Lib.hid B0
  have HW := Lib.hid hW0
  clear X0 Y0 B0 hW0
  go_enter Tryz.func110, Tryz.ntmps110
  go_wp2_with fail
  rw [← HW.out]
  refine (CS.out _).mono ?_
  rintro e w1 ⟨rfl, g1⟩
  obtain ⟨x0, x1, x2, x3, x4, _⟩ := (HX.out.next g1).five
  obtain ⟨y0, y1, y2, y3, y4, _⟩ := (HY.out.next g1).five
  have hb1 := bstep9 HB0.out HB0.out.size g1
  have CN2 := Lib.hid (CN.out _ hb1)
  clear g1
  go_wp2_with fail
  refine CN2.out.mono ?_
  rintro e w2 ⟨rfl, g2⟩
  have hb2 := bstep9 hb1 hb1.size g2
  clear g2 x0 x1 x2 x3 x4 y0 y1 y2 y3 y4
  go_wp2_with fail
  go_ret
  exact ⟨rfl, hb2⟩

set_option maxHeartbeats 1000000 in
set_option maxRecDepth 100000 in
theorem uEqPl (A A' : Option Addr) (n cap cap' : Nat) (ps : List Pl) (w : World) (hbig : n ≤ 1048576) (hs : Sz11 ps) (h1 : PlAt w w.heap.size A n ps) (h2 : PlAt w w.heap.size A' n ps) :
    Calls Tryz.prog 43 #[.slice A n cap, .slice A' n cap'] w fun e w' => e = .returned (.bool true) ∧ Below w.heap.size w w' := by
  have H1 := Lib.hid h1
  have H2 := Lib.hid h2
  have HN := Lib.hid h1.1
  have HS := Lib.hid hs
  clear h1 h2 hs
  go_enter Tryz.func43, Tryz.ntmps43
  go_wp2
  go_loopw [5] (fun i wr => ∃ j : Nat, j ≤ n ∧ i = .int .i64 j ∧ Below w.heap.size w wr) (fun i _ => n - (intOf i).toNat)
  case atStart => exact ⟨0, Nat.zero_le _, rfl, Below.refl _ _⟩
  case round =>
    obtain ⟨j, hj, rfl, hbw⟩ := hrel
    by_cases hlt : j < n
    · obtain ⟨p, hp⟩ : ∃ p, ps[j]? = some p := ⟨ps[j]'(by have := HN.out; omega), List.getElem?_eq_getElem _⟩
      obtain ⟨b, o, rfl, hbl, A1, e1, c0, c1, c2, c3, c4, hm1, _⟩ := (H1.out.below hbw (Nat.le_refl _)).row hp
      obtain ⟨b', o', rfl, hbl', A2, e2, d0, d1, d2, d3, d4, hm2, _⟩ := (H2.out.below hbw (Nat.le_refl _)).row hp
      have hsz := HS.out p (List.mem_of_getElem? hp)
      have l1 := Nat.lt_of_lt_of_le hbl hbw.size
      have l2 := Nat.lt_of_lt_of_le hbl' hbw.size
      have CE := Lib.hid (fun W (hW : Below wr.heap.size wr W) => uEqPl1 p A1 A2 e1 e2 W hsz.2.1 ((hm1.more hbw.size).grow hW) ((hm2.more hbw.size).grow hW))
      have HB := Lib.hid hbw
      have u1 : (0 : Int) ≤ (j : Int) := Int.natCast_nonneg _
      have u2 : (j : Int) < (n : Int) := by omega
      clear hp hbw hm1 hm2 hsz
      go_wp2_with fail
      obtain ⟨T, f, t0, hT, ht0, hf, hback⟩ := class_of wr
      have k0 : ∀ t, (f t).cell? ⟨b, o + j * 5, none⟩ = some (.string p.c) := fun t => ((hf t).cell (p := ⟨b, o + j * 5, none⟩) l1).trans c0
      have k1 : ∀ t, (f t).cell? ⟨b, o + j * 5 + 1, none⟩ = some (.int .i64 p.k) := fun t => ((hf t).cell (p := ⟨b, o + j * 5 + 1, none⟩) l1).trans c1
      have k2 : ∀ t, (f t).cell? ⟨b, o + j * 5 + 2, none⟩ = some (.int .i64 p.f) := fun t => ((hf t).cell (p := ⟨b, o + j * 5 + 2, none⟩) l1).trans c2
      have k3 : ∀ t, (f t).cell? ⟨b, o + j * 5 + 3, none⟩ = some (.int .i64 p.u) := fun t => ((hf t).cell (p := ⟨b, o + j * 5 + 3, none⟩) l1).trans c3
      have k4 : ∀ t, (f t).cell? ⟨b, o + j * 5 + 4, none⟩ = some (.slice A1 p.ns.length e1) := fun t => ((hf t).cell (p := ⟨b, o + j * 5 + 4, none⟩) l1).trans c4
      have m0 : ∀ t, (f t).cell? ⟨b', o' + j * 5, none⟩ = some (.string p.c) := fun t => ((hf t).cell (p := ⟨b', o' + j * 5, none⟩) l2).trans d0
      have m1 : ∀ t, (f t).cell? ⟨b', o' + j * 5 + 1, none⟩ = some (.int .i64 p.k) := fun t => ((hf t).cell (p := ⟨b', o' + j * 5 + 1, none⟩) l2).trans d1
      have m2 : ∀ t, (f t).cell? ⟨b', o' + j * 5 + 2, none⟩ = some (.int .i64 p.f) := fun t => ((hf t).cell (p := ⟨b', o' + j * 5 + 2, none⟩) l2).trans d2
      have m3 : ∀ t, (f t).cell? ⟨b', o' + j * 5 + 3, none⟩ = some (.int .i64 p.u) := fun t => ((hf t).cell (p := ⟨b', o' + j * 5 + 3, none⟩) l2).trans d3
      have m4 : ∀ t, (f t).cell? ⟨b', o' + j * 5 + 4, none⟩ = some (.slice A2 p.ns.length e2) := fun t => ((hf t).cell (p := ⟨b', o' + j * 5 + 4, none⟩) l2).trans d4
      have HF := Lib.hid hf
      have HK := Lib.hid hback
      clear hf hback
      refine wp_region_class f t0 ht0 (by kernel_rfl) (by kernel_rfl) ?_
      clear ht0
      repeat (go_big_quiet_step (first | (go_at_call 110; exact Calls.class_of HF.out HK.out (CE.out _ (HF.out _)))))
      refine wpQuiet_nil ?_
      rintro w' ⟨t, rfl⟩
      have hbt := HB.out.trans ((HF.out t).mono HB.out.size)
      go_wp2
      go_roundw
      case rel => exact ⟨j + 1, by omega, by go_num, hbt⟩
      case measure => simp [intOf]; omega
    · go_wp2
      go_ret
      exact ⟨rfl, hbw⟩
end
section
set_option linter.unusedVariables false
open Go.RowKit

end
end Go.Proofs.YtglmibmjbignbaaGreatDoor
