/-
  The laws' helpers on places: toPlaceS, eqPlace, eqPlaceS.
-/
import Derived.Test.YtglmibmjbignbaaGreatDoorMy14
import Derived.Test.YtglmibmjbignbaaGreatDoorMy15
import Derived.Deep.RegionLaw
import Derived.Lib.SliceRun
import Derived.Deep.Onto
namespace Go.Proofs.YtglmibmjbignbaaGreatDoor
section
set_option linter.unusedVariables false
open Go.RowKit

theorem info_pl : (Tryz.prog.info? 29).map (fun i => (i.zero, i.size, i.bytes)) = some (some (.agg #[.string ByteArray.empty, .int .i64 0, .int .i64 0, .int .i64 0, .slice none 0 0]), 5, 64) := by kernel_rfl
def zPE : PE := ⟨⟨ByteArray.empty, 0, 0, 0, []⟩, none, 0⟩
theorem zPE_made (n : Nat) : (madeCells #[Value.string ByteArray.empty, Value.int .i64 0, Value.int .i64 0, Value.int .i64 0, Value.slice none 0 0] (n * 5)).toList = plV (List.replicate n zPE) := by
  apply List.ext_getElem?
  intro j
  by_cases h : j < n * 5
  · obtain ⟨q, r, rfl, hr⟩ : ∃ q r, j = q * 5 + r ∧ r < 5 := ⟨j / 5, j % 5, by omega, by omega⟩
    have hq : q < n := by omega
    have hz : (List.replicate n zPE)[q]? = some zPE := by simp [hq]
    have ha := plV_at _ q _ hz
    have hmod : (q * 5 + r) % 5 = r := by omega
    match r, hr with
    | 0, _ => rw [show q * 5 + 0 = q * 5 from rfl, ha.1]; simp [madeCells, hq, zPE]
    | 1, _ => rw [ha.2.1]; simp [madeCells, h, hmod, zPE]
    | 2, _ => rw [ha.2.2.1]; simp [madeCells, h, hmod, zPE]
    | 3, _ => rw [ha.2.2.2.1]; simp [madeCells, h, hmod, zPE]
    | 4, _ => rw [ha.2.2.2.2]; simp [madeCells, h, hmod, zPE]
  · rw [List.getElem?_eq_none (by simp [madeCells]; omega), List.getElem?_eq_none (by rw [plV_len]; simp; omega)]
theorem zset11 (es : List PE) (q : PE) (n k : Nat) (hl : es.length = k) (hk : k < n) : (es ++ List.replicate (n - k) zPE).set k q = es ++ [q] ++ List.replicate (n - (k + 1)) zPE := by
  obtain ⟨d, hd⟩ : ∃ d, n - k = d + 1 := ⟨n - k - 1, by omega⟩
  rw [List.set_append_right _ _ (by omega), hl, Nat.sub_self, hd, show n - (k + 1) = d by omega, List.replicate_succ, List.set_cons_zero, List.append_assoc]
  rfl
theorem OwnP.newer {w w1 : World} {lo hi n c m d : Nat} {A a : Option Addr} {es : List PE} {xs : List Nm} (h : OwnP w lo hi A n c es) (h1 : w1.ownsRow w.heap.size 100 5 (.slice a m d) m (nmV xs)) (hm : 0 < m) :
    ∀ x ∈ es, 0 < x.p.ns.length → x.a ≠ a := by
  intro x hx hp e
  obtain ⟨g1, c1, hv1, _, hl1⟩ := World.ownsRow.form (h.inner x hx hp).1 hp
  obtain ⟨g2, c2, hv2, _, _⟩ := World.ownsRow.form h1 hm
  have hl2 := (h1.lt g2 (by rw [hv2]; rfl)).1
  injection hv1 with e1
  injection hv2 with e2
  rw [e1, e2] at e
  injection e with e
  injection e with e
  omega
theorem OwnP.zeros {w : World} {lo n c : Nat} {A : Option Addr} {g : Nat} (hA : A = some ⟨g, 0, none⟩) (hg : g < w.heap.size) (h : w.ownsRow lo 29 5 (.slice A n c) n (plV (List.replicate n zPE))) : OwnP w lo w.heap.size A n c (List.replicate n zPE) := by
  refine ⟨h, fun k hk => (h.lt k hk).2, fun e he hp => ?_, fun i j x y _ hi _ hp _ => ?_⟩
  · rw [List.mem_replicate] at he; rw [he.2] at hp; exact absurd hp (by decide)
  · rw [List.getElem?_replicate] at hi; split at hi
    · obtain rfl := Option.some.inj hi; exact absurd hp (by decide)
    · cases hi

def CopyPl (n : Nat) (ps : List Pl) (w : World) (e : Ending) (w' : World) : Prop := ∃ A es, e = .returned (.slice A n n) ∧ plsOf es = ps ∧ OwnP w' w.heap.size w'.heap.size A n n es ∧ Below w.heap.size w w'
set_option maxHeartbeats 2000000 in
set_option maxRecDepth 100000 in
theorem uToPl (A : Option Addr) (n cap : Nat) (ps : List Pl) (w : World) (hbig : n ≤ 1048576) (hs : Sz11 ps) (h : PlAt w w.heap.size A n ps) :
    Calls Tryz.prog 41 #[.slice A n cap] w (CopyPl n ps w) := by
  obtain ⟨i0, hi0, hz0, hz1, hz2⟩ := info_parts info_pl
  have H := Lib.hid h
  have HN := Lib.hid h.1
  have HS := Lib.hid hs
  clear h hs
  go_enter Tryz.func41, Tryz.ntmps41
  go_wp2_with (at_make; refine wpList_make_full _ rfl _ _ 24 rfl w.heap.size 29 i0 _ 5 Tryz.underlying24 hi0 hz0 hz1 _ _ _ _ n rfl rfl (by simp) (by simp) ?b2 ?b3 (Nat.le_refl _) ?_)
  case b2 => rw [hz2]; omega
  case b3 => unfold maxLen; omega
  intro w0 hown0 hgrow0
  rw [zPE_made n] at hown0
  have hb0 : Below w.heap.size w w0 := (Below.refl _ _).grown hgrow0 (Nat.le_refl _) (fun k h => by cases h)
  have HO := Lib.hid (OwnP.zeros rfl (hown0.lt w.heap.size rfl).2 hown0)
  clear hown0 hgrow0
  go_wp2
  go_loopw [4] (fun i wr => ∃ (k : Nat) (es : List PE), k ≤ n ∧ i = .int .i64 k ∧ Hid (es.length = k ∧ plsOf es = ps.take k) ∧ Hid (OwnP wr w.heap.size wr.heap.size (some ⟨w.heap.size, 0, none⟩) n n (es ++ List.replicate (n - k) zPE)) ∧ Below w.heap.size w wr) (fun i _ => n - (intOf i).toNat)
  case atStart => exact ⟨0, [], Nat.zero_le _, rfl, Lib.hid ⟨rfl, by simp [plsOf]⟩, by simpa using HO, hb0⟩
  case round =>
    clear HO hb0
    obtain ⟨k, es, hk, rfl, HE, HO, hbw⟩ := hrel
    by_cases hlt : k < n
    · obtain ⟨p, hp⟩ : ∃ p, ps[k]? = some p := ⟨ps[k]'(by have := HN.out; omega), List.getElem?_eq_getElem _⟩
      obtain ⟨b, o, rfl, hbl, A1, d1, c0, c1, c2, c3, c4, hnm, _⟩ := (H.out.below hbw (Nat.le_refl _)).row hp
      have hsz := HS.out p (List.mem_of_getElem? hp)
      have CP := Lib.hid (uToPl1 p A1 d1 wr hsz.2.1 (hnm.more hbw.size))
      have HP := Lib.hid hp
      have u1 : (0 : Int) ≤ (k : Int) := Int.natCast_nonneg _
      have u2 : (k : Int) < (n : Int) := by omega
      clear hp hnm hsz
      go_wp2_with fail
      refine CP.out.mono ?_
      rintro e w1 ⟨A', rfl, hin, g1⟩
      have ho1 := (HO.out.below g1).up (hi' := w1.heap.size) g1.size
      have hbw1 := bstep9 hbw hbw.size g1
      have hnew : ∀ x ∈ es ++ List.replicate (n - k) zPE, 0 < x.p.ns.length → 0 < p.ns.length → x.a ≠ A' := fun x hx hp hq => HO.out.newer hin hq x hx hp
      have hown1 := ho1.row
      have hl1 := hown1.1
      obtain ⟨v0, d0⟩ : ∃ v, w1.cell? ⟨w.heap.size, k * 5, none⟩ = some v := ⟨_, (hown1.cellAt (k * 5) (by omega)).trans (List.getElem?_eq_getElem (by omega))⟩
      obtain ⟨v1, d1⟩ : ∃ v, w1.cell? ⟨w.heap.size, k * 5 + 1, none⟩ = some v := ⟨_, (hown1.cellAt (k * 5 + 1) (by omega)).trans (List.getElem?_eq_getElem (by omega))⟩
      obtain ⟨v2, d2⟩ : ∃ v, w1.cell? ⟨w.heap.size, k * 5 + 2, none⟩ = some v := ⟨_, (hown1.cellAt (k * 5 + 2) (by omega)).trans (List.getElem?_eq_getElem (by omega))⟩
      obtain ⟨v3, d3⟩ : ∃ v, w1.cell? ⟨w.heap.size, k * 5 + 3, none⟩ = some v := ⟨_, (hown1.cellAt (k * 5 + 3) (by omega)).trans (List.getElem?_eq_getElem (by omega))⟩
      obtain ⟨v4, d4⟩ : ∃ v, w1.cell? ⟨w.heap.size, k * 5 + 4, none⟩ = some v := ⟨_, (hown1.cellAt (k * 5 + 4) (by omega)).trans (List.getElem?_eq_getElem (by omega))⟩
      have f0 := hown1.frozenAt (k * 5)
      have f1 := hown1.frozenAt (k * 5 + 1)
      have f2 := hown1.frozenAt (k * 5 + 2)
      have f3 := hown1.frozenAt (k * 5 + 3)
      have f4 := hown1.frozenAt (k * 5 + 4)
      have s1 := hown1.stored (k * 5) (.string p.c)
      have s2 := s1.1.stored (k * 5 + 1) (.int .i64 p.k)
      have s3 := s2.1.stored (k * 5 + 2) (.int .i64 p.f)
      have s4 := s3.1.stored (k * 5 + 3) (.int .i64 p.u)
      have s5 := s4.1.stored (k * 5 + 4) (.slice A' p.ns.length p.ns.length)
      have hcs := plV_set5 (es ++ List.replicate (n - k) zPE) k ⟨p, A', p.ns.length⟩ (by rw [List.length_append, List.length_replicate, HE.out.1]; omega)
      have hst := s5.1
      rw [hcs] at hst
      have hfin := ho1.set (k := k) (e := ⟨p, A', p.ns.length⟩) (fun _ => ⟨World.ownsRow.mono hin hbw.size, fun b hb => (hin.lt b hb).2⟩) (fun j x hj hx h1 h2 => hnew x (List.mem_of_getElem? hx) h1 h2) hst ((((s1.2.trans s2.2).trans s3.2).trans s4.2).trans s5.2)
      rw [zset11 es ⟨p, A', p.ns.length⟩ n k HE.out.1 hlt] at hfin
      have hfin2 := hfin.here
      have HF := Lib.hid hfin2
      have HE2 : Hid ((es ++ [(⟨p, A', p.ns.length⟩ : PE)]).length = k + 1 ∧ plsOf (es ++ [(⟨p, A', p.ns.length⟩ : PE)]) = ps.take (k + 1)) := Lib.hid ⟨by simp [HE.out.1], by rw [plsOf_app, HE.out.2, take_snocP HP.out]; rfl⟩
      have hbw2 := below_set5 hbw1 (Nat.le_refl w.heap.size) (k * 5) (k * 5 + 1) (k * 5 + 2) (k * 5 + 3) (k * 5 + 4) (.string p.c) (.int .i64 p.k) (.int .i64 p.f) (.int .i64 p.u) (.slice A' p.ns.length p.ns.length)
      clear hl1 hown1 hcs s1 s2 s3 s4 s5 hst hfin hfin2 ho1 hnew hin g1
      go_wp2_with fail
      go_roundw
      case rel => exact ⟨k + 1, _, by omega, by go_num, HE2, HF, hbw2⟩
      case measure => simp [intOf]; omega
    · obtain rfl : k = n := by omega
      have HF : Hid (plsOf es = ps ∧ OwnP wr w.heap.size wr.heap.size (some ⟨w.heap.size, 0, none⟩) k k es) := Lib.hid (by
        have h1 := HO.out
        rw [Nat.sub_self, List.replicate_zero, List.append_nil] at h1
        have h2 := HE.out.2
        rw [List.take_of_length_le (by have := HN.out; omega)] at h2
        exact ⟨h2, h1⟩)
      go_wp2
      go_ret
      exact ⟨_, es, rfl, HF.out.1, HF.out.2, hbw⟩

set_option maxHeartbeats 1000000 in
theorem uEqPl1 (p : Pl) (A A' : Option Addr) (d d' : Nat) (w : World) (hb : p.ns.length ≤ 1048576) (h : NmAt w w.heap.size A p.ns.length p.ns) (h' : NmAt w w.heap.size A' p.ns.length p.ns) :
    Calls Tryz.prog 110 #[plv11 p A d, plv11 p A' d'] w fun e w' => e = .returned (.bool true) ∧ Below w.heap.size w w' := by
  obtain ⟨c, k, f, u, ns⟩ := p
  unfold plv11
  dsimp only at hb h h' ⊢
  obtain ⟨n, hn⟩ : ∃ n, n = ns.length := ⟨_, rfl⟩
  rw [← hn] at hb h h' ⊢
  have z1 : (c.toList != c.toList) = false := by simp
  have z2 : (k != k) = false := by simp
  have CS := Lib.hid (cEqSp9 f u)
  have CN := Lib.hid (fun W (hW : Below w.heap.size w W) => uEqN A A' n d d' ns W hb (h.grow hW) (h'.grow hW))
  clear h h' hn
  obtain ⟨W0, hW0⟩ : ∃ W0 : World, W0 = (w.alloc (.cells #[.string c, .int .i64 k, .int .i64 f, .int .i64 u, .slice A n d] 29)).alloc (.cells #[.string c, .int .i64 k, .int .i64 f, .int .i64 u, .slice A' n d'] 29) := ⟨_, rfl⟩
  have B0 : Below w.heap.size w W0 := by rw [hW0]; exact ((Below.refl _ _).alloc (Nat.le_refl _) _).alloc (by simp) _
  have X0 : Bx W0 w.heap.size [.string c, .int .i64 k, .int .i64 f, .int .i64 u, .slice A n d] := by rw [hW0]; exact (Bx.new w _ _).alloc _
  have Y0 : Bx W0 (w.heap.size + 1) [.string c, .int .i64 k, .int .i64 f, .int .i64 u, .slice A' n d'] := by
    rw [hW0]
    have := Bx.new (w.alloc (.cells #[.string c, .int .i64 k, .int .i64 f, .int .i64 u, .slice A n d] 29)) #[.string c, .int .i64 k, .int .i64 f, .int .i64 u, .slice A' n d'] 29
    simpa using this
  have HX := Lib.hid X0
  have HY := Lib.hid Y0
  have HB0 := Lib.hid B0
  have HW := Lib.hid hW0
  clear X0 Y0 B0 hW0
  go_enter Tryz.func110, Tryz.ntmps110
  go_wp2_with fail
  rw [← HW.out]
  refine (CS.out _).mono ?_
  rintro e w1 ⟨rfl, g1⟩
  obtain ⟨x0, x1, x2, x3, x4, _⟩ := (HX.out.next g1).five
  obtain ⟨y0, y1, y2, y3, y4, _⟩ := (HY.out.next g1).five
  have hb1 := bstep9 HB0.out HB0.out.size g1
  have CN2 := Lib.hid (CN.out _ hb1)
  clear g1
  go_wp2_with fail
  refine CN2.out.mono ?_
  rintro e w2 ⟨rfl, g2⟩
  have hb2 := bstep9 hb1 hb1.size g2
  clear g2 x0 x1 x2 x3 x4 y0 y1 y2 y3 y4
  go_wp2_with fail
  go_ret
  exact ⟨rfl, hb2⟩

set_option maxHeartbeats 1000000 in
set_option maxRecDepth 100000 in
theorem uEqPl (A A' : Option Addr) (n cap cap' : Nat) (ps : List Pl) (w : World) (hbig : n ≤ 1048576) (hs : Sz11 ps) (h1 : PlAt w w.heap.size A n ps) (h2 : PlAt w w.heap.size A' n ps) :
    Calls Tryz.prog 43 #[.slice A n cap, .slice A' n cap'] w fun e w' => e = .returned (.bool true) ∧ Below w.heap.size w w' := by
  have H1 := Lib.hid h1
  have H2 := Lib.hid h2
  have HN := Lib.hid h1.1
  have HS := Lib.hid hs
  clear h1 h2 hs
  go_enter Tryz.func43, Tryz.ntmps43
  go_wp2
  go_loopw [5] (fun i wr => ∃ j : Nat, j ≤ n ∧ i = .int .i64 j ∧ Below w.heap.size w wr) (fun i _ => n - (intOf i).toNat)
  case atStart => exact ⟨0, Nat.zero_le _, rfl, Below.refl _ _⟩
  case round =>
    obtain ⟨j, hj, rfl, hbw⟩ := hrel
    by_cases hlt : j < n
    · obtain ⟨p, hp⟩ : ∃ p, ps[j]? = some p := ⟨ps[j]'(by have := HN.out; omega), List.getElem?_eq_getElem _⟩
      obtain ⟨b, o, rfl, hbl, A1, e1, c0, c1, c2, c3, c4, hm1, _⟩ := (H1.out.below hbw (Nat.le_refl _)).row hp
      obtain ⟨b', o', rfl, hbl', A2, e2, d0, d1, d2, d3, d4, hm2, _⟩ := (H2.out.below hbw (Nat.le_refl _)).row hp
      have hsz := HS.out p (List.mem_of_getElem? hp)
      have l1 := Nat.lt_of_lt_of_le hbl hbw.size
      have l2 := Nat.lt_of_lt_of_le hbl' hbw.size
      have CE := Lib.hid (fun W (hW : Below wr.heap.size wr W) => uEqPl1 p A1 A2 e1 e2 W hsz.2.1 ((hm1.more hbw.size).grow hW) ((hm2.more hbw.size).grow hW))
      have HB := Lib.hid hbw
      have u1 : (0 : Int) ≤ (j : Int) := Int.natCast_nonneg _
      have u2 : (j : Int) < (n : Int) := by omega
      clear hp hbw hm1 hm2 hsz
      go_wp2_with fail
      obtain ⟨T, f, t0, hT, ht0, hf, hback⟩ := class_of wr
      have k0 : ∀ t, (f t).cell? ⟨b, o + j * 5, none⟩ = some (.string p.c) := fun t => ((hf t).cell (p := ⟨b, o + j * 5, none⟩) l1).trans c0
      have k1 : ∀ t, (f t).cell? ⟨b, o + j * 5 + 1, none⟩ = some (.int .i64 p.k) := fun t => ((hf t).cell (p := ⟨b, o + j * 5 + 1, none⟩) l1).trans c1
      have k2 : ∀ t, (f t).cell? ⟨b, o + j * 5 + 2, none⟩ = some (.int .i64 p.f) := fun t => ((hf t).cell (p := ⟨b, o + j * 5 + 2, none⟩) l1).trans c2
      have k3 : ∀ t, (f t).cell? ⟨b, o + j * 5 + 3, none⟩ = some (.int .i64 p.u) := fun t => ((hf t).cell (p := ⟨b, o + j * 5 + 3, none⟩) l1).trans c3
      have k4 : ∀ t, (f t).cell? ⟨b, o + j * 5 + 4, none⟩ = some (.slice A1 p.ns.length e1) := fun t => ((hf t).cell (p := ⟨b, o + j * 5 + 4, none⟩) l1).trans c4
      have m0 : ∀ t, (f t).cell? ⟨b', o' + j * 5, none⟩ = some (.string p.c) := fun t => ((hf t).cell (p := ⟨b', o' + j * 5, none⟩) l2).trans d0
      have m1 : ∀ t, (f t).cell? ⟨b', o' + j * 5 + 1, none⟩ = some (.int .i64 p.k) := fun t => ((hf t).cell (p := ⟨b', o' + j * 5 + 1, none⟩) l2).trans d1
      have m2 : ∀ t, (f t).cell? ⟨b', o' + j * 5 + 2, none⟩ = some (.int .i64 p.f) := fun t => ((hf t).cell (p := ⟨b', o' + j * 5 + 2, none⟩) l2).trans d2
      have m3 : ∀ t, (f t).cell? ⟨b', o' + j * 5 + 3, none⟩ = some (.int .i64 p.u) := fun t => ((hf t).cell (p := ⟨b', o' + j * 5 + 3, none⟩) l2).trans d3
      have m4 : ∀ t, (f t).cell? ⟨b', o' + j * 5 + 4, none⟩ = some (.slice A2 p.ns.length e2) := fun t => ((hf t).cell (p := ⟨b', o' + j * 5 + 4, none⟩) l2).trans d4
      have HF := Lib.hid hf
      have HK := Lib.hid hback
      clear hf hback
      refine wp_region_class f t0 ht0 (by kernel_rfl) (by kernel_rfl) ?_
      clear ht0
      repeat (go_big_quiet_step (first | (go_at_call 110; exact Calls.class_of HF.out HK.out (CE.out _ (HF.out _)))))
      refine wpQuiet_nil ?_
      rintro w' ⟨t, rfl⟩
      have hbt := HB.out.trans ((HF.out t).mono HB.out.size)
      go_wp2
      go_roundw
      case rel => exact ⟨j + 1, by omega, by go_num, hbt⟩
      case measure => simp [intOf]; omega
    · go_wp2
      go_ret
      exact ⟨rfl, hbw⟩
end
section
set_option linter.unusedVariables false
open Go.RowKit

theorem nm_cellsA {w : World} {B n : Nat} {a : Addr} {xs : List Nm} (h : NmAt w B (some a) n xs) : ∀ (j : Nat) u, (nmV xs)[j]? = some u → w.cell? (a.add j) = some u := by
  intro j u hu
  have hj := (List.getElem?_eq_some_iff.1 hu).1
  rw [nmV_len] at hj
  obtain ⟨b, o, e, _, hc⟩ := h.2 (by have := h.1; omega)
  injection e with e
  subst e
  obtain ⟨q, r, rfl, hr⟩ : ∃ q r, j = q * 5 + r ∧ r < 5 := ⟨j / 5, j % 5, by omega, by omega⟩
  obtain ⟨x, hx⟩ : ∃ x, xs[q]? = some x := ⟨xs[q]'(by omega), List.getElem?_eq_getElem _⟩
  have hv := nmV_at xs q x hx
  obtain ⟨c0, c1, c2, c3, c4⟩ := hc q x hx
  rw [add_plain']
  match r, hr with
  | 0, _ => rw [show q * 5 + 0 = q * 5 from rfl] at hu ⊢; rw [hv.1] at hu; rw [← Option.some.inj hu]; exact c0
  | 1, _ => rw [hv.2.1] at hu; rw [← Option.some.inj hu, ← Nat.add_assoc]; exact c1
  | 2, _ => rw [hv.2.2.1] at hu; rw [← Option.some.inj hu, ← Nat.add_assoc]; exact c2
  | 3, _ => rw [hv.2.2.2.1] at hu; rw [← Option.some.inj hu, ← Nat.add_assoc]; exact c3
  | 4, _ => rw [hv.2.2.2.2] at hu; rw [← Option.some.inj hu, ← Nat.add_assoc]; exact c4
theorem keptR {w w' : World} {base n : Nat} {A : Option Addr} {m d : Nat} {t : TypeId} {xs : List Value} {sz : Nat} (h : w.ownsRow base t sz (.slice A m d) n xs) (hb : Below w.heap.size w w') : w'.ownsRow base t sz (.slice A m d) n xs :=
  own_block11 h (fun k hk => hb.block k (h.lt k hk).2)
theorem row_form5 {w : World} {base : Nat} {v : Value} {m : Nat} {xs : List Value} {t : TypeId} (h : w.ownsRow base t 5 v m xs) : ∃ A c, v = .slice A m c ∧ m ≤ c := by
  rcases h.2 with ⟨rfl, rfl⟩ | ⟨g, cap, cur, rfl, _, _, h3, _⟩
  · exact ⟨_, _, rfl, Nat.le_refl _⟩
  · exact ⟨_, _, rfl, h3⟩

theorem nm_one11 (xs : List Nm) : ∀ u ∈ nmV xs, u.oneCell' = true := fun u hu => by
  unfold nmV at hu
  obtain ⟨x, _, hx⟩ := List.mem_flatMap.1 hu
  unfold encN at hx
  simp at hx
  rcases hx with rfl | rfl | rfl | rfl | rfl <;> rfl
def CloneOut (xs : List Nm) (n : Nat) (w : World) (e : Ending) (w' : World) : Prop :=
  ∃ C c, e = .returned (.slice C n c) ∧ n ≤ c ∧ w'.ownsRow w.heap.size 100 5 (.slice C n c) n (nmV xs) ∧ Below w.heap.size w w'
set_option maxHeartbeats 1000000 in
set_option maxRecDepth 100000 in
theorem cCloneN (A : Option Addr) (n cap : Nat) (xs : List Nm) (w : World) (hbig : n ≤ 1048576) (h : NmAt w w.heap.size A n xs) :
    Calls Tryz.prog 120 #[.slice A n cap] w (CloneOut xs n w) := by
  obtain ⟨i0, hi0, hz0, hz1, hz2⟩ := info_parts info_nm
  have hba := (Below.refl w.heap.size w).alloc (Nat.le_refl _) (.cells #[] 100)
  have HL : Hid ((nmV xs).length = n * 5) := Lib.hid (by rw [nmV_len, h.1])
  have he := Lib.run_eql_slice_nil (P := Tryz.prog) w 27 100 A n cap 0 0 Tryz.underlying27
  cases A with
  | none =>
    have h0 : n = 0 := by
      rcases Nat.eq_zero_or_pos n with h0 | hp
      · exact h0
      · obtain ⟨b, o, e, _⟩ := h.2 hp; cases e
    subst h0
    have hx : xs = [] := List.eq_nil_of_length_eq_zero h.1.symm
    subst hx
    clear h HL hba
    go_enter Tryz.func120, Tryz.ntmps120
    go_wp2_with fail
    go_ret
    exact ⟨none, 0, rfl, Nat.le_refl _, World.ownsRow_nil _ _ _ _, Below.refl _ _⟩
  | some a =>
    obtain ⟨b, o, sp⟩ := a
    have HC := Lib.hid (nm_cellsA (h.below hba (Nat.le_refl _)))
    clear h
    go_enter Tryz.func120, Tryz.ntmps120
    go_wp2_with (at_builtin; (refine wpList_append_own _ rfl _ _ 27 rfl w.heap.size 100 i0 _ 5 56 Tryz.underlying27 hi0 hz0 hz1 hz2 rfl (by decide) _ 0 [] rfl (World.ownsRow_lit (e := 100) (base := w.heap.size) (size := 5) w #[] 0 (Nat.le_refl _) (by decide) rfl) ⟨b, o, sp⟩ n cap (nmV xs) rfl HL.out HC.out (nm_one11 xs) ?d3 ?d4 ?d5 ?_))
    case d3 => unfold maxLen; omega
    case d4 => omega
    case d5 => simp
    intro v' w1 hown1 hgrow1 _
    obtain ⟨C, c, rfl, hc⟩ := row_form5 hown1
    have hb1 : Below w.heap.size w w1 := hba.grown hgrow1 (by simp) (fun k hk => by cases hk; exact Nat.le_refl _)
    have HO := Lib.hid hown1
    clear hown1 hgrow1
    go_wp2_with fail
    go_ret
    exact ⟨C, c, rfl, hc, HO.out, hb1⟩

/-- A row of places as it lies, the names wherever they are, below block B. -/
structure PsAt (w : World) (B : Nat) (A : Option Addr) (n : Nat) (es : List PE) : Prop where
  len : n = es.length
  cells : ∀ a, A = some a → ∀ (j : Nat) u, (plV es)[j]? = some u → w.cell? (a.add j) = some u
  none : A = none → n = 0
  names : ∀ e ∈ es, NmAt w B e.a e.p.ns.length e.p.ns ∧ e.p.ns.length ≤ e.d
theorem ps_of_pl {w : World} {B n : Nat} {A : Option Addr} {ps : List Pl} (h : PlAt w B A n ps) : ∃ es, plsOf es = ps ∧ PsAt w B A n es := by
  have key : ∀ i, i < n → ∃ e : PE, ps[i]? = some e.p ∧ (∀ a, A = some a → ∀ r, r < 5 → w.cell? (a.add (i * 5 + r)) = (encE11 e)[r]?) ∧ NmAt w B e.a e.p.ns.length e.p.ns ∧ e.p.ns.length ≤ e.d := by
    intro i hi
    obtain ⟨p, hp⟩ : ∃ p, ps[i]? = some p := ⟨ps[i]'(by have := h.1; omega), List.getElem?_eq_getElem _⟩
    obtain ⟨b, o, hA, _, A1, d1, c0, c1, c2, c3, c4, hn, hd⟩ := h.row hp
    refine ⟨⟨p, A1, d1⟩, hp, fun a ha r hr => ?_, hn, hd⟩
    rw [hA] at ha
    obtain rfl := Option.some.inj ha
    rw [add_plain', ← Nat.add_assoc]
    match r, hr with
    | 0, _ => exact c0
    | 1, _ => exact c1
    | 2, _ => exact c2
    | 3, _ => exact c3
    | 4, _ => exact c4
  obtain ⟨es, hl, hes⟩ := exists_listN n key
  refine ⟨es, ?_, ⟨hl.symm, fun a ha j u hu => ?_, fun hA => ?_, fun e he => ?_⟩⟩
  · apply List.ext_getElem?
    intro i
    by_cases hi : i < n
    · have he : es[i]? = some (es[i]'(by omega)) := List.getElem?_eq_getElem _
      rw [(hes i _ he).1, plsOf_at he]
    · rw [List.getElem?_eq_none (by rw [plsOf_len]; omega), List.getElem?_eq_none (by have := h.1; omega)]
  · have hj := (List.getElem?_eq_some_iff.1 hu).1
    rw [plV_len] at hj
    obtain ⟨q, r, rfl, hr⟩ : ∃ q r, j = q * 5 + r ∧ r < 5 := ⟨j / 5, j % 5, by omega, by omega⟩
    have he : es[q]? = some (es[q]'(by omega)) := List.getElem?_eq_getElem _
    rw [(hes q _ he).2.1 a ha r hr]
    have hv := plV_at es q _ he
    obtain rfl | rfl | rfl | rfl | rfl : r = 0 ∨ r = 1 ∨ r = 2 ∨ r = 3 ∨ r = 4 := by omega
    · rw [← hu]; exact hv.1.symm
    · rw [← hu]; exact hv.2.1.symm
    · rw [← hu]; exact hv.2.2.1.symm
    · rw [← hu]; exact hv.2.2.2.1.symm
    · rw [← hu]; exact hv.2.2.2.2.symm
  · rcases Nat.eq_zero_or_pos n with h0 | hp
    · exact h0
    · obtain ⟨b, o, e, _⟩ := h.2 hp; rw [hA] at e; cases e
  · obtain ⟨i, hi⟩ := List.mem_iff_getElem?.1 he
    exact (hes i e hi).2.2
theorem PsAt.below {w w' : World} {B C n : Nat} {A : Option Addr} {es : List PE} (h : PsAt w B A n es) (hb : Below C w w') (hBC : B ≤ C) (hA : ∀ a, A = some a → 0 < n → a.block < C) : PsAt w' B A n es :=
  ⟨h.len, fun a ha j u hu => (hb.cell (by
    have hj := (List.getElem?_eq_some_iff.1 hu).1
    rw [plV_len] at hj
    have := hA a ha (by have := h.len; omega)
    simpa [Addr.add] using (by unfold Addr.add; split <;> exact this : (a.add j).block < C))).trans (h.cells a ha j u hu), h.none, fun e he => ⟨(h.names e he).1.below hb hBC, (h.names e he).2⟩⟩

def ClonePl (es : List PE) (n : Nat) (w : World) (e : Ending) (w' : World) : Prop :=
  ∃ C c, e = .returned (.slice C n c) ∧ n ≤ c ∧ w'.ownsRow w.heap.size 29 5 (.slice C n c) n (plV es) ∧ Below w.heap.size w w'
set_option maxHeartbeats 1000000 in
set_option maxRecDepth 100000 in
theorem cClonePl (A : Option Addr) (n cap : Nat) (es : List PE) (w : World) (hbig : n ≤ 1048576) (h : PsAt w w.heap.size A n es) (hA : ∀ a, A = some a → 0 < n → a.block < w.heap.size) :
    Calls Tryz.prog 58 #[.slice A n cap] w (ClonePl es n w) := by
  obtain ⟨i0, hi0, hz0, hz1, hz2⟩ := info_parts info_pl
  have hba := (Below.refl w.heap.size w).alloc (Nat.le_refl _) (.cells #[] 29)
  have HL : Hid ((plV es).length = n * 5) := Lib.hid (by rw [plV_len, h.len])
  have he := Lib.run_eql_slice_nil (P := Tryz.prog) w 24 29 A n cap 0 0 Tryz.underlying24
  cases A with
  | none =>
    have h0 : n = 0 := h.none rfl
    subst h0
    have hx : es = [] := List.eq_nil_of_length_eq_zero h.len.symm
    subst hx
    clear h HL hba hA
    go_enter Tryz.func58, Tryz.ntmps58
    go_wp2_with fail
    go_ret
    exact ⟨none, 0, rfl, Nat.le_refl _, World.ownsRow_nil _ _ _ _, Below.refl _ _⟩
  | some a =>
    obtain ⟨b, o, sp⟩ := a
    have HC := Lib.hid ((h.below hba (Nat.le_refl _) hA).cells _ rfl)
    clear h hA
    go_enter Tryz.func58, Tryz.ntmps58
    go_wp2_with (at_builtin; (refine wpList_append_own _ rfl _ _ 24 rfl w.heap.size 29 i0 _ 5 64 Tryz.underlying24 hi0 hz0 hz1 hz2 rfl (by decide) _ 0 [] rfl (World.ownsRow_lit (e := 29) (base := w.heap.size) (size := 5) w #[] 0 (Nat.le_refl _) (by decide) rfl) ⟨b, o, sp⟩ n cap (plV es) rfl HL.out HC.out (pl_one11 es) ?d3 ?d4 ?d5 ?_))
    case d3 => unfold maxLen; omega
    case d4 => omega
    case d5 => simp
    intro v' w1 hown1 hgrow1 _
    obtain ⟨C, c, rfl, hc⟩ := row_form5 hown1
    have hb1 : Below w.heap.size w w1 := hba.grown hgrow1 (by simp) (fun k hk => by cases hk; exact Nat.le_refl _)
    have HO := Lib.hid hown1
    clear hown1 hgrow1
    go_wp2_with fail
    go_ret
    exact ⟨C, c, rfl, hc, HO.out, hb1⟩

/-- Rows of names of one's own, from block lo on below hi. -/
structure InnP (w : World) (lo hi : Nat) (es : List PE) : Prop where
  inner : ∀ e ∈ es, 0 < e.p.ns.length → w.ownsRow lo 100 5 (.slice e.a e.p.ns.length e.d) e.p.ns.length (nmV e.p.ns) ∧ ∀ k, (Value.slice e.a e.p.ns.length e.d).ownBlock = some k → k < hi
  apart : ∀ (i j : Nat) x y, i ≠ j → es[i]? = some x → es[j]? = some y → 0 < x.p.ns.length → 0 < y.p.ns.length → x.a ≠ y.a
theorem InnP.nil (w : World) (lo hi : Nat) : InnP w lo hi [] := ⟨fun e he => (by cases he), fun i j x y _ hi => (by simp at hi)⟩
theorem InnP.below {w w' : World} {lo hi hi' : Nat} {es : List PE} (h : InnP w lo hi es) (hb : Below w.heap.size w w') (hh : hi ≤ hi') : InnP w' lo hi' es :=
  ⟨fun e he hp => ⟨own_block11 (h.inner e he hp).1 (fun k hk => hb.block k ((h.inner e he hp).1.lt k hk).2), fun k hk => by have := (h.inner e he hp).2 k hk; omega⟩, h.apart⟩
theorem InnP.store {w w' : World} {lo hi n g c B : Nat} {es : List PE} {xs : List Value} (h : InnP w lo hi es) (ho : w.ownsRow B 29 5 (.slice (some ⟨g, 0, none⟩) n c) n xs) (hg : w.grownBy w' (some g)) : InnP w' lo hi es :=
  ⟨fun e he hp => ⟨World.ownsRow.kept (h.inner e he hp).1 hg (rows_apart11 (by decide) (h.inner e he hp).1 ho), (h.inner e he hp).2⟩, h.apart⟩
theorem InnP.snoc {w : World} {lo hi : Nat} {es : List PE} {e : PE} (h : InnP w lo hi es) (hin : 0 < e.p.ns.length → w.ownsRow lo 100 5 (.slice e.a e.p.ns.length e.d) e.p.ns.length (nmV e.p.ns) ∧ ∀ k, (Value.slice e.a e.p.ns.length e.d).ownBlock = some k → k < hi)
    (hap : ∀ x ∈ es, 0 < x.p.ns.length → 0 < e.p.ns.length → x.a ≠ e.a) : InnP w lo hi (es ++ [e]) := by
  refine ⟨fun x hx hp => ?_, fun i j x y hij hi hj hp hq => ?_⟩
  · rw [List.mem_append, List.mem_singleton] at hx
    rcases hx with hx | rfl
    · exact h.inner x hx hp
    · exact hin hp
  · have hl : ∀ (i : Nat) z, (es ++ [e])[i]? = some z → (i < es.length ∧ es[i]? = some z) ∨ (i = es.length ∧ z = e) := by
      intro i z hz
      by_cases hlt : i < es.length
      · rw [List.getElem?_append_left hlt] at hz; exact .inl ⟨hlt, hz⟩
      · have := (List.getElem?_eq_some_iff.1 hz).1
        simp at this
        obtain rfl : i = es.length := by omega
        simp at hz
        exact .inr ⟨rfl, hz.symm⟩
    rcases hl i x hi with ⟨_, a1⟩ | ⟨a1, rfl⟩ <;> rcases hl j y hj with ⟨_, b1⟩ | ⟨b1, rfl⟩
    · exact h.apart i j x y hij a1 b1 hp hq
    · exact hap x (List.mem_of_getElem? a1) hp hq
    · exact fun e0 => hap y (List.mem_of_getElem? b1) hq hp e0.symm
    · omega
theorem InnP.newer {w w1 : World} {lo hi m d : Nat} {a : Option Addr} {es : List PE} {xs : List Nm} (h : InnP w lo hi es) (h1 : w1.ownsRow w.heap.size 100 5 (.slice a m d) m (nmV xs)) (hm : 0 < m) :
    ∀ x ∈ es, 0 < x.p.ns.length → x.a ≠ a := by
  intro x hx hp e
  obtain ⟨g1, c1, hv1, _, hl1⟩ := World.ownsRow.form (h.inner x hx hp).1 hp
  obtain ⟨g2, c2, hv2, _, _⟩ := World.ownsRow.form h1 hm
  have hl2 := (h1.lt g2 (by rw [hv2]; rfl)).1
  injection hv1 with e1
  injection hv2 with e2
  rw [e1, e2] at e
  injection e with e
  injection e with e
  omega
theorem InnP.own {w : World} {lo hi n c : Nat} {A : Option Addr} {es : List PE} (h : InnP w lo hi es) (ho : w.ownsRow lo 29 5 (.slice A n c) n (plV es)) (ht : ∀ k, (Value.slice A n c).ownBlock = some k → k < hi) : OwnP w lo hi A n c es := ⟨ho, ht, h.inner, h.apart⟩
theorem OwnP.inn {w : World} {lo hi n c : Nat} {A : Option Addr} {es : List PE} (h : OwnP w lo hi A n c es) : InnP w lo hi es := ⟨h.inner, h.apart⟩
theorem swap_at {es' es : List PE} {k : Nat} {e q : PE} (hl : es'.length = k) (h : es[k]? = some e) : (es' ++ es.drop k).set k q = (es' ++ [q]) ++ es.drop (k + 1) := by
  have hk := (List.getElem?_eq_some_iff.1 h).1
  have hx := (List.getElem?_eq_some_iff.1 h).2
  rw [List.set_append_right _ _ (by omega), hl, Nat.sub_self, List.drop_eq_getElem_cons hk, List.set_cons_zero, List.append_assoc]
  rfl
theorem swap_get {es' es : List PE} {k : Nat} {e : PE} (hl : es'.length = k) (h : es[k]? = some e) : (es' ++ es.drop k)[k]? = some e := by
  rw [List.getElem?_append_right (by omega), hl, Nat.sub_self, List.getElem?_drop]; simpa using h

def CopyOut (ps : List Pl) (n : Nat) (w : World) (e : Ending) (w' : World) : Prop :=
  ∃ C c es, e = .returned (.slice C n c) ∧ plsOf es = ps ∧ OwnP w' w.heap.size w'.heap.size C n c es ∧ Below w.heap.size w w'
set_option maxHeartbeats 2000000 in
set_option maxRecDepth 100000 in
theorem cCopyPl (A : Option Addr) (n cap : Nat) (ps : List Pl) (w : World) (hbig : n ≤ 1048576) (hz : Sz11 ps) (h : PlAt w w.heap.size A n ps) :
    Calls Tryz.prog 56 #[.slice A n cap] w (CopyOut ps n w) := by
  obtain ⟨es, hes, hps⟩ := ps_of_pl h
  have hA : ∀ a, A = some a → 0 < n → a.block < w.heap.size := fun a ha hp => by
    obtain ⟨b, o, e, hb, _⟩ := h.2 hp
    rw [ha] at e; injection e with e; rw [e]; exact hb
  have CC := Lib.hid (cClonePl A n cap es w hbig hps hA)
  have HNM := Lib.hid (fun e he => hps.names e he)
  have HL := Lib.hid hps.len
  have HZ : Hid (∀ e ∈ es, e.p.ns.length ≤ 1048576) := Lib.hid (fun e he => (hz e.p (by rw [← hes]; exact List.mem_map_of_mem he)).2.1)
  have HES := Lib.hid hes
  clear h hps hA hz hes
  go_enter Tryz.func56, Tryz.ntmps56
  go_wp2_with fail
  refine CC.out.mono ?_
  rintro e w1 ⟨C, c, rfl, hcc, hown, hb1⟩
  have HO1 := Lib.hid hown
  clear hown CC
  go_wp2_with fail
  go_loopw [9] (fun i wr => ∃ (k : Nat) (es' : List PE), k ≤ n ∧ i = .int .i64 k ∧ Hid (es'.length = k ∧ plsOf es' = ps.take k) ∧ Hid (wr.ownsRow w.heap.size 29 5 (.slice C n c) n (plV (es' ++ es.drop k))) ∧ Hid (InnP wr w.heap.size wr.heap.size es') ∧ Below w.heap.size w wr) (fun i _ => n - (intOf i).toNat)
  case atStart => exact ⟨0, [], Nat.zero_le _, rfl, Lib.hid ⟨rfl, by simp [plsOf]⟩, by simpa using HO1, Lib.hid (InnP.nil _ _ _), hb1⟩
  case round =>
    clear HO1 hb1
    obtain ⟨k, es', hk, rfl, HE, HR, HI, hbw⟩ := hrel
    by_cases hlt : k < n
    · obtain ⟨x, hx⟩ : ∃ x, es[k]? = some x := ⟨es[k]'(by have := HL.out; omega), List.getElem?_eq_getElem _⟩
      obtain ⟨g, cc, hv, hg0, hgl⟩ := World.ownsRow.form HR.out (by omega)
      obtain ⟨rfl, rfl⟩ : C = some ⟨g, 0, none⟩ ∧ c = cc := by injection hv with h1 h2 h3; exact ⟨h1, h3⟩
      have hxm := List.mem_of_getElem? hx
      have hnx := HNM.out x hxm
      have CN := Lib.hid (cCloneN x.a x.p.ns.length x.d x.p.ns wr (HZ.out x hxm) (hnx.1.grow hbw))
      have hsw := swap_get HE.out.1 hx
      have hl1 := HR.out.1
      have q4 : wr.cell? ⟨g, k * 5 + 4, none⟩ = some (.slice x.a x.p.ns.length x.d) := (HR.out.cellAt (k * 5 + 4) (by omega)).trans (plV_at _ k x hsw).2.2.2.2
      have HX := Lib.hid hx
      have HSW := Lib.hid hsw
      have u1 : (0 : Int) ≤ (k : Int) := Int.natCast_nonneg _
      have u2 : (k : Int) < (n : Int) := by omega
      clear hx hnx hxm hsw hv hl1
      go_wp2_with fail
      refine CN.out.mono ?_
      rintro e w2 ⟨D, d, rfl, hdd, hin, g2⟩
      have hr2 := keptR HR.out g2
      have hl2 := hr2.1
      have q5 : w2.cell? ⟨g, k * 5 + 4, none⟩ = some (.slice x.a x.p.ns.length x.d) := (hr2.cellAt (k * 5 + 4) (by omega)).trans (plV_at _ k x HSW.out).2.2.2.2
      have f5 := hr2.frozenAt (k * 5 + 4)
      have hst := hr2.stored (k * 5 + 4) (.slice D x.p.ns.length d)
      have hset := plV_setN (es' ++ es.drop k) k x ⟨x.p, D, d⟩ HSW.out rfl rfl rfl rfl
      have hrow := hst.1
      rw [hset, swap_at HE.out.1 HX.out] at hrow
      have hi2 := HI.out.below g2 g2.size
      have hi3 := (hi2.snoc (e := ⟨x.p, D, d⟩) (fun _ => ⟨World.ownsRow.mono hin hbw.size, fun b hb => (hin.lt b hb).2⟩) (fun y hy hp hq => HI.out.newer hin hq y hy hp)).store hr2 hst.2
      have hbt := bstep9 hbw hbw.size g2
      have hb3 := hbt.setCell (p := ⟨g, k * 5 + 4, none⟩) (show w.heap.size ≤ g from (HR.out.lt g rfl).1) (.slice D x.p.ns.length d)
      have HR3 := Lib.hid hrow
      have HI3 : Hid (InnP (w2.setCell ⟨g, k * 5 + 4, none⟩ (.slice D x.p.ns.length d)) w.heap.size (w2.setCell ⟨g, k * 5 + 4, none⟩ (.slice D x.p.ns.length d)).heap.size (es' ++ [⟨x.p, D, d⟩])) := Lib.hid (by simpa using hi3)
      have HE3 : Hid ((es' ++ [(⟨x.p, D, d⟩ : PE)]).length = k + 1 ∧ plsOf (es' ++ [(⟨x.p, D, d⟩ : PE)]) = ps.take (k + 1)) := Lib.hid ⟨by simp [HE.out.1], by
        have h1 : ps[k]? = some x.p := by rw [← HES.out]; exact plsOf_at HX.out
        rw [plsOf_app, HE.out.2, take_snocP h1]; rfl⟩
      clear hr2 hl2 hst hset hrow hi2 hi3 hin g2 q4 hbt
      go_wp2_with fail
      go_roundw
      case rel => exact ⟨k + 1, _, by omega, by go_num, HE3, HR3, HI3, hb3⟩
      case measure => simp [intOf]; omega
    · obtain rfl : k = n := by omega
      have HF : Hid (plsOf es' = ps ∧ OwnP wr w.heap.size wr.heap.size C k c es') := Lib.hid (by
        have h1 := HR.out
        rw [List.drop_eq_nil_of_le (by have := HL.out; omega), List.append_nil] at h1
        have h2 := HE.out.2
        have h3 := congrArg List.length HES.out
        rw [plsOf_len] at h3
        rw [List.take_of_length_le (by have := HL.out; omega)] at h2
        exact ⟨h2, HI.out.own h1 (fun b hb => (h1.lt b hb).2)⟩)
      go_wp2_with fail
      go_ret
      exact ⟨C, c, es', rfl, HF.out.1, HF.out.2, hbw⟩
end
end Go.Proofs.YtglmibmjbignbaaGreatDoor
