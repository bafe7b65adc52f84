/-
  The contracts of slices.Clone at names, of rename and of impl.RenameIn.
-/
import Derived.Test.YthlilfdndpnbkaaGreatDoorMu20
import Derived.Test.YthlilfdndpnbkaaGreatDoorMu21
namespace Go.Proofs.YthlilfdndpnbkaaGreatDoor
set_option linter.unusedVariables false
open Go.RowKit

theorem nm_cells {w : World} {B n : Nat} {b o : Nat} {xs : List Nm} (h : NmAt w B (some ⟨b, o, none⟩) n xs) : ∀ (j : Nat) u, (nmV xs)[j]? = some u → w.cell? ((⟨b, o, none⟩ : Addr).add j) = some u := by
  intro j u hu
  have hj := (List.getElem?_eq_some_iff.1 hu).1
  rw [nmV_len] at hj
  obtain ⟨q, r, rfl, hr⟩ : ∃ q r, j = q * 5 + r ∧ r < 5 := ⟨j / 5, j % 5, by omega, by omega⟩
  have hq : q < xs.length := by omega
  have hx : xs[q]? = some xs[q] := List.getElem?_eq_getElem hq
  obtain ⟨b', o', hA, _, c0, c1, c2, c3, c4⟩ := h.row hx
  obtain ⟨rfl, rfl⟩ : b = b' ∧ o = o' := by injection hA with hA; injection hA with e1 e2; exact ⟨e1, e2⟩
  have hv := nmV_at xs q _ hx
  rw [add_plain']
  match r, hr with
  | 0, _ => rw [show q * 5 + 0 = q * 5 from rfl] at hu ⊢; rw [hv.1] at hu; rw [← Option.some.inj hu]; exact c0
  | 1, _ => rw [hv.2.1] at hu; rw [← Option.some.inj hu]; exact c1
  | 2, _ => rw [hv.2.2.1] at hu; rw [← Option.some.inj hu]; exact c2
  | 3, _ => rw [hv.2.2.2.1] at hu; rw [← Option.some.inj hu]; exact c3
  | 4, _ => rw [hv.2.2.2.2] at hu; rw [← Option.some.inj hu]; exact c4
theorem nm_form {w : World} {base : Nat} {v : Value} {m : Nat} {xs : List Value} {t : TypeId} (h : w.ownsRow base t 5 v m xs) : ∃ A c, v = .slice A m c := by
  rcases h.2 with ⟨rfl, rfl⟩ | ⟨g, cap, cur, rfl, _⟩ <;> exact ⟨_, _, rfl⟩
theorem nm_cap {w : World} {base m c : Nat} {A : Option Addr} {xs : List Value} {t : TypeId} (h : w.ownsRow base t 5 (.slice A m c) m xs) : m ≤ c := by
  rcases h.2 with ⟨hv, h0⟩ | ⟨g, cap, cur, hv, _, _, h3, _⟩
  · omega
  · have : c = cap := by injection hv
    rw [this]; exact h3
theorem nm_ne {w : World} {base m c : Nat} {A : Option Addr} {xs : List Value} {t : TypeId} (h : w.ownsRow base t 5 (.slice A m c) m xs) (hm : 0 < m) : ∃ g, A = some ⟨g, 0, none⟩ := by
  rcases h.2 with ⟨hv, h0⟩ | ⟨g, cap, cur, hv, _⟩
  · omega
  · injection hv with h1; exact ⟨g, h1⟩
theorem five_cells (w : World) (x : Nm) (t : TypeId) (b : Nat) (hb : b = w.heap.size) : ∀ (j : Nat) u, (encN x)[j]? = some u → (w.alloc (.cells #[.string x.t, .string x.l, .int .i64 x.s, .int .i64 x.f, .int .i64 x.u] t)).cell? ((⟨b, 0, none⟩ : Addr).add j) = some u := by
  intro j u hu
  rw [add_plain', World.cell?_alloc_at _ _ _ _ hb, Nat.zero_add, ← Array.getElem?_toList]
  exact hu
theorem five_one (x : Nm) : ∀ u ∈ encN x, u.oneCell' = true := by
  intro u hu; unfold encN at hu; simp at hu; rcases hu with rfl | rfl | rfl | rfl | rfl <;> rfl

set_option maxHeartbeats 1000000 in
set_option maxRecDepth 100000 in
theorem cClone9 (b o n cap : Nat) (xs : List Nm) (w : World) (hbig : n ≤ 1048576) (h : NmAt w w.heap.size (some ⟨b, o, none⟩) n xs) :
    Calls Tryz.prog 102 #[.slice (some ⟨b, o, none⟩) n cap] w fun e w' => (∃ C c, e = .returned (.slice C n c) ∧ w'.ownsRow w.heap.size 27 5 (.slice C n c) n (nmV xs)) ∧ Below w.heap.size w w' := by
  obtain ⟨i0, hi0, hz0, hz1, hz2⟩ := info_parts info_nm
  have hba := (Below.refl w.heap.size w).alloc (Nat.le_refl _) (.cells #[] 27)
  have HC := Lib.hid (nm_cells (h.below hba (Nat.le_refl _)))
  have HL : Hid ((nmV xs).length = n * 5) := Lib.hid (by rw [nmV_len, h.1])
  have he := Lib.run_eql_slice_nil (P := Tryz.prog) w 35 27 (some ⟨b, o, none⟩) n cap 0 0 Tryz.underlying35
  clear h
  go_enter Tryz.func102, Tryz.ntmps102
  go_wp2_with (at_builtin; refine wpList_append_own _ rfl _ _ 35 rfl w.heap.size 27 i0 _ 5 56 Tryz.underlying35 hi0 hz0 hz1 hz2 rfl (by decide) _ 0 [] rfl (World.ownsRow_lit (e := 27) (base := w.heap.size) (size := 5) w #[] 0 (Nat.le_refl _) (by decide) rfl) ⟨b, o, none⟩ n cap (nmV xs) rfl HL.out HC.out (nm_one9 xs) ?d3 ?d4 ?d5 ?_)
  case d3 => unfold maxLen; omega
  case d4 => omega
  case d5 => simp
  intro v' w1 hown1 hgrow1 _
  obtain ⟨C, c, rfl⟩ := nm_form hown1
  have hb1 : Below w.heap.size w w1 := hba.grown hgrow1 (by simp) (fun k hk => by cases hk; exact Nat.le_refl _)
  go_wp2_with fail
  go_ret
  exact ⟨⟨C, c, rfl, by simpa using hown1⟩, hb1⟩

def RnOut (zs : List Nm) (code : Int) (w : World) (e : Ending) (w' : World) : Prop :=
  ∃ A n c v, e = .returned (.tuple #[.slice A n c, v]) ∧ RefV code v ∧ w'.ownsRow w.heap.size 27 5 (.slice A n c) n (nmV zs) ∧ Below w.heap.size w w'
def OutM9 (zs : List Nm) (code : Int) (w : World) (e : Ending) (w' : World) : Prop :=
  ∃ A n c, e = .returned (.tuple #[.slice A n c, .int .i64 code]) ∧ w'.ownsRow w.heap.size 27 5 (.slice A n c) n (nmV zs) ∧ Below w.heap.size w w'
theorem nmV_set4 : ∀ (ys : List Nm) (k : Nat) (x : Nm) (q : Int), ys[k]? = some x → (nmV ys).set (k * 5 + 4) (.int .i64 q) = nmV (ys.set k ⟨x.t, x.l, x.s, x.f, q⟩)
  | [], k, x, q, h => by simp at h
  | y :: ys, 0, x, q, h => by
    obtain rfl : y = x := by simpa using h
    show _ = nmV (_ :: ys); rw [nmV_cons, nmV_cons]; rfl
  | y :: ys, k + 1, x, q, h => by
    have ih := nmV_set4 ys k x q (by simpa using h)
    rw [List.set_cons_succ, nmV_cons, nmV_cons, ← ih, show (k + 1) * 5 + 4 = k * 5 + 4 + 1 + 1 + 1 + 1 + 1 by omega]
    rfl

set_option maxHeartbeats 8000000 in
set_option maxRecDepth 100000 in
theorem cRename9 (A : Option Addr) (n c : Nat) (xs : List Nm) (l : ByteArray) (y : Int) (t : ByteArray) (w : World) (hb : n ≤ 1048576) (hz : Sz9 xs) (hl : l.size ≤ 1048576) (ht : t.size ≤ 1048576) (h : NmAt w w.heap.size A n xs) (hcap : n ≤ c) (hsh : w.ShapedOpen Tryz.prog) (her : Er8 w) :
    Calls Tryz.prog 57 #[.slice A n c, .string l, .int .i64 y, .string t] w (RnOut (rnZ xs l y t) (rnC xs l y t) w) := by
  obtain ⟨i0, hi0, hz0, hz1, hz2⟩ := info_parts info_nm
  have CP := Lib.hid (cIsPhrase_impl t w (by omega) hsh)
  have CF := Lib.hid (fun W (hW : Below w.heap.size w W) => cFindOff A n c xs l y W hb hz (by unfold maxLen; omega) ((h.below hW (Nat.le_refl _)).more hW.size) hcap (shaped_below hsh hW) (her.below hW))
  have CK := Lib.hid (fun B m c' ys W (hW : Below w.heap.size w W) (hm : m ≤ 1048576) (hz' : Sz9 ys) (h' : NmAt W W.heap.size B m ys) (hc' : m ≤ c') => cChkNames B m c' ys W hm hz' h' hc' (shaped_below hsh hW) (her.below hW).e.e)
  have H := Lib.hid h
  have HN := Lib.hid h.1
  have HZ9 := Lib.hid hz
  have HE := Lib.hid (fun W (hW : Below w.heap.size w W) => (her.below hW).e.e.e.p)
  clear h hsh her hz
  cases hp : phraseB t
  · have HC := Lib.hid (rnC_text (xs := xs) (l := l) (y := y) hp)
    have HZ := Lib.hid (rnZ_no (xs := xs) (l := l) (y := y) (t := t) (by rw [HC.out]; decide))
    rw [hp] at CP
    clear hp
    go_enter Tryz.func57, Tryz.ntmps57
    go_wp2_with fail
    refine CP.out.mono ?_
    rintro e w1 ⟨rfl, hb1⟩
    obtain ⟨v, hv⟩ := HE.out w1 hb1
    go_wp2_with fail
    go_quiet (fail)
    go_wp2_with fail
    go_ret2
    exact ⟨none, 0, 0, _, rfl, by rw [HC.out]; exact .inr ⟨by decide, v, rfl⟩, by rw [HZ.out]; exact World.ownsRow_nil _ _ _ _, below_drN_r hb1 _⟩
  rw [hp] at CP
  have HP := Lib.hid hp
  clear hp
  go_enter Tryz.func57, Tryz.ntmps57
  go_wp2_with fail
  refine CP.out.mono ?_
  rintro e w1 ⟨rfl, hb1⟩
  have HB1 := Lib.hid hb1
  clear hb1 CP
  go_wp2_with fail
  refine (CF.out w1 HB1.out).mono ?_
  rintro e w2 ⟨⟨v, rfl, hv⟩, g2⟩
  have hb2 := bstep9 HB1.out HB1.out.size g2
  have HB2 := Lib.hid hb2
  clear g2 hb2 CF
  rcases hv with ⟨hq0, rfl⟩ | ⟨hne, u, rfl⟩
  rotate_left
  · have HC := Lib.hid (rnC_off HP.out hne)
    have HNE := Lib.hid hne
    have HZ := Lib.hid (rnZ_no (xs := xs) (l := l) (y := y) (t := t) (by rw [HC.out]; exact hne))
    clear hne
    go_wp2_with fail
    go_ret2
    exact ⟨none, 0, 0, _, rfl, by rw [HC.out]; exact .inr ⟨HNE.out, u, rfl⟩, by rw [HZ.out]; exact World.ownsRow_nil _ _ _ _, HB2.out⟩
  obtain ⟨hqz, k, hk⟩ := offC_zero hq0
  obtain ⟨x, hx, hou, _⟩ := fst_some (p := ouB l y) hk
  obtain ⟨e1, e2, e3⟩ := qC_zero hqz
  have hgood := rn_good (names_of e1).2 hx hou HP.out e2 e3
  have hkn : k < n := by have := (List.getElem?_eq_some_iff.1 hx).1; have := HN.out; omega
  have hn12 : n ≤ 12 := by have := (names_of e1).1; have := HN.out; omega
  have hlen : xs.length = n := HN.out.symm
  have hbl := rnB_len (x := x) (y := y) (show k < xs.length by omega)
  have HQ0 := Lib.hid hq0
  have HKK := Lib.hid hk
  have HX := Lib.hid hx
  have HG := Lib.hid hgood
  have hzo : offZ xs l y = (k : Int) := offZ_hit hqz hk
  rw [hzo]
  have HSX := Lib.hid (HZ9.out x (List.mem_of_getElem? hx))
  have HSZ : Hid (Sz9 (rnL xs k x y t l)) := Lib.hid (fun z hz => by
    obtain ⟨j, hj⟩ := List.mem_iff_getElem?.1 hz
    unfold rnL at hj
    by_cases hlj : j < (rnB xs k x y).length
    · rw [List.getElem?_append_left hlj] at hj
      rcases rnB_at hx hj with ⟨rfl, _⟩ | ⟨i, _, hi, _⟩
      · exact HSX.out
      · exact HZ9.out z (List.mem_of_getElem? hi)
    · rw [List.getElem?_append_right (by omega)] at hj
      have h2 := (List.getElem?_eq_some_iff.1 hj).1
      simp at h2
      have he : j - (rnB xs k x y).length = 0 := by omega
      rw [he] at hj
      simp at hj
      subst hj
      exact ⟨ht, hl⟩)
  have HBL : Hid ((rnB xs k x y).length ≤ n) := Lib.hid (by omega)
  clear hq0 hqz hk hou e1 e2 e3 hgood hzo hlen hbl HZ9
  obtain ⟨b, o, rfl, hbo, c0, c1, c2, c3, c4⟩ := (H.out.below HB2.out (Nat.le_refl _)).row hx
  have CC := Lib.hid (cClone9 b o n c xs w2 hb ((H.out.below HB2.out (Nat.le_refl _)).more HB2.out.size))
  clear hx c0 c1 c2 c3 c4
  have u1 : (0 : Int) ≤ (k : Int) := Int.natCast_nonneg _
  have u2 : (k : Int) < (n : Int) := by omega
  go_wp2_with fail
  refine CC.out.mono ?_
  rintro e w3 ⟨⟨C, cc, rfl, hown⟩, g3⟩
  have hb3 := bstep9 HB2.out HB2.out.size g3
  have hown' := World.ownsRow.mono hown HB2.out.size
  obtain ⟨g, rfl⟩ := nm_ne hown' (by omega)
  obtain ⟨b', o', hA', _, c0, c1, c2, c3, c4⟩ := (H.out.below hb3 (Nat.le_refl _)).row HX.out
  obtain ⟨rfl, rfl⟩ : b = b' ∧ o = o' := by injection hA' with hA'; injection hA' with e1 e2; exact ⟨e1, e2⟩
  have HO3 := Lib.hid hown'
  have HB3 := Lib.hid hb3
  clear hown hown' g3 hb3 hA' CC
  have hb4 := HB3.out.alloc HB3.out.size (.cells #[.int .i64 x.f, .int .i64 x.u] 25)
  have ho4 := HO3.out.alloc (.cells #[.int .i64 x.f, .int .i64 x.u] 25)
  have HB4 := Lib.hid hb4
  have HO4 := Lib.hid ho4
  have hgl := (HO3.out.lt g rfl).2
  have hglo := (HO3.out.lt g rfl).1
  clear hb4 ho4
  by_cases hf : x.f = y
  · have z1 : (x.f == y) = true := by simp [hf]
    have CD := Lib.hid (fun W (ho : W.ownsRow w.heap.size 27 5 (.slice (some ⟨g, 0, none⟩) n cc) n (nmV xs)) => cDelete9 w.heap.size g n cc k xs W hb hkn ho)
    have HRB : Hid (rnB xs k x y = xs.eraseIdx k) := Lib.hid (by unfold rnB; rw [if_pos hf])
    have HLB : Hid ((rnB xs k x y).length = n - 1) := Lib.hid (by rw [HRB.out, List.length_eraseIdx_of_lt (by have := HN.out; omega)]; have := HN.out; omega)
    clear hf
    go_wp2_with fail
    refine (CD.out _ HO4.out).mono ?_
    rintro e w5 ⟨rfl, hown5, hg5⟩
    have hbox : w5.cell? ⟨w3.heap.size, 1, none⟩ = some (.int .i64 x.u) := by
      rw [World.cell?_of_block (a := ⟨w3.heap.size, 1, none⟩) (hg5.block w3.heap.size (by simp) (by simp; omega))]
      rw [World.cell?_alloc_at _ _ _ _ rfl]; rfl
    have hb5 := HB4.out.grown hg5 HB4.out.size (fun k hk => by cases hk; exact hglo)
    rw [← HRB.out] at hown5
    have HO5 := Lib.hid hown5
    have HB5 := Lib.hid hb5
    clear hown5 hg5 hb5
    go_wp2_with (at_builtin; refine wpList_append_own _ rfl _ _ 35 rfl w.heap.size 27 i0 _ 5 56 Tryz.underlying35 hi0 hz0 hz1 hz2 rfl (by decide) _ _ _ rfl (HO5.out.alloc _) ⟨w5.heap.size, 0, none⟩ 1 1 (encN (newN t l y x.u)) rfl rfl (five_cells _ (newN t l y x.u) _ _ rfl) (five_one _) ?d3 ?d4 ?d5 ?_)
    case d3 => unfold maxLen; omega
    case d4 => omega
    case d5 => have := HB5.out.size; simp; omega
    intro v' w6 hown6 hgrow6 _
    rw [← nmV_one, ← nmV_app] at hown6
    have hb6 : Below w.heap.size w w6 := (HB5.out.alloc HB5.out.size _).grown hgrow6 (by have := HB5.out.size; simp; omega) (fun x hx => (HO5.out.lt x hx).1)
    obtain ⟨D, d, rfl⟩ := nm_form hown6
    have HO6 := Lib.hid hown6
    have HB6 := Lib.hid hb6
    have CQ := Lib.hid (CK.out D (n - 1 + 1) d (rnL xs k x y t l) w6 hb6 (by omega) HSZ.out (own_nm hown6) (nm_cap hown6))
    have HL6 : Hid ((rnL xs k x y t l).length ≤ 12) := Lib.hid (by unfold rnL; rw [List.length_append, HLB.out]; simp; omega)
    have HNM := Lib.hid (names_yes HL6.out HG.out)
    have HC := Lib.hid (rnC_ok HP.out HQ0.out HKK.out HX.out HL6.out)
    have HZ := Lib.hid (rnZ_ok HC.out HKK.out HX.out)
    clear hown6 hgrow6 hb6
    go_wp2_with fail
    refine CQ.out.mono ?_
    rintro e w7 ⟨⟨v, rfl, hv⟩, g7⟩
    obtain rfl : v = .nilIface := by
      rcases hv with ⟨_, h⟩ | ⟨h, _⟩
      · exact h
      · rw [HNM.out] at h; cases h
    have HO7 := Lib.hid (kept9 HO6.out g7)
    have hb7 := bstep9 HB6.out HB6.out.size g7
    clear hv g7
    go_wp2_with fail
    go_ret2
    exact ⟨D, n - 1 + 1, d, .nilIface, rfl, by rw [HC.out]; exact .inl ⟨rfl, rfl⟩, by rw [HZ.out]; exact HO7.out, hb7⟩
  · have z1 : (x.f == y) = false := by simp [hf]
    have HRB : Hid (rnB xs k x y = xs.set k (oldN x y)) := Lib.hid (by unfold rnB; rw [if_neg hf])
    have HLB : Hid ((rnB xs k x y).length = n) := Lib.hid (by rw [HRB.out, List.length_set]; exact HN.out.symm)
    have hlv := HO3.out.1
    obtain ⟨v4, d4⟩ : ∃ v, w3.cell? ⟨g, k * 5 + 4, none⟩ = some v := ⟨_, (HO3.out.cellAt (k * 5 + 4) (by omega)).trans (List.getElem?_eq_getElem (by omega))⟩
    have f4 := HO3.out.frozenAt (k * 5 + 4)
    have hst := HO3.out.stored (k * 5 + 4) (.int .i64 (y - 1))
    have hr5 := hst.1.alloc (.cells #[.int .i64 x.f, .int .i64 x.u] 25)
    rw [nmV_set4 xs k x (y - 1) HX.out, show (⟨x.t, x.l, x.s, x.f, y - 1⟩ : Nm) = oldN x y from rfl, ← HRB.out] at hr5
    have hb5 := (HB3.out.setCell (p := ⟨g, k * 5 + 4, none⟩) hglo (.int .i64 (y - 1))).alloc (by simpa using HB3.out.size) (.cells #[.int .i64 x.f, .int .i64 x.u] 25)
    have HO5 := Lib.hid hr5
    have HB5 := Lib.hid hb5
    have hne : ¬ g = w3.heap.size := by omega
    have hy3 : -3000 ≤ y ∧ y ≤ 3000 := by
      have h1 := (qC_zero (offC_zero HQ0.out).1).2.2
      unfold yrB at h1; simp at h1; exact h1
    obtain ⟨hy1, hy2⟩ := hy3
    clear hf hlv hst hr5 hb5
    go_wp2_with (at_builtin; refine wpList_append_own _ rfl _ _ 35 rfl w.heap.size 27 i0 _ 5 56 Tryz.underlying35 hi0 hz0 hz1 hz2 rfl (by decide) _ _ _ rfl (HO5.out.alloc _) ⟨w3.heap.size + 1, 0, none⟩ 1 1 (encN (newN t l y x.u)) rfl rfl (five_cells _ (newN t l y x.u) _ _ (by simp)) (five_one _) ?d3 ?d4 ?d5 ?_)
    case d3 => unfold maxLen; omega
    case d4 => omega
    case d5 => have := HB3.out.size; simp; omega
    intro v' w6 hown6 hgrow6 _
    rw [← nmV_one, ← nmV_app] at hown6
    have hb6 : Below w.heap.size w w6 := (HB5.out.alloc HB5.out.size _).grown hgrow6 (by have := HB3.out.size; simp; omega) (fun x hx => (HO5.out.lt x hx).1)
    obtain ⟨D, d, rfl⟩ := nm_form hown6
    have HO6 := Lib.hid hown6
    have HB6 := Lib.hid hb6
    have CQ := Lib.hid (CK.out D (n + 1) d (rnL xs k x y t l) w6 hb6 (by omega) HSZ.out (own_nm hown6) (nm_cap hown6))
    have HLL : Hid ((rnL xs k x y t l).length = n + 1) := Lib.hid (by unfold rnL; rw [List.length_append, HLB.out]; simp)
    clear hown6 hgrow6 hb6
    by_cases h12 : n + 1 ≤ 12
    · have HNM := Lib.hid (names_yes (show (rnL xs k x y t l).length ≤ 12 by rw [HLL.out]; exact h12) HG.out)
      have HC := Lib.hid (rnC_ok HP.out HQ0.out HKK.out HX.out (show (rnL xs k x y t l).length ≤ 12 by rw [HLL.out]; exact h12))
      have HZ := Lib.hid (rnZ_ok HC.out HKK.out HX.out)
      go_wp2_with fail
      refine CQ.out.mono ?_
      rintro e w7 ⟨⟨v, rfl, hv⟩, g7⟩
      obtain rfl : v = .nilIface := by
        rcases hv with ⟨_, h⟩ | ⟨h, _⟩
        · exact h
        · rw [HNM.out] at h; cases h
      have HO7 := Lib.hid (kept9 HO6.out g7)
      have hb7 := bstep9 HB6.out HB6.out.size g7
      clear hv g7
      go_wp2_with fail
      go_ret2
      exact ⟨D, n + 1, d, .nilIface, rfl, by rw [HC.out]; exact .inl ⟨rfl, rfl⟩, by rw [HZ.out]; exact HO7.out, hb7⟩
    · have HNM := Lib.hid (names_long (show 12 < (rnL xs k x y t l).length by rw [HLL.out]; omega))
      have HC := Lib.hid (rnC_many HP.out HQ0.out HKK.out HX.out (show 12 < (rnL xs k x y t l).length by rw [HLL.out]; omega))
      have HZ := Lib.hid (rnZ_no (xs := xs) (l := l) (y := y) (t := t) (by rw [HC.out]; decide))
      go_wp2_with fail
      refine CQ.out.mono ?_
      rintro e w7 ⟨⟨v, rfl, hv⟩, g7⟩
      obtain ⟨u, rfl⟩ : ∃ u, v = .iface 257 u := by
        rcases hv with ⟨h, _⟩ | ⟨_, h⟩
        · rw [HNM.out] at h; cases h
        · exact h
      have hb7 := bstep9 HB6.out HB6.out.size g7
      clear hv g7
      go_wp2_with fail
      go_ret2
      exact ⟨none, 0, 0, _, rfl, by rw [HC.out]; exact .inr ⟨by decide, u, rfl⟩, by rw [HZ.out]; exact World.ownsRow_nil _ _ _ _, hb7⟩

set_option maxHeartbeats 1000000 in
theorem cRn_impl (A : Option Addr) (n c : Nat) (xs : List Nm) (l : ByteArray) (y : Int) (t : ByteArray) (w : World) (hb : n ≤ 1048576) (hz : Sz9 xs) (hl : l.size ≤ 1048576) (ht : t.size ≤ 1048576) (h : NmAt w w.heap.size A n xs) (hcap : n ≤ c) (hsh : w.ShapedOpen Tryz.prog) (her : Er8 w) :
    Calls Tryz.prog 15 #[.slice A n c, .string l, .int .i64 y, .string t] w (OutM9 (rnZ xs l y t) (rnC xs l y t) w) := by
  have CF := Lib.hid (cRename9 A n c xs l y t w hb hz hl ht h hcap hsh her)
  have CN := Lib.hid (fun W => cCodeNil W)
  have CR := Lib.hid (fun (q : Int) u W (hW : Below w.heap.size w W) => cCodeRef q (.iface 257 u) W rfl (her.e.t.below hW))
  clear h hsh her hz
  obtain ⟨z, hz⟩ : ∃ z, z = rnZ xs l y t := ⟨_, rfl⟩
  obtain ⟨q, hq⟩ : ∃ q, q = rnC xs l y t := ⟨_, rfl⟩
  rw [← hz, ← hq] at CF ⊢
  clear hz hq
  go_enter Tryz.func15, Tryz.ntmps15
  go_wp2_with fail
  refine CF.out.mono ?_
  rintro e w1 ⟨D, m, d, v, rfl, hv, hown, hb1⟩
  rcases hv with ⟨rfl, rfl⟩ | ⟨_, u, rfl⟩
  · go_wp2_with fail
    refine (CN.out _).mono ?_
    rintro e w2 ⟨rfl, hb2⟩
    have HO := Lib.hid (kept9 hown hb2)
    have hbt := bstep9 hb1 hb1.size hb2
    clear hown hb1 hb2
    go_wp2_with fail
    go_ret2
    exact ⟨D, m, d, rfl, HO.out, hbt⟩
  · go_wp2_with fail
    refine (CR.out _ _ _ hb1).mono ?_
    rintro e w2 ⟨rfl, hb2⟩
    have HO := Lib.hid (kept9 hown hb2)
    have hbt := bstep9 hb1 hb1.size hb2
    clear hown hb1 hb2
    go_wp2_with fail
    go_ret2
    exact ⟨D, m, d, rfl, HO.out, hbt⟩
end Go.Proofs.YthlilfdndpnbkaaGreatDoor
