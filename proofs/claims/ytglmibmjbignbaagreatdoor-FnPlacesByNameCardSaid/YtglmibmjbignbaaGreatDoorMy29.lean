/-
  The contracts of findBest and impl.BestIn.
-/
import Derived.Test.YtglmibmjbignbaaGreatDoorMy28
import Derived.Test.YtglmibmjbignbaaGreatDoorMy22
import Derived.Test.YtglmibmjbignbaaGreatDoorMy25
import Derived.Test.YtglmibmjbignbaaGreatDoorPlFS
namespace Go.Proofs.YtglmibmjbignbaaGreatDoor
section
set_option linter.unusedVariables false
open Go.RowKit

set_option maxHeartbeats 4000000 in
set_option maxRecDepth 100000 in
theorem cFindBest (A B : Option Addr) (n c n2 c2 : Nat) (xs : List Nm) (ls : List ByteArray) (y : Int) (w : World) (hb : n ≤ 1048576) (hb2 : n2 ≤ 1048576) (hz : Sz9 xs) (hl : ∀ x ∈ ls, x.size ≤ maxLen) (h : NmAt w w.heap.size A n xs) (hcap : n ≤ c) (h2 : TextAt w w.heap.size B n2 ls) (hsh : w.ShapedOpen Tryz.prog) (her : Er8 w) :
    Calls Tryz.prog 177 #[.slice A n c, .slice B n2 c2, .int .i64 y] w (FindOut (beZ xs ls y) (beC xs ls y) w) := by
  have CQ := Lib.hid (cQuest A B n c n2 c2 xs ls y w hb hb2 hz hl h hcap h2 hsh her.e)
  have HN2 := Lib.hid h2.1
  have H2 := Lib.hid h2
  have CL := Lib.hid (fun l W (hW : Below w.heap.size w W) => cLeast9 A n c xs l y W hb ((h.below hW (Nat.le_refl _)).more hW.size))
  have HE := Lib.hid (fun W (hW : Below w.heap.size w W) => (her.below hW).k)
  clear h h2 hsh her hz hl
  obtain ⟨q, hq⟩ : ∃ q, q = qC xs ls y := ⟨_, rfl⟩
  rw [← hq] at CQ
  go_enter Tryz.func177, Tryz.ntmps177
  go_wp2_with fail
  refine CQ.out.mono ?_
  rintro e w1 ⟨⟨v, rfl, hv⟩, hb1⟩
  rcases hv with ⟨rfl, rfl⟩ | ⟨hne, u, rfl⟩
  rotate_left
  · have HZ := Lib.hid (beZ_bad (xs := xs) (ls := ls) (y := y) (by rw [← hq]; exact hne))
    have HC : Hid (beC xs ls y = q) := Lib.hid ((beC_bad (by rw [← hq]; exact hne)).trans hq.symm)
    have HQ := Lib.hid hne
    clear hq hne
    go_wp2_with fail
    go_ret2
    exact ⟨⟨.iface 209 (.agg #[.int .i64 q, .iface 257 u]), by rw [HZ.out]; rfl, .inr ⟨by rw [HC.out]; exact HQ.out, u, by rw [HC.out]⟩⟩, hb1⟩
  have HQ := Lib.hid hq.symm
  have HB1 := Lib.hid hb1
  clear hq hb1 CQ
  go_wp2_with fail
  go_loopw [22] (fun i wr => ∃ k : Nat, k ≤ n2 ∧ i = .int .i64 k ∧ Hid (∀ (j : Nat) z, j < k → ls[j]? = some z → lsF xs z y xs.length = none) ∧ Below w.heap.size w wr) (fun i _ => n2 - (intOf i).toNat)
  case atStart => exact ⟨0, Nat.zero_le _, rfl, Lib.hid (fun j z hj => by omega), HB1.out⟩
  case round =>
    obtain ⟨k, hk, rfl, HA, hbw⟩ := hrel
    by_cases hlt : k < n2
    · obtain ⟨l, hx⟩ : ∃ x, ls[k]? = some x := ⟨ls[k]'(by have := HN2.out; omega), List.getElem?_eq_getElem _⟩
      obtain ⟨b, o, rfl, hbl, c0⟩ := (H2.out.below hbw (Nat.le_refl _)).row2 hx
      have HX := Lib.hid hx
      have CX := Lib.hid (CL.out l wr hbw)
      have u1 : (0 : Int) ≤ (k : Int) := Int.natCast_nonneg _
      have u2 : (k : Int) < (n2 : Int) := by omega
      clear hx
      cases ho : lsF xs l y xs.length with
      | none =>
        rw [ho] at CX
        dsimp only [leastV] at CX
        have HA2 : Hid (∀ (j : Nat) z, j < k + 1 → ls[j]? = some z → lsF xs z y xs.length = none) := Lib.hid (fun j z hj hjz => by
          by_cases hl : j < k
          · exact HA.out j z hl hjz
          · obtain rfl : j = k := by omega
            rw [HX.out] at hjz; obtain rfl := Option.some.inj hjz; exact ho)
        clear ho
        go_wp2_with fail
        refine CX.out.mono ?_
        rintro e w2 ⟨rfl, g2⟩
        have hbt := bstep9 hbw hbw.size g2
        clear g2 CX
        go_wp2_with fail
        go_roundw
        case rel => exact ⟨k + 1, by omega, by go_num, HA2, hbt⟩
        case measure => simp [intOf]; omega
      | some m =>
        rw [ho] at CX
        dsimp only [leastV] at CX
        have HF := Lib.hid (best_hit ho HX.out HA.out)
        clear ho
        go_wp2_with fail
        refine CX.out.mono ?_
        rintro e w2 ⟨rfl, g2⟩
        have hbt := bstep9 hbw hbw.size g2
        clear g2 CX
        go_wp2_with fail
        go_ret2
        exact ⟨⟨.nilIface, by rw [beZ_hit HQ.out HF.out]; rfl, .inl ⟨beC_hit HQ.out HF.out, rfl⟩⟩, hbt⟩
    · have HF := Lib.hid (best_miss (xs := xs) (y := y) (ls := ls) (fun j z hj => HA.out j z (by have h1 := (List.getElem?_eq_some_iff.1 hj).1; have := HN2.out; omega) hj))
      obtain ⟨v, hv⟩ := HE.out wr hbw
      go_wp2_with fail
      go_quiet (fail)
      go_wp2_with fail
      go_ret2
      exact ⟨⟨.iface 209 (.agg #[.int .i64 4, .iface 257 v]), by rw [beZ_miss HQ.out HF.out]; rfl, .inr ⟨by rw [beC_miss HQ.out HF.out]; decide, v, by rw [beC_miss HQ.out HF.out]⟩⟩, below_drN_r hbw _⟩

set_option maxHeartbeats 1000000 in
theorem cBest_impl (A B : Option Addr) (n c n2 c2 : Nat) (xs : List Nm) (ls : List ByteArray) (y : Int) (w : World) (hb : n ≤ 1048576) (hb2 : n2 ≤ 1048576) (hz : Sz9 xs) (hl : ∀ x ∈ ls, x.size ≤ maxLen) (h : NmAt w w.heap.size A n xs) (hcap : n ≤ c) (h2 : TextAt w w.heap.size B n2 ls) (hsh : w.ShapedOpen Tryz.prog) (her : Er8 w) :
    Calls Tryz.prog 146 #[.slice A n c, .slice B n2 c2, .int .i64 y] w fun e w' => e = .returned (.tuple #[.int .i64 (beZ xs ls y), .int .i64 (beC xs ls y)]) ∧ Below w.heap.size w w' := by
  have CF := Lib.hid (cFindBest A B n c n2 c2 xs ls y w hb hb2 hz hl h hcap h2 hsh her)
  have CN := Lib.hid (fun W => cCodeNil W)
  have CR := Lib.hid (fun (q : Int) u W (hW : Below w.heap.size w W) => cCodeRef q (.iface 257 u) W rfl (her.e.t.below hW))
  clear h h2 hsh her hz
  obtain ⟨z, hz⟩ : ∃ z, z = beZ xs ls y := ⟨_, rfl⟩
  obtain ⟨q, hq⟩ : ∃ q, q = beC xs ls y := ⟨_, rfl⟩
  rw [← hz, ← hq] at CF ⊢
  clear hz hq
  go_enter Tryz.func146, Tryz.ntmps146
  go_wp2_with fail
  refine CF.out.mono ?_
  rintro e w1 ⟨⟨v, rfl, hv⟩, hb1⟩
  rcases hv with ⟨rfl, rfl⟩ | ⟨_, u, rfl⟩
  · go_wp2_with fail
    refine (CN.out _).mono ?_
    rintro e w2 ⟨rfl, hb2⟩
    go_wp2_with fail
    go_ret2
    exact ⟨rfl, bstep9 hb1 hb1.size hb2⟩
  · go_wp2_with fail
    refine (CR.out _ _ _ hb1).mono ?_
    rintro e w2 ⟨rfl, hb2⟩
    go_wp2_with fail
    go_ret2
    exact ⟨rfl, bstep9 hb1 hb1.size hb2⟩
end
section
set_option linter.unusedVariables false
open Go.RowKit

def btV (o : Option ByteArray) : Value := match o with | some t => .tuple #[.string t, .bool true] | none => .tuple #[.string ⟨#[]⟩, .bool false]
set_option maxHeartbeats 1000000 in
theorem cBestText (A B : Option Addr) (n c n2 c2 : Nat) (xs : List Nm) (ls : List ByteArray) (y : Int) (w : World) (hb : n ≤ 1048576) (hb2 : n2 ≤ 1048576) (hz : Sz9 xs) (hl : ∀ x ∈ ls, x.size ≤ maxLen) (h : NmAt w w.heap.size A n xs) (hcap : n ≤ c) (h2 : TextAt w w.heap.size B n2 ls) (hsh : w.ShapedOpen Tryz.prog) (her : Er8 w) (hq : qC xs ls y = 0) :
    Calls Tryz.prog 104 #[.slice A n c, .slice B n2 c2, .int .i64 y] w fun e w' => e = .returned (btV (bestT xs y ls)) ∧ Below w.heap.size w w' := by
  have CB := Lib.hid (cBest_impl A B n c n2 c2 xs ls y w hb hb2 hz hl h hcap h2 hsh her)
  have H := Lib.hid h
  have HN := Lib.hid h.1
  clear h h2 hsh her hz hl
  cases ho : bestF xs y ls with
  | none =>
    rw [bestT_none ho]
    rw [beZ_miss hq ho, beC_miss hq ho] at CB
    clear ho hq
    dsimp only [btV]
    go_enter Tryz.func104, Tryz.ntmps104
    go_wp2_with fail
    refine CB.out.mono ?_
    rintro e w1 ⟨rfl, g1⟩
    go_wp2_with fail
    go_ret2
    exact ⟨rfl, g1⟩
  | some k =>
    obtain ⟨x, hx⟩ := bestF_at ho
    rw [bestT_some ho hx]
    rw [beZ_hit hq ho, beC_hit hq ho] at CB
    have u1 : (0 : Int) ≤ (k : Int) := Int.natCast_nonneg _
    have u2 : (k : Int) < (n : Int) := by have := HN.out; have := (List.getElem?_eq_some_iff.1 hx).1; omega
    have HX := Lib.hid hx
    clear ho hq hx
    dsimp only [btV]
    go_enter Tryz.func104, Tryz.ntmps104
    go_wp2_with fail
    refine CB.out.mono ?_
    rintro e w1 ⟨rfl, g1⟩
    obtain ⟨b, o, rfl, hbl, c0, c1, c2', c3, c4⟩ := (H.out.below g1 (Nat.le_refl _)).row HX.out
    go_wp2_with fail
    go_ret2
    exact ⟨rfl, g1⟩
set_option maxHeartbeats 4000000 in
set_option maxRecDepth 100000 in
theorem cNa_impl (A B : Option Addr) (n c n2 c2 : Nat) (ps : List Pl) (s : ByteArray) (ls : List ByteArray) (y : Int) (w : World) (hb : n ≤ 1048576) (hb2 : n2 ≤ 1048576) (hz : Sz11 ps) (hs : s.size ≤ maxLen) (hl : ∀ x ∈ ls, x.size ≤ maxLen) (h : PlAt w w.heap.size A n ps) (h2 : TextAt w w.heap.size B n2 ls) (hsh : w.ShapedOpen Tryz.prog) (her : Er8 w) :
    Calls Tryz.prog 36 #[.slice A n c, .string s, .slice B n2 c2, .int .i64 y] w fun e w' => e = .returned (.tuple #[.string (naT ps s ls y), .int .i64 (naC ps s ls y)]) ∧ Below w.heap.size w w' := by
  have CA := Lib.hid (fun W (hW : Below w.heap.size w W) => cAllLang B n2 c2 ls W hb2 hl ((h2.below hW (Nat.le_refl _)).more hW.size))
  have CF := Lib.hid (cFindIn A n c ps s y w hb hz hs h hsh her.e.e)
  have H := Lib.hid h
  have HN := Lib.hid h.1
  rcases na_cases ps s ls y with ⟨e1, e2, e3⟩ | ⟨e1, e2, e3, e4⟩ | ⟨p, e1, e2, e3, hp, e5, hq, e6, e7⟩
  · rw [e2, e3]
    rw [e1] at CA
    clear h h2 hsh her hz hl e1 e2 e3 CF hs
    go_enter Tryz.func36, Tryz.ntmps36
    go_wp2_with fail
    refine (CA.out _ (Below.refl _ _)).mono ?_
    rintro e w1 ⟨rfl, rfl⟩
    go_wp2_with fail
    go_ret2
    exact ⟨rfl, Below.refl _ _⟩
  · rw [e3, e4]
    rw [e1] at CA
    obtain ⟨q, hq⟩ : ∃ q, q = pcC ps s y := ⟨_, rfl⟩
    obtain ⟨z, hz'⟩ : ∃ z, z = plZ ps s y := ⟨_, rfl⟩
    rw [← hq, ← hz'] at CF
    rw [← hq] at e2 ⊢
    have hq0 : (q != 0) = true := by simpa using e2
    clear h h2 hsh her hz hl e1 e2 e3 e4 hq hz' hs
    go_enter Tryz.func36, Tryz.ntmps36
    go_wp2_with fail
    refine (CA.out _ (Below.refl _ _)).mono ?_
    rintro e w1 ⟨rfl, rfl⟩
    go_wp2_with fail
    refine CF.out.mono ?_
    rintro e w1 ⟨rfl, g1⟩
    go_wp2_with fail
    go_ret2
    exact ⟨rfl, g1⟩
  · rw [e6, e7]
    rw [e1] at CA
    rw [plZ_ok e2, e2] at CF
    have hpz := hz p (List.mem_of_getElem? hp)
    have CT := Lib.hid (fun A1 d1 W (hW : Below w.heap.size w W) (hn : NmAt W W.heap.size A1 p.ns.length p.ns) (hd : p.ns.length ≤ d1) => cBestText A1 B p.ns.length d1 n2 c2 p.ns ls y W hpz.2.1 hb2 hpz.2.2 hl hn hd ((h2.below hW (Nat.le_refl _)).more hW.size) (shaped_below hsh hW) (her.below hW) hq)
    obtain ⟨a, ha⟩ : ∃ a, a = atP ps s := ⟨_, rfl⟩
    rw [← ha] at CF hp
    have u1 : (0 : Int) ≤ (a : Int) := Int.natCast_nonneg _
    have u2 : (a : Int) < (n : Int) := by have := (List.getElem?_eq_some_iff.1 hp).1; have := HN.out; omega
    have HP := Lib.hid hp
    obtain ⟨t, ht⟩ : ∃ t, t = bestT p.ns y ls := ⟨_, rfl⟩
    rw [← ht] at CT ⊢
    clear h h2 hsh her hz hl e1 e2 e3 e5 e6 e7 hq hp ha hpz ht hs
    go_enter Tryz.func36, Tryz.ntmps36
    go_wp2_with fail
    refine (CA.out _ (Below.refl _ _)).mono ?_
    rintro e w1 ⟨rfl, rfl⟩
    go_wp2_with fail
    refine CF.out.mono ?_
    rintro e w1 ⟨rfl, g1⟩
    obtain ⟨b, o, rfl, hbl, A1, d1, c0, c1, c2, c3, c4, hnm, hd1⟩ := (H.out.below g1 (Nat.le_refl _)).row HP.out
    have CE := Lib.hid (cEntry p A1 d1 w1)
    unfold plv11 enA at CE
    have HB1 := Lib.hid g1
    have HNM1 := Lib.hid (hnm.more g1.size)
    have HD := Lib.hid hd1
    clear hnm g1 hd1
    go_wp2_with fail
    refine CE.out.mono ?_
    rintro e w2 ⟨rfl, g2⟩
    have hb2 := bstep9 HB1.out HB1.out.size g2
    have CT2 := Lib.hid (CT.out A1 d1 w2 hb2 (HNM1.out.grow g2) HD.out)
    have hfd : ∀ W : World, (Instr.field 87 (.agg #[.slice A1 p.ns.length d1, .string p.c, .int .i64 p.k, .int .i64 p.f, .int .i64 p.u]) 0).run Tryz.prog W = .ok (.slice A1 p.ns.length d1) W := fun _ => rfl
    clear c0 c1 c2 c3 c4 g2
    cases t with
    | none =>
      dsimp only [btV] at CT2
      go_wp2_with fail
      refine CT2.out.mono ?_
      rintro e w3 ⟨rfl, g3⟩
      go_wp2_with fail
      go_ret2
      exact ⟨rfl, bstep9 hb2 hb2.size g3⟩
    | some t =>
      dsimp only [btV] at CT2
      go_wp2_with fail
      refine CT2.out.mono ?_
      rintro e w3 ⟨rfl, g3⟩
      go_wp2_with fail
      go_ret2
      exact ⟨rfl, bstep9 hb2 hb2.size g3⟩
end
section
set_option linter.unusedVariables false
open Go.RowKit

/-- One step of the search for the least status over the used ones. -/
def lsStep (xs : List Nm) (l : ByteArray) (acc : Option Nat) (v : Int) : Option Nat := match xs[v.toNat]? with
  | some x => if decide (x.l = l) then (match acc with
      | some b => (match xs[b]? with | some z => if decide (x.s < z.s) then some v.toNat else some b | none => some b)
      | none => some v.toNat) else acc
  | none => acc
theorem st_skip {xs : List Nm} {l : ByteArray} {acc : Option Nat} {i : Nat} {x : Nm} (h : xs[i]? = some x) (hl : ¬ x.l = l) : lsStep xs l acc (i : Int) = acc := by
  simp only [lsStep, Int.toNat_natCast, h, decide_eq_false hl]; rfl
theorem st_first {xs : List Nm} {l : ByteArray} {i : Nat} {x : Nm} (h : xs[i]? = some x) (hl : x.l = l) : lsStep xs l none (i : Int) = some i := by
  simp only [lsStep, Int.toNat_natCast, h, decide_eq_true hl]; rfl
theorem st_better {xs : List Nm} {l : ByteArray} {b i : Nat} {x z : Nm} (h : xs[i]? = some x) (hl : x.l = l) (hz : xs[b]? = some z) (hs : x.s < z.s) : lsStep xs l (some b) (i : Int) = some i := by
  simp only [lsStep, Int.toNat_natCast, h, decide_eq_true hl, hz, decide_eq_true hs]; rfl
theorem st_worse {xs : List Nm} {l : ByteArray} {b i : Nat} {x z : Nm} (h : xs[i]? = some x) (hl : x.l = l) (hz : xs[b]? = some z) (hs : ¬ x.s < z.s) : lsStep xs l (some b) (i : Int) = some b := by
  simp only [lsStep, Int.toNat_natCast, h, decide_eq_true hl, hz, decide_eq_false hs]; rfl
theorem ls_fold (xs : List Nm) (l : ByteArray) (y : Int) : ∀ k, k ≤ xs.length → (usP xs y k).foldl (lsStep xs l) none = lsF xs l y k
  | 0, _ => rfl
  | k + 1, h => by
    have ih := ls_fold xs l y k (by omega)
    obtain ⟨x, hx⟩ : ∃ x, xs[k]? = some x := ⟨xs[k]'(by omega), List.getElem?_eq_getElem _⟩
    cases hu : usB x y
    · rw [usP_no hx hu, ih, ls_skip hx (by rw [hu, Bool.and_false])]
    · rw [usP_yes hx hu, List.foldl_append, ih]
      show lsStep xs l (lsF xs l y k) (k : Int) = _
      by_cases hl : x.l = l
      · have hcc : (decide (x.l = l) && usB x y) = true := by rw [hu, decide_eq_true hl]; rfl
        cases hb : lsF xs l y k with
        | none => rw [st_first hx hl, ls_first hx hcc hb]
        | some b =>
          obtain ⟨_, z, hz, _⟩ := ls_lt xs l y k b hb
          by_cases hs : x.s < z.s
          · rw [st_better hx hl hz hs, ls_better hx hcc hb hz hs]
          · rw [st_worse hx hl hz hs, ls_worse hx hcc hb hz hs]
      · rw [st_skip hx hl, ls_skip hx (by rw [decide_eq_false hl]; rfl)]
theorem fold_snoc9 {xs : List Nm} {l : ByteArray} {u : List Int} {k : Nat} {v : Int} (h : u[k]? = some v) : (u.take (k + 1)).foldl (lsStep xs l) none = lsStep xs l ((u.take k).foldl (lsStep xs l) none) v := by
  rw [take_snoc9 h, List.foldl_append]; rfl
theorem qC_all {xs : List Nm} {ls : List ByteArray} {y : Int} (h : ls.all langB = true) : qC xs ls y = qC xs [] y := by unfold qC; rw [h]; simp

set_option maxHeartbeats 8000000 in
set_option maxRecDepth 100000 in
theorem cL09Best (A B : Option Addr) (n c n2 c2 : Nat) (xs : List Nm) (ls : List ByteArray) (y : Int) (w : World) (hb : n ≤ 1048576) (hb2 : n2 ≤ 1048576) (h : NmAt w w.heap.size A n xs) (h2 : TextAt w w.heap.size B n2 ls) :
    Calls Tryz.prog 106 #[.slice A n c, .slice B n2 c2, .int .i64 y] w fun e w' => e = .returned (.int .i64 (offN (bestF xs y ls))) ∧ Below w.heap.size w w' := by
  have CU := Lib.hid (cL09Used A n c xs y w hb h)
  have H := Lib.hid h
  have HN := Lib.hid h.1
  have H2 := Lib.hid h2
  have HN2 := Lib.hid h2.1
  have HF := Lib.hid (fun l => ls_fold xs l y xs.length (Nat.le_refl _))
  clear h h2
  go_enter Tryz.func106, Tryz.ntmps106
  go_wp2_with fail
  refine CU.out.mono ?_
  rintro e w1 ⟨U, m, d, rfl, hown, hb1⟩
  rw [HN.out] at hown
  have hU := own_num hown
  have HM : Hid (m = (usP xs y xs.length).length) := Lib.hid hU.1
  have hm9 : m ≤ 1048576 := by have h1 := hU.1; have h2 := usP_len xs y xs.length; have := HN.out; omega
  have HU := Lib.hid hU
  have HME : Hid (∀ (j : Nat) v, (usP xs y xs.length)[j]? = some v → ∃ (i : Nat) (x : Nm), v = (i : Int) ∧ i < n ∧ xs[i]? = some x ∧ usB x y = true) := Lib.hid (fun j v hj => by
    obtain ⟨i, x, h1, h2, h3⟩ := usP_mem xs y xs.length v (List.mem_of_getElem? hj)
    exact ⟨i, x, h1, by have := HN.out; omega, h3⟩)
  have HB1 := Lib.hid hb1
  clear hown hU hb1
  generalize usP xs y xs.length = u at HF HM HU HME
  go_wp2_with fail
  go_loopw [8] (fun i wr => ∃ k : Nat, k ≤ n2 ∧ i = .int .i64 k ∧ Hid (∀ (j : Nat) z, j < k → ls[j]? = some z → lsF xs z y xs.length = none) ∧ Below w1.heap.size w1 wr) (fun i _ => n2 - (intOf i).toNat)
  case atStart => exact ⟨0, Nat.zero_le _, rfl, Lib.hid (fun j z hj => by omega), Below.refl _ _⟩
  case round =>
    rename World => wo
    obtain ⟨k, hk, rfl, HA, hbo⟩ := hrel
    by_cases hlt : k < n2
    · obtain ⟨l, hl⟩ : ∃ x, ls[k]? = some x := ⟨ls[k]'(by have := HN2.out; omega), List.getElem?_eq_getElem _⟩
      have HL := Lib.hid hl
      have HBO := Lib.hid hbo
      have u1 : (0 : Int) ≤ (k : Int) := Int.natCast_nonneg _
      have u2 : (k : Int) < (n2 : Int) := by omega
      clear hl hbo
      go_wp2_with fail
      go_loopw [9, 10] (fun p i wr => ∃ (j : Nat) (acc : Option Nat), j ≤ m ∧ i = .int .i64 j ∧ p = .int .i64 (offN acc) ∧ Hid ((u.take j).foldl (lsStep xs l) none = acc) ∧ Hid (∀ b, acc = some b → ∃ z, xs[b]? = some z) ∧ Below w1.heap.size w1 wr) (fun _ i _ => m - (intOf i).toNat)
      case atStart => exact ⟨0, none, Nat.zero_le _, rfl, rfl, Lib.hid rfl, Lib.hid (fun b hb => by cases hb), HBO.out⟩
      case round =>
        obtain ⟨j, acc, hj, rfl, rfl, HC, HZ, hbr⟩ := hrel
        by_cases hlj : j < m
        · obtain ⟨v, hv⟩ : ∃ v, u[j]? = some v := ⟨u[j]'(by have := HM.out; omega), List.getElem?_eq_getElem _⟩
          obtain ⟨i, x, rfl, hi, hx, hus⟩ := HME.out j v hv
          have hbw := bstep9 HB1.out HB1.out.size hbr
          have HR := Lib.hid ((H.out.below hbw (Nat.le_refl _)))
          obtain ⟨b, o, rfl, hbl, c0, c1, c2', c3, c4⟩ := HR.out.row hx
          obtain ⟨b2, o2, rfl, hbl2, d0⟩ := numAt_row9 (HU.out.below hbr (Nat.le_refl _)) hv
          obtain ⟨b3, o3, rfl, hbl3, e0⟩ := (H2.out.below hbw (Nat.le_refl _)).row2 HL.out
          have HV := Lib.hid (fold_snoc9 (xs := xs) (l := l) hv)
          have HX := Lib.hid hx
          have u3 : (0 : Int) ≤ (j : Int) := Int.natCast_nonneg _
          have u4 : (j : Int) < (m : Int) := by omega
          have u5 : (0 : Int) ≤ (i : Int) := Int.natCast_nonneg _
          have u6 : (i : Int) < (n : Int) := by omega
          clear hx hv hus hbw
          by_cases s2 : x.l = l
          · have z2 : (x.l.toList == l.toList) = true := by rw [toList_beq]; exact decide_eq_true s2
            cases acc with
            | none =>
              have HC2 : Hid ((u.take (j + 1)).foldl (lsStep xs l) none = some i) := Lib.hid (by rw [HV.out, HC.out, st_first HX.out s2])
              have HZ2 : Hid (∀ b, (some i : Option Nat) = some b → ∃ z, xs[b]? = some z) := Lib.hid (fun b hb => by obtain rfl := Option.some.inj hb; exact ⟨_, HX.out⟩)
              clear s2 HZ
              dsimp only [offN]
              go_wp2_with fail
              go_quiet (fail)
              go_wp2_with fail
              go_roundw
              case rel => exact ⟨j + 1, some i, by omega, by go_num, rfl, HC2, HZ2, below_drN_r hbr _⟩
              case measure => simp [intOf]; omega
            | some bb =>
              obtain ⟨z, hz⟩ := HZ.out bb rfl
              have hbbn : bb < n := by have h1 := (List.getElem?_eq_some_iff.1 hz).1; have := HN.out; omega
              obtain ⟨b4, o4, hA, _, _, _, f2, _, _⟩ := HR.out.row hz
              obtain ⟨rfl, rfl⟩ : b = b4 ∧ o = o4 := by injection hA with hA; injection hA with e1 e2; exact ⟨e1, e2⟩
              have u7 : (0 : Int) ≤ (bb : Int) := Int.natCast_nonneg _
              have u8 : (bb : Int) < (n : Int) := by omega
              have dneg : decide ((bb : Int) < 0) = false := decide_eq_false (by omega)
              have HZZ := Lib.hid hz
              clear hz hA
              dsimp only [offN]
              by_cases hs : x.s < z.s
              · have dd : decide (x.s < z.s) = true := decide_eq_true hs
                have HC2 : Hid ((u.take (j + 1)).foldl (lsStep xs l) none = some i) := Lib.hid (by rw [HV.out, HC.out, st_better HX.out s2 HZZ.out hs])
                have HZ2 : Hid (∀ b, (some i : Option Nat) = some b → ∃ z, xs[b]? = some z) := Lib.hid (fun b hb => by obtain rfl := Option.some.inj hb; exact ⟨_, HX.out⟩)
                clear s2 HZ hs
                go_wp2_with fail
                go_quiet (fail)
                go_wp2_with fail
                go_roundw
                case rel => exact ⟨j + 1, some i, by omega, by go_num, rfl, HC2, HZ2, below_drN_r hbr _⟩
                case measure => simp [intOf]; omega
              · have dd : decide (x.s < z.s) = false := decide_eq_false hs
                have HC2 : Hid ((u.take (j + 1)).foldl (lsStep xs l) none = some bb) := Lib.hid (by rw [HV.out, HC.out, st_worse HX.out s2 HZZ.out hs])
                clear s2 hs
                go_wp2_with fail
                go_quiet (fail)
                go_wp2_with fail
                go_roundw
                case rel => exact ⟨j + 1, some bb, by omega, by go_num, rfl, HC2, HZ, below_drN_r hbr _⟩
                case measure => simp [intOf]; omega
          · have z2 : (x.l.toList == l.toList) = false := by rw [toList_beq]; exact decide_eq_false s2
            have HC2 : Hid ((u.take (j + 1)).foldl (lsStep xs l) none = acc) := Lib.hid (by rw [HV.out, HC.out, st_skip HX.out s2])
            clear s2
            obtain ⟨av, hav⟩ : ∃ a, a = offN acc := ⟨_, rfl⟩
            rw [← hav]
            have HAV := Lib.hid hav
            clear hav
            go_wp2_with fail
            go_quiet (fail)
            go_wp2_with fail
            go_roundw
            case rel => exact ⟨j + 1, acc, by omega, by go_num, by rw [HAV.out], HC2, HZ, below_drN_r hbr _⟩
            case measure => simp [intOf]; omega
        · have HLS : Hid (lsF xs l y xs.length = acc) := Lib.hid (by rw [← HF.out l, ← HC.out, List.take_of_length_le (by have := HM.out; omega)])
          cases acc with
          | none =>
            dsimp only [offN]
            have HA2 : Hid (∀ (q : Nat) z, q < k + 1 → ls[q]? = some z → lsF xs z y xs.length = none) := Lib.hid (fun q z hq hqz => by
              by_cases hlq : q < k
              · exact HA.out q z hlq hqz
              · obtain rfl : q = k := by omega
                have h1 := HL.out
                rw [hqz] at h1; obtain rfl := Option.some.inj h1; exact HLS.out)
            go_wp2_with fail
            go_roundw
            case rel => exact ⟨k + 1, by omega, by go_num, HA2, hbr⟩
            case measure => simp [intOf]; omega
          | some bb =>
            dsimp only [offN]
            have u7 : (0 : Int) ≤ (bb : Int) := Int.natCast_nonneg _
            have HR2 : Hid (offN (bestF xs y ls) = (bb : Int)) := Lib.hid (by rw [best_hit HLS.out HL.out HA.out]; rfl)
            go_wp2_with fail
            go_ret
            exact ⟨by rw [HR2.out]; rfl, bstep9 HB1.out HB1.out.size hbr⟩
    · have HR2 : Hid (offN (bestF xs y ls) = -1) := Lib.hid (by
        rw [best_miss (xs := xs) (y := y) (ls := ls) (fun j z hj => HA.out j z (by have h1 := (List.getElem?_eq_some_iff.1 hj).1; have := HN2.out; omega) hj)]; rfl)
      go_wp2_with fail
      go_ret
      exact ⟨by rw [HR2.out]; rfl, bstep9 HB1.out HB1.out.size hbo⟩
end
section
set_option linter.unusedVariables false
open Go.RowKit

set_option maxHeartbeats 4000000 in
set_option maxRecDepth 100000 in
theorem cNa_spec (A B : Option Addr) (n c n2 c2 : Nat) (ps : List Pl) (s : ByteArray) (ls : List ByteArray) (y : Int) (w : World) (hb : n ≤ 1048576) (hb2 : n2 ≤ 1048576) (hz : Sz11 ps) (hs : s.size ≤ maxLen) (hl : ∀ x ∈ ls, x.size ≤ maxLen) (h : PlAt w w.heap.size A n ps) (h2 : TextAt w w.heap.size B n2 ls) :
    Calls Tryz.prog 37 #[.slice A n c, .string s, .slice B n2 c2, .int .i64 y] w fun e w' => e = .returned (.tuple #[.string (naT ps s ls y), .int .i64 (naC ps s ls y)]) ∧ Below w.heap.size w w' := by
  have CC := Lib.hid (cL11Code A n c ps s y w hb hz hs h)
  have CF := Lib.hid (fun (hr : regB ps = true) W (hW : Below w.heap.size w W) => cL11Find A n c ps s W hb (reg_good hr) (h.grow hW))
  have CL := Lib.hid (fun x (hx : x ∈ ls) W => cL09 x W (hl x hx))
  have CB := Lib.hid (fun p (hp : p ∈ ps) A1 d1 W (hW : Below w.heap.size w W) (hn : NmAt W W.heap.size A1 p.ns.length p.ns) => cL09Best A1 B p.ns.length d1 n2 c2 p.ns ls y W (hz p hp).2.1 hb2 hn ((h2.below hW (Nat.le_refl _)).more hW.size))
  have H := Lib.hid h
  have HN := Lib.hid h.1
  have H2 := Lib.hid h2
  have HN2 := Lib.hid h2.1
  clear h h2 hz hl hs
  go_enter Tryz.func37, Tryz.ntmps37
  go_wp2_with fail
  go_loopw [10] (fun i wr => ∃ k : Nat, k ≤ n2 ∧ i = .int .i64 k ∧ Hid ((ls.take k).all langB = true) ∧ w = wr) (fun i _ => n2 - (intOf i).toNat)
  case atStart => exact ⟨0, Nat.zero_le _, rfl, Lib.hid rfl, rfl⟩
  case round =>
    obtain ⟨k, hk, rfl, HA, rfl⟩ := hrel
    by_cases hlt : k < n2
    · obtain ⟨x, hx⟩ : ∃ x, ls[k]? = some x := ⟨ls[k]'(by have := HN2.out; omega), List.getElem?_eq_getElem _⟩
      obtain ⟨b, o, rfl, hbl, c0⟩ := H2.out.row2 hx
      have CX := Lib.hid (fun W => CL.out x (List.mem_of_getElem? hx) W)
      have HX := Lib.hid hx
      have u1 : (0 : Int) ≤ (k : Int) := Int.natCast_nonneg _
      have u2 : (k : Int) < (n2 : Int) := by omega
      clear hx
      cases hv : langB x
      · rw [hv] at CX
        have HR : Hid (naC ps s ls y = 1 ∧ naT ps s ls y = ⟨#[]⟩) := Lib.hid (by
          have h1 := all9_stop HX.out hv
          rcases na_cases ps s ls y with ⟨_, e2, e3⟩ | ⟨e1, _⟩ | ⟨p, e1, _⟩
          · exact ⟨e2, e3⟩
          · rw [h1] at e1; cases e1
          · rw [h1] at e1; cases e1)
        clear hv
        go_wp2_with (go_at_call 105; refine (CX.out _).mono ?_; rintro e w' ⟨rfl, rfl⟩)
        go_ret2
        exact ⟨by rw [HR.out.1, HR.out.2]; rfl, Below.refl _ _⟩
      · rw [hv] at CX
        have HY := Lib.hid (all9_step HX.out HA.out hv)
        clear hv
        go_wp2_with (go_at_call 105; refine (CX.out _).mono ?_; rintro e w' ⟨rfl, rfl⟩)
        go_roundw
        case rel => exact ⟨k + 1, by omega, by go_num, HY, trivial⟩
        case measure => simp [intOf]; omega
    · have hall := all9_end (s := ls) (k := k) (by have := HN2.out; omega) HA.out
      rcases na_cases ps s ls y with ⟨e1, _⟩ | ⟨e1, e2, e3, e4⟩ | ⟨p, e1, e2, e3, hp, e5, hq, e6, e7⟩
      · rw [hall] at e1; cases e1
      · have HR : Hid (naC ps s ls y = pcC ps s y ∧ naT ps s ls y = ⟨#[]⟩) := Lib.hid ⟨e3, e4⟩
        obtain ⟨q, hq⟩ : ∃ q, q = pcC ps s y := ⟨_, rfl⟩
        rw [← hq] at CC HR
        rw [← hq] at e2
        have hq0 : (q != 0) = true := by simpa using e2
        clear e1 e2 e3 e4 hq hall CF
        go_wp2_with fail
        refine CC.out.mono ?_
        rintro e w1 ⟨rfl, g1⟩
        go_wp2_with fail
        go_ret2
        exact ⟨by rw [HR.out.1, HR.out.2]; rfl, g1⟩
      · have HR : Hid (naC ps s ls y = 0 ∧ naT ps s ls y = (bestT p.ns y ls).getD s) := Lib.hid ⟨e6, e7⟩
        rw [e2] at CC
        have CF2 := Lib.hid (CF.out e3)
        rw [e5] at CF2
        have CB2 := Lib.hid (CB.out p (List.mem_of_getElem? hp))
        obtain ⟨a, ha⟩ : ∃ a, a = atP ps s := ⟨_, rfl⟩
        rw [← ha] at CF2 hp
        have u1 : (0 : Int) ≤ (a : Int) := Int.natCast_nonneg _
        have u2 : (a : Int) < (n : Int) := by have := (List.getElem?_eq_some_iff.1 hp).1; have := HN.out; omega
        have HP := Lib.hid hp
        cases ho : bestF p.ns y ls with
        | none =>
          rw [bestT_none ho] at HR
          rw [ho] at CB2
          dsimp only [offN] at CB2
          clear e1 e2 e3 e5 e6 e7 hp hq ha hall CF CB ho
          go_wp2_with fail
          refine CC.out.mono ?_
          rintro e w1 ⟨rfl, g1⟩
          go_wp2_with fail
          refine (CF2.out w1 g1).mono ?_
          rintro e w2 ⟨rfl, g2⟩
          have hb2 := bstep9 g1 g1.size g2
          obtain ⟨b, o, rfl, hbl, A1, d1, c0, c1, c2, c3, c4, hnm, hd1⟩ := (H.out.below hb2 (Nat.le_refl _)).row HP.out
          have CB3 := Lib.hid (CB2.out A1 d1 w2 hb2 (hnm.more hb2.size))
          clear hnm hd1 g1 g2
          go_wp2_with fail
          refine CB3.out.mono ?_
          rintro e w3 ⟨rfl, g3⟩
          go_wp2_with fail
          go_ret2
          exact ⟨by rw [HR.out.1, HR.out.2]; rfl, bstep9 hb2 hb2.size g3⟩
        | some j =>
          obtain ⟨x, hx⟩ := bestF_at ho
          rw [bestT_some ho hx] at HR
          rw [ho] at CB2
          dsimp only [offN] at CB2
          have u3 : (0 : Int) ≤ (j : Int) := Int.natCast_nonneg _
          have u4 : (j : Int) < (p.ns.length : Int) := by have := (List.getElem?_eq_some_iff.1 hx).1; omega
          have HX := Lib.hid hx
          clear e1 e2 e3 e5 e6 e7 hp hq ha hall CF CB ho hx
          go_wp2_with fail
          refine CC.out.mono ?_
          rintro e w1 ⟨rfl, g1⟩
          go_wp2_with fail
          refine (CF2.out w1 g1).mono ?_
          rintro e w2 ⟨rfl, g2⟩
          have hb2 := bstep9 g1 g1.size g2
          obtain ⟨b, o, rfl, hbl, A1, d1, c0, c1, c2, c3, c4, hnm, hd1⟩ := (H.out.below hb2 (Nat.le_refl _)).row HP.out
          have CB3 := Lib.hid (CB2.out A1 d1 w2 hb2 (hnm.more hb2.size))
          have HNM := Lib.hid (hnm.more hb2.size)
          clear hnm hd1 g1 g2
          go_wp2_with fail
          refine CB3.out.mono ?_
          rintro e w3 ⟨rfl, g3⟩
          obtain ⟨b4, o4, rfl, hbl4, f0, f1, f2, f3, f4⟩ := (HNM.out.grow g3).row HX.out
          go_wp2_with fail
          go_ret2
          exact ⟨by rw [HR.out.1, HR.out.2]; rfl, bstep9 hb2 hb2.size g3⟩
end
section
set_option linter.unusedVariables false
open Go.RowKit

set_option maxHeartbeats 2000000 in
set_option maxRecDepth 100000 in
theorem cWhereIn (A : Option Addr) (n c : Nat) (ps : List Pl) (gb : Nat) (P : Pl → Bool) (w : World) (hb : n ≤ 1048576) (h : PlAt w w.heap.size A n ps)
    (hcl : ∀ p ∈ ps, ∀ A d W, Below w.heap.size w W → NmAt W W.heap.size A p.ns.length p.ns → p.ns.length ≤ d → Calls Tryz.prog 73 #[enA p A d, .pointer (some ⟨gb, 0, none⟩)] W fun e w' => e = .returned (.bool (P p)) ∧ Below W.heap.size W w') :
    Calls Tryz.prog 72 #[.slice A n c, .func (.func 73) #[] #[.pointer (some ⟨gb, 0, none⟩)]] w (RowT11 (cdZ P ps) w) := by
  obtain ⟨i0, hi0, hz0, hz1, hz2⟩ := info_parts info_strW
  have H := Lib.hid h
  have HN := Lib.hid h.1
  have HC := Lib.hid hcl
  have CE := Lib.hid (fun p A d W => cEntry p A d W)
  clear h hcl
  go_enter Tryz.func72, Tryz.ntmps72
  go_wp2_with fail
  go_loopw [5, 10] (fun o i wr => ∃ (k m d : Nat) (B : Option Addr), k ≤ n ∧ i = .int .i64 k ∧ o = .slice B m d ∧ Hid (m ≤ k) ∧ Hid (wr.ownsRow w.heap.size 9 1 (.slice B m d) m (strV (cdZ P (ps.take k)))) ∧ Below w.heap.size w wr) (fun _ i _ => n - (intOf i).toNat)
  case atStart => exact ⟨0, 0, 0, none, Nat.zero_le _, rfl, rfl, Lib.hid (Nat.le_refl _), Lib.hid (World.ownsRow_nil _ _ _ _), Below.refl _ _⟩
  case round =>
    obtain ⟨k, m, d, B, hk, rfl, rfl, HM, HO, hbw⟩ := hrel
    by_cases hlt : k < n
    · obtain ⟨p, hp⟩ : ∃ p, ps[k]? = some p := ⟨ps[k]'(by have := HN.out; omega), List.getElem?_eq_getElem _⟩
      obtain ⟨b, o, rfl, hbl, A1, d1, c0, c1, c2, c3, c4, hnm, hd⟩ := (H.out.below hbw (Nat.le_refl _)).row hp
      obtain ⟨W0, hW0⟩ : ∃ W0 : World, W0 = wr.alloc (.cells #[.string p.c, .int .i64 p.k, .int .i64 p.f, .int .i64 p.u, .slice A1 p.ns.length d1] 29) := ⟨_, rfl⟩
      have HB0 : Hid (Below wr.heap.size wr W0) := Lib.hid (by rw [hW0]; exact below_alloc11 _ _)
      have HX : Hid (Bx W0 wr.heap.size [.string p.c, .int .i64 p.k, .int .i64 p.f, .int .i64 p.u, .slice A1 p.ns.length d1]) := Lib.hid (by rw [hW0]; exact Bx.new wr _ _)
      have HW0 := Lib.hid hW0
      have CC := Lib.hid (fun W (hW : Below wr.heap.size wr W) => HC.out p (List.mem_of_getElem? hp) A1 d1 W (bstep9 hbw hbw.size hW) ((hnm.more hbw.size).grow hW) hd)
      have CX := Lib.hid (CE.out p A1 d1 W0)
      have HP := Lib.hid hp
      have HB := Lib.hid hbw
      have u1 : (0 : Int) ≤ (k : Int) := Int.natCast_nonneg _
      have u2 : (k : Int) < (n : Int) := by omega
      clear hp hnm hd hbw hW0
      go_wp2_with fail
      rw [← HW0.out]
      refine CX.out.mono ?_
      rintro e w1 ⟨rfl, g1⟩
      have hb1 := bstep9 HB0.out HB0.out.size g1
      have CC1 := Lib.hid (CC.out w1 hb1)
      cases hf : P p
      · rw [hf] at CC1
        have HST := Lib.hid (cdZ_no HP.out hf)
        clear hf
        go_wp2_with fail
        refine CC1.out.mono ?_
        rintro e w2 ⟨rfl, g2⟩
        have hb2 := bstep9 hb1 hb1.size g2
        have hbt := bstep9 HB.out HB.out.size hb2
        have HO2 : Hid (w2.ownsRow w.heap.size 9 1 (.slice B m d) m (strV (cdZ P (ps.take (k + 1))))) := Lib.hid (by rw [HST.out]; exact keptW HO.out hb2)
        clear g1 g2 hb1 hb2 c0 c1 c2 c3 c4
        go_wp2_with fail
        go_roundw
        case rel => exact ⟨k + 1, m, d, B, by omega, by go_num, rfl, Lib.hid (by have := HM.out; omega), HO2, hbt⟩
        case measure => simp [intOf]; omega
      · rw [hf] at CC1
        have HST := Lib.hid (cdZ_yes HP.out hf)
        clear hf
        go_wp2_with fail
        refine CC1.out.mono ?_
        rintro e w2 ⟨rfl, g2⟩
        have hb2 := bstep9 hb1 hb1.size g2
        have hbt := bstep9 HB.out HB.out.size hb2
        have hown := keptW HO.out hb2
        have hmk := HM.out
        have q0 := ((HX.out.next g1).next g2).five.1
        clear g1 g2 hb1 hb2 c0 c1 c2 c3 c4
        go_wp2_with (at_builtin; refine wpList_append_own _ rfl _ _ 38 rfl w.heap.size 9 i0 _ 1 16 Tryz.underlying38 hi0 hz0 hz1 hz2 rfl (by decide) _ _ _ rfl (hown.alloc _) ⟨w2.heap.size, 0, none⟩ 1 1 [.string p.c] rfl rfl ?d1 ?d2 ?d3 ?d4 ?d5 ?_)
        case d1 => exact one_cell' _ _ _ (new_one _ _ _)
        case d2 => intro u hu; simp at hu; subst hu; rfl
        case d3 => unfold maxLen; omega
        case d4 => omega
        case d5 => have := hbt.size; simp; omega
        intro v' w3 hown3 hgrow3 _
        rw [strV_snocW] at hown3
        have hb3 : Below w.heap.size w w3 := (hbt.alloc hbt.size _).grown hgrow3 (by have := hbt.size; simp; omega) (fun x hx => (hown.lt x hx).1)
        have HO3 : Hid (w3.ownsRow w.heap.size 9 1 v' (m + 1) (strV (cdZ P (ps.take (k + 1))))) := Lib.hid (by rw [HST.out]; exact hown3)
        obtain ⟨g', c', rfl, _, _⟩ := World.ownsRow.form HO3.out (by omega)
        clear hown3 hown hgrow3 q0
        go_wp2_with fail
        go_roundw
        case rel => exact ⟨k + 1, m + 1, c', some ⟨g', 0, none⟩, by omega, by go_num, rfl, Lib.hid (by omega), HO3, hb3⟩
        case measure => simp [intOf]; omega
    · have HF : Hid (wr.ownsRow w.heap.size 9 1 (.slice B m d) m (strV (cdZ P ps))) := Lib.hid (by have := HO.out; rwa [List.take_of_length_le (by have := HN.out; omega)] at this)
      go_wp2_with fail
      go_ret
      exact ⟨B, m, d, rfl, HF.out, hbw⟩
end
end Go.Proofs.YtglmibmjbignbaaGreatDoor
