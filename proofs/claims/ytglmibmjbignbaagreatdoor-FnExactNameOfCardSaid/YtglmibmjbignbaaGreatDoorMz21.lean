/-
  The contracts of findBest and impl.BestIn.
-/
import Derived.Test.YtglmibmjbignbaaGreatDoorBest9
import Derived.Test.YtglmibmjbignbaaGreatDoorMz18
import Derived.Test.YtglmibmjbignbaaGreatDoorMz20
namespace Go.Proofs.YtglmibmjbignbaaGreatDoor
section
set_option linter.unusedVariables false
open Go.RowKit

set_option maxHeartbeats 4000000 in
set_option maxRecDepth 100000 in
theorem cFindBest (A B : Option Addr) (n c n2 c2 : Nat) (xs : List Nm) (ls : List ByteArray) (y : Int) (w : World) (hb : n ≤ 1048576) (hb2 : n2 ≤ 1048576) (hz : Sz9 xs) (hl : ∀ x ∈ ls, x.size ≤ maxLen) (h : NmAt w w.heap.size A n xs) (hcap : n ≤ c) (h2 : TextAt w w.heap.size B n2 ls) (hsh : w.ShapedOpen Tryz.prog) (her : Er8 w) :
    Calls Tryz.prog 177 #[.slice A n c, .slice B n2 c2, .int .i64 y] w (FindOut (beZ xs ls y) (beC xs ls y) w) := by
  have CQ := Lib.hid (cQuest A B n c n2 c2 xs ls y w hb hb2 hz hl h hcap h2 hsh her.e)
  have HN2 := Lib.hid h2.1
  have H2 := Lib.hid h2
  have CL := Lib.hid (fun l W (hW : Below w.heap.size w W) => cLeast9 A n c xs l y W hb ((h.below hW (Nat.le_refl _)).more hW.size))
  have HE := Lib.hid (fun W (hW : Below w.heap.size w W) => (her.below hW).k)
  clear h h2 hsh her hz hl
  obtain ⟨q, hq⟩ : ∃ q, q = qC xs ls y := ⟨_, rfl⟩
  rw [← hq] at CQ
  go_enter Tryz.func177, Tryz.ntmps177
  go_wp2_with fail
  refine CQ.out.mono ?_
  rintro e w1 ⟨⟨v, rfl, hv⟩, hb1⟩
  rcases hv with ⟨rfl, rfl⟩ | ⟨hne, u, rfl⟩
  rotate_left
  · have HZ := Lib.hid (beZ_bad (xs := xs) (ls := ls) (y := y) (by rw [← hq]; exact hne))
    have HC : Hid (beC xs ls y = q) := Lib.hid ((beC_bad (by rw [← hq]; exact hne)).trans hq.symm)
    have HQ := Lib.hid hne
    clear hq hne
    go_wp2_with fail
    go_ret2
    exact ⟨⟨.iface 209 (.agg #[.int .i64 q, .iface 257 u]), by rw [HZ.out]; rfl, .inr ⟨by rw [HC.out]; exact HQ.out, u, by rw [HC.out]⟩⟩, hb1⟩
  have HQ := Lib.hid hq.symm
  have HB1 := Lib.hid hb1
  clear hq hb1 CQ
  go_wp2_with fail
  go_loopw [22] (fun i wr => ∃ k : Nat, k ≤ n2 ∧ i = .int .i64 k ∧ Hid (∀ (j : Nat) z, j < k → ls[j]? = some z → lsF xs z y xs.length = none) ∧ Below w.heap.size w wr) (fun i _ => n2 - (intOf i).toNat)
  case atStart => exact ⟨0, Nat.zero_le _, rfl, Lib.hid (fun j z hj => by omega), HB1.out⟩
  case round =>
    obtain ⟨k, hk, rfl, HA, hbw⟩ := hrel
    by_cases hlt : k < n2
    · obtain ⟨l, hx⟩ : ∃ x, ls[k]? = some x := ⟨ls[k]'(by have := HN2.out; omega), List.getElem?_eq_getElem _⟩
      obtain ⟨b, o, rfl, hbl, c0⟩ := (H2.out.below hbw (Nat.le_refl _)).row2 hx
      have HX := Lib.hid hx
      have CX := Lib.hid (CL.out l wr hbw)
      have u1 : (0 : Int) ≤ (k : Int) := Int.natCast_nonneg _
      have u2 : (k : Int) < (n2 : Int) := by omega
      clear hx
      cases ho : lsF xs l y xs.length with
      | none =>
        rw [ho] at CX
        dsimp only [leastV] at CX
        have HA2 : Hid (∀ (j : Nat) z, j < k + 1 → ls[j]? = some z → lsF xs z y xs.length = none) := Lib.hid (fun j z hj hjz => by
          by_cases hl : j < k
          · exact HA.out j z hl hjz
          · obtain rfl : j = k := by omega
            rw [HX.out] at hjz; obtain rfl := Option.some.inj hjz; exact ho)
        clear ho
        go_wp2_with fail
        refine CX.out.mono ?_
        rintro e w2 ⟨rfl, g2⟩
        have hbt := bstep9 hbw hbw.size g2
        clear g2 CX
        go_wp2_with fail
        go_roundw
        case rel => exact ⟨k + 1, by omega, by go_num, HA2, hbt⟩
        case measure => simp [intOf]; omega
      | some m =>
        rw [ho] at CX
        dsimp only [leastV] at CX
        have HF := Lib.hid (best_hit ho HX.out HA.out)
        clear ho
        go_wp2_with fail
        refine CX.out.mono ?_
        rintro e w2 ⟨rfl, g2⟩
        have hbt := bstep9 hbw hbw.size g2
        clear g2 CX
        go_wp2_with fail
        go_ret2
        exact ⟨⟨.nilIface, by rw [beZ_hit HQ.out HF.out]; rfl, .inl ⟨beC_hit HQ.out HF.out, rfl⟩⟩, hbt⟩
    · have HF := Lib.hid (best_miss (xs := xs) (y := y) (ls := ls) (fun j z hj => HA.out j z (by have h1 := (List.getElem?_eq_some_iff.1 hj).1; have := HN2.out; omega) hj))
      obtain ⟨v, hv⟩ := HE.out wr hbw
      go_wp2_with fail
      go_quiet (fail)
      go_wp2_with fail
      go_ret2
      exact ⟨⟨.iface 209 (.agg #[.int .i64 4, .iface 257 v]), by rw [beZ_miss HQ.out HF.out]; rfl, .inr ⟨by rw [beC_miss HQ.out HF.out]; decide, v, by rw [beC_miss HQ.out HF.out]⟩⟩, below_drN_r hbw _⟩

set_option maxHeartbeats 1000000 in
theorem cBest_impl (A B : Option Addr) (n c n2 c2 : Nat) (xs : List Nm) (ls : List ByteArray) (y : Int) (w : World) (hb : n ≤ 1048576) (hb2 : n2 ≤ 1048576) (hz : Sz9 xs) (hl : ∀ x ∈ ls, x.size ≤ maxLen) (h : NmAt w w.heap.size A n xs) (hcap : n ≤ c) (h2 : TextAt w w.heap.size B n2 ls) (hsh : w.ShapedOpen Tryz.prog) (her : Er8 w) :
    Calls Tryz.prog 146 #[.slice A n c, .slice B n2 c2, .int .i64 y] w fun e w' => e = .returned (.tuple #[.int .i64 (beZ xs ls y), .int .i64 (beC xs ls y)]) ∧ Below w.heap.size w w' := by
  have CF := Lib.hid (cFindBest A B n c n2 c2 xs ls y w hb hb2 hz hl h hcap h2 hsh her)
  have CN := Lib.hid (fun W => cCodeNil W)
  have CR := Lib.hid (fun (q : Int) u W (hW : Below w.heap.size w W) => cCodeRef q (.iface 257 u) W rfl (her.e.t.below hW))
  clear h h2 hsh her hz
  obtain ⟨z, hz⟩ : ∃ z, z = beZ xs ls y := ⟨_, rfl⟩
  obtain ⟨q, hq⟩ : ∃ q, q = beC xs ls y := ⟨_, rfl⟩
  rw [← hz, ← hq] at CF ⊢
  clear hz hq
  go_enter Tryz.func146, Tryz.ntmps146
  go_wp2_with fail
  refine CF.out.mono ?_
  rintro e w1 ⟨⟨v, rfl, hv⟩, hb1⟩
  rcases hv with ⟨rfl, rfl⟩ | ⟨_, u, rfl⟩
  · go_wp2_with fail
    refine (CN.out _).mono ?_
    rintro e w2 ⟨rfl, hb2⟩
    go_wp2_with fail
    go_ret2
    exact ⟨rfl, bstep9 hb1 hb1.size hb2⟩
  · go_wp2_with fail
    refine (CR.out _ _ _ hb1).mono ?_
    rintro e w2 ⟨rfl, hb2⟩
    go_wp2_with fail
    go_ret2
    exact ⟨rfl, bstep9 hb1 hb1.size hb2⟩
end
section
set_option linter.unusedVariables false
open Go.RowKit

def btV (o : Option ByteArray) : Value := match o with | some t => .tuple #[.string t, .bool true] | none => .tuple #[.string ⟨#[]⟩, .bool false]
set_option maxHeartbeats 1000000 in
theorem cBestText (A B : Option Addr) (n c n2 c2 : Nat) (xs : List Nm) (ls : List ByteArray) (y : Int) (w : World) (hb : n ≤ 1048576) (hb2 : n2 ≤ 1048576) (hz : Sz9 xs) (hl : ∀ x ∈ ls, x.size ≤ maxLen) (h : NmAt w w.heap.size A n xs) (hcap : n ≤ c) (h2 : TextAt w w.heap.size B n2 ls) (hsh : w.ShapedOpen Tryz.prog) (her : Er8 w) (hq : qC xs ls y = 0) :
    Calls Tryz.prog 104 #[.slice A n c, .slice B n2 c2, .int .i64 y] w fun e w' => e = .returned (btV (bestT xs y ls)) ∧ Below w.heap.size w w' := by
  have CB := Lib.hid (cBest_impl A B n c n2 c2 xs ls y w hb hb2 hz hl h hcap h2 hsh her)
  have H := Lib.hid h
  have HN := Lib.hid h.1
  clear h h2 hsh her hz hl
  cases ho : bestF xs y ls with
  | none =>
    rw [bestT_none ho]
    rw [beZ_miss hq ho, beC_miss hq ho] at CB
    clear ho hq
    dsimp only [btV]
    go_enter Tryz.func104, Tryz.ntmps104
    go_wp2_with fail
    refine CB.out.mono ?_
    rintro e w1 ⟨rfl, g1⟩
    go_wp2_with fail
    go_ret2
    exact ⟨rfl, g1⟩
  | some k =>
    obtain ⟨x, hx⟩ := bestF_at ho
    rw [bestT_some ho hx]
    rw [beZ_hit hq ho, beC_hit hq ho] at CB
    have u1 : (0 : Int) ≤ (k : Int) := Int.natCast_nonneg _
    have u2 : (k : Int) < (n : Int) := by have := HN.out; have := (List.getElem?_eq_some_iff.1 hx).1; omega
    have HX := Lib.hid hx
    clear ho hq hx
    dsimp only [btV]
    go_enter Tryz.func104, Tryz.ntmps104
    go_wp2_with fail
    refine CB.out.mono ?_
    rintro e w1 ⟨rfl, g1⟩
    obtain ⟨b, o, rfl, hbl, c0, c1, c2', c3, c4⟩ := (H.out.below g1 (Nat.le_refl _)).row HX.out
    go_wp2_with fail
    go_ret2
    exact ⟨rfl, g1⟩
set_option maxHeartbeats 4000000 in
set_option maxRecDepth 100000 in
theorem cNa_impl (A B : Option Addr) (n c n2 c2 : Nat) (ps : List Pl) (s : ByteArray) (ls : List ByteArray) (y : Int) (w : World) (hb : n ≤ 1048576) (hb2 : n2 ≤ 1048576) (hz : Sz11 ps) (hs : s.size ≤ maxLen) (hl : ∀ x ∈ ls, x.size ≤ maxLen) (h : PlAt w w.heap.size A n ps) (h2 : TextAt w w.heap.size B n2 ls) (hsh : w.ShapedOpen Tryz.prog) (her : Er8 w) :
    Calls Tryz.prog 36 #[.slice A n c, .string s, .slice B n2 c2, .int .i64 y] w fun e w' => e = .returned (.tuple #[.string (naT ps s ls y), .int .i64 (naC ps s ls y)]) ∧ Below w.heap.size w w' := by
  have CA := Lib.hid (fun W (hW : Below w.heap.size w W) => cAllLang B n2 c2 ls W hb2 hl ((h2.below hW (Nat.le_refl _)).more hW.size))
  have CF := Lib.hid (cFindIn A n c ps s y w hb hz hs h hsh her.e.e)
  have H := Lib.hid h
  have HN := Lib.hid h.1
  rcases na_cases ps s ls y with ⟨e1, e2, e3⟩ | ⟨e1, e2, e3, e4⟩ | ⟨p, e1, e2, e3, hp, e5, hq, e6, e7⟩
  · rw [e2, e3]
    rw [e1] at CA
    clear h h2 hsh her hz hl e1 e2 e3 CF hs
    go_enter Tryz.func36, Tryz.ntmps36
    go_wp2_with fail
    refine (CA.out _ (Below.refl _ _)).mono ?_
    rintro e w1 ⟨rfl, rfl⟩
    go_wp2_with fail
    go_ret2
    exact ⟨rfl, Below.refl _ _⟩
  · rw [e3, e4]
    rw [e1] at CA
    obtain ⟨q, hq⟩ : ∃ q, q = pcC ps s y := ⟨_, rfl⟩
    obtain ⟨z, hz'⟩ : ∃ z, z = plZ ps s y := ⟨_, rfl⟩
    rw [← hq, ← hz'] at CF
    rw [← hq] at e2 ⊢
    have hq0 : (q != 0) = true := by simpa using e2
    clear h h2 hsh her hz hl e1 e2 e3 e4 hq hz' hs
    go_enter Tryz.func36, Tryz.ntmps36
    go_wp2_with fail
    refine (CA.out _ (Below.refl _ _)).mono ?_
    rintro e w1 ⟨rfl, rfl⟩
    go_wp2_with fail
    refine CF.out.mono ?_
    rintro e w1 ⟨rfl, g1⟩
    go_wp2_with fail
    go_ret2
    exact ⟨rfl, g1⟩
  · rw [e6, e7]
    rw [e1] at CA
    rw [plZ_ok e2, e2] at CF
    have hpz := hz p (List.mem_of_getElem? hp)
    have CT := Lib.hid (fun A1 d1 W (hW : Below w.heap.size w W) (hn : NmAt W W.heap.size A1 p.ns.length p.ns) (hd : p.ns.length ≤ d1) => cBestText A1 B p.ns.length d1 n2 c2 p.ns ls y W hpz.2.1 hb2 hpz.2.2 hl hn hd ((h2.below hW (Nat.le_refl _)).more hW.size) (shaped_below hsh hW) (her.below hW) hq)
    obtain ⟨a, ha⟩ : ∃ a, a = atP ps s := ⟨_, rfl⟩
    rw [← ha] at CF hp
    have u1 : (0 : Int) ≤ (a : Int) := Int.natCast_nonneg _
    have u2 : (a : Int) < (n : Int) := by have := (List.getElem?_eq_some_iff.1 hp).1; have := HN.out; omega
    have HP := Lib.hid hp
    obtain ⟨t, ht⟩ : ∃ t, t = bestT p.ns y ls := ⟨_, rfl⟩
    rw [← ht] at CT ⊢
    clear h h2 hsh her hz hl e1 e2 e3 e5 e6 e7 hq hp ha hpz ht hs
    go_enter Tryz.func36, Tryz.ntmps36
    go_wp2_with fail
    refine (CA.out _ (Below.refl _ _)).mono ?_
    rintro e w1 ⟨rfl, rfl⟩
    go_wp2_with fail
    refine CF.out.mono ?_
    rintro e w1 ⟨rfl, g1⟩
    obtain ⟨b, o, rfl, hbl, A1, d1, c0, c1, c2, c3, c4, hnm, hd1⟩ := (H.out.below g1 (Nat.le_refl _)).row HP.out
    have CE := Lib.hid (cEntry p A1 d1 w1)
    unfold plv11 enA at CE
    have HB1 := Lib.hid g1
    have HNM1 := Lib.hid (hnm.more g1.size)
    have HD := Lib.hid hd1
    clear hnm g1 hd1
    go_wp2_with fail
    refine CE.out.mono ?_
    rintro e w2 ⟨rfl, g2⟩
    have hb2 := bstep9 HB1.out HB1.out.size g2
    have CT2 := Lib.hid (CT.out A1 d1 w2 hb2 (HNM1.out.grow g2) HD.out)
    have hfd : ∀ W : World, (Instr.field 87 (.agg #[.slice A1 p.ns.length d1, .string p.c, .int .i64 p.k, .int .i64 p.f, .int .i64 p.u]) 0).run Tryz.prog W = .ok (.slice A1 p.ns.length d1) W := fun _ => rfl
    clear c0 c1 c2 c3 c4 g2
    cases t with
    | none =>
      dsimp only [btV] at CT2
      go_wp2_with fail
      refine CT2.out.mono ?_
      rintro e w3 ⟨rfl, g3⟩
      go_wp2_with fail
      go_ret2
      exact ⟨rfl, bstep9 hb2 hb2.size g3⟩
    | some t =>
      dsimp only [btV] at CT2
      go_wp2_with fail
      refine CT2.out.mono ?_
      rintro e w3 ⟨rfl, g3⟩
      go_wp2_with fail
      go_ret2
      exact ⟨rfl, bstep9 hb2 hb2.size g3⟩
end
section
set_option linter.unusedVariables false
open Go.RowKit

theorem numAt_row9 {w : World} {B n : Nat} {A : Option Addr} {xs : List Int} (h : NumAt w B A n xs) {k : Nat} {x : Int} (hx : xs[k]? = some x) :
    ∃ b o, A = some ⟨b, o, none⟩ ∧ b < B ∧ w.cell? ⟨b, o + k, none⟩ = some (.int .i64 x) := by
  have := (List.getElem?_eq_some_iff.1 hx).1
  obtain ⟨b, o, h1, h2, h3⟩ := h.2 (by have := h.1; omega)
  exact ⟨b, o, h1, h2, h3 k x hx⟩
/-- The search over the used ones is the search over all. -/
def okO (xs : List Nm) (l : ByteArray) (v : Int) : Bool := match xs[v.toNat]? with | some x => ofB l x | none => false
theorem us_find (xs : List Nm) (l : ByteArray) (y : Int) : ∀ k, k ≤ xs.length → (usP xs y k).find? (okO xs l) = ((List.range k).find? fun i => match xs[i]? with | some x => ouB l y x | none => false).map Int.ofNat
  | 0, _ => rfl
  | k + 1, h => by
    have ih := us_find xs l y k (by omega)
    obtain ⟨x, hx⟩ : ∃ x, xs[k]? = some x := ⟨xs[k]'(by omega), List.getElem?_eq_getElem _⟩
    rw [List.range_succ, List.find?_append]
    cases hu : usB x y
    · rw [usP_no hx hu, ih]
      have : ([k].find? fun i => match xs[i]? with | some x => ouB l y x | none => false) = none := by simp [hx, ouB, hu]
      rw [this, Option.or_none]
    · rw [usP_yes hx hu, List.find?_append, ih]
      have h1 : ([(k : Int)].find? (okO xs l)) = ([k].find? fun i => match xs[i]? with | some x => ouB l y x | none => false).map Int.ofNat := by
        cases ho : ofB l x <;> simp [okO, hx, ouB, hu, ho]
      rw [h1]
      cases ((List.range k).find? fun i => match xs[i]? with | some x => ouB l y x | none => false) <;> rfl
theorem off_find (xs : List Nm) (l : ByteArray) (y : Int) : (usP xs y xs.length).find? (okO xs l) = (offF xs l y).map Int.ofNat := us_find xs l y xs.length (Nat.le_refl _)
theorem find_hit9 {p : Int → Bool} {u : List Int} {k : Nat} {v : Int} (h : u[k]? = some v) (hp : p v = true) (hn : ∀ z ∈ u.take k, p z = false) : u.find? p = some v := by
  have hk := (List.getElem?_eq_some_iff.1 h).1
  have hv := (List.getElem?_eq_some_iff.1 h).2
  rw [← List.take_append_drop k u, List.find?_append, List.find?_eq_none.2 (fun z hz => by simp [hn z hz]), Option.none_or, List.drop_eq_getElem_cons hk, hv, List.find?_cons_of_pos hp]
theorem find_miss9 {p : Int → Bool} {u : List Int} {k : Nat} (hk : u.length ≤ k) (hn : ∀ z ∈ u.take k, p z = false) : u.find? p = none := by
  rw [List.take_of_length_le hk] at hn
  exact List.find?_eq_none.2 fun z hz => by simp [hn z hz]
theorem take_no9 {p : Int → Bool} {u : List Int} {k : Nat} {v : Int} (h : u[k]? = some v) (hp : p v = false) (hn : ∀ z ∈ u.take k, p z = false) : ∀ z ∈ u.take (k + 1), p z = false := fun z hz => by
  rw [take_snoc9 h, List.mem_append] at hz
  rcases hz with hz | hz
  · exact hn z hz
  · obtain rfl : z = v := by simpa using hz
    exact hp
def offN (o : Option Nat) : Int := match o with | some k => (k : Int) | none => -1

end
end Go.Proofs.YtglmibmjbignbaaGreatDoor
