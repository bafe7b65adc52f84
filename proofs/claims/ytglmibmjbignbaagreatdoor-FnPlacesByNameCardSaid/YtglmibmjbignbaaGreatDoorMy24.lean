/-
  The laws' helpers on slices of texts: szStringS, toStringS, eqStringS, markStringS on rows of one's own.
-/
import Derived.Test.YtglmibmjbignbaaGreatDoorMy12
import Derived.Test.YtglmibmjbignbaaGreatDoorMy7
import Derived.Test.YtglmibmjbignbaaGreatDoorMy10
import Derived.Test.YtglmibmjbignbaaGreatDoorMy23
import Derived.Test.YtglmibmjbignbaaGreatDoorMy20
import Derived.Deep.Onto
namespace Go.Proofs.YtglmibmjbignbaaGreatDoor
section
set_option linter.unusedVariables false
open Go.RowKit

theorem TextAt.row2 {w : World} {B n : Nat} {A : Option Addr} {xs : List ByteArray} (h : TextAt w B A n xs) {k : Nat} {x : ByteArray} (hx : xs[k]? = some x) :
    ∃ b o, A = some ⟨b, o, none⟩ ∧ b < B ∧ w.cell? ⟨b, o + k, none⟩ = some (.string x) := by
  have := (List.getElem?_eq_some_iff.1 hx).1
  obtain ⟨b, o, h1, h2, h3⟩ := h.2 (by have := h.1; omega)
  exact ⟨b, o, h1, h2, h3 k x hx⟩

/-- What szStringS answers for a second slice. -/
theorem tSz2 (A : Option Addr) (n cap B : Nat) (xs : List ByteArray) (r : Int) (hr0 : 0 ≤ r) (hr1 : r ≤ 1048576) (w : World) (hm : n ≤ maxLen) (hs : ∀ x ∈ xs, x.size ≤ maxLen) (h : TextAt w B A n xs) :
    Calls Tryz.prog 50 #[.slice A n cap, .int .i64 r] w (SomeR (SmallS n xs) w) := by
  unfold maxLen at hm
  have HT := Lib.hid h
  have HN := Lib.hid h.1
  have HS := Lib.hid hs
  clear h hs
  by_cases h1 : r < n
  · go_enter Tryz.func50, Tryz.ntmps50
    go_wp2
    go_ret
    exact ⟨-1, ⟨by omega, .inl (by omega)⟩, rfl, rfl⟩
  go_enter Tryz.func50, Tryz.ntmps50
  go_wp2
  go_loop [1, 5] (fun l i => ∃ (k : Nat) (r : Int), k ≤ n ∧ i = .int .i64 k ∧ l = .int .i64 r ∧ 0 ≤ r ∧ r ≤ 1048576 ∧ Hid (∀ x ∈ xs.take k, x.size ≤ 1048576)) (fun _ i => n - (intOf i).toNat)
  case atStart => exact ⟨0, _, Nat.zero_le _, rfl, rfl, by omega, by omega, Lib.hid (by simp)⟩
  case round =>
    obtain ⟨k, r, hk, rfl, rfl, hr0, hr1, HA⟩ := hrel
    by_cases hlt : k < n
    · obtain ⟨x, hx⟩ : ∃ x, xs[k]? = some x := ⟨xs[k]'(by have := HN.out; omega), List.getElem?_eq_getElem _⟩
      obtain ⟨b, o, rfl, _, hcx⟩ := HT.out.row2 hx
      have hsx := HS.out x (List.mem_of_getElem? hx)
      unfold maxLen at hsx
      have HX := Lib.hid hx
      clear hx
      by_cases h2 : r < x.size
      · go_wp2
        go_ret
        exact ⟨-1, ⟨by omega, .inl (by omega)⟩, rfl, rfl⟩
      · have h2' : (x.size : Int) ≤ r := by omega
        go_wp2
        go_round
        case rel => exact ⟨k + 1, _, by omega, by go_num, rfl, by omega, by omega, Lib.hid (by
          have hl := (List.getElem?_eq_some_iff.1 HX.out).1
          have he : xs[k] = x := (List.getElem?_eq_some_iff.1 HX.out).2
          rw [List.take_succ_eq_append_getElem hl, he]
          intro y hy
          rw [List.mem_append, List.mem_singleton] at hy
          rcases hy with hy | rfl
          · exact HA.out y hy
          · omega)⟩
        case measure => simp [intOf]; omega
    · have hall : xs.take k = xs := List.take_of_length_le (by have := HN.out; omega)
      have hfin : SmallS n xs r := ⟨hr1, .inr ⟨by omega, by rw [← hall]; exact HA.out⟩⟩
      have HF := Lib.hid hfin
      clear hall hfin
      go_wp2
      go_ret
      exact ⟨r, HF.out, rfl, rfl⟩
theorem Sp.text {w : World} {A : Option Addr} {n : Nat} {xs : List ByteArray} (h : TextAt w w.heap.size A n xs) : Sp 0 w.heap.size (fun W => TextAt W W.heap.size A n xs) w :=
  ⟨Nat.le_refl _, fun W hW => (h.below hW.below (Nat.le_refl _)).more hW.size⟩
theorem own_text {w : World} {lo n c : Nat} {A : Option Addr} {xs : List ByteArray} (h : w.ownsRow lo 9 1 (.slice A n c) n (strV xs)) : TextAt w w.heap.size A n xs := by
  have hl : xs.length = n := by have := h.1; rw [strV_len] at this; omega
  refine ⟨hl.symm, fun hp => ?_⟩
  rcases h.2 with ⟨_, h0⟩ | ⟨g, cap, cur, hv, hg, hb, _⟩
  · omega
  · cases hv
    refine ⟨g, 0, rfl, (Array.getElem?_eq_some_iff.1 hb).1, fun j x hx => ?_⟩
    rw [Nat.zero_add]
    exact (h.cellAt j (by have := (List.getElem?_eq_some_iff.1 hx).1; omega)).trans (strV_at _ _ _ hx)
set_option maxHeartbeats 1000000 in
theorem cToS_none3 (A : Option Addr) (cap : Nat) (w : World) :
    Calls Tryz.prog 51 #[.slice A 0 cap] w fun e w' => e = .returned (.slice (some ⟨w.heap.size, 0, none⟩) 0 0) ∧ w'.ownsRow w.heap.size 9 1 (.slice (some ⟨w.heap.size, 0, none⟩) 0 0) 0 [] ∧ Below w.heap.size w w' := by
  obtain ⟨i0, hi0, hz0, hz1, hz2⟩ := info_parts info_str0
  go_enter Tryz.func51, Tryz.ntmps51
  go_wp2_with (at_make; refine wpList_make_full _ rfl _ _ 38 rfl w.heap.size 9 i0 _ 1 Tryz.underlying38 hi0 hz0 hz1 _ _ _ _ 0 rfl rfl (by simp) (by simp) ?b2 ?b3 (Nat.le_refl _) ?_)
  case b2 => rw [hz2]; omega
  case b3 => unfold maxLen; omega
  intro w0 hown0 hgrow0
  have hb0 : Below w.heap.size w w0 := (Below.refl _ _).grown hgrow0 (Nat.le_refl _) (fun k h => by cases h)
  have HO : Hid (w0.ownsRow w.heap.size 9 1 (.slice (some ⟨w.heap.size, 0, none⟩) 0 0) 0 []) := Lib.hid (by
    have h1 := hown0.1
    have h2 := List.eq_nil_of_length_eq_zero (h1.trans (Nat.zero_mul 1))
    rw [h2] at hown0; exact hown0)
  clear hown0 hgrow0
  go_wp2
  refine wp_loop_rounds 1 ?_
  rw [rounds_succ]
  go_wp2
  go_ret
  exact ⟨rfl, HO.out, hb0⟩
def CopyS (n : Nat) (xs : List ByteArray) (w : World) (e : Ending) (w' : World) : Prop := ∃ A, e = .returned (.slice A n n) ∧ w'.ownsRow w.heap.size 9 1 (.slice A n n) n (strV xs) ∧ Below w.heap.size w w'
theorem uEqS (A A' : Option Addr) (c c' n lo lo' : Nat) (xs : List ByteArray) (w : World) (hbig : n ≤ 1048576) (h1 : w.ownsRow lo 9 1 (.slice A n c) n (strV xs)) (h2 : w.ownsRow lo' 9 1 (.slice A' n c') n (strV xs)) :
    Calls Tryz.prog 42 #[.slice A n c, .slice A' n c'] w fun e w' => e = .returned (.bool true) ∧ Below w.heap.size w w' := by
  rcases Nat.eq_zero_or_pos n with rfl | hp
  · refine (cEqS_none _ _ _ _ _).mono ?_
    rintro e w' ⟨rfl, rfl⟩
    exact ⟨rfl, Below.refl _ _⟩
  · have t1 := own_text h1
    have t2 := own_text h2
    rcases h1.2 with ⟨_, h0⟩ | ⟨g, cap, cur, hv, _⟩
    · omega
    rcases h2.2 with ⟨_, h0⟩ | ⟨g', cap', cur', hv', _⟩
    · omega
    cases hv
    cases hv'
    exact (tEqS g c g' c' n _ _ xs w hbig t1 t2).mono fun e w' ⟨he, m, hm⟩ => ⟨he, hm ▸ below_drN_r (Below.refl _ w) m⟩
def MarkedS (lo : Nat) (A : Option Addr) (n c k : Nat) (w : World) (e : Ending) (w' : World) : Prop :=
  e = .returned (.int .i64 ((k + n : Nat) : Int)) ∧ w.grownBy w' (Value.slice A n c).ownBlock
theorem uMarkS (lo : Nat) (A : Option Addr) (n c k : Nat) (xs : List ByteArray) (w : World) (hk1 : 1 ≤ k) (hk : k ≤ 1073741824) (hn : n ≤ 1048576) (h : w.ownsRow lo 9 1 (.slice A n c) n (strV xs)) :
    Calls Tryz.prog 45 #[.slice A n c, .int .i64 (k : Int)] w (MarkedS lo A n c k w) := by
  rcases Nat.eq_zero_or_pos n with rfl | hp
  · refine (cMarkS_none _ _ _ _).mono ?_
    rintro e w' ⟨rfl, rfl⟩
    exact ⟨rfl, World.grownBy.refl _ _⟩
  · rcases h.2 with ⟨_, h0⟩ | ⟨g, cap, cur, hv, hg, hb, _⟩
    · omega
    cases hv
    exact (cMarkS lo g c n k _ w hk1 (by omega) (Array.getElem?_eq_some_iff.1 hb).1 h).mono fun e w' ⟨h1, _, h3⟩ => ⟨h1, h3⟩
end
section
set_option linter.unusedVariables false
open Go.RowKit

theorem cCodeNil (w : World) : Calls Tryz.prog 178 #[.nilIface] w fun e w' => e = .returned (.int .i64 0) ∧ Below w.heap.size w w' := by
  have CA := Lib.hid (fun t W => as_nil t W)
  have hb0 := (Below.refl w.heap.size w).alloc (Nat.le_refl _) (.cells #[.int .i64 0, .nilIface] 209)
  go_enter Tryz.func178, Tryz.ntmps178
  go_wp2_with fail
  refine (CA.out _ _).mono ?_
  rintro e w1 ⟨rfl, rfl⟩
  go_wp2_with fail
  go_ret
  exact ⟨rfl, hb0⟩
set_option maxHeartbeats 1000000 in
theorem cCodeRef (c : Int) (u : Value) (w : World) (hu : u.oneCell' = true) (het : Et w) :
    Calls Tryz.prog 178 #[.iface 209 (.agg #[.int .i64 c, u])] w fun e w' => e = .returned (.int .i64 c) ∧ Below w.heap.size w w' := by
  have hb0 := (Below.refl w.heap.size w).alloc (Nat.le_refl _) (.cells #[.int .i64 0, .nilIface] 209)
  have CA := Lib.hid (as_hit (.int .i64 c) u w.heap.size (.int .i64 0) .nilIface (w.alloc (.cells #[.int .i64 0, .nilIface] 209)) rfl hu (het.below hb0) (World.cell?_alloc_at _ _ _ _ rfl) (World.cell?_alloc_at _ _ _ _ rfl) (fun k => World.frozen?_alloc_new _ _ _ _))
  have HB := Lib.hid hb0
  clear hb0 het
  go_enter Tryz.func178, Tryz.ntmps178
  go_wp2_with fail
  refine CA.out.mono ?_
  rintro e w1 ⟨rfl, hw⟩
  have hc : w1.cell? ⟨w.heap.size, 0, none⟩ = some (.int .i64 c) := by
    rw [hw, World.cell?_setCell_other _ _ _ _ (by simp)]
    refine World.cell?_setCell_same' _ _ _ ?_
    rw [World.cell?_alloc_lt _ _ ⟨w.heap.size, 0, none⟩ (by simp; omega), World.cell?_alloc_lt _ _ ⟨w.heap.size, 0, none⟩ (by simp; omega), World.cell?_alloc_lt _ _ ⟨w.heap.size, 0, none⟩ (by simp; omega), World.cell?_alloc_lt _ _ ⟨w.heap.size, 0, none⟩ (by simp), World.cell?_alloc_at _ _ _ _ rfl]
    rfl
  have hbt : Below w.heap.size w w1 := by
    rw [hw]
    exact (((((HB.out.alloc (by simp) _).alloc (by simp; omega) _).alloc (by simp; omega) _).alloc (by simp; omega) _).setCell (p := ⟨w.heap.size, 0, none⟩) (Nat.le_refl _) _).setCell (p := ⟨w.heap.size, 1, none⟩) (Nat.le_refl _) _
  clear hw
  go_wp2_with fail
  go_ret
  exact ⟨rfl, hbt⟩

theorem all9_stop {s : List ByteArray} {k : Nat} {x : ByteArray} (h : s[k]? = some x) (hx : langB x = false) : s.all langB = false := by
  rw [List.all_eq_false]; exact ⟨x, List.mem_of_getElem? h, by simp [hx]⟩
theorem all9_step {s : List ByteArray} {k : Nat} {x : ByteArray} (h : s[k]? = some x) (ha : (s.take k).all langB = true) (hx : langB x = true) : (s.take (k + 1)).all langB = true := by
  rw [take_snoc9 h, List.all_append, ha]; simp [hx]
theorem all9_end {s : List ByteArray} {k : Nat} (h : s.length ≤ k) (ha : (s.take k).all langB = true) : s.all langB = true := by rwa [List.take_of_length_le h] at ha

set_option maxHeartbeats 1000000 in
theorem cAllLang (A : Option Addr) (n c : Nat) (ls : List ByteArray) (w : World) (hb : n ≤ 1048576) (hs : ∀ x ∈ ls, x.size ≤ maxLen) (h : TextAt w w.heap.size A n ls) :
    Calls Tryz.prog 102 #[.slice A n c, .func (.func 103) #[] #[]] w fun e w' => e = .returned (.bool (ls.all langB)) ∧ w = w' := by
  have HN := Lib.hid h.1
  have H := Lib.hid h
  have CC := Lib.hid (fun x (hx : x ∈ ls) W => cLang_impl x W (hs x hx))
  clear h hs
  go_enter Tryz.func102, Tryz.ntmps102
  go_wp2
  go_loop [9] (fun i => ∃ k : Nat, k ≤ n ∧ i = .int .i64 k ∧ Hid ((ls.take k).all langB = true)) (fun i => n - (intOf i).toNat)
  case atStart => exact ⟨0, Nat.zero_le _, rfl, Lib.hid rfl⟩
  case round =>
    obtain ⟨k, hk, rfl, HA⟩ := hrel
    by_cases hlt : k < n
    · obtain ⟨x, hx⟩ : ∃ x, ls[k]? = some x := ⟨ls[k]'(by have := HN.out; omega), List.getElem?_eq_getElem _⟩
      obtain ⟨b, o, rfl, hbl, c0⟩ := H.out.row2 hx
      have CX := Lib.hid (fun W => CC.out x (List.mem_of_getElem? hx) W)
      have HX := Lib.hid hx
      have u1 : (0 : Int) ≤ (k : Int) := Int.natCast_nonneg _
      have u2 : (k : Int) < (n : Int) := by omega
      clear hx
      cases hv : langB x
      · rw [hv] at CX
        have HY := Lib.hid (all9_stop HX.out hv)
        clear hv
        go_wp2_with (go_at_call 103; refine (CX.out _).mono ?_; rintro e w' ⟨rfl, rfl⟩)
        go_ret
        exact ⟨ret_bool HY.out.symm, rfl⟩
      · rw [hv] at CX
        have HY := Lib.hid (all9_step HX.out HA.out hv)
        clear hv
        go_wp2_with (go_at_call 103; refine (CX.out _).mono ?_; rintro e w' ⟨rfl, rfl⟩)
        go_round
        case rel => exact ⟨k + 1, by omega, by go_num, HY⟩
        case measure => simp [intOf]; omega
    · have HY := Lib.hid (all9_end (s := ls) (k := k) (by have := HN.out; omega) HA.out)
      go_wp2
      go_ret
      exact ⟨ret_bool HY.out.symm, rfl⟩

theorem yr_sp (y : Int) : spB y y = yrB y := by unfold spB yrB; rw [decide_eq_true (Int.le_refl y)]; simp
theorem us_in (x : Nm) (y : Int) : inB x.f x.u y = usB x y := rfl
theorem cIsYear (y : Int) (w : World) :
    Calls Tryz.prog 123 #[.int .i64 y] w fun e w' => e = .returned (.bool (yrB y)) ∧ Below w.heap.size w w' := by
  have CV := Lib.hid (fun W => cValid y y W)
  rw [yr_sp] at CV
  go_enter Tryz.func123, Tryz.ntmps123
  go_wp2_with fail
  refine (CV.out _).mono ?_
  rintro e w1 ⟨rfl, g1⟩
  go_wp2_with fail
  go_ret
  exact ⟨rfl, g1⟩
theorem cUsed1 (x : Nm) (y : Int) (w : World) :
    Calls Tryz.prog 128 #[nmA x, .int .i64 y] w fun e w' => e = .returned (.bool (usB x y)) ∧ Below w.heap.size w w' := by
  have CV := Lib.hid (fun W => cHolds x.f x.u y W)
  rw [us_in] at CV
  have hb0 := (Below.refl w.heap.size w).alloc (Nat.le_refl _) (.cells #[.string x.t, .string x.l, .int .i64 x.s, .int .i64 x.f, .int .i64 x.u] 100)
  go_enter Tryz.func128, Tryz.ntmps128
  go_wp2_with fail
  refine (CV.out _).mono ?_
  rintro e w1 ⟨rfl, g1⟩
  go_wp2_with fail
  go_ret
  exact ⟨rfl, bstep9 hb0 hb0.size g1⟩

/-- What a question answers: no error, or a refusal with this code. -/
def RefV (c : Int) (v : Value) : Prop := (c = 0 ∧ v = .nilIface) ∨ (c ≠ 0 ∧ ∃ u, v = .iface 209 (.agg #[.int .i64 c, .iface 257 u]))
def RefOut (c : Int) (w : World) (e : Ending) (w' : World) : Prop := (∃ v, e = .returned v ∧ RefV c v) ∧ Below w.heap.size w w'

set_option maxHeartbeats 2000000 in
theorem cQuest (A B : Option Addr) (n c n2 c2 : Nat) (xs : List Nm) (ls : List ByteArray) (y : Int) (w : World) (hb : n ≤ 1048576) (hb2 : n2 ≤ 1048576) (hz : Sz9 xs) (hl : ∀ x ∈ ls, x.size ≤ maxLen)
    (h : NmAt w w.heap.size A n xs) (hcap : n ≤ c) (h2 : TextAt w w.heap.size B n2 ls) (hsh : w.ShapedOpen Tryz.prog) (her : Er7 w) :
    Calls Tryz.prog 202 #[.slice A n c, .slice B n2 c2, .int .i64 y] w (RefOut (qC xs ls y) w) := by
  have CN := Lib.hid (cChkNames A n c xs w hb hz h hcap hsh her.e)
  have CL := Lib.hid (fun W (hW : Below w.heap.size w W) => cAllLang B n2 c2 ls W hb2 hl ((h2.below hW (Nat.le_refl _)).more hW.size))
  have CY := Lib.hid (fun W => cIsYear y W)
  have HE := Lib.hid (fun W (hW : Below w.heap.size w W) => her.below hW)
  clear h h2 hsh her hz hl
  rcases qC_cases xs ls y with ⟨hq, e1⟩ | ⟨hq, e1, e2⟩ | ⟨hq, e1, e2, e3⟩ | ⟨hq, e1, e2, e3⟩
  · rw [hq]
    rw [e1] at CN
    clear hq e1
    go_enter Tryz.func202, Tryz.ntmps202
    go_wp2_with fail
    refine CN.out.mono ?_
    rintro e w1 ⟨⟨v, rfl, hv⟩, hbt⟩
    obtain ⟨u, rfl⟩ : ∃ u, v = .iface 257 u := by
      rcases hv with ⟨h, _⟩ | ⟨_, h⟩
      · cases h
      · exact h
    clear hv
    go_wp2_with fail
    go_ret
    exact ⟨⟨_, rfl, .inr ⟨by decide, _, rfl⟩⟩, hbt⟩
  all_goals
    rw [hq]
    rw [e1] at CN
    rw [e2] at CL
    clear hq e1 e2
    go_enter Tryz.func202, Tryz.ntmps202
    go_wp2_with fail
    refine CN.out.mono ?_
    rintro e w1 ⟨⟨v, rfl, hv⟩, hbt⟩
    obtain rfl : v = .nilIface := by
      rcases hv with ⟨_, h⟩ | ⟨h, _⟩
      · exact h
      · cases h
    clear hv
  · obtain ⟨v, hv⟩ := (HE.out w1 hbt).e.e.l
    go_wp2_with (go_at_call 102; refine (CL.out _ hbt).mono ?_; rintro e w' ⟨rfl, rfl⟩)
    go_ret
    exact ⟨⟨_, rfl, .inr ⟨by decide, _, rfl⟩⟩, hbt⟩
  · rw [e3] at CY
    clear e3
    go_wp2_with (go_at_call 102; refine (CL.out _ hbt).mono ?_; rintro e w' ⟨rfl, rfl⟩)
    refine (CY.out _).mono ?_
    rintro e w2 ⟨rfl, g2⟩
    have hb2 := bstep9 hbt hbt.size g2
    obtain ⟨v, hv⟩ := (HE.out w2 hb2).q
    clear g2
    go_wp2_with fail
    go_ret
    exact ⟨⟨_, rfl, .inr ⟨by decide, _, rfl⟩⟩, hb2⟩
  · rw [e3] at CY
    clear e3
    go_wp2_with (go_at_call 102; refine (CL.out _ hbt).mono ?_; rintro e w' ⟨rfl, rfl⟩)
    refine (CY.out _).mono ?_
    rintro e w2 ⟨rfl, g2⟩
    have hb2 := bstep9 hbt hbt.size g2
    clear g2
    go_wp2_with fail
    go_ret
    exact ⟨⟨_, rfl, .inl ⟨rfl, rfl⟩⟩, hb2⟩
end
section
set_option linter.unusedVariables false
open Go.RowKit

def OutN9 (zs : List Int) (code : Int) (w : World) (e : Ending) (w' : World) : Prop :=
  ∃ A n c, e = .returned (.tuple #[.slice A n c, .int .i64 code]) ∧ w'.ownsRow w.heap.size 2 1 (.slice A n c) n (intV zs) ∧ Below w.heap.size w w'
theorem intV_snoc9 (xs : List Int) (x : Int) : intV xs ++ [.int .i64 x] = intV (xs ++ [x]) := by simp [intV]
theorem qC_aa (xs : List Nm) (y : Int) : qC xs [⟨#[97, 97]⟩] y = qC xs [] y := by
  have : langB ⟨#[97, 97]⟩ = true := by decide
  unfold qC; simp [this]
theorem usZ_ok {xs : List Nm} {y : Int} (h : qC xs [] y = 0) : usZ xs y = usP xs y xs.length := by unfold usZ; rw [if_pos h]
theorem usZ_no {xs : List Nm} {y : Int} (h : qC xs [] y ≠ 0) : usZ xs y = [] := by unfold usZ; rw [if_neg h]
theorem usZ_len9 (xs : List Nm) (y : Int) : (usZ xs y).length ≤ 1048576 := by have := usZ_len xs y; omega
theorem kept9 {w w' : World} {base n : Nat} {A : Option Addr} {m d : Nat} {t : TypeId} {xs : List Value} {sz : Nat} (h : w.ownsRow base t sz (.slice A m d) n xs) (hb : Below w.heap.size w w') : w'.ownsRow base t sz (.slice A m d) n xs :=
  h.kept ⟨hb.os, hb.tape, hb.output, hb.size, fun j hj _ => hb.block j hj⟩ (row := none) (by
    rcases hh : (Value.slice A m d).ownBlock with _ | q
    · exact .inl rfl
    · exact .inr (fun e => by cases e))

def UsedOut (xs : List Nm) (y : Int) (n : Nat) (w : World) (e : Ending) (w' : World) : Prop :=
  ∃ A m d, e = .returned (.slice A m d) ∧ w'.ownsRow w.heap.size 2 1 (.slice A m d) m (intV (usP xs y n)) ∧ Below w.heap.size w w'
set_option maxHeartbeats 2000000 in
set_option maxRecDepth 100000 in
theorem cL09Used (A : Option Addr) (n c : Nat) (xs : List Nm) (y : Int) (w : World) (hb : n ≤ 1048576) (h : NmAt w w.heap.size A n xs) :
    Calls Tryz.prog 131 #[.slice A n c, .int .i64 y] w (UsedOut xs y n w) := by
  obtain ⟨i0, hi0, hz0, hz1, hz2⟩ := info_parts info_i64
  have H := Lib.hid h
  have HN := Lib.hid h.1
  have CU := Lib.hid (fun (x : Nm) W => cIn_any y x.f x.u W)
  clear h
  have hO := World.ownsRow_lit (e := 2) (base := w.heap.size) (size := 1) w #[] 0 (Nat.le_refl _) (by decide) rfl
  have HO0 := Lib.hid hO
  have hb1a := (Below.refl w.heap.size w).alloc (Nat.le_refl _) (.cells #[] 2)
  clear hO
  go_enter Tryz.func131, Tryz.ntmps131
  go_wp2_with fail
  go_loopw [5, 6] (fun o i wr => ∃ (k m d : Nat) (B : Option Addr), k ≤ n ∧ i = .int .i64 k ∧ o = .slice B m d ∧ Hid (m ≤ k) ∧ Hid (wr.ownsRow w.heap.size 2 1 (.slice B m d) m (intV (usP xs y k))) ∧ Below w.heap.size w wr) (fun _ i _ => n - (intOf i).toNat)
  case atStart => exact ⟨0, 0, 0, _, Nat.zero_le _, rfl, rfl, Lib.hid (Nat.le_refl _), HO0, hb1a⟩
  case round =>
    clear HO0 hb1a
    obtain ⟨k, m, d, B, hk, rfl, rfl, HM, HO, hbw⟩ := hrel
    by_cases hlt : k < n
    · obtain ⟨x, hx⟩ : ∃ x, xs[k]? = some x := ⟨xs[k]'(by have := HN.out; omega), List.getElem?_eq_getElem _⟩
      obtain ⟨b, o, rfl, hbl, c0, c1, c2, c3, c4⟩ := (H.out.below hbw (Nat.le_refl _)).row hx
      have HX := Lib.hid hx
      have CX := Lib.hid (fun W => CU.out x W)
      have u1 : (0 : Int) ≤ (k : Int) := Int.natCast_nonneg _
      have u2 : (k : Int) < (n : Int) := by omega
      clear hx
      cases hf : usB x y
      · rw [show (decide (x.f ≤ y) && decide (y ≤ x.u)) = false from hf] at CX
        have HST := Lib.hid (usP_no HX.out hf)
        clear hf
        go_wp2_with fail
        go_quiet ((go_at_call 83; exact Calls.quiet_of_same ((CX.out _).mono (fun _ _ h => ⟨h.1, h.2.symm⟩))))
        have HO2 : Hid ((wr.drewN nq).ownsRow w.heap.size 2 1 (.slice B m d) m (intV (usP xs y (k + 1)))) := Lib.hid (by rw [HST.out]; exact HO.out)
        go_wp2_with fail
        go_roundw
        case rel => exact ⟨k + 1, m, d, B, by omega, by go_num, rfl, Lib.hid (by have := HM.out; omega), HO2, below_drN_r hbw _⟩
        case measure => simp [intOf]; omega
      · rw [show (decide (x.f ≤ y) && decide (y ≤ x.u)) = true from hf] at CX
        have HST := Lib.hid (usP_yes HX.out hf)
        clear hf
        go_wp2_with fail
        go_quiet ((go_at_call 83; exact Calls.quiet_of_same ((CX.out _).mono (fun _ _ h => ⟨h.1, h.2.symm⟩))))
        have hown : (wr.drewN nq).ownsRow w.heap.size 2 1 (.slice B m d) m (intV (usP xs y k)) := HO.out
        have hbt : Below w.heap.size w (wr.drewN nq) := below_drN_r hbw _
        have hmk := HM.out
        go_wp2_with (at_builtin; refine wpList_append_own _ rfl _ _ 49 rfl w.heap.size 2 i0 _ 1 8 Tryz.underlying49 hi0 hz0 hz1 hz2 rfl (by decide) _ _ _ rfl (hown.alloc _) ⟨(wr.drewN nq).heap.size, 0, none⟩ 1 1 [.int .i64 (k : Int)] rfl rfl ?d1 ?d2 ?d3 ?d4 ?d5 ?_)
        case d1 => exact one_cell' _ _ _ (new_one _ _ _)
        case d2 => intro u hu; simp at hu; subst hu; rfl
        case d3 => unfold maxLen; omega
        case d4 => omega
        case d5 => have := hbw.size; simp; omega
        intro v' w3 hown3 hgrow3 _
        rw [intV_snoc9] at hown3
        have hb3 : Below w.heap.size w w3 := (hbt.alloc hbt.size _).grown hgrow3 (by have := hbw.size; simp; omega) (fun x hx => (hown.lt x hx).1)
        have HO3 : Hid (w3.ownsRow w.heap.size 2 1 v' (m + 1) (intV (usP xs y (k + 1)))) := Lib.hid (by rw [HST.out]; exact hown3)
        obtain ⟨g', c', rfl, _, _⟩ := World.ownsRow.form HO3.out (by omega)
        clear hown3 hown hgrow3
        go_wp2_with fail
        go_roundw
        case rel => exact ⟨k + 1, m + 1, c', some ⟨g', 0, none⟩, by omega, by go_num, rfl, Lib.hid (by omega), HO3, hb3⟩
        case measure => simp [intOf]; omega
    · obtain rfl : k = n := by omega
      go_wp2_with fail
      go_ret
      exact ⟨B, m, d, rfl, HO.out, hbw⟩

end
end Go.Proofs.YtglmibmjbignbaaGreatDoor
