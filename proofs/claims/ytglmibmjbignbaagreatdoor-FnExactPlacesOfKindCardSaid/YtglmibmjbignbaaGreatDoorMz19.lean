/-
  The contracts of codeOf, of areAll at isLanguage, of isYear, isUsedIn and checkQuestion.
-/
import Derived.Test.YtglmibmjbignbaaGreatDoorMz15
import Derived.Test.YtglmibmjbignbaaGreatDoorAs9
import Derived.Test.YtglmibmjbignbaaGreatDoorMz4
import Derived.Test.YtglmibmjbignbaaGreatDoorIntRow
import Derived.Test.YtglmibmjbignbaaGreatDoorMz1
namespace Go.Proofs.YtglmibmjbignbaaGreatDoor
section
set_option linter.unusedVariables false
open Go.RowKit

theorem cCodeNil (w : World) : Calls Tryz.prog 178 #[.nilIface] w fun e w' => e = .returned (.int .i64 0) ∧ Below w.heap.size w w' := by
  have CA := Lib.hid (fun t W => as_nil t W)
  have hb0 := (Below.refl w.heap.size w).alloc (Nat.le_refl _) (.cells #[.int .i64 0, .nilIface] 209)
  go_enter Tryz.func178, Tryz.ntmps178
  go_wp2_with fail
  refine (CA.out _ _).mono ?_
  rintro e w1 ⟨rfl, rfl⟩
  go_wp2_with fail
  go_ret
  exact ⟨rfl, hb0⟩
set_option maxHeartbeats 1000000 in
theorem cCodeRef (c : Int) (u : Value) (w : World) (hu : u.oneCell' = true) (het : Et w) :
    Calls Tryz.prog 178 #[.iface 209 (.agg #[.int .i64 c, u])] w fun e w' => e = .returned (.int .i64 c) ∧ Below w.heap.size w w' := by
  have hb0 := (Below.refl w.heap.size w).alloc (Nat.le_refl _) (.cells #[.int .i64 0, .nilIface] 209)
  have CA := Lib.hid (as_hit (.int .i64 c) u w.heap.size (.int .i64 0) .nilIface (w.alloc (.cells #[.int .i64 0, .nilIface] 209)) rfl hu (het.below hb0) (World.cell?_alloc_at _ _ _ _ rfl) (World.cell?_alloc_at _ _ _ _ rfl) (fun k => World.frozen?_alloc_new _ _ _ _))
  have HB := Lib.hid hb0
  clear hb0 het
  go_enter Tryz.func178, Tryz.ntmps178
  go_wp2_with fail
  refine CA.out.mono ?_
  rintro e w1 ⟨rfl, hw⟩
  have hc : w1.cell? ⟨w.heap.size, 0, none⟩ = some (.int .i64 c) := by
    rw [hw, World.cell?_setCell_other _ _ _ _ (by simp)]
    refine World.cell?_setCell_same' _ _ _ ?_
    rw [World.cell?_alloc_lt _ _ ⟨w.heap.size, 0, none⟩ (by simp; omega), World.cell?_alloc_lt _ _ ⟨w.heap.size, 0, none⟩ (by simp; omega), World.cell?_alloc_lt _ _ ⟨w.heap.size, 0, none⟩ (by simp; omega), World.cell?_alloc_lt _ _ ⟨w.heap.size, 0, none⟩ (by simp), World.cell?_alloc_at _ _ _ _ rfl]
    rfl
  have hbt : Below w.heap.size w w1 := by
    rw [hw]
    exact (((((HB.out.alloc (by simp) _).alloc (by simp; omega) _).alloc (by simp; omega) _).alloc (by simp; omega) _).setCell (p := ⟨w.heap.size, 0, none⟩) (Nat.le_refl _) _).setCell (p := ⟨w.heap.size, 1, none⟩) (Nat.le_refl _) _
  clear hw
  go_wp2_with fail
  go_ret
  exact ⟨rfl, hbt⟩

theorem all9_stop {s : List ByteArray} {k : Nat} {x : ByteArray} (h : s[k]? = some x) (hx : langB x = false) : s.all langB = false := by
  rw [List.all_eq_false]; exact ⟨x, List.mem_of_getElem? h, by simp [hx]⟩
theorem all9_step {s : List ByteArray} {k : Nat} {x : ByteArray} (h : s[k]? = some x) (ha : (s.take k).all langB = true) (hx : langB x = true) : (s.take (k + 1)).all langB = true := by
  rw [take_snoc9 h, List.all_append, ha]; simp [hx]
theorem all9_end {s : List ByteArray} {k : Nat} (h : s.length ≤ k) (ha : (s.take k).all langB = true) : s.all langB = true := by rwa [List.take_of_length_le h] at ha

set_option maxHeartbeats 1000000 in
theorem cAllLang (A : Option Addr) (n c : Nat) (ls : List ByteArray) (w : World) (hb : n ≤ 1048576) (hs : ∀ x ∈ ls, x.size ≤ maxLen) (h : TextAt w w.heap.size A n ls) :
    Calls Tryz.prog 102 #[.slice A n c, .func (.func 103) #[] #[]] w fun e w' => e = .returned (.bool (ls.all langB)) ∧ w = w' := by
  have HN := Lib.hid h.1
  have H := Lib.hid h
  have CC := Lib.hid (fun x (hx : x ∈ ls) W => cLang_impl x W (hs x hx))
  clear h hs
  go_enter Tryz.func102, Tryz.ntmps102
  go_wp2
  go_loop [9] (fun i => ∃ k : Nat, k ≤ n ∧ i = .int .i64 k ∧ Hid ((ls.take k).all langB = true)) (fun i => n - (intOf i).toNat)
  case atStart => exact ⟨0, Nat.zero_le _, rfl, Lib.hid rfl⟩
  case round =>
    obtain ⟨k, hk, rfl, HA⟩ := hrel
    by_cases hlt : k < n
    · obtain ⟨x, hx⟩ : ∃ x, ls[k]? = some x := ⟨ls[k]'(by have := HN.out; omega), List.getElem?_eq_getElem _⟩
      obtain ⟨b, o, rfl, hbl, c0⟩ := H.out.row2 hx
      have CX := Lib.hid (fun W => CC.out x (List.mem_of_getElem? hx) W)
      have HX := Lib.hid hx
      have u1 : (0 : Int) ≤ (k : Int) := Int.natCast_nonneg _
      have u2 : (k : Int) < (n : Int) := by omega
      clear hx
      cases hv : langB x
      · rw [hv] at CX
        have HY := Lib.hid (all9_stop HX.out hv)
        clear hv
        go_wp2_with (go_at_call 103; refine (CX.out _).mono ?_; rintro e w' ⟨rfl, rfl⟩)
        go_ret
        exact ⟨ret_bool HY.out.symm, rfl⟩
      · rw [hv] at CX
        have HY := Lib.hid (all9_step HX.out HA.out hv)
        clear hv
        go_wp2_with (go_at_call 103; refine (CX.out _).mono ?_; rintro e w' ⟨rfl, rfl⟩)
        go_round
        case rel => exact ⟨k + 1, by omega, by go_num, HY⟩
        case measure => simp [intOf]; omega
    · have HY := Lib.hid (all9_end (s := ls) (k := k) (by have := HN.out; omega) HA.out)
      go_wp2
      go_ret
      exact ⟨ret_bool HY.out.symm, rfl⟩

theorem yr_sp (y : Int) : spB y y = yrB y := by unfold spB yrB; rw [decide_eq_true (Int.le_refl y)]; simp
theorem us_in (x : Nm) (y : Int) : inB x.f x.u y = usB x y := rfl
theorem cIsYear (y : Int) (w : World) :
    Calls Tryz.prog 123 #[.int .i64 y] w fun e w' => e = .returned (.bool (yrB y)) ∧ Below w.heap.size w w' := by
  have CV := Lib.hid (fun W => cValid y y W)
  rw [yr_sp] at CV
  go_enter Tryz.func123, Tryz.ntmps123
  go_wp2_with fail
  refine (CV.out _).mono ?_
  rintro e w1 ⟨rfl, g1⟩
  go_wp2_with fail
  go_ret
  exact ⟨rfl, g1⟩
theorem cUsed1 (x : Nm) (y : Int) (w : World) :
    Calls Tryz.prog 128 #[nmA x, .int .i64 y] w fun e w' => e = .returned (.bool (usB x y)) ∧ Below w.heap.size w w' := by
  have CV := Lib.hid (fun W => cHolds x.f x.u y W)
  rw [us_in] at CV
  have hb0 := (Below.refl w.heap.size w).alloc (Nat.le_refl _) (.cells #[.string x.t, .string x.l, .int .i64 x.s, .int .i64 x.f, .int .i64 x.u] 100)
  go_enter Tryz.func128, Tryz.ntmps128
  go_wp2_with fail
  refine (CV.out _).mono ?_
  rintro e w1 ⟨rfl, g1⟩
  go_wp2_with fail
  go_ret
  exact ⟨rfl, bstep9 hb0 hb0.size g1⟩

/-- What a question answers: no error, or a refusal with this code. -/
def RefV (c : Int) (v : Value) : Prop := (c = 0 ∧ v = .nilIface) ∨ (c ≠ 0 ∧ ∃ u, v = .iface 209 (.agg #[.int .i64 c, .iface 257 u]))
def RefOut (c : Int) (w : World) (e : Ending) (w' : World) : Prop := (∃ v, e = .returned v ∧ RefV c v) ∧ Below w.heap.size w w'

set_option maxHeartbeats 2000000 in
theorem cQuest (A B : Option Addr) (n c n2 c2 : Nat) (xs : List Nm) (ls : List ByteArray) (y : Int) (w : World) (hb : n ≤ 1048576) (hb2 : n2 ≤ 1048576) (hz : Sz9 xs) (hl : ∀ x ∈ ls, x.size ≤ maxLen)
    (h : NmAt w w.heap.size A n xs) (hcap : n ≤ c) (h2 : TextAt w w.heap.size B n2 ls) (hsh : w.ShapedOpen Tryz.prog) (her : Er7 w) :
    Calls Tryz.prog 202 #[.slice A n c, .slice B n2 c2, .int .i64 y] w (RefOut (qC xs ls y) w) := by
  have CN := Lib.hid (cChkNames A n c xs w hb hz h hcap hsh her.e)
  have CL := Lib.hid (fun W (hW : Below w.heap.size w W) => cAllLang B n2 c2 ls W hb2 hl ((h2.below hW (Nat.le_refl _)).more hW.size))
  have CY := Lib.hid (fun W => cIsYear y W)
  have HE := Lib.hid (fun W (hW : Below w.heap.size w W) => her.below hW)
  clear h h2 hsh her hz hl
  rcases qC_cases xs ls y with ⟨hq, e1⟩ | ⟨hq, e1, e2⟩ | ⟨hq, e1, e2, e3⟩ | ⟨hq, e1, e2, e3⟩
  · rw [hq]
    rw [e1] at CN
    clear hq e1
    go_enter Tryz.func202, Tryz.ntmps202
    go_wp2_with fail
    refine CN.out.mono ?_
    rintro e w1 ⟨⟨v, rfl, hv⟩, hbt⟩
    obtain ⟨u, rfl⟩ : ∃ u, v = .iface 257 u := by
      rcases hv with ⟨h, _⟩ | ⟨_, h⟩
      · cases h
      · exact h
    clear hv
    go_wp2_with fail
    go_ret
    exact ⟨⟨_, rfl, .inr ⟨by decide, _, rfl⟩⟩, hbt⟩
  all_goals
    rw [hq]
    rw [e1] at CN
    rw [e2] at CL
    clear hq e1 e2
    go_enter Tryz.func202, Tryz.ntmps202
    go_wp2_with fail
    refine CN.out.mono ?_
    rintro e w1 ⟨⟨v, rfl, hv⟩, hbt⟩
    obtain rfl : v = .nilIface := by
      rcases hv with ⟨_, h⟩ | ⟨h, _⟩
      · exact h
      · cases h
    clear hv
  · obtain ⟨v, hv⟩ := (HE.out w1 hbt).e.e.l
    go_wp2_with (go_at_call 102; refine (CL.out _ hbt).mono ?_; rintro e w' ⟨rfl, rfl⟩)
    go_ret
    exact ⟨⟨_, rfl, .inr ⟨by decide, _, rfl⟩⟩, hbt⟩
  · rw [e3] at CY
    clear e3
    go_wp2_with (go_at_call 102; refine (CL.out _ hbt).mono ?_; rintro e w' ⟨rfl, rfl⟩)
    refine (CY.out _).mono ?_
    rintro e w2 ⟨rfl, g2⟩
    have hb2 := bstep9 hbt hbt.size g2
    obtain ⟨v, hv⟩ := (HE.out w2 hb2).q
    clear g2
    go_wp2_with fail
    go_ret
    exact ⟨⟨_, rfl, .inr ⟨by decide, _, rfl⟩⟩, hb2⟩
  · rw [e3] at CY
    clear e3
    go_wp2_with (go_at_call 102; refine (CL.out _ hbt).mono ?_; rintro e w' ⟨rfl, rfl⟩)
    refine (CY.out _).mono ?_
    rintro e w2 ⟨rfl, g2⟩
    have hb2 := bstep9 hbt hbt.size g2
    clear g2
    go_wp2_with fail
    go_ret
    exact ⟨⟨_, rfl, .inl ⟨rfl, rfl⟩⟩, hb2⟩
end
section
set_option linter.unusedVariables false
open Go.RowKit

/-- A slice that holds the numbers xs, in a block below B. -/
def NumAt (w : World) (B : Nat) (A : Option Addr) (n : Nat) (xs : List Int) : Prop :=
  n = xs.length ∧ (0 < n → ∃ b o, A = some ⟨b, o, none⟩ ∧ b < B ∧ ∀ (j : Nat) x, xs[j]? = some x → w.cell? ⟨b, o + j, none⟩ = some (.int .i64 x))
theorem NumAt.below {w w' : World} {B C : Nat} {A : Option Addr} {n : Nat} {xs : List Int} (h : NumAt w B A n xs) (hb : Below C w w') (hBC : B ≤ C) : NumAt w' B A n xs :=
  ⟨h.1, fun hp => by obtain ⟨b, o, h1, h2, h3⟩ := h.2 hp; exact ⟨b, o, h1, h2, fun j x hx => (hb.cell (by exact Nat.lt_of_lt_of_le h2 hBC)).trans (h3 j x hx)⟩⟩
theorem NumAt.more {w : World} {B C : Nat} {A : Option Addr} {n : Nat} {xs : List Int} (h : NumAt w B A n xs) (hBC : B ≤ C) : NumAt w C A n xs :=
  ⟨h.1, fun hp => by obtain ⟨b, o, h1, h2, h3⟩ := h.2 hp; exact ⟨b, o, h1, Nat.lt_of_lt_of_le h2 hBC, h3⟩⟩
theorem IsInts.row {k : IntKind} {w : World} {a : Option Addr} {len cap : Nat} {zs : List Int} (h : IsInts k w a len cap zs) (hp : 0 < len) :
    ∃ b o, a = some ⟨b, o, none⟩ ∧ b < w.heap.size ∧ (zs.take len).length = len ∧ len ≤ maxLen ∧ (∀ (j : Nat) x, (zs.take len)[j]? = some x → w.cell? ⟨b, o + j, none⟩ = some (.int k x)) ∧ ∀ n ∈ zs.take len, (Lit.int k n).wf = true := by
  rcases h with ⟨_, h, _⟩ | ⟨x, rfl, hl, hm, hz, hc, hs⟩
  · omega
  · obtain ⟨b, o, spot⟩ := x
    have hspot : spot = none := by simpa [Addr.add] using World.cell?_spot (hc 0 (by omega))
    subst hspot
    have h0 := hc 0 (by omega)
    rw [add_plain'] at h0
    refine ⟨b, o, rfl, World.block_lt_of_cell? w _ h0, by simp; omega, by omega, fun j y hj => ?_, fun s hs' => hs s (List.mem_of_mem_take hs')⟩
    have hjl := (List.getElem?_eq_some_iff.1 hj).1
    rw [List.length_take] at hjl
    have h1 := hc j (by omega)
    rw [add_plain'] at h1
    rw [h1]
    rw [List.getElem?_take, if_pos (by omega)] at hj
    simp [List.getD, hj]

def copyI (xs : List Int) (n k : Nat) : List Value := intV (xs.take k) ++ List.replicate (n - k) (.int .i64 0)
theorem copyI_zero (xs : List Int) (n : Nat) : (madeCells #[Value.int .i64 0] n).toList = copyI xs n 0 := by
  apply List.ext_getElem?
  intro j
  by_cases h : j < n
  · simp [madeCells, copyI, intV, h, Nat.mod_one]
  · rw [List.getElem?_eq_none (by simp [madeCells]; omega), List.getElem?_eq_none (by simp [copyI, intV]; omega)]
theorem copyI_step (xs : List Int) (n k : Nat) (x : Int) (hn : n = xs.length) (h : xs[k]? = some x) : (copyI xs n k).set k (.int .i64 x) = copyI xs n (k + 1) := by
  have hl := (List.getElem?_eq_some_iff.1 h).1
  have he : xs[k] = x := (List.getElem?_eq_some_iff.1 h).2
  unfold copyI intV
  rw [List.set_append_right _ _ (by simp; omega), List.take_succ_eq_append_getElem hl, he, List.map_append, List.append_assoc]
  congr 1
  obtain ⟨d, hd⟩ : ∃ d, n - k = d + 1 := ⟨n - k - 1, by omega⟩
  rw [hd, show n - (k + 1) = d by omega, List.length_map, List.length_take, show k - min k xs.length = 0 by omega, List.replicate_succ, List.set_cons_zero]
  rfl
theorem copyI_all (xs : List Int) (n : Nat) (hn : n = xs.length) : copyI xs n n = intV xs := by
  unfold copyI; rw [List.take_of_length_le (by omega), Nat.sub_self]; simp

theorem cToI_none (A : Option Addr) (cap : Nat) (w : World) :
    Calls Tryz.prog 47 #[.slice A 0 cap] w fun e w' => e = .returned (.slice (some ⟨w.heap.size, 0, none⟩) 0 0) ∧ Below w.heap.size w w' := by
  obtain ⟨i0, hi0, hz0, hz1, hz2⟩ := info_parts info_i64
  go_enter Tryz.func47, Tryz.ntmps47
  go_wp2_with (at_make; refine wpList_make_full _ rfl _ _ 49 rfl w.heap.size 2 i0 _ 1 Tryz.underlying49 hi0 hz0 hz1 _ _ _ _ 0 rfl rfl (by simp) (by simp) ?b2 ?b3 (Nat.le_refl _) ?_)
  case b2 => rw [hz2]; omega
  case b3 => unfold maxLen; omega
  intro w0 hown0 hgrow0
  have hb0 : Below w.heap.size w w0 := (Below.refl _ _).grown hgrow0 (Nat.le_refl _) (fun k h => by cases h)
  clear hown0 hgrow0
  go_wp2
  refine wp_loop_rounds 1 ?_
  rw [rounds_succ]
  go_wp2
  go_ret
  exact ⟨rfl, hb0⟩

set_option maxHeartbeats 1000000 in
theorem cToI (b o n cap : Nat) (xs : List Int) (w : World) (hn : n = xs.length) (hbig : n ≤ 1048576) (hb : b < w.heap.size)
    (hc : ∀ (j : Nat) x, xs[j]? = some x → w.cell? ⟨b, o + j, none⟩ = some (.int .i64 x)) :
    Calls Tryz.prog 47 #[.slice (some ⟨b, o, none⟩) n cap] w fun e w' => e = .returned (.slice (some ⟨w.heap.size, 0, none⟩) n n) ∧
      w'.ownsRow w.heap.size 2 1 (.slice (some ⟨w.heap.size, 0, none⟩) n n) n (intV xs) ∧ Below w.heap.size w w' := by
  obtain ⟨i0, hi0, hz0, hz1, hz2⟩ := info_parts info_i64
  have HN := Lib.hid hn
  have HC := Lib.hid hc
  clear hn hc
  go_enter Tryz.func47, Tryz.ntmps47
  go_wp2_with (at_make; refine wpList_make_full _ rfl _ _ 49 rfl w.heap.size 2 i0 _ 1 Tryz.underlying49 hi0 hz0 hz1 _ _ _ _ n rfl rfl (by simp) (by simp) ?b2 ?b3 (Nat.le_refl _) ?_)
  case b2 => rw [hz2]; omega
  case b3 => unfold maxLen; omega
  intro w0 hown0 hgrow0
  rw [copyI_zero xs] at hown0
  have hb0 : Below w.heap.size w w0 := (Below.refl _ _).grown hgrow0 (Nat.le_refl _) (fun k h => by cases h)
  clear hgrow0
  go_wp2
  go_loopw [4] (fun i wr => ∃ k : Nat, k ≤ n ∧ i = .int .i64 k ∧ wr.ownsRow w.heap.size 2 1 (.slice (some ⟨w.heap.size, 0, none⟩) n n) n (copyI xs n k) ∧ Below w.heap.size w wr) (fun i _ => n - (intOf i).toNat)
  case atStart => exact ⟨0, Nat.zero_le _, rfl, hown0, hb0⟩
  case round =>
    clear hown0 hb0
    obtain ⟨k, hk, rfl, hown, hbw⟩ := hrel
    by_cases hlt : k < n
    · obtain ⟨x, hx⟩ : ∃ x, xs[k]? = some x := ⟨xs[k]'(by have := HN.out; omega), List.getElem?_eq_getElem _⟩
      have hcx := (hbw.cell (by exact hb)).trans (HC.out k x hx)
      have f4 := hown.frozenAt k
      obtain ⟨v4, c4⟩ : ∃ v, wr.cell? ⟨w.heap.size, k, none⟩ = some v := by
        have hl : k < (copyI xs n k).length := by rw [hown.1]; omega
        exact ⟨_, (hown.cellAt k (by omega)).trans (List.getElem?_eq_getElem hl)⟩
      have hst := (hown.stored k (.int .i64 x)).1
      rw [copyI_step xs n k x HN.out hx] at hst
      have hbw1 : Below w.heap.size w (wr.setCell ⟨w.heap.size, k, none⟩ (.int .i64 x)) := hbw.setCell (Nat.le_refl _) _
      clear hx hown
      go_wp2
      go_roundw
      case rel => exact ⟨k + 1, by omega, by go_num, hst, hbw1⟩
      case measure => simp [intOf]; omega
    · obtain rfl : k = n := by omega
      rw [copyI_all xs k HN.out] at hown
      go_wp2
      go_ret
      exact ⟨rfl, hown, hbw⟩

theorem numAt_arg {w : World} {a : Option Addr} {n cap : Nat} {zs : List Int} (h : IsInts .i64 w a n cap zs) : n ≤ maxLen ∧ NumAt w w.heap.size a n (zs.take n) := by
  rcases Nat.eq_zero_or_pos n with rfl | hp
  · exact ⟨Nat.zero_le _, by simp, fun h => absurd h (by omega)⟩
  · obtain ⟨b, o, rfl, hb, hl, hm, hc, _⟩ := h.row hp
    exact ⟨hm, hl.symm, fun _ => ⟨b, o, rfl, hb, hc⟩⟩
theorem tToI (A : Option Addr) (n cap : Nat) (xs : List Int) (w : World) (hbig : n ≤ 1048576) (h : NumAt w w.heap.size A n xs) :
    Calls Tryz.prog 47 #[.slice A n cap] w fun e w' => e = .returned (.slice (some ⟨w.heap.size, 0, none⟩) n n) ∧
      NumAt w' w'.heap.size (some ⟨w.heap.size, 0, none⟩) n xs ∧ Below w.heap.size w w' := by
  rcases Nat.eq_zero_or_pos n with rfl | hp
  · refine (cToI_none A cap w).mono ?_
    rintro e w' ⟨rfl, hb⟩
    exact ⟨rfl, ⟨h.1, fun hp => absurd hp (by omega)⟩, hb⟩
  · obtain ⟨b, o, rfl, hb, hc⟩ := h.2 hp
    refine (cToI b o n cap xs w h.1 hbig hb hc).mono ?_
    rintro e w' ⟨rfl, own, hbw⟩
    refine ⟨rfl, ⟨h.1, fun _ => ⟨_, 0, rfl, (own.lt _ rfl).2, fun j x hx => ?_⟩⟩, hbw⟩
    rw [Nat.zero_add]
    exact (own.cellAt j (by have := (List.getElem?_eq_some_iff.1 hx).1; have := h.1; omega)).trans (intV_at _ _ _ hx)

set_option maxHeartbeats 1000000 in
set_option maxRecDepth 100000 in
/-- Two slices with the same numbers are equal. -/
theorem tEqI (A A' : Option Addr) (cap cap' n B C : Nat) (xs : List Int) (w : World) (hbig : n ≤ 1048576) (h1 : NumAt w B A n xs) (h2 : NumAt w C A' n xs) :
    Calls Tryz.prog 48 #[.slice A n cap, .slice A' n cap'] w fun e w' => e = .returned (.bool true) ∧ ∃ m, w' = w.drewN m := by
  rcases Nat.eq_zero_or_pos n with rfl | hp
  · go_enter Tryz.func48, Tryz.ntmps48
    go_wp2
    refine wp_loop_rounds 1 ?_
    rw [rounds_succ]
    go_wp2
    go_ret
    exact ⟨rfl, 0, rfl⟩
  obtain ⟨b, o, rfl, hb, hc⟩ := h1.2 hp
  obtain ⟨b', o', rfl, hb', hc'⟩ := h2.2 hp
  have HN := Lib.hid h1.1
  have H1 := Lib.hid hc
  have H2 := Lib.hid hc'
  clear h1 h2 hc hc' hb hb'
  go_enter Tryz.func48, Tryz.ntmps48
  go_wp2
  go_loopw [5] (fun i wr => ∃ j m : Nat, j ≤ n ∧ i = .int .i64 j ∧ wr = w.drewN m) (fun i _ => n - (intOf i).toNat)
  case atStart => exact ⟨0, 0, Nat.zero_le _, rfl, rfl⟩
  case round =>
    obtain ⟨j, m, hj, rfl, rfl⟩ := hrel
    by_cases hlt : j < n
    · obtain ⟨x, hx⟩ : ∃ x, xs[j]? = some x := ⟨xs[j]'(by have := HN.out; omega), List.getElem?_eq_getElem _⟩
      have c1 : w.cell? ⟨b, o + j, none⟩ = some (.int .i64 x) := H1.out j x hx
      have c2 : w.cell? ⟨b', o' + j, none⟩ = some (.int .i64 x) := H2.out j x hx
      clear hx
      have e1 : (0 : Int) ≤ (j : Int) := Int.natCast_nonneg _
      have e2 : (j : Int) < (n : Int) := by omega
      go_wp2
      go_quiet (fail)
      go_wp2
      go_roundw
      case rel => exact ⟨j + 1, _, by omega, by go_num, rfl⟩
      case measure => simp [intOf]; omega
    · go_wp2
      go_ret
      exact ⟨rfl, m, rfl⟩
end
end Go.Proofs.YtglmibmjbignbaaGreatDoor
