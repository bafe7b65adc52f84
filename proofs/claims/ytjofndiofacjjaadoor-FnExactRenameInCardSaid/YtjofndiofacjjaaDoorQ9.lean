/-
  The contracts of codeOf, of areAll at isLanguage, of isYear, isUsedIn and checkQuestion.
-/
import Derived.Test.YtjofndiofacjjaaDoorAreN
import Derived.Test.YtjofndiofacjjaaDoorAs9
import Derived.Test.YtjofndiofacjjaaDoorSpS
namespace Go.Proofs.YtjofndiofacjjaaDoor
set_option linter.unusedVariables false
open Go.RowKit

theorem cCodeNil (w : World) : Calls Tryd.prog 60 #[.nilIface] w fun e w' => e = .returned (.int .i64 0) ∧ Below w.heap.size w w' := by
  have CA := Lib.hid (fun t W => as_nil t W)
  have hb0 := (Below.refl w.heap.size w).alloc (Nat.le_refl _) (.cells #[.int .i64 0, .nilIface] 106)
  go_enter Tryd.func60, Tryd.ntmps60
  go_wp2_with fail
  refine (CA.out _ _).mono ?_
  rintro e w1 ⟨rfl, rfl⟩
  go_wp2_with fail
  go_ret
  exact ⟨rfl, hb0⟩
set_option maxHeartbeats 1000000 in
theorem cCodeRef (c : Int) (u : Value) (w : World) (hu : u.oneCell' = true) (het : Et w) :
    Calls Tryd.prog 60 #[.iface 106 (.agg #[.int .i64 c, u])] w fun e w' => e = .returned (.int .i64 c) ∧ Below w.heap.size w w' := by
  have hb0 := (Below.refl w.heap.size w).alloc (Nat.le_refl _) (.cells #[.int .i64 0, .nilIface] 106)
  have CA := Lib.hid (as_hit (.int .i64 c) u w.heap.size (.int .i64 0) .nilIface (w.alloc (.cells #[.int .i64 0, .nilIface] 106)) rfl hu (het.below hb0) (World.cell?_alloc_at _ _ _ _ rfl) (World.cell?_alloc_at _ _ _ _ rfl) (fun k => World.frozen?_alloc_new _ _ _ _))
  have HB := Lib.hid hb0
  clear hb0 het
  go_enter Tryd.func60, Tryd.ntmps60
  go_wp2_with fail
  refine CA.out.mono ?_
  rintro e w1 ⟨rfl, hw⟩
  have hc : w1.cell? ⟨w.heap.size, 0, none⟩ = some (.int .i64 c) := by
    rw [hw, World.cell?_setCell_other _ _ _ _ (by simp)]
    refine World.cell?_setCell_same' _ _ _ ?_
    rw [World.cell?_alloc_lt _ _ ⟨w.heap.size, 0, none⟩ (by simp; omega), World.cell?_alloc_lt _ _ ⟨w.heap.size, 0, none⟩ (by simp; omega), World.cell?_alloc_lt _ _ ⟨w.heap.size, 0, none⟩ (by simp; omega), World.cell?_alloc_lt _ _ ⟨w.heap.size, 0, none⟩ (by simp), World.cell?_alloc_at _ _ _ _ rfl]
    rfl
  have hbt : Below w.heap.size w w1 := by
    rw [hw]
    exact (((((HB.out.alloc (by simp) _).alloc (by simp; omega) _).alloc (by simp; omega) _).alloc (by simp; omega) _).setCell (p := ⟨w.heap.size, 0, none⟩) (Nat.le_refl _) _).setCell (p := ⟨w.heap.size, 1, none⟩) (Nat.le_refl _) _
  clear hw
  go_wp2_with fail
  go_ret
  exact ⟨rfl, hbt⟩

theorem all9_stop {s : List ByteArray} {k : Nat} {x : ByteArray} (h : s[k]? = some x) (hx : langB x = false) : s.all langB = false := by
  rw [List.all_eq_false]; exact ⟨x, List.mem_of_getElem? h, by simp [hx]⟩
theorem all9_step {s : List ByteArray} {k : Nat} {x : ByteArray} (h : s[k]? = some x) (ha : (s.take k).all langB = true) (hx : langB x = true) : (s.take (k + 1)).all langB = true := by
  rw [take_snoc9 h, List.all_append, ha]; simp [hx]
theorem all9_end {s : List ByteArray} {k : Nat} (h : s.length ≤ k) (ha : (s.take k).all langB = true) : s.all langB = true := by rwa [List.take_of_length_le h] at ha

set_option maxHeartbeats 1000000 in
theorem cAllLang (A : Option Addr) (n c : Nat) (ls : List ByteArray) (w : World) (hb : n ≤ 1048576) (hs : ∀ x ∈ ls, x.size ≤ maxLen) (h : TextAt w w.heap.size A n ls) :
    Calls Tryd.prog 88 #[.slice A n c, .func (.func 73) #[] #[]] w fun e w' => e = .returned (.bool (ls.all langB)) ∧ w = w' := by
  have HN := Lib.hid h.1
  have H := Lib.hid h
  have CC := Lib.hid (fun x (hx : x ∈ ls) W => cLang_impl x W (hs x hx))
  clear h hs
  go_enter Tryd.func88, Tryd.ntmps88
  go_wp2
  go_loop [9] (fun i => ∃ k : Nat, k ≤ n ∧ i = .int .i64 k ∧ Hid ((ls.take k).all langB = true)) (fun i => n - (intOf i).toNat)
  case atStart => exact ⟨0, Nat.zero_le _, rfl, Lib.hid rfl⟩
  case round =>
    obtain ⟨k, hk, rfl, HA⟩ := hrel
    by_cases hlt : k < n
    · obtain ⟨x, hx⟩ : ∃ x, ls[k]? = some x := ⟨ls[k]'(by have := HN.out; omega), List.getElem?_eq_getElem _⟩
      obtain ⟨b, o, rfl, hbl, c0⟩ := H.out.row2 hx
      have CX := Lib.hid (fun W => CC.out x (List.mem_of_getElem? hx) W)
      have HX := Lib.hid hx
      have u1 : (0 : Int) ≤ (k : Int) := Int.natCast_nonneg _
      have u2 : (k : Int) < (n : Int) := by omega
      clear hx
      cases hv : langB x
      · rw [hv] at CX
        have HY := Lib.hid (all9_stop HX.out hv)
        clear hv
        go_wp2_with (go_at_call 73; refine (CX.out _).mono ?_; rintro e w' ⟨rfl, rfl⟩)
        go_ret
        exact ⟨ret_bool HY.out.symm, rfl⟩
      · rw [hv] at CX
        have HY := Lib.hid (all9_step HX.out HA.out hv)
        clear hv
        go_wp2_with (go_at_call 73; refine (CX.out _).mono ?_; rintro e w' ⟨rfl, rfl⟩)
        go_round
        case rel => exact ⟨k + 1, by omega, by go_num, HY⟩
        case measure => simp [intOf]; omega
    · have HY := Lib.hid (all9_end (s := ls) (k := k) (by have := HN.out; omega) HA.out)
      go_wp2
      go_ret
      exact ⟨ret_bool HY.out.symm, rfl⟩

theorem yr_sp (y : Int) : spB y y = yrB y := by unfold spB yrB; rw [decide_eq_true (Int.le_refl y)]; simp
theorem us_in (x : Nm) (y : Int) : inB x.f x.u y = usB x y := rfl
theorem cIsYear (y : Int) (w : World) :
    Calls Tryd.prog 89 #[.int .i64 y] w fun e w' => e = .returned (.bool (yrB y)) ∧ Below w.heap.size w w' := by
  have CV := Lib.hid (fun W => cValid y y W)
  rw [yr_sp] at CV
  go_enter Tryd.func89, Tryd.ntmps89
  go_wp2_with fail
  refine (CV.out _).mono ?_
  rintro e w1 ⟨rfl, g1⟩
  go_wp2_with fail
  go_ret
  exact ⟨rfl, g1⟩
theorem cUsed1 (x : Nm) (y : Int) (w : World) :
    Calls Tryd.prog 61 #[nmA x, .int .i64 y] w fun e w' => e = .returned (.bool (usB x y)) ∧ Below w.heap.size w w' := by
  have CV := Lib.hid (fun W => cHolds x.f x.u y W)
  rw [us_in] at CV
  have hb0 := (Below.refl w.heap.size w).alloc (Nat.le_refl _) (.cells #[.string x.t, .string x.l, .int .i64 x.s, .int .i64 x.f, .int .i64 x.u] 30)
  go_enter Tryd.func61, Tryd.ntmps61
  go_wp2_with fail
  refine (CV.out _).mono ?_
  rintro e w1 ⟨rfl, g1⟩
  go_wp2_with fail
  go_ret
  exact ⟨rfl, bstep9 hb0 hb0.size g1⟩

/-- What a question answers: no error, or a refusal with this code. -/
def RefV (c : Int) (v : Value) : Prop := (c = 0 ∧ v = .nilIface) ∨ (c ≠ 0 ∧ ∃ u, v = .iface 106 (.agg #[.int .i64 c, .iface 218 u]))
def RefOut (c : Int) (w : World) (e : Ending) (w' : World) : Prop := (∃ v, e = .returned v ∧ RefV c v) ∧ Below w.heap.size w w'

set_option maxHeartbeats 2000000 in
theorem cQuest (A B : Option Addr) (n c n2 c2 : Nat) (xs : List Nm) (ls : List ByteArray) (y : Int) (w : World) (hb : n ≤ 1048576) (hb2 : n2 ≤ 1048576) (hz : Sz9 xs) (hl : ∀ x ∈ ls, x.size ≤ maxLen)
    (h : NmAt w w.heap.size A n xs) (hcap : n ≤ c) (h2 : TextAt w w.heap.size B n2 ls) (hsh : w.ShapedOpen Tryd.prog) (her : Er7 w) :
    Calls Tryd.prog 59 #[.slice A n c, .slice B n2 c2, .int .i64 y] w (RefOut (qC xs ls y) w) := by
  have CN := Lib.hid (cChkNames A n c xs w hb hz h hcap hsh her.e)
  have CL := Lib.hid (fun W (hW : Below w.heap.size w W) => cAllLang B n2 c2 ls W hb2 hl ((h2.below hW (Nat.le_refl _)).more hW.size))
  have CY := Lib.hid (fun W => cIsYear y W)
  have HE := Lib.hid (fun W (hW : Below w.heap.size w W) => her.below hW)
  clear h h2 hsh her hz hl
  rcases qC_cases xs ls y with ⟨hq, e1⟩ | ⟨hq, e1, e2⟩ | ⟨hq, e1, e2, e3⟩ | ⟨hq, e1, e2, e3⟩
  · rw [hq]
    rw [e1] at CN
    clear hq e1
    go_enter Tryd.func59, Tryd.ntmps59
    go_wp2_with fail
    refine CN.out.mono ?_
    rintro e w1 ⟨⟨v, rfl, hv⟩, hbt⟩
    obtain ⟨u, rfl⟩ : ∃ u, v = .iface 218 u := by
      rcases hv with ⟨h, _⟩ | ⟨_, h⟩
      · cases h
      · exact h
    clear hv
    go_wp2_with fail
    go_ret
    exact ⟨⟨_, rfl, .inr ⟨by decide, _, rfl⟩⟩, hbt⟩
  all_goals
    rw [hq]
    rw [e1] at CN
    rw [e2] at CL
    clear hq e1 e2
    go_enter Tryd.func59, Tryd.ntmps59
    go_wp2_with fail
    refine CN.out.mono ?_
    rintro e w1 ⟨⟨v, rfl, hv⟩, hbt⟩
    obtain rfl : v = .nilIface := by
      rcases hv with ⟨_, h⟩ | ⟨h, _⟩
      · exact h
      · cases h
    clear hv
  · obtain ⟨v, hv⟩ := (HE.out w1 hbt).e.e.l
    go_wp2_with (go_at_call 88; refine (CL.out _ hbt).mono ?_; rintro e w' ⟨rfl, rfl⟩)
    go_ret
    exact ⟨⟨_, rfl, .inr ⟨by decide, _, rfl⟩⟩, hbt⟩
  · rw [e3] at CY
    clear e3
    go_wp2_with (go_at_call 88; refine (CL.out _ hbt).mono ?_; rintro e w' ⟨rfl, rfl⟩)
    refine (CY.out _).mono ?_
    rintro e w2 ⟨rfl, g2⟩
    have hb2 := bstep9 hbt hbt.size g2
    obtain ⟨v, hv⟩ := (HE.out w2 hb2).q
    clear g2
    go_wp2_with fail
    go_ret
    exact ⟨⟨_, rfl, .inr ⟨by decide, _, rfl⟩⟩, hb2⟩
  · rw [e3] at CY
    clear e3
    go_wp2_with (go_at_call 88; refine (CL.out _ hbt).mono ?_; rintro e w' ⟨rfl, rfl⟩)
    refine (CY.out _).mono ?_
    rintro e w2 ⟨rfl, g2⟩
    have hb2 := bstep9 hbt hbt.size g2
    clear g2
    go_wp2_with fail
    go_ret
    exact ⟨⟨_, rfl, .inl ⟨rfl, rfl⟩⟩, hb2⟩
end Go.Proofs.YtjofndiofacjjaaDoor
