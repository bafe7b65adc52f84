/-
  The contracts of impl.checkClasses, spec.l10Code, impl.kindsOf, spec.l10Kinds, impl.commonKind, spec.l10Common and impl.stepsUp.
-/
import Derived.Test.YtglmibmjbignbaaGreatDoorMz28
import Derived.Deep.AppendLies
import Derived.Test.YtglmibmjbignbaaGreatDoorMz23
import Derived.Lib.SliceRun
namespace Go.Proofs.YtglmibmjbignbaaGreatDoor
section
set_option linter.unusedVariables false
open Go.RowKit

theorem below_drA {B : Nat} {a w : World} (h : Below B a w) (n : Nat) : Below B a (w.drewN n) := ⟨h.os, h.tape, h.output, h.size, h.block⟩
theorem cIdx10 (A : Option Addr) (n c B m : Nat) (xs : List Int) (w : World) (hbig : n ≤ maxLen) (hm : m ≤ maxLen) (h : NumAt w B A n xs) :
    Calls Tryz.prog 142 #[.slice A n c, .int .i64 (m : Int)] w fun e w' => e = .returned (.bool (allWn 0 ((m : Int) - 1) xs)) ∧ w = w' := by
  have C := Lib.hid (cWithin A n c B xs 0 ((m : Int) - 1) w hbig h)
  unfold maxLen at hm
  clear h
  go_enter Tryz.func142, Tryz.ntmps142
  go_wp2_with (go_at_call 175; refine C.out.mono ?_; rintro e w' ⟨rfl, rfl⟩)
  go_ret
  exact ⟨rfl, rfl⟩
theorem cls_all (xs ys : List Int) : allWn 0 ((xs.length : Int) - 1) ys = ys.all (inT10 xs) := rfl

theorem cChk10 (A A1 : Option Addr) (n c n1 c1 B B1 : Nat) (xs ys : List Int) (w : World) (hb : n ≤ maxLen) (hb1 : n1 ≤ maxLen) (h : NumAt w B A n xs) (h1 : NumAt w B1 A1 n1 ys) (hB : B ≤ w.heap.size) (hB1 : B1 ≤ w.heap.size) :
    Calls Tryz.prog 95 #[.slice A n c, .slice A1 n1 c1] w fun e w' => e = .returned (.int .i64 (clsC xs ys)) ∧ Below w.heap.size w w' := by
  have CT := Lib.hid (cTree_impl A n c B xs w hb h)
  have CI : Hid (∀ m, Calls Tryz.prog 142 #[.slice A1 n1 c1, .int .i64 (n : Int)] (w.drewN m) fun e w' => e = .returned (.bool (ys.all (inT10 xs))) ∧ w.drewN m = w') := Lib.hid (fun m => by
    have := cIdx10 A1 n1 c1 B1 n ys (w.drewN m) hb1 hb (h1.below (below_drA (Below.refl w.heap.size w) m) hB1)
    rwa [show ((n : Int) - 1) = (xs.length : Int) - 1 by rw [h.1], cls_all] at this)
  unfold maxLen at hb
  clear h h1
  cases e1 : treeB xs
  · rw [e1] at CT
    rw [clsC_tree e1]
    clear e1
    go_enter Tryz.func95, Tryz.ntmps95
    go_wp2_with (go_at_call 94; refine CT.out.mono ?_; rintro e w' ⟨rfl, m, rfl⟩)
    go_ret
    exact ⟨rfl, below_drA (Below.refl _ _) m⟩
  rw [e1] at CT
  cases e2 : ys.all (inT10 xs)
  · rw [clsC_range e1 e2]
    rw [e2] at CI
    clear e1 e2
    go_enter Tryz.func95, Tryz.ntmps95
    go_wp2_with (first
      | (go_at_call 94; refine CT.out.mono ?_; rintro e w' ⟨rfl, m, rfl⟩)
      | (go_at_call 142; refine (CI.out _).mono ?_; rintro e w' ⟨rfl, rfl⟩))
    go_ret
    exact ⟨rfl, below_drA (Below.refl _ _) m⟩
  · rw [clsC_none e1 e2]
    rw [e2] at CI
    clear e1 e2
    go_enter Tryz.func95, Tryz.ntmps95
    go_wp2_with (first
      | (go_at_call 94; refine CT.out.mono ?_; rintro e w' ⟨rfl, m, rfl⟩)
      | (go_at_call 142; refine (CI.out _).mono ?_; rintro e w' ⟨rfl, rfl⟩))
    go_ret
    exact ⟨rfl, below_drA (Below.refl _ _) m⟩

theorem cls_two (xs : List Int) (a b : Int) : [a, b].all (inT10 xs) = (inT10 xs a && inT10 xs b) := by simp
theorem cls_same (xs : List Int) (a : Int) : clsC xs [a, a] = clsC xs [a] := by unfold clsC; simp
theorem inB_dec {xs : List Int} {n : Nat} (h : n = xs.length) (a : Int) : (decide (0 ≤ a) && decide (a ≤ (n : Int) - 1)) = inT10 xs a := by rw [h]; rfl
/-- A row of numbers of one's own that grows. -/
def Acc (B : Nat) (w V : World) (A : Option Addr) (m c : Nat) (xs : List Int) : Prop := V.ownsRow B 2 1 (.slice A m c) m (intV xs) ∧ Below w.heap.size w V ∧ w.heap.size ≤ B ∧ B ≤ V.heap.size
theorem Acc.len {B : Nat} {w V : World} {A : Option Addr} {m c : Nat} {xs : List Int} (h : Acc B w V A m c xs) : xs.length = m := by have := h.1.1; rw [intV_len] at this; omega
theorem Acc.next {B : Nat} {w V V' : World} {A : Option Addr} {m c : Nat} {xs : List Int} (h : Acc B w V A m c xs) (hg : Below V.heap.size V V') : Acc B w V' A m c xs :=
  ⟨((Sp.row h.1).next hg).here, h.2.1.trans (hg.mono h.2.1.size), h.2.2.1, Nat.le_trans h.2.2.2 hg.size⟩
theorem Acc.alloc {B : Nat} {w V : World} {A : Option Addr} {m c : Nat} {xs : List Int} (h : Acc B w V A m c xs) (o : Obj) : Acc B w (V.alloc o) A m c xs := h.next ((Below.refl _ _).alloc (Nat.le_refl _) _)
theorem Acc.drew {B : Nat} {w V : World} {A : Option Addr} {m c : Nat} {xs : List Int} (h : Acc B w V A m c xs) (n : Nat) : Acc B w (V.drewN n) A m c xs := h.next (below_drA (Below.refl _ _) n)
theorem Acc.nil {w V : World} (h : Below w.heap.size w V) : Acc w.heap.size w V none 0 0 [] := ⟨World.ownsRow_nil _ _ _ _, h, Nat.le_refl _, h.size⟩
theorem Acc.nil2 {w V : World} (h : Below w.heap.size w V) : Acc V.heap.size w V none 0 0 [] := ⟨World.ownsRow_nil _ _ _ _, h, h.size, Nat.le_refl _⟩
theorem Acc.lit (w : World) : Acc w.heap.size w (w.alloc (.cells #[] 2)) (some ⟨w.heap.size, 0, none⟩) 0 0 [] :=
  ⟨World.ownsRow_lit (e := 2) (base := w.heap.size) (size := 1) w #[] 0 (Nat.le_refl _) (by decide) rfl, (Below.refl _ _).alloc (Nat.le_refl _) _, Nat.le_refl _, by simp⟩
theorem Acc.lit2 {w V : World} (h : Below w.heap.size w V) : Acc V.heap.size w (V.alloc (.cells #[] 2)) (some ⟨V.heap.size, 0, none⟩) 0 0 [] :=
  ⟨World.ownsRow_lit (e := 2) (base := V.heap.size) (size := 1) V #[] 0 (Nat.le_refl _) (by decide) rfl, h.alloc h.size _, h.size, by simp⟩
theorem below_own {w V V' : World} {B : Nat} {r : Option Nat} (h : Below w.heap.size w V) (hg : V.grownBy V' r) (hr : ∀ k, r = some k → w.heap.size ≤ k) : Below w.heap.size w V' :=
  h.grown hg h.size (fun k hk => hr k hk)
theorem wpList_acc {ops : Array Oper} {rest : List Oper} {o : Oper} {a : Act} {Q : Exit → Act → World → Prop} {B : Nat} {w V : World} {m c : Nat} {A : Option Addr} {xs : List Int} {y : Int} (hL : Acc B w V A m c xs) (hgd : o.guard = none) (s x : Operand)
    (ho : o.op = .call { callee := .builtin .append, args := #[s, x], argTypes := #[49, 49] }) (hs : a.eval s = .slice A m c) (hx : a.eval x = .slice (some ⟨V.heap.size, 0, none⟩) 1 1) (hm : m ≤ 1048576)
    (h : ∀ (A' : Option Addr) (c' : Nat) (w' : World), Acc B w w' A' (m + 1) c' (xs ++ [y]) → V.heap.size ≤ w'.heap.size → wpList Tryz.prog ops Q rest (a.put o.dst (.slice A' (m + 1) c')) w') : wpList Tryz.prog ops Q (o :: rest) a (V.alloc (.cells #[.int .i64 y] 2)) := by
  obtain ⟨i0, hi0, hz0, hz1, hz2⟩ := info_parts info_i64
  refine wpList_append_own _ hgd s x 49 ho B 2 i0 _ 1 8 Tryz.underlying49 hi0 hz0 hz1 hz2 rfl (by decide) _ m (intV xs) hs (hL.1.alloc _) ⟨V.heap.size, 0, none⟩ 1 1 [.int .i64 y] hx rfl (one_cell' _ _ _ (new_one V _ _)) (fun u hu => by simp at hu; subst hu; rfl) (by unfold maxLen; omega) (by omega) (by have := hL.2.2.2; simp; omega) ?_
  intro v' w' h1 h2 _
  rw [intV_snoc] at h1
  obtain ⟨g2, c2, rfl, _, _⟩ := h1.form (Nat.succ_pos _)
  have hs2 := h2.size
  simp at hs2
  refine h _ c2 w' ⟨h1, below_own (B := B) (hL.2.1.alloc hL.2.1.size _) h2 (fun k hk => ?_), hL.2.2.1, by have := hL.2.2.2; omega⟩ (by omega)
  have := (hL.1.lt k hk).1
  have := hL.2.2.1
  omega
/-- A row of numbers. -/
def OutR (zs : List Int) (w : World) (e : Ending) (w' : World) : Prop := ∃ A n c, e = .returned (.slice A n c) ∧ w'.ownsRow w.heap.size 2 1 (.slice A n c) n (intV zs) ∧ Below w.heap.size w w'
theorem Acc.row {B : Nat} {w V : World} {A : Option Addr} {m c : Nat} {xs : List Int} (h : Acc B w V A m c xs) : V.ownsRow w.heap.size 2 1 (.slice A m c) m (intV xs) := rowBase h.1 h.2.2.1
theorem up_part {xs ks : List Int} {a p : Int} {k : Nat} (hT : Tree xs) (hp : xs[k]? = some p) (h : ks ++ upF xs (k : Int) = upF xs a) : (ks ++ [(k : Int)]) ++ upF xs p = upF xs a := by
  rw [← h, upF_cons hT hp]; simp
theorem up_less {xs ks : List Int} {a : Nat} {k : Nat} (hT : Tree xs) (ha : a < xs.length) (h : ks ++ upF xs (k : Int) = upF xs (a : Int)) : ks.length ≤ 20 := by
  have h1 := congrArg List.length h
  rw [List.length_append] at h1
  have := (upF_len hT a ha).2
  have := hT.le
  omega

set_option maxHeartbeats 1000000 in
set_option maxRecDepth 100000 in
theorem cKinds_spec (A : Option Addr) (n c B : Nat) (xs : List Int) (a : Nat) (w : World) (hT : Tree xs) (ha : a < xs.length) (hB : B ≤ w.heap.size) (h : NumAt w B A n xs) :
    Calls Tryz.prog 101 #[.slice A n c, .int .i64 (a : Int)] w (OutR (upF xs (a : Int)) w) := by
  have HL := Lib.hid h.1
  have H : Hid (∀ V, Below w.heap.size w V → NumAt V B A n xs) := Lib.hid (fun V hV => h.below hV hB)
  have HT := Lib.hid hT
  have hn : n ≤ 20 := by rw [h.1]; exact hT.le
  have HA := Lib.hid ha
  clear h hT ha
  go_enter Tryz.func101, Tryz.ntmps101
  go_wp2_with fail
  go_loopw [1, 5] (fun i v wr => ∃ (A1 : Option Addr) (m c1 : Nat) (ks : List Int) (x : Int), v = .slice A1 m c1 ∧ i = .int .i64 x ∧ (x = -1 ∨ ∃ q : Nat, x = q ∧ q < n) ∧ Hid (ks ++ upF xs x = upF xs (a : Int)) ∧ Hid (Acc w.heap.size w wr A1 m c1 ks)) (fun i _ _ => (intOf i + 1).toNat)
  case atStart => exact ⟨_, 0, 0, [], (a : Int), rfl, rfl, .inr ⟨a, rfl, by have := HA.out; have := HL.out; omega⟩, Lib.hid rfl, Lib.hid (Acc.lit w)⟩
  case round =>
    obtain ⟨A1, m, c1, ks, x, rfl, rfl, hx, HK, HC⟩ := hrel
    rcases hx with rfl | ⟨q, rfl, hq⟩
    · have HE : Hid (ks = upF xs (a : Int)) := Lib.hid (by have := HK.out; rwa [upF_neg xs (by omega), List.append_nil] at this)
      go_wp2_with fail
      go_ret
      exact ⟨A1, m, c1, rfl, by rw [← HE.out]; exact HC.out.row, HC.out.2.1⟩
    · have hmb : m ≤ 20 := by have := up_less HT.out HA.out HK.out; have := HC.out.len; omega
      obtain ⟨p, hp, hp2⟩ := HT.out.at_ (show q < xs.length by have := HL.out; omega)
      have HP := Lib.hid hp
      have HK2 := Lib.hid (up_part HT.out hp HK.out)
      have e1 : (0 : Int) ≤ (q : Int) := by omega
      have e2 : (q : Int) < (n : Int) := by omega
      clear hp HK
      go_wp2_with (at_builtin; refine wpList_acc HC.out rfl _ _ rfl rfl rfl (by omega) ?_; intro A9 c9 w9 hl9 hs9; have HC9 := Lib.hid hl9; obtain ⟨b, o, rfl, _, hcx⟩ := (H.out w9 HC9.out.2.1).row HP.out; clear hl9 hs9)
      go_roundw
      case rel => exact ⟨A9, m + 1, c9, _, p, rfl, rfl, (by rcases hp2 with rfl | ⟨r, rfl, hr⟩; exact .inl rfl; exact .inr ⟨r, rfl, by omega⟩), HK2, HC9⟩
      case measure => simp [intOf]; omega

theorem com_next {xs ks : List Int} (hT : Tree xs) (h0 : (0 : Int) ∈ ks) {k : Nat} (hk : k < xs.length) (h : (k : Int) ∉ ks) : ∃ q : Nat, xs[k]? = some (q : Int) ∧ q < k ∧ comF xs ks (k : Int) = comF xs ks (q : Int) := by
  obtain ⟨p, hp, rfl | ⟨q, rfl, hq⟩⟩ := hT.at_ hk
  · rcases Nat.eq_zero_or_pos k with rfl | hk0
    · exact absurd h0 h
    · have := hT.par k _ hk0 hp; omega
  · exact ⟨q, hp, hq, com_step10 hT hp h⟩
theorem own_num10 {w : World} {lo n c : Nat} {A : Option Addr} {xs : List Int} (h : w.ownsRow lo 2 1 (.slice A n c) n (intV xs)) : NumAt w w.heap.size A n xs := own_num h

/-- The steps up from a class to one of its kinds. -/
def stepZ (xs : List Int) (a c : Int) : Int := (((upF xs a).idxOf c : Nat) : Int)
end
section
set_option linter.unusedVariables false
open Go.RowKit

theorem num_one10 (w : World) (a : Int) : NumAt (w.alloc (.cells #[.int .i64 a] 2)) (w.heap.size + 1) (some ⟨w.heap.size, 0, none⟩) 1 [a] := by
  refine ⟨rfl, fun _ => ⟨_, 0, rfl, by omega, fun j x hx => ?_⟩⟩
  rw [Nat.zero_add, World.cell?_alloc_at _ _ _ _ rfl]
  rcases j with _ | j
  · simp at hx; subst hx; rfl
  · simp at hx
theorem num_two10 (w : World) (a b : Int) : NumAt (w.alloc (.cells #[.int .i64 a, .int .i64 b] 2)) (w.heap.size + 1) (some ⟨w.heap.size, 0, none⟩) 2 [a, b] := by
  refine ⟨rfl, fun _ => ⟨_, 0, rfl, by omega, fun j x hx => ?_⟩⟩
  rw [Nat.zero_add, World.cell?_alloc_at _ _ _ _ rfl]
  rcases j with _ | _ | j
  · simp at hx; subst hx; rfl
  · simp at hx; subst hx; rfl
  · simp at hx
/-- A row of numbers of one's own and a code. -/
def Out10 (zs : List Int) (code : Int) (w : World) (e : Ending) (w' : World) : Prop :=
  ∃ A n c, e = .returned (.tuple #[.slice A n c, .int .i64 code]) ∧ w'.ownsRow w.heap.size 2 1 (.slice A n c) n (intV zs) ∧ Below w.heap.size w w'
theorem Out10.nil {w w' : World} {code : Int} {e : Ending} (he : e = .returned (.tuple #[.slice none 0 0, .int .i64 code])) (hb : Below w.heap.size w w') : Out10 [] code w e w' := ⟨none, 0, 0, he, World.ownsRow_nil _ _ _ _, hb⟩
theorem below_allocs {w : World} (o : Obj) : Below w.heap.size w (w.alloc o) := (Below.refl _ _).alloc (Nat.le_refl _) _
theorem below_thenA {a b c : World} (h : Below a.heap.size a b) (k : Below b.heap.size b c) : Below a.heap.size a c := h.trans (k.mono h.size)
/-- What a check of one class or of two says. -/
theorem cChk1 (A : Option Addr) (n c : Nat) (xs : List Int) (a : Int) (w : World) (hb : n ≤ 1048576) (h : NumAt w w.heap.size A n xs) :
    Calls Tryz.prog 95 #[.slice A n c, .slice (some ⟨w.heap.size, 0, none⟩) 1 1] (w.alloc (.cells #[.int .i64 a] 2)) fun e w' => e = .returned (.int .i64 (clsC xs [a])) ∧ Below w.heap.size w w' :=
  (cChk10 A _ n c 1 1 w.heap.size (w.heap.size + 1) xs [a] _ (by unfold maxLen; omega) (by unfold maxLen; omega) (h.below (below_allocs _) (Nat.le_refl _)) (num_one10 w a) (by simp) (by simp)).mono fun e w' hh => ⟨hh.1, below_thenA (below_allocs _) hh.2⟩
theorem cChk2 (A : Option Addr) (n c : Nat) (xs : List Int) (a b : Int) (w : World) (hb : n ≤ 1048576) (h : NumAt w w.heap.size A n xs) :
    Calls Tryz.prog 95 #[.slice A n c, .slice (some ⟨w.heap.size, 0, none⟩) 2 2] (w.alloc (.cells #[.int .i64 a, .int .i64 b] 2)) fun e w' => e = .returned (.int .i64 (clsC xs [a, b])) ∧ Below w.heap.size w w' :=
  (cChk10 A _ n c 2 2 w.heap.size (w.heap.size + 1) xs [a, b] _ (by unfold maxLen; omega) (by unfold maxLen; omega) (h.below (below_allocs _) (Nat.le_refl _)) (num_two10 w a b) (by simp) (by simp)).mono fun e w' hh => ⟨hh.1, below_thenA (below_allocs _) hh.2⟩
theorem cChk0 (A : Option Addr) (n c : Nat) (xs : List Int) (w : World) (hb : n ≤ 1048576) (h : NumAt w w.heap.size A n xs) :
    Calls Tryz.prog 95 #[.slice A n c, .slice none 0 0] w fun e w' => e = .returned (.int .i64 (clsC xs [])) ∧ Below w.heap.size w w' :=
  cChk10 A _ n c 0 0 w.heap.size w.heap.size xs [] _ (by unfold maxLen; omega) (by unfold maxLen; omega) h ⟨rfl, fun hp => by omega⟩ (Nat.le_refl _) (Nat.le_refl _)
def kdZ (xs : List Int) (a : Int) : List Int := if clsC xs [a] = 0 then upF xs a else []
theorem kdZ_yes {xs : List Int} {a : Int} (h : clsC xs [a] = 0) : kdZ xs a = upF xs a := if_pos h
theorem kdZ_no {xs : List Int} {a : Int} (h : clsC xs [a] ≠ 0) : kdZ xs a = [] := if_neg h
theorem kdZ_len (xs : List Int) (a : Int) : (kdZ xs a).length ≤ 20 := by
  by_cases h : clsC xs [a] = 0
  · rw [kdZ_yes h]
    obtain ⟨hT, k, rfl, hk⟩ := clsC_one h
    have := (upF_len hT k hk).2
    have := hT.le
    omega
  · rw [kdZ_no h]; exact Nat.zero_le _
def isZ (xs : List Int) (a b : Int) : Bool := if clsC xs [a, b] = 0 then decide (b ∈ upF xs a) else false
theorem isZ_yes {xs : List Int} {a b : Int} (h : clsC xs [a, b] = 0) : isZ xs a b = decide (b ∈ upF xs a) := if_pos h
theorem isZ_no {xs : List Int} {a b : Int} (h : clsC xs [a, b] ≠ 0) : isZ xs a b = false := if_neg h
def comV (xs : List Int) (a b : Int) : Int := if clsC xs [a, b] = 0 then comZ xs a b else 0
theorem comV_yes {xs : List Int} {a b : Int} (h : clsC xs [a, b] = 0) : comV xs a b = comZ xs a b := if_pos h
theorem comV_no {xs : List Int} {a b : Int} (h : clsC xs [a, b] ≠ 0) : comV xs a b = 0 := if_neg h
def disV (xs : List Int) (a b : Int) : Int := if clsC xs [a, b] = 0 then disZ xs a b else 0
theorem disV_yes {xs : List Int} {a b : Int} (h : clsC xs [a, b] = 0) : disV xs a b = disZ xs a b := if_pos h
theorem disV_no {xs : List Int} {a b : Int} (h : clsC xs [a, b] ≠ 0) : disV xs a b = 0 := if_neg h
theorem dis_steps {xs : List Int} (hT : Tree xs) {a b c : Nat} (ha : a < xs.length) (hb : b < xs.length) (h1 : comZ xs (a : Int) (b : Int) = c) (h2 : (c : Int) ∈ upF xs (a : Int)) (h3 : (c : Int) ∈ upF xs (b : Int)) : stepZ xs (a : Int) (c : Int) + stepZ xs (b : Int) (c : Int) = disZ xs (a : Int) (b : Int) := by
  have e1 := upF_idx hT a ha h2
  have e2 := upF_idx hT b hb h3
  unfold stepZ disZ
  rw [h1]
  omega
theorem step_bd {xs : List Int} (hT : Tree xs) {a c : Nat} (ha : a < xs.length) (h2 : (c : Int) ∈ upF xs (a : Int)) : 0 ≤ stepZ xs (a : Int) (c : Int) ∧ stepZ xs (a : Int) (c : Int) ≤ 20 := by
  have e1 := upF_idx hT a ha h2
  have := (upF_len hT a ha).2
  have := hT.le
  unfold stepZ
  omega

/-- A slice of so many numbers. -/
def LenR (m : Nat) (w : World) (e : Ending) (w' : World) : Prop := ∃ A c, e = .returned (.slice A m c) ∧ Below w.heap.size w w'
theorem LenR.of {m : Nat} {zs : List Int} {w w' : World} {e : Ending} (hm : m = zs.length) (h : OutR zs w e w') : LenR m w e w' := by
  obtain ⟨A, n, c, rfl, hO, hb⟩ := h
  have := hO.1
  rw [intV_len] at this
  obtain rfl : m = n := by omega
  exact ⟨A, c, rfl, hb⟩

end
section
set_option linter.unusedVariables false
open Go.RowKit

theorem NumAt.grow {w w' : World} {A : Option Addr} {n : Nat} {xs : List Int} (h : NumAt w w.heap.size A n xs) (hb : Below w.heap.size w w') : NumAt w' w'.heap.size A n xs := (h.below hb (Nat.le_refl _)).more hb.size
/-- The place exists in the year, and its class is of the tree and of the kind. -/
def kdB (xs : List Int) (a y : Int) (p : Pl) : Bool := exB p y && (decide (p.k < (xs.length : Int)) && decide (a ∈ upF xs p.k))
theorem kd_sub {xs : List Int} {a y : Int} {p : Pl} (h : plB p = true) : kdB xs a y p = (exB p y && decide (p.k ∈ subU xs a xs.length)) := by
  have h0 := (pl_parts h).2.1
  unfold kdB
  congr 1
  rw [Bool.eq_iff_iff, Bool.and_eq_true, decide_eq_true_eq, decide_eq_true_eq, decide_eq_true_eq, sub_mem]
  constructor
  · rintro ⟨h1, h2⟩
    exact ⟨p.k.toNat, by omega, by omega, by rw [Int.toNat_of_nonneg h0]; exact h2⟩
  · rintro ⟨e, he, h1, h2⟩
    rw [he]
    exact ⟨by omega, h2⟩
noncomputable def pkC (ps : List Pl) (xs : List Int) (a y : Int) : Int := if treeB xs then (if pyC ps y = 0 then clsC xs [a] else pyC ps y) else 1
noncomputable def pkZ (ps : List Pl) (xs : List Int) (a y : Int) : List ByteArray := if pkC ps xs a y = 0 then cdZ (kdB xs a y) ps else []
theorem pk_cases (ps : List Pl) (xs : List Int) (a y : Int) :
    (treeB xs = false ∧ pkC ps xs a y = 1 ∧ pkZ ps xs a y = []) ∨
    (treeB xs = true ∧ pyC ps y ≠ 0 ∧ pkC ps xs a y = pyC ps y ∧ pkZ ps xs a y = []) ∨
    (treeB xs = true ∧ pyC ps y = 0 ∧ clsC xs [a] = 2 ∧ inT10 xs a = false ∧ pkC ps xs a y = 2 ∧ pkZ ps xs a y = []) ∨
    (treeB xs = true ∧ pyC ps y = 0 ∧ clsC xs [a] = 0 ∧ inT10 xs a = true ∧ regB ps = true ∧ pkC ps xs a y = 0 ∧ pkZ ps xs a y = cdZ (kdB xs a y) ps) := by
  cases ht : treeB xs
  · have h1 : pkC ps xs a y = 1 := by unfold pkC; rw [ht]; rfl
    exact .inl ⟨rfl, h1, by unfold pkZ; rw [if_neg (by rw [h1]; decide)]⟩
  · by_cases h0 : pyC ps y = 0
    · have h1 : pkC ps xs a y = clsC xs [a] := by unfold pkC; rw [ht, if_pos h0]; rfl
      cases hi : inT10 xs a
      · have h2 : clsC xs [a] = 2 := by unfold clsC; rw [if_pos ht, if_neg (by simp [hi])]
        have h3 := h1.trans h2
        exact .inr (.inr (.inl ⟨rfl, h0, h2, rfl, h3, by unfold pkZ; rw [if_neg (by rw [h3]; decide)]⟩))
      · have h2 : clsC xs [a] = 0 := by unfold clsC; rw [if_pos ht, if_pos (by simp [hi])]
        have h3 := h1.trans h2
        exact .inr (.inr (.inr ⟨rfl, h0, h2, rfl, (pyC_zero h0).1, h3, by unfold pkZ; rw [if_pos h3]⟩))
    · have h1 : pkC ps xs a y = pyC ps y := by unfold pkC; rw [ht, if_neg h0]; rfl
      exact .inr (.inl ⟨rfl, h0, h1, by unfold pkZ; rw [if_neg (by rw [h1]; exact h0)]⟩)
theorem pkZ_len (ps : List Pl) (xs : List Int) (a y : Int) : (pkZ ps xs a y).length ≤ 1048576 := by
  rcases pk_cases ps xs a y with ⟨_, _, h⟩ | ⟨_, _, _, h⟩ | ⟨_, _, _, _, _, h⟩ | ⟨_, _, _, _, hr, _, h⟩
  · rw [h]; simp
  · rw [h]; simp
  · rw [h]; simp
  · rw [h]
    have h1 := cdZ_len (kdB xs a y) ps
    have h2 := (reg_of hr).1
    omega
end
section
set_option linter.unusedVariables false
open Go.RowKit

theorem intV_get10 {xs : List Int} {j : Nat} {u : Value} (h : (intV xs)[j]? = some u) : ∃ x, xs[j]? = some x ∧ u = .int .i64 x := by
  unfold intV at h
  rw [List.getElem?_map] at h
  cases hx : xs[j]? with
  | none => rw [hx] at h; cases h
  | some x => rw [hx] at h; exact ⟨x, rfl, (Option.some.inj h).symm⟩
theorem intV_set10 (xs : List Int) (k : Nat) (x : Int) : (intV xs).set k (.int .i64 x) = intV (xs.set k x) := by unfold intV; rw [List.map_set]
/-- A copy of one's own, with an address. -/
def Own10 (n : Nat) (xs : List Int) (w : World) (e : Ending) (w' : World) : Prop :=
  ∃ g c, e = .returned (.slice (some ⟨g, 0, none⟩) n c) ∧ w'.ownsRow w.heap.size 2 1 (.slice (some ⟨g, 0, none⟩) n c) n (intV xs) ∧ w.heap.size ≤ g ∧ Below w.heap.size w w'
def lvZ (xs : List Int) : List Int := if clsC xs [] = 0 then leafU xs xs.length else []
theorem lvZ_yes {xs : List Int} (h : clsC xs [] = 0) : lvZ xs = leafU xs xs.length := if_pos h
theorem lvZ_no {xs : List Int} (h : clsC xs [] ≠ 0) : lvZ xs = [] := if_neg h
theorem clsC_empty {xs : List Int} (h : clsC xs [] = 0) : Tree xs := tree_of (clsC_zero h).1
theorem lvZ_len (xs : List Int) : (lvZ xs).length ≤ 20 := by
  by_cases h : clsC xs [] = 0
  · rw [lvZ_yes h]; have := leaf_len xs xs.length; have := (clsC_empty h).le; omega
  · rw [lvZ_no h]; exact Nat.zero_le _
theorem cls_tree {xs : List Int} (h : treeB xs = true) : clsC xs [] = 0 := clsC_none h rfl
def addC (xs : List Int) (a : Int) : Int := if clsC xs [a] = 0 then (if xs.length = 20 then 3 else 0) else clsC xs [a]
def addZ (xs : List Int) (a : Int) : List Int := if addC xs a = 0 then xs ++ [a] else []
theorem addC_no {xs : List Int} {a : Int} (h : clsC xs [a] ≠ 0) : addC xs a = clsC xs [a] := if_neg h
theorem addC_full {xs : List Int} {a : Int} (h : clsC xs [a] = 0) (hl : xs.length = 20) : addC xs a = 3 := by unfold addC; rw [if_pos h, if_pos hl]
theorem addC_yes {xs : List Int} {a : Int} (h : clsC xs [a] = 0) (hl : xs.length ≠ 20) : addC xs a = 0 := by unfold addC; rw [if_pos h, if_neg hl]
theorem addZ_no {xs : List Int} {a : Int} (h : addC xs a ≠ 0) : addZ xs a = [] := if_neg h
theorem addZ_yes {xs : List Int} {a : Int} (h : addC xs a = 0) : addZ xs a = xs ++ [a] := if_pos h
theorem addC_zero {xs : List Int} {a : Int} (h : addC xs a = 0) : clsC xs [a] = 0 ∧ xs.length ≠ 20 := by
  unfold addC at h
  by_cases h1 : clsC xs [a] = 0
  · rw [if_pos h1] at h
    by_cases h2 : xs.length = 20
    · rw [if_pos h2] at h; omega
    · exact ⟨h1, h2⟩
  · rw [if_neg h1] at h; exact absurd h h1
theorem addZ_len (xs : List Int) (a : Int) : (addZ xs a).length ≤ 21 := by
  by_cases h : addC xs a = 0
  · rw [addZ_yes h, List.length_append]
    have := (clsC_one (addC_zero h).1).1.le
    simp; omega
  · rw [addZ_no h]; exact Nat.zero_le _
def movC (xs : List Int) (a p : Int) : Int := if clsC xs [a, p] = 0 then (if a ≤ p then 5 else 0) else clsC xs [a, p]
def movZ (xs : List Int) (a p : Int) : List Int := if movC xs a p = 0 then xs.set a.toNat p else []
theorem movC_no {xs : List Int} {a p : Int} (h : clsC xs [a, p] ≠ 0) : movC xs a p = clsC xs [a, p] := if_neg h
theorem movC_state {xs : List Int} {a p : Int} (h : clsC xs [a, p] = 0) (hl : a ≤ p) : movC xs a p = 5 := by unfold movC; rw [if_pos h, if_pos hl]
theorem movC_yes {xs : List Int} {a p : Int} (h : clsC xs [a, p] = 0) (hl : ¬ a ≤ p) : movC xs a p = 0 := by unfold movC; rw [if_pos h, if_neg hl]
theorem movC_zero {xs : List Int} {a p : Int} (h : movC xs a p = 0) : clsC xs [a, p] = 0 ∧ p < a := by
  unfold movC at h
  by_cases h1 : clsC xs [a, p] = 0
  · rw [if_pos h1] at h
    by_cases h2 : a ≤ p
    · rw [if_pos h2] at h; omega
    · exact ⟨h1, by omega⟩
  · rw [if_neg h1] at h; exact absurd h h1
theorem movZ_no {xs : List Int} {a p : Int} (h : movC xs a p ≠ 0) : movZ xs a p = [] := if_neg h
theorem movZ_yes {xs : List Int} {a p : Int} (h : movC xs a p = 0) : movZ xs a p = xs.set a.toNat p := if_pos h
theorem movZ_len (xs : List Int) (a p : Int) : (movZ xs a p).length ≤ 20 := by
  by_cases h : movC xs a p = 0
  · rw [movZ_yes h, List.length_set]
    exact (clsC_two (movC_zero h).1).1.le
  · rw [movZ_no h]; exact Nat.zero_le _
theorem acc_own {w V V' : World} {n g c : Nat} {xs : List Int} (h : V'.ownsRow V.heap.size 2 1 (.slice (some ⟨g, 0, none⟩) n c) n (intV xs)) (hw : Below w.heap.size w V) (hb : Below V.heap.size V V') : Acc V.heap.size w V' (some ⟨g, 0, none⟩) n c xs :=
  ⟨h, below_thenA hw hb, hw.size, hb.size⟩

end
end Go.Proofs.YtglmibmjbignbaaGreatDoor
