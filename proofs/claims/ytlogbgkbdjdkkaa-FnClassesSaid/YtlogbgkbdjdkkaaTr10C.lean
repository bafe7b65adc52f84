/-
  The contracts of impl.checkClasses, spec.l10Code, impl.kindsOf, spec.l10Kinds, impl.commonKind, spec.l10Common and impl.stepsUp.
-/
import Derived.Test.YtlogbgkbdjdkkaaTr10I
import Derived.Deep.AppendLies
namespace Go.Proofs.Ytlogbgkbdjdkkaa
set_option linter.unusedVariables false
open Go.RowKit

theorem below_drA {B : Nat} {a w : World} (h : Below B a w) (n : Nat) : Below B a (w.drewN n) := ⟨h.os, h.tape, h.output, h.size, h.block⟩
theorem cIdx10 (A : Option Addr) (n c B m : Nat) (xs : List Int) (w : World) (hbig : n ≤ maxLen) (hm : m ≤ maxLen) (h : NumAt w B A n xs) :
    Calls Try.prog 63 #[.slice A n c, .int .i64 (m : Int)] w fun e w' => e = .returned (.bool (allW 0 ((m : Int) - 1) xs)) ∧ w = w' := by
  have C := Lib.hid (cWithin A n c B xs 0 ((m : Int) - 1) w hbig h)
  unfold maxLen at hm
  clear h
  go_enter Try.func63, Try.ntmps63
  go_wp2_with (go_at_call 68; refine C.out.mono ?_; rintro e w' ⟨rfl, rfl⟩)
  go_ret
  exact ⟨rfl, rfl⟩
theorem cls_all (xs ys : List Int) : allW 0 ((xs.length : Int) - 1) ys = ys.all (inB xs) := rfl

theorem cChk10 (A A1 : Option Addr) (n c n1 c1 B B1 : Nat) (xs ys : List Int) (w : World) (hb : n ≤ maxLen) (hb1 : n1 ≤ maxLen) (h : NumAt w B A n xs) (h1 : NumAt w B1 A1 n1 ys) (hB : B ≤ w.heap.size) (hB1 : B1 ≤ w.heap.size) :
    Calls Try.prog 48 #[.slice A n c, .slice A1 n1 c1] w fun e w' => e = .returned (.int .i64 (clsC xs ys)) ∧ Below w.heap.size w w' := by
  have CT := Lib.hid (cTree_impl A n c B xs w hb h)
  have CI : Hid (∀ m, Calls Try.prog 63 #[.slice A1 n1 c1, .int .i64 (n : Int)] (w.drewN m) fun e w' => e = .returned (.bool (ys.all (inB xs))) ∧ w.drewN m = w') := Lib.hid (fun m => by
    have := cIdx10 A1 n1 c1 B1 n ys (w.drewN m) hb1 hb (h1.below (below_drA (Below.refl w.heap.size w) m) hB1)
    rwa [show ((n : Int) - 1) = (xs.length : Int) - 1 by rw [h.1], cls_all] at this)
  unfold maxLen at hb
  clear h h1
  cases e1 : treeB xs
  · rw [e1] at CT
    rw [clsC_tree e1]
    clear e1
    go_enter Try.func48, Try.ntmps48
    go_wp2_with (go_at_call 29; refine CT.out.mono ?_; rintro e w' ⟨rfl, m, rfl⟩)
    go_ret
    exact ⟨rfl, below_drA (Below.refl _ _) m⟩
  rw [e1] at CT
  cases e2 : ys.all (inB xs)
  · rw [clsC_range e1 e2]
    rw [e2] at CI
    clear e1 e2
    go_enter Try.func48, Try.ntmps48
    go_wp2_with (first
      | (go_at_call 29; refine CT.out.mono ?_; rintro e w' ⟨rfl, m, rfl⟩)
      | (go_at_call 63; refine (CI.out _).mono ?_; rintro e w' ⟨rfl, rfl⟩))
    go_ret
    exact ⟨rfl, below_drA (Below.refl _ _) m⟩
  · rw [clsC_none e1 e2]
    rw [e2] at CI
    clear e1 e2
    go_enter Try.func48, Try.ntmps48
    go_wp2_with (first
      | (go_at_call 29; refine CT.out.mono ?_; rintro e w' ⟨rfl, m, rfl⟩)
      | (go_at_call 63; refine (CI.out _).mono ?_; rintro e w' ⟨rfl, rfl⟩))
    go_ret
    exact ⟨rfl, below_drA (Below.refl _ _) m⟩

theorem cls_two (xs : List Int) (a b : Int) : [a, b].all (inB xs) = (inB xs a && inB xs b) := by simp
theorem cls_same (xs : List Int) (a : Int) : clsC xs [a, a] = clsC xs [a] := by unfold clsC; simp
theorem inB_dec {xs : List Int} {n : Nat} (h : n = xs.length) (a : Int) : (decide (0 ≤ a) && decide (a ≤ (n : Int) - 1)) = inB xs a := by rw [h]; rfl
set_option maxHeartbeats 400000 in
theorem cCode10 (A : Option Addr) (n c B : Nat) (xs : List Int) (a b : Int) (w : World) (hb : n ≤ maxLen) (h : NumAt w B A n xs) :
    Calls Try.prog 50 #[.slice A n c, .int .i64 a, .int .i64 b] w fun e w' => e = .returned (.int .i64 (clsC xs [a, b])) ∧ Below w.heap.size w w' := by
  have CT := Lib.hid (cTree_spec A n c B xs w hb h)
  have CA : Hid (∀ (W : World), Calls Try.prog 55 #[.int .i64 a, .int .i64 0, .int .i64 ((n : Int) - 1)] W fun e w' => e = .returned (.bool (inB xs a)) ∧ W = w') := Lib.hid (fun W => by have := cIn_any a 0 ((n : Int) - 1) W; rwa [inB_dec h.1] at this)
  have CB : Hid (∀ (W : World), Calls Try.prog 55 #[.int .i64 b, .int .i64 0, .int .i64 ((n : Int) - 1)] W fun e w' => e = .returned (.bool (inB xs b)) ∧ W = w') := Lib.hid (fun W => by have := cIn_any b 0 ((n : Int) - 1) W; rwa [inB_dec h.1] at this)
  unfold maxLen at hb
  clear h
  cases e1 : treeB xs
  · rw [e1] at CT
    rw [clsC_tree e1]
    clear e1 CA CB
    go_enter Try.func50, Try.ntmps50
    go_wp2_with (go_at_call 30; refine CT.out.mono ?_; rintro e w' ⟨rfl, m, rfl⟩)
    go_ret
    exact ⟨rfl, below_drA (Below.refl _ _) m⟩
  rw [e1] at CT
  cases e2 : inB xs a
  · rw [clsC_range e1 (by rw [cls_two, e2]; rfl)]
    rw [e2] at CA
    clear e1 e2 CB
    go_enter Try.func50, Try.ntmps50
    go_wp2_with (first
      | (go_at_call 30; refine CT.out.mono ?_; rintro e w' ⟨rfl, m, rfl⟩)
      | (go_at_call 55; refine (CA.out _).mono ?_; rintro e w' ⟨rfl, rfl⟩))
    go_ret
    exact ⟨rfl, below_drA (Below.refl _ _) m⟩
  rw [e2] at CA
  cases e3 : inB xs b
  · rw [clsC_range e1 (by rw [cls_two, e2, e3]; rfl)]
    rw [e3] at CB
    clear e1 e2 e3
    go_enter Try.func50, Try.ntmps50
    go_wp2_with (go_at_call 30; refine CT.out.mono ?_; rintro e w' ⟨rfl, m, rfl⟩)
    go_wp2_with (first
      | (go_at_call 55; refine (CA.out _).mono ?_; rintro e w' ⟨rfl, rfl⟩; clear CA)
      | (go_at_call 55; refine (CB.out _).mono ?_; rintro e w' ⟨rfl, rfl⟩))
    go_ret
    exact ⟨rfl, below_drA (Below.refl _ _) m⟩
  · rw [clsC_none e1 (by rw [cls_two, e2, e3]; rfl)]
    rw [e3] at CB
    clear e1 e2 e3
    go_enter Try.func50, Try.ntmps50
    go_wp2_with (go_at_call 30; refine CT.out.mono ?_; rintro e w' ⟨rfl, m, rfl⟩)
    go_wp2_with (first
      | (go_at_call 55; refine (CA.out _).mono ?_; rintro e w' ⟨rfl, rfl⟩; clear CA)
      | (go_at_call 55; refine (CB.out _).mono ?_; rintro e w' ⟨rfl, rfl⟩))
    go_ret
    exact ⟨rfl, below_drA (Below.refl _ _) m⟩

/-- A row of numbers of one's own that grows. -/
def Acc (B : Nat) (w V : World) (A : Option Addr) (m c : Nat) (xs : List Int) : Prop := V.ownsRow B 2 1 (.slice A m c) m (intV xs) ∧ Below w.heap.size w V ∧ w.heap.size ≤ B ∧ B ≤ V.heap.size
theorem Acc.len {B : Nat} {w V : World} {A : Option Addr} {m c : Nat} {xs : List Int} (h : Acc B w V A m c xs) : xs.length = m := by have := h.1.1; rw [intV_len] at this; omega
theorem Acc.next {B : Nat} {w V V' : World} {A : Option Addr} {m c : Nat} {xs : List Int} (h : Acc B w V A m c xs) (hg : Below V.heap.size V V') : Acc B w V' A m c xs :=
  ⟨((Sp.row h.1).next hg).here, h.2.1.trans (hg.mono h.2.1.size), h.2.2.1, Nat.le_trans h.2.2.2 hg.size⟩
theorem Acc.alloc {B : Nat} {w V : World} {A : Option Addr} {m c : Nat} {xs : List Int} (h : Acc B w V A m c xs) (o : Obj) : Acc B w (V.alloc o) A m c xs := h.next ((Below.refl _ _).alloc (Nat.le_refl _) _)
theorem Acc.drew {B : Nat} {w V : World} {A : Option Addr} {m c : Nat} {xs : List Int} (h : Acc B w V A m c xs) (n : Nat) : Acc B w (V.drewN n) A m c xs := h.next (below_drA (Below.refl _ _) n)
theorem Acc.nil {w V : World} (h : Below w.heap.size w V) : Acc w.heap.size w V none 0 0 [] := ⟨World.ownsRow_nil _ _ _ _, h, Nat.le_refl _, h.size⟩
theorem Acc.nil2 {w V : World} (h : Below w.heap.size w V) : Acc V.heap.size w V none 0 0 [] := ⟨World.ownsRow_nil _ _ _ _, h, h.size, Nat.le_refl _⟩
theorem Acc.lit (w : World) : Acc w.heap.size w (w.alloc (.cells #[] 2)) (some ⟨w.heap.size, 0, none⟩) 0 0 [] :=
  ⟨World.ownsRow_lit (e := 2) (base := w.heap.size) (size := 1) w #[] 0 (Nat.le_refl _) (by decide) rfl, (Below.refl _ _).alloc (Nat.le_refl _) _, Nat.le_refl _, by simp⟩
theorem Acc.lit2 {w V : World} (h : Below w.heap.size w V) : Acc V.heap.size w (V.alloc (.cells #[] 2)) (some ⟨V.heap.size, 0, none⟩) 0 0 [] :=
  ⟨World.ownsRow_lit (e := 2) (base := V.heap.size) (size := 1) V #[] 0 (Nat.le_refl _) (by decide) rfl, h.alloc h.size _, h.size, by simp⟩
theorem below_own {w V V' : World} {B : Nat} {r : Option Nat} (h : Below w.heap.size w V) (hg : V.grownBy V' r) (hr : ∀ k, r = some k → w.heap.size ≤ k) : Below w.heap.size w V' :=
  h.grown hg h.size (fun k hk => hr k hk)
theorem wpList_acc {ops : Array Oper} {rest : List Oper} {o : Oper} {a : Act} {Q : Exit → Act → World → Prop} {B : Nat} {w V : World} {m c : Nat} {A : Option Addr} {xs : List Int} {y : Int} (hL : Acc B w V A m c xs) (hgd : o.guard = none) (s x : Operand)
    (ho : o.op = .call { callee := .builtin .append, args := #[s, x], argTypes := #[24, 24] }) (hs : a.eval s = .slice A m c) (hx : a.eval x = .slice (some ⟨V.heap.size, 0, none⟩) 1 1) (hm : m ≤ 1048576)
    (h : ∀ (A' : Option Addr) (c' : Nat) (w' : World), Acc B w w' A' (m + 1) c' (xs ++ [y]) → V.heap.size ≤ w'.heap.size → wpList Try.prog ops Q rest (a.put o.dst (.slice A' (m + 1) c')) w') : wpList Try.prog ops Q (o :: rest) a (V.alloc (.cells #[.int .i64 y] 2)) := by
  obtain ⟨i0, hi0, hz0, hz1, hz2⟩ := info_parts info_i64
  refine wpList_append_own _ hgd s x 24 ho B 2 i0 _ 1 8 Try.underlying24 hi0 hz0 hz1 hz2 rfl (by decide) _ m (intV xs) hs (hL.1.alloc _) ⟨V.heap.size, 0, none⟩ 1 1 [.int .i64 y] hx rfl (one_cell' _ _ _ (new_one V _ _)) (fun u hu => by simp at hu; subst hu; rfl) (by unfold maxLen; omega) (by omega) (by have := hL.2.2.2; simp; omega) ?_
  intro v' w' h1 h2 _
  rw [intV_snoc] at h1
  obtain ⟨g2, c2, rfl, _, _⟩ := h1.form (Nat.succ_pos _)
  have hs2 := h2.size
  simp at hs2
  refine h _ c2 w' ⟨h1, below_own (B := B) (hL.2.1.alloc hL.2.1.size _) h2 (fun k hk => ?_), hL.2.2.1, by have := hL.2.2.2; omega⟩ (by omega)
  have := (hL.1.lt k hk).1
  have := hL.2.2.1
  omega
/-- A row of numbers. -/
def OutR (zs : List Int) (w : World) (e : Ending) (w' : World) : Prop := ∃ A n c, e = .returned (.slice A n c) ∧ w'.ownsRow w.heap.size 2 1 (.slice A n c) n (intV zs) ∧ Below w.heap.size w w'
theorem Acc.row {B : Nat} {w V : World} {A : Option Addr} {m c : Nat} {xs : List Int} (h : Acc B w V A m c xs) : V.ownsRow w.heap.size 2 1 (.slice A m c) m (intV xs) := rowBase h.1 h.2.2.1
theorem up_part {xs ks : List Int} {a p : Int} {k : Nat} (hT : Tree xs) (hp : xs[k]? = some p) (h : ks ++ upF xs (k : Int) = upF xs a) : (ks ++ [(k : Int)]) ++ upF xs p = upF xs a := by
  rw [← h, upF_cons hT hp]; simp
theorem up_less {xs ks : List Int} {a : Nat} {k : Nat} (hT : Tree xs) (ha : a < xs.length) (h : ks ++ upF xs (k : Int) = upF xs (a : Int)) : ks.length ≤ 20 := by
  have h1 := congrArg List.length h
  rw [List.length_append] at h1
  have := (upF_len hT a ha).2
  have := hT.le
  omega

set_option maxHeartbeats 1000000 in
set_option maxRecDepth 100000 in
theorem cKinds_impl (A : Option Addr) (n c B : Nat) (xs : List Int) (a : Nat) (w : World) (hT : Tree xs) (ha : a < xs.length) (hB : B ≤ w.heap.size) (h : NumAt w B A n xs) :
    Calls Try.prog 58 #[.slice A n c, .int .i64 (a : Int)] w (OutR (upF xs (a : Int)) w) := by
  have HL := Lib.hid h.1
  have H : Hid (∀ V, Below w.heap.size w V → NumAt V B A n xs) := Lib.hid (fun V hV => h.below hV hB)
  have HT := Lib.hid hT
  have hn : n ≤ 20 := by rw [h.1]; exact hT.le
  have HA := Lib.hid ha
  clear h hT ha
  go_enter Try.func58, Try.ntmps58
  go_wp2_with fail
  go_loopw [5, 6] (fun v i wr => ∃ (A1 : Option Addr) (m c1 : Nat) (ks : List Int) (x : Int), v = .slice A1 m c1 ∧ i = .int .i64 x ∧ (x = -1 ∨ ∃ q : Nat, x = q ∧ q < n) ∧ Hid (ks ++ upF xs x = upF xs (a : Int)) ∧ Hid (Acc w.heap.size w wr A1 m c1 ks)) (fun _ i _ => (intOf i + 1).toNat)
  case atStart => exact ⟨none, 0, 0, [], (a : Int), rfl, rfl, .inr ⟨a, rfl, by have := HA.out; have := HL.out; omega⟩, Lib.hid rfl, Lib.hid (Acc.nil (Below.refl _ _))⟩
  case round =>
    obtain ⟨A1, m, c1, ks, x, rfl, rfl, hx, HK, HC⟩ := hrel
    rcases hx with rfl | ⟨q, rfl, hq⟩
    · have HE : Hid (ks = upF xs (a : Int)) := Lib.hid (by have := HK.out; rwa [upF_neg xs (by omega), List.append_nil] at this)
      go_wp2_with fail
      go_ret
      exact ⟨A1, m, c1, rfl, by rw [← HE.out]; exact HC.out.row, HC.out.2.1⟩
    · have hmb : m ≤ 20 := by have := up_less HT.out HA.out HK.out; have := HC.out.len; omega
      obtain ⟨p, hp, hp2⟩ := HT.out.at_ (show q < xs.length by have := HL.out; omega)
      have HP := Lib.hid hp
      have HK2 := Lib.hid (up_part HT.out hp HK.out)
      have e1 : (0 : Int) ≤ (q : Int) := by omega
      have e2 : (q : Int) < (n : Int) := by omega
      have d1 : ((q : Int) == -1) = false := by rw [beq_eq_false_iff_ne]; omega
      have d2 : ((q : Int) != -1) = true := by rw [bne_iff_ne]; omega
      clear hp HK
      go_wp2_with (at_builtin; refine wpList_acc HC.out rfl _ _ rfl rfl rfl (by omega) ?_; intro A9 c9 w9 hl9 hs9; have HC9 := Lib.hid hl9; obtain ⟨b, o, rfl, _, hcx⟩ := (H.out w9 HC9.out.2.1).row HP.out; clear hl9 hs9)
      go_roundw
      case rel => exact ⟨A9, m + 1, c9, _, p, rfl, rfl, (by rcases hp2 with rfl | ⟨r, rfl, hr⟩; exact .inl rfl; exact .inr ⟨r, rfl, by omega⟩), HK2, HC9⟩
      case measure => simp [intOf]; omega

set_option maxHeartbeats 1000000 in
set_option maxRecDepth 100000 in
theorem cKinds_spec (A : Option Addr) (n c B : Nat) (xs : List Int) (a : Nat) (w : World) (hT : Tree xs) (ha : a < xs.length) (hB : B ≤ w.heap.size) (h : NumAt w B A n xs) :
    Calls Try.prog 53 #[.slice A n c, .int .i64 (a : Int)] w (OutR (upF xs (a : Int)) w) := by
  have HL := Lib.hid h.1
  have H : Hid (∀ V, Below w.heap.size w V → NumAt V B A n xs) := Lib.hid (fun V hV => h.below hV hB)
  have HT := Lib.hid hT
  have hn : n ≤ 20 := by rw [h.1]; exact hT.le
  have HA := Lib.hid ha
  clear h hT ha
  go_enter Try.func53, Try.ntmps53
  go_wp2_with fail
  go_loopw [1, 5] (fun i v wr => ∃ (A1 : Option Addr) (m c1 : Nat) (ks : List Int) (x : Int), v = .slice A1 m c1 ∧ i = .int .i64 x ∧ (x = -1 ∨ ∃ q : Nat, x = q ∧ q < n) ∧ Hid (ks ++ upF xs x = upF xs (a : Int)) ∧ Hid (Acc w.heap.size w wr A1 m c1 ks)) (fun i _ _ => (intOf i + 1).toNat)
  case atStart => exact ⟨_, 0, 0, [], (a : Int), rfl, rfl, .inr ⟨a, rfl, by have := HA.out; have := HL.out; omega⟩, Lib.hid rfl, Lib.hid (Acc.lit w)⟩
  case round =>
    obtain ⟨A1, m, c1, ks, x, rfl, rfl, hx, HK, HC⟩ := hrel
    rcases hx with rfl | ⟨q, rfl, hq⟩
    · have HE : Hid (ks = upF xs (a : Int)) := Lib.hid (by have := HK.out; rwa [upF_neg xs (by omega), List.append_nil] at this)
      go_wp2_with fail
      go_ret
      exact ⟨A1, m, c1, rfl, by rw [← HE.out]; exact HC.out.row, HC.out.2.1⟩
    · have hmb : m ≤ 20 := by have := up_less HT.out HA.out HK.out; have := HC.out.len; omega
      obtain ⟨p, hp, hp2⟩ := HT.out.at_ (show q < xs.length by have := HL.out; omega)
      have HP := Lib.hid hp
      have HK2 := Lib.hid (up_part HT.out hp HK.out)
      have e1 : (0 : Int) ≤ (q : Int) := by omega
      have e2 : (q : Int) < (n : Int) := by omega
      clear hp HK
      go_wp2_with (at_builtin; refine wpList_acc HC.out rfl _ _ rfl rfl rfl (by omega) ?_; intro A9 c9 w9 hl9 hs9; have HC9 := Lib.hid hl9; obtain ⟨b, o, rfl, _, hcx⟩ := (H.out w9 HC9.out.2.1).row HP.out; clear hl9 hs9)
      go_roundw
      case rel => exact ⟨A9, m + 1, c9, _, p, rfl, rfl, (by rcases hp2 with rfl | ⟨r, rfl, hr⟩; exact .inl rfl; exact .inr ⟨r, rfl, by omega⟩), HK2, HC9⟩
      case measure => simp [intOf]; omega

theorem com_next {xs ks : List Int} (hT : Tree xs) (h0 : (0 : Int) ∈ ks) {k : Nat} (hk : k < xs.length) (h : (k : Int) ∉ ks) : ∃ q : Nat, xs[k]? = some (q : Int) ∧ q < k ∧ comF xs ks (k : Int) = comF xs ks (q : Int) := by
  obtain ⟨p, hp, rfl | ⟨q, rfl, hq⟩⟩ := hT.at_ hk
  · rcases Nat.eq_zero_or_pos k with rfl | hk0
    · exact absurd h0 h
    · have := hT.par k _ hk0 hp; omega
  · exact ⟨q, hp, hq, com_step hT hp h⟩
theorem own_num10 {w : World} {lo n c : Nat} {A : Option Addr} {xs : List Int} (h : w.ownsRow lo 2 1 (.slice A n c) n (intV xs)) : NumAt w w.heap.size A n xs := own_num h

set_option maxHeartbeats 1000000 in
set_option maxRecDepth 100000 in
theorem cCom_impl (A : Option Addr) (n c B : Nat) (xs : List Int) (a b : Nat) (w : World) (hT : Tree xs) (ha : a < xs.length) (hb : b < xs.length) (hB : B ≤ w.heap.size) (h : NumAt w B A n xs) :
    Calls Try.prog 49 #[.slice A n c, .int .i64 (a : Int), .int .i64 (b : Int)] w fun e w' => e = .returned (.int .i64 (comZ xs (a : Int) (b : Int))) ∧ Below w.heap.size w w' := by
  have CK := Lib.hid (cKinds_impl A n c B xs b w hT hb hB h)
  have HL := Lib.hid h.1
  have H : Hid (∀ V, Below w.heap.size w V → NumAt V B A n xs) := Lib.hid (fun V hV => h.below hV hB)
  have HT := Lib.hid hT
  have hn : n ≤ 20 := by rw [h.1]; exact hT.le
  have HA := Lib.hid ha
  have HZ := Lib.hid (upF_zero hT b hb)
  have HKL := Lib.hid (Nat.le_trans (upF_len hT b hb).2 (show b + 1 ≤ 20 by have := hT.le; omega))
  have HCZ : Hid (comZ xs (a : Int) (b : Int) = comF xs (upF xs (b : Int)) (a : Int)) := Lib.hid rfl
  obtain ⟨ks, hks⟩ : ∃ ks, ks = upF xs (b : Int) := ⟨_, rfl⟩
  rw [← hks] at CK HZ HKL HCZ
  clear h hT ha hb hks
  unfold OutR at CK
  go_enter Try.func49, Try.ntmps49
  go_wp2_with (go_at_call 58; refine CK.out.mono ?_; rintro e w1 ⟨A1, n1, c1, rfl, hO1, hb1⟩)
  have HO := Lib.hid hO1
  have HB1 := Lib.hid hb1
  have hn1 : n1 ≤ 20 := by have := hO1.1; rw [intV_len] at this; have := HKL.out; omega
  clear hO1 hb1 CK
  go_loopw [8] (fun i wr => ∃ q : Nat, q < n ∧ i = .int .i64 (q : Int) ∧ Hid (comF xs ks (q : Int) = comF xs ks (a : Int)) ∧ w1 = wr) (fun i _ => (intOf i).toNat)
  case atStart => exact ⟨a, by have := HA.out; have := HL.out; omega, rfl, Lib.hid rfl, rfl⟩
  case round =>
    obtain ⟨q, hq, rfl, HC, rfl⟩ := hrel
    have e1 : (0 : Int) ≤ (q : Int) := by omega
    have e2 : (q : Int) < (n : Int) := by omega
    have CC := Lib.hid (cContains10 A1 n1 c1 w1.heap.size ks (q : Int) w1 (by unfold maxLen; omega) (own_num HO.out))
    by_cases hm : (q : Int) ∈ ks
    · rw [decide_eq_true hm] at CC
      have HR : Hid ((q : Int) = comZ xs (a : Int) (b : Int)) := Lib.hid (by rw [HCZ.out, ← HC.out, com_stop HT.out (by have := HL.out; omega) hm])
      clear hm
      go_wp2_with (go_at_call 57; refine CC.out.mono ?_; rintro e w' ⟨rfl, rfl⟩)
      go_ret
      exact ⟨ret_int HR.out, HB1.out⟩
    · rw [decide_eq_false hm] at CC
      obtain ⟨p, hp, hpq, hc⟩ := com_next HT.out HZ.out (show q < xs.length by have := HL.out; omega) hm
      obtain ⟨bb, o, rfl, _, hcx⟩ := (H.out w1 HB1.out).row hp
      have HC2 := Lib.hid (hc.symm.trans HC.out)
      clear hm hp hc
      go_wp2_with (go_at_call 57; refine CC.out.mono ?_; rintro e w' ⟨rfl, rfl⟩)
      go_roundw
      case rel => exact ⟨p, by omega, rfl, HC2, by first | rfl | trivial⟩
      case measure => simp [intOf]; omega

set_option maxHeartbeats 1000000 in
set_option maxRecDepth 100000 in
theorem cCom_spec (A : Option Addr) (n c B : Nat) (xs : List Int) (a b : Nat) (w : World) (hT : Tree xs) (ha : a < xs.length) (hb : b < xs.length) (hB : B ≤ w.heap.size) (h : NumAt w B A n xs) :
    Calls Try.prog 51 #[.slice A n c, .int .i64 (a : Int), .int .i64 (b : Int)] w fun e w' => e = .returned (.int .i64 (comZ xs (a : Int) (b : Int))) ∧ Below w.heap.size w w' := by
  have CK := Lib.hid (cKinds_spec A n c B xs a w hT ha hB h)
  have HL := Lib.hid h.1
  have H : Hid (∀ V, Below w.heap.size w V → NumAt V B A n xs) := Lib.hid (fun V hV => h.below hV hB)
  have HT := Lib.hid hT
  have hn : n ≤ 20 := by rw [h.1]; exact hT.le
  have HA := Lib.hid hb
  have HZ := Lib.hid (upF_zero hT a ha)
  have HKL := Lib.hid (Nat.le_trans (upF_len hT a ha).2 (show a + 1 ≤ 20 by have := hT.le; omega))
  have HCZ : Hid (comZ xs (a : Int) (b : Int) = comF xs (upF xs (a : Int)) (b : Int)) := Lib.hid (com_sym hT ha hb)
  obtain ⟨ks, hks⟩ : ∃ ks, ks = upF xs (a : Int) := ⟨_, rfl⟩
  rw [← hks] at CK HZ HKL HCZ
  clear h hT ha hb hks
  unfold OutR at CK
  go_enter Try.func51, Try.ntmps51
  go_wp2_with (go_at_call 53; refine CK.out.mono ?_; rintro e w1 ⟨A1, n1, c1, rfl, hO1, hb1⟩)
  have HO := Lib.hid hO1
  have HB1 := Lib.hid hb1
  have hn1 : n1 ≤ 20 := by have := hO1.1; rw [intV_len] at this; have := HKL.out; omega
  clear hO1 hb1 CK
  go_loopw [2] (fun i wr => ∃ q : Nat, q < n ∧ i = .int .i64 (q : Int) ∧ Hid (comF xs ks (q : Int) = comF xs ks (b : Int)) ∧ w1 = wr) (fun i _ => (intOf i).toNat)
  case atStart => exact ⟨b, by have := HA.out; have := HL.out; omega, rfl, Lib.hid rfl, rfl⟩
  case round =>
    obtain ⟨q, hq, rfl, HC, rfl⟩ := hrel
    have e1 : (0 : Int) ≤ (q : Int) := by omega
    have e2 : (q : Int) < (n : Int) := by omega
    have CC := Lib.hid (cHas10 A1 n1 c1 w1.heap.size ks (q : Int) w1 (by unfold maxLen; omega) (own_num HO.out))
    by_cases hm : (q : Int) ∈ ks
    · rw [decide_eq_true hm] at CC
      have HR : Hid ((q : Int) = comZ xs (a : Int) (b : Int)) := Lib.hid (by rw [HCZ.out, ← HC.out, com_stop HT.out (by have := HL.out; omega) hm])
      clear hm
      go_wp2_with (go_at_call 59; refine CC.out.mono ?_; rintro e w' ⟨rfl, rfl⟩)
      go_ret
      exact ⟨ret_int HR.out, HB1.out⟩
    · rw [decide_eq_false hm] at CC
      obtain ⟨p, hp, hpq, hc⟩ := com_next HT.out HZ.out (show q < xs.length by have := HL.out; omega) hm
      obtain ⟨bb, o, rfl, _, hcx⟩ := (H.out w1 HB1.out).row hp
      have HC2 := Lib.hid (hc.symm.trans HC.out)
      clear hm hp hc
      go_wp2_with (go_at_call 59; refine CC.out.mono ?_; rintro e w' ⟨rfl, rfl⟩)
      go_roundw
      case rel => exact ⟨p, by omega, rfl, HC2, by first | rfl | trivial⟩
      case measure => simp [intOf]; omega

/-- The steps up from a class to one of its kinds. -/
def stepZ (xs : List Int) (a c : Int) : Int := (((upF xs a).idxOf c : Nat) : Int)
theorem cSteps (A : Option Addr) (n c B : Nat) (xs : List Int) (a k : Nat) (w : World) (hT : Tree xs) (ha : a < xs.length) (hk : (k : Int) ∈ upF xs (a : Int)) (hB : B ≤ w.heap.size) (h : NumAt w B A n xs) :
    Calls Try.prog 52 #[.slice A n c, .int .i64 (a : Int), .int .i64 (k : Int)] w fun e w' => e = .returned (.int .i64 (stepZ xs (a : Int) (k : Int))) ∧ Below w.heap.size w w' := by
  have CK := Lib.hid (cKinds_impl A n c B xs a w hT ha hB h)
  have HKL := Lib.hid (Nat.le_trans (upF_len hT a ha).2 (show a + 1 ≤ 20 by have := hT.le; omega))
  have CI : Hid (∀ (A1 : Option Addr) (n1 c1 : Nat) (V : World), V.ownsRow w.heap.size 2 1 (.slice A1 n1 c1) n1 (intV (upF xs (a : Int))) → Calls Try.prog 64 #[.slice A1 n1 c1, .int .i64 (k : Int)] V fun e w' => e = .returned (.int .i64 (stepZ xs (a : Int) (k : Int))) ∧ V = w') := Lib.hid (fun A1 n1 c1 V hV => by
    have := cIndex10 A1 n1 c1 V.heap.size _ (k : Int) V (by have := hV.1; rw [intV_len] at this; have := HKL.out; unfold maxLen; omega) (own_num hV)
    rwa [idxZ_yes hk] at this)
  clear h hT hk
  unfold OutR at CK
  obtain ⟨r, hr⟩ : ∃ r, r = stepZ xs (a : Int) (k : Int) := ⟨_, rfl⟩
  rw [← hr] at CI ⊢
  obtain ⟨ks, hks⟩ : ∃ ks, ks = upF xs (a : Int) := ⟨_, rfl⟩
  rw [← hks] at CK CI
  clear hr hks
  go_enter Try.func52, Try.ntmps52
  go_wp2_with (first
    | (go_at_call 58; refine CK.out.mono ?_; rintro e w1 ⟨A1, n1, c1, rfl, hO1, hb1⟩; have HO := Lib.hid hO1; have HB1 := Lib.hid hb1; clear hO1 hb1)
    | (go_at_call 64; refine (CI.out _ _ _ _ HO.out).mono ?_; rintro e w' ⟨rfl, rfl⟩))
  go_ret
  exact ⟨rfl, HB1.out⟩
end Go.Proofs.Ytlogbgkbdjdkkaa
