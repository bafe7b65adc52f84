/-
  The contracts of impl.checkClasses, spec.l10Code, impl.kindsOf, spec.l10Kinds, impl.commonKind, spec.l10Common and impl.stepsUp.
-/
import Derived.Test.YtglmibmjbignbaaGreatDoorMy20
import Derived.Deep.AppendLies
import Derived.Test.YtglmibmjbignbaaGreatDoorMy2
import Derived.Test.YtglmibmjbignbaaGreatDoorMy7
import Derived.Test.YtglmibmjbignbaaGreatDoorMy3
import Derived.Deep.RegionWith
namespace Go.Proofs.YtglmibmjbignbaaGreatDoor
section
set_option linter.unusedVariables false
open Go.RowKit

theorem below_drA {B : Nat} {a w : World} (h : Below B a w) (n : Nat) : Below B a (w.drewN n) := ⟨h.os, h.tape, h.output, h.size, h.block⟩
theorem cIdx10 (A : Option Addr) (n c B m : Nat) (xs : List Int) (w : World) (hbig : n ≤ maxLen) (hm : m ≤ maxLen) (h : NumAt w B A n xs) :
    Calls Tryz.prog 142 #[.slice A n c, .int .i64 (m : Int)] w fun e w' => e = .returned (.bool (allWn 0 ((m : Int) - 1) xs)) ∧ w = w' := by
  have C := Lib.hid (cWithin A n c B xs 0 ((m : Int) - 1) w hbig h)
  unfold maxLen at hm
  clear h
  go_enter Tryz.func142, Tryz.ntmps142
  go_wp2_with (go_at_call 175; refine C.out.mono ?_; rintro e w' ⟨rfl, rfl⟩)
  go_ret
  exact ⟨rfl, rfl⟩
theorem cls_all (xs ys : List Int) : allWn 0 ((xs.length : Int) - 1) ys = ys.all (inT10 xs) := rfl

theorem cChk10 (A A1 : Option Addr) (n c n1 c1 B B1 : Nat) (xs ys : List Int) (w : World) (hb : n ≤ maxLen) (hb1 : n1 ≤ maxLen) (h : NumAt w B A n xs) (h1 : NumAt w B1 A1 n1 ys) (hB : B ≤ w.heap.size) (hB1 : B1 ≤ w.heap.size) :
    Calls Tryz.prog 95 #[.slice A n c, .slice A1 n1 c1] w fun e w' => e = .returned (.int .i64 (clsC xs ys)) ∧ Below w.heap.size w w' := by
  have CT := Lib.hid (cTree_impl A n c B xs w hb h)
  have CI : Hid (∀ m, Calls Tryz.prog 142 #[.slice A1 n1 c1, .int .i64 (n : Int)] (w.drewN m) fun e w' => e = .returned (.bool (ys.all (inT10 xs))) ∧ w.drewN m = w') := Lib.hid (fun m => by
    have := cIdx10 A1 n1 c1 B1 n ys (w.drewN m) hb1 hb (h1.below (below_drA (Below.refl w.heap.size w) m) hB1)
    rwa [show ((n : Int) - 1) = (xs.length : Int) - 1 by rw [h.1], cls_all] at this)
  unfold maxLen at hb
  clear h h1
  cases e1 : treeB xs
  · rw [e1] at CT
    rw [clsC_tree e1]
    clear e1
    go_enter Tryz.func95, Tryz.ntmps95
    go_wp2_with (go_at_call 94; refine CT.out.mono ?_; rintro e w' ⟨rfl, m, rfl⟩)
    go_ret
    exact ⟨rfl, below_drA (Below.refl _ _) m⟩
  rw [e1] at CT
  cases e2 : ys.all (inT10 xs)
  · rw [clsC_range e1 e2]
    rw [e2] at CI
    clear e1 e2
    go_enter Tryz.func95, Tryz.ntmps95
    go_wp2_with (first
      | (go_at_call 94; refine CT.out.mono ?_; rintro e w' ⟨rfl, m, rfl⟩)
      | (go_at_call 142; refine (CI.out _).mono ?_; rintro e w' ⟨rfl, rfl⟩))
    go_ret
    exact ⟨rfl, below_drA (Below.refl _ _) m⟩
  · rw [clsC_none e1 e2]
    rw [e2] at CI
    clear e1 e2
    go_enter Tryz.func95, Tryz.ntmps95
    go_wp2_with (first
      | (go_at_call 94; refine CT.out.mono ?_; rintro e w' ⟨rfl, m, rfl⟩)
      | (go_at_call 142; refine (CI.out _).mono ?_; rintro e w' ⟨rfl, rfl⟩))
    go_ret
    exact ⟨rfl, below_drA (Below.refl _ _) m⟩

theorem cls_two (xs : List Int) (a b : Int) : [a, b].all (inT10 xs) = (inT10 xs a && inT10 xs b) := by simp
theorem cls_same (xs : List Int) (a : Int) : clsC xs [a, a] = clsC xs [a] := by unfold clsC; simp
theorem inB_dec {xs : List Int} {n : Nat} (h : n = xs.length) (a : Int) : (decide (0 ≤ a) && decide (a ≤ (n : Int) - 1)) = inT10 xs a := by rw [h]; rfl
/-- A row of numbers of one's own that grows. -/
def Acc (B : Nat) (w V : World) (A : Option Addr) (m c : Nat) (xs : List Int) : Prop := V.ownsRow B 2 1 (.slice A m c) m (intV xs) ∧ Below w.heap.size w V ∧ w.heap.size ≤ B ∧ B ≤ V.heap.size
theorem Acc.len {B : Nat} {w V : World} {A : Option Addr} {m c : Nat} {xs : List Int} (h : Acc B w V A m c xs) : xs.length = m := by have := h.1.1; rw [intV_len] at this; omega
theorem Acc.next {B : Nat} {w V V' : World} {A : Option Addr} {m c : Nat} {xs : List Int} (h : Acc B w V A m c xs) (hg : Below V.heap.size V V') : Acc B w V' A m c xs :=
  ⟨((Sp.row h.1).next hg).here, h.2.1.trans (hg.mono h.2.1.size), h.2.2.1, Nat.le_trans h.2.2.2 hg.size⟩
theorem Acc.alloc {B : Nat} {w V : World} {A : Option Addr} {m c : Nat} {xs : List Int} (h : Acc B w V A m c xs) (o : Obj) : Acc B w (V.alloc o) A m c xs := h.next ((Below.refl _ _).alloc (Nat.le_refl _) _)
theorem Acc.drew {B : Nat} {w V : World} {A : Option Addr} {m c : Nat} {xs : List Int} (h : Acc B w V A m c xs) (n : Nat) : Acc B w (V.drewN n) A m c xs := h.next (below_drA (Below.refl _ _) n)
theorem Acc.nil {w V : World} (h : Below w.heap.size w V) : Acc w.heap.size w V none 0 0 [] := ⟨World.ownsRow_nil _ _ _ _, h, Nat.le_refl _, h.size⟩
theorem Acc.nil2 {w V : World} (h : Below w.heap.size w V) : Acc V.heap.size w V none 0 0 [] := ⟨World.ownsRow_nil _ _ _ _, h, h.size, Nat.le_refl _⟩
theorem Acc.lit (w : World) : Acc w.heap.size w (w.alloc (.cells #[] 2)) (some ⟨w.heap.size, 0, none⟩) 0 0 [] :=
  ⟨World.ownsRow_lit (e := 2) (base := w.heap.size) (size := 1) w #[] 0 (Nat.le_refl _) (by decide) rfl, (Below.refl _ _).alloc (Nat.le_refl _) _, Nat.le_refl _, by simp⟩
theorem Acc.lit2 {w V : World} (h : Below w.heap.size w V) : Acc V.heap.size w (V.alloc (.cells #[] 2)) (some ⟨V.heap.size, 0, none⟩) 0 0 [] :=
  ⟨World.ownsRow_lit (e := 2) (base := V.heap.size) (size := 1) V #[] 0 (Nat.le_refl _) (by decide) rfl, h.alloc h.size _, h.size, by simp⟩
theorem below_own {w V V' : World} {B : Nat} {r : Option Nat} (h : Below w.heap.size w V) (hg : V.grownBy V' r) (hr : ∀ k, r = some k → w.heap.size ≤ k) : Below w.heap.size w V' :=
  h.grown hg h.size (fun k hk => hr k hk)
theorem wpList_acc {ops : Array Oper} {rest : List Oper} {o : Oper} {a : Act} {Q : Exit → Act → World → Prop} {B : Nat} {w V : World} {m c : Nat} {A : Option Addr} {xs : List Int} {y : Int} (hL : Acc B w V A m c xs) (hgd : o.guard = none) (s x : Operand)
    (ho : o.op = .call { callee := .builtin .append, args := #[s, x], argTypes := #[49, 49] }) (hs : a.eval s = .slice A m c) (hx : a.eval x = .slice (some ⟨V.heap.size, 0, none⟩) 1 1) (hm : m ≤ 1048576)
    (h : ∀ (A' : Option Addr) (c' : Nat) (w' : World), Acc B w w' A' (m + 1) c' (xs ++ [y]) → V.heap.size ≤ w'.heap.size → wpList Tryz.prog ops Q rest (a.put o.dst (.slice A' (m + 1) c')) w') : wpList Tryz.prog ops Q (o :: rest) a (V.alloc (.cells #[.int .i64 y] 2)) := by
  obtain ⟨i0, hi0, hz0, hz1, hz2⟩ := info_parts info_i64
  refine wpList_append_own _ hgd s x 49 ho B 2 i0 _ 1 8 Tryz.underlying49 hi0 hz0 hz1 hz2 rfl (by decide) _ m (intV xs) hs (hL.1.alloc _) ⟨V.heap.size, 0, none⟩ 1 1 [.int .i64 y] hx rfl (one_cell' _ _ _ (new_one V _ _)) (fun u hu => by simp at hu; subst hu; rfl) (by unfold maxLen; omega) (by omega) (by have := hL.2.2.2; simp; omega) ?_
  intro v' w' h1 h2 _
  rw [intV_snoc] at h1
  obtain ⟨g2, c2, rfl, _, _⟩ := h1.form (Nat.succ_pos _)
  have hs2 := h2.size
  simp at hs2
  refine h _ c2 w' ⟨h1, below_own (B := B) (hL.2.1.alloc hL.2.1.size _) h2 (fun k hk => ?_), hL.2.2.1, by have := hL.2.2.2; omega⟩ (by omega)
  have := (hL.1.lt k hk).1
  have := hL.2.2.1
  omega
/-- A row of numbers. -/
def OutR (zs : List Int) (w : World) (e : Ending) (w' : World) : Prop := ∃ A n c, e = .returned (.slice A n c) ∧ w'.ownsRow w.heap.size 2 1 (.slice A n c) n (intV zs) ∧ Below w.heap.size w w'
theorem Acc.row {B : Nat} {w V : World} {A : Option Addr} {m c : Nat} {xs : List Int} (h : Acc B w V A m c xs) : V.ownsRow w.heap.size 2 1 (.slice A m c) m (intV xs) := rowBase h.1 h.2.2.1
theorem up_part {xs ks : List Int} {a p : Int} {k : Nat} (hT : Tree xs) (hp : xs[k]? = some p) (h : ks ++ upF xs (k : Int) = upF xs a) : (ks ++ [(k : Int)]) ++ upF xs p = upF xs a := by
  rw [← h, upF_cons hT hp]; simp
theorem up_less {xs ks : List Int} {a : Nat} {k : Nat} (hT : Tree xs) (ha : a < xs.length) (h : ks ++ upF xs (k : Int) = upF xs (a : Int)) : ks.length ≤ 20 := by
  have h1 := congrArg List.length h
  rw [List.length_append] at h1
  have := (upF_len hT a ha).2
  have := hT.le
  omega

set_option maxHeartbeats 1000000 in
set_option maxRecDepth 100000 in
theorem cKinds_spec (A : Option Addr) (n c B : Nat) (xs : List Int) (a : Nat) (w : World) (hT : Tree xs) (ha : a < xs.length) (hB : B ≤ w.heap.size) (h : NumAt w B A n xs) :
    Calls Tryz.prog 101 #[.slice A n c, .int .i64 (a : Int)] w (OutR (upF xs (a : Int)) w) := by
  have HL := Lib.hid h.1
  have H : Hid (∀ V, Below w.heap.size w V → NumAt V B A n xs) := Lib.hid (fun V hV => h.below hV hB)
  have HT := Lib.hid hT
  have hn : n ≤ 20 := by rw [h.1]; exact hT.le
  have HA := Lib.hid ha
  clear h hT ha
  go_enter Tryz.func101, Tryz.ntmps101
  go_wp2_with fail
  go_loopw [1, 5] (fun i v wr => ∃ (A1 : Option Addr) (m c1 : Nat) (ks : List Int) (x : Int), v = .slice A1 m c1 ∧ i = .int .i64 x ∧ (x = -1 ∨ ∃ q : Nat, x = q ∧ q < n) ∧ Hid (ks ++ upF xs x = upF xs (a : Int)) ∧ Hid (Acc w.heap.size w wr A1 m c1 ks)) (fun i _ _ => (intOf i + 1).toNat)
  case atStart => exact ⟨_, 0, 0, [], (a : Int), rfl, rfl, .inr ⟨a, rfl, by have := HA.out; have := HL.out; omega⟩, Lib.hid rfl, Lib.hid (Acc.lit w)⟩
  case round =>
    obtain ⟨A1, m, c1, ks, x, rfl, rfl, hx, HK, HC⟩ := hrel
    rcases hx with rfl | ⟨q, rfl, hq⟩
    · have HE : Hid (ks = upF xs (a : Int)) := Lib.hid (by have := HK.out; rwa [upF_neg xs (by omega), List.append_nil] at this)
      go_wp2_with fail
      go_ret
      exact ⟨A1, m, c1, rfl, by rw [← HE.out]; exact HC.out.row, HC.out.2.1⟩
    · have hmb : m ≤ 20 := by have := up_less HT.out HA.out HK.out; have := HC.out.len; omega
      obtain ⟨p, hp, hp2⟩ := HT.out.at_ (show q < xs.length by have := HL.out; omega)
      have HP := Lib.hid hp
      have HK2 := Lib.hid (up_part HT.out hp HK.out)
      have e1 : (0 : Int) ≤ (q : Int) := by omega
      have e2 : (q : Int) < (n : Int) := by omega
      clear hp HK
      go_wp2_with (at_builtin; refine wpList_acc HC.out rfl _ _ rfl rfl rfl (by omega) ?_; intro A9 c9 w9 hl9 hs9; have HC9 := Lib.hid hl9; obtain ⟨b, o, rfl, _, hcx⟩ := (H.out w9 HC9.out.2.1).row HP.out; clear hl9 hs9)
      go_roundw
      case rel => exact ⟨A9, m + 1, c9, _, p, rfl, rfl, (by rcases hp2 with rfl | ⟨r, rfl, hr⟩; exact .inl rfl; exact .inr ⟨r, rfl, by omega⟩), HK2, HC9⟩
      case measure => simp [intOf]; omega

theorem com_next {xs ks : List Int} (hT : Tree xs) (h0 : (0 : Int) ∈ ks) {k : Nat} (hk : k < xs.length) (h : (k : Int) ∉ ks) : ∃ q : Nat, xs[k]? = some (q : Int) ∧ q < k ∧ comF xs ks (k : Int) = comF xs ks (q : Int) := by
  obtain ⟨p, hp, rfl | ⟨q, rfl, hq⟩⟩ := hT.at_ hk
  · rcases Nat.eq_zero_or_pos k with rfl | hk0
    · exact absurd h0 h
    · have := hT.par k _ hk0 hp; omega
  · exact ⟨q, hp, hq, com_step10 hT hp h⟩
theorem own_num10 {w : World} {lo n c : Nat} {A : Option Addr} {xs : List Int} (h : w.ownsRow lo 2 1 (.slice A n c) n (intV xs)) : NumAt w w.heap.size A n xs := own_num h

/-- The steps up from a class to one of its kinds. -/
def stepZ (xs : List Int) (a c : Int) : Int := (((upF xs a).idxOf c : Nat) : Int)
end
section
set_option linter.unusedVariables false
open Go.RowKit

theorem Src.own {w w' : World} {B len : Nat} {r : Option Nat} (h : Src w B len) (hg : w.grownBy w' r) (hr : ∀ k, r = some k → B < k) : Src w' B len := by
  obtain ⟨A, cap, at_, seed, hT, h1, h2, h3, h4, hC⟩ := h
  refine ⟨A, cap, at_, seed, (hg.block B hT.lt (fun e => by have := hr B e.symm; omega)).trans hT, h1, h2, h3, h4, fun hp => ?_⟩
  obtain ⟨b, o, hA, hne, hlt, hc⟩ := hC hp
  refine ⟨b, o, hA, hne, Nat.lt_of_lt_of_le hlt hg.size, fun j hj => ?_⟩
  obtain ⟨z, z0, z1, z2⟩ := hc j hj
  exact ⟨z, z0, z1, hg.cell z2 (fun e => by have := hr b e.symm; omega)⟩
theorem grown_ownB {w w1 w2 : World} {B : Nat} {r : Option Nat} (h : w.grownBy w1 (some B)) (hg : w1.grownBy w2 r) (hr : ∀ k, r = some k → w.heap.size ≤ k) : w.grownBy w2 (some B) :=
  ⟨hg.os.trans h.os, hg.tape.trans h.tape, hg.output.trans h.output, Nat.le_trans h.size hg.size, fun k hk hne =>
    (hg.block k (Nat.lt_of_lt_of_le hk h.size) (fun e => by have := hr k e.symm; omega)).trans (h.block k hk hne)⟩
theorem own_lo {w : World} {base s n : Nat} {t : TypeId} {v : Value} {xs : List Value} (h : w.ownsRow base t s v n xs) {C : Nat} (hC : C ≤ base) : ∀ k, v.ownBlock = some k → C ≤ k := fun k hk => Nat.le_trans hC (h.lt k hk).1
theorem own_gt {w : World} {base s n : Nat} {t : TypeId} {v : Value} {xs : List Value} (h : w.ownsRow base t s v n xs) {C : Nat} (hC : C < base) : ∀ k, v.ownBlock = some k → C < k := fun k hk => Nat.lt_of_lt_of_le hC (h.lt k hk).1
theorem info_str7 : (Tryz.prog.info? 9).map (fun i => (i.zero, i.size, i.bytes)) = some (some (.string ByteArray.empty), 1, 16) := by kernel_rfl
theorem info_int7 : (Tryz.prog.info? 2).map (fun i => (i.zero, i.size, i.bytes)) = some (some (.int .i64 0), 1, 8) := by kernel_rfl
/-- append(v, y) of texts. -/
theorem wpList_push_str {ops : Array Oper} {rest : List Oper} {o : Oper} {a : Act} {w : World} {Q : Exit → Act → World → Prop} (hgd : o.guard = none) (s x : Operand)
    (ho : o.op = .call { callee := .builtin .append, args := #[s, x], argTypes := #[38, 38] }) (base : Nat) (v : Value) (n : Nat) (xs : List ByteArray) (hs : a.eval s = v) (hown : w.ownsRow base 9 1 v n (strV xs))
    (g : Nat) (hx : a.eval x = .slice (some ⟨g, 0, none⟩) 1 1) (y : ByteArray) (hc : w.cell? ⟨g, 0, none⟩ = some (.string y)) (hn : n ≤ 1048576) (hbase : base ≤ w.heap.size)
    (h : ∀ (A : Option Addr) (c : Nat) (w' : World), w'.ownsRow base 9 1 (.slice A (n + 1) c) (n + 1) (strV (xs ++ [y])) → w.grownBy w' v.ownBlock → wpList Tryz.prog ops Q rest (a.put o.dst (.slice A (n + 1) c)) w') : wpList Tryz.prog ops Q (o :: rest) a w := by
  obtain ⟨i0, hi0, hz0, hz1, hz2⟩ := info_parts info_str7
  refine wpList_append_own _ hgd s x 38 ho base 9 i0 _ 1 16 Tryz.underlying38 hi0 hz0 hz1 hz2 rfl (by decide) v n (strV xs) hs hown ⟨g, 0, none⟩ 1 1 [.string y] hx rfl (one_cell' _ _ _ hc) (fun u hu => by simp at hu; subst hu; rfl) (by unfold maxLen; omega) (by omega) hbase ?_
  intro v' w' h1 h2 _
  rw [strV_snoc] at h1
  obtain ⟨g2, c2, rfl, _, _⟩ := h1.form (Nat.succ_pos _)
  exact h _ c2 w' h1 h2
theorem wpList_push_int {ops : Array Oper} {rest : List Oper} {o : Oper} {a : Act} {w : World} {Q : Exit → Act → World → Prop} (hgd : o.guard = none) (s x : Operand)
    (ho : o.op = .call { callee := .builtin .append, args := #[s, x], argTypes := #[49, 49] }) (base : Nat) (v : Value) (n : Nat) (xs : List Int) (hs : a.eval s = v) (hown : w.ownsRow base 2 1 v n (intV xs))
    (g : Nat) (hx : a.eval x = .slice (some ⟨g, 0, none⟩) 1 1) (y : Int) (hc : w.cell? ⟨g, 0, none⟩ = some (.int .i64 y)) (hn : n ≤ 1048576) (hbase : base ≤ w.heap.size)
    (h : ∀ (A : Option Addr) (c : Nat) (w' : World), w'.ownsRow base 2 1 (.slice A (n + 1) c) (n + 1) (intV (xs ++ [y])) → w.grownBy w' v.ownBlock → wpList Tryz.prog ops Q rest (a.put o.dst (.slice A (n + 1) c)) w') : wpList Tryz.prog ops Q (o :: rest) a w := by
  obtain ⟨i0, hi0, hz0, hz1, hz2⟩ := info_parts info_int7
  refine wpList_append_own _ hgd s x 49 ho base 2 i0 _ 1 8 Tryz.underlying49 hi0 hz0 hz1 hz2 rfl (by decide) v n (intV xs) hs hown ⟨g, 0, none⟩ 1 1 [.int .i64 y] hx rfl (one_cell' _ _ _ hc) (fun u hu => by simp at hu; subst hu; rfl) (by unfold maxLen; omega) (by omega) hbase ?_
  intro v' w' h1 h2 _
  rw [intV_snoc] at h1
  obtain ⟨g2, c2, rfl, _, _⟩ := h1.form (Nat.succ_pos _)
  exact h _ c2 w' h1 h2
end
section
set_option linter.unusedVariables false
open Go.RowKit

theorem own_src10 {w w' : World} {base s n B : Nat} {t : TypeId} {v : Value} {xs : List Value} (h : w.ownsRow base t s v n xs) (hg : w.grownBy w' (some B)) (hB : B < base) : w'.ownsRow base t s v n xs :=
  h.kept hg (.inr (fun e => by have := (h.lt B e).1; omega))
theorem own_prefix10 {w : World} {B g n m c : Nat} {t : TypeId} {xs : List Value} (h : w.ownsRow B t 1 (.slice (some ⟨g, 0, none⟩) n c) n xs) (hm : m ≤ n) : w.ownsRow B t 1 (.slice (some ⟨g, 0, none⟩) m c) m (xs.take m) := by
  have hl := h.1
  rcases h.2 with ⟨he, h0⟩ | ⟨g', cap, cur, hv, hg, hb, h1, h2, h3, h4⟩
  · cases he
  · cases hv
    refine ⟨by rw [List.length_take]; omega, .inr ⟨g, c, cur, rfl, hg, hb, by omega, h2, h3, ?_⟩⟩
    rw [← h4, List.take_take]
    congr 1; omega
/-- A row of numbers that is being drawn. -/
def TSt (w : World) (B len : Nat) (V : World) (A : Option Addr) (m c : Nat) (xs : List Int) : Prop :=
  V.ownsRow w.heap.size 2 1 (.slice A m c) m (intV xs) ∧ Src V B len ∧ w.grownBy V (some B) ∧ B < w.heap.size
theorem TSt.src {w V : World} {B len m c : Nat} {A : Option Addr} {xs : List Int} (h : TSt w B len V A m c xs) : Src V B len := h.2.1
theorem TSt.next {w V V' : World} {B len m c : Nat} {A : Option Addr} {xs : List Int} (h : TSt w B len V A m c xs) (hS : Src V' B len) (hg : V.grownBy V' (some B)) : TSt w B len V' A m c xs :=
  ⟨own_src10 h.1 hg h.2.2.2, hS, h.2.2.1.trans hg, h.2.2.2⟩
theorem TSt.alloc {w V : World} {B len m c : Nat} {A : Option Addr} {xs : List Int} (h : TSt w B len V A m c xs) (o : Obj) : TSt w B len (V.alloc o) A m c xs :=
  ⟨h.1.alloc o, srcAlloc h.2.1 o, h.2.2.1.trans (World.grownBy_alloc V o (some B)), h.2.2.2⟩
theorem wpList_app10 {ops : Array Oper} {rest : List Oper} {o : Oper} {a : Act} {Q : Exit → Act → World → Prop} {w V : World} {B len m c : Nat} {A : Option Addr} {xs : List Int} {y : Int} (hL : TSt w B len V A m c xs) (hgd : o.guard = none) (s x : Operand)
    (ho : o.op = .call { callee := .builtin .append, args := #[s, x], argTypes := #[49, 49] }) (hs : a.eval s = .slice A m c) (hx : a.eval x = .slice (some ⟨V.heap.size, 0, none⟩) 1 1) (hm : m ≤ 1048576)
    (h : ∀ (A' : Option Addr) (c' : Nat) (w' : World), TSt w B len w' A' (m + 1) c' (xs ++ [y]) → wpList Tryz.prog ops Q rest (a.put o.dst (.slice A' (m + 1) c')) w') : wpList Tryz.prog ops Q (o :: rest) a (V.alloc (.cells #[.int .i64 y] 2)) :=
  wpList_push_int hgd s x ho w.heap.size _ m xs hs (hL.1.alloc _) V.heap.size hx y (new_one V _ _) hm (Nat.le_trans hL.2.2.1.size (by simp)) (fun A' c' w' h1 h2 => h A' c' w' ⟨h1, (srcAlloc hL.2.1 _).own h2 (own_gt hL.1 hL.2.2.2), grown_ownB (hL.2.2.1.trans (World.grownBy_alloc V _ (some B))) h2 (own_lo hL.1 (Nat.le_refl _)), hL.2.2.2⟩)
/-- What is drawn as9 a tree. -/
def TrPost (w : World) (B len : Nat) (e : Ending) (w' : World) : Prop :=
  ∃ (A : Option Addr) (n c : Nat) (xs : List Int), e = .returned (.slice A n c) ∧ w'.ownsRow w.heap.size 2 1 (.slice A n c) n (intV xs) ∧ n ≤ 21 ∧ Src w' B len ∧ w.grownBy w' (some B)
theorem TSt.post {w V : World} {B len m c : Nat} {A : Option Addr} {xs : List Int} (h : TSt w B len V A m c xs) (hm : m ≤ 21) : TrPost w B len (.returned (.slice A m c)) V := ⟨A, m, c, xs, rfl, h.1, hm, h.2.1, h.2.2.1⟩
theorem intV_setD (xs : List Int) (k : Nat) (x : Int) : (intV xs).set k (.int .i64 x) = intV (xs.set k x) := by unfold intV; rw [List.map_set]
theorem intV_takeD (xs : List Int) (k : Nat) : (intV xs).take k = intV (xs.take k) := by unfold intV; rw [List.map_take]

set_option maxHeartbeats 4000000 in
set_option maxRecDepth 100000 in
theorem cDraw10 (B len : Nat) (w : World) (hlen : len ≤ 1048576) (h : Src w B len) :
    Calls Tryz.prog 92 #[.pointer (some ⟨B, 0, none⟩)] w (TrPost w B len) := by
  have hlt := h.lt
  have HL1 : Hid (TSt w B len (w.alloc (.cells #[.int .i64 (-1)] 2)) (some ⟨w.heap.size, 0, none⟩) 1 1 [-1]) := Lib.hid ⟨World.ownsRow_lit (e := 2) (base := w.heap.size) (size := 1) w #[.int .i64 (-1)] 1 (Nat.le_refl _) (by decide) rfl, srcAlloc h _, World.grownBy_alloc w _ _, hlt⟩
  have CN := Lib.hid (fun (V : World) (n : Int) (hV : Src V B len) (h1 : -1000000000 ≤ n) (h2 : n ≤ 10000000000) => cNext B len n V hlen h1 h2 hV)
  clear h
  go_enter Tryz.func92, Tryz.ntmps92
  go_wp2_with fail
  refine (CN.out _ 9 HL1.out.src (by omega) (by omega)).mono ?_
  rintro e w2 ⟨r, hr0, hr1, rfl, hS2, hg2⟩
  have HL2 := Lib.hid (HL1.out.next hS2 hg2)
  have hr8 : r ≤ 8 := by omega
  clear hS2 hg2 HL1 hr1
  go_wp2_with fail
  go_loopw [3, 4] (fun ov i wr => ∃ (m c z : Nat) (A : Option Addr) (xs : List Int), ov = .slice A m c ∧ i = .int .i64 (z : Int) ∧ m + z ≤ 9 ∧ 1 ≤ m ∧ Hid (TSt w B len wr A m c xs)) (fun _ i _ => (intOf i).toNat)
  case atStart => exact ⟨1, 1, r.toNat, _, _, rfl, by first | rfl | (rw [show ((r.toNat : Nat) : Int) = r by omega]), by omega, Nat.le_refl _, HL2⟩
  case round =>
    clear HL2 hr0 hr8
    obtain ⟨m, c, z, A, xs, rfl, rfl, hmz, hm1, HL⟩ := hrel
    by_cases hz : 0 < z
    · obtain ⟨q, rfl⟩ : ∃ q : Nat, z = q + 1 := ⟨z - 1, by omega⟩
      have hz2 : (0 : Int) < ((q + 1 : Nat) : Int) := by omega
      go_wp2_with fail
      refine (CN.out _ _ HL.out.src (by omega) (by omega)).mono ?_
      rintro e w3 ⟨y, hy0, hy1, rfl, hS3, hg3⟩
      have HL3 := Lib.hid (HL.out.next hS3 hg3)
      clear hS3 hg3 HL hy1
      go_wp2_with (at_builtin; refine wpList_app10 HL3.out rfl _ _ rfl rfl rfl (by omega) ?_; intro A9 c9 w9 hl9; have HL9 := Lib.hid hl9; clear hl9)
      go_roundw
      case rel => exact ⟨m + 1, c9, q, A9, _, rfl, by go_num, by omega, by omega, HL9⟩
      case measure => simp [intOf]
    · obtain rfl : z = 0 := by omega
      go_wp2_with fail
      refine (CN.out _ 24 HL.out.src (by omega) (by omega)).mono ?_
      rintro e w3 ⟨y, hy0, hy1, rfl, hS3, hg3⟩
      have HL3 := Lib.hid (HL.out.next hS3 hg3)
      clear hS3 hg3 HL hy1
      have hm9 : m ≤ 9 := by omega
      obtain ⟨g, cc, he, hg1, hgl⟩ := HL3.out.1.form (show 0 < m by omega)
      obtain ⟨rfl, rfl⟩ : A = some ⟨g, 0, none⟩ ∧ c = cc := by injection he with h1 h2 h3; exact ⟨h1, h3⟩
      clear he
      by_cases h0 : y = 0
      · subst h0
        have e1 : (0 : Int) ≤ (m : Int) - 1 := by omega
        have HL4 := Lib.hid (HL3.out.alloc (.cells #[.int .i64 ((m : Int) - 1), .int .i64 (-1), .int .i64 30] 2))
        have HR := Lib.hid (rowLit w3 [(m : Int) - 1, -1, 30] (-1) 100 (by intro v hv; simp at hv; omega) 2)
        have hne : w3.heap.size ≠ B := by have := HL3.out.src.lt; omega
        have CP := Lib.hid (cPick B len w3.heap.size 3 3 (-1) 100 _ hlen (by omega) (by omega) hne HR.out HL4.out.src)
        clear HL3 HR hgl
        go_wp2_with fail
        refine CP.out.mono ?_
        rintro e w4 ⟨b, hb0, hb1, rfl, hS5, hg5⟩
        have HL5 := Lib.hid (HL4.out.next hS5 hg5)
        clear hS5 hg5 HL4 CP
        obtain ⟨k, rfl⟩ : ∃ k, m = k + 1 := ⟨m - 1, by omega⟩
        have hst := (HL5.out.1.stored k (.int .i64 b)).1
        rw [intV_setD] at hst
        have HL6 : Hid (TSt w B len (w4.setCell ⟨g, k, none⟩ (.int .i64 b)) (some ⟨g, 0, none⟩) (k + 1) c (xs.set k b)) := Lib.hid ⟨hst, Src.set1 (i := k) HL5.out.2.1 (by omega) _, grown_set1 HL5.out.2.2.1 hg1 _, hlt⟩
        have f0 := HL5.out.1.frozenAt k
        have c0 := HL5.out.1.cellAt k (by omega)
        obtain ⟨v0, d0⟩ : ∃ u, w4.cell? ⟨g, k, none⟩ = some u := ⟨_, c0.trans (List.getElem?_eq_getElem (by have := HL5.out.1.1; omega))⟩
        have e2 : ((k + 1 : Nat) : Int) - 1 = (k : Int) := by omega
        have e3 : (0 : Int) ≤ (k : Int) := by omega
        have e4 : (k : Int) < ((k + 1 : Nat) : Int) := by omega
        clear hst c0 HL5
        try rw [e2] at *
        go_wp2_with fail
        go_ret
        exact HL6.out.post (by omega)
      have d0 : (y == 0) = false := by rw [beq_eq_false_iff_ne]; exact h0
      by_cases h1 : y = 1
      · subst h1
        have hp := own_prefix10 HL3.out.1 (show 0 ≤ m by omega)
        rw [intV_takeD] at hp
        have HP : Hid (TSt w B len w3 (some ⟨g, 0, none⟩) 0 c (xs.take 0)) := Lib.hid ⟨hp, HL3.out.2.1, HL3.out.2.2.1, hlt⟩
        have hc0 : 0 ≤ c := Nat.zero_le _
        clear hp
        go_wp2_with fail
        go_ret
        exact HP.out.post (by omega)
      have d1 : (y == 1) = false := by rw [beq_eq_false_iff_ne]; exact h1
      by_cases h2 : y = 2
      · subst h2
        go_wp2_with fail
        go_loopw [3] (fun ov wr => ∃ (m c : Nat) (A : Option Addr) (xs : List Int), ov = .slice A m c ∧ m ≤ 21 ∧ Hid (TSt w B len wr A m c xs)) (fun ov _ => 21 - (match ov with | .slice _ m _ => m | _ => 0))
        case atStart => exact ⟨m, c, _, xs, rfl, by omega, HL3⟩
        case round =>
          clear HL3 hg1 hgl hm9 hm1 hmz
          obtain ⟨m, c, A, xs, rfl, hm, HL⟩ := hrel
          go_wp2_with fail
          refine (CN.out _ 2 HL.out.src (by omega) (by omega)).mono ?_
          rintro e w4 ⟨y, hy0, hy1, rfl, hS4, hg4⟩
          have HL4 := Lib.hid (HL.out.next hS4 hg4)
          clear hS4 hg4 HL
          have hy2 : y ≤ 1 := by omega
          by_cases hlt2 : (m : Int) < 20 + y
          · go_wp2_with (at_builtin; refine wpList_app10 HL4.out rfl _ _ rfl rfl rfl (by omega) ?_; intro A9 c9 w9 hl9; have HL9 := Lib.hid hl9; clear hl9)
            go_roundw
            case rel => exact ⟨m + 1, c9, A9, _, rfl, by omega, HL9⟩
            case measure => simp; omega
          · go_wp2_with fail
            go_ret
            exact HL4.out.post hm
      · have d2 : (y == 2) = false := by rw [beq_eq_false_iff_ne]; exact h2
        go_wp2_with fail
        go_ret
        exact HL3.out.post (by omega)

/-- A drawn number. -/
def ClsPost (w : World) (B len : Nat) (e : Ending) (w' : World) : Prop := ∃ r : Int, e = .returned (.int .i64 r) ∧ Src w' B len ∧ w.grownBy w' (some B)
set_option maxHeartbeats 1000000 in
set_option maxRecDepth 100000 in
theorem cClass10 (B len : Nat) (A : Option Addr) (n c : Nat) (w : World) (hlen : len ≤ 1048576) (hn : n ≤ 1000) (h : Src w B len) :
    Calls Tryz.prog 93 #[.pointer (some ⟨B, 0, none⟩), .slice A n c] w (ClsPost w B len) := by
  have CN := Lib.hid (fun (V : World) (n : Int) (hV : Src V B len) (h1 : -1000000000 ≤ n) (h2 : n ≤ 10000000000) => cNext B len n V hlen h1 h2 hV)
  have HS := Lib.hid h
  clear h
  go_enter Tryz.func93, Tryz.ntmps93
  go_wp2_with fail
  refine (CN.out _ 12 HS.out (by omega) (by omega)).mono ?_
  rintro e w2 ⟨r, hr0, hr1, rfl, hS2, hg2⟩
  obtain ⟨q, hq⟩ : ∃ q, q = r.tdiv 11 := ⟨_, rfl⟩
  have hq1 : 0 ≤ q ∧ q ≤ 1 := by rw [hq, Int.tdiv_eq_ediv_of_nonneg hr0]; omega
  have HS2 := Lib.hid hS2
  have HG2 := Lib.hid hg2
  clear hS2 hg2 hr1
  go_wp2_with fail
  refine (CN.out _ _ HS2.out (by omega) (by omega)).mono ?_
  rintro e w3 ⟨r3, hr30, hr31, rfl, hS3, hg3⟩
  have HS3 := Lib.hid hS3
  have HG3 := Lib.hid (HG2.out.trans hg3)
  clear hS3 hg3 hr31
  go_wp2_with fail
  refine (CN.out _ 12 HS3.out (by omega) (by omega)).mono ?_
  rintro e w4 ⟨r4, hr40, hr41, rfl, hS4, hg4⟩
  have HS4 := Lib.hid hS4
  have HG4 := Lib.hid (HG3.out.trans hg4)
  clear hS4 hg4
  go_wp2_with fail
  go_ret
  exact ⟨_, rfl, HS4.out, HG4.out⟩
end
end Go.Proofs.YtglmibmjbignbaaGreatDoor
