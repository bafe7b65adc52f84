/-
  The contracts of SubclassesOf: the program's recursive closure and its sort, and the reference.
-/
import Derived.Test.YtlogbgkbdjdkkaaTr10L
import Derived.Test.YtlogbgkbdjdkkaaSort10
import Derived.Test.YtlogbgkbdjdkkaaDpPlain
namespace Go.Proofs.Ytlogbgkbdjdkkaa
set_option linter.unusedVariables false
open Go.RowKit

def sbZ (xs : List Int) (a : Int) : List Int := if clsC xs [a] = 0 then subU xs a xs.length else []
theorem sbZ_yes {xs : List Int} {a : Int} (h : clsC xs [a] = 0) : sbZ xs a = subU xs a xs.length := if_pos h
theorem sbZ_no {xs : List Int} {a : Int} (h : clsC xs [a] ≠ 0) : sbZ xs a = [] := if_neg h
theorem sbZ_len (xs : List Int) (a : Int) : (sbZ xs a).length ≤ 20 := by
  by_cases h : clsC xs [a] = 0
  · rw [sbZ_yes h]
    have := sub_len xs a xs.length
    have := (clsC_one h).1.le
    omega
  · rw [sbZ_no h]; exact Nat.zero_le _

set_option maxHeartbeats 1000000 in
set_option maxRecDepth 100000 in
theorem cSubclassesOf_spec (A : Option Addr) (n c : Nat) (xs : List Int) (a : Int) (w : World) (hb : n ≤ 1048576) (h : NumAt w w.heap.size A n xs) :
    Calls Try.prog 25 #[.slice A n c, .int .i64 a] w (Out10 (sbZ xs a) (clsC xs [a]) w) := by
  have CC := Lib.hid (cCode1 A n c xs a w hb h)
  have HL := Lib.hid h.1
  by_cases h0 : clsC xs [a] = 0
  · rw [sbZ_yes h0]
    rw [h0] at CC ⊢
    have hT := (clsC_one h0).1
    have CK : Hid (∀ (V : World) (k : Nat), k < n → Below w.heap.size w V → Calls Try.prog 53 #[.slice A n c, .int .i64 (k : Int)] V (OutR (upF xs (k : Int)) V)) := Lib.hid (fun V k hk hV => cKinds_spec A n c w.heap.size xs k V hT (by have := h.1; omega) hV.size (h.below hV (Nat.le_refl _)))
    have CH : Hid (∀ (B k : Nat) (A1 : Option Addr) (n1 c1 : Nat) (V : World), k < n → V.ownsRow B 2 1 (.slice A1 n1 c1) n1 (intV (upF xs (k : Int))) → Calls Try.prog 59 #[.slice A1 n1 c1, .int .i64 a] V fun e w' => e = .returned (.bool (decide (a ∈ upF xs (k : Int)))) ∧ V = w') := Lib.hid (fun B k A1 n1 c1 V hk hV => cHas10 A1 n1 c1 V.heap.size _ a V (by have h1 := hV.1; rw [intV_len] at h1; have h2 := (upF_len hT k (by have := h.1; omega)).2; have h3 := hT.le; have h4 := h.1; unfold maxLen; omega) (own_num hV))
    have hn : n ≤ 20 := by rw [h.1]; exact hT.le
    unfold OutR at CK
    clear h h0 hT
    go_enter Try.func25, Try.ntmps25
    go_wp2_with (go_at_call 50; refine CC.out.mono ?_; rintro e w1 ⟨rfl, hb1⟩; have HB1 := Lib.hid hb1; clear hb1)
    go_loopw [7, 8] (fun v i wr => ∃ (A1 : Option Addr) (m c1 k : Nat), v = .slice A1 m c1 ∧ m ≤ k ∧ k ≤ n ∧ i = .int .i64 k ∧ Hid (Acc w1.heap.size w wr A1 m c1 (subU xs a k))) (fun _ i _ => n - (intOf i).toNat)
    case atStart => exact ⟨_, 0, _, 0, rfl, Nat.le_refl _, Nat.zero_le _, rfl, Lib.hid (Acc.lit2 HB1.out)⟩
    case round =>
      obtain ⟨A1, m, c1, k, rfl, hm, hk, rfl, HC⟩ := hrel
      by_cases hlt : k < n
      · have CX := Lib.hid (CK.out wr k hlt HC.out.2.1)
        have CY := Lib.hid (fun B A1 n1 c1 V hV => CH.out B k A1 n1 c1 V hlt hV)
        have e1 : (0 : Int) ≤ (k : Int) := by omega
        have e2 : (k : Int) < (n : Int) := by omega
        by_cases hx : a ∈ upF xs (k : Int)
        · rw [decide_eq_true hx] at CY
          have HU := Lib.hid (sub_yes hx)
          clear hx
          obtain ⟨ks, hks⟩ : ∃ ks, ks = upF xs (k : Int) := ⟨_, rfl⟩
          rw [← hks] at CX CY
          clear hks
          go_wp2_with (first
            | (go_at_call 53; refine CX.out.mono ?_; rintro e w2 ⟨A2, n2, c2, rfl, hO2, hb2⟩; have HO2 := Lib.hid hO2; have HC2 := Lib.hid (HC.out.next hb2); clear hO2 hb2)
            | (go_at_call 59; refine (CY.out _ _ _ _ _ HO2.out).mono ?_; rintro e w' ⟨rfl, rfl⟩)
            | (at_builtin; refine wpList_acc HC2.out rfl _ _ rfl rfl rfl (by omega) ?_; intro A9 c9 w9 hl9 hs9; have HC9 := Lib.hid hl9; clear hl9 hs9))
          go_roundw
          case rel => exact ⟨A9, m + 1, c9, k + 1, rfl, by omega, by omega, by go_num, Lib.hid (by rw [HU.out]; exact HC9.out)⟩
          case measure => simp [intOf]; omega
        · rw [decide_eq_false hx] at CY
          have HU := Lib.hid (sub_no hx)
          clear hx
          obtain ⟨ks, hks⟩ : ∃ ks, ks = upF xs (k : Int) := ⟨_, rfl⟩
          rw [← hks] at CX CY
          clear hks
          go_wp2_with (first
            | (go_at_call 53; refine CX.out.mono ?_; rintro e w2 ⟨A2, n2, c2, rfl, hO2, hb2⟩; have HO2 := Lib.hid hO2; have HC2 := Lib.hid (HC.out.next hb2); clear hO2 hb2)
            | (go_at_call 59; refine (CY.out _ _ _ _ _ HO2.out).mono ?_; rintro e w' ⟨rfl, rfl⟩))
          go_roundw
          case rel => exact ⟨A1, m, c1, k + 1, rfl, by omega, by omega, by go_num, Lib.hid (by rw [HU.out]; exact HC2.out)⟩
          case measure => simp [intOf]; omega
      · have HE : Hid (xs.length = k) := Lib.hid (by have := HL.out; omega)
        go_wp2_with fail
        go_ret2
        exact ⟨A1, m, c1, rfl, by rw [HE.out]; exact HC.out.row, HC.out.2.1⟩
  · rw [sbZ_no h0]
    obtain ⟨d, hd⟩ : ∃ d, d = clsC xs [a] := ⟨_, rfl⟩
    rw [← hd] at CC h0 ⊢
    have d1 : (d != 0) = true := by simp; exact h0
    have d2 : (d == 0) = false := by simp; exact h0
    clear h h0 hd
    go_enter Try.func25, Try.ntmps25
    go_wp2_with (go_at_call 50; refine CC.out.mono ?_; rintro e w1 ⟨rfl, hb1⟩; have HB1 := Lib.hid hb1; clear hb1)
    go_ret2
    exact Out10.nil rfl HB1.out

/-- The closure's value, out of the blocks that it captures. -/
def cloV (F T K : Nat) : Value := .func (.func 66) #[] #[.pointer (some ⟨F, 0, none⟩), .pointer (some ⟨T, 0, none⟩), .pointer (some ⟨K, 0, none⟩)]
/-- What the walk down holds: u is what the variable 'found' holds, ys what the row holds. -/
structure Dn (w : World) (F T K R : Nat) (tv : Value) (V : World) (u : Value) (A : Option Addr) (m c : Nat) (ys : List Int) : Prop where
  own : V.ownsRow R 2 1 (.slice A m c) m (intV ys)
  fb : TabAt V F 24 #[u]
  tb : TabAt V T 24 #[tv]
  kb : TabAt V K 57 #[cloV F T K]
  bel : Below w.heap.size w V
  lo : w.heap.size ≤ T ∧ T < R ∧ w.heap.size ≤ F ∧ F < R ∧ K < R ∧ F ≠ T ∧ F ≠ K
theorem Dn.alloc {w V : World} {F T K R m c : Nat} {tv u : Value} {A : Option Addr} {ys : List Int} (h : Dn w F T K R tv V u A m c ys) (o : Obj) : Dn w F T K R tv (V.alloc o) u A m c ys :=
  ⟨h.own.alloc _, h.fb.alloc _, h.tb.alloc _, h.kb.alloc _, h.bel.alloc h.bel.size _, h.lo⟩
theorem Dn.fc {w V : World} {F T K R m c : Nat} {tv u : Value} {A : Option Addr} {ys : List Int} (h : Dn w F T K R tv V u A m c ys) : V.cell? ⟨F, 0, none⟩ = some u := (h.fb.cell 0).trans rfl
theorem Dn.tc {w V : World} {F T K R m c : Nat} {tv u : Value} {A : Option Addr} {ys : List Int} (h : Dn w F T K R tv V u A m c ys) : V.cell? ⟨T, 0, none⟩ = some tv := (h.tb.cell 0).trans rfl
theorem Dn.kc {w V : World} {F T K R m c : Nat} {tv u : Value} {A : Option Addr} {ys : List Int} (h : Dn w F T K R tv V u A m c ys) : V.cell? ⟨K, 0, none⟩ = some (cloV F T K) := (h.kb.cell 0).trans rfl
theorem grown_set10 (w : World) (B i : Nat) (u : Value) : w.grownBy (w.setCell ⟨B, i, none⟩ u) (some B) :=
  ⟨rfl, rfl, rfl, by simp, fun k hk hne => Below.heap_setCell w _ u k (fun e => hne (by rw [e]))⟩
theorem tab_grown10 {w w' : World} {g : Nat} {t : TypeId} {cs : Array Value} {r : Option Nat} (h : TabAt w g t cs) (hg : w.grownBy w' r) (hne : ∀ k, r = some k → k ≠ g) : TabAt w' g t cs := (hg.block g h.lt (fun e => hne g e.symm rfl)).trans h
theorem Dn.put {w V : World} {F T K R m c : Nat} {tv u u' : Value} {A : Option Addr} {ys : List Int} (h : Dn w F T K R tv V u A m c ys) : Dn w F T K R tv (V.setCell ⟨F, 0, none⟩ u') u' A m c ys := by
  have hg := grown_set10 V F 0 u'
  obtain ⟨l1, l2, l3, l4, l5, l6, l7⟩ := h.lo
  refine ⟨h.own.kept hg (.inr (fun e => ?_)), ?_, tab_grown10 h.tb hg (fun k hk => by cases hk; exact l6), tab_grown10 h.kb hg (fun k hk => by cases hk; exact l7), h.bel.setCell (by exact l3) _, h.lo⟩
  · have := (h.own.lt F e).1; omega
  · exact h.fb.set 0 u'
theorem wpList_dn {ops : Array Oper} {rest : List Oper} {o : Oper} {a : Act} {Q : Exit → Act → World → Prop} {w V : World} {F T K R m c : Nat} {tv u : Value} {A : Option Addr} {ys : List Int} {y : Int} (hL : Dn w F T K R tv V u A m c ys) (hgd : o.guard = none) (s x : Operand)
    (ho : o.op = .call { callee := .builtin .append, args := #[s, x], argTypes := #[24, 24] }) (hs : a.eval s = .slice A m c) (hx : a.eval x = .slice (some ⟨V.heap.size, 0, none⟩) 1 1) (hm : m ≤ 1048576) (hR : R ≤ V.heap.size)
    (h : ∀ (A' : Option Addr) (c' : Nat) (w' : World), Dn w F T K R tv w' u A' (m + 1) c' (ys ++ [y]) → V.heap.size ≤ w'.heap.size → wpList Try.prog ops Q rest (a.put o.dst (.slice A' (m + 1) c')) w') : wpList Try.prog ops Q (o :: rest) a (V.alloc (.cells #[.int .i64 y] 2)) := by
  obtain ⟨i0, hi0, hz0, hz1, hz2⟩ := info_parts info_i64
  refine wpList_append_own _ hgd s x 24 ho R 2 i0 _ 1 8 Try.underlying24 hi0 hz0 hz1 hz2 rfl (by decide) _ m (intV ys) hs (hL.own.alloc _) ⟨V.heap.size, 0, none⟩ 1 1 [.int .i64 y] hx rfl (one_cell' _ _ _ (new_one V _ _)) (fun u hu => by simp at hu; subst hu; rfl) (by unfold maxLen; omega) (by omega) (by simp; omega) ?_
  intro v' w' h1 h2 _
  rw [intV_snoc] at h1
  obtain ⟨g2, c2, rfl, _, _⟩ := h1.form (Nat.succ_pos _)
  have hs2 := h2.size
  simp at hs2
  obtain ⟨l1, l2, l3, l4, l5, l6, l7⟩ := hL.lo
  have hk : ∀ k, (Value.slice A m c).ownBlock = some k → R ≤ k := fun k hk => (hL.own.lt k hk).1
  exact h _ c2 w' ⟨h1, tab_grown10 (hL.fb.alloc _) h2 (fun k e => by have := hk k e; omega), tab_grown10 (hL.tb.alloc _) h2 (fun k e => by have := hk k e; omega), tab_grown10 (hL.kb.alloc _) h2 (fun k e => by have := hk k e; omega),
    below_own (B := R) (hL.bel.alloc hL.bel.size _) h2 (fun k e => by have := hk k e; omega), hL.lo⟩ (by omega)
theorem kids_le (xs : List Int) (f c : Nat) : ∀ (j k : Nat), k ≤ j → (kidsU xs f c k).length ≤ (kidsU xs f c j).length := by
  intro j
  induction j with
  | zero => intro k h; obtain rfl : k = 0 := by omega
            exact Nat.le_refl _
  | succ j ih =>
    intro k h
    by_cases e : k = j + 1
    · subst e; exact Nat.le_refl _
    · refine Nat.le_trans (ih k (by omega)) ?_
      unfold kidsU
      rw [List.range_succ, List.flatMap_append, List.length_append]
      omega

/-- What the closure leaves: the row has grown by the walk down. -/
def DnOut (w : World) (F T K R : Nat) (tv : Value) (V : World) (zs : List Int) (e : Ending) (V' : World) : Prop :=
  e = .returned (.tuple #[]) ∧ ∃ A m c, Dn w F T K R tv V' (.slice A m c) A m c zs ∧ V.heap.size ≤ V'.heap.size
set_option maxHeartbeats 1000000 in
set_option maxRecDepth 100000 in
theorem cWalk (A : Option Addr) (n c : Nat) (xs : List Int) (w : World) (hT : Tree xs) (h : NumAt w w.heap.size A n xs) (F T K R : Nat) :
    ∀ (f q : Nat) (V : World) (A1 : Option Addr) (m c1 : Nat) (ys : List Int), xs.length ≤ f + q → q < xs.length → ys.length + (dfs xs f q).length ≤ 1000 → R ≤ V.heap.size → Dn w F T K R (.slice A n c) V (.slice A1 m c1) A1 m c1 ys →
    Calls Try.prog 66 #[.int .i64 (q : Int), .pointer (some ⟨F, 0, none⟩), .pointer (some ⟨T, 0, none⟩), .pointer (some ⟨K, 0, none⟩)] V (DnOut w F T K R (.slice A n c) V (ys ++ dfs xs f q)) := by
  have HL := Lib.hid h.1
  have H : Hid (∀ V, Below w.heap.size w V → NumAt V w.heap.size A n xs) := Lib.hid (fun V hV => h.below hV (Nat.le_refl _))
  have HT := Lib.hid hT
  have hn : n ≤ 20 := by rw [h.1]; exact hT.le
  clear h hT
  intro f
  induction f with
  | zero => intro q V A1 m c1 ys h1 h2; omega
  | succ f ih =>
    intro q V A1 m c1 ys h1 h2 h3 hR hD
    have HIH := Lib.hid ih
    have H1 := Lib.hid h1
    have H3 := Lib.hid h3
    have HD := Lib.hid hD
    have hq : q < n := by have := HL.out; omega
    have hm : m ≤ 1000 := by have h4 := hD.own.1; rw [intV_len] at h4; omega
    have hf0 := hD.fc
    have hfz := hD.fb.frozen 0
    clear ih h1 h2 h3 hD
    go_enter Try.func66, Try.ntmps66
    go_wp2_with (at_builtin; refine wpList_dn HD.out rfl _ _ rfl rfl rfl (by omega) hR ?_; intro A9 c9 w9 hl9 hs9; have HC9 := Lib.hid hl9; have HP9 := Lib.hid (hl9.put (u' := .slice A9 (m + 1) c9)); have hf9 := hl9.fc; have hz9 := hl9.fb.frozen 0; have ht9 := HP9.out.tc; clear hl9)
    have HS9 : Hid (V.heap.size ≤ (w9.setCell ⟨F, 0, none⟩ (.slice A9 (m + 1) c9)).heap.size) := Lib.hid (by simp; exact hs9)
    clear hf0 hfz hf9 hz9 hs9 HC9 HD
    go_loopw [5, 6, 13] (fun u p i wr => ∃ (u1 p1 : Value) (A2 : Option Addr) (m2 c2 k : Nat), u1 = u ∧ p1 = p ∧ k ≤ n ∧ i = .int .i64 k ∧ Hid (Dn w F T K R (.slice A n c) wr (.slice A2 m2 c2) A2 m2 c2 (ys ++ (q : Int) :: kidsU xs f q k)) ∧ Hid (V.heap.size ≤ wr.heap.size)) (fun _ _ i _ => n - (intOf i).toNat)
    case atStart => exact ⟨_, _, A9, m + 1, c9, 0, rfl, rfl, Nat.zero_le _, rfl, Lib.hid (by rw [kids_zero]; exact HP9.out), HS9⟩
    case round =>
      clear HP9 HS9 ht9
      obtain ⟨u1, p1, A2, m2, c2, k, rfl, rfl, hk, rfl, HC, HS⟩ := hrel
      by_cases hlt : k < n
      · obtain ⟨x, hx⟩ := (H.out wr HC.out.bel).get hlt
        obtain ⟨b, o, rfl, _, hcx⟩ := (H.out wr HC.out.bel).row hx
        have e1 : (0 : Int) ≤ (k : Int) := by omega
        have e2 : (k : Int) < (n : Int) := by omega
        have HX := Lib.hid hx
        clear hx
        by_cases he : x = (q : Int)
        · subst he
          have d1 : ((q : Int) == (q : Int)) = true := by simp
          have HY := Lib.hid (kids_yes (f := f) HX.out)
          have hkc := HC.out.kc
          unfold cloV at hkc
          have CW := Lib.hid (HIH.out k wr A2 m2 c2 (ys ++ (q : Int) :: kidsU xs f q k) (by have := kid_gt HT.out HX.out; have := H1.out; omega) (by have := HL.out; omega) (by
            have h4 := H3.out
            rw [dfs_succ, List.length_cons] at h4
            have h5 := kids_le xs f q xs.length (k + 1) (by have := HL.out; omega)
            rw [HY.out, List.length_append] at h5
            rw [List.length_append, List.length_cons]
            omega) (Nat.le_trans hR HS.out) HC.out)
          go_wp2_with (go_at_call 66; refine CW.out.mono ?_; rintro e w3 ⟨rfl, A3, m3, c3, hD3, hs3⟩; have HD3 := Lib.hid hD3; have HS3 := Lib.hid (Nat.le_trans HS.out hs3); clear hD3 hs3)
          go_roundw
          case rel => exact ⟨_, _, A3, m3, c3, k + 1, rfl, rfl, by omega, by go_num, Lib.hid (by rw [HY.out]; have := HD3.out; rwa [List.append_assoc, List.cons_append] at this), HS3⟩
          case measure => simp [intOf]; omega
        · have HY := Lib.hid (kids_no (f := f) HX.out he)
          have d1 : (x == (q : Int)) = false := by rw [beq_eq_false_iff_ne]; exact he
          clear he
          go_wp2_with fail
          go_roundw
          case rel => exact ⟨_, _, A2, m2, c2, k + 1, rfl, rfl, by omega, by go_num, Lib.hid (by rw [HY.out]; exact HC.out), HS⟩
          case measure => simp [intOf]; omega
      · have HE : Hid (xs.length = k) := Lib.hid (by have := HL.out; omega)
        go_wp2_with fail
        go_end0
        exact ⟨rfl, A2, m2, c2, by rw [dfs_succ, HE.out]; exact HC.out, HS.out⟩
end Go.Proofs.Ytlogbgkbdjdkkaa
