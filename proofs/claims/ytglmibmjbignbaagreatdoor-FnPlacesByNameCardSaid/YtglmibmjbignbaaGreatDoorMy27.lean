/-
  The contract of slices.Sort at a row of numbers of one's own.
-/
import Derived.Test.YtglmibmjbignbaaGreatDoorShelf10
import Derived.Test.YtglmibmjbignbaaGreatDoorMy6
import Derived.Sort.OwnSortedInts
import Derived.Test.YtglmibmjbignbaaGreatDoorMy26
import Derived.Test.YtglmibmjbignbaaGreatDoorMy1
import Derived.Laws.EntriesVeiled
import Derived.Test.YtglmibmjbignbaaGreatDoorMy23
namespace Go.Proofs.YtglmibmjbignbaaGreatDoor
section
set_option linter.unusedVariables false
open Go.RowKit Go.Sort

def Srt10 (A : Option Addr) (n c base : Nat) (xs : List Int) (w : World) (e : Ending) (w' : World) : Prop :=
  e = .returned (.tuple #[]) ∧ w'.ownsRow base 2 1 (.slice A n c) n (intV (xs.mergeSort fun x y => decide (x ≤ y))) ∧ w.grownBy w' (Value.slice A n c).ownBlock
theorem tSort10 (A : Option Addr) (n c base : Nat) (xs : List Int) (w : World) (hbig : n ≤ 1048576) (h : w.ownsRow base 2 1 (.slice A n c) n (intV xs)) :
    Calls Tryz.prog 144 #[.slice A n c] w (Srt10 A n c base xs w) := by
  have hl : n = xs.length := by have := h.1; rw [intV_len] at this; omega
  rcases Nat.eq_zero_or_pos n with rfl | hp
  · have h1 := AnyG.slices_Sort_int_none Tryz.sortI A c w
    change Calls Tryz.prog 144 _ _ _ at h1
    refine h1.mono ?_
    rintro e w' ⟨rfl, rfl⟩
    have hx2 : xs = [] := List.eq_nil_of_length_eq_zero hl.symm
    subst hx2
    exact ⟨rfl, by rw [show (([] : List Int).mergeSort fun x y => decide (x ≤ y)) = [] from by simp]; exact h, World.grownBy.refl _ _⟩
  · rcases h.2 with ⟨_, h0⟩ | ⟨g, cap, cur, hv, h1, h2, h3, h4, h5, h6⟩
    · omega
    cases hv
    rw [Nat.mul_one] at h6
    have hH := holds_of_blockI (ss := xs) h2 (by rw [← hl]; exact h6)
    have k := AnyG.slices_Sort_int Tryz.sortI g 0 c xs w hH (Array.getElem?_eq_some_iff.1 h2).1 (by omega)
    rw [← hl] at k
    change Calls Tryz.prog 144 _ _ _ at k
    refine k.mono ?_
    rintro e w' ⟨rfl, q, os, rfl⟩
    have ho := ownsRow_sortedI (n := q) (os := os) (ss := xs) (ts := xs.mergeSort fun x y => decide (x ≤ y)) (List.length_mergeSort ..) h1 h2 (by omega) h4 h5
    rw [← hl] at ho
    exact ⟨rfl, ho, grownBy_sortedI _⟩
end
section
set_option linter.unusedVariables false
open Go.RowKit

def sbZ (xs : List Int) (a : Int) : List Int := if clsC xs [a] = 0 then subU xs a xs.length else []
theorem sbZ_yes {xs : List Int} {a : Int} (h : clsC xs [a] = 0) : sbZ xs a = subU xs a xs.length := if_pos h
theorem sbZ_no {xs : List Int} {a : Int} (h : clsC xs [a] ≠ 0) : sbZ xs a = [] := if_neg h
theorem sbZ_len (xs : List Int) (a : Int) : (sbZ xs a).length ≤ 20 := by
  by_cases h : clsC xs [a] = 0
  · rw [sbZ_yes h]
    have := sub_len xs a xs.length
    have := (clsC_one h).1.le
    omega
  · rw [sbZ_no h]; exact Nat.zero_le _

/-- The closure's value, out of the blocks that it captures. -/
def cloV (F T K : Nat) : Value := .func (.func 143) #[] #[.pointer (some ⟨F, 0, none⟩), .pointer (some ⟨T, 0, none⟩), .pointer (some ⟨K, 0, none⟩)]
/-- What the walk down holds: u is what the variable 'found' holds, ys what the row holds. -/
structure Dn (w : World) (F T K R : Nat) (tv : Value) (V : World) (u : Value) (A : Option Addr) (m c : Nat) (ys : List Int) : Prop where
  own : V.ownsRow R 2 1 (.slice A m c) m (intV ys)
  fb : TabAt V F 49 #[u]
  tb : TabAt V T 49 #[tv]
  kb : TabAt V K 153 #[cloV F T K]
  bel : Below w.heap.size w V
  lo : w.heap.size ≤ T ∧ T < R ∧ w.heap.size ≤ F ∧ F < R ∧ K < R ∧ F ≠ T ∧ F ≠ K
theorem Dn.alloc {w V : World} {F T K R m c : Nat} {tv u : Value} {A : Option Addr} {ys : List Int} (h : Dn w F T K R tv V u A m c ys) (o : Obj) : Dn w F T K R tv (V.alloc o) u A m c ys :=
  ⟨h.own.alloc _, h.fb.alloc _, h.tb.alloc _, h.kb.alloc _, h.bel.alloc h.bel.size _, h.lo⟩
theorem Dn.fc {w V : World} {F T K R m c : Nat} {tv u : Value} {A : Option Addr} {ys : List Int} (h : Dn w F T K R tv V u A m c ys) : V.cell? ⟨F, 0, none⟩ = some u := (h.fb.cell 0).trans rfl
theorem Dn.tc {w V : World} {F T K R m c : Nat} {tv u : Value} {A : Option Addr} {ys : List Int} (h : Dn w F T K R tv V u A m c ys) : V.cell? ⟨T, 0, none⟩ = some tv := (h.tb.cell 0).trans rfl
theorem Dn.kc {w V : World} {F T K R m c : Nat} {tv u : Value} {A : Option Addr} {ys : List Int} (h : Dn w F T K R tv V u A m c ys) : V.cell? ⟨K, 0, none⟩ = some (cloV F T K) := (h.kb.cell 0).trans rfl
theorem grown_set10 (w : World) (B i : Nat) (u : Value) : w.grownBy (w.setCell ⟨B, i, none⟩ u) (some B) :=
  ⟨rfl, rfl, rfl, by simp, fun k hk hne => Below.heap_setCell w _ u k (fun e => hne (by rw [e]))⟩
theorem tab_grown10 {w w' : World} {g : Nat} {t : TypeId} {cs : Array Value} {r : Option Nat} (h : TabAt w g t cs) (hg : w.grownBy w' r) (hne : ∀ k, r = some k → k ≠ g) : TabAt w' g t cs := (hg.block g h.lt (fun e => hne g e.symm rfl)).trans h
theorem Dn.put {w V : World} {F T K R m c : Nat} {tv u u' : Value} {A : Option Addr} {ys : List Int} (h : Dn w F T K R tv V u A m c ys) : Dn w F T K R tv (V.setCell ⟨F, 0, none⟩ u') u' A m c ys := by
  have hg := grown_set10 V F 0 u'
  obtain ⟨l1, l2, l3, l4, l5, l6, l7⟩ := h.lo
  refine ⟨h.own.kept hg (.inr (fun e => ?_)), ?_, tab_grown10 h.tb hg (fun k hk => by cases hk; exact l6), tab_grown10 h.kb hg (fun k hk => by cases hk; exact l7), h.bel.setCell (by exact l3) _, h.lo⟩
  · have := (h.own.lt F e).1; omega
  · exact h.fb.set 0 u'
theorem wpList_dn {ops : Array Oper} {rest : List Oper} {o : Oper} {a : Act} {Q : Exit → Act → World → Prop} {w V : World} {F T K R m c : Nat} {tv u : Value} {A : Option Addr} {ys : List Int} {y : Int} (hL : Dn w F T K R tv V u A m c ys) (hgd : o.guard = none) (s x : Operand)
    (ho : o.op = .call { callee := .builtin .append, args := #[s, x], argTypes := #[49, 49] }) (hs : a.eval s = .slice A m c) (hx : a.eval x = .slice (some ⟨V.heap.size, 0, none⟩) 1 1) (hm : m ≤ 1048576) (hR : R ≤ V.heap.size)
    (h : ∀ (A' : Option Addr) (c' : Nat) (w' : World), Dn w F T K R tv w' u A' (m + 1) c' (ys ++ [y]) → V.heap.size ≤ w'.heap.size → wpList Tryz.prog ops Q rest (a.put o.dst (.slice A' (m + 1) c')) w') : wpList Tryz.prog ops Q (o :: rest) a (V.alloc (.cells #[.int .i64 y] 2)) := by
  obtain ⟨i0, hi0, hz0, hz1, hz2⟩ := info_parts info_i64
  refine wpList_append_own _ hgd s x 49 ho R 2 i0 _ 1 8 Tryz.underlying49 hi0 hz0 hz1 hz2 rfl (by decide) _ m (intV ys) hs (hL.own.alloc _) ⟨V.heap.size, 0, none⟩ 1 1 [.int .i64 y] hx rfl (one_cell' _ _ _ (new_one V _ _)) (fun u hu => by simp at hu; subst hu; rfl) (by unfold maxLen; omega) (by omega) (by simp; omega) ?_
  intro v' w' h1 h2 _
  rw [intV_snoc] at h1
  obtain ⟨g2, c2, rfl, _, _⟩ := h1.form (Nat.succ_pos _)
  have hs2 := h2.size
  simp at hs2
  obtain ⟨l1, l2, l3, l4, l5, l6, l7⟩ := hL.lo
  have hk : ∀ k, (Value.slice A m c).ownBlock = some k → R ≤ k := fun k hk => (hL.own.lt k hk).1
  exact h _ c2 w' ⟨h1, tab_grown10 (hL.fb.alloc _) h2 (fun k e => by have := hk k e; omega), tab_grown10 (hL.tb.alloc _) h2 (fun k e => by have := hk k e; omega), tab_grown10 (hL.kb.alloc _) h2 (fun k e => by have := hk k e; omega),
    below_own (B := R) (hL.bel.alloc hL.bel.size _) h2 (fun k e => by have := hk k e; omega), hL.lo⟩ (by omega)
theorem kids_le (xs : List Int) (f c : Nat) : ∀ (j k : Nat), k ≤ j → (kidsU xs f c k).length ≤ (kidsU xs f c j).length := by
  intro j
  induction j with
  | zero => intro k h; obtain rfl : k = 0 := by omega
            exact Nat.le_refl _
  | succ j ih =>
    intro k h
    by_cases e : k = j + 1
    · subst e; exact Nat.le_refl _
    · refine Nat.le_trans (ih k (by omega)) ?_
      unfold kidsU
      rw [List.range_succ, List.flatMap_append, List.length_append]
      omega

/-- What the closure leaves: the row has grown by the walk down. -/
def DnOut (w : World) (F T K R : Nat) (tv : Value) (V : World) (zs : List Int) (e : Ending) (V' : World) : Prop :=
  e = .returned (.tuple #[]) ∧ ∃ A m c, Dn w F T K R tv V' (.slice A m c) A m c zs ∧ V.heap.size ≤ V'.heap.size
set_option maxHeartbeats 1000000 in
set_option maxRecDepth 100000 in
theorem cWalk (A : Option Addr) (n c : Nat) (xs : List Int) (w : World) (hT : Tree xs) (h : NumAt w w.heap.size A n xs) (F T K R : Nat) :
    ∀ (f q : Nat) (V : World) (A1 : Option Addr) (m c1 : Nat) (ys : List Int), xs.length ≤ f + q → q < xs.length → ys.length + (dfs xs f q).length ≤ 1000 → R ≤ V.heap.size → Dn w F T K R (.slice A n c) V (.slice A1 m c1) A1 m c1 ys →
    Calls Tryz.prog 143 #[.int .i64 (q : Int), .pointer (some ⟨F, 0, none⟩), .pointer (some ⟨T, 0, none⟩), .pointer (some ⟨K, 0, none⟩)] V (DnOut w F T K R (.slice A n c) V (ys ++ dfs xs f q)) := by
  have HL := Lib.hid h.1
  have H : Hid (∀ V, Below w.heap.size w V → NumAt V w.heap.size A n xs) := Lib.hid (fun V hV => h.below hV (Nat.le_refl _))
  have HT := Lib.hid hT
  have hn : n ≤ 20 := by rw [h.1]; exact hT.le
  clear h hT
  intro f
  induction f with
  | zero => intro q V A1 m c1 ys h1 h2; omega
  | succ f ih =>
    intro q V A1 m c1 ys h1 h2 h3 hR hD
    have HIH := Lib.hid ih
    have H1 := Lib.hid h1
    have H3 := Lib.hid h3
    have HD := Lib.hid hD
    have hq : q < n := by have := HL.out; omega
    have hm : m ≤ 1000 := by have h4 := hD.own.1; rw [intV_len] at h4; omega
    have hf0 := hD.fc
    have hfz := hD.fb.frozen 0
    clear ih h1 h2 h3 hD
    go_enter Tryz.func143, Tryz.ntmps143
    go_wp2_with (at_builtin; refine wpList_dn HD.out rfl _ _ rfl rfl rfl (by omega) hR ?_; intro A9 c9 w9 hl9 hs9; have HC9 := Lib.hid hl9; have HP9 := Lib.hid (hl9.put (u' := .slice A9 (m + 1) c9)); have hf9 := hl9.fc; have hz9 := hl9.fb.frozen 0; have ht9 := HP9.out.tc; clear hl9)
    have HS9 : Hid (V.heap.size ≤ (w9.setCell ⟨F, 0, none⟩ (.slice A9 (m + 1) c9)).heap.size) := Lib.hid (by simp; exact hs9)
    clear hf0 hfz hf9 hz9 hs9 HC9 HD
    go_loopw [5, 6, 13] (fun u p i wr => ∃ (u1 p1 : Value) (A2 : Option Addr) (m2 c2 k : Nat), u1 = u ∧ p1 = p ∧ k ≤ n ∧ i = .int .i64 k ∧ Hid (Dn w F T K R (.slice A n c) wr (.slice A2 m2 c2) A2 m2 c2 (ys ++ (q : Int) :: kidsU xs f q k)) ∧ Hid (V.heap.size ≤ wr.heap.size)) (fun _ _ i _ => n - (intOf i).toNat)
    case atStart => exact ⟨_, _, A9, m + 1, c9, 0, rfl, rfl, Nat.zero_le _, rfl, Lib.hid (by rw [kids_zero]; exact HP9.out), HS9⟩
    case round =>
      clear HP9 HS9 ht9
      obtain ⟨u1, p1, A2, m2, c2, k, rfl, rfl, hk, rfl, HC, HS⟩ := hrel
      by_cases hlt : k < n
      · obtain ⟨x, hx⟩ := (H.out wr HC.out.bel).get hlt
        obtain ⟨b, o, rfl, _, hcx⟩ := (H.out wr HC.out.bel).row hx
        have e1 : (0 : Int) ≤ (k : Int) := by omega
        have e2 : (k : Int) < (n : Int) := by omega
        have HX := Lib.hid hx
        clear hx
        by_cases he : x = (q : Int)
        · subst he
          have d1 : ((q : Int) == (q : Int)) = true := by simp
          have HY := Lib.hid (kids_yes (f := f) HX.out)
          have hkc := HC.out.kc
          unfold cloV at hkc
          have CW := Lib.hid (HIH.out k wr A2 m2 c2 (ys ++ (q : Int) :: kidsU xs f q k) (by have := kid_gt HT.out HX.out; have := H1.out; omega) (by have := HL.out; omega) (by
            have h4 := H3.out
            rw [dfs_succ, List.length_cons] at h4
            have h5 := kids_le xs f q xs.length (k + 1) (by have := HL.out; omega)
            rw [HY.out, List.length_append] at h5
            rw [List.length_append, List.length_cons]
            omega) (Nat.le_trans hR HS.out) HC.out)
          go_wp2_with (go_at_call 143; refine CW.out.mono ?_; rintro e w3 ⟨rfl, A3, m3, c3, hD3, hs3⟩; have HD3 := Lib.hid hD3; have HS3 := Lib.hid (Nat.le_trans HS.out hs3); clear hD3 hs3)
          go_roundw
          case rel => exact ⟨_, _, A3, m3, c3, k + 1, rfl, rfl, by omega, by go_num, Lib.hid (by rw [HY.out]; have := HD3.out; rwa [List.append_assoc, List.cons_append] at this), HS3⟩
          case measure => simp [intOf]; omega
        · have HY := Lib.hid (kids_no (f := f) HX.out he)
          have d1 : (x == (q : Int)) = false := by rw [beq_eq_false_iff_ne]; exact he
          clear he
          go_wp2_with fail
          go_roundw
          case rel => exact ⟨_, _, A2, m2, c2, k + 1, rfl, rfl, by omega, by go_num, Lib.hid (by rw [HY.out]; exact HC.out), HS⟩
          case measure => simp [intOf]; omega
      · have HE : Hid (xs.length = k) := Lib.hid (by have := HL.out; omega)
        go_wp2_with fail
        go_end0
        exact ⟨rfl, A2, m2, c2, by rw [dfs_succ, HE.out]; exact HC.out, HS.out⟩
end
section
set_option linter.unusedVariables false
open Go.RowKit

theorem tab_new10 {w : World} {g : Nat} (t : TypeId) (cs : Array Value) (hg : g = w.heap.size) : TabAt (w.alloc (.cells cs t)) g t cs := hg ▸ TabAt.new w t cs
/-- The world in which the walk begins. -/
def w3V (w : World) (A : Option Addr) (n c : Nat) : World := ((w.alloc (.cells #[.slice A n c] 49)).alloc (.cells #[.slice none 0 0] 49)).alloc (.cells #[cloV (w.heap.size + 1) w.heap.size (w.heap.size + 1 + 1)] 153)
theorem w3_size (w : World) (A : Option Addr) (n c : Nat) : w.heap.size + 3 ≤ (w3V w A n c).heap.size := by unfold w3V; simp
theorem w3_dn (w : World) (A : Option Addr) (n c : Nat) : Dn w (w.heap.size + 1) w.heap.size (w.heap.size + 1 + 1) (w.heap.size + 3) (.slice A n c) (w3V w A n c) (.slice none 0 0) none 0 0 [] := by
  unfold w3V
  refine ⟨World.ownsRow_nil _ _ _ _, ?_, ?_, ?_, ?_, by omega⟩
  · exact (tab_new10 _ _ (by simp)).alloc _
  · exact ((tab_new10 _ _ rfl).alloc _).alloc _
  · exact tab_new10 _ _ (by simp)
  · exact (((Below.refl _ _).alloc (Nat.le_refl _) _).alloc (by simp) _).alloc (by simp; omega) _

set_option maxHeartbeats 1000000 in
set_option maxRecDepth 100000 in
theorem cSubs (A : Option Addr) (n c : Nat) (xs : List Int) (a : Nat) (w : World) (hT : Tree xs) (ha : a < xs.length) (h : NumAt w w.heap.size A n xs) :
    Calls Tryz.prog 96 #[.slice A n c, .int .i64 (a : Int)] w (OutR (subU xs (a : Int) xs.length) w) := by
  have hmf : ∀ (fn : Fn) (first cap : Array Value) (w : World), (Instr.makeFunc fn first cap).run Tryz.prog w = .ok (.func fn first cap) w := fun _ _ _ _ => rfl
  have HE := Lib.hid (dfs_sub hT ha)
  have HDL := Lib.hid (dfs_len hT ha)
  have CW := Lib.hid (cWalk A n c xs w hT h (w.heap.size + 1) w.heap.size (w.heap.size + 1 + 1) (w.heap.size + 3) xs.length a (w3V w A n c) none 0 0 [] (by omega) ha (by have := dfs_len hT ha; have := hT.le; simp; omega) (w3_size w A n c) (w3_dn w A n c))
  have hl20 := hT.le
  rw [List.nil_append] at CW
  obtain ⟨zs, hzs⟩ : ∃ zs, zs = dfs xs xs.length a := ⟨_, rfl⟩
  rw [← hzs] at CW HE HDL
  rw [← HE.out]
  have CS : Hid (∀ (V : World) (A1 : Option Addr) (m c1 : Nat), V.ownsRow (w.heap.size + 3) 2 1 (.slice A1 m c1) m (intV zs) → Calls Tryz.prog 144 #[.slice A1 m c1] V (Srt10 A1 m c1 (w.heap.size + 3) zs V)) := Lib.hid (fun V A1 m c1 hV => tSort10 A1 m c1 _ zs V (by have h1 := hV.1; rw [intV_len] at h1; have := HDL.out; omega) hV)
  clear h hT ha hzs HE
  unfold DnOut w3V at CW
  unfold Srt10 at CS
  go_enter Tryz.func96, Tryz.ntmps96
  go_wp2_with fail
  refine CW.out.mono ?_
  rintro e w4 ⟨rfl, A4, m4, c4, hD, hs4⟩
  have HD := Lib.hid hD
  have hf := hD.fc
  have CS4 := Lib.hid (CS.out _ _ _ _ hD.own)
  clear hD hs4 CW CS
  go_wp2_with fail
  refine CS4.out.mono ?_
  rintro e w5 ⟨rfl, hO5, hg5⟩
  have HO5 := Lib.hid hO5
  have hf5 : w5.cell? ⟨w.heap.size + 1, 0, none⟩ = some (.slice A4 m4 c4) := ((tab_grown10 HD.out.fb hg5 (fun k hk => by have := (HD.out.own.lt k hk).1; omega)).cell 0).trans rfl
  have HB5 : Hid (Below w.heap.size w w5) := Lib.hid (below_own (B := 0) HD.out.bel hg5 (fun k hk => by have := (HD.out.own.lt k hk).1; omega))
  clear hO5 hg5 HD CS4 hf
  go_wp2_with fail
  go_ret
  exact ⟨A4, m4, c4, rfl, rowBase HO5.out (by omega), HB5.out⟩

end
section
set_option linter.unusedVariables false
open Go.RowKit

theorem own_numK {w : World} {base : Nat} {A : Option Addr} {m c : Nat} {zs : List Int} (h : w.ownsRow base 2 1 (.slice A m c) m (intV zs)) : NumAt w w.heap.size A m zs := own_num h
set_option maxHeartbeats 1000000 in
theorem cKd1 (p : Pl) (A K : Option Addr) (d ga gb m ck : Nat) (y : Int) (ks : List Int) (w : World) (hm : m ≤ 1048576) (hn : NmAt w w.heap.size A p.ns.length p.ns) (hY : Bx w ga [.int .i64 y]) (hK : Bx w gb [.slice K m ck]) (hks : NumAt w w.heap.size K m ks) :
    Calls Tryz.prog 97 #[enA p A d, .pointer (some ⟨ga, 0, none⟩), .pointer (some ⟨gb, 0, none⟩)] w fun e w' => e = .returned (.bool (exB p y && decide (p.k ∈ ks))) ∧ Below w.heap.size w w' := by
  obtain ⟨W0, hW0⟩ : ∃ W0 : World, W0 = w.alloc (.cells #[.slice A p.ns.length d, .string p.c, .int .i64 p.k, .int .i64 p.f, .int .i64 p.u] 87) := ⟨_, rfl⟩
  have hA : Below w.heap.size w W0 := by rw [hW0]; exact below_alloc11 _ _
  have HA := Lib.hid hA
  have HX : Hid (Bx W0 w.heap.size [.slice A p.ns.length d, .string p.c, .int .i64 p.k, .int .i64 p.f, .int .i64 p.u]) := Lib.hid (by rw [hW0]; exact Bx.new w _ _)
  have CX := Lib.hid (cExists p A d y W0)
  have CC := Lib.hid (fun W (hW : Below W0.heap.size W0 W) => cContains10 K m ck W.heap.size ks p.k W (by unfold maxLen; omega) ((hks.grow hA).grow hW))
  have HY := Lib.hid (hY.next hA)
  have HK := Lib.hid (hK.next hA)
  have HW0 := Lib.hid hW0
  obtain ⟨f0, f1, f2, f3, f4, _⟩ := HX.out.five
  have k0 := (hY.2 0 _ rfl).1
  have hl := hY.1
  clear hA hn hY hK hW0 hks
  unfold enA at CX ⊢
  obtain ⟨b, hbb⟩ : ∃ b, b = decide (p.k ∈ ks) := ⟨_, rfl⟩
  rw [← hbb] at CC ⊢
  clear hbb
  cases hx : exB p y
  · rw [hx] at CX
    clear hx CC
    go_enter Tryz.func97, Tryz.ntmps97
    go_wp2_with fail
    rw [← HW0.out]
    refine CX.out.mono ?_
    rintro e w1 ⟨rfl, g1⟩
    have hbt := bstep9 HA.out HA.out.size g1
    clear g1 f0 f1 f2 f3 f4 k0
    go_wp2_with fail
    go_ret
    exact ⟨rfl, hbt⟩
  · rw [hx] at CX
    clear hx
    go_enter Tryz.func97, Tryz.ntmps97
    go_wp2_with fail
    rw [← HW0.out]
    refine CX.out.mono ?_
    rintro e w1 ⟨rfl, g1⟩
    obtain ⟨e0, e1, e2, e3, e4, _⟩ := (HX.out.next g1).five
    have k1 := ((HK.out.next g1).2 0 _ rfl).1
    have CC1 := Lib.hid (CC.out w1 g1)
    have hbt := bstep9 HA.out HA.out.size g1
    clear g1 f0 f1 f2 f3 f4 k0
    go_wp2_with fail
    refine CC1.out.mono ?_
    rintro e w2 ⟨rfl, rfl⟩
    go_wp2_with fail
    go_ret
    exact ⟨rfl, hbt⟩
theorem below_drNK {B : Nat} {a w : World} (h : Below B a w) (n : Nat) : Below B a (w.drewN n) := ⟨h.os, h.tape, h.output, h.size, h.block⟩
set_option maxHeartbeats 2000000 in
set_option maxRecDepth 100000 in
theorem cKd_impl (A A1 : Option Addr) (n c n1 c1 : Nat) (ps : List Pl) (xs : List Int) (a y : Int) (w : World) (hb : n ≤ 1048576) (hb1 : n1 ≤ 1048576) (hz : Sz11 ps) (h : PlAt w w.heap.size A n ps) (h1 : NumAt w w.heap.size A1 n1 xs) (hsh : w.ShapedOpen Tryz.prog) (her : Er6 w) :
    Calls Tryz.prog 33 #[.slice A n c, .slice A1 n1 c1, .int .i64 a, .int .i64 y] w (OutT11 (pkZ ps xs a y) (pkC ps xs a y) w) := by
  have hmf : ∀ (fn : Fn) (first cap : Array Value) (w : World), (Instr.makeFunc fn first cap).run Tryz.prog w = .ok (.func fn first cap) w := fun _ _ _ _ => rfl
  obtain ⟨V1, hV1⟩ : ∃ V1 : World, V1 = w.alloc (.cells #[.int .i64 y] 2) := ⟨_, rfl⟩
  have g1 : Below w.heap.size w V1 := by rw [hV1]; exact below_alloc11 _ _
  have HB := Lib.hid g1
  have HY : Hid (Bx V1 w.heap.size [.int .i64 y]) := Lib.hid (by rw [hV1]; exact Bx.new w #[.int .i64 y] 2)
  have CT : Hid (Calls Tryz.prog 94 #[.slice A1 n1 c1] V1 fun e w' => e = .returned (.bool (treeB xs)) ∧ Below V1.heap.size V1 w') := Lib.hid ((cTree_impl A1 n1 c1 V1.heap.size xs V1 (by unfold maxLen; omega) (h1.grow g1)).mono fun e w' hh => ⟨hh.1, by obtain ⟨q, rfl⟩ := hh.2; exact below_drNK (Below.refl _ _) q⟩)
  have CK := Lib.hid (fun W (hW : Below V1.heap.size V1 W) => cChkReg A n c ps y W hb hz (h.grow (bstep9 g1 g1.size hW)) (shaped_below hsh (bstep9 g1 g1.size hW)) (her.below (bstep9 g1 g1.size hW)))
  have CC := Lib.hid (fun W (hW : Below V1.heap.size V1 W) => cChk1 A1 n1 c1 xs a W hb1 (h1.grow (bstep9 g1 g1.size hW)))
  have HV1 := Lib.hid hV1
  rcases pk_cases ps xs a y with ⟨e1, e2, e3⟩ | ⟨e1, e2, e3, e4⟩ | ⟨e1, e2, e3, e4, e5, e6⟩ | ⟨e1, e2, e3, e4, e5, e6, e7⟩
  · rw [e2, e3]
    rw [e1] at CT
    clear e1 e2 e3 CK CC h h1 hsh her hz g1 hV1
    go_enter Tryz.func33, Tryz.ntmps33
    go_wp2_with fail
    rw [← HV1.out]
    go_wp2_with fail
    refine CT.out.mono ?_
    rintro e w1 ⟨rfl, g2⟩
    have hbt := bstep9 HB.out HB.out.size g2
    go_wp2_with fail
    go_ret2
    exact ⟨none, 0, 0, rfl, World.ownsRow_nil _ _ _ _, hbt⟩
  · rw [e3, e4]
    rw [e1] at CT
    obtain ⟨q, hq⟩ : ∃ q, q = pyC ps y := ⟨_, rfl⟩
    rw [← hq] at CK e2 ⊢
    have hd : (q != 0) = true := by simp [e2]
    clear e1 e2 e3 e4 hq CC h h1 hsh her hz g1 hV1
    go_enter Tryz.func33, Tryz.ntmps33
    go_wp2_with fail
    rw [← HV1.out]
    go_wp2_with fail
    refine CT.out.mono ?_
    rintro e w1 ⟨rfl, g2⟩
    have k1 := ((HY.out.next g2).2 0 _ rfl).1
    have CK1 := Lib.hid (CK.out w1 g2)
    have hbt := bstep9 HB.out HB.out.size g2
    clear g2
    go_wp2_with fail
    refine CK1.out.mono ?_
    rintro e w2 ⟨rfl, g3⟩
    have hb2 := bstep9 hbt hbt.size g3
    go_wp2_with fail
    go_ret2
    exact ⟨none, 0, 0, rfl, World.ownsRow_nil _ _ _ _, hb2⟩
  · rw [e5, e6]
    rw [e1] at CT
    rw [e2] at CK
    rw [e3] at CC
    clear e1 e2 e3 e4 e5 e6 h h1 hsh her hz g1 hV1
    go_enter Tryz.func33, Tryz.ntmps33
    go_wp2_with fail
    rw [← HV1.out]
    go_wp2_with fail
    refine CT.out.mono ?_
    rintro e w1 ⟨rfl, g2⟩
    have k1 := ((HY.out.next g2).2 0 _ rfl).1
    have CK1 := Lib.hid (CK.out w1 g2)
    have HG2 := Lib.hid g2
    have hbt := bstep9 HB.out HB.out.size g2
    clear g2
    go_wp2_with fail
    refine CK1.out.mono ?_
    rintro e w2 ⟨rfl, g3⟩
    have hb2 := bstep9 hbt hbt.size g3
    have CC1 := Lib.hid (CC.out w2 (bstep9 HG2.out HG2.out.size g3))
    clear g3 k1
    go_wp2_with fail
    refine CC1.out.mono ?_
    rintro e w3 ⟨rfl, g4⟩
    have hb3 := bstep9 hb2 hb2.size g4
    go_wp2_with fail
    go_ret2
    exact ⟨none, 0, 0, rfl, World.ownsRow_nil _ _ _ _, hb3⟩
  · rw [e6, e7]
    rw [e1] at CT
    rw [e2] at CK
    rw [e3] at CC
    obtain ⟨hT, a, rfl, ha⟩ := clsC_one e3
    have CS := Lib.hid (fun W (hW : Below V1.heap.size V1 W) => cSubs A1 n1 c1 xs a W hT ha (h1.grow (bstep9 g1 g1.size hW)))
    have HSL := Lib.hid (sub_len xs (a : Int) xs.length)
    have HXL : Hid (xs.length ≤ 1048576) := Lib.hid (by have := h1.1; omega)
    have HKS : Hid (∀ p ∈ ps, (exB p y && decide (p.k ∈ subU xs (a : Int) xs.length)) = kdB xs (a : Int) y p) := Lib.hid (fun p hp => (kd_sub (reg_mem e5 hp)).symm)
    obtain ⟨ks, hks⟩ : ∃ ks, ks = subU xs (a : Int) xs.length := ⟨_, rfl⟩
    rw [← hks] at CS HSL HKS
    unfold OutR at CS
    have H := Lib.hid h
    have CW : Hid (∀ K m ck W2 V, Below V1.heap.size V1 W2 → NumAt W2 W2.heap.size K m ks → m ≤ 1048576 → V = W2.alloc (.cells #[.slice K m ck] 49) → Calls Tryz.prog 72 #[.slice A n c, .func (.func 97) #[] #[.pointer (some ⟨w.heap.size, 0, none⟩), .pointer (some ⟨W2.heap.size, 0, none⟩)]] V (RowT11 (cdZ (kdB xs (a : Int) y) ps) V)) := Lib.hid (fun K m ck W2 V hW2 hnum hm hV => by
      have gV : Below W2.heap.size W2 V := by rw [hV]; exact below_alloc11 _ _
      have hBK : Bx V W2.heap.size [.slice K m ck] := by rw [hV]; exact Bx.new W2 #[.slice K m ck] 49
      have hg := bstep9 hW2 hW2.size gV
      exact cWhereKd A n c ps w.heap.size W2.heap.size (kdB xs (a : Int) y) V hb (H.out.grow (bstep9 HB.out HB.out.size hg)) (fun p hp A d X hX hn _ => by
        rw [← HKS.out p hp]
        exact cKd1 p A K d w.heap.size W2.heap.size m ck y ks X hm hn ((HY.out.next hg).next hX) (hBK.next hX) ((hnum.grow gV).grow hX)))
    obtain ⟨zs, hzs⟩ : ∃ zs, zs = cdZ (kdB xs (a : Int) y) ps := ⟨_, rfl⟩
    rw [← hzs] at CW ⊢
    clear e1 e2 e3 e4 e5 e6 e7 h h1 hsh her hz g1 hV1 hT ha hks hzs HKS
    go_enter Tryz.func33, Tryz.ntmps33
    go_wp2_with fail
    rw [← HV1.out]
    go_wp2_with fail
    refine CT.out.mono ?_
    rintro e w1 ⟨rfl, g2⟩
    have k1 := ((HY.out.next g2).2 0 _ rfl).1
    have CK1 := Lib.hid (CK.out w1 g2)
    have HG2 := Lib.hid g2
    clear g2
    go_wp2_with fail
    refine CK1.out.mono ?_
    rintro e w2 ⟨rfl, g3⟩
    have hg3 := bstep9 HG2.out HG2.out.size g3
    have CC1 := Lib.hid (CC.out w2 hg3)
    clear g3 k1
    go_wp2_with fail
    refine CC1.out.mono ?_
    rintro e w3 ⟨rfl, g4⟩
    have hg4 := bstep9 hg3 hg3.size g4
    have CS1 := Lib.hid (CS.out w3 hg4)
    have HG4 := Lib.hid hg4
    clear g4 hg3 hg4
    go_wp2_with fail
    refine CS1.out.mono ?_
    rintro e w4 ⟨K, m, ck, rfl, hown, g5⟩
    have hg5 := bstep9 HG4.out HG4.out.size g5
    have hnum := own_num hown
    have hm : m ≤ 1048576 := by have h1 := hown.1; rw [intV_len] at h1; have := HSL.out; have := HXL.out; omega
    obtain ⟨V, hV⟩ : ∃ V : World, V = w4.alloc (.cells #[.slice K m ck] 49) := ⟨_, rfl⟩
    have CW1 := Lib.hid (CW.out K m ck w4 V hg5 hnum hm hV)
    have hgV : Below V1.heap.size V1 V := bstep9 hg5 hg5.size (by rw [hV]; exact below_alloc11 _ _)
    have HBV := Lib.hid (bstep9 HB.out HB.out.size hgV)
    have HV := Lib.hid hV
    clear hown hnum hm g5 hg5 hgV hV
    go_wp2_with fail
    rw [← HV.out]
    refine CW1.out.mono ?_
    rintro e w5 ⟨B, m5, d5, rfl, hown5, g6⟩
    have hb6 := bstep9 HBV.out HBV.out.size g6
    have HO := Lib.hid (World.ownsRow.mono hown5 HBV.out.size)
    clear hown5 g6
    go_wp2_with fail
    go_ret2
    exact ⟨B, m5, d5, rfl, HO.out, hb6⟩
end
end Go.Proofs.YtglmibmjbignbaaGreatDoor
