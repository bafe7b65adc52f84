/-
  The contracts of impl.subclassesOf and impl.SubclassesOf.
-/
import Derived.Test.YtlogbgkbdjdkkaaTr10S
import Derived.Laws.EntriesVeiled
namespace Go.Proofs.Ytlogbgkbdjdkkaa
set_option linter.unusedVariables false
open Go.RowKit

theorem tab_new10 {w : World} {g : Nat} (t : TypeId) (cs : Array Value) (hg : g = w.heap.size) : TabAt (w.alloc (.cells cs t)) g t cs := hg ▸ TabAt.new w t cs
/-- The world in which the walk begins. -/
def w3V (w : World) (A : Option Addr) (n c : Nat) : World := ((w.alloc (.cells #[.slice A n c] 24)).alloc (.cells #[.slice none 0 0] 24)).alloc (.cells #[cloV (w.heap.size + 1) w.heap.size (w.heap.size + 1 + 1)] 57)
theorem w3_size (w : World) (A : Option Addr) (n c : Nat) : w.heap.size + 3 ≤ (w3V w A n c).heap.size := by unfold w3V; simp
theorem w3_dn (w : World) (A : Option Addr) (n c : Nat) : Dn w (w.heap.size + 1) w.heap.size (w.heap.size + 1 + 1) (w.heap.size + 3) (.slice A n c) (w3V w A n c) (.slice none 0 0) none 0 0 [] := by
  unfold w3V
  refine ⟨World.ownsRow_nil _ _ _ _, ?_, ?_, ?_, ?_, by omega⟩
  · exact (tab_new10 _ _ (by simp)).alloc _
  · exact ((tab_new10 _ _ rfl).alloc _).alloc _
  · exact tab_new10 _ _ (by simp)
  · exact (((Below.refl _ _).alloc (Nat.le_refl _) _).alloc (by simp) _).alloc (by simp; omega) _

set_option maxHeartbeats 1000000 in
set_option maxRecDepth 100000 in
theorem cSubs (A : Option Addr) (n c : Nat) (xs : List Int) (a : Nat) (w : World) (hT : Tree xs) (ha : a < xs.length) (h : NumAt w w.heap.size A n xs) :
    Calls Try.prog 60 #[.slice A n c, .int .i64 (a : Int)] w (OutR (subU xs (a : Int) xs.length) w) := by
  have hmf : ∀ (fn : Fn) (first cap : Array Value) (w : World), (Instr.makeFunc fn first cap).run Try.prog w = .ok (.func fn first cap) w := fun _ _ _ _ => rfl
  have HE := Lib.hid (dfs_sub hT ha)
  have HDL := Lib.hid (dfs_len hT ha)
  have CW := Lib.hid (cWalk A n c xs w hT h (w.heap.size + 1) w.heap.size (w.heap.size + 1 + 1) (w.heap.size + 3) xs.length a (w3V w A n c) none 0 0 [] (by omega) ha (by have := dfs_len hT ha; have := hT.le; simp; omega) (w3_size w A n c) (w3_dn w A n c))
  have hl20 := hT.le
  rw [List.nil_append] at CW
  obtain ⟨zs, hzs⟩ : ∃ zs, zs = dfs xs xs.length a := ⟨_, rfl⟩
  rw [← hzs] at CW HE HDL
  rw [← HE.out]
  have CS : Hid (∀ (V : World) (A1 : Option Addr) (m c1 : Nat), V.ownsRow (w.heap.size + 3) 2 1 (.slice A1 m c1) m (intV zs) → Calls Try.prog 67 #[.slice A1 m c1] V (Srt10 A1 m c1 (w.heap.size + 3) zs V)) := Lib.hid (fun V A1 m c1 hV => tSort10 A1 m c1 _ zs V (by have h1 := hV.1; rw [intV_len] at h1; have := HDL.out; omega) hV)
  clear h hT ha hzs HE
  unfold DnOut w3V at CW
  unfold Srt10 at CS
  go_enter Try.func60, Try.ntmps60
  go_wp2_with fail
  refine CW.out.mono ?_
  rintro e w4 ⟨rfl, A4, m4, c4, hD, hs4⟩
  have HD := Lib.hid hD
  have hf := hD.fc
  have CS4 := Lib.hid (CS.out _ _ _ _ hD.own)
  clear hD hs4 CW CS
  go_wp2_with fail
  refine CS4.out.mono ?_
  rintro e w5 ⟨rfl, hO5, hg5⟩
  have HO5 := Lib.hid hO5
  have hf5 : w5.cell? ⟨w.heap.size + 1, 0, none⟩ = some (.slice A4 m4 c4) := ((tab_grown10 HD.out.fb hg5 (fun k hk => by have := (HD.out.own.lt k hk).1; omega)).cell 0).trans rfl
  have HB5 : Hid (Below w.heap.size w w5) := Lib.hid (below_own (B := 0) HD.out.bel hg5 (fun k hk => by have := (HD.out.own.lt k hk).1; omega))
  clear hO5 hg5 HD CS4 hf
  go_wp2_with fail
  go_ret
  exact ⟨A4, m4, c4, rfl, rowBase HO5.out (by omega), HB5.out⟩

set_option maxHeartbeats 1000000 in
set_option maxRecDepth 100000 in
theorem cSubclassesOf_impl (A : Option Addr) (n c : Nat) (xs : List Int) (a : Int) (w : World) (hb : n ≤ 1048576) (h : NumAt w w.heap.size A n xs) :
    Calls Try.prog 24 #[.slice A n c, .int .i64 a] w (Out10 (sbZ xs a) (clsC xs [a]) w) := by
  have CC := Lib.hid (cChk1 A n c xs a w hb h)
  by_cases h0 : clsC xs [a] = 0
  · rw [sbZ_yes h0]
    rw [h0] at CC ⊢
    obtain ⟨hT, a, rfl, ha⟩ := clsC_one h0
    have CK : Hid (∀ V, Below w.heap.size w V → Calls Try.prog 60 #[.slice A n c, .int .i64 (a : Int)] V (OutR (subU xs (a : Int) xs.length) V)) := Lib.hid (fun V hV => cSubs A n c xs a V hT ha ((h.below hV (Nat.le_refl _)).more hV.size))
    obtain ⟨ks, hks⟩ : ∃ ks, ks = subU xs (a : Int) xs.length := ⟨_, rfl⟩
    rw [← hks] at CK ⊢
    unfold OutR at CK
    clear hT ha hks h h0
    go_enter Try.func24, Try.ntmps24
    go_wp2_with (first
      | (go_at_call 48; refine CC.out.mono ?_; rintro e w1 ⟨rfl, hb1⟩; have HB1 := Lib.hid hb1; clear hb1)
      | (go_at_call 60; refine (CK.out _ HB1.out).mono ?_; rintro e w2 ⟨A2, n2, c2, rfl, hO2, hb2⟩; have HO2 := Lib.hid hO2; have HB2 := Lib.hid hb2; clear hO2 hb2))
    go_ret2
    exact ⟨A2, n2, c2, rfl, rowBase HO2.out HB1.out.size, below_thenA HB1.out HB2.out⟩
  · rw [sbZ_no h0]
    obtain ⟨d, hd⟩ : ∃ d, d = clsC xs [a] := ⟨_, rfl⟩
    rw [← hd] at CC h0 ⊢
    have d1 : (d != 0) = true := by simp; exact h0
    have d2 : (d == 0) = false := by simp; exact h0
    clear h h0 hd
    go_enter Try.func24, Try.ntmps24
    go_wp2_with (go_at_call 48; refine CC.out.mono ?_; rintro e w1 ⟨rfl, hb1⟩; have HB1 := Lib.hid hb1; clear hb1)
    go_ret2
    exact Out10.nil rfl HB1.out
end Go.Proofs.Ytlogbgkbdjdkkaa
