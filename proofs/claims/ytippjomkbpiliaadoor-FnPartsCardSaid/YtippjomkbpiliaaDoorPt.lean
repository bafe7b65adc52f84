/-
  The contracts of impl.TakeApart and spec.TakeApart.
-/
import Derived.Test.YtippjomkbpiliaaDoorPtPlain
import Derived.Test.YtippjomkbpiliaaDoorSetPlain
import Derived.Test.YtippjomkbpiliaaDoorBlank
import Derived.Test.YtippjomkbpiliaaDoorIsPhraseS
import Derived.Test.YtippjomkbpiliaaDoorJoinPhraseD
import Derived.Deep.RegionHeld3
import Derived.Deep.QuietTactic
import Derived.BigQuiet
namespace Go.Proofs.YtippjomkbpiliaaDoor
set_option linter.unusedVariables false
open Go.RowKit Go.Sort

theorem bstepP {B : Nat} {a b c : World} (h : Below B a b) (hB : B ≤ b.heap.size) (k : Below b.heap.size b c) : Below B a c := h.trans (k.mono hB)
theorem strV_toL8 (xs : List ByteArray) : strV xs = (toL xs).map encStr := by
  unfold strV toL; rw [List.map_map]
  apply List.map_congr_left
  intro x _
  rfl
theorem toL_len8 (xs : List ByteArray) : (toL xs).length = xs.length := by simp [toL]
theorem own_prefix8 {w : World} {base g n cap m s : Nat} {e : TypeId} {xs : List Value} (h : w.ownsRow base e s (.slice (some ⟨g, 0, none⟩) n cap) n xs) (hm : m ≤ n) :
    w.ownsRow base e s (.slice (some ⟨g, 0, none⟩) m cap) m (xs.take (m * s)) := by
  rcases h.2 with ⟨hv, _⟩ | ⟨g', cap', cur, hv, h1, h2, h3, h4, h5, h6⟩
  · cases hv
  · cases hv
    have hle : m * s ≤ n * s := Nat.mul_le_mul_right _ hm
    refine ⟨by rw [List.length_take]; have := h.1; omega, .inr ⟨g, cap, cur, rfl, h1, h2, by omega, h4, h5, ?_⟩⟩
    rw [← h6, List.take_take, Nat.min_eq_left hle]
theorem cut_two (ws : List ByteArray) (k : Nat) (h : k < ws.length) : (ws.take k ++ ws.drop (k + 1)).length = ws.length - 1 := by rw [List.length_append, List.length_take, List.length_drop]; omega
/-- slices.Delete of one text of a row of one's own. -/
theorem tDel (base g m c k : Nat) (ws : List ByteArray) (w : World) (hm : m = ws.length) (hk : k < m) (h : w.ownsRow base 9 1 (.slice (some ⟨g, 0, none⟩) m c) m (strV ws)) :
    Calls Tryd.prog 32 #[.slice (some ⟨g, 0, none⟩) m c, .int .i64 (k : Int), .int .i64 ((k : Int) + 1)] w fun e w' => e = .returned (.slice (some ⟨g, 0, none⟩) (m - 1) c) ∧
      w'.ownsRow base 9 1 (.slice (some ⟨g, 0, none⟩) (m - 1) c) (m - 1) (strV (ws.take k ++ ws.drop (k + 1))) ∧ w.grownBy w' (some g) := by
  rcases h.2 with ⟨hv, _⟩ | ⟨g', cap, cur, hv, h1, h2, h3, h4, h5, h6⟩
  · cases hv
  cases hv
  rw [strV_toL8, Nat.mul_one] at h6
  have hl : m = (toL ws).length := by rw [toL_len8]; exact hm
  have hH := holds_of_block (ss := toL ws) h2 (by rw [← hl]; exact h6)
  have q := Tryd.slices_Delete_string g 0 c k (k + 1) (toL ws) w hH (by omega) (by unfold maxLen at h4; omega) (by omega) (by omega)
  rw [← hl, show (((k + 1 : Nat)) : Int) = (k : Int) + 1 from by omega, show m - (k + 1 - k) = m - 1 by omega] at q
  refine q.mono ?_
  rintro e w' ⟨rfl, r, rfl⟩
  have hlen : ((toL ws).take k ++ (toL ws).drop (k + 1) ++ List.replicate (k + 1 - k) []).length = (toL ws).length := by
    rw [List.length_append, List.length_append, List.length_take, List.length_drop, List.length_replicate]; omega
  have ho := ownsRow_sorted (n := r) (os := #[]) (ss := toL ws) (ts := (toL ws).take k ++ (toL ws).drop (k + 1) ++ List.replicate (k + 1 - k) []) hlen h1 h2 (by omega) h4 h5
  rw [grow_empty, ← hl] at ho
  have hp := own_prefix8 (m := m - 1) ho (by omega)
  have hl2 : ((toL ws).take k ++ (toL ws).drop (k + 1)).length = m - 1 := by rw [List.length_append, List.length_take, List.length_drop]; omega
  rw [Nat.mul_one, ← List.map_take, ← hl2, List.take_left, hl2] at hp
  have e1 : ((toL ws).take k ++ (toL ws).drop (k + 1)).map encStr = strV (ws.take k ++ ws.drop (k + 1)) := by
    rw [strV_toL8]; unfold toL; rw [List.map_append (f := fun s : ByteArray => s.data.toList), List.map_take, List.map_drop]
  rw [e1] at hp
  have hg := grownBy_sorted (w := w) (g := g) (n := r) (os := #[]) ((toL ws).take k ++ (toL ws).drop (k + 1) ++ List.replicate (k + 1 - k) []).toArray
  rw [grow_empty] at hg
  exact ⟨rfl, hp, hg⟩
theorem tJoin (base g m c : Nat) (xs : List ByteArray) (w : World) (hm : m = xs.length) (h1 : ∀ x ∈ xs, x.size ≤ 16) (h2 : xs.length ≤ 8) (h : w.ownsRow base 9 1 (.slice (some ⟨g, 0, none⟩) m c) m (strV xs)) :
    Calls Tryd.prog 31 #[.slice (some ⟨g, 0, none⟩) m c, .string (sepB 32)] w fun e w' => e = .returned (.string (joinB xs)) ∧ Below w.heap.size w w' := by
  rcases h.2 with ⟨hv, _⟩ | ⟨g', cap, cur, hv, k1, k2, k3, k4, k5, k6⟩
  · cases hv
  cases hv
  have q := Tryd.strings_Join g 0 c xs (sepB 32) w (fun j x hx => by
    rw [Nat.zero_add]
    exact (World.ownsRow.cellAt h j (by have := (List.getElem?_eq_some_iff.1 hx).1; omega)).trans (strV_at _ _ _ hx)) (Array.getElem?_eq_some_iff.1 k2).1 (by omega) (by omega) (join_small xs h1 h2)
  rw [← hm] at q
  exact q

set_option maxHeartbeats 4000000 in
set_option maxRecDepth 100000 in
theorem tTake_impl (A : Option Addr) (n c : Nat) (gs : List ByteArray) (s : ByteArray) (w : World) (hbig : n ≤ 1048576) (hcap : n ≤ c) (hs : ∀ x ∈ gs, x.size ≤ maxLen) (hsz : s.size ≤ 1048576) (h : TextAt w w.heap.size A n gs) (hsh : w.ShapedOpen Tryd.prog) :
    Calls Tryd.prog 9 #[.slice A n c, .string s] w fun e w' => e = .returned (.tuple #[.agg #[.string (taS gs s), .string (taG gs s)], .int .i64 (taC gs s)]) ∧ Below w.heap.size w w' := by
  have B0 : Below w.heap.size w (w.alloc (.cells #[.string ByteArray.empty, .string ByteArray.empty] 28)) := (Below.refl _ _).alloc (Nat.le_refl _) _
  have K0 := PB.new w ByteArray.empty ByteArray.empty
  have HB0 := Lib.hid B0
  have HK0 := Lib.hid K0
  have HH := Lib.hid (fun W (hW : Below w.heap.size w W) => ((h.below hW (Nat.le_refl _)).more hW.size : TextAt W W.heap.size A n gs))
  have CG := Lib.hid (fun W (hW : Below w.heap.size w W) => tGen_impl A n c W.heap.size gs W hbig hcap hs ((h.below hW (Nat.le_refl _)).more hW.size))
  have HL : w.heap.size < ((w.alloc (.cells #[.string ByteArray.empty, .string ByteArray.empty] 28))).heap.size := by simp
  clear h K0
  cases hp : phraseB s
  · obtain ⟨e1, e2, e3⟩ := ta_bad (gs := gs) (s := s) (by unfold okT; rw [hp, Bool.and_false])
    rw [e1, e2, e3]
    have CW := Lib.hid (cWordsOf_impl_bad s (w.alloc (.cells #[.string ByteArray.empty, .string ByteArray.empty] 28)) (by omega) (shaped_below hsh B0) hp)
    clear e1 e2 e3 hp B0 hsh
    go_enter Tryd.func9, Tryd.ntmps9
    go_wp2_with fail
    refine CW.out.mono ?_
    rintro e w1 ⟨rfl, hb1⟩
    obtain ⟨⟨l3, a0, a1⟩, f0, f1⟩ := HK0.out.below hb1
    have B1 := bstepP HB0.out HB0.out.size hb1
    go_wp2_with fail
    refine bodyPost_ret ?_ rfl ⟨rfl, below_setP B1 (Nat.le_refl _) _ _⟩
    first | (simp [results, Tryd.results9, go_sem, a0, a1]; done) | (simp [results, Tryd.results9, go_sem, a0, a1]; rfl)
  have CW := Lib.hid (cWordsOf_impl_ok s (w.alloc (.cells #[.string ByteArray.empty, .string ByteArray.empty] 28)) (by omega) (shaped_below hsh B0) hp)
  obtain ⟨hpw, hp8⟩ := phraseB_parts s hp
  have hp0 := space_pos s
  have HW16 : Hid (∀ x ∈ spaceB s, x.size ≤ 16) := Lib.hid (fun x hx => (word_size x (words_mem _ hpw x hx)).2)
  obtain ⟨m, hm⟩ : ∃ m, m = (spaceB s).length := ⟨_, rfl⟩
  rw [← hm] at CW hp8 hp0
  have HM := Lib.hid hm
  clear hpw B0 hsh hm
  cases hg : genB gs
  · obtain ⟨e1, e2, e3⟩ := ta_bad (gs := gs) (s := s) (by unfold okT; rw [hg]; rfl)
    rw [e1, e2, e3]
    rw [hg] at CG
    clear e1 e2 e3 hp hg
    go_enter Tryd.func9, Tryd.ntmps9
    go_wp2_with fail
    refine CW.out.mono ?_
    rintro e w1 ⟨g, rfl, hg1, hg2, hown, hb1⟩
    obtain ⟨⟨l3, a0, a1⟩, f0, f1⟩ := HK0.out.below hb1
    have B1 := bstepP HB0.out HB0.out.size hb1
    have CG1 := Lib.hid (CG.out w1 B1)
    clear hown hb1
    go_wp2_with (go_at_call 17; refine CG1.out.mono ?_; rintro e w' ⟨rfl, rfl⟩)
    refine bodyPost_ret ?_ rfl ⟨rfl, below_setP B1 (Nat.le_refl _) _ _⟩
    first | (simp [results, Tryd.results9, go_sem, a0, a1]; done) | (simp [results, Tryd.results9, go_sem, a0, a1]; rfl)
  obtain ⟨e1, e2, e3⟩ := ta_ok (gs := gs) (s := s) (by unfold okT; rw [hg, hp]; rfl)
  rw [e1, e2, e3]
  rw [hg] at CG
  clear e1 e2 e3 hp hg
  have HPS := Lib.hid (fun k (h : plP gs (spaceB s) = some k) => partS_some h)
  have HPG := Lib.hid (fun k (h : plP gs (spaceB s) = some k) => partG_some h)
  have HNS := Lib.hid (fun (h : plP gs (spaceB s) = none) => partS_none h)
  have HNG := Lib.hid (fun (h : plP gs (spaceB s) = none) => partG_none h)
  have HPL := Lib.hid (fun k (h : plP gs (spaceB s) = some k) => plP_lt h)
  generalize partS gs s = RS at HPS HNS ⊢
  generalize partG gs s = RG at HPG HNG ⊢
  generalize spaceB s = ws at CW HW16 HM HPS HPG HNS HNG HPL
  go_enter Tryd.func9, Tryd.ntmps9
  go_wp2_with fail
  refine CW.out.mono ?_
  rintro e w1 ⟨g, rfl, hg1, hg2, hown, hb1⟩
  have HK1 := Lib.hid (HK0.out.below hb1)
  have HB01 := Lib.hid hb1
  have B1 := bstepP HB0.out HB0.out.size hb1
  have CG1 := Lib.hid (CG.out w1 B1)
  have HO := Lib.hid hown
  have HCE : Hid (∀ (j : Nat) x, ws[j]? = some x → w1.cell? ⟨g, j, none⟩ = some (.string x)) := Lib.hid (fun j x hx => (World.ownsRow.cellAt hown j (by have := (List.getElem?_eq_some_iff.1 hx).1; have := HM.out; omega)).trans (strV_at _ _ _ hx))
  have CP := Lib.hid (cPlace A n c w1.heap.size g m m gs ws w1 hbig (HH.out w1 B1) HM.out hp0 (by omega) HCE.out)
  have HGN : Hid (w.heap.size < g) := Lib.hid (by omega)
  clear hown hb1
  cases hpl : plP gs ws with
  | none =>
    rw [hpl] at CP
    dsimp only [plV] at CP
    have e1 := HNS.out hpl
    have e2 := HNG.out hpl
    clear hpl HPS HPG HNS HNG HPL
    obtain ⟨⟨l3, a0, a1⟩, f0, f1⟩ := HK1.out
    go_wp2_with (first
      | (go_at_call 17; refine CG1.out.mono ?_; rintro e w' ⟨rfl, rfl⟩)
      | (go_at_call 30; refine CP.out.mono ?_; rintro e w' ⟨rfl, rfl⟩))
    refine bodyPost_ret ?_ rfl ⟨by rw [e1, e2], below_setP B1 (Nat.le_refl _) _ _⟩
    first | (simp [results, Tryd.results9, go_sem, a0, a1]; done) | (simp [results, Tryd.results9, go_sem, a0, a1]; rfl)
  | some k =>
    rw [hpl] at CP
    dsimp only [plV] at CP
    have HES := Lib.hid (HPS.out k hpl)
    have HEG := Lib.hid (HPG.out k hpl)
    obtain ⟨hk1, hk2, _⟩ := HPL.out k hpl
    rw [← HM.out] at hk1 hk2
    clear hpl HPS HPG HNS HNG HPL
    have ck := HCE.out k (getT ws k) (getT_at (by rw [← HM.out]; exact hk1))
    have u1 : (0 : Int) ≤ (k : Int) := Int.natCast_nonneg _
    have u2 : (k : Int) < (m : Int) := by omega
    have CD := Lib.hid (tDel _ g m m k ws w1 HM.out hk1 HO.out)
    generalize getT ws k = gx at ck HEG
    go_wp2_with (first
      | (go_at_call 17; refine CG1.out.mono ?_; rintro e w' ⟨rfl, rfl⟩)
      | (go_at_call 30; refine CP.out.mono ?_; rintro e w' ⟨rfl, rfl⟩))
    refine CD.out.mono ?_
    rintro e w2 ⟨rfl, hown2, hgr2⟩
    have hb2 : Below ((w.alloc (.cells #[.string ByteArray.empty, .string ByteArray.empty] 28))).heap.size (w.alloc (.cells #[.string ByteArray.empty, .string ByteArray.empty] 28)) w2 := HB01.out.grown hgr2 HB01.out.size (fun j hj => by cases hj; exact hg1)
    have HB02 := Lib.hid hb2
    have CJ := Lib.hid (tJoin _ g (m - 1) m (ws.take k ++ ws.drop (k + 1)) w2 (by rw [cut_two ws k (by rw [← HM.out]; exact hk1), HM.out]) (fun x hx => by
      rcases List.mem_append.1 hx with h | h
      · exact HW16.out x (List.mem_of_mem_take h)
      · exact HW16.out x (List.mem_of_mem_drop h)) (by rw [cut_two ws k (by rw [← HM.out]; exact hk1)]; have := HM.out; omega) hown2)
    rw [← HES.out] at CJ
    clear hown2 hgr2 hb2
    go_wp2_with fail
    refine (show Calls Tryd.prog 31 _ _ _ from CJ.out).mono ?_
    rintro e w3 ⟨rfl, hb3⟩
    have hb03 := bstepP HB02.out HB02.out.size hb3
    have B3 := bstepP HB0.out HB0.out.size hb03
    obtain ⟨⟨l3, a0, a1⟩, f0, f1⟩ := HK0.out.below hb03
    go_wp2_with fail
    refine bodyPost_ret ?_ rfl ⟨by rw [HEG.out], below_setP B3 (Nat.le_refl _) _ _⟩
    first | (simp [results, Tryd.results9, go_sem, a0, a1]; done) | (simp [results, Tryd.results9, go_sem, a0, a1]; rfl)
end Go.Proofs.YtippjomkbpiliaaDoor
