/-
  The contract of impl.FirstParsing.
-/
import Derived.Test.YtnfdbpfegmodcaaFirstI
namespace Go.Proofs.Ytnfdbpfegmodcaa
set_option linter.unusedVariables false
open Go.RowKit

theorem row_apart {w : World} {B s n g : Nat} {T T' : TypeId} {v : Value} {xs : List Value} {cs : Array Value} (hT : T ≠ T') (h : w.ownsRow B T s v n xs) (ht : TabAt w g T' cs) : v.ownBlock ≠ some g := by
  intro e
  rcases h.2 with ⟨rfl, _⟩ | ⟨g', cap, cur, rfl, _, h3, _⟩
  · cases e
  · simp [Value.ownBlock] at e
    subst e
    unfold TabAt at ht
    rw [h3] at ht
    simp at ht
    exact hT ht.2
theorem own_set {w : World} {B s n : Nat} {T : TypeId} {v : Value} {xs : List Value} (h : w.ownsRow B T s v n xs) {a : Addr} (ha : v.ownBlock ≠ some a.block) (u : Value) : (w.setCell a u).ownsRow B T s v n xs := by
  refine ⟨h.1, ?_⟩
  rcases h.2 with h2 | ⟨g', cap, cur, rfl, h1, h3, h4⟩
  · exact .inl h2
  · refine .inr ⟨g', cap, cur, rfl, h1, ?_, h4⟩
    rw [Below.heap_setCell _ _ _ _ (by rintro rfl; exact ha rfl)]
    exact h3
theorem TabAt.grown {w w' : World} {g : Nat} {t : TypeId} {cs : Array Value} {r : Option Nat} (h : TabAt w g t cs) (hg : w.grownBy w' r) (hne : r ≠ Option.some g) : TabAt w' g t cs := (hg.block g h.lt (fun e => hne e.symm)).trans h
/-- The length of the text in a box. -/
def lenBox (w : World) : Value → Nat
  | .pointer (some a) => match w.cell? a with
    | some (.string t) => t.size
    | _ => 0
  | _ => 0
theorem lenBox_at {w : World} {g : Nat} {T : TypeId} {t : ByteArray} (h : TabAt w g T #[.string t]) : lenBox w (.pointer (some ⟨g, 0, none⟩)) = t.size := by
  have h0 : w.cell? ⟨g, 0, none⟩ = some (.string t) := h.cell 0
  simp only [lenBox, h0]
theorem roms_hit {rs : List Ru} {i : Nat} {r : ByteArray} (h : (roms rs)[i]? = some r) : ∃ q, rs[i]? = some q ∧ q.2 = r := by
  unfold roms at h
  rw [List.getElem?_map] at h
  cases hq : rs[i]? with
  | none => rw [hq] at h; cases h
  | some q => rw [hq] at h; exact ⟨q, rfl, by simpa using h⟩
theorem rules_grow {w w' : World} {A : Option Addr} {n : Nat} {rs : List Ru} (h : RulesAt w w.heap.size A n rs) (hb : Below w.heap.size w w') : RulesAt w' w'.heap.size A n rs := (h.below hb (Nat.le_refl _)).more hb.size
theorem tab_apart {w : World} {g g' : Nat} {T T' : TypeId} {cs cs' : Array Value} (hT : T ≠ T') (h : TabAt w g T cs) (h' : TabAt w g' T' cs') : g ≠ g' := by
  rintro rfl
  unfold TabAt at h h'
  rw [h] at h'
  simp at h'
  exact hT h'.2
theorem box_one (w : World) (t : TypeId) (v : Value) : TabAt (w.alloc (.cells #[v] t)) w.heap.size t #[v] := TabAt.new w t #[v]

set_option maxHeartbeats 4000000 in
set_option maxRecDepth 100000 in
theorem cFst_impl (A : Option Addr) (n c : Nat) (rs : List Ru) (s : ByteArray) (w : World) (hb : n ≤ maxLen) (hs : s.size ≤ maxLen) (h : RulesAt w w.heap.size A n rs) :
    Calls Try.prog 38 #[.slice A n c, .string s] w (UOut (fstZ rs s) (fstE rs s) w) := by
  obtain ⟨i0, hi0, hz0, hz1, hz2⟩ := info_parts info_i64
  have CT := Lib.hid (cIsTable A n c rs w hb h)
  have CL := Lib.hid (fun W => cTextOk s W hs)
  have CR := Lib.hid (fun (W : World) (h48 : s.size ≤ 48) (hW : Below w.heap.size w W) => cCountRests A n c rs s W hb h48 ((h.below hW (Nat.le_refl _)).more hW.size))
  have H := Lib.hid h
  have HL := Lib.hid h.1
  have HBM := Lib.hid hb
  unfold maxLen at hb
  clear h
  cases h1 : tableB rs
  · rw [h1] at CT
    obtain ⟨e1, e2⟩ := fst_bad (rs := rs) (s := s) (by unfold ok5; rw [h1]; rfl)
    rw [e1, e2]
    clear h1 e1 e2
    go_enter Try.func38, Try.ntmps38
    go_wp2_with (go_at_call 29; refine CT.out.mono ?_; rintro e w1 ⟨rfl, hb1⟩)
    go_ret2
    exact uOut_nil hb1
  rw [h1] at CT
  cases h2 : okT s
  · rw [h2] at CL
    obtain ⟨e1, e2⟩ := fst_bad (rs := rs) (s := s) (by unfold ok5; rw [h2, Bool.and_false])
    rw [e1, e2]
    clear h1 h2 e1 e2
    go_enter Try.func38, Try.ntmps38
    go_wp2_with (first
      | (go_at_call 29; refine CT.out.mono ?_; rintro e w1 ⟨rfl, hb1⟩)
      | (go_at_call 85; refine (CL.out _).mono ?_; rintro e w2 ⟨rfl, rfl⟩))
    go_ret2
    exact uOut_nil hb1
  rw [h2] at CL
  have hok : ok5 rs s = true := by unfold ok5; rw [h1, h2]; rfl
  have h48 := okT_len h2
  have hget : (cntC (cntW (roms rs) s.data.toList) (s.size + 1) 0)[s.size]? = some (.int .i64 (numP rs s)) := cntC_lt (by omega) (by omega)
  have CR2 := Lib.hid (fun W hW => CR.out W h48 hW)
  have hcz := cntC_size (cntW (roms rs) s.data.toList) (s.size + 1) 0
  have hcc := cntC_cells (cntW (roms rs) s.data.toList) (s.size + 1) 0
  obtain ⟨cs, hcs⟩ : ∃ cs, cs = cntC (cntW (roms rs) s.data.toList) (s.size + 1) 0 := ⟨_, rfl⟩
  rw [← hcs] at hget CR2 hcz hcc
  have HCS := Lib.hid hcs
  have HCZ := Lib.hid hcz
  have HCC := Lib.hid hcc
  obtain ⟨x, hx⟩ : ∃ x, x = numP rs s := ⟨_, rfl⟩
  have hbd := numP_bd rs s
  rw [← hx] at hget hbd
  have HG := Lib.hid hget
  have HX := Lib.hid hx
  have HOK := Lib.hid hok
  have hz := zero49
  have hne := zs49_ne
  clear CR h1 h2 hcs hcz hcc hget hx hok hs
  by_cases hx0 : x = 0
  · obtain ⟨e1, e2⟩ := fst_none HOK.out (by rw [← HX.out]; exact hx0)
    rw [e1, e2]
    subst hx0
    clear e1 e2
    go_enter Try.func38, Try.ntmps38
    go_wp2_with (first
      | (go_at_call 29; refine CT.out.mono ?_; rintro e w1 ⟨rfl, hb1⟩)
      | (go_at_call 85; refine (CL.out _).mono ?_; rintro e w2 ⟨rfl, rfl⟩)
      | (go_at_call 86; refine (CR2.out _ hb1).mono ?_; rintro e w3 ⟨rfl, hb3⟩)
      | (refine wpList_store_row rfl _ _ _ rfl w3.heap.size cs rfl rfl 94 zs49 (heap_alloc_new w3 _) (size49.trans (by rw [HCZ.out])) (by rw [zs49_size, HCZ.out]) HCC.out ?_; rw [World.setRow_alloc_new]; have k9 := (cell_of_row (w3.alloc (.cells cs 94)) w3.heap.size s.size cs 94 (0, 0) (heap_alloc_new w3 _)).trans HG.out))
    go_ret2
    exact uOut_nil ((hb1.trans (hb3.mono hb1.size)).alloc (Nat.le_trans hb1.size hb3.size) _)
  · obtain ⟨e1, e2⟩ := fst_some HOK.out (by rw [← HX.out]; exact hx0)
    rw [e1, e2]
    have hd : (x == 0) = false := by simpa using hx0
    have hpos0 : 0 < cntW (roms rs) s.data.toList s.size := by have := HX.out; unfold numP at this; omega
    have HPOS := Lib.hid hpos0
    clear e1 e2 hpos0
    go_enter Try.func38, Try.ntmps38
    go_wp2_with (first
      | (go_at_call 29; refine CT.out.mono ?_; rintro e w1 ⟨rfl, hb1⟩)
      | (go_at_call 85; refine (CL.out _).mono ?_; rintro e w2 ⟨rfl, rfl⟩)
      | (go_at_call 86; refine (CR2.out _ hb1).mono ?_; rintro e w3 ⟨rfl, hb3⟩)
      | (refine wpList_store_row rfl _ _ _ rfl w3.heap.size cs rfl rfl 94 zs49 (heap_alloc_new w3 _) (size49.trans (by rw [HCZ.out])) (by rw [zs49_size, HCZ.out]) HCC.out ?_; rw [World.setRow_alloc_new]; have k9 := (cell_of_row (w3.alloc (.cells cs 94)) w3.heap.size s.size cs 94 (0, 0) (heap_alloc_new w3 _)).trans HG.out))
    have hb13 : Below w.heap.size w w3 := hb1.trans (hb3.mono hb1.size)
    obtain ⟨pc, hpc⟩ : ∃ pc, pc = w3.heap.size := ⟨_, rfl⟩
    have hbc : Below w.heap.size w ((w3.alloc (.cells cs 94)).alloc (.cells #[.string s] 9)) := (hb13.alloc hb13.size _).alloc (by have := hb13.size; simp; omega) _
    have tc : TabAt ((w3.alloc (.cells cs 94)).alloc (.cells #[.string s] 9)) w3.heap.size 94 cs := (TabAt.new w3 _ _).alloc _
    have tp : TabAt ((w3.alloc (.cells cs 94)).alloc (.cells #[.string s] 9)) (w3.heap.size + 1) 9 #[.string s] := by
      have := box_one (w3.alloc (.cells cs 94)) 9 (.string s)
      simpa using this
    have TC := Lib.hid tc
    have TP := Lib.hid tp
    have BC := Lib.hid hbc
    have hge : w.heap.size ≤ w3.heap.size := hb13.size
    clear tc tp hbc hb13 k9 hb1 hb3 CR2 CT CL
    go_loopw [7, 8] (fun u pv wr => ∃ (k m pb : Nat) (acc : List Int) (uv : Value) (t : ByteArray), u = uv ∧ pv = .pointer (some ⟨pb, 0, none⟩) ∧ k ≤ s.size ∧ Hid (t.size = k) ∧ Hid (t.data.toList = restL s.data.toList k) ∧ m + k ≤ s.size ∧ Hid (m = acc.length) ∧ Hid (FirstA (roms rs) s.data.toList s.size k acc) ∧ w.heap.size ≤ pb ∧ Hid (TabAt wr pb 9 #[.string t]) ∧ Hid (TabAt wr w3.heap.size 94 cs) ∧ wr.ownsRow w.heap.size 2 1 uv m (intV acc) ∧ Hid (Below w.heap.size w wr)) (fun _ pv wr => lenBox wr pv)
    case atStart => exact ⟨s.size, 0, w3.heap.size + 1, [], _, s, rfl, rfl, Nat.le_refl _, Lib.hid rfl, Lib.hid (by rw [← size_toL s, restL_all]), by omega, Lib.hid rfl, Lib.hid (FirstA.start HPOS.out), by omega, TP, TC, World.ownsRow_nil _ _ _ _, BC⟩
    case round =>
      obtain ⟨k, m, pb, acc, uv, t, rfl, rfl, hk, HT1, HT2, hmk, HM, HA, hpb, HP, HC, hown, HB⟩ := hrel
      clear TC TP BC
      have hcp : wr.cell? ⟨pb, 0, none⟩ = some (.string t) := HP.out.cell 0
      have HLB := Lib.hid (lenBox_at HP.out)
      by_cases hk0 : 0 < k
      · have hd1 : (t.toList == ([] : List UInt8)) = false := by rw [toList_empty]; exact decide_eq_false (by have := HT1.out; omega)
        have hd2 : (t.toList != ([] : List UInt8)) = true := by unfold bne; rw [hd1]; rfl
        have CI := Lib.hid (cIdxR A n c pb w3.heap.size k s.size t rs s.data.toList wr HBM.out (by omega) hk0 hk HT1.out HT2.out (size_toL s) HA.out.2 (rules_grow H.out HB.out) hcp (by have := HC.out; rw [HCS.out] at this; exact this) HP.out.lt)
        go_wp2_with fail
        refine CI.out.mono ?_
        rintro e w4 ⟨hb4, i, r, rfl, hi, hg, hnp⟩
        have hown4 := ownsRow_keep hown hb4
        have HP4 := Lib.hid (HP.out.below hb4)
        have HC4 := Lib.hid (HC.out.below hb4)
        have HB4 := Lib.hid (HB.out.trans (hb4.mono HB.out.size))
        have HA4 := Lib.hid (HA.out.step hk0 (by rw [size_toL]; exact hk) hi hg hnp)
        have hfit := goodP_fit (by rw [size_toL]; exact hk) hg
        have hrs := hfit.1
        have hrk := hfit.2.1
        obtain ⟨q, hq, rfl⟩ := roms_hit hi
        have hin : i < n := by have := (List.getElem?_eq_some_iff.1 hq).1; have := HL.out; omega
        have HQ := Lib.hid hq
        have hbs4 := HB4.out.size
        clear hb4 hown HP HC HB HA hi hg hnp hfit hq hcp CI
        go_wp2_with (at_builtin; refine wpList_append_own _ rfl _ _ 25 rfl w.heap.size 2 i0 _ 1 8 Try.underlying25 hi0 hz0 hz1 hz2 rfl (by decide) _ _ _ rfl (hown4.alloc _) ⟨w4.heap.size, 0, none⟩ 1 1 [.int .i64 (i : Int)] rfl rfl ?c1 ?c2 ?c3 ?c4 ?c5 ?_)
        case c1 => exact one_cell' _ _ _ (new_one w4 _ _)
        case c2 => intro u hu; simp at hu; subst hu; rfl
        case c3 => unfold maxLen; omega
        case c4 => omega
        case c5 => simp; omega
        intro v' w5 hown5 hgrow5 _
        rw [intV_snoc] at hown5
        have hnp := row_apart (g := pb) (by decide) hown4 HP4.out
        have hnc := row_apart (g := w3.heap.size) (by decide) hown4 HC4.out
        have HP5 := Lib.hid ((HP4.out.alloc (.cells #[.int .i64 (i : Int)] 2)).grown hgrow5 hnp)
        have HC5 := Lib.hid ((HC4.out.alloc (.cells #[.int .i64 (i : Int)] 2)).grown hgrow5 hnc)
        have HB5 : Hid (Below w.heap.size w w5) := Lib.hid ((HB4.out.alloc HB4.out.size _).grown hgrow5 (by simp; omega) (fun x hx => (hown4.lt x hx).1))
        obtain ⟨b, o, rfl, hbl, A1, n1, c1, k0, k1, k2, k3, k4⟩ := (H.out.below HB5.out (Nat.le_refl _)).row HQ.out
        have hcp : w5.cell? ⟨pb, 0, none⟩ = some (.string t) := HP5.out.cell 0
        have hfp := HP5.out.frozen 0
        have hle : q.2.size ≤ t.size := by have := HT1.out; omega
        have e1 : (0 : Int) ≤ (i : Int) := by omega
        have e2 : (i : Int) < (n : Int) := by omega
        have happ := row_apart (g := pb) (by decide) hown5 HP5.out
        have HAPP := Lib.hid happ
        have HO5 := Lib.hid hown5
        clear hgrow5 hown4 hnp hnc k0 k2 k3 k4 happ hown5 HP4 HC4 HB4
        go_wp2
        go_region
        go_wp2
        go_roundw
        case rel =>
          have hne := tab_apart (by decide) HC5.out HP5.out
          have hnew := box_one (w5.setCell ⟨pb, 0, none⟩ (.string (t.extract q.2.size t.size))) 9 (.string (t.extract q.2.size t.size))
          rw [show (w5.setCell ⟨pb, 0, none⟩ (.string (t.extract q.2.size t.size))).heap.size = w5.heap.size from by simp] at hnew
          refine ⟨k - q.2.size, m + 1, w5.heap.size, acc ++ [(i : Int)], v', t.extract q.2.size t.size, rfl, rfl, by omega, Lib.hid ?_, Lib.hid ?_, by omega, Lib.hid ?_, HA4, by have := HB5.out.size; omega, Lib.hid hnew, Lib.hid ((HC5.out.other (a := ⟨pb, 0, none⟩) hne _).alloc _), (own_set HO5.out HAPP.out _).alloc _, Lib.hid (((HB5.out.setCell hpb _).alloc (by have := HB5.out.size; simpa using this) _).drew)⟩
          · rw [ext_len _ _ _ (Nat.le_refl _), HT1.out]
          · rw [ext_drop, HT2.out, restL_cut (by rw [size_toL]; exact hk) hrk]
          · rw [List.length_append, ← HM.out]; rfl
        case measure =>
          have hnew := box_one (w5.setCell ⟨pb, 0, none⟩ (.string (t.extract q.2.size t.size))) 9 (.string (t.extract q.2.size t.size))
          rw [show (w5.setCell ⟨pb, 0, none⟩ (.string (t.extract q.2.size t.size))).heap.size = w5.heap.size from by simp] at hnew
          have h1 := lenBox_at hnew
          have h2 : lenBox wr (.pointer (some ⟨pb, 0, none⟩)) = t.size := HLB.out
          have h3 : (t.extract q.2.size t.size).size = t.size - q.2.size := ext_len _ _ _ (Nat.le_refl _)
          have h4 := HT1.out
          rw [h2]
          exact Nat.lt_of_le_of_lt (Nat.le_of_eq h1) (by omega)
      · obtain rfl : k = 0 := by omega
        have hd1 : (t.toList == ([] : List UInt8)) = true := by rw [toList_empty]; exact decide_eq_true (by have := HT1.out; omega)
        have hd2 : (t.toList != ([] : List UInt8)) = false := by unfold bne; rw [hd1]; rfl
        have hfin := HA.out.done
        rw [← hfin] at hown
        obtain ⟨A2, c2, rfl⟩ := row_slice hown
        clear hfin
        go_wp2
        go_ret2
        exact ⟨_, _, _, rfl, hown, HB.out⟩
end Go.Proofs.Ytnfdbpfegmodcaa
