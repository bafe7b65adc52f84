/-
  The contract of spec.TranslateGeneric.
-/
import Derived.Test.YtippjomkbpiliaaDoorTr
import Derived.Test.YtippjomkbpiliaaDoorPutS
import Derived.Test.YtippjomkbpiliaaDoorClass
import Derived.Deep.QuietTactic
import Derived.BigQuiet
namespace Go.Proofs.YtippjomkbpiliaaDoor
set_option linter.unusedVariables false
set_option linter.unusedSimpArgs false
open Go.RowKit Go.Sort Go.Lib

theorem joinL_size : ∀ (l : List (List UInt8)), (∀ x ∈ l, x.length ≤ 16) → (joinL l).length ≤ 17 * l.length
  | [], _ => by rw [show joinL [] = [] from rfl]; simp
  | [a], h => by
    have h1 := h a (by simp)
    have h2 : joinL [a] = a := by simp [joinL, Lib.join, List.intercalate]
    rw [h2, List.length_singleton]; omega
  | a :: b :: l, h => by
    have h1 := h a (by simp)
    have h2 := joinL_size (b :: l) (fun x hx => h x (List.mem_cons_of_mem _ hx))
    rw [joinL_cons]
    simp only [List.length_append, List.length_cons] at h2 ⊢
    omega
theorem joinB_size8 (l : List ByteArray) (h : ∀ x ∈ l, x.size ≤ 16) : (joinB l).size ≤ 17 * l.length := by
  have h1 := joinB_data l
  have h2 := joinL_size (l.map (·.data.toList)) (fun x hx => by
    obtain ⟨y, hy, rfl⟩ := List.mem_map.1 hx
    have := h y hy
    rw [Array.length_toList]; exact this)
  rw [← h1, Array.length_toList, List.length_map] at h2
  exact h2
theorem join_cons8 (t : ByteArray) (xs : List ByteArray) (h : xs ≠ []) : joinB (t :: xs) = t ++ ⟨#[32]⟩ ++ joinB xs := by
  cases xs with
  | nil => exact absurd rfl h
  | cons a l =>
    apply ByteArray.ext
    apply Array.toList_inj.1
    rw [joinB_data]
    simp only [List.map_cons]
    rw [joinL_cons]
    have h2 := joinB_data (a :: l)
    simp only [List.map_cons] at h2
    rw [← h2]
    simp [ByteArray.data_append, Array.toList_append]
/-- The two ways to set a word at the Generic's place. -/
theorem tog_tr {gs ts : List ByteArray} {s : ByteArray} {k : Nat} {tx : ByteArray} (h : plP gs (spaceB s) = some k) (ht : trT gs ts (getT (spaceB s) k) = tx) (h0 : tx ≠ ByteArray.empty) :
    trR gs ts s = togB (partS gs s) tx (partF gs s) := by
  rw [trR_some h, ht, partS_some h]
  have h3 := plP_lt h
  have h4 : k = 0 ∨ k = (spaceB s).length - 1 := by
    unfold plP at h
    split at h
    · cases h
    · split at h
      · cases h; exact Or.inr rfl
      · split at h
        · cases h; exact Or.inl rfl
        · cases h
  unfold partF
  rw [h]
  rcases Nat.eq_zero_or_pos k with rfl | hk
  · rw [decide_eq_true rfl, tog_first h0, set_cut _ _ _ h3.1, List.take_zero, List.nil_append, List.nil_append, List.singleton_append, join_cons8]
    intro e
    have := congrArg List.length e
    rw [List.length_drop, List.length_nil] at this
    omega
  · have hk2 : k = (spaceB s).length - 1 := by omega
    have e1 : (spaceB s).drop (k + 1) = [] := List.drop_of_length_le (by omega)
    rw [decide_eq_false (by simp; omega), tog_last h0, set_cut _ _ _ h3.1, e1, List.append_nil, List.append_nil, joinB_snoc]
    intro e
    have := congrArg List.length e
    rw [List.length_take, List.length_nil] at this
    omega
theorem part_size {gs : List ByteArray} {s : ByteArray} {k : Nat} (h : plP gs (spaceB s) = some k) (h16 : ∀ x ∈ spaceB s, x.size ≤ 16) (h8 : (spaceB s).length ≤ 8) : (partS gs s).size ≤ 1024 := by
  rw [partS_some h]
  have h3 := plP_lt h
  have h1 := joinB_size8 ((spaceB s).take k ++ (spaceB s).drop (k + 1)) (fun x hx => by
    rcases List.mem_append.1 hx with h5 | h5
    · exact h16 x (List.mem_of_mem_take h5)
    · exact h16 x (List.mem_of_mem_drop h5))
  rw [cut_two _ _ h3.1] at h1
  omega
theorem fIdx_none {gs : List ByteArray} (h : genB gs = true) : fIdx gs ByteArray.empty = -1 := by
  have h1 := gen_ws h
  have h2 : ByteArray.empty ∉ gs := fun hx => by
    have h3 := word_size _ (words_mem _ h1.1 _ hx)
    have h4 : ByteArray.empty.size = 0 := rfl
    omega
  unfold fIdx; rw [if_neg h2]

set_option maxHeartbeats 4000000 in
set_option maxRecDepth 100000 in
theorem tTr_spec (A A1 : Option Addr) (n n1 c c1 : Nat) (fs ts : List ByteArray) (s : ByteArray) (w : World) (hbig : n ≤ 1048576) (hbig1 : n1 ≤ 1048576) (hs : ∀ x ∈ fs, x.size ≤ maxLen) (hs1 : ∀ x ∈ ts, x.size ≤ maxLen) (hsz : s.size ≤ 1048576) (h : TextAt w w.heap.size A n fs) (h1 : TextAt w w.heap.size A1 n1 ts) :
    Calls Tryd.prog 16 #[.slice A n c, .slice A1 n1 c1, .string s] w fun e w' => e = .returned (.tuple #[.string (trS fs ts s), .int .i64 (trC fs ts s)]) ∧ Below w.heap.size w w' := by
  have HH := Lib.hid (fun W (hW : Below w.heap.size w W) => ((h.below hW (Nat.le_refl _)).more hW.size : TextAt W W.heap.size A n fs))
  have HH1 := Lib.hid (fun W (hW : Below w.heap.size w W) => ((h1.below hW (Nat.le_refl _)).more hW.size : TextAt W W.heap.size A1 n1 ts))
  have CG := Lib.hid (tGen_spec A n c w.heap.size fs w hbig hs h)
  have CG1 := Lib.hid (tGen_spec A1 n1 c1 w.heap.size ts w hbig1 hs1 h1)
  have CI := Lib.hid (cIsPhrase_spec s w (by omega))
  have HNL := Lib.hid h.1
  have HNL1 := Lib.hid h1.1
  clear h h1 hs hs1
  cases hg : genB fs
  · obtain ⟨e1, e2⟩ := tr_bad (fs := fs) (ts := ts) (s := s) (by unfold okG; rw [hg]; rfl)
    rw [e1, e2]
    rw [hg] at CG
    clear e1 e2 hg
    go_enter Tryd.func16, Tryd.ntmps16
    go_wp2_with (go_at_call 18; refine CG.out.mono ?_; rintro e w' ⟨rfl, rfl⟩)
    go_ret2
    exact ⟨rfl, Below.refl _ _⟩
  cases hg1 : genB ts
  · obtain ⟨e1, e2⟩ := tr_bad (fs := fs) (ts := ts) (s := s) (by unfold okG; rw [hg1]; simp)
    rw [e1, e2]
    rw [hg] at CG
    rw [hg1] at CG1
    clear e1 e2 hg hg1
    go_enter Tryd.func16, Tryd.ntmps16
    go_wp2_with (first
      | (go_at_call_of 18 (Value.slice A n c); refine CG.out.mono ?_; rintro e w' ⟨rfl, rfl⟩)
      | (go_at_call_of 18 (Value.slice A1 n1 c1); refine CG1.out.mono ?_; rintro e w' ⟨rfl, rfl⟩))
    go_ret2
    exact ⟨rfl, Below.refl _ _⟩
  have hfn := Lib.hid (fIdx_none hg)
  cases hp : phraseB s
  · obtain ⟨e1, e2⟩ := tr_bad (fs := fs) (ts := ts) (s := s) (by unfold okG; rw [hp]; simp)
    rw [e1, e2]
    rw [hp] at CI
    rw [hg] at CG
    rw [hg1] at CG1
    clear e1 e2 hg hg1 hp
    go_enter Tryd.func16, Tryd.ntmps16
    go_wp2_with (first
      | (go_at_call_of 18 (Value.slice A n c); refine CG.out.mono ?_; rintro e w' ⟨rfl, rfl⟩)
      | (go_at_call_of 18 (Value.slice A1 n1 c1); refine CG1.out.mono ?_; rintro e w' ⟨rfl, rfl⟩))
    refine CI.out.mono ?_
    rintro e w1 ⟨rfl, hb1⟩
    go_wp2_with fail
    go_ret2
    exact ⟨rfl, hb1⟩
  have hok : okG fs ts s = true := by unfold okG; rw [hg, hg1, hp]; rfl
  have hgw1 := gen_ws hg1
  by_cases hlen : fs.length = ts.length
  · obtain ⟨e1, e2⟩ := tr_ok hok hlen
    rw [e1, e2]
    have HNN : Hid (n = n1) := Lib.hid (by rw [HNL.out, HNL1.out]; exact hlen)
    have hdn : ((n : Int) != (n1 : Int)) = false := by rw [HNN.out]; simp
    have CA := Lib.hid (fun W (hW : Below w.heap.size w W) => tApart A n c fs s W hbig hsz (HH.out W hW) hp)
    obtain ⟨hpw, hp8⟩ := phraseB_parts s hp
    have h16 : ∀ x ∈ spaceB s, x.size ≤ 16 := fun x hx => (word_size x (words_mem _ hpw x hx)).2
    rw [hp] at CI
    rw [hg] at CG
    rw [hg1] at CG1
    cases hpl : plP fs (spaceB s) with
    | none =>
      have q1 := trR_none (ts := ts) hpl
      have q2 := partG_none hpl
      rw [q1]
      rw [q2] at CA
      have CF := Lib.hid (fun W (hW : Below w.heap.size w W) => tFind A n c W.heap.size fs ByteArray.empty W hbig (HH.out W hW))
      rw [hfn.out] at CF
      clear e1 e2 hg hg1 hp hok hgw1 hlen hpl q1 q2 hpw hp8 h16
      generalize partS fs s = PS at CA
      generalize partF fs s = PF at CA
      go_enter Tryd.func16, Tryd.ntmps16
      go_wp2_with (first
        | (go_at_call_of 18 (Value.slice A n c); refine CG.out.mono ?_; rintro e w' ⟨rfl, rfl⟩)
        | (go_at_call_of 18 (Value.slice A1 n1 c1); refine CG1.out.mono ?_; rintro e w' ⟨rfl, rfl⟩))
      refine CI.out.mono ?_
      rintro e w1 ⟨rfl, hb1⟩
      have CA1 := Lib.hid (CA.out w1 hb1)
      go_wp2_with fail
      refine CA1.out.mono ?_
      rintro e w2 ⟨rfl, hb2⟩
      have B2 := bstepP hb1 hb1.size hb2
      have hba : Below w2.heap.size w2 (w2.alloc (.cells #[.string PS, .string ByteArray.empty] 28)) := (Below.refl _ _).alloc (Nat.le_refl _) _
      have B3 := bstepP B2 B2.size hba
      have CF1 := Lib.hid (CF.out _ B3)
      obtain ⟨⟨l3, a0, a1⟩, f0, f1⟩ := PB.new w2 PS ByteArray.empty
      clear hba hb2
      go_wp2_with (go_at_call 42; refine CF1.out.mono ?_; rintro e w' ⟨rfl, rfl⟩)
      go_ret2
      exact ⟨rfl, B3⟩
    | some k =>
      obtain ⟨hk1, hk2, hk3⟩ := plP_lt hpl
      obtain ⟨p, hpe⟩ : ∃ p, p = posL fs (getT (spaceB s) k) := ⟨_, rfl⟩
      have hpp := (pos_lt fs (getT (spaceB s) k) hk3).1
      rw [← hpe] at hpp
      have htx : wordB (getT ts p) = true := words_mem ts hgw1.1 _ (List.mem_of_getElem? (getT_at (by omega)))
      have htz := word_size _ htx
      have hne : getT ts p ≠ ByteArray.empty := fun e => by
        rw [e] at htz
        have h4 : ByteArray.empty.size = 0 := rfl
        omega
      have htr : trT fs ts (getT (spaceB s) k) = getT ts p := by unfold trT; rw [← hpe]
      have q1 := tog_tr hpl htr hne
      have q2 := partG_some hpl
      have q3 := part_size hpl h16 hp8
      have q4 : fIdx fs (getT (spaceB s) k) = (p : Int) := by rw [hpe]; exact fIdx_pos hk3
      rw [q1]
      rw [q2] at CA
      have CF := Lib.hid (fun W (hW : Below w.heap.size w W) => tFind A n c W.heap.size fs (getT (spaceB s) k) W hbig (HH.out W hW))
      rw [q4] at CF
      have CT := Lib.hid (fun W => cTog (partS fs s) (getT ts p) (partF fs s) W (by omega) (by omega))
      have hp1 : p < n1 := by rw [HNL1.out]; omega
      obtain ⟨b1, o1, rfl, hbl1, hc1⟩ := (HH1.out w (Below.refl _ _)).2 (by omega)
      have cp := hc1 p (getT ts p) (getT_at (by rw [← HNL1.out]; exact hp1))
      have v1 : (0 : Int) ≤ (p : Int) := Int.natCast_nonneg _
      have v2 : (p : Int) < (n1 : Int) := by omega
      have v3 : decide ((p : Int) < 0) = false := decide_eq_false (by omega)
      have hbo : b1 < w.heap.size := hbl1
      clear e1 e2 hg hg1 hp hok hgw1 hlen hpl q1 q2 q3 q4 hpw hp8 h16 htr hne htz htx hpp hpe hk1 hk2 hk3 hc1
      generalize partS fs s = PS at CA CT ⊢
      generalize partF fs s = PF at CA CT ⊢
      generalize getT (spaceB s) k = gx at CA CF
      generalize getT ts p = tx at CT cp ⊢
      generalize togB PS tx PF = R at CT ⊢
      go_enter Tryd.func16, Tryd.ntmps16
      go_wp2_with (first
        | (go_at_call_of 18 (Value.slice A n c); refine CG.out.mono ?_; rintro e w' ⟨rfl, rfl⟩)
        | (go_at_call_of 18 (Value.slice (some ⟨b1, o1, none⟩) n1 c1); refine CG1.out.mono ?_; rintro e w' ⟨rfl, rfl⟩))
      refine CI.out.mono ?_
      rintro e w1 ⟨rfl, hb1⟩
      have CA1 := Lib.hid (CA.out w1 hb1)
      go_wp2_with fail
      refine CA1.out.mono ?_
      rintro e w2 ⟨rfl, hb2⟩
      have B2 := bstepP hb1 hb1.size hb2
      have hba : Below w2.heap.size w2 (w2.alloc (.cells #[.string PS, .string gx] 28)) := (Below.refl _ _).alloc (Nat.le_refl _) _
      have B3 := bstepP B2 B2.size hba
      have HB3 := Lib.hid B3
      have CF1 := Lib.hid (CF.out _ B3)
      obtain ⟨⟨l3, a0, a1⟩, f0, f1⟩ := PB.new w2 PS gx
      clear hba hb2
      go_wp2_with (go_at_call 42; refine CF1.out.mono ?_; rintro e w' ⟨rfl, rfl⟩)
      obtain ⟨T, f, t0, hT, ht0, hf, hback⟩ := class_of (w2.alloc (.cells #[.string PS, .string gx] 28))
      have k0 : ∀ t, (f t).cell? ⟨w2.heap.size, 0, none⟩ = some (.string PS) := fun t => ((hf t).cell (p := ⟨w2.heap.size, 0, none⟩) l3).trans a0
      have k1 : ∀ t, (f t).cell? ⟨b1, o1 + p, none⟩ = some (.string tx) := fun t => ((HB3.out.trans ((hf t).mono HB3.out.size)).cell (p := ⟨b1, o1 + p, none⟩) hbo).trans cp
      have HF := Lib.hid hf
      have HK := Lib.hid hback
      clear hf hback
      refine wp_region_class f t0 ht0 (by kernel_rfl) (by kernel_rfl) ?_
      clear ht0
      repeat (go_big_quiet_step (first
        | (go_at_call 40; exact Calls.class_of HF.out HK.out (CT.out _))))
      refine wpQuiet_nil ?_
      rintro w' ⟨t, rfl⟩
      have hbt := HB3.out.trans ((HF.out t).mono HB3.out.size)
      go_wp2
      go_ret2
      exact ⟨rfl, hbt⟩
  · obtain ⟨e1, e2⟩ := tr_len hok hlen
    rw [e1, e2]
    have hdn : ((n : Int) != (n1 : Int)) = true := by
      have h9 : n ≠ n1 := by rw [HNL.out, HNL1.out]; exact hlen
      have h8 : (n : Int) ≠ (n1 : Int) := by omega
      simpa [bne_iff_ne] using h8
    rw [hp] at CI
    rw [hg] at CG
    rw [hg1] at CG1
    clear e1 e2 hp hg hg1 hok hgw1 hlen
    go_enter Tryd.func16, Tryd.ntmps16
    go_wp2_with (first
      | (go_at_call_of 18 (Value.slice A n c); refine CG.out.mono ?_; rintro e w' ⟨rfl, rfl⟩)
      | (go_at_call_of 18 (Value.slice A1 n1 c1); refine CG1.out.mono ?_; rintro e w' ⟨rfl, rfl⟩))
    refine CI.out.mono ?_
    rintro e w1 ⟨rfl, hb1⟩
    go_wp2_with fail
    go_ret2
    exact ⟨rfl, hb1⟩
end Go.Proofs.YtippjomkbpiliaaDoor
