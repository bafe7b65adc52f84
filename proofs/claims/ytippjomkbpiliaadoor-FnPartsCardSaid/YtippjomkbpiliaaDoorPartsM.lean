/-
  Plain facts for the law of parts: what is taken apart goes together again, and a generic that stands for itself changes nothing.
-/
import Derived.Test.YtippjomkbpiliaaDoorTrS
namespace Go.Proofs.YtippjomkbpiliaaDoor
set_option linter.unusedVariables false
open Go.RowKit

theorem trT_same {gs : List ByteArray} {x : ByteArray} (h : x ∈ gs) : trT gs gs x = x := by
  unfold trT getT
  rw [List.getD_eq_getElem?_getD, (pos_lt gs x h).2]; rfl
theorem join_self (s : ByteArray) : joinB (spaceB s) = s := join_bl s.size s (Nat.le_refl _)
theorem trR_same (fs : List ByteArray) (s : ByteArray) : trR fs fs s = s := by
  cases hpl : plP fs (spaceB s) with
  | none => exact trR_none hpl
  | some k =>
    have h3 := plP_lt hpl
    rw [trR_some hpl, trT_same h3.2.2]
    have e : (spaceB s).set k (getT (spaceB s) k) = spaceB s := by
      apply List.ext_getElem?
      intro i
      rw [List.getElem?_set]
      split
      · rename_i h; subst h; rw [if_pos h3.1]; exact (getT_at h3.1).symm
      · rfl
    rw [e]; exact join_self s
theorem word_ne {x : ByteArray} (h : wordB x = true) : x ≠ ByteArray.empty := fun e => by
  have h3 := word_size _ h
  have h4 : ByteArray.empty.size = 0 := rfl
  rw [e] at h3
  omega
theorem tr_zero {fs ts : List ByteArray} {ph : ByteArray} (h : trC fs ts ph = 0) : genB fs = true ∧ phraseB ph = true ∧ trS fs ts ph = trR fs ts ph := by
  cases hok : okG fs ts ph
  · rw [(tr_bad hok).2] at h; cases h
  · by_cases hl : fs.length = ts.length
    · have h2 := (tr_ok hok hl).1
      unfold okG at hok
      rw [Bool.and_eq_true, Bool.and_eq_true] at hok
      exact ⟨hok.1.1, hok.2, h2⟩
    · rw [(tr_len hok hl).2] at h; cases h
theorem tr_facts {fs ts : List ByteArray} {ph : ByteArray} (h : trC fs ts ph = 0) :
    taC fs ph = 0 ∧ trS fs fs ph = ph ∧ trC fs fs ph = 0 ∧ (taG fs ph = ByteArray.empty → trS fs ts ph = ph) := by
  obtain ⟨h1, h2, h3⟩ := tr_zero h
  have hT : okT fs ph = true := by unfold okT; rw [h1, h2]; rfl
  have hG : okG fs fs ph = true := by unfold okG; rw [h1, h2]; rfl
  have a := ta_ok hT
  have b := tr_ok hG rfl
  refine ⟨a.1, by rw [b.1]; exact trR_same fs ph, b.2, fun he => ?_⟩
  rw [a.2.2] at he
  rw [h3]
  cases hpl : plP fs (spaceB ph) with
  | none => exact trR_none hpl
  | some k =>
    rw [partG_some hpl] at he
    exact absurd he (word_ne (words_mem _ (gen_ws h1).1 _ (plP_lt hpl).2.2))
theorem put_okP {cut : List ByteArray} {x : ByteArray} (hc : cut ≠ []) (hw : wordsB cut = true) (hx : wordB x = true) (h8 : cut.length + 1 ≤ 8) (b : Bool) : okP (joinB cut) x b = true := by
  have hp : phraseB (joinB cut) = true := by
    rw [phrase_join cut hc hw]; unfold joinOk; rw [hw, decide_eq_true (by omega)]; rfl
  have hne := word_ne hx
  have hq : phraseB (togB (joinB cut) x b) = true := by
    cases b
    · rw [tog_last hne, ← joinB_snoc cut x hc, phrase_join _ (by simp) (by rw [words_snoc, hw, hx]; rfl)]
      unfold joinOk
      rw [words_snoc, hw, hx, decide_eq_true (by simp; omega)]; rfl
    · rw [tog_first hne, ← join_cons8 x cut hc, phrase_join _ (by simp) (by rw [words_cons, hw, hx]; rfl)]
      unfold joinOk
      rw [words_cons, hw, hx, decide_eq_true (by simp; omega)]; rfl
  unfold okP
  rw [hp, hx, hq, Bool.true_and, Bool.true_and, Bool.or_true]
theorem take_facts {gs : List ByteArray} {s : ByteArray} (h : taC gs s = 0) (hs : s.size ≤ 4000) :
    (taS gs s).size ≤ 4000 ∧ (taG gs s).size ≤ 16 ∧ ptC (taS gs s) (taG gs s) true = 0 ∧ ptC (taS gs s) (taG gs s) false = 0 ∧ (ptS (taS gs s) (taG gs s) true = s ∨ ptS (taS gs s) (taG gs s) false = s) ∧ (taG gs s = ByteArray.empty ∨ taG gs s ∈ gs) := by
  cases hok : okT gs s
  · rw [(ta_bad hok).1] at h; cases h
  have a := ta_ok hok
  rw [a.2.1, a.2.2]
  unfold okT at hok
  rw [Bool.and_eq_true] at hok
  cases hpl : plP gs (spaceB s) with
  | none =>
    rw [partS_none hpl, partG_none hpl]
    have hk : ∀ b, okP s ByteArray.empty b = true := fun b => by unfold okP; rw [hok.2, decide_eq_true rfl]; rfl
    have h4 : ByteArray.empty.size = 0 := rfl
    refine ⟨hs, by omega, (pt_ok (hk true)).2, (pt_ok (hk false)).2, Or.inl ?_, Or.inl rfl⟩
    rw [(pt_ok (hk true)).1]; exact tog_none s true
  | some k =>
    have h3 := plP_lt hpl
    obtain ⟨hpw, hp8⟩ := phraseB_parts s hok.2
    have h16 : ∀ x ∈ spaceB s, x.size ≤ 16 := fun x hx => (word_size x (words_mem _ hpw x hx)).2
    have hps := part_size hpl h16 hp8
    have hx : wordB (getT (spaceB s) k) = true := words_mem _ (gen_ws hok.1).1 _ h3.2.2
    have hcl := cut_two (spaceB s) k h3.1
    have hc : (spaceB s).take k ++ (spaceB s).drop (k + 1) ≠ [] := fun e => by
      rw [e, List.length_nil] at hcl; omega
    have hw : wordsB ((spaceB s).take k ++ (spaceB s).drop (k + 1)) = true := by
      unfold wordsB at hpw ⊢
      rw [List.all_eq_true] at hpw ⊢
      intro y hy
      rcases List.mem_append.1 hy with h5 | h5
      · exact hpw y (List.mem_of_mem_take h5)
      · exact hpw y (List.mem_of_mem_drop h5)
    have hk : ∀ b, okP (partS gs s) (partG gs s) b = true := fun b => by
      rw [partS_some hpl, partG_some hpl]
      exact put_okP hc hw hx (by omega) b
    have ht := tog_tr (ts := gs) hpl (trT_same h3.2.2) (word_ne hx)
    rw [trR_same] at ht
    have e2 := partG_some hpl
    refine ⟨by omega, by rw [e2]; exact (word_size _ hx).2, (pt_ok (hk true)).2, (pt_ok (hk false)).2, ?_, Or.inr (by rw [e2]; exact h3.2.2)⟩
    rw [(pt_ok (hk true)).1, (pt_ok (hk false)).1, e2]
    cases hf : partF gs s
    · rw [hf] at ht; exact Or.inr ht.symm
    · rw [hf] at ht; exact Or.inl ht.symm
end Go.Proofs.YtippjomkbpiliaaDoor
