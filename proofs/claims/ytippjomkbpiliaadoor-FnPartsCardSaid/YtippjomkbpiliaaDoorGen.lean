/-
  The contracts of AreGenerics: the program's and the reference's answer 'genB xs'.
-/
import Derived.Test.YtippjomkbpiliaaDoorAreWords
import Derived.Test.YtippjomkbpiliaaDoorAlphaS
import Derived.Test.YtippjomkbpiliaaDoorTexts
import Derived.Test.YtippjomkbpiliaaDoorShelf
namespace Go.Proofs.YtippjomkbpiliaaDoor
set_option linter.unusedVariables false
open Go.RowKit

def gokB (xs : List ByteArray) : Bool := wordsB xs && decide xs.Nodup
/-- The texts are generics. -/
def genB (xs : List ByteArray) : Bool := decide (xs.length ≤ 16) && gokB xs
theorem nodup_step {xs : List ByteArray} {k : Nat} {x : ByteArray} (h : xs[k]? = some x) (hd : (xs.take k).Nodup) (hn : x ∉ xs.take k) : (xs.take (k + 1)).Nodup := by
  rw [take_snocL h, List.nodup_append]
  exact ⟨hd, by simp, fun a h1 b h2 e => by rw [List.mem_singleton] at h2; subst h2; subst e; exact hn h1⟩
theorem nodup_stop {xs : List ByteArray} {k : Nat} {x : ByteArray} (h : xs[k]? = some x) (hn : x ∈ xs.take k) : ¬ xs.Nodup := by
  intro hd
  have hk : k < xs.length := (List.getElem?_eq_some_iff.1 h).1
  have hx : xs[k] = x := (List.getElem?_eq_some_iff.1 h).2
  have e : xs = xs.take k ++ xs.drop k := (List.take_append_drop k xs).symm
  rw [e, List.nodup_append] at hd
  refine hd.2.2 x hn x ?_ rfl
  rw [List.drop_eq_getElem_cons hk, hx]; simp
theorem gok_zero (xs : List ByteArray) : gokB (xs.take 0) = true := by simp [gokB, wordsB]
theorem gok_step (xs : List ByteArray) (k : Nat) (x : ByteArray) (h : xs[k]? = some x) (ha : gokB (xs.take k) = true) (hl : wordB x = true) (hn : x ∉ xs.take k) : gokB (xs.take (k + 1)) = true := by
  unfold gokB at *
  rw [Bool.and_eq_true, decide_eq_true_eq] at *
  exact ⟨wordsB_step xs k x h ha.1 hl, nodup_step h ha.2 hn⟩
theorem gok_bad (xs : List ByteArray) (k : Nat) (x : ByteArray) (h : xs[k]? = some x) (hl : wordB x = false) : gokB xs = false := by
  unfold gokB; rw [wordsB_stop xs k x h hl]; rfl
theorem gok_twice (xs : List ByteArray) (k : Nat) (x : ByteArray) (h : xs[k]? = some x) (hn : x ∈ xs.take k) : gokB xs = false := by
  unfold gokB; rw [decide_eq_false (nodup_stop h hn), Bool.and_false]
theorem gen_bad (xs : List ByteArray) (h : gokB xs = false) : genB xs = false := by unfold genB; rw [h, Bool.and_false]
theorem gen_sum (xs : List ByteArray) (n : Nat) (hn : n = xs.length) (h : gokB xs = true) : genB xs = decide ((n : Int) ≤ 16) := by
  unfold genB; rw [h, Bool.and_true, ← hn, decide_eq_decide]; omega
theorem gen_long (xs : List ByteArray) (h : 16 < xs.length) : genB xs = false := by unfold genB; rw [decide_eq_false (by omega)]; rfl
theorem gen_words (xs : List ByteArray) (h : wordsB xs = false) : genB xs = false := by unfold genB gokB; rw [h]; simp
theorem gen_end (xs : List ByteArray) (h1 : xs.length ≤ 16) (h : wordsB xs = true) : genB xs = decide xs.Nodup := by unfold genB gokB; rw [h, decide_eq_true h1]; rfl
theorem gen_nil : genB [] = true := by decide
theorem contains_dec (xs : List ByteArray) (x : ByteArray) : Lib.containsS xs x = decide (x ∈ xs) := by
  by_cases h : x ∈ xs
  · rw [decide_eq_true h]; exact (Lib.containsS_iff xs x).2 h
  · rw [decide_eq_false h]
    cases hc : Lib.containsS xs x
    · rfl
    · exact absurd ((Lib.containsS_iff xs x).1 hc) h
theorem cells_getD {w : World} {b o : Nat} {xs : List ByteArray} (hc : ∀ (j : Nat) x, xs[j]? = some x → w.cell? ⟨b, o + j, none⟩ = some (.string x)) :
    ∀ j, j < xs.length → w.cell? ⟨b, o + j, none⟩ = some (.string (xs.getD j ByteArray.empty)) := fun j hj => by
  have h := List.getElem?_eq_getElem hj
  rw [hc j _ h]; simp [List.getD, h]

set_option maxHeartbeats 400000 in
theorem cDifS (b o c n : Nat) (xs : List ByteArray) (w : World) (hn : n = xs.length) (hbig : n ≤ 1048576) (hcap : n ≤ c)
    (hc : ∀ (j : Nat) x, xs[j]? = some x → w.cell? ⟨b, o + j, none⟩ = some (.string x)) :
    Calls Tryd.prog 44 #[.slice (some ⟨b, o, none⟩) n c] w fun e w' => e = .returned (.bool (decide xs.Nodup)) ∧ w = w' := by
  have HN := Lib.hid hn
  have HC := Lib.hid hc
  have CC := Lib.hid (fun (k : Nat) (hk : k ≤ n) (x : ByteArray) => Tryd.slices_Contains_string b o k c xs x w (by omega) (by omega) (cells_getD hc))
  clear hn hc
  go_enter Tryd.func44, Tryd.ntmps44
  go_wp2
  go_loop [7] (fun i => ∃ k : Nat, k ≤ n ∧ i = .int .i64 k ∧ Hid ((xs.take k).Nodup)) (fun i => n - (intOf i).toNat)
  case atStart => exact ⟨0, Nat.zero_le _, rfl, Lib.hid (by simp)⟩
  case round =>
    obtain ⟨k, hk, rfl, HA⟩ := hrel
    by_cases hlt : k < n
    · obtain ⟨x, hx⟩ : ∃ x, xs[k]? = some x := ⟨xs[k]'(by have := HN.out; omega), List.getElem?_eq_getElem _⟩
      have hcx := HC.out k x hx
      have HX := Lib.hid hx
      have hkc : k ≤ c := by omega
      have CK := CC.out k hk x
      rw [contains_dec] at CK
      have CX := Lib.hid CK
      clear hx CK
      by_cases hm : x ∈ xs.take k
      · rw [decide_eq_true hm] at CX
        have HM := Lib.hid (nodup_stop HX.out hm)
        clear hm
        go_wp2_with (go_at_call 47; refine CX.out.mono ?_; rintro e w' ⟨rfl, rfl⟩)
        go_ret
        exact ⟨ret_bool (decide_eq_false HM.out).symm, rfl⟩
      · rw [decide_eq_false hm] at CX
        have HM := Lib.hid (nodup_step HX.out HA.out hm)
        clear hm
        go_wp2_with (go_at_call 47; refine CX.out.mono ?_; rintro e w' ⟨rfl, rfl⟩)
        go_round
        case rel => exact ⟨k + 1, by omega, by go_num, HM⟩
        case measure => simp [intOf]; omega
    · have HE := Lib.hid (show xs.Nodup by have := HA.out; rwa [List.take_of_length_le (by have := HN.out; omega)] at this)
      go_wp2
      go_ret
      exact ⟨ret_bool (decide_eq_true HE.out).symm, rfl⟩
theorem cDifS_none (A : Option Addr) (c : Nat) (w : World) :
    Calls Tryd.prog 44 #[.slice A 0 c] w fun e w' => e = .returned (.bool true) ∧ w = w' := by
  go_enter Tryd.func44, Tryd.ntmps44
  go_wp2
  refine wp_loop_rounds 1 ?_
  rw [rounds_succ]
  go_wp2
  go_ret
  exact ⟨rfl, rfl⟩
theorem cAreAll_none (A : Option Addr) (c : Nat) (f : Value) (w : World) :
    Calls Tryd.prog 58 #[.slice A 0 c, f] w fun e w' => e = .returned (.bool true) ∧ w = w' := by
  go_enter Tryd.func58, Tryd.ntmps58
  go_wp2
  refine wp_loop_rounds 1 ?_
  rw [rounds_succ]
  go_wp2
  go_ret
  exact ⟨rfl, rfl⟩
theorem cAreWords_none (A : Option Addr) (c : Nat) (w : World) :
    Calls Tryd.prog 43 #[.slice A 0 c] w fun e w' => e = .returned (.bool true) ∧ w = w' := by
  go_enter Tryd.func43, Tryd.ntmps43
  go_wp2_with (go_at_call 58; refine (cAreAll_none _ _ _ _).mono ?_; rintro e w' ⟨rfl, rfl⟩)
  go_ret
  exact ⟨rfl, rfl⟩
theorem tDifS (A : Option Addr) (n c B : Nat) (xs : List ByteArray) (w : World) (hbig : n ≤ 1048576) (hcap : n ≤ c) (h : TextAt w B A n xs) :
    Calls Tryd.prog 44 #[.slice A n c] w fun e w' => e = .returned (.bool (decide xs.Nodup)) ∧ w = w' := by
  rcases Nat.eq_zero_or_pos n with rfl | hp
  · obtain rfl : xs = [] := List.eq_nil_of_length_eq_zero h.1.symm
    exact (cDifS_none A c w).mono fun e w' ⟨h1, h2⟩ => ⟨by rw [h1]; rfl, h2⟩
  · obtain ⟨b, o, rfl, hb, hc⟩ := h.2 hp
    exact cDifS b o c n xs w h.1 hbig hcap hc
theorem tWords (A : Option Addr) (n c B : Nat) (xs : List ByteArray) (w : World) (hbig : n ≤ 1048576) (hs : ∀ x ∈ xs, x.size ≤ maxLen) (h : TextAt w B A n xs) :
    Calls Tryd.prog 43 #[.slice A n c] w fun e w' => e = .returned (.bool (wordsB xs)) ∧ w = w' := by
  rcases Nat.eq_zero_or_pos n with rfl | hp
  · obtain rfl : xs = [] := List.eq_nil_of_length_eq_zero h.1.symm
    exact cAreWords_none A c w
  · obtain ⟨b, o, rfl, hb, hc⟩ := h.2 hp
    exact cAreWords b o c n xs w h.1 (by omega) hs hc

set_option maxHeartbeats 400000 in
theorem tGen_impl (A : Option Addr) (n c B : Nat) (xs : List ByteArray) (w : World) (hbig : n ≤ 1048576) (hcap : n ≤ c) (hs : ∀ x ∈ xs, x.size ≤ maxLen) (h : TextAt w B A n xs) :
    Calls Tryd.prog 17 #[.slice A n c] w fun e w' => e = .returned (.bool (genB xs)) ∧ w = w' := by
  have CW := Lib.hid (tWords A n c B xs w hbig hs h)
  have CD := Lib.hid (tDifS A n c B xs w hbig hcap h)
  have HN := Lib.hid h.1
  clear h hs
  by_cases hl : n ≤ 16
  · have hd : decide ((n : Int) ≤ 16) = true := decide_eq_true (by omega)
    cases hw : wordsB xs
    · rw [hw] at CW
      have HG := Lib.hid (gen_words xs hw)
      clear hw
      go_enter Tryd.func17, Tryd.ntmps17
      go_wp2_with (go_at_call 43; refine CW.out.mono ?_; rintro e w' ⟨rfl, rfl⟩)
      go_ret
      exact ⟨ret_bool HG.out.symm, rfl⟩
    · rw [hw] at CW
      have HG := Lib.hid (gen_end xs (by have := HN.out; omega) hw)
      clear hw
      rw [← HG.out] at CD
      clear HG
      generalize genB xs = r at CD ⊢
      go_enter Tryd.func17, Tryd.ntmps17
      go_wp2_with (first
        | (go_at_call 43; refine CW.out.mono ?_; rintro e w' ⟨rfl, rfl⟩)
        | (go_at_call 44; refine CD.out.mono ?_; rintro e w' ⟨rfl, rfl⟩))
      go_ret
      exact ⟨rfl, rfl⟩
  · have hd : decide ((n : Int) ≤ 16) = false := decide_eq_false (by omega)
    have HG := Lib.hid (gen_long xs (by have := HN.out; omega))
    go_enter Tryd.func17, Tryd.ntmps17
    go_wp2_with fail
    go_ret
    exact ⟨ret_bool HG.out.symm, rfl⟩

set_option maxHeartbeats 1000000 in
theorem cGen_spec (b o c n : Nat) (xs : List ByteArray) (w : World) (hn : n = xs.length) (hbig : n ≤ 1048576) (hs : ∀ x ∈ xs, x.size ≤ maxLen)
    (hc : ∀ (j : Nat) x, xs[j]? = some x → w.cell? ⟨b, o + j, none⟩ = some (.string x)) :
    Calls Tryd.prog 18 #[.slice (some ⟨b, o, none⟩) n c] w fun e w' => e = .returned (.bool (genB xs)) ∧ w = w' := by
  have CF := Lib.hid (fun s => cFind s b o c n xs w hn (by unfold maxLen; omega) hc)
  have HN := Lib.hid hn
  have HC := Lib.hid hc
  have HS := Lib.hid hs
  clear hn hc hs
  go_enter Tryd.func18, Tryd.ntmps18
  go_wp2
  go_loop [3] (fun i => ∃ k : Nat, k ≤ n ∧ i = .int .i64 k ∧ Hid (gokB (xs.take k) = true)) (fun i => n - (intOf i).toNat)
  case atStart => exact ⟨0, Nat.zero_le _, rfl, Lib.hid (gok_zero xs)⟩
  case round =>
    obtain ⟨k, hk, rfl, HA⟩ := hrel
    by_cases hlt : k < n
    · obtain ⟨x, hx⟩ : ∃ x, xs[k]? = some x := ⟨xs[k]'(by have := HN.out; omega), List.getElem?_eq_getElem _⟩
      have hcx := HC.out k x hx
      have hsx := HS.out x (List.mem_of_getElem? hx)
      have HX := Lib.hid hx
      clear hx
      cases hb : wordB x
      · have HB := Lib.hid hb
        go_wp2_with (go_at_call 39; refine (cIsWord_spec x _ hsx).mono ?_; rintro e w' ⟨rfl, rfl⟩)
        go_ret
        exact ⟨ret_bool (gen_bad xs (gok_bad xs k x HX.out HB.out)).symm, rfl⟩
      · have HB := Lib.hid hb
        by_cases hm : x ∈ xs.take k
        · have hf : (fIdx xs x == (k : Int)) = false := by rw [beq_eq_false_iff_ne]; exact fIdx_earlier xs k x HX.out hm
          have hf2 : (fIdx xs x != (k : Int)) = true := by rw [bne, hf]; rfl
          have HM := Lib.hid hm
          clear hm
          go_wp2_with (first
            | (go_at_call 39; refine (cIsWord_spec x _ hsx).mono ?_; rintro e w' ⟨rfl, rfl⟩)
            | (go_at_call 42; refine (CF.out x).mono ?_; rintro e w' ⟨rfl, rfl⟩))
          go_ret
          exact ⟨ret_bool (gen_bad xs (gok_twice xs k x HX.out HM.out)).symm, rfl⟩
        · have hf : (fIdx xs x == (k : Int)) = true := by rw [beq_iff_eq]; exact fIdx_hit xs k x HX.out hm
          have hf2 : (fIdx xs x != (k : Int)) = false := by rw [bne, hf]; rfl
          have HM := Lib.hid hm
          clear hm
          go_wp2_with (first
            | (go_at_call 39; refine (cIsWord_spec x _ hsx).mono ?_; rintro e w' ⟨rfl, rfl⟩)
            | (go_at_call 42; refine (CF.out x).mono ?_; rintro e w' ⟨rfl, rfl⟩))
          go_round
          case rel => exact ⟨k + 1, by omega, by go_num, Lib.hid (gok_step xs k x HX.out HA.out HB.out HM.out)⟩
          case measure => simp [intOf]; omega
    · have HE := Lib.hid (gen_sum xs n HN.out (by have := HA.out; rwa [List.take_of_length_le (by have := HN.out; omega)] at this))
      go_wp2
      go_ret
      exact ⟨ret_bool HE.out.symm, rfl⟩
theorem cGen_spec_none (A : Option Addr) (c : Nat) (w : World) :
    Calls Tryd.prog 18 #[.slice A 0 c] w fun e w' => e = .returned (.bool true) ∧ w = w' := by
  go_enter Tryd.func18, Tryd.ntmps18
  go_wp2
  refine wp_loop_rounds 1 ?_
  rw [rounds_succ]
  go_wp2
  go_ret
  exact ⟨rfl, rfl⟩
theorem tGen_spec (A : Option Addr) (n c B : Nat) (xs : List ByteArray) (w : World) (hbig : n ≤ 1048576) (hs : ∀ x ∈ xs, x.size ≤ maxLen) (h : TextAt w B A n xs) :
    Calls Tryd.prog 18 #[.slice A n c] w fun e w' => e = .returned (.bool (genB xs)) ∧ w = w' := by
  rcases Nat.eq_zero_or_pos n with rfl | hp
  · obtain rfl : xs = [] := List.eq_nil_of_length_eq_zero h.1.symm
    exact (cGen_spec_none A c w).mono fun e w' ⟨h1, h2⟩ => ⟨by rw [h1, gen_nil], h2⟩
  · obtain ⟨b, o, rfl, hb, hc⟩ := h.2 hp
    exact cGen_spec b o c n xs w h.1 hbig hs hc
end Go.Proofs.YtippjomkbpiliaaDoor
