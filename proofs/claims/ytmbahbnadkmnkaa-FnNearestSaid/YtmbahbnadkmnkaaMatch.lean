/-
  The contracts of MatchSounds, of the program and of the reference.
-/
import Derived.Test.YtmbahbnadkmnkaaSndX
import Derived.Deep.RegionWith
import Derived.Laws.OwnMore
namespace Go.Proofs.Ytmbahbnadkmnkaa
set_option linter.unusedVariables false
open Go.RowKit

/-- A row of numbers of one's own and a code. -/
def OutI (zs : List Int) (code : Int) (w : World) (e : Ending) (w' : World) : Prop :=
  ∃ A n c, e = .returned (.tuple #[.slice A n c, .int .i64 code]) ∧ w'.ownsRow w.heap.size 2 1 (.slice A n c) n (intV zs) ∧ Below w.heap.size w w'
theorem OutI.nil {w w' : World} {code : Int} {e : Ending} (he : e = .returned (.tuple #[.slice none 0 0, .int .i64 code])) (hb : Below w.heap.size w w') : OutI [] code w e w' := ⟨none, 0, 0, he, World.ownsRow_nil _ _ _ _, hb⟩
theorem OutI.of {w w' : World} {zs : List Int} {code : Int} {e : Ending} {v : Value} {n B : Nat} (he : e = .returned (.tuple #[v, .int .i64 code])) (h : w'.ownsRow B 2 1 v n (intV zs)) (hB : w.heap.size ≤ B) (hb : Below w.heap.size w w') : OutI zs code w e w' := by
  have h2 := rowBase h hB
  rcases h.2 with ⟨hv, h0⟩ | ⟨g, cap, cur, hv, _⟩
  · subst hv; subst h0; exact ⟨none, 0, 0, he, h2, hb⟩
  · subst hv; exact ⟨_, n, cap, he, h2, hb⟩
def hitK (xs : List Int) (ls : List ByteArray) (s : ByteArray) (k : Nat) : Bool := (sndB xs (ls.getD k ByteArray.empty)).toList == (sndB xs s).toList
theorem hitK_at {xs : List Int} {ls : List ByteArray} {s x : ByteArray} {k : Nat} (h : ls[k]? = some x) : hitK xs ls s k = ((sndB xs x).toList == (sndB xs s).toList) := by
  unfold hitK; rw [List.getD_eq_getElem?_getD, h]; rfl
def matU (xs : List Int) (ls : List ByteArray) (s : ByteArray) : Nat → List Int
  | 0 => []
  | k + 1 => if hitK xs ls s k then matU xs ls s k ++ [(k : Int)] else matU xs ls s k
theorem matU_yes {xs : List Int} {ls : List ByteArray} {s : ByteArray} {k : Nat} (h : hitK xs ls s k = true) : matU xs ls s (k + 1) = matU xs ls s k ++ [(k : Int)] := by show (if _ then _ else _) = _; rw [if_pos h]
theorem matU_no {xs : List Int} {ls : List ByteArray} {s : ByteArray} {k : Nat} (h : hitK xs ls s k = false) : matU xs ls s (k + 1) = matU xs ls s k := by show (if _ then _ else _) = _; rw [if_neg (by rw [h]; decide)]
theorem matU_len (xs : List Int) (ls : List ByteArray) (s : ByteArray) (k : Nat) : (matU xs ls s k).length ≤ k := by
  induction k with
  | zero => exact Nat.le_refl _
  | succ k ih =>
    cases h : hitK xs ls s k
    · rw [matU_no h]; omega
    · rw [matU_yes h, List.length_append, List.length_singleton]; omega
def matZ (xs : List Int) (ls : List ByteArray) (s : ByteArray) : List Int := if code7 xs ls [s] = 0 then matU xs ls s ls.length else []
theorem matZ_no {xs : List Int} {ls : List ByteArray} {s : ByteArray} (h : code7 xs ls [s] ≠ 0) : matZ xs ls s = [] := by unfold matZ; rw [if_neg h]
theorem matZ_yes {xs : List Int} {ls : List ByteArray} {s : ByteArray} (h : code7 xs ls [s] = 0) : matZ xs ls s = matU xs ls s ls.length := by unfold matZ; rw [if_pos h]
theorem matZ_len (xs : List Int) (ls : List ByteArray) (s : ByteArray) : (matZ xs ls s).length ≤ 20 := by
  unfold matZ; split
  · rename_i h
    have h1 := (code7_zero h).2.2.2
    have h2 := matU_len xs ls s ls.length
    omega
  · simp

set_option maxHeartbeats 2000000 in
set_option maxRecDepth 100000 in
theorem cMatch_impl (A A1 : Option Addr) (n c n1 c1 : Nat) (xs : List Int) (ls : List ByteArray) (s : ByteArray) (w : World) (hb : n ≤ maxLen) (h : NumAt w w.heap.size A n xs) (hb1 : n1 ≤ maxLen) (hs1 : ∀ x ∈ ls, x.size ≤ maxLen) (h1 : TextAt w w.heap.size A1 n1 ls) (hs : s.size ≤ maxLen) :
    Calls Try.prog 31 #[.slice A n c, .slice A1 n1 c1, .string s] w (OutI (matZ xs ls s) (code7 xs ls [s]) w) := by
  obtain ⟨i0, hi0, hz0, hz1, hz2⟩ := info_parts info_i64
  have hB0 : Below w.heap.size w (w.alloc (.cells #[.string s] 9)) := (Below.refl _ _).alloc (Nat.le_refl _) _
  have CF := Lib.hid (cTabFor A A1 (some ⟨w.heap.size, 0, none⟩) n c n1 c1 1 1 xs ls [s] (w.alloc (.cells #[.string s] 9)) hb ((h.below hB0 (Nat.le_refl _)).more hB0.size) hb1 hs1 ((h1.below hB0 (Nat.le_refl _)).more hB0.size) (by unfold maxLen; omega) (by simpa using hs) (text_one w s))
  have HB0 := Lib.hid hB0
  have HSZ := Lib.hid (tabC_size xs)
  have HCL := Lib.hid (tabC_cells xs)
  have HL := Lib.hid h1.1
  have HT1 : Hid (∀ W, Below w.heap.size w W → TextAt W w.heap.size A1 n1 ls) := Lib.hid (fun W hW => h1.below hW (Nat.le_refl _))
  have hz := zero26
  have hne := zs26_ne
  unfold ForOut at CF
  unfold maxLen at hb1
  clear h h1 hB0
  by_cases h0 : code7 xs ls [s] = 0
  · rw [matZ_yes h0, h0]
    rw [h0] at CF
    have hh := code7_zero h0
    have hn20 : n1 ≤ 20 := by rw [HL.out]; exact hh.2.2.2
    have CW := Lib.hid (fun x W (hx : x ∈ ls) => cSoundOfI xs x W hh.1 (wordsB_mem hh.2.1 hx))
    have CS := Lib.hid (fun W => cSoundOfI xs s W hh.1 (by rw [← wordsB_one]; exact hh.2.2.1))
    have HT := Lib.hid (tabC_yes hh.1)
    rw [HT.out] at CF HSZ HCL
    obtain ⟨cs, hcs⟩ : ∃ cs, cs = agC xs := ⟨_, rfl⟩
    rw [← hcs] at CF HSZ HCL CW CS
    have HHIT : Hid (∀ k x, ls[k]? = some x → hitK xs ls s k = ((sndB xs x).toList == (sndB xs s).toList)) := Lib.hid (fun k x => hitK_at)
    obtain ⟨y, hy⟩ : ∃ y, y = sndB xs s := ⟨_, rfl⟩
    rw [← hy] at CS HHIT
    clear h0 hh hcs HT hy
    go_enter Try.func31, Try.ntmps31
    go_wp2_with fail
    refine CF.out.mono ?_
    rintro e w1 ⟨rfl, hb1⟩
    have HB1 := Lib.hid (HB0.out.trans (hb1.mono HB0.out.size))
    have T1 := Lib.hid (TabAt.new w1 75 zs26)
    have HB2 := Lib.hid (HB1.out.alloc HB1.out.size (.cells zs26 75))
    have HB3 := Lib.hid (below_setRow HB2.out HB1.out.size cs)
    have T2 : Hid (TabAt ((w1.alloc (.cells zs26 75)).setRow w1.heap.size cs) w1.heap.size 75 cs) := Lib.hid (TabAt.setSame T1.out)
    clear hb1
    have HW1 : Hid (w.heap.size ≤ w1.heap.size) := Lib.hid HB1.out.size
    have HS2 : Hid (w1.heap.size + 1 ≤ ((w1.alloc (.cells zs26 75)).setRow w1.heap.size cs).heap.size) := Lib.hid (by have := T2.out.lt; omega)
    go_wp2_with (first
      | (refine wpList_store_row rfl _ _ _ rfl w1.heap.size _ rfl rfl 75 _ T1.out (size26.trans (by rw [HSZ.out])) (by rw [zs26_size, HSZ.out]) HCL.out ?_)
      | (refine wpList_load_row rfl _ _ rfl w1.heap.size rfl 75 _ (0, 0) _ T2.out Try.underlying75 rfl (size26.trans (by rw [HSZ.out])) ?_)
      | (go_at_call 59; refine (CS.out _).mono ?_; rintro e w3 ⟨rfl, hb3⟩))
    have T3 : Hid (TabAt w3 w1.heap.size 75 cs) := Lib.hid (T2.out.below hb3 (by have := HS2.out; omega))
    have HB4 : Hid (Below w.heap.size w w3) := Lib.hid (HB3.out.trans (hb3.mono HB3.out.size))
    have HS3 : Hid (w1.heap.size + 1 ≤ w3.heap.size) := Lib.hid (Nat.le_trans HS2.out hb3.size)
    clear hb3 HB3 HB2 HB1 T1 T2 HS2 hz hne CF CS
    go_loopw [10, 12, 13, 30] (fun v p q i wr => ∃ (k m : Nat) (v1 p1 q1 : Value), v1 = v ∧ p1 = p ∧ q1 = q ∧ k ≤ n1 ∧ m ≤ k ∧ i = .int .i64 k ∧ Hid (wr.ownsRow (w1.heap.size + 1) 2 1 v1 m (intV (matU xs ls s k))) ∧ Hid (TabAt wr w1.heap.size 75 cs) ∧ Hid (Below w.heap.size w wr) ∧ Hid (w1.heap.size + 1 ≤ wr.heap.size)) (fun _ _ _ i _ => n1 - (intOf i).toNat)
    case atStart => exact ⟨0, 0, _, _, _, rfl, rfl, rfl, Nat.zero_le _, Nat.le_refl _, rfl, Lib.hid (World.ownsRow_nil _ _ _ _), T3, HB4, HS3⟩
    case round =>
      clear T3 HB4 HS3
      obtain ⟨k, m, v, p, q, rfl, rfl, rfl, hk, hm, rfl, HO, HT, HB, HS⟩ := hrel
      by_cases hlt : k < n1
      · obtain ⟨x, hx⟩ : ∃ x, ls[k]? = some x := ⟨ls[k]'(by have := HL.out; omega), List.getElem?_eq_getElem _⟩
        obtain ⟨b, o, rfl, hbl, hcc⟩ := (HT1.out wr HB.out).2 (by omega)
        have hcx := hcc k x hx
        have CX := Lib.hid (fun W => CW.out x W (List.mem_of_getElem? hx))
        have HH := Lib.hid (HHIT.out k x hx)
        obtain ⟨z, hz⟩ : ∃ z, z = sndB xs x := ⟨_, rfl⟩
        rw [← hz] at CX HH
        clear hx hcc hz
        cases hd : (z.toList == y.toList)
        · have HU : Hid (matU xs ls s (k + 1) = matU xs ls s k) := Lib.hid (matU_no (by rw [HH.out, hd]))
          go_wp2_with (first
            | (refine wpList_load_row rfl _ _ rfl w1.heap.size rfl 75 _ (0, 0) _ HT.out Try.underlying75 rfl (size26.trans (by rw [HSZ.out])) ?_)
            | (go_at_call 59; refine (CX.out _).mono ?_; rintro e w4 ⟨rfl, hb4⟩))
          go_roundw
          case rel => exact ⟨k + 1, m, v, _, _, rfl, rfl, rfl, by omega, by omega, by go_num, Lib.hid (by rw [HU.out]; exact ownsRow_keep HO.out hb4), Lib.hid (HT.out.below hb4 (by have := HS.out; omega)), Lib.hid (HB.out.trans (hb4.mono HB.out.size)), Lib.hid (Nat.le_trans HS.out hb4.size)⟩
          case measure => simp [intOf]; omega
        · have HU : Hid (matU xs ls s (k + 1) = matU xs ls s k ++ [(k : Int)]) := Lib.hid (matU_yes (by rw [HH.out, hd]))
          go_wp2_with (first
            | (refine wpList_load_row rfl _ _ rfl w1.heap.size rfl 75 _ (0, 0) _ HT.out Try.underlying75 rfl (size26.trans (by rw [HSZ.out])) ?_)
            | (go_at_call 59; refine (CX.out _).mono ?_; rintro e w4 ⟨rfl, hb4⟩; have hO4 := Lib.hid (ownsRow_keep HO.out hb4); have hT4 := Lib.hid (HT.out.below hb4 (by have := HS.out; omega)); have hB4 := Lib.hid (HB.out.trans (hb4.mono HB.out.size)); have hS4 := Lib.hid (Nat.le_trans HS.out hb4.size); clear hb4)
            | (at_builtin; refine wpList_append_own _ rfl _ _ 27 rfl (w1.heap.size + 1) 2 i0 _ 1 8 Try.underlying27 hi0 hz0 hz1 hz2 rfl (by decide) _ _ _ rfl (World.ownsRow.alloc (w := w4) hO4.out _) ⟨w4.heap.size, 0, none⟩ 1 1 [.int .i64 (k : Int)] rfl rfl ?c1 ?c2 ?c3 ?c4 ?c5 ?_))
          case c1 => exact one_cell' _ _ _ (new_one w4 _ _)
          case c2 => intro u hu; simp at hu; subst hu; rfl
          case c3 => unfold maxLen; omega
          case c4 => omega
          case c5 => have := hS4.out; simp; omega
          intro v' w9 hown9 hgrow9 _
          rw [intV_snoc, ← HU.out] at hown9
          have HO9 := Lib.hid hown9
          have HB9 : Hid (Below w.heap.size w w9) := Lib.hid ((hB4.out.alloc hB4.out.size _).grown hgrow9 (by have := hB4.out.size; simp; omega) (fun x hx => by have h1 := (hO4.out.lt x hx).1; have := HW1.out; omega))
          have HT9 : Hid (TabAt w9 w1.heap.size 75 cs) := Lib.hid ((hgrow9.block w1.heap.size (by have := hS4.out; simp; omega) (fun e => by have h1 := (hO4.out.lt _ e.symm).1; omega)).trans (TabAt.alloc hT4.out _))
          have HS9 : Hid (w1.heap.size + 1 ≤ w9.heap.size) := Lib.hid (by have h1 := hgrow9.size; have := hS4.out; simp at h1; omega)
          clear hown9 hgrow9
          go_wp2_with fail
          go_roundw
          case rel => exact ⟨k + 1, m + 1, v', _, _, rfl, rfl, rfl, by omega, by omega, by go_num, HO9, HT9, HB9, HS9⟩
          case measure => simp [intOf]; omega
      · have HKN : Hid (ls.length = k) := Lib.hid (by have := HL.out; omega)
        go_wp2_with fail
        go_ret2
        refine OutI.of rfl (by rw [HKN.out]; exact HO.out) (by have := HW1.out; omega) HB.out
  · rw [matZ_no h0]
    obtain ⟨d, hd⟩ : ∃ d, d = code7 xs ls [s] := ⟨_, rfl⟩
    rw [← hd] at CF h0 ⊢
    obtain ⟨cs, hcs⟩ : ∃ cs, cs = tabC xs := ⟨_, rfl⟩
    rw [← hcs] at CF HSZ HCL
    have d1 : (d != 0) = true := by simp; exact h0
    have d2 : (d == 0) = false := by simp; exact h0
    clear h0 hd hcs
    go_enter Try.func31, Try.ntmps31
    go_wp2_with fail
    refine CF.out.mono ?_
    rintro e w1 ⟨rfl, hb1⟩
    have HB1 := Lib.hid (HB0.out.trans (hb1.mono HB0.out.size))
    have T1 := Lib.hid (TabAt.new w1 75 zs26)
    have HB2 := Lib.hid (HB1.out.alloc HB1.out.size (.cells zs26 75))
    have HB3 := Lib.hid (below_setRow HB2.out HB1.out.size cs)
    clear hb1
    go_wp2_with (refine wpList_store_row rfl _ _ _ rfl w1.heap.size _ rfl rfl 75 _ T1.out (size26.trans (by rw [HSZ.out])) (by rw [zs26_size, HSZ.out]) HCL.out ?_)
    go_ret2
    exact OutI.nil rfl HB3.out
end Go.Proofs.Ytmbahbnadkmnkaa
