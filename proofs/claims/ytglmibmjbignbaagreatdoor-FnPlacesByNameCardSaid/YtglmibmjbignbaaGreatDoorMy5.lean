/-
  The contracts of spec.l01Split and spec.l01Phrase: the pieces of a text between the occurrences of one byte.
-/
import Derived.Test.YtglmibmjbignbaaGreatDoorMy4
import Derived.OwnWalk
import Derived.Laws.OwnMore
import Derived.Deep.AppendLies
import Derived.Handy
import Derived.Test.YtglmibmjbignbaaGreatDoorMy3
import Derived.Below
import Derived.Test.YtglmibmjbignbaaGreatDoorMy2
import Derived.Deep.RegionLaw
namespace Go.Proofs.YtglmibmjbignbaaGreatDoor
section
set_option linter.unusedVariables false
open Go.RowKit

theorem info_str : (Tryz.prog.info? 9).map (fun i => (i.zero, i.size, i.bytes)) = some (some (.string ByteArray.empty), 1, 16) := by kernel_rfl
theorem one_cell' (w : World) (B : Nat) (u : Value) (h : w.cell? ⟨B, 0, none⟩ = some u) : ∀ (j : Nat) x, [u][j]? = some x → w.cell? ((⟨B, 0, none⟩ : Addr).add j) = some x := by
  intro j x hx
  match j, hx with
  | 0, hx => obtain rfl : u = x := by simpa using hx
             simpa [Addr.add] using h
theorem new_one (w : World) (v : Value) (t : TypeId) : (w.alloc (.cells #[v] t)).cell? ⟨w.heap.size, 0, none⟩ = some v := by
  rw [World.cell?_alloc_at _ _ _ _ rfl]; rfl
def strV (xs : List ByteArray) : List Value := xs.map Value.string
theorem strV_len (xs : List ByteArray) : (strV xs).length = xs.length := by simp [strV]
theorem strV_snoc (xs : List ByteArray) (x : ByteArray) : strV xs ++ [.string x] = strV (xs ++ [x]) := by simp [strV]
theorem strV_at (xs : List ByteArray) (j : Nat) (x : ByteArray) (h : xs[j]? = some x) : (strV xs)[j]? = some (.string x) := by simp [strV, h]

/-- No byte c of s from place a up to place i. -/
def NoSep (c : UInt8) (s : ByteArray) (a i : Nat) : Prop := ∀ j, a ≤ j → j < i → s.data.toList[j]? ≠ some c
theorem NoSep.nil (c : UInt8) (s : ByteArray) (a : Nat) : NoSep c s a a := fun j h1 h2 => by omega
theorem NoSep.step {c : UInt8} {s : ByteArray} {a i : Nat} (h : NoSep c s a i) (hi : i < s.size) (hc : s[i] ≠ c) : NoSep c s a (i + 1) := fun j h1 h2 => by
  by_cases e : j < i
  · exact h j h1 e
  · obtain rfl : j = i := by omega
    rw [List.getElem?_eq_getElem (by simpa using hi)]
    intro hh; exact hc (Option.some.inj hh)

set_option maxHeartbeats 1000000 in
set_option maxRecDepth 100000 in
theorem cSplit (c : UInt8) (n : Int) (hn : n = (c.toNat : Int)) (s : ByteArray) (w : World) (hs : s.size ≤ 1073741824) :
    Calls Tryz.prog 174 #[.string s, .int .u8 n] w fun e w' => ∃ v, e = .returned v ∧ w'.ownsRow w.heap.size 9 1 v (piecesB c s).length (strV (piecesB c s)) ∧ Below w.heap.size w w' := by
  obtain ⟨i0, hi0, hz0, hz1, hz2⟩ := info_parts info_str
  have HN := Lib.hid hn
  clear hn
  go_enter Tryz.func174, Tryz.ntmps174
  go_wp2
  go_loopw [5, 6, 7] (fun o f i wr => ∃ (k a m : Nat) (v : Value) (xs : List ByteArray), k ≤ s.size + 1 ∧ i = .int .i64 k ∧ f = .int .i64 a ∧ o = v ∧ Hid (m = xs.length) ∧ Hid ((k ≤ s.size ∧ a ≤ k ∧ m ≤ a ∧ NoSep c s a k ∧ xs ++ restB c s a = piecesB c s) ∨ (k = s.size + 1 ∧ xs = piecesB c s)) ∧
      wr.ownsRow w.heap.size 9 1 v m (strV xs) ∧ Below w.heap.size w wr) (fun _ _ i _ => s.size + 1 - (intOf i).toNat)
  case atStart =>
    exact ⟨0, 0, 0, _, [], Nat.zero_le _, rfl, rfl, rfl, Lib.hid rfl, Lib.hid (.inl ⟨Nat.zero_le _, Nat.le_refl _, Nat.le_refl _, NoSep.nil _ _ _, by rw [rest_zero]; rfl⟩), World.ownsRow_lit (e := 9) (base := w.heap.size) (size := 1) w #[] 0 (Nat.le_refl _) (by decide) rfl, (Below.refl _ _).alloc (Nat.le_refl _) _⟩
  case round =>
    obtain ⟨k, a, m, v, xs, hk, rfl, rfl, rfl, HM, HR, hown, hbw⟩ := hrel
    by_cases hlt : k ≤ s.size
    · obtain ⟨h1, h2, h3, h4, h5⟩ : k ≤ s.size ∧ a ≤ k ∧ m ≤ a ∧ NoSep c s a k ∧ xs ++ restB c s a = piecesB c s := by
        rcases HR.out with h | h
        · exact h
        · omega
      have H4 := Lib.hid h4
      have H5 := Lib.hid h5
      clear h4 h5 HR
      by_cases he : k = s.size
      · have HE := Lib.hid he
        have hd : ((k : Int) == (s.size : Int)) = true := by simp [he]
        clear he
        go_wp2_with (at_builtin; refine wpList_append_own _ rfl _ _ 38 rfl w.heap.size 9 i0 _ 1 16 Tryz.underlying38 hi0 hz0 hz1 hz2 rfl (by decide) _ _ _ rfl (hown.alloc _) ⟨wr.heap.size, 0, none⟩ 1 1 [.string (s.extract a k)] rfl rfl ?c1 ?c2 ?c3 ?c4 ?c5 ?_)
        case c1 => exact one_cell' _ _ _ (new_one _ _ _)
        case c2 => intro u hu; simp at hu; subst hu; rfl
        case c3 => unfold maxLen; omega
        case c4 => omega
        case c5 => have := hbw.size; simp; omega
        intro v' w1 hown1 hgrow1 _
        rw [strV_snoc] at hown1
        have hb1 : Below w.heap.size w w1 := (hbw.alloc hbw.size _).grown hgrow1 (by have := hbw.size; simp; omega) (fun x hx => (hown.lt x hx).1)
        go_wp2
        go_roundw
        case rel => exact ⟨k + 1, k + 1, m + 1, v', xs ++ [s.extract a k], by omega, by go_num, by go_num, rfl, Lib.hid (by rw [List.length_append, HM.out]; rfl), Lib.hid (.inr ⟨by rw [HE.out], by rw [← H5.out, rest_end c s a (by omega) (by rw [← HE.out]; exact H4.out), HE.out]⟩), hown1, hb1⟩
        case measure => simp [intOf]; omega
      · have hkl : k < s.size := by omega
        have hd : ((k : Int) == (s.size : Int)) = false := by rw [beq_eq_false_iff_ne]; omega
        clear he
        by_cases hc : s[k] = c
        · have HC := Lib.hid hc
          have hd2 : ((s[k].toNat : Int) == n) = true := by rw [HN.out, hc]; simp
          clear hc
          go_wp2_with (at_builtin; refine wpList_append_own _ rfl _ _ 38 rfl w.heap.size 9 i0 _ 1 16 Tryz.underlying38 hi0 hz0 hz1 hz2 rfl (by decide) _ _ _ rfl (hown.alloc _) ⟨wr.heap.size, 0, none⟩ 1 1 [.string (s.extract a k)] rfl rfl ?d1 ?d2 ?d3 ?d4 ?d5 ?_)
          case d1 => exact one_cell' _ _ _ (new_one _ _ _)
          case d2 => intro u hu; simp at hu; subst hu; rfl
          case d3 => unfold maxLen; omega
          case d4 => omega
          case d5 => have := hbw.size; simp; omega
          intro v' w1 hown1 hgrow1 _
          rw [strV_snoc] at hown1
          have hb1 : Below w.heap.size w w1 := (hbw.alloc hbw.size _).grown hgrow1 (by have := hbw.size; simp; omega) (fun x hx => (hown.lt x hx).1)
          go_wp2
          go_roundw
          case rel => exact ⟨k + 1, k + 1, m + 1, v', xs ++ [s.extract a k], by omega, by go_num, by go_num, rfl, Lib.hid (by rw [List.length_append, HM.out]; rfl), Lib.hid (.inl ⟨by omega, Nat.le_refl _, by omega, NoSep.nil _ _ _, by rw [← H5.out, rest_hit c s a k h2 hkl HC.out H4.out, List.append_assoc]; rfl⟩), hown1, hb1⟩
          case measure => simp [intOf]; omega
        · have HC := Lib.hid hc
          have hd2 : ((s[k].toNat : Int) == n) = false := by
            rw [HN.out, beq_eq_false_iff_ne]; intro hh; exact hc (UInt8.toNat_inj.1 (by omega))
          clear hc
          go_wp2
          go_roundw
          case rel => exact ⟨k + 1, a, m, _, xs, by omega, by go_num, rfl, rfl, HM, Lib.hid (.inl ⟨by omega, by omega, by omega, H4.out.step hkl HC.out, H5.out⟩), hown, hbw⟩
          case measure => simp [intOf]; omega
    · have hx : xs = piecesB c s := by
        rcases HR.out with h | h
        · omega
        · exact h.2
      go_wp2
      go_ret
      refine ⟨_, rfl, ?_, hbw⟩
      rw [← hx, ← HM.out]; exact hown
end
section
set_option linter.unusedVariables false
open Go.RowKit

def spaceB (s : ByteArray) : List ByteArray := piecesB 32 s
def phraseB (s : ByteArray) : Bool := wordsB (spaceB s) && decide ((spaceB s).length ≤ 8)
theorem piece_size (c : UInt8) (k : Nat) : ∀ (s x : ByteArray), x ∈ Lib.splitB (sepB c) 0 k s → x.size ≤ s.size := by
  induction k with
  | zero => intro s x h; simp [Lib.splitB] at h; subst h; exact Nat.le_refl _
  | succ k ih =>
    intro s x h
    rcases Lib.indexB_cases s (sepB c) with hm | ⟨i, hi, hr⟩
    · rw [Lib.splitB_miss _ _ _ _ hm] at h; simp at h; subst h; exact Nat.le_refl _
    · rw [Lib.splitB_hit _ _ _ _ i hi, List.mem_cons] at h
      rcases h with h | h
      · subst h; rw [ByteArray.size_extract]; omega
      · have := ih _ _ h
        rw [ByteArray.size_extract] at this; omega

set_option maxHeartbeats 1000000 in
theorem cPhrase_bad (s : ByteArray) (w : World) (hs : s.size ≤ 1073741824) (h : wordsB (spaceB s) = false) :
    Calls Tryz.prog 141 #[.string s] w fun e w' => e = .returned (.tuple #[.slice none 0 0, .bool false]) ∧ Below w.heap.size w w' := by
  have hlen := pieces_len 32 s
  have hsz : ∀ x ∈ piecesB 32 s, x.size ≤ maxLen := fun x hx => by have := piece_size 32 _ s x hx; unfold maxLen; omega
  obtain ⟨xs, hxs⟩ : ∃ xs, xs = piecesB 32 s := ⟨_, rfl⟩
  have hc := cSplit 32 32 rfl s
  unfold spaceB at h
  rw [← hxs] at h hlen hsz hc
  clear hxs
  have H := Lib.hid h
  have HS := Lib.hid hsz
  have HCt := Lib.hid hc
  clear h hsz hc
  obtain ⟨n, hn⟩ : ∃ n, n = xs.length := ⟨_, rfl⟩
  have HN := Lib.hid hn
  go_enter Tryz.func141, Tryz.ntmps141
  rw [← hn] at hlen
  clear hn
  go_wp2_with fail
  refine (HCt.out _ hs).mono ?_
  rintro e w1 ⟨v, rfl, hown, hbw⟩
  have hpos : 0 < xs.length := by
    rcases Nat.eq_zero_or_pos xs.length with h0 | h0
    · have h1 := H.out
      rw [List.eq_nil_of_length_eq_zero h0] at h1; cases h1
    · exact h0
  rw [← HN.out] at hown hpos
  obtain ⟨g, cap, rfl, hg1, hg2⟩ := World.ownsRow.form hown hpos
  go_wp2_with fail
  go_loop [5] (fun i => ∃ k : Nat, k ≤ n ∧ i = .int .i64 k ∧ Hid (wordsB (xs.take k) = true)) (fun i => n - (intOf i).toNat)
  case atStart => exact ⟨0, Nat.zero_le _, rfl, Lib.hid rfl⟩
  case round =>
    obtain ⟨k, hk, rfl, HA⟩ := hrel
    by_cases hlt : k < n
    · obtain ⟨x, hx⟩ : ∃ x, xs[k]? = some x := ⟨xs[k]'(by have := HN.out; omega), List.getElem?_eq_getElem _⟩
      have hcx : w1.cell? ⟨g, k, none⟩ = some (.string x) := (hown.cellAt k (by omega)).trans (strV_at _ _ _ hx)
      have hsx := HS.out x (List.mem_of_getElem? hx)
      have HX := Lib.hid hx
      clear hx
      cases hb : wordB x
      · have HB := Lib.hid hb
        go_wp2_with (go_at_call 82; refine (cIsWord_spec x _ hsx).mono ?_; rintro e w' ⟨rfl, rfl⟩)
        go_ret2
        exact ⟨rfl, hbw⟩
      · have HB := Lib.hid hb
        go_wp2_with (go_at_call 82; refine (cIsWord_spec x _ hsx).mono ?_; rintro e w' ⟨rfl, rfl⟩)
        go_round
        case rel => exact ⟨k + 1, by omega, by go_num, Lib.hid (wordsB_step xs k x HX.out HA.out HB.out)⟩
        case measure => simp [intOf]; omega
    · exfalso
      have h1 := (wordsB_end xs k (by have := HN.out; omega)).symm.trans HA.out
      rw [H.out] at h1; cases h1

set_option maxHeartbeats 1000000 in
theorem cPhrase_ok (s : ByteArray) (w : World) (hs : s.size ≤ 1073741824) (h : wordsB (spaceB s) = true) :
    Calls Tryz.prog 141 #[.string s] w fun e w' => ∃ v, e = .returned (.tuple #[v, .bool (decide ((spaceB s).length ≤ 8))]) ∧
      w'.ownsRow w.heap.size 9 1 v (spaceB s).length (strV (spaceB s)) ∧ Below w.heap.size w w' := by
  have hlen := pieces_len 32 s
  have hsz : ∀ x ∈ piecesB 32 s, x.size ≤ maxLen := fun x hx => by have := piece_size 32 _ s x hx; unfold maxLen; omega
  have hpos : 0 < (piecesB 32 s).length := by rw [← rest_zero]; exact rest_pos _ _ _
  have hc := cSplit 32 32 rfl s
  unfold spaceB at *
  obtain ⟨xs, hxs⟩ : ∃ xs, xs = piecesB 32 s := ⟨_, rfl⟩
  rw [← hxs] at h hlen hsz hc hpos ⊢
  clear hxs
  have H := Lib.hid h
  have HS := Lib.hid hsz
  have HCt := Lib.hid hc
  clear h hsz hc
  obtain ⟨n, hn⟩ : ∃ n, n = xs.length := ⟨_, rfl⟩
  have HN := Lib.hid hn
  rw [← hn] at hlen hpos ⊢
  clear hn
  go_enter Tryz.func141, Tryz.ntmps141
  go_wp2_with fail
  refine (HCt.out _ hs).mono ?_
  rintro e w1 ⟨v, rfl, hown, hbw⟩
  rw [← HN.out] at hown
  obtain ⟨g, cap, rfl, hg1, hg2⟩ := World.ownsRow.form hown hpos
  go_wp2_with fail
  go_loop [5] (fun i => ∃ k : Nat, k ≤ n ∧ i = .int .i64 k) (fun i => n - (intOf i).toNat)
  case atStart => exact ⟨0, Nat.zero_le _, rfl⟩
  case round =>
    obtain ⟨k, hk, rfl⟩ := hrel
    by_cases hlt : k < n
    · obtain ⟨x, hx⟩ : ∃ x, xs[k]? = some x := ⟨xs[k]'(by have := HN.out; omega), List.getElem?_eq_getElem _⟩
      have hcx : w1.cell? ⟨g, k, none⟩ = some (.string x) := (hown.cellAt k (by omega)).trans (strV_at _ _ _ hx)
      have hsx := HS.out x (List.mem_of_getElem? hx)
      have hb : wordB x = true := by
        cases hb : wordB x
        · have h1 := wordsB_stop xs k x hx hb
          rw [H.out] at h1; cases h1
        · rfl
      clear hx
      go_wp2_with (go_at_call 82; refine (cIsWord_spec x _ hsx).mono ?_; rintro e w' ⟨rfl, rfl⟩)
      go_round
      case rel => exact ⟨k + 1, by omega, by go_num⟩
      case measure => simp [intOf]; omega
    · go_wp2
      go_ret2
      exact ⟨_, by simp; omega, hown, hbw⟩
end
section
set_option linter.unusedVariables false
open Go.RowKit

structure Nm where
  t : ByteArray
  l : ByteArray
  s : Int
  f : Int
  u : Int
theorem Nm.ext' {x y : Nm} (h1 : x.t = y.t) (h2 : x.l = y.l) (h3 : x.s = y.s) (h4 : x.f = y.f) (h5 : x.u = y.u) : x = y := by
  cases x; cases y; simp at *; exact ⟨h1, h2, h3, h4, h5⟩
def encN (x : Nm) : List Value := [.string x.t, .string x.l, .int .i64 x.s, .int .i64 x.f, .int .i64 x.u]
/-- The value of a name. -/
abbrev nmA (x : Nm) : Value := .agg #[.string x.t, .string x.l, .int .i64 x.s, .int .i64 x.f, .int .i64 x.u]
def nmV (xs : List Nm) : List Value := xs.flatMap encN
theorem nmV_cons (p : Nm) (xs : List Nm) : nmV (p :: xs) = .string p.t :: .string p.l :: .int .i64 p.s :: .int .i64 p.f :: .int .i64 p.u :: nmV xs := by simp [nmV, encN]
theorem nmV_len : ∀ xs : List Nm, (nmV xs).length = xs.length * 5
  | [] => rfl
  | p :: xs => by rw [nmV_cons]; simp only [List.length_cons]; rw [nmV_len xs]; omega
theorem nmV_app (xs ys : List Nm) : nmV (xs ++ ys) = nmV xs ++ nmV ys := by simp [nmV]
theorem nmV_one (p : Nm) : nmV [p] = encN p := by simp [nmV]
theorem nmV_at : ∀ (xs : List Nm) (k : Nat) (p : Nm), xs[k]? = some p → (nmV xs)[k * 5]? = some (.string p.t) ∧ (nmV xs)[k * 5 + 1]? = some (.string p.l) ∧ (nmV xs)[k * 5 + 2]? = some (.int .i64 p.s) ∧ (nmV xs)[k * 5 + 3]? = some (.int .i64 p.f) ∧ (nmV xs)[k * 5 + 4]? = some (.int .i64 p.u)
  | [], k, p, h => by simp at h
  | q :: xs, 0, p, h => by
    obtain rfl : q = p := by simpa using h
    rw [nmV_cons]; exact ⟨rfl, rfl, rfl, rfl, rfl⟩
  | q :: xs, k + 1, p, h => by
    have ih := nmV_at xs k p (by simpa using h)
    rw [nmV_cons, show (k + 1) * 5 = k * 5 + 1 + 1 + 1 + 1 + 1 by omega]
    simpa using ih

/-- Five cells hold a name. -/
def NmCell (w : World) (b o : Nat) (x : Nm) : Prop := w.cell? ⟨b, o, none⟩ = some (.string x.t) ∧ w.cell? ⟨b, o + 1, none⟩ = some (.string x.l) ∧ w.cell? ⟨b, o + 2, none⟩ = some (.int .i64 x.s) ∧ w.cell? ⟨b, o + 3, none⟩ = some (.int .i64 x.f) ∧ w.cell? ⟨b, o + 4, none⟩ = some (.int .i64 x.u)
theorem NmCell.below {w w' : World} {C b o : Nat} {x : Nm} (h : NmCell w b o x) (hb : Below C w w') (h1 : b < C) : NmCell w' b o x :=
  ⟨(hb.cell (p := ⟨b, o, none⟩) h1).trans h.1, (hb.cell (p := ⟨b, o + 1, none⟩) h1).trans h.2.1, (hb.cell (p := ⟨b, o + 2, none⟩) h1).trans h.2.2.1, (hb.cell (p := ⟨b, o + 3, none⟩) h1).trans h.2.2.2.1, (hb.cell (p := ⟨b, o + 4, none⟩) h1).trans h.2.2.2.2⟩
/-- A slice that holds the names xs, below block B. -/
def NmAt (w : World) (B : Nat) (A : Option Addr) (n : Nat) (xs : List Nm) : Prop :=
  n = xs.length ∧ (0 < n → ∃ b o, A = some ⟨b, o, none⟩ ∧ b < B ∧ ∀ (j : Nat) x, xs[j]? = some x → NmCell w b (o + j * 5) x)
theorem NmAt.below {w w' : World} {B C : Nat} {A : Option Addr} {n : Nat} {xs : List Nm} (h : NmAt w B A n xs) (hb : Below C w w') (hBC : B ≤ C) : NmAt w' B A n xs :=
  ⟨h.1, fun hp => by obtain ⟨b, o, h1, h2, h3⟩ := h.2 hp; exact ⟨b, o, h1, h2, fun j e he => (h3 j e he).below hb (by omega)⟩⟩
theorem NmAt.more {w : World} {B C : Nat} {A : Option Addr} {n : Nat} {xs : List Nm} (h : NmAt w B A n xs) (hBC : B ≤ C) : NmAt w C A n xs :=
  ⟨h.1, fun hp => by obtain ⟨b, o, h1, h2, h3⟩ := h.2 hp; exact ⟨b, o, h1, Nat.lt_of_lt_of_le h2 hBC, h3⟩⟩
theorem NmAt.grow {w w' : World} {A : Option Addr} {n : Nat} {xs : List Nm} (h : NmAt w w.heap.size A n xs) (hb : Below w.heap.size w w') : NmAt w' w'.heap.size A n xs := (h.below hb (Nat.le_refl _)).more hb.size
theorem NmAt.row {w : World} {B n : Nat} {A : Option Addr} {xs : List Nm} (h : NmAt w B A n xs) {k : Nat} {e : Nm} (he : xs[k]? = some e) :
    ∃ b o, A = some ⟨b, o, none⟩ ∧ b < B ∧ NmCell w b (o + k * 5) e := by
  have := (List.getElem?_eq_some_iff.1 he).1
  obtain ⟨b, o, h1, h2, h3⟩ := h.2 (by have := h.1; omega)
  exact ⟨b, o, h1, h2, h3 k e he⟩
theorem NmAt.pre {w : World} {B n k : Nat} {A : Option Addr} {xs : List Nm} (h : NmAt w B A n xs) (hk : k ≤ n) : NmAt w B A k (xs.take k) :=
  ⟨by rw [List.length_take]; have := h.1; omega, fun hp => by
    obtain ⟨b, o, h1, h2, h3⟩ := h.2 (by omega)
    exact ⟨b, o, h1, h2, fun j e he => h3 j e (by rw [List.getElem?_take] at he; split at he; exact he; cases he)⟩⟩
theorem own_nm {w : World} {lo n c : Nat} {A : Option Addr} {xs : List Nm} {t : TypeId} (h : w.ownsRow lo t 5 (.slice A n c) n (nmV xs)) : NmAt w w.heap.size A n xs := by
  have hl : xs.length = n := by have := h.1; rw [nmV_len] at this; omega
  refine ⟨hl.symm, fun hp => ?_⟩
  obtain ⟨g, cap, hv, _, hlt⟩ := World.ownsRow.form h hp
  have hA : A = some ⟨g, 0, none⟩ := by injection hv
  subst hA
  refine ⟨g, 0, rfl, hlt, fun k p hk => ?_⟩
  have hkl := (List.getElem?_eq_some_iff.1 hk).1
  have hc := nmV_at xs k p hk
  rw [Nat.zero_add]
  exact ⟨(World.ownsRow.cellAt h (k * 5) (by omega)).trans hc.1, (World.ownsRow.cellAt h (k * 5 + 1) (by omega)).trans hc.2.1, (World.ownsRow.cellAt h (k * 5 + 2) (by omega)).trans hc.2.2.1, (World.ownsRow.cellAt h (k * 5 + 3) (by omega)).trans hc.2.2.2.1, (World.ownsRow.cellAt h (k * 5 + 4) (by omega)).trans hc.2.2.2.2⟩

/-- The text is a language. -/
def langB (s : ByteArray) : Bool := decide (2 ≤ s.size) && decide (s.size ≤ 3) && lowAll s.data.toList
theorem lang_short (s : ByteArray) (h : ¬ 2 ≤ s.size) : langB s = false := by unfold langB; rw [decide_eq_false h]; rfl
theorem lang_long (s : ByteArray) (h : ¬ s.size ≤ 3) : langB s = false := by unfold langB; rw [decide_eq_false h, Bool.and_false]; rfl
theorem lang_mid (s : ByteArray) (h1 : 2 ≤ s.size) (h2 : s.size ≤ 3) : langB s = lowAll s.data.toList := by unfold langB; rw [decide_eq_true h1, decide_eq_true h2]; rfl
theorem lang_stop (s : ByteArray) (k : Nat) (h : k < s.size) (hc : lowB s[k] = false) : langB s = false := by unfold langB; rw [lowAll_stop s k h hc, Bool.and_false]
theorem lang_sum (s : ByteArray) (h : lowAll s.data.toList = true) : langB s = (decide ((2 : Int) ≤ (s.size : Int)) && decide ((s.size : Int) ≤ 3)) := by
  unfold langB; rw [h, Bool.and_true]; congr 1 <;> rw [decide_eq_decide] <;> omega
theorem lang_size (s : ByteArray) (h : langB s = true) : 2 ≤ s.size ∧ s.size ≤ 3 := by unfold langB at h; simp at h; exact h.1
/-- The structure is a name. -/
def nmB (x : Nm) : Bool := phraseB x.t && langB x.l && (decide (0 ≤ x.s) && decide (x.s ≤ 2)) && spB x.f x.u
/-- Two official names with one language that meet. -/
def clB (x y : Nm) : Bool := decide (x.s = 0) && decide (y.s = 0) && decide (x.l = y.l) && meetB x.f x.u y.f y.u
/-- Which of the tests of a name fails first. -/
theorem nm_cases (x : Nm) :
    (nmB x = true ∧ phraseB x.t = true ∧ langB x.l = true ∧ 0 ≤ x.s ∧ x.s ≤ 2 ∧ spB x.f x.u = true) ∨
    (nmB x = false ∧ (phraseB x.t = false ∨ (phraseB x.t = true ∧ (langB x.l = false ∨ (langB x.l = true ∧ ((decide (0 ≤ x.s) && decide (x.s ≤ 2)) = false ∨ (0 ≤ x.s ∧ x.s ≤ 2 ∧ spB x.f x.u = false))))))) := by
  unfold nmB
  cases h1 : phraseB x.t
  · exact .inr ⟨by simp, .inl rfl⟩
  cases h2 : langB x.l
  · exact .inr ⟨by simp, .inr ⟨rfl, .inl rfl⟩⟩
  cases h3 : (decide (0 ≤ x.s) && decide (x.s ≤ 2))
  · exact .inr ⟨by simp, .inr ⟨rfl, .inr ⟨rfl, .inl rfl⟩⟩⟩
  have h4 := h3
  simp at h4
  cases h5 : spB x.f x.u
  · exact .inr ⟨by simp, .inr ⟨rfl, .inr ⟨rfl, .inr ⟨h4.1, h4.2, rfl⟩⟩⟩⟩
  · exact .inl ⟨by simp, rfl, rfl, h4.1, h4.2, rfl⟩
theorem nm_parts {x : Nm} (h : nmB x = true) : phraseB x.t = true ∧ langB x.l = true ∧ 0 ≤ x.s ∧ x.s ≤ 2 ∧ spB x.f x.u = true := by
  rcases nm_cases x with ⟨_, h⟩ | ⟨h2, _⟩
  · exact h
  · rw [h2] at h; cases h
/-- Names that may stand in one list. -/
def Good (xs : List Nm) : Prop := ∀ (k : Nat) x, xs[k]? = some x → nmB x = true ∧ ∀ y ∈ xs.take k, clB x y = false
theorem good9_zero (xs : List Nm) : Good (xs.take 0) := fun k x h => by simp at h
theorem take_snoc9 {α : Type} {xs : List α} {k : Nat} {x : α} (h : xs[k]? = some x) : xs.take (k + 1) = xs.take k ++ [x] := by
  have hk : k < xs.length := (List.getElem?_eq_some_iff.1 h).1
  have hx : xs[k] = x := (List.getElem?_eq_some_iff.1 h).2
  rw [List.take_succ_eq_append_getElem hk, hx]
theorem good9_step {xs : List Nm} {k : Nat} {x : Nm} (h : xs[k]? = some x) (hg : Good (xs.take k)) (hb : nmB x = true) (hc : ∀ y ∈ xs.take k, clB x y = false) : Good (xs.take (k + 1)) := by
  have hk : k < xs.length := (List.getElem?_eq_some_iff.1 h).1
  intro j y hj
  rw [take_snoc9 h] at hj ⊢
  have hl : (xs.take k).length = k := by rw [List.length_take]; omega
  by_cases hlt : j < k
  · rw [List.getElem?_append_left (by omega)] at hj
    have := hg j y hj
    rw [List.take_append_of_le_length (by omega)]
    exact this
  · have hjl := (List.getElem?_eq_some_iff.1 hj).1
    rw [List.length_append, hl, List.length_singleton] at hjl
    obtain rfl : j = k := by omega
    rw [List.getElem?_append_right (by omega), hl, Nat.sub_self] at hj
    obtain rfl : x = y := by simpa using hj
    rw [List.take_append_of_le_length (by omega), List.take_of_length_le (by omega)]
    exact ⟨hb, hc⟩
theorem good9_bad {xs : List Nm} {k : Nat} {x : Nm} (h : xs[k]? = some x) (hb : nmB x = false) : ¬ Good xs := fun hg => by
  have := (hg k x h).1; rw [hb] at this; cases this
theorem good9_meet {xs : List Nm} {k m : Nat} {x y : Nm} (h : xs[k]? = some x) (hy : xs[m]? = some y) (hm : m < k) (hc : clB x y = true) : ¬ Good xs := fun hg => by
  have := (hg k x h).2 y (List.mem_of_getElem? (i := m) (by rw [List.getElem?_take, if_pos hm]; exact hy)); rw [hc] at this; cases this
theorem good9_any {xs : List Nm} {k : Nat} {x : Nm} (h : xs[k]? = some x) (hc : ¬ ∀ y ∈ xs.take k, clB x y = false) : ¬ Good xs := fun hg => hc (hg k x h).2
theorem good9_end {xs : List Nm} {k : Nat} (h : xs.length ≤ k) (hg : Good (xs.take k)) : Good xs := by rwa [List.take_of_length_le h] at hg
noncomputable instance (xs : List Nm) : Decidable (Good xs) := Classical.propDecidable _
/-- The list are names. -/
noncomputable def namesB (xs : List Nm) : Bool := decide (xs.length ≤ 12 ∧ Good xs)
theorem names_long {xs : List Nm} (h : 12 < xs.length) : namesB xs = false := decide_eq_false fun k => by omega
theorem names_no {xs : List Nm} (h : ¬ Good xs) : namesB xs = false := decide_eq_false fun k => h k.2
theorem names_yes {xs : List Nm} (h1 : xs.length ≤ 12) (h2 : Good xs) : namesB xs = true := decide_eq_true ⟨h1, h2⟩
theorem names_sum {xs : List Nm} (n : Nat) (hn : n = xs.length) (h2 : Good xs) : namesB xs = decide ((n : Int) ≤ 12) := by
  unfold namesB; rw [decide_eq_decide]; constructor
  · intro h; omega
  · intro h; exact ⟨by omega, h2⟩
theorem names_of {xs : List Nm} (h : namesB xs = true) : xs.length ≤ 12 ∧ Good xs := of_decide_eq_true h
theorem names_mem {xs : List Nm} (h : namesB xs = true) {x : Nm} (hx : x ∈ xs) : nmB x = true := by
  obtain ⟨k, hk, rfl⟩ := List.mem_iff_getElem.1 hx
  exact ((names_of h).2 k _ (List.getElem?_eq_getElem hk)).1
/-- The year is one of the years. -/
def yrB (y : Int) : Bool := decide (-3000 ≤ y) && decide (y ≤ 3000)
/-- The name is used in the year. -/
def usB (x : Nm) (y : Int) : Bool := decide (x.f ≤ y) && decide (y ≤ x.u)
/-- What is asked of names, languages and a year. -/
noncomputable def qC (xs : List Nm) (ls : List ByteArray) (y : Int) : Int := if namesB xs && ls.all langB then (if yrB y then 0 else 2) else 1
end
section
set_option linter.unusedVariables false
open Go.RowKit

theorem Src.grow {w w' : World} {B len : Nat} {row : Option Nat} (h : Src w B len) (hg : w.grownBy w' row) (hne : ∀ x, row = some x → B < x) : Src w' B len := by
  obtain ⟨A, cap, a, s, hT, k1, k2, k3, k4, k5⟩ := h
  refine ⟨A, cap, a, s, (hg.block B hT.lt (fun e => by have := hne _ e.symm; omega)).trans hT, k1, k2, k3, k4, fun hp => ?_⟩
  obtain ⟨cb, co, hA, hlt, hbl, hc⟩ := k5 hp
  refine ⟨cb, co, hA, hlt, Nat.lt_of_lt_of_le hbl hg.size, fun j hj => ?_⟩
  obtain ⟨z, q0, q1, hz⟩ := hc j hj
  exact ⟨z, q0, q1, (World.cell?_of_block (a := ⟨cb, co + j, none⟩) (hg.block cb hbl (fun e => by have := hne _ e.symm; omega))).trans hz⟩
theorem grown_new {a w w' : World} {B : Nat} {row : Option Nat} (h : a.grownBy w (some B)) (hg : w.grownBy w' row) (hr : ∀ x, row = some x → a.heap.size ≤ x) : a.grownBy w' (some B) :=
  ⟨hg.os.trans h.os, hg.tape.trans h.tape, hg.output.trans h.output, Nat.le_trans h.size hg.size, fun k hk hne => (hg.block k (Nat.lt_of_lt_of_le hk h.size) (fun e => by have := hr k e.symm; omega)).trans (h.block k hk hne)⟩
theorem grown_drw {a w : World} {row : Option Nat} (h : a.grownBy w row) : a.grownBy w.drew row := ⟨h.os, h.tape, h.output, h.size, h.block⟩
/-- A row of texts of at most m characters, of one's own from block lo on. -/
def TRow (w : World) (lo m n : Nat) (v : Value) (xs : List ByteArray) : Prop := w.ownsRow lo 9 1 v n (strV xs) ∧ ∀ x ∈ xs, x.size ≤ m
theorem TRow.len {w : World} {lo m n : Nat} {v : Value} {xs : List ByteArray} (h : TRow w lo m n v xs) : n = xs.length := by have := h.1.1; rw [strV_len] at this; omega
theorem TRow.kept {w w' : World} {lo m n B : Nat} {v : Value} {xs : List ByteArray} (h : TRow w lo m n v xs) (hg : w.grownBy w' (some B)) (hB : B < lo) : TRow w' lo m n v xs :=
  ⟨h.1.kept hg (by
    cases hv : Value.ownBlock _ with
    | none => exact .inl rfl
    | some x =>
      have h1 := (h.1.lt x hv).1
      exact .inr (by intro e; injection e with e; omega)), h.2⟩
theorem TRow.form {w : World} {lo m n : Nat} {v : Value} {xs : List ByteArray} (h : TRow w lo m n v xs) : ∃ A c, v = .slice A n c := by
  rcases h.1.2 with ⟨h1, h2⟩ | ⟨g1, cap1, cur, h1, h2⟩
  · exact ⟨none, 0, by rw [h1, h2]⟩
  · exact ⟨_, _, h1⟩
theorem TRow.snoc {w : World} {lo m n : Nat} {v : Value} {xs : List ByteArray} {y : ByteArray} (h : w.ownsRow lo 9 1 v (n + 1) (strV xs ++ [.string y])) (hx : ∀ x ∈ xs, x.size ≤ m) (hy : y.size ≤ m) : TRow w lo m (n + 1) v (xs ++ [y]) :=
  ⟨by rw [← strV_snoc]; exact h, fun x hm => by
    rcases List.mem_append.1 hm with hm | hm
    · exact hx x hm
    · rw [List.mem_singleton] at hm; rw [hm]; exact hy⟩
def TRowPost (m : Nat) (w : World) (B len : Nat) (e : Ending) (w' : World) : Prop := ∃ (v : Value) (n : Nat) (xs : List ByteArray), n ≤ 60 ∧ e = .returned v ∧ TRow w' w.heap.size m n v xs ∧ Src w' B len ∧ w.grownBy w' (some B)

def GoodPost (w : World) (B len : Nat) (e : Ending) (w' : World) : Prop := ∃ (v : Value) (n : Nat) (xs : List ByteArray), 0 < n ∧ n ≤ 26 ∧ e = .returned v ∧ TRow w' w.heap.size 64 n v xs ∧ Src w' B len ∧ w.grownBy w' (some B)

def lit26 : Array Value := #[.string ⟨#[97]⟩, .string ⟨#[98]⟩, .string ⟨#[101]⟩, .string ⟨#[102]⟩, .string ⟨#[104]⟩, .string ⟨#[105]⟩, .string ⟨#[107]⟩, .string ⟨#[108]⟩, .string ⟨#[109]⟩, .string ⟨#[110]⟩, .string ⟨#[111]⟩, .string ⟨#[114]⟩, .string ⟨#[115]⟩, .string ⟨#[116]⟩, .string ⟨#[119]⟩, .string ⟨#[121]⟩, .string ⟨#[100]⟩, .string ⟨#[103]⟩, .string ⟨#[99]⟩, .string ⟨#[115, 104]⟩, .string ⟨#[115, 116]⟩, .string ⟨#[99, 104]⟩, .string ⟨#[97, 101]⟩, .string ⟨#[107, 105]⟩, .string ⟨#[102, 111, 114]⟩, .string ⟨#[116, 111, 110]⟩]
theorem row26 (w : World) : TextRow (w.alloc (.cells lit26 9)) w.heap.size 26 3 := by
  refine ⟨by simp, fun j hj => ?_⟩
  rw [World.cell?_alloc_at _ _ _ _ rfl]
  have h : ∀ j, j < 26 → ∃ x : ByteArray, x.size ≤ 3 ∧ lit26[j]? = some (.string x) := by
    intro j hj
    have h : j = 0 ∨ j = 1 ∨ j = 2 ∨ j = 3 ∨ j = 4 ∨ j = 5 ∨ j = 6 ∨ j = 7 ∨ j = 8 ∨ j = 9 ∨ j = 10 ∨ j = 11 ∨ j = 12 ∨ j = 13 ∨ j = 14 ∨ j = 15 ∨ j = 16 ∨ j = 17 ∨ j = 18 ∨ j = 19 ∨ j = 20 ∨ j = 21 ∨ j = 22 ∨ j = 23 ∨ j = 24 ∨ j = 25 := by omega
    rcases h with rfl | rfl | rfl | rfl | rfl | rfl | rfl | rfl | rfl | rfl | rfl | rfl | rfl | rfl | rfl | rfl | rfl | rfl | rfl | rfl | rfl | rfl | rfl | rfl | rfl | rfl
    all_goals exact ⟨_, by decide, rfl⟩
  exact h j hj
theorem TextRow.grow {w w' : World} {P n m : Nat} {row : Option Nat} (h : TextRow w P n m) (hg : w.grownBy w' row) (hne : row ≠ some P) : TextRow w' P n m :=
  ⟨Nat.lt_of_lt_of_le h.1 hg.size, fun j hj => by
    obtain ⟨x, hx, hc⟩ := h.2 j hj
    exact ⟨x, hx, hg.cell hc (fun e => hne e.symm)⟩⟩

/-- append at a step of a region that draws, nothing asked of the number. -/
theorem step_append_own {P : Program} {w : World} {ops : Array Oper} {o : Oper} {a : Act} {K : Act → World → Prop} {Q : Exit → Act → World → Prop} {E : Prop} (hgd : o.guard = none) (s x : Operand) (t : TypeId)
    (ho : o.op = .call { callee := .builtin .append, args := #[s, x], argTypes := #[t, t] })
    (base : Nat) (e : TypeId) (i : TypeInfo) (z : Value) (size bytes : Nat) (ht : P.underlying t = some (.slice e)) (hi : P.info? e = some i) (hz : i.zero = some z)
    (hsize : i.size = size) (hby : i.bytes = bytes) (hzs : z.cells.size = size) (hsz : 0 < size)
    (v : Value) (n : Nat) (xs : List Value) (hs : a.eval s = v) (hown : w.ownsRow base e size v n xs)
    (ad : Addr) (m c : Nat) (news : List Value) (hx : a.eval x = .slice (some ad) m c) (hl : news.length = m * size) (hnews : ∀ j u, news[j]? = some u → w.cell? (ad.add j) = some u) (h1 : ∀ u ∈ news, u.oneCell' = true)
    (h63 : n + m ≤ maxLen) (hbytes : (n + m) * bytes ≤ 140737488355328) (hbase : base ≤ w.heap.size)
    (h : ∀ v' w', w'.ownsRow base e size v' (n + m) (xs ++ news) → w.grownBy w' v.ownBlock → (v' = .slice none 0 0 ↔ v = .slice none 0 0 ∧ m = 0) → K (a.put o.dst v') w') :
    if Region.wanted o (yielded ops a.tmps) = true then Oper.wp P o a w K Q else E := by
  have hw : Region.wanted o (yielded ops a.tmps) = true := by simp [Region.wanted, hgd]
  rw [if_pos hw]
  exact wp_append_own w s x t ho base e i z size bytes ht hi hz hsize hby hzs hsz v n xs hs hown ad m c news hx hl hnews h1 h63 hbytes hbase h

end
section
set_option linter.unusedVariables false
open Go.RowKit

theorem TRow.cut0 {w : World} {lo m n : Nat} {A : Option Addr} {c : Nat} {xs : List ByteArray} (h : TRow w lo m n (.slice A n c) xs) : TRow w lo m 0 (.slice A 0 c) [] := by
  refine ⟨⟨rfl, ?_⟩, by simp⟩
  rcases h.1.2 with ⟨h1, h2⟩ | ⟨g1, cap1, cur, h1, h2, h3, h4, h5, h6, h7⟩
  · injection h1 with e1 e2 e3
    rw [e1, e3]; exact .inl ⟨rfl, rfl⟩
  · injection h1 with e1 e2 e3
    rw [e1, e3]; exact .inr ⟨g1, cap1, cur, rfl, h2, h3, Nat.zero_le _, h5, h6, by simp [strV]⟩
theorem TRow.set0 {w : World} {lo m n g c : Nat} {xs : List ByteArray} {y : ByteArray} (h : TRow w lo m n (.slice (some ⟨g, 0, none⟩) n c) xs) (hy : y.size ≤ m) : TRow (w.setCell ⟨g, 0, none⟩ (.string y)) lo m n (.slice (some ⟨g, 0, none⟩) n c) (xs.set 0 y) := by
  refine ⟨?_, fun x hx => ?_⟩
  · have := (h.1.stored 0 (.string y)).1
    rw [show strV (xs.set 0 y) = (strV xs).set 0 (.string y) from by simp [strV, List.map_set]]
    exact this
  · rcases List.mem_or_eq_of_mem_set hx with h1 | h1
    · exact h.2 x h1
    · rw [h1]; exact hy
def lit4 : Array Value := #[.string ⟨#[]⟩, .string ⟨#[97, 98, 99, 100]⟩, .string ⟨#[65]⟩, .string ⟨#[122, 122, 122]⟩]
theorem row4 (w : World) : TextRow (w.alloc (.cells #[.string ⟨#[]⟩, .string ⟨#[97, 98, 99, 100]⟩, .string ⟨#[65]⟩, .string ⟨#[122, 122, 122]⟩] 9)) w.heap.size 4 4 := by
  refine ⟨by simp, fun j hj => ?_⟩
  rw [World.cell?_alloc_at _ _ _ _ rfl]
  have h : j = 0 ∨ j = 1 ∨ j = 2 ∨ j = 3 := by omega
  rcases h with rfl | rfl | rfl | rfl
  all_goals exact ⟨_, by decide, rfl⟩

end
end Go.Proofs.YtglmibmjbignbaaGreatDoor
