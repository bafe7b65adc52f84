/-
  The draws of chapter 8's functions on phrases; hasText.
-/
import Derived.Test.YtippjomkbpiliaaDoorDraw8
import Derived.Laws.Small
namespace Go.Proofs.YtippjomkbpiliaaDoor
set_option linter.unusedVariables false
set_option linter.unusedSimpArgs false
open Go.RowKit

def hasT (s : ByteArray) (xs : List ByteArray) : Bool := xs.any (fun x => decide (x = s))
theorem hasT_miss (s : ByteArray) (xs : List ByteArray) (k : Nat) (x : ByteArray) (h : xs[k]? = some x) (hx : ¬ x = s) : hasT s (xs.take (k + 1)) = hasT s (xs.take k) := by
  have hl := (List.getElem?_eq_some_iff.1 h).1
  have he : xs[k] = x := (List.getElem?_eq_some_iff.1 h).2
  rw [List.take_succ_eq_append_getElem hl]; unfold hasT; simp [List.any_append, he, hx]
theorem hasT_in {s : ByteArray} {xs : List ByteArray} (h : s ∈ xs) : hasT s xs = true := by unfold hasT; rw [List.any_eq_true]; exact ⟨s, h, by simp⟩
theorem eqT_yes (x s : ByteArray) (h : x = s) : (x.toList == s.toList) = true := by rw [h]; exact beq_self_eq_true _
theorem eqT_no (x s : ByteArray) (h : ¬ x = s) : (x.toList == s.toList) = false := by rw [toList_beq]; exact decide_eq_false h
theorem retB (a b : Bool) (h : a = b) : Ending.returned (.bool a) = .returned (.bool b) := by rw [h]
theorem cHasT (s : ByteArray) (b o c n : Nat) (xs : List ByteArray) (w : World) (hn : n = xs.length) (hbig : n ≤ 1048576)
    (hc : ∀ (j : Nat) x, xs[j]? = some x → w.cell? ⟨b, o + j, none⟩ = some (.string x)) :
    Calls Tryd.prog 19 #[.slice (some ⟨b, o, none⟩) n c, .string s] w fun e w' => e = .returned (.bool (hasT s xs)) ∧ w = w' := by
  have HN := Lib.hid hn
  have HC := Lib.hid hc
  clear hn hc
  go_enter Tryd.func19, Tryd.ntmps19
  go_wp2
  go_loop [5] (fun i => ∃ k : Nat, k ≤ n ∧ i = .int .i64 k ∧ Hid (hasT s (xs.take k) = false)) (fun i => n - (intOf i).toNat)
  case atStart => exact ⟨0, Nat.zero_le _, rfl, Lib.hid rfl⟩
  case round =>
    obtain ⟨k, hk, rfl, HA⟩ := hrel
    by_cases hlt : k < n
    · obtain ⟨x, hx⟩ : ∃ x, xs[k]? = some x := ⟨xs[k]'(by have := HN.out; omega), List.getElem?_eq_getElem _⟩
      have hcx := HC.out k x hx
      have HX := Lib.hid hx
      clear hx
      by_cases he : x = s
      · have hd := eqT_yes x s he
        have HE := Lib.hid he
        clear he
        go_wp2
        go_ret
        exact ⟨retB _ _ (by symm; exact hasT_in (by rw [← HE.out]; exact List.mem_of_getElem? HX.out)), rfl⟩
      · have hd := eqT_no x s he
        have HE := Lib.hid he
        clear he
        go_wp2
        go_round
        case rel => exact ⟨k + 1, by omega, by go_num, Lib.hid ((hasT_miss s xs k x HX.out HE.out).trans HA.out)⟩
        case measure => simp [intOf]; omega
    · go_wp2
      go_ret
      exact ⟨retB _ _ (by have := HA.out; rw [List.take_of_length_le (by have := HN.out; omega)] at this; exact this.symm), rfl⟩
theorem tHasT (s : ByteArray) (A : Option Addr) (n c B : Nat) (xs : List ByteArray) (w : World) (hbig : n ≤ 1048576) (hp : s ∈ xs) (h : TextAt w B A n xs) :
    Calls Tryd.prog 19 #[.slice A n c, .string s] w fun e w' => e = .returned (.bool true) ∧ w = w' := by
  obtain ⟨b, o, rfl, hb, hc⟩ := h.2 (by rw [h.1]; exact List.length_pos_of_mem hp)
  have k := cHasT s b o c n xs w h.1 hbig hc
  rw [hasT_in hp] at k
  exact k

theorem TRow.low {w : World} {lo lo' m n : Nat} {v : Value} {xs : List ByteArray} (h : TRow w lo m n v xs) (hl : lo' ≤ lo) : TRow w lo' m n v xs :=
  ⟨⟨h.1.1, by
    rcases h.1.2 with h2 | ⟨g, cap, cur, h1, h2, h3⟩
    · exact .inl h2
    · exact .inr ⟨g, cap, cur, h1, Nat.le_trans hl h2, h3⟩⟩, h.2⟩
def TakePost (w : World) (e : Ending) (w' : World) : Prop := ∃ (A : Option Addr) (n c : Nat) (xs : List ByteArray) (t : ByteArray), n ≤ 6 ∧ n ≤ c ∧ (∀ x ∈ xs, x.size ≤ 64) ∧ t.size ≤ 4000 ∧ e = .returned (.tuple #[.slice A n c, .string t]) ∧ TRow w' w.heap.size 64 n (.slice A n c) xs ∧ Below w.heap.size w w'
set_option maxHeartbeats 1000000 in
theorem cDrawTake (A : Option Addr) (len cap : Nat) (w : World) (hlen : len ≤ 1048576) (h : CodeIn w A len) :
    Calls Tryd.prog 8 #[.slice A len cap] w (TakePost w) := by
  have C0 := Lib.hid (cFrom A len cap w hlen h)
  clear h
  go_enter Tryd.func8, Tryd.ntmps8
  go_wp2_with fail
  refine C0.out.mono ?_
  rintro e w1 ⟨rfl, hS1, hb1⟩
  have hBl := hS1.lt
  have C1 := Lib.hid (cGenD w.heap.size len w1 hlen hS1)
  clear hS1 C0
  go_wp2_with fail
  refine C1.out.mono ?_
  rintro e w2 ⟨A1, n, c, xs, hn, rfl, hT, hS2, g2⟩
  have B2 := Lib.hid (below_of_src hb1 g2)
  have HT := Lib.hid hT
  have C2 := Lib.hid (cPhraseD w.heap.size len w2 hlen hS2)
  clear hT hS2 g2 hb1 C1
  go_wp2_with fail
  refine C2.out.mono ?_
  rintro e w3 ⟨t, ht, rfl, hS3, g3⟩
  have B3 := Lib.hid (below_of_src B2.out g3)
  have HT3 := Lib.hid (HT.out.kept g3 hBl)
  clear hS3 g3 C2
  go_wp2_with fail
  go_ret2
  exact ⟨A1, n, c, xs, t, hn, HT3.out.cap, HT3.out.2, by omega, rfl, HT3.out.low (Nat.le_of_lt hBl), B3.out⟩

theorem PB.drew8 {w : World} {b : Nat} {s t : ByteArray} (h : PB w b s t) : PB w.drew b s t := h
theorem TRow.drew8 {w : World} {lo m n : Nat} {v : Value} {xs : List ByteArray} (h : TRow w lo m n v xs) : TRow w.drew lo m n v xs := h
theorem src_drew8 {w : World} {B len : Nat} (h : Src w B len) : Src w.drew B len := h
def PutPost (w : World) (e : Ending) (w' : World) : Prop := ∃ (s t : ByteArray) (b : Bool), s.size ≤ 4000 ∧ t.size ≤ 17 ∧ e = .returned (.tuple #[.agg #[.string s, .string t], .bool b]) ∧ Below w.heap.size w w'
theorem row4p (w : World) : TextRow (w.alloc (.cells #[.string ⟨#[]⟩, .string ⟨#[114, 105, 118, 101, 114]⟩, .string ⟨#[102, 111, 114, 100]⟩, .string ⟨#[72, 105, 108, 108]⟩] 9)) w.heap.size 4 17 := by
  refine ⟨by simp, fun j hj => ?_⟩
  rw [World.cell?_alloc_at _ _ _ _ rfl]
  have h : j = 0 ∨ j = 1 ∨ j = 2 ∨ j = 3 := by omega
  rcases h with rfl | rfl | rfl | rfl
  all_goals exact ⟨_, by decide, rfl⟩
theorem PB.grow8 {w w' : World} {b B : Nat} {s t : ByteArray} (h : PB w b s t) (hg : w.grownBy w' (some B)) (hne : b ≠ B) : PB w' b s t := by
  have hh := hg.block b h.1.1 (fun e => hne (by injection e))
  have c : ∀ i, w'.cell? ⟨b, i, none⟩ = w.cell? ⟨b, i, none⟩ := fun i => by unfold World.cell?; simp only [hh]
  have f : ∀ i, w'.frozen? ⟨b, i, none⟩ = w.frozen? ⟨b, i, none⟩ := fun i => by unfold World.frozen?; simp only [hh]
  exact ⟨⟨Nat.lt_of_lt_of_le h.1.1 hg.size, (c 0).trans h.1.2.1, (c 1).trans h.1.2.2⟩, (f 0).trans h.2.1, (f 1).trans h.2.2⟩
set_option maxHeartbeats 2000000 in
set_option maxRecDepth 100000 in
theorem cDrawPut (A : Option Addr) (len cap : Nat) (w : World) (hlen : len ≤ 1048576) (h : CodeIn w A len) :
    Calls Tryd.prog 11 #[.slice A len cap] w (PutPost w) := by
  have B0 : Below w.heap.size w (w.alloc (.cells #[.string ByteArray.empty, .string ByteArray.empty] 28)) := (Below.refl _ _).alloc (Nat.le_refl _) _
  have HB0 := Lib.hid B0
  have HK0 := Lib.hid (PB.new w ByteArray.empty ByteArray.empty)
  have C0 := Lib.hid (cFrom A len cap (w.alloc (.cells #[.string ByteArray.empty, .string ByteArray.empty] 28)) hlen (h.below B0))
  clear h B0
  have hw0 : (w.alloc (.cells #[.string ByteArray.empty, .string ByteArray.empty] 28)).heap.size = w.heap.size + 1 := by simp
  rw [hw0] at C0
  go_enter Tryd.func11, Tryd.ntmps11
  go_wp2_with fail
  refine C0.out.mono ?_
  rintro e w1 ⟨rfl, hS1, hb1⟩
  have HK1 := Lib.hid (HK0.out.below (by rw [hw0]; exact hb1))
  have hBl := hS1.lt
  have B1 := Lib.hid (HB0.out.trans (hb1.mono (Nat.le_succ _)))
  have C1 := Lib.hid (cDrawPhrase (w.heap.size + 1) len w1 hlen hS1)
  clear hS1 C0 hb1
  go_wp2_with fail
  refine C1.out.mono ?_
  rintro e w2 ⟨t, ht, rfl, hS2, g2⟩
  have B2 := Lib.hid (B1.out.grown g2 (by have := B1.out.size; omega) (fun k hk => by cases hk; omega))
  have HK2 := Lib.hid (HK1.out.grow8 g2 (by omega))
  have HR := Lib.hid (row4p w2)
  have hBl2 := hS2.lt
  have gA := World.grownBy_alloc w2 (.cells #[.string ⟨#[]⟩, .string ⟨#[114, 105, 118, 101, 114]⟩, .string ⟨#[102, 111, 114, 100]⟩, .string ⟨#[72, 105, 108, 108]⟩] 9) (some (w.heap.size + 1))
  have C2 := Lib.hid (cNext (w.heap.size + 1) len 4 _ hlen (by omega) (by omega) (hS2.alloc (.cells #[.string ⟨#[]⟩, .string ⟨#[114, 105, 118, 101, 114]⟩, .string ⟨#[102, 111, 114, 100]⟩, .string ⟨#[72, 105, 108, 108]⟩] 9)))
  have BA := Lib.hid (B2.out.grown gA (by have := B2.out.size; omega) (fun k hk => by cases hk; omega))
  have HKA := Lib.hid (HK2.out.grow8 gA (by omega))
  clear hS2 g2 gA C1
  go_wp2_with fail
  refine C2.out.mono ?_
  rintro e w3 ⟨q0, hq0, hq1, rfl, hS3, g3⟩
  obtain ⟨q, rfl⟩ : ∃ q : Nat, q0 = q := ⟨q0.toNat, by omega⟩
  have hq : q < 4 := by omega
  obtain ⟨y, hy, hcy⟩ := (HR.out.kept g3 (by omega)).2 q hq
  have B3 := Lib.hid (BA.out.grown g3 (by have := BA.out.size; omega) (fun k hk => by cases hk; omega))
  have HK3 := Lib.hid (HKA.out.grow8 g3 (by omega))
  have hqn : (q : Int) < 4 := by omega
  have hg4 := World.grownBy_alloc w3 (.cells #[.string t, .string y] 28) (some (w.heap.size + 1))
  have B4 := Lib.hid (B3.out.grown hg4 (by have := B3.out.size; omega) (fun k hk => by cases hk; omega))
  have HK4 := Lib.hid (HK3.out.grow8 hg4 (by omega))
  have HP4 := Lib.hid (PB.new w3 t y)
  have hl3 := hS3.lt
  have HS4 := Lib.hid (hS3.alloc (.cells #[.string t, .string y] 28))
  clear hS3 g3 hq1 C2 HR hg4
  have CN := Lib.hid (fun W (hW : Src W (w.heap.size + 1) len) => cNext (w.heap.size + 1) len 2 W hlen (by omega) (by omega) hW)
  have hne0 : w.heap.size ≠ w.heap.size + 1 := by omega
  have hne3 : w3.heap.size ≠ w.heap.size + 1 := by omega
  obtain ⟨⟨m4, p0, p1⟩, k0, k1⟩ := HP4.out
  go_wp2_with fail
  go_region_with ((go_at_call 36; refine (CN.out _ (src_drew8 HS4.out)).mono ?_; rintro e w5 ⟨q5, hq50, hq51, rfl, hS5, g5⟩; (obtain ⟨⟨l5, a50, a51⟩, f50, f51⟩ := PB.grow8 (PB.drew8 HK4.out) g5 hne0); (obtain ⟨⟨m5, p50, p51⟩, k50, k51⟩ := PB.grow8 (PB.drew8 HP4.out) g5 hne3); (have B5 := B4.out.drew.grown g5 B4.out.drew.size (fun k hk => by cases hk; exact Nat.le_succ _))))
  all_goals
    go_wp2_with fail
    refine bodyPost_ret ?_ rfl ⟨t, y, (q5 == 0), by omega, by omega, rfl, below_setP B5 (Nat.le_refl _) _ _⟩
    first | (simp [results, Tryd.results11, go_sem, a50, a51]; done) | (simp [results, Tryd.results11, go_sem, a50, a51]; rfl)

def to5 : List ByteArray := [⟨#[102, 108, 117, 115, 115]⟩, ⟨#[102, 117, 114, 116]⟩, ⟨#[98, 101, 114, 103]⟩, ⟨#[115, 101, 101]⟩, ⟨#[98, 117, 99, 104, 116]⟩]
theorem to5_sz : ∀ x ∈ to5, x.size ≤ 64 := by
  intro x hx
  simp only [to5, List.mem_cons, List.not_mem_nil, or_false] at hx
  rcases hx with rfl | rfl | rfl | rfl | rfl <;> decide
theorem to5_row (w : World) : TRow (w.alloc (.cells #[.string ⟨#[102, 108, 117, 115, 115]⟩, .string ⟨#[102, 117, 114, 116]⟩, .string ⟨#[98, 101, 114, 103]⟩, .string ⟨#[115, 101, 101]⟩, .string ⟨#[98, 117, 99, 104, 116]⟩] 9)) w.heap.size 64 5 (.slice (some ⟨w.heap.size, 0, none⟩) 5 5) to5 :=
  ⟨World.ownsRow_lit (e := 9) (base := w.heap.size) (size := 1) w #[.string ⟨#[102, 108, 117, 115, 115]⟩, .string ⟨#[102, 117, 114, 116]⟩, .string ⟨#[98, 101, 114, 103]⟩, .string ⟨#[115, 101, 101]⟩, .string ⟨#[98, 117, 99, 104, 116]⟩] 5 (Nat.le_refl _) (by decide) rfl, to5_sz⟩
theorem grown_of_below {w w' : World} (h : Below w.heap.size w w') : w.grownBy w' none := ⟨h.os, h.tape, h.output, h.size, fun k hk _ => h.block k hk⟩
def TrPost (w : World) (e : Ending) (w' : World) : Prop := ∃ (A : Option Addr) (n c : Nat) (xs : List ByteArray) (A1 : Option Addr) (n1 c1 : Nat) (ys : List ByteArray) (t : ByteArray), n ≤ 6 ∧ n ≤ c ∧ n1 ≤ 5 ∧ n1 ≤ c1 ∧ (∀ x ∈ xs, x.size ≤ 64) ∧ (∀ x ∈ ys, x.size ≤ 64) ∧ t.size ≤ 4000 ∧ e = .returned (.tuple #[.slice A n c, .slice A1 n1 c1, .string t]) ∧ TextAt w' w'.heap.size A n xs ∧ TextAt w' w'.heap.size A1 n1 ys ∧ Below w.heap.size w w'
set_option maxHeartbeats 4000000 in
set_option maxRecDepth 100000 in
theorem cDrawTr (A : Option Addr) (len cap : Nat) (w : World) (hlen : len ≤ 1048576) (h : CodeIn w A len) :
    Calls Tryd.prog 14 #[.slice A len cap] w (TrPost w) := by
  have C0 := Lib.hid (cFrom A len cap w hlen h)
  have HC := Lib.hid h
  clear h
  go_enter Tryd.func14, Tryd.ntmps14
  go_wp2_with fail
  refine C0.out.mono ?_
  rintro e w1 ⟨rfl, hS1, hb1⟩
  have hBl := hS1.lt
  have HS1 := Lib.hid hS1
  have B1 := Lib.hid hb1
  have C1 := Lib.hid (cDrawTake A len cap w1 hlen (HC.out.below hb1))
  clear hS1 hb1 C0 HC
  go_wp2_with fail
  refine C1.out.mono ?_
  rintro e w2 ⟨A1, n, c, xs, t, hn, hnc, hsz, ht, rfl, hT, hb2⟩
  have g2 := grown_of_below hb2
  have HS2 := Lib.hid (HS1.out.own g2 (fun k hk => by cases hk))
  have B2 := Lib.hid (bstepP B1.out B1.out.size hb2)
  have hB2 : w.heap.size < w2.heap.size := Nat.lt_of_lt_of_le hBl hb2.size
  have hgA := World.grownBy_alloc w2 (.cells #[.string ⟨#[102, 108, 117, 115, 115]⟩, .string ⟨#[102, 117, 114, 116]⟩, .string ⟨#[98, 101, 114, 103]⟩, .string ⟨#[115, 101, 101]⟩, .string ⟨#[98, 117, 99, 104, 116]⟩] 9) (some w.heap.size)
  have HT2 := Lib.hid (hT.kept hgA hBl)
  have HY2 := Lib.hid (to5_row w2)
  have B3 := Lib.hid (below_of_src B2.out hgA)
  have HS3 := Lib.hid (HS2.out.alloc (.cells #[.string ⟨#[102, 108, 117, 115, 115]⟩, .string ⟨#[102, 117, 114, 116]⟩, .string ⟨#[98, 101, 114, 103]⟩, .string ⟨#[115, 101, 101]⟩, .string ⟨#[98, 117, 99, 104, 116]⟩] 9))
  have C2 := Lib.hid (cNext w.heap.size len 8 _ hlen (by omega) (by omega) HS3.out)
  have HZ := Lib.hid hsz
  clear hT hb2 g2 hgA HS2 HS1 B1 B2 C1 hsz
  go_wp2_with fail
  refine C2.out.mono ?_
  rintro e w3 ⟨r, hr0, hr1, rfl, hS3, g3⟩
  have HT3 := Lib.hid (HT2.out.kept g3 hBl)
  have HY3 := Lib.hid (HY2.out.kept g3 hB2)
  have B4 := Lib.hid (below_of_src B3.out g3)
  have HS4 := Lib.hid hS3
  clear hS3 g3 hr1 C2 HT2 HY2 B3 HS3
  by_cases h0 : r = 0
  · have z0 : (r == 0) = true := by simp [h0]
    have CN := Lib.hid (fun W (hW : Src W w.heap.size len) => cNext w.heap.size len 6 W hlen (by omega) (by omega) hW)
    clear h0
    go_wp2_with fail
    go_region_with ((go_at_call 36; refine (CN.out _ (src_drew8 HS4.out)).mono ?_; rintro e w5 ⟨q0, hq50, hq51, rfl, hS5, g5⟩; (obtain ⟨q, rfl⟩ : ∃ q : Nat, q0 = q := ⟨q0.toNat, by omega⟩); (have hq : q ≤ 5 := by omega); (have hqi : (q : Int) ≤ 5 := by omega); (have hqn : (0 : Int) ≤ (q : Int) := Int.natCast_nonneg _); (have HT5 := Lib.hid ((TRow.drew8 HT3.out).kept g5 hBl)); (have HY5 := Lib.hid (((TRow.drew8 HY3.out).kept g5 hB2).take hq)); (have B5 := Lib.hid (below_of_src B4.out.drew g5)); clear hS5 g5 hq50 hq51))
    all_goals
      go_wp2_with fail
      go_ret3
      exact ⟨A1, n, c, xs, _, q, 5, _, t, hn, hnc, hq, hq, HZ.out, HY5.out.2, ht, rfl, HT5.out.textAt, HY5.out.textAt, B5.out⟩
  have z0 : (r == 0) = false := by rw [beq_eq_false_iff_ne]; exact h0
  clear h0
  have hm0 : (0 : Int) ≤ min 5 (n : Int) := by omega
  have hm5 : min 5 (n : Int) ≤ 5 := by omega
  have hq : (min 5 (n : Int)).toNat ≤ 5 := by omega
  go_wp2_with fail
  go_region_with fail
  all_goals
    go_wp2_with fail
    go_ret3
    exact ⟨A1, n, c, xs, _, (min 5 (n : Int)).toNat, 5, _, t, hn, hnc, hq, hq, HZ.out, (HY3.out.take hq).2, ht, rfl, (TRow.drew8 HT3.out).textAt, (TRow.drew8 (HY3.out.take hq)).textAt, B4.out.drew⟩
end Go.Proofs.YtippjomkbpiliaaDoor
