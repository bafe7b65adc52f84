/-
  The draws of chapter 8's functions on endings.
-/
import Derived.Test.YtippjomkbpiliaaDraw8L
import Derived.Test.YtippjomkbpiliaaFormsM
import Derived.Test.YtippjomkbpiliaaFmS
namespace Go.Proofs.Ytippjomkbpiliaa
set_option linter.unusedVariables false
set_option linter.unusedSimpArgs false
open Go.RowKit

theorem code_below8 {w w' : World} {A : Option Addr} {len : Nat} (h : CodeIn w A len) (hb : Below w.heap.size w w') : CodeIn w' A len := fun hp => by
  obtain ⟨b, o, hA, hlt, hc⟩ := h hp
  refine ⟨b, o, hA, Nat.lt_of_lt_of_le hlt hb.size, fun j hj => ?_⟩
  obtain ⟨z, h0, h1, h2⟩ := hc j hj
  exact ⟨z, h0, h1, (hb.cell (by exact hlt)).trans h2⟩
theorem below_src8 {w w1 w2 : World} (h : Below w.heap.size w w1) (hg : w1.grownBy w2 (some w.heap.size)) : Below w.heap.size w w2 := h.grown hg h.size (fun k hk => by cases hk; exact Nat.le_refl _)
theorem bstep8 {B : Nat} {a b c : World} (h : Below B a b) (hB : B ≤ b.heap.size) (k : Below b.heap.size b c) : Below B a c := h.trans (k.mono hB)
def FormsPost (w : World) (e : Ending) (w' : World) : Prop :=
  ∃ (g n c : Nat) (xs : List En) (t : ByteArray), n ≤ 40 ∧ n ≤ c ∧ (∀ e ∈ xs, e.1.size ≤ 8 ∧ e.2.1.size ≤ 8) ∧ t.size ≤ 4000 ∧ e = .returned (.tuple #[.slice (some ⟨g, 0, none⟩) n c, .string t]) ∧ w'.ownsRow w.heap.size 60 3 (.slice (some ⟨g, 0, none⟩) n c) n (enV xs) ∧ Below w.heap.size w w'
theorem cDrawForms (A : Option Addr) (len cap : Nat) (w : World) (hlen : len ≤ 1048576) (h : CodeIn w A len) :
    Calls Try.prog 37 #[.slice A len cap] w (FormsPost w) := by
  have C0 := Lib.hid (cFrom A len cap w hlen h)
  clear h
  go_enter Try.func37, Try.ntmps37
  go_wp2_with fail
  refine C0.out.mono ?_
  rintro e w1 ⟨rfl, hS1, hb1⟩
  have B1 := Lib.hid hb1
  have C1 := Lib.hid (cTableD w.heap.size len w1 hlen hS1)
  clear hS1 C0 hb1
  go_wp2_with fail
  refine C1.out.mono ?_
  rintro e w2 ⟨g, n, c, xs, hn, rfl, hT⟩
  have HT := Lib.hid hT
  have C2 := Lib.hid (cDrawWord w.heap.size len w2 hlen hT.2.1)
  clear hT C1
  go_wp2_with fail
  refine C2.out.mono ?_
  rintro e w3 ⟨t, ht, rfl, hS3, g3⟩
  have HT3 := Lib.hid (HT.out.next hS3 g3)
  clear hS3 g3 C2 HT
  go_wp2_with fail
  go_ret2
  exact ⟨g, n, c, xs, t, hn, HT3.out.cap.1, HT3.out.2.2.2.2, by omega, rfl, own_low8 HT3.out.1 B1.out.size, below_src8 B1.out HT3.out.2.2.1⟩
theorem cDrawBases (A : Option Addr) (len cap : Nat) (w : World) (hlen : len ≤ 1048576) (h : CodeIn w A len) :
    Calls Try.prog 10 #[.slice A len cap] w (FormsPost w) := by
  have C0 := Lib.hid (cDrawForms A len cap w hlen h)
  clear h
  go_enter Try.func10, Try.ntmps10
  go_wp2_with fail
  refine C0.out.mono ?_
  rintro e w1 ⟨g, n, c, xs, t, hn, hc, hz, ht, rfl, hE, hb⟩
  have HE := Lib.hid hE
  have HZ := Lib.hid hz
  clear hE hz
  go_wp2_with fail
  go_ret2
  exact ⟨g, n, c, xs, t, hn, hc, HZ.out, ht, rfl, HE.out, hb⟩
def CasesPost (w : World) (e : Ending) (w' : World) : Prop :=
  ∃ (g n c : Nat) (xs : List En) (t u : ByteArray), n ≤ 40 ∧ n ≤ c ∧ (∀ e ∈ xs, e.1.size ≤ 8 ∧ e.2.1.size ≤ 8) ∧ t.size ≤ 4000 ∧ u.size ≤ 4000 ∧ e = .returned (.tuple #[.slice (some ⟨g, 0, none⟩) n c, .string t, .string u]) ∧ EnAt w' w'.heap.size (some ⟨g, 0, none⟩) n xs ∧ Below w.heap.size w w'
theorem forms_size {xs : List En} {word x : ByteArray} (hx : x ∈ formsZ xs word) : x.size ≤ 16 := by
  cases hk : (tabE xs && wordB word)
  · rw [formsZ_bad hk] at hx; cases hx
  · rw [formsZ_ok hk, (setT_is _).2, List.mem_filterMap] at hx
    obtain ⟨e, he, hb⟩ := hx
    exact (word_size x (form_size word e x hb)).2
theorem drew_grown8 {w w' : World} {r : Option Nat} (h : w.drew.grownBy w' r) : w.grownBy w' r := ⟨h.os, h.tape, h.output, h.size, h.block⟩
theorem own_drew8 {w : World} {lo s m : Nat} {t : TypeId} {v : Value} {xs : List Value} (h : w.ownsRow lo t s v m xs) : w.drew.ownsRow lo t s v m xs := h
/-- The drawn table on the way, seen from the source at B. -/
theorem row_keptT {w V V' : World} {B lo m : Nat} {v : Value} {xs : List Value} {t : TypeId} (h : V.ownsRow lo t 1 v m xs) (hB : B < lo) (hg : V.grownBy V' (some B)) : V'.ownsRow lo t 1 v m xs :=
  h.kept hg (by
    cases hv : v.ownBlock with
    | none => exact .inl rfl
    | some x => exact .inr (fun e => by have := (h.lt x hv).1; injection e with e; omega))

set_option maxHeartbeats 4000000 in
set_option maxRecDepth 100000 in
theorem cDrawCases (A : Option Addr) (len cap : Nat) (w : World) (hlen : len ≤ 1048576) (h : CodeIn w A len) :
    Calls Try.prog 15 #[.slice A len cap] w (CasesPost w) := by
  have C0 := Lib.hid (cFrom A len cap w hlen h)
  have HC := Lib.hid h
  clear h
  go_enter Try.func15, Try.ntmps15
  go_wp2_with fail
  refine C0.out.mono ?_
  rintro e w1 ⟨rfl, hS1, hb1⟩
  have hBl := hS1.lt
  have HS1 := Lib.hid hS1
  have B1 := Lib.hid hb1
  have C1 := Lib.hid (cDrawForms A len cap w1 hlen (code_below8 HC.out hb1))
  clear hS1 hb1 C0 HC
  go_wp2_with fail
  refine C1.out.mono ?_
  rintro e w2 ⟨g, n, c, xs, t, hn, hc, hz, ht, rfl, hE, hb2⟩
  have HR2 := Lib.hid hE
  have HZ := Lib.hid hz
  have HS2 := Lib.hid (HS1.out.own (grown_of_below8 hb2) (fun k hk => by cases hk))
  have B2 := Lib.hid (bstep8 B1.out B1.out.size hb2)
  have hB2 : w.heap.size < w2.heap.size := Nat.lt_of_lt_of_le hBl hb2.size
  have C2 := Lib.hid (tForms_spec (some ⟨g, 0, none⟩) n c xs t w2 (by omega) (fun e he => by have := hz e he; omega) (by omega) (own_en hE))
  have HFS := Lib.hid (fun (x : ByteArray) => forms_size (xs := xs) (word := t) (x := x))
  clear hE hz hb2 C1 HS1 B1
  go_wp2_with fail
  refine C2.out.mono ?_
  rintro e w3 ⟨A3, n3, c3, rfl, hR, hb3⟩
  have g3 := grown_of_below8 hb3
  have HR3 := Lib.hid (HR2.out.kept g3 (by cases h9 : (Value.slice (some ⟨g, 0, none⟩) n c).ownBlock <;> simp))
  have HS3 := Lib.hid (HS2.out.own g3 (fun k hk => by cases hk))
  have B3 := Lib.hid (bstep8 B2.out B2.out.size hb3)
  have HL3 := Lib.hid hR
  have hn3 : n3 = (formsZ xs t).length := by have := hR.1; rw [strV_len] at this; omega
  have HN3 := Lib.hid hn3
  have hn16 : n3 ≤ 16 := by rw [hn3]; exact formsZ_len _ _
  have C4 := Lib.hid (cNext w.heap.size len 4 w3 hlen (by omega) (by omega) HS3.out)
  have CW := Lib.hid (fun W (hW : Src W w.heap.size len) => cDrawWord w.heap.size len W hlen hW)
  have FIN : Hid (∀ (W : World) (u : ByteArray), u.size ≤ 4000 → w3.grownBy W (some w.heap.size) → CasesPost w (.returned (.tuple #[.slice (some ⟨g, 0, none⟩) n c, .string t, .string u])) W) := Lib.hid (fun W u hu hg => ⟨g, n, c, xs, t, u, hn, hc, HZ.out, ht, hu, rfl, own_en (HR3.out.kept hg (by
    cases hv : (Value.slice (some ⟨g, 0, none⟩) n c).ownBlock with
    | none => exact .inl rfl
    | some x => exact .inr (fun e => by have := (HR3.out.lt x hv).1; injection e with e; omega))), below_src8 B3.out hg⟩)
  clear hR hb3 g3 C2 HS2 B2 HR2 hn3
  generalize formsZ xs t = ls at HL3 HFS HN3
  generalize fmC xs t = code
  by_cases hc0 : code = 0
  · have z0 : (code == 0) = true := by simp [hc0]
    by_cases hp : 0 < n3
    · have z1 : decide ((0 : Int) < (n3 : Int)) = true := decide_eq_true (by omega)
      have z1' : decide (0 < n3) = true := decide_eq_true hp
      clear hc0
      obtain ⟨g3, c3', hv, _, hgl⟩ := World.ownsRow.form HL3.out hp
      injection hv with e1 e2 e3
      subst e1
      go_wp2_with fail
      refine C4.out.mono ?_
      rintro e w4 ⟨r, hr0, hr1, rfl, hS4, g4⟩
      have HS4 := Lib.hid hS4
      have HL4 := Lib.hid (row_keptT (w := w) HL3.out hB2 g4)
      have HG4 := Lib.hid g4
      clear hS4 g4 C4
      by_cases hr : 0 < r
      · have z2 : decide ((0 : Int) < r) = true := decide_eq_true hr
        have CN := Lib.hid (fun W (hW : Src W w.heap.size len) => cNext w.heap.size len (n3 : Int) W hlen (by omega) (by omega) hW)
        go_wp2_with fail
        go_region_with ((go_at_call 46; refine (CN.out _ (src_drew8 HS4.out)).mono ?_; rintro e w5 ⟨q0, hq50, hq51, rfl, hS5, g5⟩; (obtain ⟨q, rfl⟩ : ∃ q : Nat, q0 = q := ⟨q0.toNat, by omega⟩); (have hq : q < n3 := by omega); (have hqi : (q : Int) < (n3 : Int) := by omega); (have hqn : (0 : Int) ≤ (q : Int) := Int.natCast_nonneg _); (obtain ⟨y, hy⟩ : ∃ y, ls[q]? = some y := ⟨ls[q]'(by have := HN3.out; omega), List.getElem?_eq_getElem _⟩); (have HY := Lib.hid (HFS.out y (List.mem_of_getElem? hy))); (have HG5 := Lib.hid (HG4.out.trans (drew_grown8 g5))); (have hcy := (World.ownsRow.cellAt (row_keptT (w := w) (own_drew8 HL4.out) hB2 g5) q (by omega)).trans (strV_at _ _ _ hy)); clear hS5 g5 hq50 hq51 hy))
        all_goals
          go_wp2_with fail
          go_ret3
          exact FIN.out _ y (by have := HY.out; omega) HG5.out
      · have z2 : decide ((0 : Int) < r) = false := decide_eq_false hr
        go_wp2_with fail
        refine (CW.out _ HS4.out).mono ?_
        rintro e w5 ⟨u, hu, rfl, hS5, g5⟩
        have HG5 := Lib.hid (HG4.out.trans g5)
        clear hS5 g5
        go_wp2_with fail
        go_ret3
        exact FIN.out _ u (by omega) HG5.out
    · have z1 : decide ((0 : Int) < (n3 : Int)) = false := decide_eq_false (by omega)
      have z1' : decide (0 < n3) = false := decide_eq_false hp
      clear hc0
      go_wp2_with fail
      refine (CW.out _ HS3.out).mono ?_
      rintro e w5 ⟨u, hu, rfl, hS5, g5⟩
      have HG5 := Lib.hid g5
      clear hS5 g5
      go_wp2_with fail
      go_ret3
      exact FIN.out _ u (by omega) HG5.out
  · have z0 : (code == 0) = false := by rw [beq_eq_false_iff_ne]; exact hc0
    clear hc0
    go_wp2_with fail
    refine (CW.out _ HS3.out).mono ?_
    rintro e w5 ⟨u, hu, rfl, hS5, g5⟩
    have HG5 := Lib.hid g5
    clear hS5 g5
    go_wp2_with fail
    go_ret3
    exact FIN.out _ u (by omega) HG5.out
end Go.Proofs.Ytippjomkbpiliaa
