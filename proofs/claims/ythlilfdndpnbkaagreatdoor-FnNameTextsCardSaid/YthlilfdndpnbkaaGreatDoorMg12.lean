/-
  The contract of spec.DrawNameText.
-/
import Derived.Test.YthlilfdndpnbkaaGreatDoorNtD
import Derived.Test.YthlilfdndpnbkaaGreatDoorDec
import Derived.Lib.ParseIntB
namespace Go.Proofs.YthlilfdndpnbkaaGreatDoor
section
set_option linter.unusedVariables false
open Go.RowKit

/-- A drawn name, for the law. -/
def DNm (w : World) (e : Ending) (w' : World) : Prop := ∃ x : Nm, e = .returned (nmA x) ∧ Small x ∧ Below w.heap.size w w'
set_option maxHeartbeats 2000000 in
set_option maxRecDepth 100000 in
theorem cDrawNT (A : Option Addr) (len cap : Nat) (w : World) (hlen : len ≤ 1048576) (h : CodeIn w A len) :
    Calls Tryz.prog 7 #[.slice A len cap] w (DNm w) := by
  obtain ⟨wa, hwa⟩ : ∃ wa, wa = w.alloc (.cells #[.string ⟨#[]⟩, .string ⟨#[]⟩, .int .i64 0, .int .i64 0, .int .i64 0] 27) := ⟨_, rfl⟩
  have hba : Below w.heap.size w wa := by rw [hwa]; exact (Below.refl _ _).alloc (Nat.le_refl _) _
  have hTa : TabAt wa w.heap.size 27 (celN zeroN) := by rw [hwa]; exact TabAt.new w _ _
  have HSA : Hid (w.heap.size ≤ wa.heap.size) := Lib.hid hba.size
  have HWA := Lib.hid hwa
  have C0 := Lib.hid (cFrom A len cap wa hlen (h.belowZ hba))
  obtain ⟨B, hB⟩ : ∃ B, B = wa.heap.size := ⟨_, rfl⟩
  have HSB : Hid (w.heap.size ≤ B) := Lib.hid (by rw [hB]; exact hba.size)
  have HEB := Lib.hid hB
  rw [← hB] at C0
  have HBA := Lib.hid hba
  have HTA := Lib.hid hTa
  clear h hba hTa hwa hB HSA
  go_enter Tryz.func7, Tryz.ntmps7
  go_wp2_with fail
  rw [← HWA.out]
  refine C0.out.mono ?_
  rintro e w1 ⟨rfl, hS1, hb1⟩
  have HB1 := Lib.hid (HBA.out.trans (hb1.mono HSB.out))
  have HT1 : Hid (TabAt w1 w.heap.size 27 (celN zeroN)) := Lib.hid ((hb1.block _ (by rw [HEB.out]; exact HTA.out.lt)).trans HTA.out)
  have HS1 := Lib.hid hS1
  have CX := Lib.hid (cNmD B len w1 hlen hS1)
  clear hS1 hb1 C0 HBA HTA HWA
  go_wp2_with fail
  refine CX.out.mono ?_
  rintro e w2 ⟨x, rfl, hx, hS2, g2⟩
  have HT2 := Lib.hid (tab_src HT1.out HS1.out (by decide) g2)
  have HB2 := Lib.hid (below_srcZ HB1.out HSB.out g2)
  have HX := Lib.hid hx
  clear hS2 g2 HB1 HT1 HS1 CX hx
  have b0 := (HT2.out.cell 0).trans (show (celN zeroN)[0]? = some (.string ⟨#[]⟩) from rfl)
  have b1 := (HT2.out.cell 1).trans (show (celN zeroN)[1]? = some (.string ⟨#[]⟩) from rfl)
  have b2 := (HT2.out.cell 2).trans (show (celN zeroN)[2]? = some (.int .i64 0) from rfl)
  have b3 := (HT2.out.cell 3).trans (show (celN zeroN)[3]? = some (.int .i64 0) from rfl)
  have b4 := (HT2.out.cell 4).trans (show (celN zeroN)[4]? = some (.int .i64 0) from rfl)
  have e0 := HT2.out.frozen 0
  have e1 := HT2.out.frozen 1
  have e2 := HT2.out.frozen 2
  have e3 := HT2.out.frozen 3
  have e4 := HT2.out.frozen 4
  have HT3 := Lib.hid (put5_same (x := x) HT2.out rfl)
  have HB3 := Lib.hid (below_put5 (x := x) HB2.out (Nat.le_refl _))
  have k0 := (HT3.out.cell 0).trans (show (celN x)[0]? = some (.string x.t) from rfl)
  have k1 := (HT3.out.cell 1).trans (show (celN x)[1]? = some (.string x.l) from rfl)
  have k2 := (HT3.out.cell 2).trans (show (celN x)[2]? = some (.int .i64 x.s) from rfl)
  have k3 := (HT3.out.cell 3).trans (show (celN x)[3]? = some (.int .i64 x.f) from rfl)
  have k4 := (HT3.out.cell 4).trans (show (celN x)[4]? = some (.int .i64 x.u) from rfl)
  unfold put5 at k0 k1 k2 k3 k4
  go_wp2_with fail
  refine bodyPost_ret ?_ rfl ⟨x, rfl, HX.out, HB3.out⟩
  first | (simp [results, Tryz.results7, go_sem, k0, k1, k2, k3, k4]; done) | (simp [results, Tryz.results7, go_sem, k0, k1, k2, k3, k4]; rfl)

end
section
set_option linter.unusedVariables false

def digB (c : UInt8) : Bool := decide (48 ≤ c.toNat) && decide (c.toNat ≤ 57)
def digAll (l : List UInt8) : Bool := l.all digB
def valD (l : List UInt8) : Nat := l.foldl (fun a c => a * 10 + (c.toNat - 48)) 0
theorem valD_snoc (l : List UInt8) (c : UInt8) : valD (l ++ [c]) = valD l * 10 + (c.toNat - 48) := by unfold valD; rw [List.foldl_append]; rfl
theorem dig_toNat (d : Nat) (h : d < 10) : (48 + UInt8.ofNat d).toNat = 48 + d := by
  have : d = 0 ∨ d = 1 ∨ d = 2 ∨ d = 3 ∨ d = 4 ∨ d = 5 ∨ d = 6 ∨ d = 7 ∨ d = 8 ∨ d = 9 := by omega
  rcases this with rfl | rfl | rfl | rfl | rfl | rfl | rfl | rfl | rfl | rfl <;> rfl
theorem dig_toNat' (d : Nat) (h : d < 10) : (UInt8.ofNat (48 + d)).toNat = 48 + d := by
  have : d = 0 ∨ d = 1 ∨ d = 2 ∨ d = 3 ∨ d = 4 ∨ d = 5 ∨ d = 6 ∨ d = 7 ∨ d = 8 ∨ d = 9 := by omega
  rcases this with rfl | rfl | rfl | rfl | rfl | rfl | rfl | rfl | rfl | rfl <;> rfl
theorem dec_digits (n : Nat) : digAll (Lib.decDigits n) = true ∧ valD (Lib.decDigits n) = n ∧ Lib.decDigits n ≠ [] := by
  induction n using Nat.strongRecOn with
  | _ n ih =>
    by_cases h : n < 10
    · rw [Lib.decDigits, dif_pos h]
      have h1 := dig_toNat' n h
      refine ⟨?_, ?_, by simp⟩
      · unfold digAll digB; simp only [List.all_cons, List.all_nil, h1]; simp; omega
      · unfold valD; simp only [List.foldl_cons, List.foldl_nil, h1]; omega
    · rw [Lib.decDigits, dif_neg h]
      obtain ⟨h1, h2, h3⟩ := ih (n / 10) (by omega)
      have h4 := dig_toNat' (n % 10) (by omega)
      refine ⟨?_, ?_, by simp⟩
      · unfold digAll at h1 ⊢
        rw [List.all_append, h1]
        unfold digB; simp only [List.all_cons, List.all_nil, h4]; simp; omega
      · rw [valD_snoc, h2, h4]; omega
theorem dec_inj {a b : Nat} (h : decB a = decB b) : a = b := by
  have h1 : Lib.decDigits a = Lib.decDigits b := by
    have := congrArg (fun x : ByteArray => x.data.toList) h
    simpa [decB] using this
  have h2 := (dec_digits a).2.1
  rw [h1, (dec_digits b).2.1] at h2
  exact h2.symm
theorem decB_data (n : Nat) : (decB n).data.toList = Lib.decDigits n := by simp [decB]
theorem numB_data (n : Int) : (numB n).data.toList = Lib.itoa n := by simp [numB]
theorem parseM_ok (M : Nat) (hM : M < 18446744073709551616) : ∀ (l : List UInt8) (acc : Nat), digAll l = true → l.foldl (fun a c => a * 10 + (c.toNat - 48)) acc ≤ M → Lib.parseUintM M acc l = .ok (l.foldl (fun a c => a * 10 + (c.toNat - 48)) acc)
  | [], acc, _, _ => rfl
  | c :: r, acc, hd, hl => by
    unfold digAll at hd
    rw [List.all_cons, Bool.and_eq_true] at hd
    have hc : 48 ≤ c.toNat ∧ c.toNat ≤ 57 := by have := hd.1; unfold digB at this; simpa using this
    rw [List.foldl_cons] at hl ⊢
    have mono : ∀ (l : List UInt8) (a : Nat), a ≤ l.foldl (fun a c => a * 10 + (c.toNat - 48)) a := by
      intro l
      induction l with
      | nil => intro a; exact Nat.le_refl _
      | cons x r ih => intro a; rw [List.foldl_cons]; have := ih (a * 10 + (x.toNat - 48)); omega
    have h1 := mono r (acc * 10 + (c.toNat - 48))
    rw [Lib.parseUintM, if_pos hc, if_neg (by omega), if_neg (by omega)]
    exact parseM_ok M hM r _ hd.2 hl
theorem itoa_head (n : Int) (h : n < 0) : Lib.itoa n = 45 :: Lib.decDigits n.natAbs := by unfold Lib.itoa; rw [if_pos h]
theorem itoa_pos (n : Int) (h : ¬ n < 0) : Lib.itoa n = Lib.decDigits n.toNat := by unfold Lib.itoa; rw [if_neg h]
theorem first_digit {l : List UInt8} {c : UInt8} {r : List UInt8} (h : digAll l = true) (he : l = c :: r) : 48 ≤ c.toNat ∧ c.toNat ≤ 57 := by
  rw [he] at h; unfold digAll digB at h; simp at h; omega
theorem parse_itoa (n : Int) (h1 : -9223372036854775808 ≤ n) (h2 : n ≤ 9223372036854775807) : Lib.parseIntB 64 (Lib.itoa n) = .ok n := by
  by_cases h : n < 0
  · rw [itoa_head n h]
    obtain ⟨d1, d2, d3⟩ := dec_digits n.natAbs
    have hp : Lib.parseUintB 64 (Lib.decDigits n.natAbs) = .ok n.natAbs := by
      unfold Lib.parseUintB
      rw [if_neg d3, parseM_ok _ (by decide) _ 0 d1 (by change valD _ ≤ _; rw [d2]; simp; omega)]
      change Lib.NumEnd.ok (valD _) = _
      rw [d2]
    have e45 : (45 : UInt8).toNat = 45 := rfl
    simp only [Lib.parseIntB, e45]
    rw [if_pos (by decide), hp]
    simp only
    rw [if_neg (by simp), if_neg (by simp; omega)]
    simp; omega
  · rw [itoa_pos n h]
    obtain ⟨d1, d2, d3⟩ := dec_digits n.toNat
    have hp : Lib.parseUintB 64 (Lib.decDigits n.toNat) = .ok n.toNat := by
      unfold Lib.parseUintB
      rw [if_neg d3, parseM_ok _ (by decide) _ 0 d1 (by change valD _ ≤ _; rw [d2]; simp; omega)]
      change Lib.NumEnd.ok (valD _) = _
      rw [d2]
    cases hl : Lib.decDigits n.toNat with
    | nil => exact absurd hl d3
    | cons c r =>
      have hc := first_digit d1 hl
      rw [← hl]
      unfold Lib.parseIntB
      rw [hl]
      simp only
      rw [if_neg (by omega), ← hl, hp]
      simp only
      rw [if_neg (by simp; omega), if_neg (by omega)]
      rw [if_neg (by omega)]
      congr 1; omega
theorem num_inj {a b : Int} (ha : -9223372036854775808 ≤ a) (ha' : a ≤ 9223372036854775807) (hb : -9223372036854775808 ≤ b) (hb' : b ≤ 9223372036854775807) (h : numB a = numB b) : a = b := by
  have h1 : Lib.itoa a = Lib.itoa b := by rw [← numB_data, ← numB_data, h]
  have h2 := parse_itoa a ha ha'
  rw [h1, parse_itoa b hb hb'] at h2
  injection h2 with h2
  exact h2.symm
end
end Go.Proofs.YthlilfdndpnbkaaGreatDoor
