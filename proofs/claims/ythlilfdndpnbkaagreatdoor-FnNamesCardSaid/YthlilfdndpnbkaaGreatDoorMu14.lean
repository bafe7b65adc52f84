/-
  The contracts of spec.l01Dec and spec.l01Number: the decimal text of a number.
-/
import Derived.Test.YthlilfdndpnbkaaGreatDoorMu6
import Derived.Test.YthlilfdndpnbkaaGreatDoorMu5
import Derived.Lib.ItoaNum
import Derived.Laws.IdiomStrings
import Derived.Deep.RegionWith
import Derived.IntWalk
import Derived.Test.YthlilfdndpnbkaaGreatDoorMu9
import Derived.Test.YthlilfdndpnbkaaGreatDoorMu2
import Derived.Lib.Join
import Derived.Handy
namespace Go.Proofs.YthlilfdndpnbkaaGreatDoor
section
set_option linter.unusedVariables false
open Go.RowKit

def decB (n : Nat) : ByteArray := ⟨(Lib.decDigits n).toArray⟩
theorem decB_small (n : Nat) (h : n < 10) : decB n = ⟨#[UInt8.ofNat (48 + n)]⟩ := by unfold decB; rw [Lib.decDigits, dif_pos h]
theorem decB_big (n : Nat) (h : ¬ n < 10) : decB n = decB (n / 10) ++ ⟨#[UInt8.ofNat (48 + n % 10)]⟩ := by
  unfold decB; rw [Lib.decDigits, dif_neg h]
  apply ByteArray.ext; apply Array.toList_inj.1; simp
theorem decB_len (n : Nat) : (decB n).size ≤ n + 1 := by
  have h : (Lib.decDigits n).length ≤ n + 1 := by
    induction n using Nat.strongRecOn with
    | _ k ih =>
      by_cases h : k < 10
      · rw [Lib.decDigits, dif_pos h]; simp
      · rw [Lib.decDigits, dif_neg h]
        have := ih (k / 10) (by omega)
        simp; omega
  have h2 : (decB n).size = (Lib.decDigits n).length := by simp [decB, ← ByteArray.size_data]
  omega
theorem conv_at (W : World) (g d : Nat) (hd : d < 10) (h : W.cell? ⟨g, 0, none⟩ = some (.int .u8 (48 + (d : Int)))) : (convert 22 9 (.slice (some ⟨g, 0, none⟩) 1 1)).run Tryz.prog W = .ok (.string ⟨#[UInt8.ofNat (48 + d)]⟩) W := by
  refine run_convert_bytes_back (P := Tryz.prog) W 22 9 5 ⟨g, 0, none⟩ 1 [UInt8.ofNat (48 + d)] Tryz.underlying22 Tryz.underlying5 Tryz.underlying9 ?_
  intro i hi
  obtain rfl : i = 0 := by simpa using hi
  have h1 : ((UInt8.ofNat (48 + d)).toNat : Int) = 48 + (d : Int) := by
    rw [UInt8.toNat_ofNat_of_lt' (by simp [UInt8.size]; omega)]; omega
  have h3 : ((⟨g, 0, none⟩ : Addr).add 0) = ⟨g, 0, none⟩ := by simp [Addr.add]
  rw [h3, h]
  exact congrArg (fun x => some (Value.int .u8 x)) h1.symm

theorem use_fact {T Q : Prop} (h : T) (k : T → Q) : Q := k h
set_option maxHeartbeats 1000000 in
set_option maxRecDepth 100000 in
theorem cDec (N : Nat) : ∀ (n : Nat) (w : World), n ≤ N → n ≤ 99999999999999 →
    Calls Tryz.prog 94 #[.int .i64 n] w fun e w' => e = .returned (.string (decB n)) ∧ Below w.heap.size w w' := by
  induction N with
  | zero =>
    intro n w hn hb
    have hlt : n < 10 := by omega
    have HD := Lib.hid (decB_small n hlt)
    have hcv := conv_at (w.alloc (.cells #[.int .u8 (48 + (n : Int))] 5)) w.heap.size n hlt (new_one _ _ _)
    go_enter Tryz.func94, Tryz.ntmps94
    go_wp2_with fail
    go_ret
    exact ⟨by rw [HD.out]; simp, (Below.refl _ _).alloc (Nat.le_refl _) _⟩
  | succ N ih =>
    intro n w hn hb
    by_cases hlt : n < 10
    · have HD := Lib.hid (decB_small n hlt)
      have hcv := conv_at (w.alloc (.cells #[.int .u8 (48 + (n : Int))] 5)) w.heap.size n hlt (new_one _ _ _)
      go_enter Tryz.func94, Tryz.ntmps94
      go_wp2_with fail
      go_ret
      exact ⟨by rw [HD.out]; simp, (Below.refl _ _).alloc (Nat.le_refl _) _⟩
    · have HD : Hid (decB n = decB (n / 10) ++ ⟨#[48 + UInt8.ofNat (n % 10)]⟩) := Lib.hid (by rw [decB_big n hlt]; simp)
      have HI := Lib.hid (fun W => ih (n / 10) W (by omega) (by omega))
      have HL := Lib.hid (decB_len (n / 10))
      clear ih
      have hI : ∀ W, Calls Tryz.prog 94 #[.int .i64 ((n : Int) / 10)] W fun e w' => e = .returned (.string (decB (n / 10))) ∧ Below W.heap.size W w' := by
        rw [show ((n : Int) / 10) = ((n / 10 : Nat) : Int) from by omega]
        exact HI.out
      have HI2 := Lib.hid hI
      have hsz := HL.out
      have hcv : ∀ (W : World) (g : Nat), W.cell? ⟨g, 0, none⟩ = some (.int .u8 (48 + (n : Int) % 10)) → (convert 22 9 (.slice (some ⟨g, 0, none⟩) 1 1)).run Tryz.prog W = .ok (.string ⟨#[UInt8.ofNat (48 + n % 10)]⟩) W := by
        intro W g h
        exact conv_at W g (n % 10) (by omega) (by rw [h]; rfl)
      clear HI hI HL
      go_enter Tryz.func94, Tryz.ntmps94
      go_wp2_with fail
      have e1 : (0 : Int) ≤ (n : Int) := Int.natCast_nonneg _
      have s1 : IntKind.i64.wrap (48 + (n : Int) % 10) = 48 + (n : Int) % 10 := IntWalk.i64_in _ (by omega)
      have s2 : IntKind.u8.wrap (48 + (n : Int) % 10) = 48 + (n : Int) % 10 := IntWalk.u8_in _ (by omega)
      have s3 : (n : Int).tmod 10 = (n : Int) % 10 := Int.tmod_eq_emod_of_nonneg e1
      have s4 : (n : Int).tdiv 10 = (n : Int) / 10 := Int.tdiv_eq_ediv_of_nonneg e1
      have s5 : IntKind.i64.wrap ((n : Int) / 10) = (n : Int) / 10 := IntWalk.i64_in _ (by omega)
      have s6 : IntKind.i64.wrap ((n : Int) % 10) = (n : Int) % 10 := IntWalk.i64_in _ (by omega)
      go_region_with ((go_at_call 94; refine (HI2.out _).mono ?_; rintro e w1 ⟨rfl, hb1⟩; try (refine use_fact (T := w1.cell? ⟨w.heap.size, 0, none⟩ = some (.int .u8 (48 + (n : Int) % 10))) ?hk9 ?_; (case hk9 => (rw [hb1.cell]; all_goals (simp; done))); intro hk1)))
      all_goals
        go_wp2
        go_ret
        refine ⟨by rw [HD.out]; rfl, ?_⟩
        first
          | exact ((Below.refl _ _).drew.trans hb1).alloc hb1.size _
          | exact ((Below.refl _ _).alloc (Nat.le_refl _) _).drew.trans (hb1.mono (by simp))
          | exact ((Below.refl _ _).drew.alloc (Nat.le_refl _) _).trans (hb1.mono (by simp))

/-- The decimal text of a number, with a minus sign if it is negative. -/
def numB (n : Int) : ByteArray := ⟨(Lib.itoa n).toArray⟩
theorem numB_neg (n : Int) (h : n < 0) : numB n = ⟨#[45]⟩ ++ decB n.natAbs := by
  unfold numB Lib.itoa decB; rw [if_pos h]
  apply ByteArray.ext; apply Array.toList_inj.1; simp
theorem numB_pos (n : Int) (h : ¬ n < 0) : numB n = decB n.toNat := by unfold numB Lib.itoa decB; rw [if_neg h]
theorem numB_len (n : Int) : (numB n).size ≤ n.natAbs + 2 := by
  by_cases h : n < 0
  · rw [numB_neg n h, ByteArray.size_append]
    have := decB_len n.natAbs
    have h1 : (⟨#[45]⟩ : ByteArray).size = 1 := rfl
    omega
  · rw [numB_pos n h]
    have := decB_len n.toNat
    omega

theorem cNumber (n : Int) (w : World) (h1 : -1000000000000 ≤ n) (h2 : n ≤ 1000000000000) :
    Calls Tryz.prog 131 #[.int .i64 n] w fun e w' => e = .returned (.string (numB n)) ∧ Below w.heap.size w w' := by
  by_cases h : n < 0
  · have hc := cDec n.natAbs n.natAbs
    rw [show ((n.natAbs : Nat) : Int) = -n from by omega] at hc
    have HC := Lib.hid (fun W => hc W (Nat.le_refl _) (by omega))
    have HD := Lib.hid (numB_neg n h)
    have hsz := decB_len n.natAbs
    have hsz2 : (decB n.natAbs).size ≤ 1000000000001 := by omega
    clear hc hsz
    go_enter Tryz.func131, Tryz.ntmps131
    go_wp2_with fail
    refine (HC.out _).mono ?_
    rintro e w1 ⟨rfl, hb⟩
    go_wp2_with fail
    go_ret
    exact ⟨by rw [HD.out]; rfl, hb⟩
  · have hc := cDec n.toNat n.toNat
    rw [show ((n.toNat : Nat) : Int) = n from by omega] at hc
    have HC := Lib.hid (fun W => hc W (Nat.le_refl _) (by omega))
    have HD := Lib.hid (numB_pos n h)
    have h0 : 0 ≤ n := by omega
    clear hc
    go_enter Tryz.func131, Tryz.ntmps131
    go_wp2_with fail
    refine (HC.out _).mono ?_
    rintro e w1 ⟨rfl, hb⟩
    go_wp2_with fail
    go_ret
    exact ⟨by rw [HD.out]; rfl, hb⟩
end
section
set_option linter.unusedVariables false
open Go.RowKit

/-- A slice that holds the numbers xs, in a block below B. -/
def NumAt (w : World) (B : Nat) (A : Option Addr) (n : Nat) (xs : List Int) : Prop :=
  n = xs.length ∧ (0 < n → ∃ b o, A = some ⟨b, o, none⟩ ∧ b < B ∧ ∀ (j : Nat) x, xs[j]? = some x → w.cell? ⟨b, o + j, none⟩ = some (.int .i64 x))
theorem NumAt.below {w w' : World} {B C : Nat} {A : Option Addr} {n : Nat} {xs : List Int} (h : NumAt w B A n xs) (hb : Below C w w') (hBC : B ≤ C) : NumAt w' B A n xs :=
  ⟨h.1, fun hp => by obtain ⟨b, o, h1, h2, h3⟩ := h.2 hp; exact ⟨b, o, h1, h2, fun j x hx => (hb.cell (by exact Nat.lt_of_lt_of_le h2 hBC)).trans (h3 j x hx)⟩⟩
theorem NumAt.more {w : World} {B C : Nat} {A : Option Addr} {n : Nat} {xs : List Int} (h : NumAt w B A n xs) (hBC : B ≤ C) : NumAt w C A n xs :=
  ⟨h.1, fun hp => by obtain ⟨b, o, h1, h2, h3⟩ := h.2 hp; exact ⟨b, o, h1, Nat.lt_of_lt_of_le h2 hBC, h3⟩⟩
theorem IsInts.row {k : IntKind} {w : World} {a : Option Addr} {len cap : Nat} {zs : List Int} (h : IsInts k w a len cap zs) (hp : 0 < len) :
    ∃ b o, a = some ⟨b, o, none⟩ ∧ b < w.heap.size ∧ (zs.take len).length = len ∧ len ≤ maxLen ∧ (∀ (j : Nat) x, (zs.take len)[j]? = some x → w.cell? ⟨b, o + j, none⟩ = some (.int k x)) ∧ ∀ n ∈ zs.take len, (Lit.int k n).wf = true := by
  rcases h with ⟨_, h, _⟩ | ⟨x, rfl, hl, hm, hz, hc, hs⟩
  · omega
  · obtain ⟨b, o, spot⟩ := x
    have hspot : spot = none := by simpa [Addr.add] using World.cell?_spot (hc 0 (by omega))
    subst hspot
    have h0 := hc 0 (by omega)
    rw [add_plain'] at h0
    refine ⟨b, o, rfl, World.block_lt_of_cell? w _ h0, by simp; omega, by omega, fun j y hj => ?_, fun s hs' => hs s (List.mem_of_mem_take hs')⟩
    have hjl := (List.getElem?_eq_some_iff.1 hj).1
    rw [List.length_take] at hjl
    have h1 := hc j (by omega)
    rw [add_plain'] at h1
    rw [h1]
    rw [List.getElem?_take, if_pos (by omega)] at hj
    simp [List.getD, hj]

def copyI (xs : List Int) (n k : Nat) : List Value := intV (xs.take k) ++ List.replicate (n - k) (.int .i64 0)
theorem copyI_zero (xs : List Int) (n : Nat) : (madeCells #[Value.int .i64 0] n).toList = copyI xs n 0 := by
  apply List.ext_getElem?
  intro j
  by_cases h : j < n
  · simp [madeCells, copyI, intV, h, Nat.mod_one]
  · rw [List.getElem?_eq_none (by simp [madeCells]; omega), List.getElem?_eq_none (by simp [copyI, intV]; omega)]
theorem copyI_step (xs : List Int) (n k : Nat) (x : Int) (hn : n = xs.length) (h : xs[k]? = some x) : (copyI xs n k).set k (.int .i64 x) = copyI xs n (k + 1) := by
  have hl := (List.getElem?_eq_some_iff.1 h).1
  have he : xs[k] = x := (List.getElem?_eq_some_iff.1 h).2
  unfold copyI intV
  rw [List.set_append_right _ _ (by simp; omega), List.take_succ_eq_append_getElem hl, he, List.map_append, List.append_assoc]
  congr 1
  obtain ⟨d, hd⟩ : ∃ d, n - k = d + 1 := ⟨n - k - 1, by omega⟩
  rw [hd, show n - (k + 1) = d by omega, List.length_map, List.length_take, show k - min k xs.length = 0 by omega, List.replicate_succ, List.set_cons_zero]
  rfl
theorem copyI_all (xs : List Int) (n : Nat) (hn : n = xs.length) : copyI xs n n = intV xs := by
  unfold copyI; rw [List.take_of_length_le (by omega), Nat.sub_self]; simp

theorem numAt_arg {w : World} {a : Option Addr} {n cap : Nat} {zs : List Int} (h : IsInts .i64 w a n cap zs) : n ≤ maxLen ∧ NumAt w w.heap.size a n (zs.take n) := by
  rcases Nat.eq_zero_or_pos n with rfl | hp
  · exact ⟨Nat.zero_le _, by simp, fun h => absurd h (by omega)⟩
  · obtain ⟨b, o, rfl, hb, hl, hm, hc, _⟩ := h.row hp
    exact ⟨hm, hl.symm, fun _ => ⟨b, o, rfl, hb, hc⟩⟩
end
section
set_option linter.unusedVariables false
open Go.RowKit

theorem NumAt.row {w : World} {B n : Nat} {A : Option Addr} {xs : List Int} (h : NumAt w B A n xs) {k : Nat} {x : Int} (hx : xs[k]? = some x) :
    ∃ b o, A = some ⟨b, o, none⟩ ∧ b < B ∧ w.cell? ⟨b, o + k, none⟩ = some (.int .i64 x) := by
  have := (List.getElem?_eq_some_iff.1 hx).1
  obtain ⟨b, o, h1, h2, h3⟩ := h.2 (by have := h.1; omega)
  exact ⟨b, o, h1, h2, h3 k x hx⟩

def allW (lo hi : Int) (xs : List Int) : Bool := xs.all fun x => decide (lo ≤ x) && decide (x ≤ hi)
theorem allW_zero (lo hi : Int) (xs : List Int) : allW lo hi (xs.take 0) = true := rfl
theorem allW_step {lo hi : Int} {xs : List Int} {k : Nat} {x : Int} (h : xs[k]? = some x) (ha : allW lo hi (xs.take k) = true) (h1 : lo ≤ x) (h2 : x ≤ hi) : allW lo hi (xs.take (k + 1)) = true := by
  have hk := (List.getElem?_eq_some_iff.1 h).1
  have hx : xs[k] = x := (List.getElem?_eq_some_iff.1 h).2
  rw [List.take_succ_eq_append_getElem hk, hx]; unfold allW at *; simp only [List.all_append, ha, List.all_cons, List.all_nil, decide_eq_true h1, decide_eq_true h2]; rfl
theorem allW_stop {lo hi : Int} {xs : List Int} {k : Nat} {x : Int} (h : xs[k]? = some x) (hb : x < lo ∨ hi < x) : allW lo hi xs = false := by
  unfold allW; rw [List.all_eq_false]
  refine ⟨x, List.mem_of_getElem? h, ?_⟩
  rw [Bool.and_eq_true, decide_eq_true_eq, decide_eq_true_eq]; omega
theorem allW_end {lo hi : Int} {xs : List Int} {k : Nat} (h : xs.length ≤ k) : allW lo hi (xs.take k) = allW lo hi xs := by rw [List.take_of_length_le h]
theorem allW_mem {lo hi : Int} {xs : List Int} (h : allW lo hi xs = true) {x : Int} (hx : x ∈ xs) : lo ≤ x ∧ x ≤ hi := by
  unfold allW at h; rw [List.all_eq_true] at h
  have := h x hx
  rw [Bool.and_eq_true, decide_eq_true_eq, decide_eq_true_eq] at this; exact this

end
section
set_option linter.unusedVariables false
open Go.RowKit

def okN (n : Int) : Bool := decide (-1000000000000 ≤ n) && decide (n ≤ 1000000000000)
def okAll (xs : List Int) : Bool := xs.all okN
theorem okAll_step (xs : List Int) (k : Nat) (x : Int) (h : xs[k]? = some x) (ha : okAll (xs.take k) = true) (hc : okN x = true) : okAll (xs.take (k + 1)) = true := by
  have hl := (List.getElem?_eq_some_iff.1 h).1
  have he : xs[k] = x := (List.getElem?_eq_some_iff.1 h).2
  rw [List.take_succ_eq_append_getElem hl, he]; unfold okAll at *; simp [List.all_append, ha, hc]
theorem okAll_stop (xs : List Int) (k : Nat) (x : Int) (h : xs[k]? = some x) (hc : okN x = false) : okAll xs = false := by
  unfold okAll; rw [List.all_eq_false]; exact ⟨x, List.mem_of_getElem? h, by simp [hc]⟩
theorem okAll_end (xs : List Int) (k : Nat) (h : xs.length ≤ k) : okAll (xs.take k) = okAll xs := by rw [List.take_of_length_le h]
theorem okN_bd (x : Int) (h : okN x = true) : -1000000000000 ≤ x ∧ x ≤ 1000000000000 := by unfold okN at h; simpa using h
theorem okAll_mem (xs : List Int) (h : okAll xs = true) (x : Int) (hx : x ∈ xs) : -1000000000000 ≤ x ∧ x ≤ 1000000000000 := by
  unfold okAll at h; rw [List.all_eq_true] at h; exact okN_bd x (h x hx)

theorem okAll_W (xs : List Int) : allW (-1000000000000) 1000000000000 xs = okAll xs := rfl
def comL (l : List (List UInt8)) : List UInt8 := Lib.join l [44]
def comB (xs : List ByteArray) : ByteArray := ⟨(Lib.join (xs.map (·.data.toList)) (sepB 44).data.toList).toArray⟩
theorem comL_cons (a b : List UInt8) (l : List (List UInt8)) : comL (a :: b :: l) = a ++ 44 :: comL (b :: l) := by
  simp [comL, Lib.join, List.intercalate, List.intersperse]
theorem comL_one (a : List UInt8) : comL [a] = a := by simp [comL, Lib.join, List.intercalate, List.intersperse]
theorem comL_snoc : ∀ (a : List UInt8) (l : List (List UInt8)) (x : List UInt8), comL ((a :: l) ++ [x]) = comL (a :: l) ++ 44 :: x
  | a, [], x => by rw [List.singleton_append, comL_cons, comL_one, comL_one]
  | a, b :: l, x => by
    rw [List.cons_append, List.cons_append, comL_cons, ← List.cons_append, comL_snoc b l x, comL_cons]; simp
theorem comB_data (xs : List ByteArray) : (comB xs).data.toList = comL (xs.map (·.data.toList)) := by simp [comB, comL, sepB]
theorem comB_one (x : ByteArray) : comB [x] = x := by
  apply ByteArray.ext; apply Array.toList_inj.1
  rw [comB_data]; exact comL_one _
theorem comB_snoc (xs : List ByteArray) (x : ByteArray) (h : xs ≠ []) : comB (xs ++ [x]) = comB xs ++ ⟨#[44]⟩ ++ x := by
  apply ByteArray.ext; apply Array.toList_inj.1
  rw [comB_data]
  cases xs with
  | nil => exact absurd rfl h
  | cons a l =>
    rw [List.map_append, List.map_cons, List.map_singleton, comL_snoc]
    simp [comB_data]
def nums (xs : List Int) : List ByteArray := xs.map numB
theorem nums_step (xs : List Int) (k : Nat) (x : Int) (h : xs[k]? = some x) : nums (xs.take (k + 1)) = nums (xs.take k) ++ [numB x] := by
  have hl := (List.getElem?_eq_some_iff.1 h).1
  have he : xs[k] = x := (List.getElem?_eq_some_iff.1 h).2
  rw [List.take_succ_eq_append_getElem hl, he]; simp [nums]
theorem com_step (xs : List Int) (k : Nat) (x : Int) (hk : 0 < k) (h : xs[k]? = some x) : comB (nums (xs.take (k + 1))) = comB (nums (xs.take k)) ++ ⟨#[44]⟩ ++ numB x := by
  have hl := (List.getElem?_eq_some_iff.1 h).1
  rw [nums_step xs k x h]
  exact comB_snoc _ _ (by intro e; have := congrArg List.length e; simp only [nums, List.length_map, List.length_take, List.length_nil] at this; omega)
theorem com_first (xs : List Int) (x : Int) (h : xs[0]? = some x) : comB (nums (xs.take 1)) = ByteArray.empty ++ numB x := by
  rw [nums_step xs 0 x h, List.take_zero]
  show comB [numB x] = _
  rw [comB_one]
  apply ByteArray.ext; simp

end
end Go.Proofs.YthlilfdndpnbkaaGreatDoor
