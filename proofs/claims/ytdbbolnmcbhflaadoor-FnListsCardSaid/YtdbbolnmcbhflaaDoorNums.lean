/-
  The contracts of spec.l01Is, spec.l01Join, spec.l01List, spec.ListText and impl.areValues on a list of numbers.
-/
import Derived.Test.YtdbbolnmcbhflaaDoorDec
import Derived.Test.YtdbbolnmcbhflaaDoorWithin
import Derived.Lib.Join
import Derived.Handy
import Derived.Test.YtdbbolnmcbhflaaDoorIsWord
namespace Go.Proofs.YtdbbolnmcbhflaaDoor
set_option linter.unusedVariables false
open Go.RowKit

def okN (n : Int) : Bool := decide (-1000000000000 ≤ n) && decide (n ≤ 1000000000000)
def okAll (xs : List Int) : Bool := xs.all okN
theorem okAll_step (xs : List Int) (k : Nat) (x : Int) (h : xs[k]? = some x) (ha : okAll (xs.take k) = true) (hc : okN x = true) : okAll (xs.take (k + 1)) = true := by
  have hl := (List.getElem?_eq_some_iff.1 h).1
  have he : xs[k] = x := (List.getElem?_eq_some_iff.1 h).2
  rw [List.take_succ_eq_append_getElem hl, he]; unfold okAll at *; simp [List.all_append, ha, hc]
theorem okAll_stop (xs : List Int) (k : Nat) (x : Int) (h : xs[k]? = some x) (hc : okN x = false) : okAll xs = false := by
  unfold okAll; rw [List.all_eq_false]; exact ⟨x, List.mem_of_getElem? h, by simp [hc]⟩
theorem okAll_end (xs : List Int) (k : Nat) (h : xs.length ≤ k) : okAll (xs.take k) = okAll xs := by rw [List.take_of_length_le h]
theorem okN_bd (x : Int) (h : okN x = true) : -1000000000000 ≤ x ∧ x ≤ 1000000000000 := by unfold okN at h; simpa using h
theorem okAll_mem (xs : List Int) (h : okAll xs = true) (x : Int) (hx : x ∈ xs) : -1000000000000 ≤ x ∧ x ≤ 1000000000000 := by
  unfold okAll at h; rw [List.all_eq_true] at h; exact okN_bd x (h x hx)

theorem cIs (n : Int) (w : World) : Calls Tryd.prog 52 #[.int .i64 n] w fun e w' => e = .returned (.bool (okN n)) ∧ w = w' := by
  go_enter Tryd.func52, Tryd.ntmps52
  go_wp2_with fail
  refine (cIn_any _ _ _ _).mono ?_
  rintro e w' ⟨rfl, rfl⟩
  go_wp2_with fail
  go_ret
  exact ⟨rfl, rfl⟩

theorem okAll_W (xs : List Int) : allW (-1000000000000) 1000000000000 xs = okAll xs := rfl
set_option maxHeartbeats 1000000 in
theorem cAreVals7 (A : Option Addr) (n cap B : Nat) (xs : List Int) (w : World) (hbig : n ≤ 1048576) (h : NumAt w B A n xs) :
    Calls Tryd.prog 50 #[.slice A n cap] w fun e w' => e = .returned (.bool (okAll xs)) ∧ w = w' := by
  have C := Lib.hid (cWithin A n cap B xs (-1000000000000) 1000000000000 w (by unfold maxLen; omega) h)
  rw [okAll_W] at C
  clear h
  go_enter Tryd.func50, Tryd.ntmps50
  go_wp2_with fail
  refine C.out.mono ?_
  rintro e w' ⟨rfl, rfl⟩
  go_wp2_with fail
  go_ret
  exact ⟨rfl, rfl⟩
theorem cAreValues (g o cap n : Nat) (xs : List Int) (w : World) (hn : n = xs.length) (hbig : n ≤ 1048576)
    (hc : ∀ (j : Nat) x, xs[j]? = some x → w.cell? ⟨g, o + j, none⟩ = some (.int .i64 x)) :
    Calls Tryd.prog 50 #[.slice (some ⟨g, o, none⟩) n cap] w fun e w' => e = .returned (.bool (okAll xs)) ∧ w = w' :=
  cAreVals7 _ n cap (g + 1) xs w hbig ⟨hn, fun _ => ⟨g, o, rfl, Nat.lt_succ_self g, hc⟩⟩

def comL (l : List (List UInt8)) : List UInt8 := Lib.join l [44]
def comB (xs : List ByteArray) : ByteArray := ⟨(Lib.join (xs.map (·.data.toList)) (sepB 44).data.toList).toArray⟩
theorem comL_cons (a b : List UInt8) (l : List (List UInt8)) : comL (a :: b :: l) = a ++ 44 :: comL (b :: l) := by
  simp [comL, Lib.join, List.intercalate, List.intersperse]
theorem comL_one (a : List UInt8) : comL [a] = a := by simp [comL, Lib.join, List.intercalate, List.intersperse]
theorem comL_snoc : ∀ (a : List UInt8) (l : List (List UInt8)) (x : List UInt8), comL ((a :: l) ++ [x]) = comL (a :: l) ++ 44 :: x
  | a, [], x => by rw [List.singleton_append, comL_cons, comL_one, comL_one]
  | a, b :: l, x => by
    rw [List.cons_append, List.cons_append, comL_cons, ← List.cons_append, comL_snoc b l x, comL_cons]; simp
theorem comB_data (xs : List ByteArray) : (comB xs).data.toList = comL (xs.map (·.data.toList)) := by simp [comB, comL, sepB]
theorem comB_one (x : ByteArray) : comB [x] = x := by
  apply ByteArray.ext; apply Array.toList_inj.1
  rw [comB_data]; exact comL_one _
theorem comB_snoc (xs : List ByteArray) (x : ByteArray) (h : xs ≠ []) : comB (xs ++ [x]) = comB xs ++ ⟨#[44]⟩ ++ x := by
  apply ByteArray.ext; apply Array.toList_inj.1
  rw [comB_data]
  cases xs with
  | nil => exact absurd rfl h
  | cons a l =>
    rw [List.map_append, List.map_cons, List.map_singleton, comL_snoc]
    simp [comB_data]
def nums (xs : List Int) : List ByteArray := xs.map numB
theorem nums_step (xs : List Int) (k : Nat) (x : Int) (h : xs[k]? = some x) : nums (xs.take (k + 1)) = nums (xs.take k) ++ [numB x] := by
  have hl := (List.getElem?_eq_some_iff.1 h).1
  have he : xs[k] = x := (List.getElem?_eq_some_iff.1 h).2
  rw [List.take_succ_eq_append_getElem hl, he]; simp [nums]
theorem com_step (xs : List Int) (k : Nat) (x : Int) (hk : 0 < k) (h : xs[k]? = some x) : comB (nums (xs.take (k + 1))) = comB (nums (xs.take k)) ++ ⟨#[44]⟩ ++ numB x := by
  have hl := (List.getElem?_eq_some_iff.1 h).1
  rw [nums_step xs k x h]
  exact comB_snoc _ _ (by intro e; have := congrArg List.length e; simp only [nums, List.length_map, List.length_take, List.length_nil] at this; omega)
theorem com_first (xs : List Int) (x : Int) (h : xs[0]? = some x) : comB (nums (xs.take 1)) = ByteArray.empty ++ numB x := by
  rw [nums_step xs 0 x h, List.take_zero]
  show comB [numB x] = _
  rw [comB_one]
  apply ByteArray.ext; simp

set_option maxHeartbeats 1000000 in
set_option maxRecDepth 100000 in
theorem cComma (g cap n : Nat) (xs : List Int) (w : World) (hn : n = xs.length) (hn60 : n ≤ 60) (hg : g < w.heap.size) (hok : okAll xs = true)
    (hc : ∀ (j : Nat) x, xs[j]? = some x → w.cell? ⟨g, 0 + j, none⟩ = some (.int .i64 x)) :
    Calls Tryd.prog 71 #[.slice (some ⟨g, 0, none⟩) n cap, .string ⟨#[44]⟩] w fun e w' => e = .returned (.string (comB (nums xs))) ∧ Below w.heap.size w w' := by
  have HN := Lib.hid hn
  have HK := Lib.hid (okAll_mem xs hok)
  have HC := Lib.hid hc
  clear hn hok hc
  go_enter Tryd.func71, Tryd.ntmps71
  go_wp2
  go_loopw [5, 6] (fun ou i wr => ∃ (k : Nat) (t : ByteArray), k ≤ n ∧ i = .int .i64 k ∧ ou = .string t ∧ t.size ≤ k * 1000000000003 ∧ Hid (t = comB (nums (xs.take k))) ∧ Below w.heap.size w wr) (fun _ i _ => n - (intOf i).toNat)
  case atStart => exact ⟨0, ⟨#[]⟩, Nat.zero_le _, rfl, rfl, Nat.zero_le _, Lib.hid rfl, Below.refl _ _⟩
  case round =>
    obtain ⟨k, t, hk, rfl, rfl, ht, HT, hbw⟩ := hrel
    by_cases hlt : k < n
    · obtain ⟨x, hx⟩ : ∃ x, xs[k]? = some x := ⟨xs[k]'(by have := HN.out; omega), List.getElem?_eq_getElem _⟩
      have hcx := (hbw.cell hg).trans (HC.out k x hx)
      rw [Nat.zero_add] at hcx
      have hbd := HK.out x (List.mem_of_getElem? hx)
      have CN := Lib.hid (fun W => cNumber x W hbd.1 hbd.2)
      have hz := numB_len x
      have hz2 : (numB x).size ≤ 1000000000002 := by omega
      have HX := Lib.hid hx
      clear hx hbd hz
      by_cases hk0 : 0 < k
      · go_wp2_with fail
        refine (CN.out _).mono ?_
        rintro e w1 ⟨rfl, hb1⟩
        have hbw1 := hbw.trans (hb1.mono hbw.size)
        go_wp2_with fail
        go_roundw
        case rel => exact ⟨k + 1, _, by omega, by go_num, rfl, (by rw [ByteArray.size_append, ByteArray.size_append]; have h1 : (⟨#[44]⟩ : ByteArray).size = 1 := rfl; omega), Lib.hid (by rw [com_step xs k x hk0 HX.out, HT.out]), hbw1⟩
        case measure => simp [intOf]; omega
      · have HZ := Lib.hid (show k = 0 by omega)
        go_wp2_with fail
        refine (CN.out _).mono ?_
        rintro e w1 ⟨rfl, hb1⟩
        have hbw1 := hbw.trans (hb1.mono hbw.size)
        go_wp2_with fail
        go_roundw
        case rel => exact ⟨k + 1, _, by omega, by go_num, rfl, (by rw [ByteArray.size_append]; omega), Lib.hid (by have h := HX.out; have e := HT.out; rw [HZ.out] at h e ⊢; rw [com_first xs x h, e]; rfl), hbw1⟩
        case measure => simp [intOf]; omega
    · obtain rfl : k = n := by omega
      go_wp2_with fail
      go_ret
      exact ⟨by rw [HT.out, List.take_of_length_le (by have := HN.out; omega)]; rfl, hbw⟩
end Go.Proofs.YtdbbolnmcbhflaaDoor
