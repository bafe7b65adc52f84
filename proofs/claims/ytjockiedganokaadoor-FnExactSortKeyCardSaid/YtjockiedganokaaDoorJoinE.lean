/-
  The contract of impl.joinNumbers with no separator, at numbers of 0 to 99.
-/
import Derived.Test.YtjockiedganokaaDoorDec
import Derived.Test.YtjockiedganokaaDoorShelf
import Derived.Test.YtjockiedganokaaDoorIntRow
import Derived.Test.YtjockiedganokaaDoorKeyRows
namespace Go.Proofs.YtjockiedganokaaDoor
set_option linter.unusedVariables false
open Go.RowKit

def numsE (xs : List Int) : List ByteArray := xs.map numB
theorem numsE_step (xs : List Int) (k : Nat) (x : Int) (h : xs[k]? = some x) : numsE (xs.take (k + 1)) = numsE (xs.take k) ++ [numB x] := by
  have hl := (List.getElem?_eq_some_iff.1 h).1
  have he : xs[k] = x := (List.getElem?_eq_some_iff.1 h).2
  unfold numsE
  rw [List.take_succ_eq_append_getElem hl, he, List.map_append]; rfl
/-- The decimal texts of numbers, one behind the other. -/
def catE (xs : List Int) : ByteArray := ⟨(Lib.join ((numsE xs).map (·.data.toList)) (⟨#[]⟩ : ByteArray).data.toList).toArray⟩
theorem joinE (l : List (List UInt8)) : Lib.join l [] = l.flatten := by
  induction l with
  | nil => rfl
  | cons a l ih =>
    cases l with
    | nil => simp [Lib.join, List.intercalate, List.intersperse]
    | cons b l =>
      have h1 : Lib.join (a :: b :: l) [] = a ++ Lib.join (b :: l) [] := by simp [Lib.join, List.intercalate, List.intersperse]
      rw [h1, ih]; rfl
theorem catE_data (xs : List Int) : (catE xs).data.toList = (xs.map fun x => (numB x).data.toList).flatten := by
  unfold catE
  have h : (⟨#[]⟩ : ByteArray).data.toList = [] := rfl
  rw [h, joinE]
  unfold numsE
  rw [List.map_map]; simp; rfl
theorem catE_nil : catE [] = ByteArray.empty := rfl
theorem catE_snoc (xs : List Int) (x : Int) : catE (xs ++ [x]) = catE xs ++ numB x := by
  apply ByteArray.ext; apply Array.toList_inj.1
  rw [catE_data]
  rw [List.map_append, List.flatten_append]
  simp [catE_data]
theorem dec_small (k : Nat) (h : k < 100) : (Lib.decDigits k).length ≤ 2 := by
  by_cases h10 : k < 10
  · rw [Lib.decDigits, dif_pos h10]; simp
  · rw [Lib.decDigits, dif_neg h10, Lib.decDigits, dif_pos (by omega)]; simp
theorem numB_small (x : Int) (h0 : 0 ≤ x) (h : x < 100) : (numB x).size ≤ 2 := by
  rw [numB_pos x (by omega)]
  unfold decB
  have := dec_small x.toNat (by omega)
  show (Lib.decDigits x.toNat).toArray.size ≤ 2
  simpa using this
theorem flat_len : ∀ (l : List (List UInt8)), (∀ y ∈ l, y.length ≤ 2) → l.flatten.length ≤ 2 * l.length
  | [], _ => by simp
  | a :: l, h => by
    have h1 := h a (by simp)
    have h2 := flat_len l (fun y hy => h y (by simp [hy]))
    rw [List.flatten_cons, List.length_append, List.length_cons]; omega
def textE (xs : List Int) (n k : Nat) : List Value := strV (numsE (xs.take k)) ++ List.replicate (n - k) (.string ByteArray.empty)
theorem textE_zero (xs : List Int) (n : Nat) : (madeCells #[Value.string ByteArray.empty] n).toList = textE xs n 0 := by
  apply List.ext_getElem?
  intro j
  by_cases h : j < n
  · simp [madeCells, textE, numsE, strV, h, Nat.mod_one]
  · rw [List.getElem?_eq_none (by simp [madeCells]; omega), List.getElem?_eq_none (by simp [textE, numsE, strV]; omega)]
theorem textE_step (xs : List Int) (n k : Nat) (x : Int) (hn : n = xs.length) (h : xs[k]? = some x) : (textE xs n k).set k (.string (numB x)) = textE xs n (k + 1) := by
  have hl := (List.getElem?_eq_some_iff.1 h).1
  unfold textE
  rw [numsE_step xs k x h, ← strV_snoc]
  rw [List.set_append_right _ _ (by simp [strV, numsE]; omega), List.append_assoc]
  congr 1
  obtain ⟨d, hd⟩ : ∃ d, n - k = d + 1 := ⟨n - k - 1, by omega⟩
  rw [hd, show n - (k + 1) = d by omega, show k - (strV (numsE (xs.take k))).length = 0 by simp [strV, numsE]; omega, List.replicate_succ, List.set_cons_zero]
  rfl
theorem textE_all (xs : List Int) (n : Nat) (hn : n = xs.length) : textE xs n n = strV (numsE xs) := by
  unfold textE; rw [List.take_of_length_le (by omega), Nat.sub_self]; simp

theorem cFormS (x : Int) (w : World) (h0 : 0 ≤ x) (h1 : x < 100) :
    Calls Tryd.prog 97 #[.int .i64 x, .int .i64 10] w fun e w' => e = .returned (.string (numB x)) ∧ Below w.heap.size w w' := by
  obtain ⟨i, rfl⟩ : ∃ i : Nat, x = (i : Int) := ⟨x.toNat, by omega⟩
  refine (Tryd.strconv_FormatInt_10_small i (by omega) w).mono ?_
  rintro e w' ⟨rfl, rfl⟩
  refine ⟨?_, Below.refl _ _⟩
  rw [numB_pos _ (by omega), Int.toNat_natCast]; rfl

set_option maxHeartbeats 1000000 in
set_option maxRecDepth 100000 in
theorem cJoinE (g cap n : Nat) (xs : List Int) (w : World) (hn : n = xs.length) (hpos : 0 < n) (hbig : n ≤ 200) (hok : ∀ x ∈ xs, 0 ≤ x ∧ x < 100) (hg : g < w.heap.size)
    (hc : ∀ (j : Nat) x, xs[j]? = some x → w.cell? ⟨g, j, none⟩ = some (.int .i64 x)) :
    Calls Tryd.prog 62 #[.slice (some ⟨g, 0, none⟩) n cap, .string ⟨#[]⟩] w fun e w' => e = .returned (.string (catE xs)) ∧ Below w.heap.size w w' := by
  obtain ⟨i0, hi0, hz0, hz1, hz2⟩ := info_parts info_str
  have HN := Lib.hid hn
  have HC := Lib.hid hc
  have HO := Lib.hid hok
  clear hn hc hok
  go_enter Tryd.func62, Tryd.ntmps62
  go_wp2_with (at_make; refine wpList_make_full _ rfl _ _ 24 rfl w.heap.size 9 i0 _ 1 Tryd.underlying24 hi0 hz0 hz1 _ _ _ _ n rfl rfl (by simp) (by simp) ?b2 ?b3 (Nat.le_refl _) ?_)
  case b2 => rw [hz2]; omega
  case b3 => unfold maxLen; omega
  intro w0 hown0 hgrow0
  rw [textE_zero xs] at hown0
  have hb0 : Below w.heap.size w w0 := (Below.refl _ _).grown hgrow0 (Nat.le_refl _) (fun k h => by cases h)
  have hl0 : w.heap.size < w0.heap.size := (hown0.lt _ rfl).2
  clear hgrow0
  go_wp2_with fail
  go_loopw [13] (fun i wr => ∃ k : Nat, k ≤ n ∧ i = .int .i64 k ∧ wr.ownsRow w.heap.size 9 1 (.slice (some ⟨w.heap.size, 0, none⟩) n n) n (textE xs n k) ∧ w.heap.size < wr.heap.size ∧ Below w.heap.size w wr) (fun i _ => n - (intOf i).toNat)
  case atStart => exact ⟨0, Nat.zero_le _, rfl, hown0, hl0, hb0⟩
  case round =>
    clear hown0 hb0 hl0
    obtain ⟨k, hk, rfl, hown, hl, hbw⟩ := hrel
    by_cases hlt : k < n
    · obtain ⟨x, hx⟩ : ∃ x, xs[k]? = some x := ⟨xs[k]'(by have := HN.out; omega), List.getElem?_eq_getElem _⟩
      have hcx := (hbw.cell (p := ⟨g, k, none⟩) hg).trans (HC.out k x hx)
      have hbd := HO.out x (List.mem_of_getElem? hx)
      have HX := Lib.hid hx
      have CF : Hid (Calls Tryd.prog 97 #[.int .i64 x, .int .i64 10] wr fun e w' => e = .returned (.string (numB x)) ∧ Below wr.heap.size wr w') := Lib.hid (cFormS x wr hbd.1 hbd.2)
      clear hx hbd
      go_wp2_with fail
      refine CF.out.mono ?_
      rintro e w1 ⟨rfl, hb1⟩
      have hown1 := hown.kept ⟨hb1.os, hb1.tape, hb1.output, hb1.size, fun j hj _ => hb1.block j hj⟩ (row := none) (by simp [Value.ownBlock])
      obtain ⟨v4, c4⟩ : ∃ v, w1.cell? ⟨w.heap.size, k, none⟩ = some v := by
        have hl : k < (textE xs n k).length := by rw [hown1.1]; omega
        exact ⟨_, (hown1.cellAt k (by omega)).trans (List.getElem?_eq_getElem hl)⟩
      have f4 := hown1.frozenAt k
      have hst := (hown1.stored k (.string (numB x))).1
      rw [textE_step xs n k x HN.out HX.out] at hst
      have hbw1 : Below w.heap.size w (w1.setCell ⟨w.heap.size, k, none⟩ (.string (numB x))) := (hbw.trans (hb1.mono hbw.size)).setCell (Nat.le_refl _) _
      have hl1 : w.heap.size < w1.heap.size := Nat.lt_of_lt_of_le hl hb1.size
      clear hown1 hown
      go_wp2_with fail
      go_roundw
      case rel => exact ⟨k + 1, by omega, by go_num, hst, by simpa using hl1, hbw1⟩
      case measure => simp [intOf]; omega
    · obtain rfl : k = n := by omega
      rw [textE_all xs k HN.out] at hown
      have hsl : (numsE xs).length = k := by rw [HN.out]; simp [numsE]
      have hsmall : (Lib.join ((numsE xs).map (·.data.toList)) (⟨#[]⟩ : ByteArray).data.toList).length ≤ 140737488355328 := by
        have h0 : (⟨#[]⟩ : ByteArray).data.toList = [] := rfl
        rw [h0, joinE]
        have h1 := flat_len ((numsE xs).map (·.data.toList)) (by
          intro y hy
          rw [List.mem_map] at hy
          obtain ⟨z, hz, rfl⟩ := hy
          unfold numsE at hz
          rw [List.mem_map] at hz
          obtain ⟨v, hv, rfl⟩ := hz
          have h2 := HO.out v hv
          have h3 := numB_small v h2.1 h2.2
          have h4 := size_list (numB v)
          omega)
        rw [List.length_map, hsl] at h1
        omega
      have hj := Tryd.strings_Join w.heap.size 0 k (numsE xs) (⟨#[]⟩ : ByteArray) wr (by
        intro j y hy
        rw [Nat.zero_add]
        exact (hown.cellAt j (by have := (List.getElem?_eq_some_iff.1 hy).1; omega)).trans (strV_at _ _ _ hy)) hl (by omega) (by omega) hsmall
      rw [hsl] at hj
      have HS := Lib.hid hj
      clear hj hsl hsmall
      go_wp2_with fail
      refine (show Calls Tryd.prog 98 #[.slice (some ⟨w.heap.size, 0, none⟩) k k, .string ⟨#[]⟩] _ _ from HS.out).mono ?_
      rintro e w2 ⟨rfl, hb2⟩
      go_wp2_with fail
      go_ret
      exact ⟨rfl, hbw.trans (hb2.mono hbw.size)⟩
end Go.Proofs.YtjockiedganokaaDoor
