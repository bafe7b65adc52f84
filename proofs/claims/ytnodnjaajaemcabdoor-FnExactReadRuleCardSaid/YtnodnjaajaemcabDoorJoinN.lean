/-
  Numbers joined by a separator: plain facts, and the contracts of spec.l01Join and impl.joinNumbers at any separator.
-/
import Derived.Test.YtnodnjaajaemcabDoorListBase
namespace Go.Proofs.YtnodnjaajaemcabDoor
set_option linter.unusedVariables false
open Go.RowKit

def jL (sp : UInt8) (l : List (List UInt8)) : List UInt8 := Lib.join l [sp]
def jB (sp : UInt8) (xs : List ByteArray) : ByteArray := ⟨(Lib.join (xs.map (·.data.toList)) (sepB sp).data.toList).toArray⟩
theorem jL_cons (sp : UInt8) (a b : List UInt8) (l : List (List UInt8)) : jL sp (a :: b :: l) = a ++ sp :: jL sp (b :: l) := by
  simp [jL, Lib.join, List.intercalate, List.intersperse]
theorem jL_one (sp : UInt8) (a : List UInt8) : jL sp [a] = a := by simp [jL, Lib.join, List.intercalate, List.intersperse]
theorem jL_snoc (sp : UInt8) : ∀ (a : List UInt8) (l : List (List UInt8)) (x : List UInt8), jL sp ((a :: l) ++ [x]) = jL sp (a :: l) ++ sp :: x
  | a, [], x => by rw [List.singleton_append, jL_cons sp, jL_one sp, jL_one sp]
  | a, b :: l, x => by
    rw [List.cons_append, List.cons_append, jL_cons sp, ← List.cons_append, jL_snoc sp b l x, jL_cons sp]; simp
theorem jB_data (sp : UInt8) (xs : List ByteArray) : (jB sp xs).data.toList = jL sp (xs.map (·.data.toList)) := by simp [jB, jL, sepB]
theorem jB_one (sp : UInt8) (x : ByteArray) : jB sp [x] = x := by
  apply ByteArray.ext; apply Array.toList_inj.1
  rw [jB_data sp]; exact jL_one sp _
theorem jB_snoc (sp : UInt8) (xs : List ByteArray) (x : ByteArray) (h : xs ≠ []) : jB sp (xs ++ [x]) = jB sp xs ++ ⟨#[sp]⟩ ++ x := by
  apply ByteArray.ext; apply Array.toList_inj.1
  rw [jB_data sp]
  cases xs with
  | nil => exact absurd rfl h
  | cons a l =>
    rw [List.map_append, List.map_cons, List.map_singleton, jL_snoc sp]
    simp [jB_data sp]
theorem j_step (sp : UInt8) (xs : List Int) (k : Nat) (x : Int) (hk : 0 < k) (h : xs[k]? = some x) : jB sp (nums (xs.take (k + 1))) = jB sp (nums (xs.take k)) ++ ⟨#[sp]⟩ ++ numB x := by
  have hl := (List.getElem?_eq_some_iff.1 h).1
  rw [nums_step xs k x h]
  exact jB_snoc sp _ _ (by intro e; have := congrArg List.length e; simp only [nums, List.length_map, List.length_take, List.length_nil] at this; omega)
theorem j_first (sp : UInt8) (xs : List Int) (x : Int) (h : xs[0]? = some x) : jB sp (nums (xs.take 1)) = ByteArray.empty ++ numB x := by
  rw [nums_step xs 0 x h, List.take_zero]
  show jB sp [numB x] = _
  rw [jB_one sp]
  apply ByteArray.ext; simp

set_option maxHeartbeats 1000000 in
set_option maxRecDepth 100000 in
theorem cJoinS (sp : UInt8) (g cap n : Nat) (xs : List Int) (w : World) (hn : n = xs.length) (hn60 : n ≤ 60) (hg : g < w.heap.size) (hok : okAll xs = true)
    (hc : ∀ (j : Nat) x, xs[j]? = some x → w.cell? ⟨g, 0 + j, none⟩ = some (.int .i64 x)) :
    Calls Tryd.prog 43 #[.slice (some ⟨g, 0, none⟩) n cap, .string ⟨#[sp]⟩] w fun e w' => e = .returned (.string (jB sp (nums xs))) ∧ Below w.heap.size w w' := by
  have HN := Lib.hid hn
  have HK := Lib.hid (okAll_mem xs hok)
  have HC := Lib.hid hc
  clear hn hok hc
  go_enter Tryd.func43, Tryd.ntmps43
  go_wp2
  go_loopw [5, 6] (fun ou i wr => ∃ (k : Nat) (t : ByteArray), k ≤ n ∧ i = .int .i64 k ∧ ou = .string t ∧ t.size ≤ k * 1000000000003 ∧ Hid (t = jB sp (nums (xs.take k))) ∧ Below w.heap.size w wr) (fun _ i _ => n - (intOf i).toNat)
  case atStart => exact ⟨0, ⟨#[]⟩, Nat.zero_le _, rfl, rfl, Nat.zero_le _, Lib.hid rfl, Below.refl _ _⟩
  case round =>
    obtain ⟨k, t, hk, rfl, rfl, ht, HT, hbw⟩ := hrel
    by_cases hlt : k < n
    · obtain ⟨x, hx⟩ : ∃ x, xs[k]? = some x := ⟨xs[k]'(by have := HN.out; omega), List.getElem?_eq_getElem _⟩
      have hcx := (hbw.cell hg).trans (HC.out k x hx)
      rw [Nat.zero_add] at hcx
      have hbd := HK.out x (List.mem_of_getElem? hx)
      have CN := Lib.hid (fun W => cNumber x W hbd.1 hbd.2)
      have hz := numB_len x
      have hz2 : (numB x).size ≤ 1000000000002 := by omega
      have HX := Lib.hid hx
      clear hx hbd hz
      by_cases hk0 : 0 < k
      · go_wp2_with fail
        refine (CN.out _).mono ?_
        rintro e w1 ⟨rfl, hb1⟩
        have hbw1 := hbw.trans (hb1.mono hbw.size)
        go_wp2_with fail
        go_roundw
        case rel => exact ⟨k + 1, _, by omega, by go_num, rfl, (by rw [ByteArray.size_append, ByteArray.size_append]; have h1 : (⟨#[sp]⟩ : ByteArray).size = 1 := rfl; omega), Lib.hid (by rw [j_step sp xs k x hk0 HX.out, HT.out]), hbw1⟩
        case measure => simp [intOf]; omega
      · have HZ := Lib.hid (show k = 0 by omega)
        go_wp2_with fail
        refine (CN.out _).mono ?_
        rintro e w1 ⟨rfl, hb1⟩
        have hbw1 := hbw.trans (hb1.mono hbw.size)
        go_wp2_with fail
        go_roundw
        case rel => exact ⟨k + 1, _, by omega, by go_num, rfl, (by rw [ByteArray.size_append]; omega), Lib.hid (by have h := HX.out; have e := HT.out; rw [HZ.out] at h e ⊢; rw [j_first sp xs x h, e]; rfl), hbw1⟩
        case measure => simp [intOf]; omega
    · obtain rfl : k = n := by omega
      go_wp2_with fail
      go_ret
      exact ⟨by rw [HT.out, List.take_of_length_le (by have := HN.out; omega)]; rfl, hbw⟩
theorem j_len (sp : UInt8) : ∀ (l : List (List UInt8)), (∀ y ∈ l, y.length ≤ 1000000000002) → (jL sp l).length ≤ l.length * 1000000000003
  | [], _ => by simp [jL, Lib.join, List.intercalate, List.intersperse]
  | [a], h => by rw [jL_one sp]; have := h a (by simp); simp; omega
  | a :: b :: l, h => by
    rw [jL_cons sp, List.length_append, List.length_cons]
    have h1 := h a (by simp)
    have h2 := j_len sp (b :: l) (fun y hy => h y (List.mem_cons_of_mem _ hy))
    simp only [List.length_cons] at h2 ⊢
    omega
theorem j_small (sp : UInt8) (xs : List Int) (h : okAll xs = true) (hn : xs.length ≤ 60) : (Lib.join ((nums xs).map (·.data.toList)) (sepB sp).data.toList).length ≤ 140737488355328 := by
  have h1 := j_len sp ((nums xs).map (·.data.toList)) (by
    intro y hy
    rw [List.mem_map] at hy
    obtain ⟨z, hz, rfl⟩ := hy
    unfold nums at hz
    rw [List.mem_map] at hz
    obtain ⟨v, hv, rfl⟩ := hz
    have h2 := numB_len v
    have h3 := size_list (numB v)
    have h4 := okAll_mem xs h v hv
    omega)
  have hl : ((nums xs).map (·.data.toList)).length = xs.length := by simp [nums]
  rw [hl] at h1
  have h2 : (Lib.join ((nums xs).map (·.data.toList)) (sepB sp).data.toList) = jL sp ((nums xs).map (·.data.toList)) := rfl
  rw [h2]; omega

set_option maxHeartbeats 1000000 in
set_option maxRecDepth 100000 in
theorem cJoinN (sp : UInt8) (g cap n : Nat) (xs : List Int) (w : World) (hn : n = xs.length) (hpos : 0 < n) (h60 : n ≤ 60) (hok : okAll xs = true) (hg : g < w.heap.size) (hgl : 1 < w.heap.size)
    (hc : ∀ (j : Nat) x, xs[j]? = some x → w.cell? ⟨g, 0 + j, none⟩ = some (.int .i64 x)) (htab : Lib.TabIs Tryd.prog w "internal/strconv.uint64pow10" .u64 Lib.pow10Tab) :
    Calls Tryd.prog 30 #[.slice (some ⟨g, 0, none⟩) n cap, .string (sepB sp)] w fun e w' => e = .returned (.string (jB sp (nums xs))) ∧ Below w.heap.size w w' := by
  obtain ⟨i0, hi0, hz0, hz1, hz2⟩ := info_parts info_str
  have HN := Lib.hid hn
  have HC := Lib.hid hc
  have HT := Lib.hid htab
  have HO := Lib.hid hok
  clear hn hc htab hok
  go_enter Tryd.func30, Tryd.ntmps30
  go_wp2_with (at_make; refine wpList_make_full _ rfl _ _ 22 rfl w.heap.size 9 i0 _ 1 Tryd.underlying22 hi0 hz0 hz1 _ _ _ _ n rfl rfl (by simp) (by simp) ?b2 ?b3 (Nat.le_refl _) ?_)
  case b2 => rw [hz2]; omega
  case b3 => unfold maxLen; omega
  intro w0 hown0 hgrow0
  rw [textV_zero xs] at hown0
  have hb0 : Below w.heap.size w w0 := (Below.refl _ _).grown hgrow0 (Nat.le_refl _) (fun k h => by cases h)
  have hl0 : w.heap.size < w0.heap.size := (hown0.lt _ rfl).2
  clear hgrow0
  go_wp2_with fail
  go_loopw [13] (fun i wr => ∃ k : Nat, k ≤ n ∧ i = .int .i64 k ∧ wr.ownsRow w.heap.size 9 1 (.slice (some ⟨w.heap.size, 0, none⟩) n n) n (textV xs n k) ∧ w.heap.size < wr.heap.size ∧ Below w.heap.size w wr) (fun i _ => n - (intOf i).toNat)
  case atStart => exact ⟨0, Nat.zero_le _, rfl, hown0, hl0, hb0⟩
  case round =>
    clear hown0 hb0 hl0
    obtain ⟨k, hk, rfl, hown, hl, hbw⟩ := hrel
    by_cases hlt : k < n
    · obtain ⟨x, hx⟩ : ∃ x, xs[k]? = some x := ⟨xs[k]'(by have := HN.out; omega), List.getElem?_eq_getElem _⟩
      have hcx := (hbw.cell hg).trans (HC.out k x hx)
      rw [Nat.zero_add] at hcx
      have hbd := okAll_mem xs HO.out x (List.mem_of_getElem? hx)
      have hox : okN x = true := by unfold okN; simp; omega
      have HX := Lib.hid hx
      have CF := Lib.hid (cFormat x wr hox (tab_below hbw pow_named hgl HT.out))
      clear hx hbd hox
      go_wp2_with fail
      refine (show Calls Tryd.prog 46 #[.int .i64 x, .int .i64 10] _ _ from CF.out).mono ?_
      rintro e w1 ⟨rfl, hb1⟩
      have hown1 := hown.kept ⟨hb1.os, hb1.tape, hb1.output, hb1.size, fun j hj _ => hb1.block j hj⟩ (row := none) (by simp [Value.ownBlock])
      obtain ⟨v4, c4⟩ : ∃ v, w1.cell? ⟨w.heap.size, k, none⟩ = some v := by
        have hl : k < (textV xs n k).length := by rw [hown1.1]; omega
        exact ⟨_, (hown1.cellAt k (by omega)).trans (List.getElem?_eq_getElem hl)⟩
      have f4 := hown1.frozenAt k
      have hst := (hown1.stored k (.string (numB x))).1
      rw [textV_step xs n k x HN.out HX.out] at hst
      have hbw1 : Below w.heap.size w (w1.setCell ⟨w.heap.size, k, none⟩ (.string (numB x))) := (hbw.trans (hb1.mono hbw.size)).setCell (Nat.le_refl _) _
      have hl1 : w.heap.size < w1.heap.size := Nat.lt_of_lt_of_le hl hb1.size
      clear hown1 hown
      go_wp2_with fail
      go_roundw
      case rel => exact ⟨k + 1, by omega, by go_num, hst, by simpa using hl1, hbw1⟩
      case measure => simp [intOf]; omega
    · obtain rfl : k = n := by omega
      rw [textV_all xs k HN.out] at hown
      have hsl : (nums xs).length = k := by rw [HN.out]; simp [nums]
      have hj := Tryd.strings_Join w.heap.size 0 k (nums xs) (sepB sp) wr (by
        intro j y hy
        rw [Nat.zero_add]
        exact (hown.cellAt j (by have := (List.getElem?_eq_some_iff.1 hy).1; omega)).trans (strV_at _ _ _ hy)) hl (by omega) (by omega) (j_small sp xs HO.out (by have := HN.out; omega))
      rw [hsl] at hj
      have HS := Lib.hid hj
      clear hj hsl
      go_wp2_with fail
      refine (show Calls Tryd.prog 47 #[.slice (some ⟨w.heap.size, 0, none⟩) k k, .string (sepB sp)] _ _ from HS.out).mono ?_
      rintro e w2 ⟨rfl, hb2⟩
      go_wp2_with fail
      go_ret
      exact ⟨rfl, hbw.trans (hb2.mono hbw.size)⟩
end Go.Proofs.YtnodnjaajaemcabDoor
