/-
  The contracts of spec.ListText and impl.ListText.
-/
import Derived.Test.YtlncmnheaifdmaaDoorNums
import Derived.Test.YtlncmnheaifdmaaDoorShelf
import Derived.WalkSmall
import Derived.Lib.LaidTab
namespace Go.Proofs.YtlncmnheaifdmaaDoor
set_option linter.unusedVariables false
open Go.RowKit

def listB (xs : List Int) : ByteArray := comB (nums xs)
def listV (xs : List Int) : Value := if okAll xs then (if xs.length ≤ 60 then .tuple #[.string (listB xs), .int .i64 0] else .tuple #[.string ByteArray.empty, .int .i64 3]) else .tuple #[.string ByteArray.empty, .int .i64 2]
theorem listV_bad (xs : List Int) (h : okAll xs = false) : listV xs = .tuple #[.string ByteArray.empty, .int .i64 2] := by unfold listV; rw [if_neg (by simp [h])]
theorem listV_long (xs : List Int) (h : okAll xs = true) (hl : 60 < xs.length) : listV xs = .tuple #[.string ByteArray.empty, .int .i64 3] := by unfold listV; rw [if_pos h, if_neg (by omega)]
theorem listV_ok (xs : List Int) (h : okAll xs = true) (hl : xs.length ≤ 60) : listV xs = .tuple #[.string (listB xs), .int .i64 0] := by unfold listV; rw [if_pos h, if_pos hl]

theorem cLT_spec_none (A : Option Addr) (cap : Nat) (w : World) :
    Calls Tryd.prog 27 #[.slice A 0 cap] w fun e w' => e = .returned (.tuple #[.string ⟨#[45]⟩, .int .i64 0]) ∧ w = w' := by
  have hc : ∀ W, Calls Tryd.prog 60 #[.slice A 0 cap] W fun e w' => e = .returned (.string ⟨#[45]⟩) ∧ W = w' := by
    intro W
    go_enter Tryd.func60, Tryd.ntmps60
    go_wp2_with fail
    go_ret
    exact ⟨rfl, rfl⟩
  have HC := Lib.hid hc
  clear hc
  go_enter Tryd.func27, Tryd.ntmps27
  go_wp2_with fail
  refine wp_loop_rounds 1 ?_
  rw [rounds_succ]
  go_wp2_with fail
  refine (HC.out _).mono ?_
  rintro e w' ⟨rfl, rfl⟩
  go_wp2_with fail
  go_ret2
  exact ⟨rfl, rfl⟩
theorem cLT_impl_none (A : Option Addr) (cap : Nat) (w : World) :
    Calls Tryd.prog 26 #[.slice A 0 cap] w fun e w' => e = .returned (.tuple #[.string ⟨#[45]⟩, .int .i64 0]) ∧ w = w' := by
  have hc : ∀ W, Calls Tryd.prog 57 #[.slice A 0 cap] W fun e w' => e = .returned (.bool true) ∧ W = w' := by
    intro W
    go_enter Tryd.func57, Tryd.ntmps57
    go_wp2_with fail
    refine wp_loop_rounds 1 ?_
    rw [rounds_succ]
    go_wp2_with fail
    go_ret
    exact ⟨rfl, rfl⟩
  have HC := Lib.hid hc
  clear hc
  go_enter Tryd.func26, Tryd.ntmps26
  go_wp2_with fail
  refine (HC.out _).mono ?_
  rintro e w' ⟨rfl, rfl⟩
  go_wp2_with fail
  go_ret2
  exact ⟨rfl, rfl⟩

set_option maxHeartbeats 1000000 in
theorem cLT_spec (g cap n : Nat) (xs : List Int) (w : World) (hn : n = xs.length) (hpos : 0 < n) (hbig : n ≤ 1048576) (hg : g < w.heap.size)
    (hc : ∀ (j : Nat) x, xs[j]? = some x → w.cell? ⟨g, 0 + j, none⟩ = some (.int .i64 x)) :
    Calls Tryd.prog 27 #[.slice (some ⟨g, 0, none⟩) n cap] w fun e w' => e = .returned (listV xs) ∧ Below w.heap.size w w' := by
  have HN := Lib.hid hn
  have HC := Lib.hid hc
  clear hn hc
  go_enter Tryd.func27, Tryd.ntmps27
  go_wp2_with fail
  go_loop [4] (fun i => ∃ k : Nat, k ≤ n ∧ i = .int .i64 k ∧ Hid (okAll (xs.take k) = true)) (fun i => n - (intOf i).toNat)
  case atStart => exact ⟨0, Nat.zero_le _, rfl, Lib.hid rfl⟩
  case round =>
    obtain ⟨k, hk, rfl, HA⟩ := hrel
    by_cases hlt : k < n
    · obtain ⟨x, hx⟩ : ∃ x, xs[k]? = some x := ⟨xs[k]'(by have := HN.out; omega), List.getElem?_eq_getElem _⟩
      have hcx := HC.out k x hx
      rw [Nat.zero_add] at hcx
      have HX := Lib.hid hx
      clear hx
      cases hb : okN x
      · have HB := Lib.hid hb
        have HJ := Lib.hid (listV_bad xs (okAll_stop xs k x HX.out hb))
        go_wp2_with (go_at_call 59; refine (cIs x _).mono ?_; rintro e w' ⟨rfl, rfl⟩)
        go_ret2
        exact ⟨by rw [HJ.out]; rfl, Below.refl _ _⟩
      · have HB := Lib.hid hb
        go_wp2_with (go_at_call 59; refine (cIs x _).mono ?_; rintro e w' ⟨rfl, rfl⟩)
        go_round
        case rel => exact ⟨k + 1, by omega, by go_num, Lib.hid (okAll_step xs k x HX.out HA.out HB.out)⟩
        case measure => simp [intOf]; omega
    · obtain rfl : k = n := by omega
      have hw : okAll xs = true := (okAll_end xs k (by have := HN.out; omega)).symm.trans HA.out
      by_cases h60 : k ≤ 60
      · have HJ := Lib.hid (listV_ok xs hw (by have := HN.out; omega))
        have HM := Lib.hid (cComma g cap k xs w HN.out h60 hg hw HC.out)
        have hl : ∀ W, W = w → Calls Tryd.prog 60 #[.slice (some ⟨g, 0, none⟩) k cap] W fun e w' => e = .returned (.string (listB xs)) ∧ Below W.heap.size W w' := by
          rintro W rfl
          have hd : ((k : Int) == 0) = false := by rw [beq_eq_false_iff_ne]; omega
          clear hw
          go_enter Tryd.func60, Tryd.ntmps60
          go_wp2_with fail
          refine HM.out.mono ?_
          rintro e w' ⟨rfl, hb⟩
          go_wp2_with fail
          go_ret
          exact ⟨rfl, hb⟩
        have HL := Lib.hid (hl w rfl)
        clear hw hl
        go_wp2_with fail
        refine HL.out.mono ?_
        rintro e w' ⟨rfl, hb⟩
        go_wp2_with fail
        go_ret2
        exact ⟨by rw [HJ.out]; rfl, hb⟩
      · have HJ := Lib.hid (listV_long xs hw (by have := HN.out; omega))
        clear hw
        go_wp2_with fail
        go_ret2
        exact ⟨by rw [HJ.out]; rfl, Below.refl _ _⟩

theorem tab_below {P : Program} {B g : Nat} {W W' : World} {name : String} {k : IntKind} {zs : List Int} (h : Below B W W') (hg : P.globalNamed name = some g) (hgB : g < B) (hv : Lib.TabIs P W name k zs) : Lib.TabIs P W' name k zs :=
  var?_below h hg hgB hv
theorem pow_named : Tryd.prog.globalNamed "internal/strconv.uint64pow10" = some 0 := by kernel_rfl
theorem grow_below (w : World) (k : Nat) (os : Array Obj) : Below w.heap.size w (Sort.grow (w.drewN k) os) :=
  ⟨rfl, rfl, rfl, by show w.heap.size ≤ (w.heap ++ os).size; rw [Array.size_append]; omega, fun j hj => by show (w.heap ++ os)[j]? = w.heap[j]?; rw [Array.getElem?_append_left hj]⟩

/-- The first k numbers as texts, the rest empty. -/
def textV (xs : List Int) (n k : Nat) : List Value := strV (nums (xs.take k)) ++ List.replicate (n - k) (.string ByteArray.empty)
theorem textV_zero (xs : List Int) (n : Nat) : (madeCells #[Value.string ByteArray.empty] n).toList = textV xs n 0 := by
  apply List.ext_getElem?
  intro j
  by_cases h : j < n
  · simp [madeCells, textV, strV, nums, h, Nat.mod_one]
  · rw [List.getElem?_eq_none (by simp [madeCells]; omega), List.getElem?_eq_none (by simp [textV, strV, nums]; omega)]
theorem textV_step (xs : List Int) (n k : Nat) (x : Int) (hn : n = xs.length) (h : xs[k]? = some x) : (textV xs n k).set k (.string (numB x)) = textV xs n (k + 1) := by
  have hl := (List.getElem?_eq_some_iff.1 h).1
  unfold textV
  rw [nums_step xs k x h]
  unfold strV nums
  rw [List.set_append_right _ _ (by simp; omega), List.map_append, List.append_assoc]
  congr 1
  obtain ⟨d, hd⟩ : ∃ d, n - k = d + 1 := ⟨n - k - 1, by omega⟩
  rw [hd, show n - (k + 1) = d by omega, List.length_map, List.length_map, List.length_take, show k - min k xs.length = 0 by omega, List.replicate_succ, List.set_cons_zero]
  rfl
theorem textV_all (xs : List Int) (n : Nat) (hn : n = xs.length) : textV xs n n = strV (nums xs) := by
  unfold textV; rw [List.take_of_length_le (by omega), Nat.sub_self]; simp
theorem com_len : ∀ (l : List (List UInt8)), (∀ y ∈ l, y.length ≤ 1000000000002) → (comL l).length ≤ l.length * 1000000000003
  | [], _ => by simp [comL, Lib.join, List.intercalate, List.intersperse]
  | [a], h => by rw [comL_one]; have := h a (by simp); simp; omega
  | a :: b :: l, h => by
    rw [comL_cons, List.length_append, List.length_cons]
    have h1 := h a (by simp)
    have h2 := com_len (b :: l) (fun y hy => h y (List.mem_cons_of_mem _ hy))
    simp only [List.length_cons] at h2 ⊢
    omega
theorem com_small (xs : List Int) (h : okAll xs = true) (hn : xs.length ≤ 60) : (Lib.join ((nums xs).map (·.data.toList)) (sepB 44).data.toList).length ≤ 140737488355328 := by
  have h1 := com_len ((nums xs).map (·.data.toList)) (by
    intro y hy
    rw [List.mem_map] at hy
    obtain ⟨z, hz, rfl⟩ := hy
    unfold nums at hz
    rw [List.mem_map] at hz
    obtain ⟨v, hv, rfl⟩ := hz
    have h2 := numB_len v
    have h3 := size_list (numB v)
    have h4 := okAll_mem xs h v hv
    omega)
  have hl : ((nums xs).map (·.data.toList)).length = xs.length := by simp [nums]
  rw [hl] at h1
  have h2 : (Lib.join ((nums xs).map (·.data.toList)) (sepB 44).data.toList) = comL ((nums xs).map (·.data.toList)) := rfl
  rw [h2]; omega

theorem cFormat (n : Int) (w : World) (h : okN n = true) (htab : Lib.TabIs Tryd.prog w "internal/strconv.uint64pow10" .u64 Lib.pow10Tab) :
    Calls Tryd.prog 58 #[.int .i64 n, .int .i64 10] w fun e w' => e = .returned (.string (numB n)) ∧ Below w.heap.size w w' := by
  have hb := okN_bd n h
  refine (Tryd.strconv_FormatInt_10 n (by omega) (by omega) w htab).mono ?_
  rintro e w' ⟨he, k, os, hw⟩
  exact ⟨he, by rw [hw]; exact grow_below w k os⟩

set_option maxHeartbeats 1000000 in
set_option maxRecDepth 100000 in
theorem cLT_impl (g cap n : Nat) (xs : List Int) (w : World) (hn : n = xs.length) (hpos : 0 < n) (hbig : n ≤ 1048576) (hg : g < w.heap.size) (hgl : 0 < w.heap.size)
    (hc : ∀ (j : Nat) x, xs[j]? = some x → w.cell? ⟨g, 0 + j, none⟩ = some (.int .i64 x)) (htab : Lib.TabIs Tryd.prog w "internal/strconv.uint64pow10" .u64 Lib.pow10Tab) :
    Calls Tryd.prog 26 #[.slice (some ⟨g, 0, none⟩) n cap] w fun e w' => e = .returned (listV xs) ∧ Below w.heap.size w w' := by
  obtain ⟨i0, hi0, hz0, hz1, hz2⟩ := info_parts info_str
  have HA := Lib.hid (cAreValues g 0 cap n xs w hn (by omega) hc)
  have HN := Lib.hid hn
  have HC := Lib.hid hc
  have HT := Lib.hid htab
  clear hn hc htab
  cases hok : okAll xs
  · rw [hok] at HA
    have HJ := Lib.hid (listV_bad xs hok)
    clear hok
    go_enter Tryd.func26, Tryd.ntmps26
    go_wp2_with fail
    refine HA.out.mono ?_
    rintro e w' ⟨rfl, rfl⟩
    go_wp2_with fail
    go_ret2
    exact ⟨by rw [HJ.out]; rfl, Below.refl _ _⟩
  · rw [hok] at HA
    by_cases h60 : n ≤ 60
    · have HJ := Lib.hid (listV_ok xs hok (by have := HN.out; omega))
      have HO := Lib.hid hok
      have hd : ((n : Int) == 0) = false := by rw [beq_eq_false_iff_ne]; omega
      have hd2 : decide (n = 0) = false := decide_eq_false (by omega)
      clear hok
      go_enter Tryd.func26, Tryd.ntmps26
      go_wp2_with fail
      refine HA.out.mono ?_
      rintro e w' ⟨rfl, rfl⟩
      go_wp2_with (at_make; refine wpList_make_full _ rfl _ _ 25 rfl w.heap.size 9 i0 _ 1 Tryd.underlying25 hi0 hz0 hz1 _ _ _ _ n rfl rfl (by simp) (by simp) ?b2 ?b3 (Nat.le_refl _) ?_)
      case b2 => rw [hz2]; omega
      case b3 => unfold maxLen; omega
      intro w0 hown0 hgrow0
      rw [textV_zero xs] at hown0
      have hb0 : Below w.heap.size w w0 := (Below.refl _ _).grown hgrow0 (Nat.le_refl _) (fun k h => by cases h)
      have hl0 : w.heap.size < w0.heap.size := (hown0.lt _ rfl).2
      clear hgrow0
      go_wp2_with fail
      go_loopw [21] (fun i wr => ∃ k : Nat, k ≤ n ∧ i = .int .i64 k ∧ wr.ownsRow w.heap.size 9 1 (.slice (some ⟨w.heap.size, 0, none⟩) n n) n (textV xs n k) ∧ w.heap.size < wr.heap.size ∧ Below w.heap.size w wr) (fun i _ => n - (intOf i).toNat)
      case atStart => exact ⟨0, Nat.zero_le _, rfl, hown0, hl0, hb0⟩
      case round =>
        clear hown0 hb0 hl0
        obtain ⟨k, hk, rfl, hown, hl, hbw⟩ := hrel
        by_cases hlt : k < n
        · obtain ⟨x, hx⟩ : ∃ x, xs[k]? = some x := ⟨xs[k]'(by have := HN.out; omega), List.getElem?_eq_getElem _⟩
          have hcx := (hbw.cell hg).trans (HC.out k x hx)
          rw [Nat.zero_add] at hcx
          have hbd := okAll_mem xs HO.out x (List.mem_of_getElem? hx)
          have hox : okN x = true := by unfold okN; simp; omega
          have HX := Lib.hid hx
          have CF := Lib.hid (cFormat x wr hox (tab_below hbw pow_named hgl HT.out))
          clear hx hbd hox
          go_wp2_with fail
          refine (show Calls Tryd.prog 58 #[.int .i64 x, .int .i64 10] _ _ from CF.out).mono ?_
          rintro e w1 ⟨rfl, hb1⟩
          have hown1 := hown.kept ⟨hb1.os, hb1.tape, hb1.output, hb1.size, fun j hj _ => hb1.block j hj⟩ (row := none) (by simp [Value.ownBlock])
          obtain ⟨v4, c4⟩ : ∃ v, w1.cell? ⟨w.heap.size, k, none⟩ = some v := by
            have hl : k < (textV xs n k).length := by rw [hown1.1]; omega
            exact ⟨_, (hown1.cellAt k (by omega)).trans (List.getElem?_eq_getElem hl)⟩
          have f4 := hown1.frozenAt k
          have hst := (hown1.stored k (.string (numB x))).1
          rw [textV_step xs n k x HN.out HX.out] at hst
          have hbw1 : Below w.heap.size w (w1.setCell ⟨w.heap.size, k, none⟩ (.string (numB x))) := (hbw.trans (hb1.mono hbw.size)).setCell (Nat.le_refl _) _
          have hl1 : w.heap.size < w1.heap.size := Nat.lt_of_lt_of_le hl hb1.size
          clear hown1 hown
          go_wp2_with fail
          go_roundw
          case rel => exact ⟨k + 1, by omega, by go_num, hst, by simpa using hl1, hbw1⟩
          case measure => simp [intOf]; omega
        · obtain rfl : k = n := by omega
          rw [textV_all xs k HN.out] at hown
          have hsl : (nums xs).length = k := by rw [HN.out]; simp [nums]
          have hj := Tryd.strings_Join w.heap.size 0 k (nums xs) (sepB 44) wr (by
            intro j y hy
            rw [Nat.zero_add]
            exact (hown.cellAt j (by have := (List.getElem?_eq_some_iff.1 hy).1; omega)).trans (strV_at _ _ _ hy)) hl (by omega) (by omega) (com_small xs HO.out (by have := HN.out; omega))
          rw [hsl] at hj
          have HS := Lib.hid hj
          clear hj hsl
          go_wp2_with fail
          refine (show Calls Tryd.prog 51 #[.slice (some ⟨w.heap.size, 0, none⟩) k k, .string (sepB 44)] _ _ from HS.out).mono ?_
          rintro e w2 ⟨rfl, hb2⟩
          go_wp2_with fail
          go_ret2
          exact ⟨by rw [HJ.out]; rfl, hbw.trans (hb2.mono hbw.size)⟩
    · have HJ := Lib.hid (listV_long xs hok (by have := HN.out; omega))
      clear hok
      go_enter Tryd.func26, Tryd.ntmps26
      go_wp2_with fail
      refine HA.out.mono ?_
      rintro e w' ⟨rfl, rfl⟩
      go_wp2_with fail
      go_ret2
      exact ⟨by rw [HJ.out]; rfl, Below.refl _ _⟩
end Go.Proofs.YtlncmnheaifdmaaDoor
