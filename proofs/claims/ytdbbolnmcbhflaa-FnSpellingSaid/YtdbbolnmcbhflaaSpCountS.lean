/-
  The contract of spec.CountSpellings: the first entry of the table of the numbers of ways.
-/
import Derived.Test.YtdbbolnmcbhflaaSpCountI
namespace Go.Proofs.Ytdbbolnmcbhflaa
set_option linter.unusedVariables false
open Go.RowKit

def TabO (xs : List ByteArray) (s : ByteArray) (t : Nat) (cs : List Value) : Prop :=
  cs.length = s.size + 1 ∧ (∀ j, t ≤ j → j ≤ s.size → cs[j]? = some (.int .i64 (back xs s (s.size - j)))) ∧ ∀ j, j < t → cs[j]? = some (.int .i64 0)
def TabB (xs : List ByteArray) (s : ByteArray) (a k : Nat) (cs : List Value) : Prop :=
  cs.length = s.size + 1 ∧ (∀ j, a < j → j ≤ s.size → cs[j]? = some (.int .i64 (back xs s (s.size - j)))) ∧ cs[a]? = some (.int .i64 (partB xs s a k)) ∧ ∀ j, j < a → cs[j]? = some (.int .i64 0)
theorem back_zero (xs : List ByteArray) (s : ByteArray) : back xs s 0 = 1 := by unfold back; rw [fwd_eq]; simp [gsum]
theorem TabO.start (xs : List ByteArray) (s : ByteArray) : TabO xs s s.size ((madeCells #[Value.int .i64 0] (s.size + 1)).toList.set s.size (.int .i64 1)) := by
  have hl : (madeCells #[Value.int .i64 0] (s.size + 1)).toList.length = s.size + 1 := by simp [madeCells]
  refine ⟨by simp [madeCells], fun j h1 h2 => ?_, fun j h1 => ?_⟩
  · obtain rfl : j = s.size := by omega
    rw [List.getElem?_set_self (by omega), Nat.sub_self, back_zero]
  · rw [List.getElem?_set_ne (by omega)]
    have hj : j < s.size + 1 := by omega
    simp [madeCells, hj, Nat.mod_one]
theorem TabO.open_ {xs : List ByteArray} {s : ByteArray} {a : Nat} {cs : List Value} (h : TabO xs s (a + 1) cs) : TabB xs s a 0 cs :=
  ⟨h.1, fun j h1 h2 => h.2.1 j (by omega) h2, by rw [h.2.2 a (by omega), partB_zero], fun j h1 => h.2.2 j (by omega)⟩
theorem TabB.close {xs : List ByteArray} {s : ByteArray} {a k : Nat} {cs : List Value} (h : TabB xs s a k cs) (hk : xs.length ≤ k) (ha : a < s.size) : TabO xs s a cs := by
  refine ⟨h.1, fun j h1 h2 => ?_, h.2.2.2⟩
  by_cases e : j = a
  · subst e; rw [h.2.2.1, partB_full xs s j k hk ha]
  · exact h.2.1 j (by omega) h2
theorem TabB.miss {xs : List ByteArray} {s : ByteArray} {a k : Nat} {cs : List Value} {x : ByteArray} (h : TabB xs s a k cs) (hx : xs[k]? = some x) (hn : x ∉ xs.take k) (h1 : 1 ≤ x.size) (hi : ¬ isAt x s a) : TabB xs s a (k + 1) cs :=
  ⟨h.1, h.2.1, by rw [partB_miss xs s a k x hx hn h1 hi]; exact h.2.2.1, h.2.2.2⟩
theorem TabB.hit {xs : List ByteArray} {s : ByteArray} {a k : Nat} {cs : List Value} {x : ByteArray} (h : TabB xs s a k cs) (hx : xs[k]? = some x) (hn : x ∉ xs.take k) (h1 : 1 ≤ x.size) (hi : isAt x s a) :
    TabB xs s a (k + 1) (cs.set a (.int .i64 (partB xs s a k + back xs s (s.size - (a + x.size))))) := by
  have ha := hi.1
  refine ⟨by simp [h.1], fun j h2 h3 => ?_, ?_, fun j h2 => ?_⟩
  · rw [List.getElem?_set_ne (by omega)]; exact h.2.1 j h2 h3
  · rw [List.getElem?_set_self (by rw [h.1]; omega), partB_hit xs s a k x hx hn h1 hi]
  · rw [List.getElem?_set_ne (by omega)]; exact h.2.2.2 j h2
theorem nodup_at (xs : List ByteArray) (h : goodB xs = true) (k : Nat) (x : ByteArray) (hx : xs[k]? = some x) : x ∉ xs.take k := fun hm => by
  have := good_twice xs k x hx hm; rw [h] at this; cases this

theorem tCspS_bad (A : Option Addr) (n cap B : Nat) (xs : List ByteArray) (s : ByteArray) (w : World) (hbig : n ≤ 1048576) (hs : ∀ x ∈ xs, x.size ≤ maxLen) (h : TextAt w B A n xs) (hz : s.size ≤ 1048576) (hok : okW xs s = false) :
    Calls Try.prog 19 #[.slice A n cap, .string s] w fun e w' => e = .returned (cspV xs s) ∧ Below w.heap.size w w' := by
  have CC := Lib.hid (tCode A n cap _ xs s w hbig hs h (by unfold maxLen; omega))
  rw [cspV_no xs s hok]
  rw [hok] at CC
  clear h hs hok
  go_enter Try.func19, Try.ntmps19
  go_wp2_with (go_at_call 39; refine CC.out.mono ?_; rintro e w' ⟨rfl, rfl⟩)
  go_ret2
  exact ⟨rfl, Below.refl _ _⟩

set_option maxHeartbeats 2000000 in
set_option maxRecDepth 100000 in
theorem tCspS_ok (A : Option Addr) (n cap : Nat) (xs : List ByteArray) (s : ByteArray) (w : World) (hbig : n ≤ 1048576) (hs : ∀ x ∈ xs, x.size ≤ maxLen) (h : TextAt w w.heap.size A n xs) (hok : okW xs s = true) :
    Calls Try.prog 19 #[.slice A n cap, .string s] w fun e w' => e = .returned (cspV xs s) ∧ Below w.heap.size w w' := by
  obtain ⟨i0, hi0, hz0, hz1, hz2⟩ := info_parts info_i64
  have ha : alphaB xs = true := by unfold okW at hok; rw [Bool.and_eq_true] at hok; exact hok.1
  have hw : wordB s = true := by unfold okW at hok; rw [Bool.and_eq_true] at hok; exact hok.2
  have hs16 := (word_size s hw).2
  have CC := Lib.hid (tCode A n cap _ xs s w hbig hs h (by unfold maxLen; omega))
  have hl := alpha_len xs ha
  have hN := h.1
  obtain ⟨b, o, rfl, hb, hc⟩ := h.2 (by omega)
  have HC := Lib.hid hc
  have HN := Lib.hid hN
  have HGD := Lib.hid (alpha_good xs ha)
  have HV := Lib.hid (show cspV xs s = .tuple #[.int .i64 (back xs s s.size), .int .i64 0] from by rw [cspV_yes xs s hok, ways_back xs s (alpha_good xs ha)])
  have hn40 : n ≤ 40 := by omega
  rw [hok] at CC
  clear h hs hok ha hw hl hN hc
  go_enter Try.func19, Try.ntmps19
  go_wp2_with (first
    | (go_at_call 39; refine CC.out.mono ?_; rintro e w' ⟨rfl, rfl⟩)
    | (at_make; refine wpList_make_full _ rfl _ _ 33 rfl w.heap.size 2 i0 (.int .i64 0) 1 Try.underlying33 hi0 hz0 hz1 _ _ _ _ (s.size + 1) rfl rfl (by simp) (by simp) ?b2 ?b3 (Nat.le_refl _) ?_))
  case b2 => rw [hz2]; omega
  case b3 => unfold maxLen; omega
  intro w0 hown0 hgrow0
  have hb0 : Below w.heap.size w w0 := (Below.refl _ _).grown hgrow0 (Nat.le_refl _) (fun k h => by cases h)
  have f4 := hown0.frozenAt s.size
  obtain ⟨v4, c4⟩ : ∃ v, w0.cell? ⟨w.heap.size, s.size, none⟩ = some v := by
    have hl : s.size < (madeCells #[Value.int .i64 0] (s.size + 1)).toList.length := by simp [madeCells]
    exact ⟨_, (hown0.cellAt s.size (by omega)).trans (List.getElem?_eq_getElem hl)⟩
  have hst := (hown0.stored s.size (.int .i64 1)).1
  have hbw1 : Below w.heap.size w (w0.setCell ⟨w.heap.size, s.size, none⟩ (.int .i64 1)) := hb0.setCell (Nat.le_refl _) _
  have ST := Lib.hid hst
  have BW := Lib.hid hbw1
  clear hst hbw1 hown0 hgrow0 hb0
  go_wp2
  clear f4 c4
  go_loopw [8] (fun i wr => ∃ (t : Nat) (cs : List Value), t ≤ s.size ∧ i = .int .i64 ((t : Int) - 1) ∧ Hid (wr.ownsRow w.heap.size 2 1 (.slice (some ⟨w.heap.size, 0, none⟩) (s.size + 1) (s.size + 1)) (s.size + 1) cs) ∧ Hid (TabO xs s t cs) ∧ Hid (Below w.heap.size w wr)) (fun i _ => (intOf i + 1).toNat)
  case atStart => exact ⟨s.size, _, Nat.le_refl _, rfl, ST, Lib.hid (TabO.start xs s), BW⟩
  case round =>
    obtain ⟨t, cs, ht, rfl, HO, HT, HB⟩ := hrel
    clear ST BW
    obtain ⟨wo, rfl⟩ : ∃ wo : World, wo = wr := ⟨_, rfl⟩
    by_cases hlt : 0 < t
    · obtain ⟨a, rfl⟩ : ∃ a, t = a + 1 := ⟨t - 1, by omega⟩
      have hai : ((a + 1 : Nat) : Int) - 1 = (a : Int) := by omega
      rw [hai]
      have HAI := Lib.hid hai
      clear hai
      go_wp2
      go_loopw [9] (fun i wr => ∃ (k : Nat) (cs : List Value), k ≤ n ∧ i = .int .i64 k ∧ Hid (wr.ownsRow w.heap.size 2 1 (.slice (some ⟨w.heap.size, 0, none⟩) (s.size + 1) (s.size + 1)) (s.size + 1) cs) ∧ Hid (TabB xs s a k cs) ∧ Hid (Below w.heap.size w wr)) (fun i _ => n - (intOf i).toNat)
      case atStart => exact ⟨0, cs, Nat.zero_le _, rfl, HO, Lib.hid HT.out.open_, HB⟩
      case round =>
        clear HT HO HB
        obtain ⟨k, cs, hk, rfl, HO, HT, HB⟩ := hrel
        by_cases hlt2 : k < n
        · obtain ⟨x, hx⟩ : ∃ x, xs[k]? = some x := ⟨xs[k]'(by have := HN.out; omega), List.getElem?_eq_getElem _⟩
          have hcx : wr.cell? ⟨b, o + k, none⟩ = some (.string x) := (HB.out.cell (by exact hb)).trans (HC.out k x hx)
          have hxs := letter_size x (good_mem xs HGD.out x (List.mem_of_getElem? hx))
          have hx1 := hxs.1
          have hx3 := hxs.2
          have HX := Lib.hid hx
          have HND := Lib.hid (nodup_at xs HGD.out k x hx)
          have e1 : (0 : Int) ≤ (k : Int) := Int.natCast_nonneg _
          have e2 : (k : Int) < (n : Int) := by omega
          clear hx hxs
          have hwr : IntKind.i64.wrap ((s.size : Int) - (a : Int)) = (s.size : Int) - (a : Int) := by rw [IntKind.wrap_i64]; omega
          by_cases hsz : a + x.size ≤ s.size
          · have hd1 : decide ((x.size : Int) ≤ (s.size : Int) - (a : Int)) = true := decide_eq_true (by omega)
            have hd1w : decide ((x.size : Int) ≤ IntKind.i64.wrap ((s.size : Int) - (a : Int))) = true := by rw [hwr]; exact hd1
            have hwr2 : IntKind.i64.wrap ((a : Int) + (x.size : Int)) = (a : Int) + (x.size : Int) := by rw [IntKind.wrap_i64]; omega
            have e3 : (0 : Int) ≤ (a : Int) := Int.natCast_nonneg _
            have e4 : (a : Int) ≤ (a : Int) + (x.size : Int) := by omega
            have e5 : (a : Int) + (x.size : Int) ≤ (s.size : Int) := by omega
            have e6 : ((a : Int) + (x.size : Int)).toNat = a + x.size := by omega
            by_cases hpe : s.extract a (a + x.size) = x
            · have hd2 : ((s.extract a (a + x.size)).toList == x.toList) = true := by rw [toList_beq]; exact decide_eq_true hpe
              have c1 : wr.cell? ⟨w.heap.size, a, none⟩ = some (.int .i64 (partB xs s a k)) := (HO.out.cellAt a (by omega)).trans HT.out.2.2.1
              have c2 : wr.cell? ⟨w.heap.size, a + x.size, none⟩ = some (.int .i64 (back xs s (s.size - (a + x.size)))) := (HO.out.cellAt (a + x.size) (by omega)).trans (HT.out.2.1 _ (by omega) hsz)
              have f1 := HO.out.frozenAt a
              have b1 := partB_bd xs s a k hs16
              have b2 := back_small xs s (s.size - (a + x.size)) (by omega)
              have HTN := Lib.hid (HT.out.hit HX.out HND.out hx1 ⟨hsz, hpe⟩)
              clear hpe
              obtain ⟨p, hp⟩ : ∃ p, p = partB xs s a k := ⟨_, rfl⟩
              obtain ⟨q, hq⟩ : ∃ q, q = back xs s (s.size - (a + x.size)) := ⟨_, rfl⟩
              rw [← hp] at c1 b1
              rw [← hq] at c2 b2
              rw [← hp, ← hq] at HTN
              clear hp hq
              go_wp2
              go_quiet (fail)
              go_wp2
              have HO2 : Hid ((wr.drewN nq).ownsRow w.heap.size 2 1 (.slice (some ⟨w.heap.size, 0, none⟩) (s.size + 1) (s.size + 1)) (s.size + 1) cs) := HO
              have HB2 : Hid (Below w.heap.size w (wr.drewN nq)) := Lib.hid (below_drN HB.out nq)
              have c1' : (wr.drewN nq).cell? ⟨w.heap.size, a, none⟩ = some (.int .i64 p) := c1
              have c2' : (wr.drewN nq).cell? ⟨w.heap.size, a + x.size, none⟩ = some (.int .i64 q) := c2
              have f1' : (wr.drewN nq).frozen? ⟨w.heap.size, a, none⟩ = false := f1
              clear c1 c2 f1 HO HB hcx
              generalize wr.drewN nq = w2 at *
              go_region
              go_wp2
              go_roundw
              case rel => exact ⟨k + 1, _, by omega, by go_num, Lib.hid (HO2.out.stored a (.int .i64 (p + q))).1, HTN, Lib.hid (Below.drew (HB2.out.setCell (Nat.le_refl _) _))⟩
              case measure => simp [intOf]; omega
            · have hd2 : ((s.extract a (a + x.size)).toList == x.toList) = false := by rw [toList_beq]; exact decide_eq_false hpe
              have HTN := Lib.hid (HT.out.miss HX.out HND.out hx1 (fun h => hpe h.2))
              clear hpe
              go_wp2
              go_quiet (fail)
              go_wp2
              go_roundw
              case rel => exact ⟨k + 1, cs, by omega, by go_num, HO, HTN, Lib.hid (below_drN HB.out _)⟩
              case measure => simp [intOf]; omega
          · have hd1 : decide ((x.size : Int) ≤ (s.size : Int) - (a : Int)) = false := decide_eq_false (by omega)
            have hd1w : decide ((x.size : Int) ≤ IntKind.i64.wrap ((s.size : Int) - (a : Int))) = false := by rw [hwr]; exact hd1
            have HTN := Lib.hid (HT.out.miss HX.out HND.out hx1 (fun h => hsz h.1))
            go_wp2
            go_quiet (fail)
            go_wp2
            go_roundw
            case rel => exact ⟨k + 1, cs, by omega, by go_num, HO, HTN, Lib.hid (below_drN HB.out _)⟩
            case measure => simp [intOf]; omega
        · obtain rfl : k = n := by omega
          go_wp2
          go_roundw
          case rel => exact ⟨a, cs, by omega, by go_num, HO, Lib.hid (HT.out.close (by have := HN.out; omega) (by omega)), HB⟩
          case measure => first | (simp [intOf]; done) | (simp [intOf]; omega)
    · obtain rfl : t = 0 := by omega
      have c1 : wo.cell? ⟨w.heap.size, 0, none⟩ = some (.int .i64 (back xs s s.size)) := (HO.out.cellAt 0 (by omega)).trans (HT.out.2.1 0 (Nat.le_refl _) (by omega))
      go_wp2
      go_ret2
      exact ⟨by rw [HV.out]; rfl, HB.out⟩
end Go.Proofs.Ytdbbolnmcbhflaa
