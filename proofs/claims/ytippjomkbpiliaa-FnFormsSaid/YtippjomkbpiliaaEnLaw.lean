/-
  The laws' helpers on slices of endings: szEndingS, toEndingS, eqEndingS, markEndingS.
-/
import Derived.Test.YtippjomkbpiliaaEnS
import Derived.Test.YtippjomkbpiliaaEnArgs
import Derived.Test.YtippjomkbpiliaaSp
import Derived.Test.YtippjomkbpiliaaMarkS
import Derived.Deep.RegionHeld3
import Derived.Deep.DeepCutAuto
namespace Go.Proofs.Ytippjomkbpiliaa
set_option linter.unusedVariables false
open Go.RowKit

theorem info_en : (Try.prog.info? 60).map (fun i => (i.zero, i.size, i.bytes)) = some (some (.agg #[.string ByteArray.empty, .string ByteArray.empty, .int .i64 0]), 3, 40) := by kernel_rfl
def zE : En := (ByteArray.empty, ByteArray.empty, 0)
theorem enV_set3 : ∀ (ys : List En) (k : Nat) (q : En), k < ys.length → (((enV ys).set (k * 3) (.string q.1)).set (k * 3 + 1) (.string q.2.1)).set (k * 3 + 2) (.int .i64 q.2.2) = enV (ys.set k q)
  | [], k, q, h => by simp at h
  | y :: ys, 0, q, h => by show _ = enV (q :: ys); rw [enV_cons, enV_cons]; rfl
  | y :: ys, k + 1, q, h => by
    have ih := enV_set3 ys k q (by simpa using h)
    rw [List.set_cons_succ, enV_cons, enV_cons, ← ih, show (k + 1) * 3 = k * 3 + 1 + 1 + 1 by omega]
    rfl
def copyEn (xs : List En) (n k : Nat) : List En := xs.take k ++ List.replicate (n - k) zE
theorem copyEn_zero (n : Nat) (xs : List En) : (madeCells #[Value.string ByteArray.empty, Value.string ByteArray.empty, Value.int .i64 0] (n * 3)).toList = enV (copyEn xs n 0) := by
  apply List.ext_getElem?
  intro j
  unfold copyEn
  rw [List.take_zero, List.nil_append, Nat.sub_zero]
  by_cases h : j < n * 3
  · obtain ⟨q, r, rfl, hr⟩ : ∃ q r, j = q * 3 + r ∧ r < 3 := ⟨j / 3, j % 3, by omega, by omega⟩
    have hq : q < n := by omega
    have hz : (List.replicate n zE)[q]? = some zE := by simp [hq]
    have ha := enV_at _ q _ hz
    have hmod : (q * 3 + r) % 3 = r := by omega
    match r, hr with
    | 0, _ => rw [show q * 3 + 0 = q * 3 from rfl, ha.1]; simp [madeCells, hq, zE]
    | 1, _ => rw [ha.2.1]; simp [madeCells, h, hmod, zE]
    | 2, _ => rw [ha.2.2]; simp [madeCells, h, hmod, zE]
  · rw [List.getElem?_eq_none (by simp [madeCells]; omega), List.getElem?_eq_none (by rw [enV_len]; simp; omega)]
theorem copyEn_len (xs : List En) (n k : Nat) (hn : n = xs.length) (hk : k ≤ n) : (copyEn xs n k).length = n := by unfold copyEn; rw [List.length_append, List.length_take, List.length_replicate]; omega
theorem copyEn_step (xs : List En) (n k : Nat) (p : En) (hn : n = xs.length) (h : xs[k]? = some p) : (copyEn xs n k).set k p = copyEn xs n (k + 1) := by
  have hl := (List.getElem?_eq_some_iff.1 h).1
  unfold copyEn
  rw [List.set_append_right _ _ (by rw [List.length_take]; omega), take_snocE h, List.append_assoc, List.length_take, show k - min k xs.length = 0 by omega]
  congr 1
  obtain ⟨d, hd⟩ : ∃ d, n - k = d + 1 := ⟨n - k - 1, by omega⟩
  rw [hd, show n - (k + 1) = d by omega, List.replicate_succ, List.set_cons_zero]
  rfl
theorem copyEn_all (xs : List En) (n : Nat) (hn : n = xs.length) : copyEn xs n n = xs := by
  unfold copyEn; rw [List.take_of_length_le (by omega), Nat.sub_self]; simp

theorem cToEn (o n : ByteArray) (c : Int) (w : World) :
    Calls Try.prog 57 #[.agg #[.string o, .string n, .int .i64 c]] w fun e w' => e = .returned (.agg #[.string o, .string n, .int .i64 c]) ∧ Below w.heap.size w w' := by
  go_enter Try.func57, Try.ntmps57
  go_wp2
  refine bodyPost_ret ?_ rfl ⟨rfl, ?_⟩
  · simp [results, Try.results57, go_sem]
  · go_grown

theorem szE1 (o n : ByteArray) (c : Int) (r : Int) (w : World) (hr0 : 0 ≤ r) (hr1 : r ≤ 1048576) (ho : o.size ≤ maxLen) (hn : n.size ≤ maxLen) :
    Calls Try.prog 56 #[.agg #[.string o, .string n, .int .i64 c], .int .i64 r] w fun e w' => (∃ q : Int, e = .returned (.int .i64 q) ∧ q ≤ 1048576 ∧ (q < 0 ∨ (0 ≤ q ∧ o.size ≤ 1048576 ∧ n.size ≤ 1048576))) ∧ Below w.heap.size w w' := by
  unfold maxLen at ho hn
  have hb : Hid (Below w.heap.size w (w.alloc (.cells #[.string o, .string n, .int .i64 c] 73))) := Lib.hid ((Below.refl _ _).alloc (Nat.le_refl _) _)
  by_cases h1 : r < o.size
  · go_enter Try.func56, Try.ntmps56
    go_wp2
    go_ret
    exact ⟨⟨-1, rfl, by omega, .inl (by omega)⟩, hb.out⟩
  have h1' : (o.size : Int) ≤ r := by omega
  by_cases h2 : r - o.size < n.size
  · go_enter Try.func56, Try.ntmps56
    go_wp2
    go_ret
    exact ⟨⟨-1, rfl, by omega, .inl (by omega)⟩, hb.out⟩
  · go_enter Try.func56, Try.ntmps56
    go_wp2
    go_ret
    exact ⟨⟨r - o.size - n.size, rfl, by omega, .inr ⟨by omega, by omega, by omega⟩⟩, hb.out⟩

def SmallE (n : Nat) (xs : List En) (r : Int) : Prop := r ≤ 1048576 ∧ (r < 0 ∨ (n ≤ 1048576 ∧ ∀ e ∈ xs, e.1.size ≤ 1048576 ∧ e.2.1.size ≤ 1048576))
def SzE (n : Nat) (xs : List En) (w : World) (e : Ending) (w' : World) : Prop := ∃ r : Int, SmallE n xs r ∧ e = .returned (.int .i64 r) ∧ Below w.heap.size w w'
set_option maxHeartbeats 1000000 in
theorem uSzE (A : Option Addr) (n cap : Nat) (xs : List En) (w : World) (hm : n ≤ maxLen) (hs : ∀ e ∈ xs, e.1.size ≤ maxLen ∧ e.2.1.size ≤ maxLen) (h : EnAt w w.heap.size A n xs) :
    Calls Try.prog 23 #[.slice A n cap, .int .i64 1048576] w (SzE n xs w) := by
  unfold maxLen at hm
  have HT := Lib.hid h
  have HN := Lib.hid h.1
  have HS := Lib.hid hs
  clear h hs
  by_cases h1 : 1048576 < n
  · go_enter Try.func23, Try.ntmps23
    go_wp2
    go_ret
    exact ⟨-1, ⟨by omega, .inl (by omega)⟩, rfl, Below.refl _ _⟩
  go_enter Try.func23, Try.ntmps23
  go_wp2
  go_loopw [1, 5] (fun l i wr => ∃ (k : Nat) (r : Int), k ≤ n ∧ i = .int .i64 k ∧ l = .int .i64 r ∧ 0 ≤ r ∧ r ≤ 1048576 ∧ Hid (∀ e ∈ xs.take k, e.1.size ≤ 1048576 ∧ e.2.1.size ≤ 1048576) ∧ Below w.heap.size w wr) (fun _ i _ => n - (intOf i).toNat)
  case atStart => exact ⟨0, _, Nat.zero_le _, rfl, rfl, by omega, by omega, Lib.hid (by simp), Below.refl _ _⟩
  case round =>
    obtain ⟨k, r, hk, rfl, rfl, hr0, hr1, HA, hbw⟩ := hrel
    by_cases hlt : k < n
    · obtain ⟨x, hx⟩ : ∃ x, xs[k]? = some x := ⟨xs[k]'(by have := HN.out; omega), List.getElem?_eq_getElem _⟩
      obtain ⟨b, o, rfl, _, c0, c1, c2⟩ := (HT.out.below hbw (Nat.le_refl _)).row hx
      have hsx := HS.out x (List.mem_of_getElem? hx)
      obtain ⟨xo, xn, xc⟩ := x
      have HZ := Lib.hid (szE1 xo xn xc r wr hr0 hr1 hsx.1 hsx.2)
      have HX := Lib.hid hx
      have u1 : (0 : Int) ≤ (k : Int) := Int.natCast_nonneg _
      have u2 : (k : Int) < (n : Int) := by omega
      clear hx hsx
      go_wp2_with fail
      refine HZ.out.mono ?_
      rintro e w2 ⟨⟨q, rfl, hq1, hq2⟩, hb2⟩
      have hbt := hbw.trans (hb2.mono hbw.size)
      clear hb2
      rcases hq2 with hq2 | ⟨hq2, hq3, hq4⟩
      · go_wp2_with fail
        go_ret
        exact ⟨-1, ⟨by omega, .inl (by omega)⟩, rfl, hbt⟩
      · have HA2 : Hid (∀ e ∈ xs.take (k + 1), e.1.size ≤ 1048576 ∧ e.2.1.size ≤ 1048576) := Lib.hid (by
          rw [take_snocE HX.out]
          intro y hy
          rw [List.mem_append, List.mem_singleton] at hy
          rcases hy with hy | rfl
          · exact HA.out y hy
          · exact ⟨hq3, hq4⟩)
        clear hq3 hq4
        go_wp2_with fail
        go_roundw
        case rel => exact ⟨k + 1, q, by omega, by go_num, rfl, hq2, hq1, HA2, hbt⟩
        case measure => simp [intOf]; omega
    · have hall : xs.take k = xs := List.take_of_length_le (by have := HN.out; omega)
      have hfin : SmallE n xs r := ⟨hr1, .inr ⟨by omega, by rw [← hall]; exact HA.out⟩⟩
      have HF := Lib.hid hfin
      clear hall hfin
      go_wp2
      go_ret
      exact ⟨r, HF.out, rfl, hbw⟩

def CopyE (n : Nat) (xs : List En) (w : World) (e : Ending) (w' : World) : Prop := ∃ A, e = .returned (.slice A n n) ∧ w'.ownsRow w.heap.size 60 3 (.slice A n n) n (enV xs) ∧ Below w.heap.size w w'
theorem below_set3 {B : Nat} {w w' : World} (h : Below B w w') {g : Nat} (hg : B ≤ g) (i j k : Nat) (x y z : Value) : Below B w (((w'.setCell ⟨g, i, none⟩ x).setCell ⟨g, j, none⟩ y).setCell ⟨g, k, none⟩ z) := ((h.setCell hg x).setCell hg y).setCell hg z
set_option maxHeartbeats 1000000 in
theorem uToE (A : Option Addr) (n cap : Nat) (xs : List En) (w : World) (hbig : n ≤ 1048576) (h : EnAt w w.heap.size A n xs) :
    Calls Try.prog 24 #[.slice A n cap] w (CopyE n xs w) := by
  obtain ⟨i0, hi0, hz0, hz1, hz2⟩ := info_parts info_en
  have H := Lib.hid h
  have HN := Lib.hid h.1
  clear h
  go_enter Try.func24, Try.ntmps24
  go_wp2_with (at_make; refine wpList_make_full _ rfl _ _ 24 rfl w.heap.size 60 i0 _ 3 Try.underlying24 hi0 hz0 hz1 _ _ _ _ n rfl rfl (by simp) (by simp) ?b2 ?b3 (Nat.le_refl _) ?_)
  case b2 => rw [hz2]; omega
  case b3 => unfold maxLen; omega
  intro w0 hown0 hgrow0
  rw [copyEn_zero n xs] at hown0
  have hb0 : Below w.heap.size w w0 := (Below.refl _ _).grown hgrow0 (Nat.le_refl _) (fun k h => by cases h)
  clear hgrow0
  go_wp2
  go_loopw [4] (fun i wr => ∃ k : Nat, k ≤ n ∧ i = .int .i64 k ∧ wr.ownsRow w.heap.size 60 3 (.slice (some ⟨w.heap.size, 0, none⟩) n n) n (enV (copyEn xs n k)) ∧ Below w.heap.size w wr) (fun i _ => n - (intOf i).toNat)
  case atStart => exact ⟨0, Nat.zero_le _, rfl, hown0, hb0⟩
  case round =>
    clear hown0 hb0
    obtain ⟨k, hk, rfl, hown, hbw⟩ := hrel
    by_cases hlt : k < n
    · obtain ⟨p, hp⟩ : ∃ p, xs[k]? = some p := ⟨xs[k]'(by have := HN.out; omega), List.getElem?_eq_getElem _⟩
      obtain ⟨b, o, rfl, hbl, c0, c1, c2⟩ := (H.out.below hbw (Nat.le_refl _)).row hp
      have HP := Lib.hid hp
      obtain ⟨x, y, z⟩ := p
      clear hp
      go_wp2_with fail
      refine (cToEn x y z _).mono ?_
      rintro e w1 ⟨rfl, hb1⟩
      have hown1 := hown.kept ⟨hb1.os, hb1.tape, hb1.output, hb1.size, fun j hj _ => hb1.block j hj⟩ (row := none) (by simp [Value.ownBlock])
      have hbw1 := hbw.trans (hb1.mono hbw.size)
      clear hown hbw
      have hl1 := hown1.1
      obtain ⟨v0, d0⟩ : ∃ v, w1.cell? ⟨w.heap.size, k * 3, none⟩ = some v := ⟨_, (hown1.cellAt (k * 3) (by omega)).trans (List.getElem?_eq_getElem (by omega))⟩
      obtain ⟨v1, d1⟩ : ∃ v, w1.cell? ⟨w.heap.size, k * 3 + 1, none⟩ = some v := ⟨_, (hown1.cellAt (k * 3 + 1) (by omega)).trans (List.getElem?_eq_getElem (by omega))⟩
      obtain ⟨v2, d2⟩ : ∃ v, w1.cell? ⟨w.heap.size, k * 3 + 2, none⟩ = some v := ⟨_, (hown1.cellAt (k * 3 + 2) (by omega)).trans (List.getElem?_eq_getElem (by omega))⟩
      have f0 := hown1.frozenAt (k * 3)
      have f1 := hown1.frozenAt (k * 3 + 1)
      have f2 := hown1.frozenAt (k * 3 + 2)
      have hst := (((hown1.stored (k * 3) (.string x)).1.stored (k * 3 + 1) (.string y)).1.stored (k * 3 + 2) (.int .i64 z)).1
      have hcs := enV_set3 (copyEn xs n k) k (x, y, z) (by rw [copyEn_len xs n k HN.out (by omega)]; exact hlt)
      rw [copyEn_step xs n k (x, y, z) HN.out HP.out] at hcs
      rw [hcs] at hst
      have hbw2 := below_set3 hbw1 (Nat.le_refl w.heap.size) (k * 3) (k * 3 + 1) (k * 3 + 2) (.string x) (.string y) (.int .i64 z)
      clear hl1 hown1 hcs
      go_wp2_with fail
      go_roundw
      case rel => exact ⟨k + 1, by omega, by go_num, hst, hbw2⟩
      case measure => simp [intOf]; omega
    · obtain rfl : k = n := by omega
      rw [copyEn_all xs k HN.out] at hown
      go_wp2
      go_ret
      exact ⟨_, rfl, hown, hbw⟩

theorem cEqEn (x y : ByteArray) (z : Int) (w : World) :
    Calls Try.prog 58 #[.agg #[.string x, .string y, .int .i64 z], .agg #[.string x, .string y, .int .i64 z]] w fun e w' => e = .returned (.bool true) ∧ Below w.heap.size w w' := by
  have hz : (z != z) = false := by simp
  go_enter Try.func58, Try.ntmps58
  go_wp2
  go_ret
  exact ⟨rfl, ((Below.refl _ _).alloc (Nat.le_refl _) _).alloc (by simp) _⟩

set_option maxHeartbeats 1000000 in
set_option maxRecDepth 100000 in
theorem uEqE (A A' : Option Addr) (n cap cap' : Nat) (xs : List En) (w : World) (hbig : n ≤ 1048576) (h1 : EnAt w w.heap.size A n xs) (h2 : EnAt w w.heap.size A' n xs) :
    Calls Try.prog 25 #[.slice A n cap, .slice A' n cap'] w fun e w' => e = .returned (.bool true) ∧ Below w.heap.size w w' := by
  have H1 := Lib.hid h1
  have H2 := Lib.hid h2
  have HN := Lib.hid h1.1
  clear h1 h2
  go_enter Try.func25, Try.ntmps25
  go_wp2
  go_loopw [5] (fun i wr => ∃ j : Nat, j ≤ n ∧ i = .int .i64 j ∧ Below w.heap.size w wr) (fun i _ => n - (intOf i).toNat)
  case atStart => exact ⟨0, Nat.zero_le _, rfl, Below.refl _ _⟩
  case round =>
    obtain ⟨j, hj, rfl, hbw⟩ := hrel
    by_cases hlt : j < n
    · obtain ⟨p, hp⟩ : ∃ p, xs[j]? = some p := ⟨xs[j]'(by have := HN.out; omega), List.getElem?_eq_getElem _⟩
      obtain ⟨b, o, rfl, hbl, c0, c1, c2⟩ := (H1.out.below hbw (Nat.le_refl _)).row hp
      obtain ⟨b', o', rfl, hbl', d0, d1, d2⟩ := (H2.out.below hbw (Nat.le_refl _)).row hp
      have l1 := Nat.lt_of_lt_of_le hbl hbw.size
      have l2 := Nat.lt_of_lt_of_le hbl' hbw.size
      obtain ⟨x, y, z⟩ := p
      have HB := Lib.hid hbw
      have u1 : (0 : Int) ≤ (j : Int) := Int.natCast_nonneg _
      have u2 : (j : Int) < (n : Int) := by omega
      clear hp hbw
      go_wp2_with fail
      obtain ⟨T, f, t0, hT, ht0, hf, hback⟩ := class_of wr
      have k0 : ∀ t, (f t).cell? ⟨b, o + j * 3, none⟩ = some (.string x) := fun t => ((hf t).cell (p := ⟨b, o + j * 3, none⟩) l1).trans c0
      have k1 : ∀ t, (f t).cell? ⟨b, o + j * 3 + 1, none⟩ = some (.string y) := fun t => ((hf t).cell (p := ⟨b, o + j * 3 + 1, none⟩) l1).trans c1
      have k2 : ∀ t, (f t).cell? ⟨b, o + j * 3 + 2, none⟩ = some (.int .i64 z) := fun t => ((hf t).cell (p := ⟨b, o + j * 3 + 2, none⟩) l1).trans c2
      have m0 : ∀ t, (f t).cell? ⟨b', o' + j * 3, none⟩ = some (.string x) := fun t => ((hf t).cell (p := ⟨b', o' + j * 3, none⟩) l2).trans d0
      have m1 : ∀ t, (f t).cell? ⟨b', o' + j * 3 + 1, none⟩ = some (.string y) := fun t => ((hf t).cell (p := ⟨b', o' + j * 3 + 1, none⟩) l2).trans d1
      have m2 : ∀ t, (f t).cell? ⟨b', o' + j * 3 + 2, none⟩ = some (.int .i64 z) := fun t => ((hf t).cell (p := ⟨b', o' + j * 3 + 2, none⟩) l2).trans d2
      have CE := Lib.hid (cEqEn x y z)
      have HF := Lib.hid hf
      have HK := Lib.hid hback
      clear hf hback
      refine wp_region_class f t0 ht0 (by kernel_rfl) (by kernel_rfl) ?_
      clear ht0
      repeat (go_big_quiet_step (first | (go_at_call 58; exact Calls.class_of HF.out HK.out (CE.out _))))
      refine wpQuiet_nil ?_
      rintro w' ⟨t, rfl⟩
      have hbt := HB.out.trans ((HF.out t).mono HB.out.size)
      go_wp2
      go_roundw
      case rel => exact ⟨j + 1, by omega, by go_num, hbt⟩
      case measure => simp [intOf]; omega
    · go_wp2
      go_ret
      exact ⟨rfl, hbw⟩

theorem bgrown {w w' : World} (h : Below w.heap.size w w') (row : Option Nat) : w.grownBy w' row := ⟨h.os, h.tape, h.output, h.size, fun k hk _ => h.block k hk⟩
theorem cMarkE_none (A : Option Addr) (c : Nat) (k : Int) (w : World) :
    Calls Try.prog 27 #[.slice A 0 c, .int .i64 k] w fun e w' => e = .returned (.int .i64 k) ∧ w = w' := by
  go_enter Try.func27, Try.ntmps27
  go_wp2
  refine wp_loop_rounds 1 ?_
  rw [rounds_succ]
  go_wp2
  go_ret
  exact ⟨rfl, rfl⟩
def MarkedE (A : Option Addr) (n c k : Nat) (w : World) (e : Ending) (w' : World) : Prop :=
  e = .returned (.int .i64 ((k + 3 * n : Nat) : Int)) ∧ w.grownBy w' (Value.slice A n c).ownBlock
set_option maxHeartbeats 2000000 in
set_option maxRecDepth 100000 in
theorem uMarkE (lo : Nat) (A : Option Addr) (n c k : Nat) (xs : List En) (w : World) (hk : 1 ≤ k) (hk2 : k ≤ 1073741824) (hn : n ≤ 1048576) (h : w.ownsRow lo 60 3 (.slice A n c) n (enV xs)) :
    Calls Try.prog 27 #[.slice A n c, .int .i64 (k : Int)] w (MarkedE A n c k w) := by
  rcases Nat.eq_zero_or_pos n with rfl | hp
  · refine (cMarkE_none A c k w).mono ?_
    rintro e w' ⟨rfl, rfl⟩
    exact ⟨rfl, World.grownBy.refl _ _⟩
  obtain ⟨g, cc, hv, _, hgl⟩ := World.ownsRow.form h hp
  obtain ⟨rfl, rfl⟩ : A = some ⟨g, 0, none⟩ ∧ c = cc := by injection hv with h1 h2 h3; exact ⟨h1, h3⟩
  have H := Lib.hid h
  clear hv h
  go_enter Try.func27, Try.ntmps27
  go_wp2_with fail
  go_loopw [1, 5] (fun kk i wr => ∃ (j : Nat) (zs : List Value), j ≤ n ∧ i = .int .i64 j ∧ kk = .int .i64 ((k : Int) + 3 * j) ∧ Hid (wr.ownsRow lo 60 3 (.slice (some ⟨g, 0, none⟩) n c) n zs) ∧ w.grownBy wr (some g)) (fun _ i _ => n - (intOf i).toNat)
  case atStart => exact ⟨0, _, Nat.zero_le _, rfl, by simp, H, World.grownBy.refl _ _⟩
  case round =>
    obtain ⟨j, zs, hj, rfl, rfl, HR, hgr⟩ := hrel
    by_cases hlt : j < n
    · have hm0 := fun W => cMarkText (k + 3 * j) W (by omega) (by omega)
      have hm1 := fun W => cMarkText (k + 3 * j + 1) W (by omega) (by omega)
      rw [show ((k + 3 * j : Nat) : Int) = (k : Int) + 3 * (j : Int) from by omega] at hm0
      rw [show ((k + 3 * j + 1 : Nat) : Int) = (k : Int) + 3 * (j : Int) + 1 from by omega] at hm1
      have HM0 := Lib.hid hm0
      have HM1 := Lib.hid hm1
      clear hm0 hm1
      have u1 : (0 : Int) ≤ (j : Int) := Int.natCast_nonneg _
      have u2 : (j : Int) < (n : Int) := by omega
      have u3 : (0 : Int) ≤ (k : Int) := Int.natCast_nonneg _
      have u4 : (k : Int) + 3 * (j : Int) ≤ 1099511627776 := by omega
      go_wp2_with fail
      refine (HM0.out _).mono ?_
      rintro e w1 ⟨rfl, hb1⟩
      have hown1 := HR.out.kept (bgrown hb1 none) (by simp [Value.ownBlock])
      have hl1 := hown1.1
      obtain ⟨v0, d0⟩ : ∃ v, w1.cell? ⟨g, j * 3, none⟩ = some v := ⟨_, (hown1.cellAt (j * 3) (by omega)).trans (List.getElem?_eq_getElem (by omega))⟩
      have f0 := hown1.frozenAt (j * 3)
      have hst1 := hown1.stored (j * 3) (.string (markB (k + 3 * j)))
      have hgr1 := (hgr.trans (bgrown hb1 (some g))).trans hst1.2
      have HS1 := Lib.hid hst1.1
      clear hst1 hown1 hl1 hgr hb1 HR
      go_wp2_with fail
      refine (HM1.out _).mono ?_
      rintro e w2 ⟨rfl, hb2⟩
      have hown2 := HS1.out.kept (bgrown hb2 none) (by simp [Value.ownBlock])
      have hl2 := hown2.1
      obtain ⟨v1, d1⟩ : ∃ v, w2.cell? ⟨g, j * 3 + 1, none⟩ = some v := ⟨_, (hown2.cellAt (j * 3 + 1) (by omega)).trans (List.getElem?_eq_getElem (by omega))⟩
      obtain ⟨v2, d2⟩ : ∃ v, w2.cell? ⟨g, j * 3 + 2, none⟩ = some v := ⟨_, (hown2.cellAt (j * 3 + 2) (by omega)).trans (List.getElem?_eq_getElem (by omega))⟩
      have f1 := hown2.frozenAt (j * 3 + 1)
      have f2 := hown2.frozenAt (j * 3 + 2)
      have hst2 := hown2.stored (j * 3 + 1) (.string (markB (k + 3 * j + 1)))
      have hst3 := hst2.1.stored (j * 3 + 2) (.int .i64 ((k : Int) + 3 * (j : Int) + 1 + 1))
      have hgr3 := (((hgr1.trans (bgrown hb2 (some g))).trans hst2.2).trans hst3.2)
      have HS3 := Lib.hid hst3.1
      clear hst2 hst3 hown2 hl2 hb2 HS1 hgr1
      go_wp2_with fail
      go_roundw
      case rel => exact ⟨j + 1, _, by omega, by go_num, by go_num, HS3, hgr3⟩
      case measure => simp [intOf]; omega
    · obtain rfl : j = n := by omega
      go_wp2_with fail
      go_ret
      exact ⟨ret_int (by omega), hgr⟩
theorem Sp.en {w : World} {A : Option Addr} {n : Nat} {xs : List En} (h : EnAt w w.heap.size A n xs) : Sp 0 w.heap.size (fun W => EnAt W W.heap.size A n xs) w :=
  ⟨Nat.le_refl _, fun W hW => (h.below hW.below (Nat.le_refl _)).more hW.size⟩
end Go.Proofs.Ytippjomkbpiliaa
