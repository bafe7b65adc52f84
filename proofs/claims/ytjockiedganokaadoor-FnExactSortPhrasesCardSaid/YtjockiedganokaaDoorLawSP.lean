/-
  The contracts of the laws' helpers on slices of texts: markText and markStringS.
-/
import Derived.Test.YtjockiedganokaaDoorSplit
import Derived.Test.YtjockiedganokaaDoorEqS
import Derived.Maps.AppendAt
import Derived.Lib.ItoaNum
import Derived.Deep.RegionHeld3
import Derived.Laws.IdiomStrings
import Derived.Test.YtjockiedganokaaDoorToS2
import Derived.Test.YtjockiedganokaaDoorNumAt
import Derived.Test.YtjockiedganokaaDoorIntRow
import Derived.Test.YtjockiedganokaaDoorAreS
import Derived.Test.YtjockiedganokaaDoorConcat
import Derived.Test.YtjockiedganokaaDoorBld
import Derived.Deep.RegionLaw
import Derived.Deep.AppendLies
import Derived.Deep.CutBlock
import Derived.Deep.DeepCutAuto
import Derived.StillTailTactics
import Derived.Deep.QuietTactic
import Derived.BigQuiet
namespace Go.Proofs.YtjockiedganokaaDoor
section
set_option linter.unusedVariables false
open Go.RowKit

theorem below_dr0 {B : Nat} {a w : World} (h : Below B a w) (n : Nat) : Below B a (w.drewN n) := ⟨h.os, h.tape, h.output, h.size, h.block⟩
theorem below_grown {w w' : World} (h : Below w.heap.size w w') (row : Option Nat) : w.grownBy w' row := ⟨h.os, h.tape, h.output, h.size, fun k hk _ => h.block k hk⟩

def markB (k : Nat) : ByteArray := ⟨(109 :: Lib.decDigits k).toArray⟩
theorem dec_step (j : Nat) (l : List UInt8) (h : 0 < j) : Lib.decDigits j ++ l = (if j / 10 = 0 then [] else Lib.decDigits (j / 10)) ++ (48 + UInt8.ofNat (j % 10)) :: l := by
  by_cases h10 : j < 10
  · rw [Lib.decDigits, dif_pos h10, if_pos (by omega)]
    have : j % 10 = j := Nat.mod_eq_of_lt h10
    simp [this]
  · rw [Lib.decDigits, dif_neg h10, if_neg (by omega)]
    simp

theorem dec_len (k : Nat) : (Lib.decDigits k).length ≤ k + 1 := by
  induction k using Nat.strongRecOn with
  | _ k ih =>
    by_cases h : k < 10
    · rw [Lib.decDigits, dif_pos h]; simp
    · rw [Lib.decDigits, dif_neg h]
      have := ih (k / 10) (by omega)
      simp; omega
theorem conv_one (w : World) (j : Nat) : (convert 22 9 (.slice (some ⟨w.heap.size, 0, none⟩) 1 1)).run Tryd.prog (w.alloc (.cells #[.int .u8 (48 + (j : Int) % 10)] 5)) =
    .ok (.string ⟨#[UInt8.ofNat (48 + j % 10)]⟩) (w.alloc (.cells #[.int .u8 (48 + (j : Int) % 10)] 5)) := by
  refine run_convert_bytes_back (P := Tryd.prog) (w.alloc (.cells #[.int .u8 (48 + (j : Int) % 10)] 5)) 22 9 5 ⟨w.heap.size, 0, none⟩ 1 [UInt8.ofNat (48 + j % 10)] Tryd.underlying22 Tryd.underlying5 Tryd.underlying9 ?_
  intro i hi
  obtain rfl : i = 0 := by simpa using hi
  have h1 : ((UInt8.ofNat (48 + j % 10)).toNat : Int) = 48 + (j : Int) % 10 := by
    rw [UInt8.toNat_ofNat_of_lt' (by simp [UInt8.size]; omega)]; omega
  have h2 := new_one w (.int .u8 (48 + (j : Int) % 10)) 5
  have h3 : ((⟨w.heap.size, 0, none⟩ : Addr).add 0) = ⟨w.heap.size, 0, none⟩ := by simp [Addr.add]
  rw [h3, h2]
  exact congrArg (fun x => some (Value.int .u8 x)) h1.symm

set_option maxHeartbeats 400000 in
set_option maxRecDepth 100000 in
theorem cMarkText (k : Nat) (w : World) (h1 : 1 ≤ k) (h2 : k ≤ 1099511627776) :
    Calls Tryd.prog 59 #[.int .i64 k] w fun e w' => e = .returned (.string (markB k)) ∧ Below w.heap.size w w' := by
  have hd : decide (k = 0) = false := decide_eq_false (by omega)
  go_enter Tryd.func59, Tryd.ntmps59
  go_wp2
  clear hd
  go_loopw [0, 3] (fun kk o wr => ∃ (j : Nat) (l : ByteArray), j ≤ 1099511627776 ∧ kk = .int .i64 j ∧ o = .string l ∧ Hid ((if j = 0 then [] else Lib.decDigits j) ++ l.data.toList = Lib.decDigits k) ∧ Below w.heap.size w wr) (fun kk _ _ => (intOf kk).toNat)
  case atStart => exact ⟨k, ByteArray.empty, h2, rfl, rfl, Lib.hid (by rw [if_neg (by omega)]; exact List.append_nil _), Below.refl _ _⟩
  case round =>
    obtain ⟨j, l, hj, rfl, rfl, HL, hbw⟩ := hrel
    have hsz : l.size ≤ 1099511627777 := by
      have h3 := congrArg List.length HL.out
      have h4 := dec_len k
      rw [List.length_append] at h3
      have h5 : l.data.toList.length = l.size := size_list l
      omega
    by_cases hlt : 0 < j
    · have hcv := conv_one wr j
      go_wp2
      go_roundw
      case rel => exact ⟨j / 10, _, by omega, by go_num, rfl, Lib.hid (by have h := HL.out; rw [if_neg (show ¬ j = 0 by omega), dec_step j _ hlt] at h; rw [← h]; simp), hbw.alloc hbw.size _⟩
      case measure => simp [intOf]; omega
    · go_wp2
      go_ret
      obtain rfl : j = 0 := by omega
      have hl : l.data.toList = Lib.decDigits k := HL.out
      refine ⟨?_, hbw⟩
      rw [show (⟨#[109]⟩ : ByteArray) ++ l = markB k from by
        unfold markB
        apply ByteArray.ext
        rw [← hl]
        simp]
      rfl

/-- The first j cells marked, the rest as it was. -/
def markL (k j : Nat) (xs : List Value) : List Value := ((List.range j).map fun i => Value.string (markB (k + i))) ++ xs.drop j
theorem markL_zero (k : Nat) (xs : List Value) : markL k 0 xs = xs := by simp [markL]
theorem markL_step (k j : Nat) (xs : List Value) (hj : j < xs.length) : (markL k j xs).set j (.string (markB (k + j))) = markL k (j + 1) xs := by
  unfold markL
  rw [List.set_append_right _ _ (by simp), List.range_succ, List.map_append, List.append_assoc]
  congr 1
  simp only [List.length_map, List.length_range, Nat.sub_self]
  rw [List.drop_eq_getElem_cons hj, List.set_cons_zero]
  rfl
theorem markL_all (k : Nat) (xs : List Value) (n : Nat) (hn : n = xs.length) : markL k n xs = (List.range n).map fun i => Value.string (markB (k + i)) := by
  unfold markL; rw [List.drop_of_length_le (by omega), List.append_nil]
def marksV (k n : Nat) : List Value := (List.range n).map fun i => Value.string (markB (k + i))
theorem marksV_at (k n j : Nat) (h : j < n) : (marksV k n)[j]? = some (.string (markB (k + j))) := by simp [marksV, h]

set_option maxHeartbeats 1000000 in
set_option maxRecDepth 100000 in
theorem cMarkS (base g cap n k : Nat) (xs : List Value) (w : World) (hk : 1 ≤ k) (hkn : k + n ≤ 1099511627776) (hg : g < w.heap.size)
    (hown : w.ownsRow base 9 1 (.slice (some ⟨g, 0, none⟩) n cap) n xs) :
    Calls Tryd.prog 29 #[.slice (some ⟨g, 0, none⟩) n cap, .int .i64 k] w fun e w' => e = .returned (.int .i64 ((k + n : Nat) : Int)) ∧
      w'.ownsRow base 9 1 (.slice (some ⟨g, 0, none⟩) n cap) n (marksV k n) ∧ w.grownBy w' (some g) := by
  have hlen : xs.length = n := by simpa using hown.1
  have HLEN := Lib.hid hlen
  clear hlen
  go_enter Tryd.func29, Tryd.ntmps29
  go_wp2
  go_loopw [1, 5] (fun kk i wr => ∃ j : Nat, j ≤ n ∧ i = .int .i64 j ∧ kk = .int .i64 ((k : Int) + j) ∧ wr.ownsRow base 9 1 (.slice (some ⟨g, 0, none⟩) n cap) n (markL k j xs) ∧ w.grownBy wr (some g)) (fun _ i _ => n - (intOf i).toNat)
  case atStart => exact ⟨0, Nat.zero_le _, rfl, by simp, by rw [markL_zero]; exact hown, World.grownBy.refl _ _⟩
  case round =>
    clear hown
    obtain ⟨j, hj, rfl, rfl, hown, hgr⟩ := hrel
    by_cases hlt : j < n
    · have hm := cMarkText (k + j) wr (by omega) (by omega)
      rw [show ((k + j : Nat) : Int) = (k : Int) + (j : Int) from by omega] at hm
      have HM := Lib.hid hm
      clear hm
      go_wp2_with fail
      refine HM.out.mono ?_
      rintro e w1 ⟨rfl, hb1⟩
      have hown1 := hown.kept (below_grown hb1 none) (by simp [Value.ownBlock])
      obtain ⟨v4, c4⟩ : ∃ v, w1.cell? ⟨g, j, none⟩ = some v := by
        have hl : j < (markL k j xs).length := by rw [hown1.1]; omega
        exact ⟨_, (hown1.cellAt j (by omega)).trans (List.getElem?_eq_getElem hl)⟩
      have f4 := hown1.frozenAt j
      have hst := hown1.stored j (.string (markB (k + j)))
      rw [markL_step k j xs (by have := HLEN.out; omega)] at hst
      have hgr1 := (hgr.trans (below_grown hb1 (some g))).trans hst.2
      have hst1 := hst.1
      clear hst hown1 hown hgr HM hb1
      go_wp2
      go_roundw
      case rel => exact ⟨j + 1, by omega, by go_num, by go_num, hst1, hgr1⟩
      case measure => simp [intOf]; omega
    · obtain rfl : j = n := by omega
      rw [markL_all k xs j HLEN.out.symm] at hown
      go_wp2
      go_ret
      exact ⟨ret_int (by omega), hown, hgr⟩

theorem cMarkS_none (A : Option Addr) (cap : Nat) (k : Int) (w : World) :
    Calls Tryd.prog 29 #[.slice A 0 cap, .int .i64 k] w fun e w' => e = .returned (.int .i64 k) ∧ w = w' := by
  go_enter Tryd.func29, Tryd.ntmps29
  go_wp2
  refine wp_loop_rounds 1 ?_
  rw [rounds_succ]
  go_wp2
  go_ret
  exact ⟨rfl, rfl⟩
end
section
set_option linter.unusedVariables false
open Go.RowKit

def RowS (w : World) (A : Option Addr) (n c : Nat) (xs : List Value) : Prop := w.ownsRow 0 9 1 (.slice A n c) n xs
theorem RowS.of {w : World} {A : Option Addr} {n c b : Nat} {xs : List Value} (h : w.ownsRow b 9 1 (.slice A n c) n xs) : RowS w A n c xs := rowBase h (Nat.zero_le _)
theorem RowS.grown {w w' : World} {A : Option Addr} {n c : Nat} {xs : List Value} {row : Option Nat} (h : RowS w A n c xs) (hg : w.grownBy w' row) (hne : ∀ x, (Value.slice A n c).ownBlock = some x → row ≠ some x) : RowS w' A n c xs := by
  refine h.kept hg ?_
  rcases hh : (Value.slice A n c).ownBlock with _ | q
  · exact .inl rfl
  · exact .inr (fun e => hne q hh e.symm)
theorem RowS.below {w w' : World} {A : Option Addr} {n c : Nat} {xs : List Value} (h : RowS w A n c xs) (hb : Below w.heap.size w w') : RowS w' A n c xs := h.grown (bgr hb none) (fun _ _ e => by cases e)
theorem RowS.form {w : World} {A : Option Addr} {n c : Nat} {xs : List Value} (h : RowS w A n c xs) (hp : 0 < n) : ∃ g, A = some ⟨g, 0, none⟩ ∧ g < w.heap.size := by
  rcases h.2 with ⟨he, h0⟩ | ⟨g, cap, cur, hv, h1, h2, _⟩
  · omega
  · injection hv with e1 e2 e3
    exact ⟨g, e1, (Array.getElem?_eq_some_iff.1 h2).1⟩
theorem rEqS (A A' : Option Addr) (c c' n : Nat) (l : List ByteArray) (w : World) (hbig : n ≤ 1048576) (h : RowS w A n c (strV l)) (h' : RowS w A' n c' (strV l)) :
    Calls Tryd.prog 24 #[.slice A n c, .slice A' n c'] w fun e w' => e = .returned (.bool true) ∧ Below w.heap.size w w' := by
  have hl : l.length = n := by have := h.1; rw [strV_len] at this; omega
  rcases Nat.eq_zero_or_pos n with rfl | hp
  · refine (cEqS_none A A' c c' w).mono ?_
    rintro e w' ⟨rfl, rfl⟩
    exact ⟨rfl, Below.refl _ _⟩
  · obtain ⟨g, rfl, hg⟩ := h.form hp
    obtain ⟨g', rfl, hg'⟩ := h'.form hp
    refine (cEqS g c g' c' n l w hl.symm (by omega) (fun j x hx => ?_) (fun j x hx => ?_)).mono ?_
    · exact (World.ownsRow.cellAt h j (by have := (List.getElem?_eq_some_iff.1 hx).1; omega)).trans (strV_at _ _ _ hx)
    · exact (World.ownsRow.cellAt h' j (by have := (List.getElem?_eq_some_iff.1 hx).1; omega)).trans (strV_at _ _ _ hx)
    · rintro e w' ⟨rfl, m, rfl⟩
      exact ⟨rfl, below_drN (Below.refl _ _) m⟩
theorem rMarkS (A : Option Addr) (n c k : Nat) (xs : List Value) (w : World) (hk : 1 ≤ k) (hkn : k + n ≤ 1099511627776) (h : RowS w A n c xs) :
    Calls Tryd.prog 29 #[.slice A n c, .int .i64 k] w fun e w' => e = .returned (.int .i64 ((k + n : Nat) : Int)) ∧ RowS w' A n c (marksV k n) ∧ w.grownBy w' (Value.slice A n c).ownBlock := by
  rcases Nat.eq_zero_or_pos n with rfl | hp
  · refine (cMarkS_none A c k w).mono ?_
    rintro e w' ⟨rfl, rfl⟩
    have hx : xs = [] := List.eq_nil_of_length_eq_zero (by have := h.1; simpa using this)
    subst hx
    exact ⟨rfl, h, World.grownBy.refl _ _⟩
  · obtain ⟨g, rfl, hg⟩ := h.form hp
    exact cMarkS 0 g c n k xs w hk hkn hg h

set_option maxHeartbeats 1000000 in
set_option maxRecDepth 100000 in
theorem cHeldS (base g cap n k : Nat) (w : World) (hk : 1 ≤ k) (hkn : k + n ≤ 1099511627776) (hg : g < w.heap.size)
    (hown : w.ownsRow base 9 1 (.slice (some ⟨g, 0, none⟩) n cap) n (marksV k n)) :
    Calls Tryd.prog 31 #[.slice (some ⟨g, 0, none⟩) n cap, .int .i64 k] w fun e w' => e = .returned (.int .i64 ((k + n : Nat) : Int)) ∧ Below w.heap.size w w' := by
  go_enter Tryd.func31, Tryd.ntmps31
  go_wp2
  go_loopw [1, 5] (fun kk i wr => ∃ j : Nat, j ≤ n ∧ i = .int .i64 j ∧ kk = .int .i64 ((k : Int) + j) ∧ Below w.heap.size w wr) (fun _ i _ => n - (intOf i).toNat)
  case atStart => exact ⟨0, Nat.zero_le _, rfl, by simp, Below.refl _ _⟩
  case round =>
    obtain ⟨j, hj, rfl, rfl, hbw⟩ := hrel
    by_cases hlt : j < n
    · have hm := fun W => cMarkText (k + j) W (by omega) (by omega)
      rw [show ((k + j : Nat) : Int) = (k : Int) + (j : Int) from by omega] at hm
      have HM := Lib.hid hm
      clear hm
      have c4 : wr.cell? ⟨g, j, none⟩ = some (.string (markB (k + j))) := (hbw.cell hg).trans ((hown.cellAt j (by omega)).trans (marksV_at _ _ _ hlt))
      have e1 : (0 : Int) ≤ (j : Int) := Int.natCast_nonneg _
      have e2 : (j : Int) < (n : Int) := by omega
      have hgl : g < wr.heap.size := Nat.lt_of_lt_of_le hg hbw.size
      go_wp2
      go_region_held3 (fun w' => w'.cell? ⟨g, j, none⟩ = some (.string (markB (k + j)))) (first | (go_keep; done) | (rw [hb1.cell (by exact hgl)]; assumption)) ((go_at_call 59; refine (HM.out _).mono ?_; rintro e w1 ⟨rfl, hb1⟩))
      all_goals
        go_wp2
        go_roundw
        case rel => exact ⟨j + 1, by omega, by go_num, by go_num, hbw.drew.trans (hb1.mono (by simpa using hbw.size))⟩
        case measure => simp [intOf]; omega
    · obtain rfl : j = n := by omega
      go_wp2
      go_ret
      exact ⟨ret_int (by omega), hbw⟩
theorem cHeldS_none (A : Option Addr) (cap : Nat) (k : Int) (w : World) :
    Calls Tryd.prog 31 #[.slice A 0 cap, .int .i64 k] w fun e w' => e = .returned (.int .i64 k) ∧ w = w' := by
  go_enter Tryd.func31, Tryd.ntmps31
  go_wp2
  refine wp_loop_rounds 1 ?_
  rw [rounds_succ]
  go_wp2
  go_ret
  exact ⟨rfl, rfl⟩
theorem rHeldS (A : Option Addr) (n c k : Nat) (w : World) (hk : 1 ≤ k) (hkn : k + n ≤ 1099511627776) (h : RowS w A n c (marksV k n)) :
    Calls Tryd.prog 31 #[.slice A n c, .int .i64 k] w fun e w' => e = .returned (.int .i64 ((k + n : Nat) : Int)) ∧ Below w.heap.size w w' := by
  rcases Nat.eq_zero_or_pos n with rfl | hp
  · refine (cHeldS_none A c k w).mono ?_
    rintro e w' ⟨rfl, rfl⟩
    exact ⟨rfl, Below.refl _ _⟩
  · obtain ⟨g, rfl, hg⟩ := h.form hp
    exact cHeldS 0 g c n k w hk hkn hg h
theorem qToS (A : Option Addr) (n cap : Nat) (xs : List ByteArray) (w : World) (hbig : n ≤ 1048576) (h : TextAt w w.heap.size A n xs) :
    Calls Tryd.prog 23 #[.slice A n cap] w fun e w' => e = .returned (.slice (some ⟨w.heap.size, 0, none⟩) n n) ∧ SrcT w' (some ⟨w.heap.size, 0, none⟩) n n xs ∧ (0 < n → w'.ownsRow w.heap.size 9 1 (.slice (some ⟨w.heap.size, 0, none⟩) n n) n (vals xs)) ∧ w.heap.size < w'.heap.size ∧ Below w.heap.size w w' := by
  rcases Nat.eq_zero_or_pos n with rfl | hp
  · refine (cToS_none2 A cap w).mono ?_
    rintro e w' ⟨rfl, hl, hb⟩
    have hx : xs = [] := List.eq_nil_of_length_eq_zero h.1.symm
    subst hx
    exact ⟨rfl, .inr ⟨_, 0, rfl, hl, rfl, fun j x hx => by simp at hx⟩, fun hp => absurd hp (by omega), hl, hb⟩
  · refine (tToS A n cap xs w hbig h).mono ?_
    rintro e w' ⟨rfl, _, own0, hbw⟩
    have own := own0 hp
    refine ⟨rfl, .inr ⟨_, 0, rfl, (own.lt _ rfl).2, h.1, fun j x hx => ?_⟩, fun _ => own, (own.lt _ rfl).2, hbw⟩
    rw [Nat.zero_add]
    exact (own.cellAt j (by have := (List.getElem?_eq_some_iff.1 hx).1; have := h.1; omega)).trans (vals_at _ _ _ hx)
theorem qToI (A : Option Addr) (n cap : Nat) (xs : List Int) (w : World) (hbig : n ≤ 1048576) (h : NumAt w w.heap.size A n xs) :
    Calls Tryd.prog 25 #[.slice A n cap] w fun e w' => e = .returned (.slice (some ⟨w.heap.size, 0, none⟩) n n) ∧
      NumAt w' w'.heap.size (some ⟨w.heap.size, 0, none⟩) n xs ∧ (0 < n → w'.ownsRow w.heap.size 2 1 (.slice (some ⟨w.heap.size, 0, none⟩) n n) n (intV xs)) ∧ Below w.heap.size w w' := by
  rcases Nat.eq_zero_or_pos n with rfl | hp
  · refine (cToI_none A cap w).mono ?_
    rintro e w' ⟨rfl, hb⟩
    exact ⟨rfl, ⟨h.1, fun hp => absurd hp (by omega)⟩, fun hp => absurd hp (by omega), hb⟩
  · obtain ⟨b, o, rfl, hb, hc⟩ := h.2 hp
    refine (cToI b o n cap xs w h.1 hbig hb hc).mono ?_
    rintro e w' ⟨rfl, own, hbw⟩
    refine ⟨rfl, ⟨h.1, fun _ => ⟨_, 0, rfl, (own.lt _ rfl).2, fun j x hx => ?_⟩⟩, fun _ => own, hbw⟩
    rw [Nat.zero_add]
    exact (own.cellAt j (by have := (List.getElem?_eq_some_iff.1 hx).1; have := h.1; omega)).trans (intV_at _ _ _ hx)
theorem qEqS (g cap g' cap' n B C : Nat) (xs : List ByteArray) (w : World) (hbig : n ≤ 1048576) (h1 : TextAt w B (some ⟨g, 0, none⟩) n xs) (h2 : TextAt w C (some ⟨g', 0, none⟩) n xs) :
    Calls Tryd.prog 24 #[.slice (some ⟨g, 0, none⟩) n cap, .slice (some ⟨g', 0, none⟩) n cap'] w fun e w' => e = .returned (.bool true) ∧ Below w.heap.size w w' := by
  refine (tEqS g cap g' cap' n B C xs w hbig h1 h2).mono ?_
  rintro e w' ⟨rfl, m, rfl⟩
  exact ⟨rfl, below_drN (Below.refl _ _) m⟩
theorem qEqI (A A' : Option Addr) (cap cap' n B C : Nat) (xs : List Int) (w : World) (hbig : n ≤ 1048576) (h1 : NumAt w B A n xs) (h2 : NumAt w C A' n xs) :
    Calls Tryd.prog 26 #[.slice A n cap, .slice A' n cap'] w fun e w' => e = .returned (.bool true) ∧ Below w.heap.size w w' := by
  refine (tEqI A A' cap cap' n B C xs w hbig h1 h2).mono ?_
  rintro e w' ⟨rfl, m, rfl⟩
  exact ⟨rfl, below_drN (Below.refl _ _) m⟩
theorem qMarkS (g n : Nat) (base : Nat) (k : Nat) (hk : 1 ≤ k) (hk2 : k ≤ 4194304) (xs : List Value) (w : World) (hn : n ≤ 1048576) (hg : 0 < n → g < w.heap.size ∧ w.ownsRow base 9 1 (.slice (some ⟨g, 0, none⟩) n n) n xs) :
    Calls Tryd.prog 29 #[.slice (some ⟨g, 0, none⟩) n n, .int .i64 k] w fun e w' => e = .returned (.int .i64 ((k + n : Nat) : Int)) ∧ ∃ gg, w.grownBy w' gg ∧ ∀ k, gg = some k → 0 < n ∧ k = g := by
  rcases Nat.eq_zero_or_pos n with rfl | hp
  · refine (cMarkS_none _ _ _ _).mono ?_
    rintro e w' ⟨rfl, rfl⟩
    exact ⟨rfl, none, World.grownBy.refl _ _, fun k h => by cases h⟩
  · obtain ⟨h1, h2⟩ := hg hp
    refine (cMarkS base g n n k xs w hk (by omega) h1 h2).mono ?_
    rintro e w' ⟨rfl, _, h3⟩
    exact ⟨rfl, _, h3, fun k h => ⟨hp, by cases h; rfl⟩⟩
theorem qMarkI (g n : Nat) (base : Nat) (k : Nat) (hk2 : k ≤ 4194304) (xs : List Int) (w : World) (hn : n ≤ 1048576) (hg : 0 < n → w.ownsRow base 2 1 (.slice (some ⟨g, 0, none⟩) n n) n (intV xs)) :
    Calls Tryd.prog 30 #[.slice (some ⟨g, 0, none⟩) n n, .int .i64 k] w fun e w' => e = .returned (.int .i64 ((k + n : Nat) : Int)) ∧ ∃ gg, w.grownBy w' gg ∧ ∀ k, gg = some k → 0 < n ∧ k = g := by
  rcases Nat.eq_zero_or_pos n with rfl | hp
  · refine (cMarkI_none _ _ _ _).mono ?_
    rintro e w' ⟨rfl, rfl⟩
    exact ⟨rfl, none, World.grownBy.refl _ _, fun k h => by cases h⟩
  · refine (cMarkI (some ⟨g, 0, none⟩) n n k xs w (by omega) (RowI.of (hg hp))).mono ?_
    rintro e w' ⟨rfl, _, h3⟩
    exact ⟨rfl, _, h3, fun k h => ⟨hp, by cases h; rfl⟩⟩
end
section
set_option linter.unusedVariables false
open Go.RowKit Go.Shelf

theorem textK_step (xs : List ByteArray) (key : List Int) (j : Nat) (x : Int) (h : key[j]? = some x) : textK xs (key.take (j + 1)) = textK xs (key.take j) ++ chK xs x := by
  obtain ⟨h1, e⟩ := List.getElem?_eq_some_iff.1 h
  rw [List.take_succ_eq_append_getElem h1, e]
  unfold textK
  rw [List.flatMap_append, List.flatMap_singleton]
theorem textK_le (xs : List ByteArray) (key : List Int) (j : Nat) : (textK xs (key.take j)).length ≤ (textK xs key).length := by
  have h : textK xs key = textK xs (key.take j) ++ textK xs (key.drop j) := by
    unfold textK; rw [← List.flatMap_append, List.take_append_drop]
  rw [h, List.length_append]; omega
def backK (xs : List ByteArray) (key : List Int) : ByteArray := ⟨(textK xs key).toArray⟩
theorem back_key (xs : List ByteArray) (s : ByteArray) (hc : canP xs s = true) : backK xs (keyP xs s) = s := by
  unfold backK; rw [key_text xs s hc]

set_option maxHeartbeats 1000000 in
set_option maxRecDepth 100000 in
theorem cKeyText (A : Option Addr) (n c : Nat) (xs : List ByteArray) (s : ByteArray) (v : Value) (w : World) (hbig : n ≤ 1048576) (hx : xs.length ≤ 40) (h : TextAt w w.heap.size A n xs) (hp : phraseB s = true) (hc : canP xs s = true) (hsz : s.size ≤ 1048576) (hk : HasK w v (keyP xs s)) :
    Calls Tryd.prog 58 #[v, .slice A n c] w fun e w' => e = .returned (.string s) ∧ Below w.heap.size w w' := by
  have hkt := key_text xs s hc
  have hkb := keyP_len xs s hp
  have hgood : ∀ x ∈ keyP xs s, x = 0 ∨ (10 ≤ x ∧ x < 10 + (xs.length : Int)) := fun x hx => keysW_ok xs _ x hx
  obtain ⟨key, hkey⟩ : ∃ key, key = keyP xs s := ⟨_, rfl⟩
  rw [← hkey] at hk hkt hgood hkb
  obtain ⟨b, cb, rfl, hb, hcell⟩ := hk
  have HT := Lib.hid h
  have HC := Lib.hid hcell
  have HG := Lib.hid hgood
  have HK := Lib.hid hkt
  have hszl : s.data.toList.length = s.size := size_list s
  have HLE : Hid (∀ j, (textK xs (key.take j)).length ≤ 1048576) := Lib.hid (fun j => by have := textK_le xs key j; rw [hkt, hszl] at this; omega)
  obtain ⟨K, hK⟩ : ∃ K, K = key.length := ⟨_, rfl⟩
  rw [← hK]
  rw [← hK] at hkb
  have HKL := Lib.hid hK
  clear hkt hkey hgood hcell h hszl hK
  obtain ⟨Bb, hBb⟩ : ∃ Bb, Bb = w.heap.size := ⟨_, rfl⟩
  have fresh := Lib.fresh_isBuilder 119 5 w
  rw [← hBb] at fresh
  have FR := Lib.hid fresh
  have BA := Lib.hid ((Below.refl Bb w).alloc (Nat.le_of_eq hBb) (.cells #[.pointer none, .slice none 0 0] 119))
  have HBB := Lib.hid hBb
  clear fresh hBb
  go_enter Tryd.func58, Tryd.ntmps58
  go_wp2_with fail
  rw [← HBB.out]
  go_loopw [10] (fun i wr => ∃ k : Nat, k ≤ K ∧ i = .int .i64 k ∧ Hid (Lib.IsBuilder 119 5 Bb Bb (Lib.byteCells (textK xs (key.take k))) wr) ∧ Hid (Below Bb w wr)) (fun i _ => K - (intOf i).toNat)
  case atStart => exact ⟨0, Nat.zero_le _, rfl, FR, BA⟩
  case round =>
    obtain ⟨k, hk, rfl, HB, HW⟩ := hrel
    have hbw : Below w.heap.size w wr := by rw [← HBB.out]; exact HW.out
    have hBw : Bb ≤ wr.heap.size := Nat.le_trans (Nat.le_of_eq HBB.out) hbw.size
    have HBw := Lib.hid hBw
    by_cases hlt : k < K
    · obtain ⟨x, hx⟩ : ∃ x, key[k]? = some x := ⟨key[k]'(by have := HKL.out; omega), List.getElem?_eq_getElem _⟩
      have hcl : (Lib.byteCells (textK xs (key.take k))).length ≤ 1048576 := by rw [Lib.byteCells_length]; exact HLE.out k
      have ck := (hbw.cell (p := ⟨b, k, none⟩) hb).trans (HC.out k x hx)
      have hst := textK_step xs key k x hx
      have hle1 := HLE.out (k + 1)
      rw [hst, List.length_append] at hle1
      have e1 : (0 : Int) ≤ (k : Int) := Int.natCast_nonneg _
      have e2 : (k : Int) < (K : Int) := by omega
      rcases HG.out x (List.mem_of_getElem? hx) with rfl | hg
      · have hd : ((0 : Int) == 0) = true := rfl
        have WB := Lib.hid (Tryd.Builder_WriteByte Bb Bb _ 32 wr HB.out (by omega) hBw)
        have HS := Lib.hid hst
        clear hx hcl hst hle1 hbw hBw
        go_wp2_with fail
        refine WB.out.mono ?_
        rintro e w2 ⟨rfl, hB2, hb2⟩
        have HB2 : Hid (Lib.IsBuilder 119 5 Bb Bb (Lib.byteCells (textK xs (key.take (k + 1)))) w2) := Lib.hid (.inr (by
          rw [HS.out, Lib.byteCells_append]; exact hB2))
        have HW2 := Lib.hid (HW.out.trans hb2)
        clear hB2 hb2
        go_wp2_with fail
        go_roundw
        case rel => exact ⟨k + 1, by omega, by go_num, HB2, HW2⟩
        case measure => simp [intOf]; omega
      · obtain ⟨p, hp⟩ : ∃ p : Nat, x = 10 + (p : Int) := ⟨(x - 10).toNat, by omega⟩
        subst hp
        obtain ⟨y, hy⟩ : ∃ y, xs[p]? = some y := ⟨xs[p]'(by omega), List.getElem?_eq_getElem _⟩
        have hch : chK xs (10 + (p : Int)) = y.data.toList := by
          unfold chK
          rw [if_neg (by omega), show (10 + (p : Int) - 10) = (p : Int) by omega]
          unfold pickK
          rw [Int.toNat_natCast, hy]; rfl
        rw [hch] at hst hle1
        have hyl : y.data.toList.length = y.size := size_list y
        have hnx : n = xs.length := HT.out.1
        obtain ⟨bl, ol, rfl, hbl, hcl0⟩ := HT.out.row hy
        have cl := (hbw.cell (by exact hbl)).trans hcl0
        have WS := Lib.hid (Tryd.Builder_WriteString Bb Bb _ y wr HB.out (by rw [Lib.byteCells_length]; omega) hBw)
        have HS := Lib.hid hst
        have hd : ((10 + (p : Int)) == 0) = false := by
          rw [beq_eq_false_iff_ne]; omega
        have hne : ¬ (10 + (p : Int)) = 0 := by omega
        have s0 : (10 : Int) + (p : Int) - 10 = (p : Int) := by omega
        have p0 : (0 : Int) ≤ (p : Int) := Int.natCast_nonneg _
        have p1 : (p : Int) < (n : Int) := by omega
        have p2 : (p : Int) < 40 := by omega
        have HNX := Lib.hid hnx
        clear hx hcl hst hle1 hbw hBw hg hy hch hyl hcl0 hnx
        go_wp2_with fail
        refine WS.out.mono ?_
        rintro e w2 ⟨rfl, hB2, hb2⟩
        have HB2 : Hid (Lib.IsBuilder 119 5 Bb Bb (Lib.byteCells (textK xs (key.take (k + 1)))) w2) := Lib.hid (.inr (by
          rw [HS.out, Lib.byteCells_append]; exact hB2))
        have HW2 := Lib.hid (HW.out.trans hb2)
        clear hB2 hb2
        go_wp2_with fail
        go_roundw
        case rel => exact ⟨k + 1, by omega, by go_num, HB2, HW2⟩
        case measure => simp [intOf]; omega
    · have hw : key.take k = key := List.take_of_length_le (by have := HKL.out; omega)
      have hBS := Tryd.Builder_String_any Bb Bb _ wr HB.out hBw
      rw [hw, HK.out] at hBS
      rw [show (⟨s.data.toList.toArray⟩ : ByteArray) = s from rfl] at hBS
      have BS := Lib.hid hBS
      clear hw hBS
      go_wp2_with fail
      refine BS.out.mono ?_
      rintro e w2 ⟨rfl, hb2⟩
      go_wp2_with fail
      go_ret
      exact ⟨rfl, hbw.trans (by rw [← HBB.out]; exact hb2)⟩

theorem perm_all {α : Type} [Inhabited α] {d d' : Array α} (h : Sort.PermIn 0 d.size d d') : d'.toList.Perm d.toList := by
  have h1 := h.2.2
  have e : d'.size = d.size := h.1
  rw [show d'.extract 0 d.size = d' by rw [← e]; exact Array.extract_size, Array.extract_size] at h1
  exact h1
theorem sortedIn_pair {α : Type} [Inhabited α] {lt : α → α → Bool} {n : Nat} {d : Array α} (h : Sort.SortedIn lt 0 n d) (hn : d.size = n) : d.toList.Pairwise fun a b => lt b a = false := by
  rw [List.pairwise_iff_getElem]
  intro i j hi hj hij
  have hi' : i < d.size := by simpa using hi
  have hj' : j < d.size := by simpa using hj
  have := h i j (Nat.zero_le _) hij (by omega)
  rw [getElem!_pos d i hi', getElem!_pos d j hj'] at this
  simpa using this
/-- slices.SortFunc at a row of keys: the keys of the phrases in order. -/
theorem cSortFK (xs ps : List ByteArray) (ig : List Int) (vs : List Value) (B g gF gI cap : Nat) (w0 w : World) (hw : Below w0.heap.size w0 w) (hg : g < w0.heap.size) (hB : B ≤ g)
    (hown : ∀ (j : Nat) v, vs[j]? = some v → w0.cell? ⟨g, j, none⟩ = some v ∧ w0.frozen? ⟨g, j, none⟩ = false) (hks : KeysAt w0 g vs (ps.map (keyP xs))) (hgood : ∀ k ∈ ps.map (keyP xs), 0 < k.length ∧ k.length ≤ 136 ∧ ∀ x ∈ k, 0 ≤ x ∧ x < 50) (hbig : ps.length ≤ 1048576) (hcan : ∀ s ∈ ps, canP xs s = true)
    (hF : FnAt w gF gI) (hI : IgAt w gI ig) (hgF : w0.heap.size ≤ gF) (hgI : w0.heap.size ≤ gI) :
    Calls Tryd.prog 57 #[.slice (some ⟨g, 0, none⟩) ps.length cap, .func (.func 77) #[] #[.pointer (some ⟨gF, 0, none⟩)]] w
      fun e w' => e = .returned (.tuple #[]) ∧ Below B w w' ∧ ∃ qs : List ByteArray, qs.Perm ps ∧ srt (ordP xs ig) qs ∧ ∀ (j : Nat) q, qs[j]? = some q → ∃ v, w'.cell? ⟨g, j, none⟩ = some v ∧ HasK w' v (keyP xs q) := by
  rcases Nat.eq_zero_or_pos ps.length with h0 | hpos
  · have hps : ps = [] := List.eq_nil_of_length_eq_zero h0
    subst hps
    have h := Tryd.SortFunc_none (some ⟨g, 0, none⟩) cap (.func (.func 77) #[] #[.pointer (some ⟨gF, 0, none⟩)]) w
    refine h.mono ?_
    rintro e w' ⟨rfl, rfl⟩
    exact ⟨rfl, Below.refl _ _, [], List.Perm.refl _, List.Pairwise.nil, fun j q hq => by simp at hq⟩
  obtain ⟨d, hd, hdk⟩ := kv_row hks hgood
  have hmap := kv_map hd hdk
  rw [List.length_map] at hd
  have hd0 : 0 < d.size := by omega
  letI : Inhabited (KV w0 g) := ⟨d[0]⟩
  have hH : Sort.Holds encK w g 0 d := kv_holds2 hdk hg hw hown
  have hgw : g < w.heap.size := Nat.lt_of_lt_of_le hg hw.size
  have h := Any.slices_SortFunc Tryd.sortK encK oneK (cfK ig) (cfK_swo ig) 77 #[.pointer (some ⟨gF, 0, none⟩)] g 0 cap d w (enters_of Tryd.func77 (by kernel_rfl) rfl)
    (cmpK_lays w g ig gF gI d.size hw hF hI (by omega) (by omega)) hH hgw (by omega)
  rw [hd] at h
  change Calls Tryd.prog 57 _ _ _ at h
  refine h.mono ?_
  rintro e w' ⟨rfl, d', m, os, hp, hs, rfl⟩
  rw [← hd] at hp hs
  have hsz : d'.size = d.size := hp.1
  have hpl := perm_all hp
  have hpk : (d'.toList.map (·.k)).Perm (ps.map (keyP xs)) := by rw [← hmap]; exact hpl.map _
  have hmem : ∀ k ∈ d'.toList.map (·.k), ∃ s ∈ ps, keyP xs s = k := fun k hk => by
    have := (hpk.mem_iff).1 hk
    rw [List.mem_map] at this
    exact this
  have hback : ∀ k ∈ d'.toList.map (·.k), keyP xs (backK xs k) = k := fun k hk => by
    obtain ⟨s, hs, rfl⟩ := hmem k hk
    rw [back_key xs s (hcan s hs)]
  refine ⟨rfl, sortW_below _ _ _ _ _ _ _ hB (by omega), (d'.toList.map (·.k)).map (backK xs), ?_, ?_, ?_⟩
  · have h1 := hpk.map (backK xs)
    have h2 : (ps.map (keyP xs)).map (backK xs) = ps := by
      rw [List.map_map]
      exact (List.map_congr_left (g := id) (fun s hs => back_key xs s (hcan s hs))).trans (List.map_id _)
    rw [h2] at h1
    exact h1
  · unfold srt
    rw [List.pairwise_map, List.pairwise_map]
    refine List.Pairwise.imp_of_mem ?_ (sortedIn_pair hs (by omega))
    intro a b ha hb hab
    unfold ltOf cfK at hab
    rw [decide_eq_false_iff_not] at hab
    have e1 := hback a.k (List.mem_map.2 ⟨a, ha, rfl⟩)
    have e2 := hback b.k (List.mem_map.2 ⟨b, hb, rfl⟩)
    unfold ordP
    rw [e1, e2]
    have := ordK_neg ig a.k b.k
    omega
  · intro j q hq
    rw [List.getElem?_map, List.getElem?_map, Array.getElem?_toList] at hq
    cases hx : d'[j]? with
    | none => rw [hx] at hq; cases hq
    | some x =>
      rw [hx] at hq
      obtain rfl := Option.some.inj hq
      have hj := (Array.getElem?_eq_some_iff.1 hx).1
      have hxm : x.k ∈ d'.toList.map (·.k) := List.mem_map.2 ⟨x, by rw [Array.mem_toList_iff]; exact Array.mem_of_getElem? hx, rfl⟩
      refine ⟨x.v, ?_, ?_⟩
      · have hH2 : Sort.Holds encK (sortWorld encK w g 0 m d' os) g 0 d' := by
          unfold sortWorld
          refine Sort.holds_grow encK _ os g 0 d' ?_ (Sort.holds_putRow encK _ g 0 d d' (Sort.holds_ahead encK w m g 0 d hH) hsz)
          have := sortW_size encK w g 0 m d' #[]
          unfold sortWorld at this
          rw [Sort.grow_empty] at this
          omega
        have h2 := (hH2 j hj).1
        rw [Nat.zero_add, getElem!_pos d' j hj] at h2
        rw [Array.getElem?_eq_getElem hj] at hx
        obtain rfl := Option.some.inj hx
        exact h2
      · show HasK _ x.v (keyP xs (backK xs x.k))
        rw [hback x.k hxm]
        exact ((x.at_.below hw).kept (sortW_size _ _ _ _ _ _ _) (fun b hb hne => sortW_blk _ _ _ _ _ _ _ b hb hne)).has
end
section
set_option linter.unusedVariables false
open Go.RowKit Go.Shelf

/-- The phrases in order and a code come back; the row is new. -/
def SPOut (xs ls : List ByteArray) (ig : List Int) (code : Int) (w : World) (e : Ending) (w' : World) : Prop :=
  ∃ A n c l, e = .returned (.tuple #[.slice A n c, .int .i64 code]) ∧ w'.ownsRow w.heap.size 9 1 (.slice A n c) n (strV l) ∧ Below w.heap.size w w' ∧ (code = 0 → l.Perm ls ∧ srt (ordP xs ig) l) ∧ (code ≠ 0 → l = [])
theorem hasK_below {w w' : World} {v : Value} {k : List Int} (h : HasK w v k) (hb : Below w.heap.size w w') : HasK w' v k := by
  obtain ⟨b, c, h1, h2, h3⟩ := h
  exact ⟨b, c, h1, Nat.lt_of_lt_of_le h2 hb.size, fun j x hx => (hb.cell (p := ⟨b, j, none⟩) h2).trans (h3 j x hx)⟩

set_option maxHeartbeats 4000000 in
set_option maxRecDepth 100000 in
theorem tSP_impl (A A1 A2 : Option Addr) (n n1 n2 c c1 c2 : Nat) (xs ls : List ByteArray) (ig : List Int) (w : World) (hbig : n ≤ 1048576) (hs : ∀ x ∈ xs, x.size ≤ maxLen) (h : TextAt w w.heap.size A n xs) (h1 : SrcT w A1 n1 c1 ls) (hb1 : n1 ≤ 1048576) (hs1 : ∀ x ∈ ls, x.size ≤ 1048576) (h2 : NumAt w w.heap.size A2 n2 ig) (hb2 : n2 ≤ maxLen) (hsh : w.ShapedOpen Tryd.prog) :
    Calls Tryd.prog 28 #[.slice A n c, .slice A1 n1 c1, .slice A2 n2 c2] w (SPOut xs ls ig (codeK xs ls ig ls.length) w) := by
  obtain ⟨i0, hi0, hz0, hz1, hz2⟩ := info_parts info_str
  have CK := Lib.hid (cKeysOf A A1 A2 none n n1 n2 0 c c1 c2 0 xs ls [] ig w hbig hs h h1 hb1 hs1 h2 hb2 (.inl ⟨rfl, rfl, rfl, rfl⟩) (by omega) (by simp) hsh)
  rw [List.append_nil] at CK
  have hcl : codeK xs ls ig n1 = codeK xs ls ig ls.length := by rw [h1.len]
  have hll : ls.length ≤ 1048576 := by rw [← h1.len]; exact hb1
  have HT := Lib.hid h
  have H2 := Lib.hid h2
  have HCL := Lib.hid hcl
  have HS1 := Lib.hid hs1
  unfold SPOut
  clear h h1 h2 hs hsh hs1 hcl
  go_enter Tryd.func28, Tryd.ntmps28
  go_wp2_with fail
  refine CK.out.mono ?_
  rintro e w1 (⟨h1, rfl, hb1⟩ | ⟨h1, g, vs, rfl, hown, hg1, hg2, hks, hb1⟩)
  · have hd : (codeK xs ls ig n1 != 0) = true := by simp [h1]
    have HN : Hid (codeK xs ls ig ls.length ≠ 0) := Lib.hid (by rw [← HCL.out]; exact h1)
    clear h1 CK
    go_wp2_with fail
    go_ret2
    exact ⟨none, 0, 0, [], by rw [← HCL.out]; rfl, World.ownsRow_nil _ _ _ _, hb1, fun h => absurd h HN.out, fun _ => rfl⟩
  · rw [HCL.out] at h1
    have hz := codeK_zero h1
    have H0 := Lib.hid h1
    have hlx := (alpha_len xs hz.1).2
    have hall : ∀ y ∈ ls, canP xs y = true := by have := hz.2.2.2.1; rw [List.all_eq_true] at this; exact this
    have CW := Lib.hid (cOrderW A2 n2 c2 ig w1 hb2 (ig_40 hz.2.2.1 hlx) ((H2.out.below hb1 (Nat.le_refl _)).more hb1.size))
    have CS : Hid (∀ W gF gI, Below w1.heap.size w1 W → FnAt W gF gI → IgAt W gI ig → w1.heap.size ≤ gF → w1.heap.size ≤ gI → Calls Tryd.prog 57 #[.slice (some ⟨g, 0, none⟩) ls.length ls.length, .func (.func 77) #[] #[.pointer (some ⟨gF, 0, none⟩)]] W
      fun e w' => e = .returned (.tuple #[]) ∧ Below w.heap.size W w' ∧ ∃ qs : List ByteArray, qs.Perm ls ∧ srt (ordP xs ig) qs ∧ ∀ (j : Nat) q, qs[j]? = some q → ∃ v, w'.cell? ⟨g, j, none⟩ = some v ∧ HasK w' v (keyP xs q)) := Lib.hid (fun W gF gI hW hF hI hgF hgI =>
        cSortFK xs ls ig vs w.heap.size g gF gI ls.length w1 W hW hg2 hg1 (fun j v hv => ⟨(hown.cellAt j (by have := hown.1; have := (List.getElem?_eq_some_iff.1 hv).1; omega)).trans hv, hown.frozenAt j⟩) hks (keys_good hlx hz.2.1 hz.2.2.2.1) hll hall hF hI hgF hgI)
    have HPH : Hid (∀ y ∈ ls, phraseB y = true ∧ canP xs y = true) := Lib.hid (fun y hy => ⟨phrasesB_mem ls hz.2.1 y hy, hall y hy⟩)
    obtain ⟨N, hN⟩ : ∃ N, N = ls.length := ⟨_, rfl⟩
    rw [← hN] at hll CS ⊢
    have HN := Lib.hid hN
    have HB1 := Lib.hid hb1
    clear h1 CK hz hks hown hall hN
    go_wp2_with fail
    refine CW.out.mono ?_
    rintro e w2 ⟨gF, gI, rfl, hF, hI, hgI, hgF, hb3⟩
    have CS2 := Lib.hid (CS.out w2 gF gI hb3 hF hI hgF hgI)
    clear hF hI CS CW
    go_wp2_with fail
    refine CS2.out.mono ?_
    rintro e w3 ⟨rfl, hb4, qs, hqp, hqs, hqk⟩
    have hw3 : Below w.heap.size w w3 := (HB1.out.trans (hb3.mono HB1.out.size)).trans hb4
    have hg3 : g < w3.heap.size := Nat.lt_of_lt_of_le hg2 (Nat.le_trans hb3.size hb4.size)
    have HW3 := Lib.hid hw3
    have HQ := Lib.hid (And.intro hqp hqs)
    have HQK := Lib.hid hqk
    have HQL : Hid (N = qs.length) := Lib.hid (by rw [hqp.length_eq]; exact HN.out)
    have HQM : Hid (∀ y ∈ qs, y ∈ ls) := Lib.hid (fun y hy => (hqp.mem_iff).1 hy)
    clear hqp hqs hqk CS2 hb4 hw3
    go_wp2_with (at_make; refine wpList_make_full _ rfl _ _ 24 rfl w3.heap.size 9 i0 _ 1 Tryd.underlying24 hi0 hz0 hz1 _ _ _ _ N rfl rfl (by simp) (by simp) ?b2 ?b3 (Nat.le_refl _) ?_)
    case b2 => rw [hz2]; omega
    case b3 => unfold maxLen; omega
    intro w4 hown4 hgrow4
    rw [copyV_zero qs] at hown4
    have hb5 : Below w3.heap.size w3 w4 := (Below.refl _ _).grown hgrow4 (Nat.le_refl _) (fun k h => by cases h)
    clear hgrow4
    go_wp2_with fail
    go_loopw [32] (fun i wr => ∃ k : Nat, k ≤ N ∧ i = .int .i64 k ∧ wr.ownsRow w3.heap.size 9 1 (.slice (some ⟨w3.heap.size, 0, none⟩) N N) N (copyV qs N k) ∧ Below w3.heap.size w3 wr) (fun i _ => N - (intOf i).toNat)
    case atStart => exact ⟨0, Nat.zero_le _, rfl, hown4, hb5⟩
    case round =>
      clear hown4 hb5
      obtain ⟨k, hk, rfl, hown, hbw⟩ := hrel
      by_cases hlt : k < N
      · obtain ⟨q, hq⟩ : ∃ q, qs[k]? = some q := ⟨qs[k]'(by have := HQL.out; omega), List.getElem?_eq_getElem _⟩
        obtain ⟨v, hcv, hkv⟩ := HQK.out k q hq
        have hqm := HQM.out q (List.mem_of_getElem? hq)
        have cv := (hbw.cell (p := ⟨g, k, none⟩) hg3).trans hcv
        have CT := Lib.hid (cKeyText A n c xs q v wr hbig hlx (((HT.out.below HW3.out (Nat.le_refl _)).below hbw HW3.out.size).more (Nat.le_trans HW3.out.size hbw.size)) (HPH.out q hqm).1 (HPH.out q hqm).2 (HS1.out q hqm) (hasK_below hkv hbw))
        have HSTEP := Lib.hid (copyV_step qs N k q HQL.out hq)
        have e1 : (0 : Int) ≤ (k : Int) := Int.natCast_nonneg _
        have e2 : (k : Int) < (N : Int) := by omega
        clear hq hkv hqm hcv
        go_wp2_with fail
        refine CT.out.mono ?_
        rintro e w5 ⟨rfl, hb6⟩
        have hown5 := hown.kept (bgr hb6 none) (by simp [Value.ownBlock])
        obtain ⟨v4, c4⟩ : ∃ v, w5.cell? ⟨w3.heap.size, k, none⟩ = some v := by
          have hl : k < (copyV qs N k).length := by have := hown5.1; omega
          exact ⟨_, (hown5.cellAt k (by omega)).trans (List.getElem?_eq_getElem hl)⟩
        have f4 := hown5.frozenAt k
        have hst := (hown5.stored k (.string q)).1
        rw [HSTEP.out] at hst
        have hbw1 : Below w3.heap.size w3 (w5.setCell ⟨w3.heap.size, k, none⟩ (.string q)) := (hbw.trans (hb6.mono hbw.size)).setCell (Nat.le_refl _) _
        clear hown hown5 hb6 CT
        go_wp2_with fail
        go_roundw
        case rel => exact ⟨k + 1, by omega, by go_num, hst, hbw1⟩
        case measure => simp [intOf]; omega
      · obtain rfl : k = N := by omega
        rw [copyV_all qs k HQL.out] at hown
        go_wp2_with fail
        go_ret2
        exact ⟨some ⟨w3.heap.size, 0, none⟩, k, k, qs, by rw [HN.out, H0.out]; first | rfl | done, rowBase hown HW3.out.size, HW3.out.trans (hbw.mono HW3.out.size), fun _ => HQ.out, fun h => absurd (by first | exact H0.out | (rw [HN.out]; exact H0.out)) h⟩
end
section
set_option linter.unusedVariables false
open Go.RowKit

/-- append at a step of a region that draws, nothing asked of the number. -/
theorem step_append_s {P : Program} {w : World} {ops : Array Oper} {o : Oper} {a : Act} {K : Act → World → Prop} {Q : Exit → Act → World → Prop} {E : Prop} (hgd : o.guard = none) (s x : Operand) (t : TypeId)
    (ho : o.op = .call { callee := .builtin .append, args := #[s, x], argTypes := #[t, t] })
    (base : Nat) (e : TypeId) (i : TypeInfo) (z : Value) (size bytes : Nat) (ht : P.underlying t = some (.slice e)) (hi : P.info? e = some i) (hz : i.zero = some z)
    (hsize : i.size = size) (hby : i.bytes = bytes) (hzs : z.cells.size = size) (hsz : 0 < size)
    (v : Value) (n : Nat) (xs : List Value) (hs : a.eval s = v) (hown : w.ownsRow base e size v n xs)
    (ad : Addr) (m c : Nat) (news : List Value) (hx : a.eval x = .slice (some ad) m c) (hl : news.length = m * size) (hnews : ∀ j u, news[j]? = some u → w.cell? (ad.add j) = some u) (h1 : ∀ u ∈ news, u.oneCell' = true)
    (h63 : n + m ≤ maxLen) (hbytes : (n + m) * bytes ≤ 140737488355328) (hbase : base ≤ w.heap.size)
    (h : ∀ v' w', w'.ownsRow base e size v' (n + m) (xs ++ news) → w.grownBy w' v.ownBlock → (v' = .slice none 0 0 ↔ v = .slice none 0 0 ∧ m = 0) → K (a.put o.dst v') w') :
    if Region.wanted o (yielded ops a.tmps) = true then Oper.wp P o a w K Q else E := by
  have hw : Region.wanted o (yielded ops a.tmps) = true := by simp [Region.wanted, hgd]
  rw [if_pos hw]
  exact wp_append_own w s x t ho base e i z size bytes ht hi hz hsize hby hzs hsz v n xs hs hown ad m c news hx hl hnews h1 h63 hbytes hbase h
theorem strV_one (xs : List ByteArray) : ∀ u ∈ strV xs, u.oneCell' = true := fun u hu => by unfold strV at hu; rw [List.mem_map] at hu; obtain ⟨x, _, rfl⟩ := hu; rfl
theorem srow_form {w : World} {b n : Nat} {v : Value} {xs : List Value} (h : w.ownsRow b 9 1 v n xs) (hne : v ≠ .slice none 0 0) : ∃ g c, v = .slice (some ⟨g, 0, none⟩) n c ∧ n ≤ c ∧ b ≤ g ∧ g < w.heap.size := by
  rcases h.2 with ⟨rfl, h0⟩ | ⟨g, cap, cur, rfl, h1, h2, h3, _⟩
  · exact absurd rfl hne
  · exact ⟨_, _, rfl, h3, h1, (Array.getElem?_eq_some_iff.1 h2).1⟩

theorem srt_drop_step (o : ByteArray → ByteArray → Int) (l : List ByteArray) (p : Nat) (x y : ByteArray) (hy : l[p]? = some y) (h : ∀ z ∈ l.drop (p + 1), o x z ≤ 0) (hxy : o x y < 0) : ∀ z ∈ l.drop p, o x z ≤ 0 := by
  intro z hz
  obtain ⟨h1, e1⟩ := List.getElem?_eq_some_iff.1 hy
  rw [List.drop_eq_getElem_cons h1, List.mem_cons] at hz
  rcases hz with rfl | hz
  · rw [e1]; omega
  · exact h z hz
theorem srt_take_step (o : ByteArray → ByteArray → Int) (hneg : ∀ a b, o a b = - o b a) (htr : ∀ a b c, o a b ≤ 0 → o b c ≤ 0 → o a c ≤ 0) (l : List ByteArray) (p : Nat) (x y : ByteArray) (hy : l[p]? = some y) (hs : srt o l) (hxy : ¬ o x y < 0) : ∀ z ∈ l.take (p + 1), o z x ≤ 0 := by
  intro z hz
  obtain ⟨h1, e1⟩ := List.getElem?_eq_some_iff.1 hy
  have hyx : o y x ≤ 0 := by have := hneg y x; omega
  rw [List.take_succ_eq_append_getElem h1, List.mem_append, List.mem_singleton, e1] at hz
  rcases hz with hz | rfl
  · obtain ⟨j, hj, rfl⟩ := List.mem_iff_getElem.1 hz
    rw [List.length_take] at hj
    rw [List.getElem_take]
    have h2 := List.pairwise_iff_getElem.1 hs j p (by omega) h1 (by omega)
    rw [e1] at h2
    exact htr _ _ _ h2 hyx
  · exact hyx

set_option maxHeartbeats 8000000 in
set_option maxRecDepth 100000 in
theorem tSP_spec (A A1 A2 : Option Addr) (n n1 n2 c c1 c2 : Nat) (xs ls : List ByteArray) (ig : List Int) (w : World) (hbig : n ≤ 1048576) (hs : ∀ x ∈ xs, x.size ≤ maxLen) (h : TextAt w w.heap.size A n xs) (h1 : TextAt w w.heap.size A1 n1 ls) (hb1 : n1 ≤ 1048576) (hs1 : ∀ x ∈ ls, x.size ≤ 1048576) (h2 : NumAt w w.heap.size A2 n2 ig) (hb2 : n2 ≤ maxLen) :
    Calls Tryd.prog 27 #[.slice A n c, .slice A1 n1 c1, .slice A2 n2 c2] w (SPOut xs ls ig (codeK xs ls ig ls.length) w) := by
  obtain ⟨i0, hi0, hz0, hz1, hz2⟩ := info_parts info_str
  have CC := Lib.hid (cCode6 A A1 A2 n n1 n2 c c1 c2 xs ls ig w hbig hs h h1 (by omega) hs1 h2 hb2)
  have hcl : codeK xs ls ig n1 = codeK xs ls ig ls.length := by rw [h1.1]
  rw [hcl] at CC
  clear hcl
  unfold SPOut
  by_cases hcode : codeK xs ls ig ls.length = 0
  · have hz := codeK_zero hcode
    have HC0 := Lib.hid hcode
    have hd : (codeK xs ls ig ls.length != 0) = false := by simp [hcode]
    have hlx := (alpha_len xs hz.1).2
    have hall : ∀ y ∈ ls, canP xs y = true := by have := hz.2.2.2.1; rw [List.all_eq_true] at this; exact this
    have CO : Hid (∀ W s t, Below w.heap.size w W → s ∈ ls → t ∈ ls → Calls Tryd.prog 45 #[.slice A n c, .string s, .string t, .slice A2 n2 c2] W fun e w' => e = .returned (.int .i64 (ordP xs ig s t)) ∧ Below W.heap.size W w') := Lib.hid (fun W s t hW hs ht =>
      cComp6 A A2 n n2 c c2 xs s t ig W hz.1 ((h.below hW (Nat.le_refl _)).more hW.size) (hs1 s hs) (hs1 t ht) (phrasesB_mem ls hz.2.1 s hs) (phrasesB_mem ls hz.2.1 t ht) (hall s hs) (hall t ht) ((h2.below hW (Nat.le_refl _)).more hW.size) hb2 (fun i hi => (ig_40 hz.2.2.1 hlx i hi).1))
    have HN := Lib.hid h1.1
    have H1 := Lib.hid h1
    clear h h1 h2 hs hs1 hz hcode hall
    go_enter Tryd.func27, Tryd.ntmps27
    go_wp2_with fail
    refine CC.out.mono ?_
    rintro e w1 ⟨rfl, hbw1⟩
    go_wp2_with fail
    go_loopw [9, 10] (fun u i wr => ∃ (k g cg : Nat) (l : List ByteArray), u = .slice (some ⟨g, 0, none⟩) k cg ∧ k ≤ n1 ∧ i = .int .i64 k ∧ k ≤ cg ∧ g < wr.heap.size ∧ Hid (l.Perm (ls.take k) ∧ srt (ordP xs ig) l) ∧ wr.ownsRow w.heap.size 9 1 (.slice (some ⟨g, 0, none⟩) k cg) k (strV l) ∧ Below w.heap.size w wr) (fun _ i _ => n1 - (intOf i).toNat)
    case atStart => exact ⟨0, w1.heap.size, 0, [], rfl, Nat.zero_le _, rfl, Nat.le_refl _, by simp, Lib.hid ⟨List.Perm.refl _, List.Pairwise.nil⟩, World.ownsRow_lit (e := 9) (base := w.heap.size) (size := 1) w1 #[] 0 hbw1.size (by decide) rfl, hbw1.alloc hbw1.size _⟩
    case round =>
      clear hbw1 CC
      obtain ⟨wo, rfl⟩ : ∃ wo, wo = wr := ⟨_, rfl⟩
      obtain ⟨k, g, cg, l, rfl, hk, rfl, hkc, hg, HPS, hown, hbw⟩ := hrel
      by_cases hlt : k < n1
      · obtain ⟨x, hx⟩ : ∃ x, ls[k]? = some x := ⟨ls[k]'(by have := HN.out; omega), List.getElem?_eq_getElem _⟩
        obtain ⟨b, o, rfl, hbb, hcx0⟩ := H1.out.row hx
        have hcx := (hbw.cell (by exact hbb)).trans hcx0
        have hxm := List.mem_of_getElem? hx
        have hll : l.length = k := by have := hown.1; rw [strV_len] at this; omega
        have HX := Lib.hid hx
        have HLL := Lib.hid hll
        have HOWN := Lib.hid hown
        have HCX := Lib.hid hcx
        have HBW := Lib.hid hbw
        have hbo : b < wo.heap.size := Nat.lt_of_lt_of_le hbb hbw.size
        have CXY : Hid (∀ W y, Below wo.heap.size wo W → y ∈ l → Calls Tryd.prog 45 #[.slice A n c, .string x, .string y, .slice A2 n2 c2] W fun e w' => e = .returned (.int .i64 (ordP xs ig x y)) ∧ Below W.heap.size W w') := Lib.hid (fun W y hW hy => CO.out W x y (HBW.out.trans (hW.mono HBW.out.size)) hxm (List.mem_of_mem_take ((HPS.out.1.mem_iff).1 hy)))
        clear hx hcx hcx0 hown hbw hll
        go_upto_block 2 with (fail)
        go_cut [11] (fun a wx => ∃ q : Nat, q ≤ k ∧ a = .int .i64 q ∧ Hid (∀ y ∈ l.take q, ordP xs ig y x ≤ 0) ∧ Hid (∀ y ∈ l.drop q, ordP xs ig x y ≤ 0) ∧ Below wo.heap.size wo wx)
        case first =>
          go_wp2_with fail
          go_loopw [11] (fun a wx => ∃ q : Nat, q ≤ k ∧ a = .int .i64 q ∧ Hid (∀ y ∈ l.drop q, ordP xs ig x y ≤ 0) ∧ Below wo.heap.size wo wx) (fun a _ => (intOf a).toNat)
          case atStart => exact ⟨k, Nat.le_refl _, rfl, Lib.hid (fun y hy => by rw [List.drop_of_length_le (by have := HLL.out; omega)] at hy; simp at hy), Below.refl _ _⟩
          case round =>
            obtain ⟨q, hq, rfl, HD, hbi⟩ := hrel
            have HBI := Lib.hid hbi
            by_cases hq0 : 0 < q
            · obtain ⟨p, hp⟩ : ∃ p, q = p + 1 := ⟨q - 1, by omega⟩
              obtain ⟨y, hy⟩ : ∃ y, l[p]? = some y := ⟨l[p]'(by have := HLL.out; omega), List.getElem?_eq_getElem _⟩
              have cy := (hbi.cell (p := ⟨g, p, none⟩) hg).trans ((HOWN.out.cellAt p (by omega)).trans (strV_at _ _ _ hy))
              have cx := (hbi.cell (p := ⟨b, o + k, none⟩) hbo).trans HCX.out
              have CC2 := Lib.hid (fun W (hW : Below wo.heap.size wo W) => CXY.out W y hW (List.mem_of_getElem? hy))
              have hst := srt_drop_step (ordP xs ig) l p x y hy (by rw [← hp]; exact HD.out)
              have hsp := srt_take_step (ordP xs ig) (fun a b => ordK_neg ig _ _) (fun a b c => ordK_trans ig _ _ _) l p x y hy HPS.out.2
              rw [← hp] at hsp
              obtain ⟨r, hr⟩ : ∃ r, r = ordP xs ig x y := ⟨_, rfl⟩
              rw [← hr] at CC2 hst hsp
              have HP := Lib.hid hp
              have s1 : IntKind.i64.wrap ((q : Int) - 1) = (p : Int) := by rw [IntKind.wrap_i64]; omega
              have u0 : (0 : Int) < (q : Int) := by omega
              have u1 : (0 : Int) ≤ (p : Int) := Int.natCast_nonneg _
              have u2 : (p : Int) < (k : Int) := by omega
              have u3 : (0 : Int) ≤ (k : Int) := Int.natCast_nonneg _
              have u4 : (k : Int) < (n1 : Int) := by omega
              clear hp hy hr
              by_cases h0 : r < 0
              · have HF := Lib.hid (hst h0)
                clear hst hsp
                go_wp2_with fail
                go_still_tail 14, (by kernel_rfl)
                change wpList _ _ _ _ _ wr.drew
                go_wp2_with fail
                refine (CC2.out _ HBI.out.drew).mono ?_
                rintro e w2 ⟨rfl, hb2⟩
                have hbn : Below wo.heap.size wo w2 := HBI.out.drew.trans (hb2.mono HBI.out.size)
                go_wp2_with fail
                go_roundw
                case rel => exact ⟨p, by have := HP.out; omega, by first | rfl | go_num, HF, hbn⟩
                case measure => have := HP.out; simp [intOf]; omega
              · have HF := Lib.hid (hsp h0)
                clear hst hsp
                go_wp2_with fail
                go_still_tail 14, (by kernel_rfl)
                change wpList _ _ _ _ _ wr.drew
                go_wp2_with fail
                refine (CC2.out _ HBI.out.drew).mono ?_
                rintro e w2 ⟨rfl, hb2⟩
                have hbn : Below wo.heap.size wo w2 := HBI.out.drew.trans (hb2.mono HBI.out.size)
                go_wp2_with fail
                go_meet
                case rel => exact ⟨q, hq, rfl, HF, HD, hbn⟩
            · have HF : Hid (∀ y ∈ l.take q, ordP xs ig y x ≤ 0) := Lib.hid (fun y hy => by rw [show q = 0 by omega] at hy; simp at hy)
              have hn0 : ¬ (0 : Int) < (q : Int) := by omega
              have hd0 : decide ((0 : Int) < (q : Int)) = false := decide_eq_false hn0
              go_wp2_with fail
              go_quiet (fail)
              go_wp2_with fail
              go_meet
              case rel => exact ⟨q, hq, rfl, HF, HD, by first | exact below_drN HBI.out _ | exact HBI.out.drew⟩
        case rest =>
          obtain ⟨q, hq, rfl, HT, HD, hbi⟩ := hcut
          have HBI := Lib.hid hbi
          have hgc : g < wc.heap.size := Nat.lt_of_lt_of_le hg hbi.size
          have hbc : b < wc.heap.size := Nat.lt_of_lt_of_le hbo hbi.size
          have HROW : Hid (∀ (j : Nat) y, l[j]? = some y → wc.cell? ⟨g, j, none⟩ = some (.string y)) := Lib.hid (fun j y hy => (hbi.cell (p := ⟨g, j, none⟩) hg).trans ((HOWN.out.cellAt j (by have := (List.getElem?_eq_some_iff.1 hy).1; have := HLL.out; omega)).trans (strV_at _ _ _ hy)))
          have cx : wc.cell? ⟨b, o + k, none⟩ = some (.string x) := (hbi.cell (p := ⟨b, o + k, none⟩) hbo).trans HCX.out
          have HCC := Lib.hid cx
          have cxa : ∀ ob, (wc.alloc ob).cell? ⟨b, o + k, none⟩ = some (.string x) := fun ob => (World.cell?_alloc_lt wc ob ⟨b, o + k, none⟩ hbc).trans HCC.out
          have HPS2 : Hid ((l.take q ++ [x] ++ l.drop q).Perm (ls.take (k + 1)) ∧ srt (ordP xs ig) (l.take q ++ [x] ++ l.drop q)) := Lib.hid ⟨by
            have h1 := ins_perm l x q
            have h2 := (HPS.out.1.append_right [x])
            have hkl := (List.getElem?_eq_some_iff.1 HX.out).1
            have e := (List.getElem?_eq_some_iff.1 HX.out).2
            rw [List.take_succ_eq_append_getElem hkl, e]
            exact h1.trans h2, srt_insert (ordP xs ig) (fun a b => ordK_neg ig _ _) (fun a b c => ordK_trans ig _ _ _) l x q HPS.out.2 HT.out HD.out⟩
          have BA : Hid (Below wc.heap.size wc ((wc.alloc (.cells #[] 9)).drew)) := Lib.hid ((Below.refl _ _).alloc (Nat.le_refl _) _).drew
          have BC : Hid (Below wc.heap.size wc (((wc.alloc (.cells #[] 9)).drew).alloc (.cells #[.string x] 9))) := Lib.hid (BA.out.alloc BA.out.size _)
          have BF0 : Below wc.heap.size wc ((wc.alloc (.cells #[.string x] 9)).drew) := ((Below.refl _ _).alloc (Nat.le_refl _) _).drew
          have BF : Hid (Below wc.heap.size wc (((wc.alloc (.cells #[.string x] 9)).drew).alloc (.cells #[] 9))) := Lib.hid (BF0.alloc BF0.size _)
          have OA : Hid (((wc.alloc (.cells #[] 9)).drew).ownsRow wc.heap.size 9 1 (.slice (some ⟨wc.heap.size, 0, none⟩) 0 0) 0 (#[] : Array Value).toList) := Lib.hid (World.ownsRow_lit (e := 9) (base := wc.heap.size) (size := 1) wc #[] 0 (Nat.le_refl _) (by decide) rfl)
          have OC : Hid ((((wc.alloc (.cells #[] 9)).drew).alloc (.cells #[.string x] 9)).ownsRow wc.heap.size 9 1 (.slice (some ⟨wc.heap.size, 0, none⟩) 0 0) 0 (#[] : Array Value).toList) := Lib.hid (OA.out.alloc _)
          have hs1 : ((wc.alloc (.cells #[.string x] 9)).drew).heap.size = wc.heap.size + 1 := by simp
          have OF : Hid ((((wc.alloc (.cells #[.string x] 9)).drew).alloc (.cells #[] 9)).ownsRow wc.heap.size 9 1 (.slice (some ⟨wc.heap.size + 1, 0, none⟩) 0 0) 0 (#[] : Array Value).toList) := Lib.hid (by
            have h := World.ownsRow_lit (e := 9) (base := wc.heap.size) (size := 1) ((wc.alloc (.cells #[.string x] 9)).drew) #[] 0 (by omega) (by decide) rfl
            rw [hs1] at h
            exact h)
          have XC : Hid ((((wc.alloc (.cells #[] 9)).drew).alloc (.cells #[.string x] 9)).cell? ⟨wc.heap.size + 1, 0, none⟩ = some (.string x)) := Lib.hid (by
            have h := new_one ((wc.alloc (.cells #[] 9)).drew) (.string x) 9
            have e : ((wc.alloc (.cells #[] 9)).drew).heap.size = wc.heap.size + 1 := by simp
            rw [e] at h
            exact h)
          have XF : Hid ((((wc.alloc (.cells #[.string x] 9)).drew).alloc (.cells #[] 9)).cell? ⟨wc.heap.size, 0, none⟩ = some (.string x)) := Lib.hid ((World.cell?_alloc_lt ((wc.alloc (.cells #[.string x] 9)).drew) _ ⟨wc.heap.size, 0, none⟩ (by show wc.heap.size < _; omega)).trans (new_one wc (.string x) 9))
          have KC : Hid (∀ W, ((((wc.alloc (.cells #[] 9)).drew).alloc (.cells #[.string x] 9))).grownBy W (Value.slice (some ⟨wc.heap.size, 0, none⟩) 0 0).ownBlock → W.cell? ⟨wc.heap.size + 1, 0, none⟩ = some (.string x)) := Lib.hid (fun W hW => hW.cell XC.out (by simp [Value.ownBlock]))
          have KF : Hid (∀ W, ((((wc.alloc (.cells #[.string x] 9)).drew).alloc (.cells #[] 9))).grownBy W (Value.slice (some ⟨wc.heap.size + 1, 0, none⟩) 0 0).ownBlock → W.cell? ⟨wc.heap.size, 0, none⟩ = some (.string x)) := Lib.hid (fun W hW => hW.cell XF.out (by simp [Value.ownBlock]))
          have NT : Hid (∀ W, Below wc.heap.size wc W → ∀ j u, (strV (l.take q))[j]? = some u → W.cell? ((⟨g, 0, none⟩ : Addr).add j) = some u) := Lib.hid (fun W hW j u hu => by
            rw [add_plain', Nat.zero_add]
            unfold strV at hu
            rw [List.getElem?_map] at hu
            cases hy : (l.take q)[j]? with
            | none => rw [hy] at hu; cases hu
            | some y =>
              rw [hy] at hu
              obtain rfl := Option.some.inj hu
              rw [List.getElem?_take] at hy
              split at hy
              · exact (hW.cell (p := ⟨g, j, none⟩) hgc).trans (HROW.out j y hy)
              · cases hy)
          have ND : Hid (∀ W, Below wc.heap.size wc W → ∀ ad, (ad = ⟨g, q, none⟩ ∨ k = q) → ∀ j u, (strV (l.drop q))[j]? = some u → W.cell? ((ad : Addr).add j) = some u) := Lib.hid (fun W hW ad hor j u hu => by
            unfold strV at hu
            rw [List.getElem?_map] at hu
            cases hy : (l.drop q)[j]? with
            | none => rw [hy] at hu; cases hu
            | some y =>
              rw [hy] at hu
              obtain rfl := Option.some.inj hu
              rw [List.getElem?_drop] at hy
              rcases hor with rfl | rfl
              · rw [add_plain']
                exact (hW.cell (p := ⟨g, q + j, none⟩) hgc).trans (HROW.out (q + j) y hy)
              · have := (List.getElem?_eq_some_iff.1 hy).1
                have := HLL.out
                omega)
          have L1 : Hid ((strV (l.take q)).length = q * 1) := Lib.hid (by rw [strV_len, List.length_take]; have := HLL.out; omega)
          have L3 : Hid ((strV (l.drop q)).length = (k - q) * 1) := Lib.hid (by rw [strV_len, List.length_drop]; have := HLL.out; omega)
          have L30 : Hid (cg = q → (strV (l.drop q)).length = 0 * 1) := Lib.hid (fun e => by rw [strV_len, List.length_drop]; have := HLL.out; omega)
          have hn0 : k ≤ 1048576 := by omega
          have P1 : Hid (0 + q ≤ maxLen) := Lib.hid (by unfold maxLen; omega)
          have P2 : Hid ((0 + q) * 16 ≤ 140737488355328) := Lib.hid (by omega)
          have P3 : Hid (0 + q + 1 ≤ maxLen) := Lib.hid (by unfold maxLen; omega)
          have P4 : Hid ((0 + q + 1) * 16 ≤ 140737488355328) := Lib.hid (by omega)
          have P5 : Hid (0 + q + 1 + (k - q) ≤ maxLen) := Lib.hid (by unfold maxLen; omega)
          have P6 : Hid ((0 + q + 1 + (k - q)) * 16 ≤ 140737488355328) := Lib.hid (by omega)
          have hcase : cg = q ∨ ¬ cg = q := by omega
          have HNM : Hid (cg = q → k = q) := Lib.hid (fun h => by omega)
          have u1 : (0 : Int) ≤ (q : Int) := Int.natCast_nonneg _
          have u2 : (q : Int) ≤ (k : Int) := by omega
          have u3 : (q : Int) ≤ (cg : Int) := by omega
          have u4 : (0 : Int) ≤ (k : Int) := Int.natCast_nonneg _
          have u5 : (k : Int) < (n1 : Int) := by omega
          have u6 : q ≤ cg := by omega
          have HQ := Lib.hid hq
          clear hbi BF0 hs1
          rcases hcase with hcc | hcc
          · obtain rfl : q = cg := hcc.symm
            have HKQ : Hid (k = q) := Lib.hid (HNM.out rfl)
            have L31 : Hid ((strV (l.drop q)).length = 0 * 1) := Lib.hid (L30.out rfl)
            clear HNM L30
            go_wp2_with fail
            go_region_law (first
              | ((refine step_append_s rfl (.tmp 47) (.tmp 50) 24 rfl wc.heap.size 9 i0 _ 1 16 Tryd.underlying24 hi0 hz0 hz1 hz2 rfl (by decide) _ 0 _ rfl (by first | exact OA.out | exact OC.out | exact OF.out) ⟨g, 0, none⟩ q _ _ rfl L1.out (by first | exact NT.out _ BA.out | exact NT.out _ BC.out | exact NT.out _ BF.out) (strV_one _) P1.out P2.out (by first | exact BA.out.size | exact BC.out.size | exact BF.out.size) ?_); intro v5 w5 hown5 hgrow5 hnil5; have hb5 : Below wc.heap.size wc w5 := (by first | exact BA.out.grown hgrow5 BA.out.size (fun j hj => (OA.out.lt j hj).1) | exact BC.out.grown hgrow5 BC.out.size (fun j hj => (OC.out.lt j hj).1) | exact BF.out.grown hgrow5 BF.out.size (fun j hj => (OF.out.lt j hj).1)); have cx5 : w5.cell? ⟨b, o + k, none⟩ = some (.string x) := (hb5.cell (p := ⟨b, o + k, none⟩) hbc).trans HCC.out)
              | ((refine step_append_s rfl (.tmp 51) (.tmp 56) 24 rfl wc.heap.size 9 i0 _ 1 16 Tryd.underlying24 hi0 hz0 hz1 hz2 rfl (by decide) _ _ _ rfl (by first | exact hown5 | exact hown5.alloc _) _ 1 1 [.string x] rfl rfl (by first | exact one_cell' _ _ _ (new_one w5 _ _) | exact one_cell' _ _ _ (KC.out w5 hgrow5) | exact one_cell' _ _ _ (KF.out w5 hgrow5)) (by simp [Value.oneCell']) P3.out P4.out (by first | exact hb5.size | exact (hb5.alloc hb5.size _).size) ?_); intro v6 w6 hown6 hgrow6 hnil6; have hb6 : Below wc.heap.size wc w6 := (by first | exact hb5.grown hgrow6 hb5.size (fun j hj => (hown5.lt j hj).1) | exact (hb5.alloc hb5.size _).grown hgrow6 (hb5.alloc hb5.size _).size (fun j hj => (hown5.lt j hj).1)))
              | ((refine step_append_s rfl (.tmp 57) (.tmp 60) 24 rfl wc.heap.size 9 i0 _ 1 16 Tryd.underlying24 hi0 hz0 hz1 hz2 rfl (by decide) _ _ _ rfl hown6 _ _ _ (strV (l.drop q)) rfl (by first | exact L3.out | exact L31.out) (ND.out _ hb6 _ (.inr HKQ.out)) (strV_one _) (by first | exact P5.out | exact P3.out) (by first | exact P6.out | exact P4.out) hb6.size ?_); intro v7 w7 hown7 hgrow7 hnil7; have hb7 : Below wc.heap.size wc w7 := hb6.grown hgrow7 hb6.size (fun j hj => (hown6.lt j hj).1)))
            all_goals
              have hne7 : v7 ≠ .slice none 0 0 := fun h => by
                have h6 := (hnil7.1 h).1
                have h5 := (hnil6.1 h6).1
                have h4 := (hnil5.1 h5).1
                cases h4
              have hown8 : w7.ownsRow wc.heap.size 9 1 v7 (k + 1) (strV (l.take q ++ [x] ++ l.drop q)) := by
                have e : 0 + q + 1 + (k - q) = k + 1 := by have := HQ.out; omega
                have e' : 0 + q + 1 + 0 = k + 1 := by have := HKQ.out; omega
                have e2 : strV (l.take q ++ [x] ++ l.drop q) = (#[] : Array Value).toList ++ strV (l.take q) ++ [.string x] ++ strV (l.drop q) := by simp [strV]
                rw [e2]
                first
                  | (rw [← e]; exact hown7)
                  | (rw [← e']; exact hown7)
              obtain ⟨g', c', rfl, hgc1, hgc2, hgc3⟩ := srow_form hown8 hne7
              have HO8 := Lib.hid (rowBase hown8 (Nat.le_trans HBW.out.size HBI.out.size))
              have HB8 := Lib.hid (HBW.out.trans ((HBI.out.trans (hb7.mono HBI.out.size)).mono HBW.out.size))
              have HG8 := Lib.hid hgc3
              clear hown8 hown7 hown6 hown5 hgrow5 hgrow6 hgrow7 hnil5 hnil6 hnil7 hb5 hb6 hb7 cx5 cxa hne7
              go_wp2_with fail
              go_roundw
              case rel => exact ⟨k + 1, g', c', l.take q ++ [x] ++ l.drop q, rfl, by omega, by go_num, hgc1, HG8.out, HPS2, HO8.out, HB8.out⟩
              case measure => simp [intOf]; omega
          · go_wp2_with fail
            go_region_law (first
              | ((refine step_append_s rfl (.tmp 47) (.tmp 50) 24 rfl wc.heap.size 9 i0 _ 1 16 Tryd.underlying24 hi0 hz0 hz1 hz2 rfl (by decide) _ 0 _ rfl (by first | exact OA.out | exact OC.out | exact OF.out) ⟨g, 0, none⟩ q _ _ rfl L1.out (by first | exact NT.out _ BA.out | exact NT.out _ BC.out | exact NT.out _ BF.out) (strV_one _) P1.out P2.out (by first | exact BA.out.size | exact BC.out.size | exact BF.out.size) ?_); intro v5 w5 hown5 hgrow5 hnil5; have hb5 : Below wc.heap.size wc w5 := (by first | exact BA.out.grown hgrow5 BA.out.size (fun j hj => (OA.out.lt j hj).1) | exact BC.out.grown hgrow5 BC.out.size (fun j hj => (OC.out.lt j hj).1) | exact BF.out.grown hgrow5 BF.out.size (fun j hj => (OF.out.lt j hj).1)); have cx5 : w5.cell? ⟨b, o + k, none⟩ = some (.string x) := (hb5.cell (p := ⟨b, o + k, none⟩) hbc).trans HCC.out)
              | ((refine step_append_s rfl (.tmp 51) (.tmp 56) 24 rfl wc.heap.size 9 i0 _ 1 16 Tryd.underlying24 hi0 hz0 hz1 hz2 rfl (by decide) _ _ _ rfl (by first | exact hown5 | exact hown5.alloc _) _ 1 1 [.string x] rfl rfl (by first | exact one_cell' _ _ _ (new_one w5 _ _) | exact one_cell' _ _ _ (KC.out w5 hgrow5) | exact one_cell' _ _ _ (KF.out w5 hgrow5)) (by simp [Value.oneCell']) P3.out P4.out (by first | exact hb5.size | exact (hb5.alloc hb5.size _).size) ?_); intro v6 w6 hown6 hgrow6 hnil6; have hb6 : Below wc.heap.size wc w6 := (by first | exact hb5.grown hgrow6 hb5.size (fun j hj => (hown5.lt j hj).1) | exact (hb5.alloc hb5.size _).grown hgrow6 (hb5.alloc hb5.size _).size (fun j hj => (hown5.lt j hj).1)))
              | ((refine step_append_s rfl (.tmp 57) (.tmp 60) 24 rfl wc.heap.size 9 i0 _ 1 16 Tryd.underlying24 hi0 hz0 hz1 hz2 rfl (by decide) _ _ _ rfl hown6 _ (k - q) _ _ rfl L3.out (ND.out _ hb6 _ (.inl rfl)) (strV_one _) P5.out P6.out hb6.size ?_); intro v7 w7 hown7 hgrow7 hnil7; have hb7 : Below wc.heap.size wc w7 := hb6.grown hgrow7 hb6.size (fun j hj => (hown6.lt j hj).1)))
            all_goals
              have hne7 : v7 ≠ .slice none 0 0 := fun h => by
                have h6 := (hnil7.1 h).1
                have h5 := (hnil6.1 h6).1
                have h4 := (hnil5.1 h5).1
                cases h4
              have hown8 : w7.ownsRow wc.heap.size 9 1 v7 (k + 1) (strV (l.take q ++ [x] ++ l.drop q)) := by
                have e : 0 + q + 1 + (k - q) = k + 1 := by have := HQ.out; omega
                have e2 : strV (l.take q ++ [x] ++ l.drop q) = (#[] : Array Value).toList ++ strV (l.take q) ++ [.string x] ++ strV (l.drop q) := by simp [strV]
                rw [e2, ← e]; exact hown7
              obtain ⟨g', c', rfl, hgc1, hgc2, hgc3⟩ := srow_form hown8 hne7
              have HO8 := Lib.hid (rowBase hown8 (Nat.le_trans HBW.out.size HBI.out.size))
              have HB8 := Lib.hid (HBW.out.trans ((HBI.out.trans (hb7.mono HBI.out.size)).mono HBW.out.size))
              have HG8 := Lib.hid hgc3
              clear hown8 hown7 hown6 hown5 hgrow5 hgrow6 hgrow7 hnil5 hnil6 hnil7 hb5 hb6 hb7 cx5 cxa hne7
              go_wp2_with fail
              go_roundw
              case rel => exact ⟨k + 1, g', c', l.take q ++ [x] ++ l.drop q, rfl, by omega, by go_num, hgc1, HG8.out, HPS2, HO8.out, HB8.out⟩
              case measure => simp [intOf]; omega
      · obtain rfl : k = n1 := by omega
        have hps := HPS.out
        rw [List.take_of_length_le (by have := HN.out; omega)] at hps
        have HR := Lib.hid hps
        clear hps
        go_wp2_with fail
        go_ret2
        exact ⟨some ⟨g, 0, none⟩, k, cg, l, by rw [HC0.out]; first | rfl | done, hown, hbw, fun _ => HR.out, fun h => absurd HC0.out h⟩
  · have hd : (codeK xs ls ig ls.length != 0) = true := by simp [hcode]
    have HC := Lib.hid hcode
    clear h h1 h2 hs hs1 hcode
    go_enter Tryd.func27, Tryd.ntmps27
    go_wp2_with fail
    refine CC.out.mono ?_
    rintro e w1 ⟨rfl, hbw1⟩
    go_wp2_with fail
    go_ret2
    exact ⟨none, 0, 0, [], rfl, World.ownsRow_nil _ _ _ _, hbw1, fun h => absurd h HC.out, fun _ => rfl⟩
end
section
set_option linter.unusedVariables false
open Go.RowKit

/-- Two answers are one. -/
theorem sp_same (xs ls : List ByteArray) (ig : List Int) (a b : List ByteArray) (ha : (codeK xs ls ig ls.length = 0 → a.Perm ls ∧ srt (ordP xs ig) a) ∧ (codeK xs ls ig ls.length ≠ 0 → a = [])) (hb : (codeK xs ls ig ls.length = 0 → b.Perm ls ∧ srt (ordP xs ig) b) ∧ (codeK xs ls ig ls.length ≠ 0 → b = [])) : a = b := by
  by_cases h : codeK xs ls ig ls.length = 0
  · have hz := codeK_zero h
    have hall : ∀ y ∈ ls, canP xs y = true := by have := hz.2.2.2.1; rw [List.all_eq_true] at this; exact this
    obtain ⟨a1, a2⟩ := ha.1 h
    obtain ⟨b1, b2⟩ := hb.1 h
    refine srt_unique (ordP xs ig) (fun x y => ordK_neg ig _ _) a b (fun x hx y hy he => ?_) (a1.trans b1.symm) a2 b2
    exact key_inj xs x y (hall x ((a1.mem_iff).1 hx)) (hall y ((a1.mem_iff).1 hy)) (ordK_zero ig _ _ he)
  · rw [ha.2 h, hb.2 h]
theorem sp_len (xs ls : List ByteArray) (ig : List Int) (a : List ByteArray) (ha : (codeK xs ls ig ls.length = 0 → a.Perm ls ∧ srt (ordP xs ig) a) ∧ (codeK xs ls ig ls.length ≠ 0 → a = [])) : a.length ≤ ls.length := by
  by_cases h : codeK xs ls ig ls.length = 0
  · rw [(ha.1 h).1.length_eq]; exact Nat.le_refl _
  · rw [ha.2 h]; exact Nat.zero_le _

set_option maxHeartbeats 8000000 in
theorem wSortP (a : Option Addr) (n cap : Nat) (zs : List ByteArray) (a1 : Option Addr) (n1 cap1 : Nat) (z1 : List ByteArray) (a2 : Option Addr) (n2 cap2 : Nat) (z2 : List Int) (w : World) (h : IsStrs w a n cap zs) (h1 : IsStrs w a1 n1 cap1 z1) (h2 : IsInts .i64 w a2 n2 cap2 z2) (hsh : w.ShapedOpen Tryd.prog) :
    Calls Tryd.prog 6 #[.slice a n cap, .slice a1 n1 cap1, .slice a2 n2 cap2] w fun e w' => e = .returned (.bool true) ∧ Below w.heap.size w w' := by
  obtain ⟨hm, hs, ht⟩ := textAt_arg h
  obtain ⟨hm1, hs1, ht1⟩ := textAt_arg h1
  obtain ⟨hm2, ht2⟩ := numAt_arg h2
  clear h h1 h2
  obtain ⟨xs, hxs⟩ : ∃ xs, xs = zs.take n := ⟨_, rfl⟩
  rw [← hxs] at hs ht
  obtain ⟨ls, hls⟩ : ∃ ls, ls = z1.take n1 := ⟨_, rfl⟩
  rw [← hls] at hs1 ht1
  obtain ⟨ig, hig⟩ : ∃ ig, ig = z2.take n2 := ⟨_, rfl⟩
  rw [← hig] at ht2
  clear hxs hls hig
  have HS := Lib.hid hs
  have HT := Lib.hid ht
  have HT1 := Lib.hid ht1
  have HT2 := Lib.hid ht2
  have HSH := Lib.hid hsh
  have S1 := Lib.hid (tSz a n cap _ xs w hm hs ht)
  have S2 : Hid (∀ r : Int, 0 ≤ r → r ≤ 1048576 → Calls Tryd.prog 22 #[.slice a1 n1 cap1, .int .i64 r] w (SomeR (SmallS n1 ls) w)) := Lib.hid (fun r h0 h1 => tSz2 a1 n1 cap1 _ ls r h0 h1 w hm1 hs1 ht1)
  clear hs ht hs1 ht1 ht2 hsh
  unfold maxLen at hm hm1 hm2
  by_cases hbig : 1048576 < n2
  · go_enter Tryd.func6, Tryd.ntmps6
    go_wp2_with fail
    go_ret
    exact ⟨rfl, Below.refl _ _⟩
  have hn2 : n2 ≤ 1048576 := by omega
  obtain ⟨c, hc⟩ : ∃ c, c = codeK xs ls ig ls.length := ⟨_, rfl⟩
  have SAME := Lib.hid (sp_same xs ls ig)
  have SLEN := Lib.hid (sp_len xs ls ig)
  have CS : Hid (∀ (A A1 A2 : Option Addr) (c c1 c2 : Nat) W, n ≤ 1048576 → n1 ≤ 1048576 → (∀ x ∈ ls, x.size ≤ 1048576) → TextAt W W.heap.size A n xs → TextAt W W.heap.size A1 n1 ls → NumAt W W.heap.size A2 n2 ig → Calls Tryd.prog 27 #[.slice A n c, .slice A1 n1 c1, .slice A2 n2 c2] W (SPOut xs ls ig (codeK xs ls ig ls.length) W)) := Lib.hid (fun A A1 A2 c c1 c2 W h1 h2 h3 h4 h5 h6 => tSP_spec A A1 A2 n n1 n2 c c1 c2 xs ls ig W h1 HS.out h4 h5 h2 h3 h6 (by unfold maxLen; omega))
  have CI : Hid (∀ (A A1 A2 : Option Addr) (c c1 c2 : Nat) W, n ≤ 1048576 → n1 ≤ 1048576 → (∀ x ∈ ls, x.size ≤ 1048576) → TextAt W W.heap.size A n xs → SrcT W A1 n1 c1 ls → NumAt W W.heap.size A2 n2 ig → W.ShapedOpen Tryd.prog → Calls Tryd.prog 28 #[.slice A n c, .slice A1 n1 c1, .slice A2 n2 c2] W (SPOut xs ls ig (codeK xs ls ig ls.length) W)) := Lib.hid (fun A A1 A2 c c1 c2 W h1 h2 h3 h4 h5 h6 h7 => tSP_impl A A1 A2 n n1 n2 c c1 c2 xs ls ig W h1 HS.out h4 h5 h2 h3 h6 (by unfold maxLen; omega) h7)
  rw [← hc] at CS CI SAME SLEN
  have HN1 : Hid (ls.length = n1) := Lib.hid (HT1.out.1.symm)
  clear hc
  have hd2 : (c != c) = false := by simp
  go_enter Tryd.func6, Tryd.ntmps6
  go_wp2_with fail
  refine S1.out.mono ?_
  rintro e w' ⟨r, hr, rfl, rfl⟩
  by_cases hr0 : r < 0
  · have hr1 := hr.1
    clear hr
    go_wp2_with fail
    go_ret
    exact ⟨rfl, Below.refl _ _⟩
  obtain ⟨hn1, hs1⟩ : n ≤ 1048576 ∧ ∀ x ∈ xs, x.size ≤ 1048576 := by
    rcases hr.2 with h | h
    · omega
    · exact h
  have hr1 := hr.1
  have hr2 : 0 ≤ r := by omega
  clear hs1 hr
  go_wp2_with fail
  refine (S2.out r hr2 hr1).mono ?_
  rintro e w' ⟨q, hq, rfl, rfl⟩
  by_cases hq0 : q < 0
  · have hq1 := hq.1
    clear hq
    go_wp2_with fail
    go_ret
    exact ⟨rfl, Below.refl _ _⟩
  obtain ⟨hl1, hls1⟩ : n1 ≤ 1048576 ∧ ∀ x ∈ ls, x.size ≤ 1048576 := by
    rcases hq.2 with h | h
    · omega
    · exact h
  have hq1 := hq.1
  have hq2 : 0 ≤ q := by omega
  have HLS := Lib.hid hls1
  clear hls1 hq
  -- the reference
  go_wp2_with fail
  refine (tToS2 a n cap xs w hn1 HT.out).mono ?_
  rintro e w1 ⟨rfl, T1, B1⟩
  have K1 := Lib.hid T1; clear T1
  go_wp2_with fail
  refine (tToS2 a1 n1 cap1 ls w1 hl1 ((HT1.out.below B1 (Nat.le_refl _)).more B1.size)).mono ?_
  rintro e w2 ⟨rfl, T2, B2⟩
  have K2 := Lib.hid T2; clear T2
  have C2 := B1.trans (B2.mono B1.size)
  go_wp2_with fail
  refine (tToI a2 n2 cap2 ig w2 hn2 ((HT2.out.below C2 (Nat.le_refl _)).more C2.size)).mono ?_
  rintro e w3 ⟨rfl, T3, B3⟩
  have K3 := Lib.hid T3; clear T3
  have C3 := C2.trans (B3.mono C2.size)
  have CS2 := Lib.hid (CS.out _ _ _ n n1 n2 w3 hn1 hl1 HLS.out ((K1.out.below B2).below B3).at (K2.out.below B3).at K3.out)
  clear CS
  go_wp2_with fail
  refine CS2.out.mono ?_
  rintro e w4 ⟨A0, n0, c0, l0, rfl, own0, B4, p0, q0⟩
  have C4 := C3.trans (B4.mono C3.size)
  have R0 := Lib.hid (RowS.of own0)
  have L0 := Lib.hid (fun x (hx : (Value.slice A0 n0 c0).ownBlock = some x) => (own0.lt x hx).2)
  have N0 : Hid (n0 = l0.length) := Lib.hid (by have := own0.1; rw [strV_len] at this; omega)
  have P0 := Lib.hid (And.intro p0 q0)
  have hnb : n0 ≤ 1048576 := by have := SLEN.out l0 P0.out; have := HN1.out; have := N0.out; omega
  clear own0 CS2 p0 q0
  -- the program
  go_wp2_with fail
  refine (qToS a n cap xs w4 hn1 ((HT.out.below C4 (Nat.le_refl _)).more C4.size)).mono ?_
  rintro e w5 ⟨rfl, T5, O5, s5, B5⟩
  have K5 := Lib.hid T5
  have OW5 := Lib.hid O5
  clear T5 O5
  have C5 := C4.trans (B5.mono C4.size)
  go_wp2_with fail
  refine (qToS a1 n1 cap1 ls w5 hl1 ((HT1.out.below C5 (Nat.le_refl _)).more C5.size)).mono ?_
  rintro e w6 ⟨rfl, T6, O6, s6, B6⟩
  have K6 := Lib.hid T6
  have OW6 := Lib.hid O6
  clear T6 O6
  have C6 := C5.trans (B6.mono C5.size)
  go_wp2_with fail
  refine (qToI a2 n2 cap2 ig w6 hn2 ((HT2.out.below C6 (Nat.le_refl _)).more C6.size)).mono ?_
  rintro e w7 ⟨rfl, T7, O7, B7⟩
  have K7 := Lib.hid T7
  have OW7 := Lib.hid O7
  clear T7 O7
  have C7 := C6.trans (B7.mono C6.size)
  have CI2 := Lib.hid (CI.out _ _ _ n n1 n2 w7 hn1 hl1 HLS.out ((K5.out.below B6).below B7).at (K6.out.below B7) K7.out (shaped_below HSH.out C7))
  go_wp2_with fail
  refine CI2.out.mono ?_
  rintro e w8 ⟨A1, m1, c1, l1, rfl, own1, B8, p1, q1⟩
  have C8 := C7.trans (B8.mono C7.size)
  obtain rfl : l1 = l0 := SAME.out l1 l0 ⟨p1, q1⟩ P0.out
  have R1 := Lib.hid (RowS.of own1)
  have L1 := Lib.hid (fun x (hx : (Value.slice A1 m1 c1).ownBlock = some x) => (own1.lt x hx).1)
  obtain rfl : m1 = n0 := by rw [N0.out]; have := own1.1; rw [strV_len] at this; omega
  clear own1 CI2 p1 q1
  have R0a := Lib.hid ((((R0.out.below B5).below B6).below B7).below B8)
  have HQ := Lib.hid (rEqS A1 A0 c1 c0 m1 l1 w8 hnb R1.out R0a.out)
  go_wp2_with fail
  refine HQ.out.mono ?_
  rintro e w9 ⟨rfl, B9⟩
  have C9 := C8.trans (B9.mono C8.size)
  -- the arguments are as they were
  go_wp2_with fail
  refine (tToS2 a n cap xs w9 hn1 ((HT.out.below C9 (Nat.le_refl _)).more C9.size)).mono ?_
  rintro e w10 ⟨rfl, T10, B10⟩
  have K10 := Lib.hid T10; clear T10
  have C10 := C9.trans (B10.mono C9.size)
  have E5 := Lib.hid (((((K5.out.below B6).below B7).below B8).below B9).below B10).at
  go_wp2_with fail
  refine (qEqS w4.heap.size n w9.heap.size n n _ _ xs w10 hn1 E5.out K10.out.at).mono ?_
  rintro e w11 ⟨rfl, B11⟩
  have C11 := C10.trans (B11.mono C10.size)
  go_wp2_with fail
  refine (tToS2 a1 n1 cap1 ls w11 hl1 ((HT1.out.below C11 (Nat.le_refl _)).more C11.size)).mono ?_
  rintro e w12 ⟨rfl, T12, B12⟩
  have K12 := Lib.hid T12; clear T12
  have C12 := C11.trans (B12.mono C11.size)
  have E6 := Lib.hid ((((((K6.out.below B7).below B8).below B9).below B10).below B11).below B12).at
  go_wp2_with fail
  refine (qEqS w5.heap.size n1 w11.heap.size n1 n1 _ _ ls w12 hl1 E6.out K12.out.at).mono ?_
  rintro e w13 ⟨rfl, B13⟩
  have C13 := C12.trans (B13.mono C12.size)
  go_wp2_with fail
  refine (tToI a2 n2 cap2 ig w13 hn2 ((HT2.out.below C13 (Nat.le_refl _)).more C13.size)).mono ?_
  rintro e w14 ⟨rfl, T14, B14⟩
  have K14 := Lib.hid T14; clear T14
  have C14 := C13.trans (B14.mono C13.size)
  have B7e : Below w7.heap.size w7 w14 := (((((B8.trans (B9.mono B8.size)).trans (B10.mono (Nat.le_trans B8.size B9.size))).trans (B11.mono (Nat.le_trans (Nat.le_trans B8.size B9.size) B10.size))).trans (B12.mono (Nat.le_trans (Nat.le_trans (Nat.le_trans B8.size B9.size) B10.size) B11.size))).trans (B13.mono (Nat.le_trans (Nat.le_trans (Nat.le_trans (Nat.le_trans B8.size B9.size) B10.size) B11.size) B12.size))).trans (B14.mono (Nat.le_trans (Nat.le_trans (Nat.le_trans (Nat.le_trans (Nat.le_trans B8.size B9.size) B10.size) B11.size) B12.size) B13.size))
  have E7 := Lib.hid (K7.out.below B7e (Nat.le_refl _))
  go_wp2_with fail
  refine (qEqI (some ⟨w6.heap.size, 0, none⟩) (some ⟨w13.heap.size, 0, none⟩) n2 n2 n2 _ _ ig w14 hn2 E7.out K14.out).mono ?_
  rintro e w15 ⟨rfl, B15⟩
  have C15 := C14.trans (B15.mono C14.size)
  -- marks in the arguments
  have B7f : Below w7.heap.size w7 w15 := B7e.trans (B15.mono B7e.size)
  have B6f : Below w6.heap.size w6 w15 := B7.trans (B7f.mono B7.size)
  have B5f : Below w5.heap.size w5 w15 := B6.trans (B6f.mono B6.size)
  have O15a : 0 < n → w4.heap.size < w15.heap.size ∧ w15.ownsRow w4.heap.size 9 1 (.slice (some ⟨w4.heap.size, 0, none⟩) n n) n (vals xs) := fun hp =>
    ⟨Nat.lt_of_lt_of_le s5 B5f.size, (OW5.out hp).kept (bgr B5f none) (by simp [Value.ownBlock])⟩
  have O15b : Hid (0 < n1 → w5.heap.size < w15.heap.size ∧ w15.ownsRow w5.heap.size 9 1 (.slice (some ⟨w5.heap.size, 0, none⟩) n1 n1) n1 (vals ls)) := Lib.hid (fun hp =>
    ⟨Nat.lt_of_lt_of_le s6 B6f.size, (OW6.out hp).kept (bgr B6f none) (by simp [Value.ownBlock])⟩)
  have O15c : Hid (0 < n2 → w15.ownsRow w6.heap.size 2 1 (.slice (some ⟨w6.heap.size, 0, none⟩) n2 n2) n2 (intV ig)) := Lib.hid (fun hp => (OW7.out hp).kept (bgr B7f none) (by simp [Value.ownBlock]))
  have S7 : Hid (0 < n2 → w6.heap.size < w7.heap.size) := Lib.hid (fun hp => ((OW7.out hp).lt _ rfl).2)
  have R1a := Lib.hid (((((((R1.out.below B9).below B10).below B11).below B12).below B13).below B14).below B15)
  have R0b := Lib.hid (((((((R0a.out.below B9).below B10).below B11).below B12).below B13).below B14).below B15)
  have z4 := B5.size
  have z5 := B6.size
  have z6 := B7.size
  have HZ := Lib.hid (And.intro s5 (And.intro s6 z6))
  clear s5 s6 z4 z5 z6 B7e B7f B6f B5f
  have M1 := Lib.hid (qMarkS w4.heap.size n w4.heap.size 1 (by omega) (by omega) (vals xs) w15 hn1 O15a)
  clear O15a
  go_wp2_with fail
  refine (show Calls Tryd.prog 29 #[.slice (some ⟨w4.heap.size, 0, none⟩) n n, .int .i64 1] _ _ from M1.out).mono ?_
  rintro e w16 ⟨rfl, gg, G16, HGG⟩
  have C16 : Below w.heap.size w w16 := C15.grown G16 C15.size (fun k hk => by rw [(HGG k hk).2]; exact C4.size)
  have R1b := Lib.hid (RowS.grown R1a.out G16 (fun x hx e => by
    have h1 := L1.out _ hx
    have h2 : x = w4.heap.size := (HGG x e).2
    have := HZ.out
    omega))
  have R0c := Lib.hid (RowS.grown R0b.out G16 (fun x hx e => by
    have h1 := L0.out _ hx
    have h2 : x = w4.heap.size := (HGG x e).2
    omega))
  have O16b : 0 < n1 → w5.heap.size < w16.heap.size ∧ w16.ownsRow w5.heap.size 9 1 (.slice (some ⟨w5.heap.size, 0, none⟩) n1 n1) n1 (vals ls) := fun hp => by
    obtain ⟨h1, h2⟩ := O15b.out hp
    refine ⟨Nat.lt_of_lt_of_le h1 G16.size, h2.kept G16 (.inr ?_)⟩
    intro e
    have h3 : w5.heap.size = w4.heap.size := (HGG _ e.symm).2
    have := HZ.out
    omega
  have O16c : Hid (0 < n2 → w16.ownsRow w6.heap.size 2 1 (.slice (some ⟨w6.heap.size, 0, none⟩) n2 n2) n2 (intV ig)) := Lib.hid (fun hp => (O15c.out hp).kept G16 (.inr (fun e => by
    have h3 : w6.heap.size = w4.heap.size := (HGG _ e.symm).2
    have := HZ.out
    omega)))
  have M2 := Lib.hid (qMarkS w5.heap.size n1 w5.heap.size (1 + n) (by omega) (by omega) (vals ls) w16 hl1 O16b)
  clear G16 HGG O16b M1
  go_wp2_with fail
  refine (show Calls Tryd.prog 29 #[.slice (some ⟨w5.heap.size, 0, none⟩) n1 n1, .int .i64 ((1 + n : Nat) : Int)] _ _ from M2.out).mono ?_
  rintro e w17 ⟨rfl, gg, G17, HGG⟩
  have C17 : Below w.heap.size w w17 := C16.grown G17 C16.size (fun k hk => by rw [(HGG k hk).2]; exact C5.size)
  have R1c := Lib.hid (RowS.grown R1b.out G17 (fun x hx e => by
    have h1 := L1.out _ hx
    have h2 : x = w5.heap.size := (HGG x e).2
    have := HZ.out
    omega))
  have R0d := Lib.hid (RowS.grown R0c.out G17 (fun x hx e => by
    have h1 := L0.out _ hx
    have h2 : x = w5.heap.size := (HGG x e).2
    have := HZ.out
    omega))
  have O17c : 0 < n2 → w17.ownsRow w6.heap.size 2 1 (.slice (some ⟨w6.heap.size, 0, none⟩) n2 n2) n2 (intV ig) := fun hp => (O16c.out hp).kept G17 (.inr (fun e => by
    have h3 : w6.heap.size = w5.heap.size := (HGG _ e.symm).2
    have := HZ.out
    omega))
  have M3 := Lib.hid (qMarkI w6.heap.size n2 w6.heap.size (1 + n + n1) (by omega) ig w17 hn2 O17c)
  clear G17 HGG O17c M2
  go_wp2_with fail
  refine (show Calls Tryd.prog 30 #[.slice (some ⟨w6.heap.size, 0, none⟩) n2 n2, .int .i64 ((1 + n + n1 : Nat) : Int)] _ _ from M3.out).mono ?_
  rintro e w18 ⟨rfl, gg, G18, HGG⟩
  have C18 : Below w.heap.size w w18 := C17.grown G18 C17.size (fun k hk => by rw [(HGG k hk).2]; exact C6.size)
  have R1d := Lib.hid (RowS.grown R1c.out G18 (fun x hx e => by
    have h1 := L1.out _ hx
    have h2 : 0 < n2 ∧ x = w6.heap.size := HGG x e
    have := S7.out h2.1
    omega))
  have R0e := Lib.hid (RowS.grown R0d.out G18 (fun x hx e => by
    have h1 := L0.out _ hx
    have h2 : x = w6.heap.size := (HGG x e).2
    have := HZ.out
    omega))
  clear G18 HGG M3
  have HQ18 := Lib.hid (rEqS A1 A0 c1 c0 m1 l1 w18 hnb R1d.out R0e.out)
  have hk1 : ¬ ((1 + n + n1 + n2 : Nat) : Int) < 0 := by omega
  go_wp2_with fail
  refine HQ18.out.mono ?_
  rintro e w19 ⟨rfl, B19⟩
  have C19 := C18.trans (B19.mono C18.size)
  have R1e := Lib.hid (R1d.out.below B19)
  have R0f := Lib.hid (R0e.out.below B19)
  have HM19 := Lib.hid (rMarkS A1 m1 c1 1 (strV l1) w19 (by omega) (by omega) R1e.out)
  go_wp2_with fail
  refine (show Calls Tryd.prog 29 #[.slice A1 m1 c1, .int .i64 1] _ _ from HM19.out).mono ?_
  rintro e w20 ⟨rfl, M20, G20⟩
  have C20 : Below w.heap.size w w20 := C19.grown G20 C19.size (fun k hk => Nat.le_trans C7.size (L1.out k hk))
  have R0g := Lib.hid (R0f.out.grown G20 (fun x hx e => by
    have h1 := L0.out x hx
    have h2 := L1.out x e
    have := HZ.out
    omega))
  have M20h := Lib.hid M20
  clear M20 G20
  have HH20 := Lib.hid (rHeldS A1 m1 c1 1 w20 (by omega) (by omega) M20h.out)
  have hm1' : (((1 + m1 : Nat) : Int) != ((1 + m1 : Nat) : Int)) = false := by simp
  go_wp2_with fail
  refine (show Calls Tryd.prog 31 #[.slice A1 m1 c1, .int .i64 1] _ _ from HH20.out).mono ?_
  rintro e w21 ⟨rfl, B21⟩
  have C21 := C20.trans (B21.mono C20.size)
  go_wp2_with fail
  refine (tToS2 a n cap xs w21 hn1 ((HT.out.below C21 (Nat.le_refl _)).more C21.size)).mono ?_
  rintro e w22 ⟨rfl, T22, B22⟩
  have K22 := Lib.hid T22; clear T22
  have C22 := C21.trans (B22.mono C21.size)
  go_wp2_with fail
  refine (tToS2 a1 n1 cap1 ls w22 hl1 ((HT1.out.below C22 (Nat.le_refl _)).more C22.size)).mono ?_
  rintro e w23 ⟨rfl, T23, B23⟩
  have K23 := Lib.hid T23; clear T23
  have C23 := C22.trans (B23.mono C22.size)
  go_wp2_with fail
  refine (tToI a2 n2 cap2 ig w23 hn2 ((HT2.out.below C23 (Nat.le_refl _)).more C23.size)).mono ?_
  rintro e w24 ⟨rfl, T24, B24⟩
  have K24 := Lib.hid T24; clear T24
  have C24 := C23.trans (B24.mono C23.size)
  have CI3 := Lib.hid (CI.out _ _ _ n n1 n2 w24 hn1 hl1 HLS.out ((K22.out.below B23).below B24).at (K23.out.below B24) K24.out (shaped_below HSH.out C24))
  go_wp2_with fail
  refine CI3.out.mono ?_
  rintro e w25 ⟨A2, m2, c2, l2, rfl, own2, B25, p2, q2⟩
  have C25 := C24.trans (B25.mono C24.size)
  obtain rfl : l2 = l1 := SAME.out l2 l1 ⟨p2, q2⟩ P0.out
  have R2 := Lib.hid (RowS.of own2)
  obtain rfl : m2 = m1 := by rw [N0.out]; have := own2.1; rw [strV_len] at this; omega
  clear own2 CI3 p2 q2
  have R0h := Lib.hid (((((R0g.out.below B21).below B22).below B23).below B24).below B25)
  have HQ25 := Lib.hid (rEqS A2 A0 c2 c0 m2 l2 w25 hnb R2.out R0h.out)
  go_wp2_with fail
  refine HQ25.out.mono ?_
  rintro e w26 ⟨rfl, B26⟩
  have C26 := C25.trans (B26.mono C25.size)
  have HH26 := Lib.hid (rHeldS A1 m2 c1 1 w26 (by omega) (by omega) ((((((M20h.out.below B21).below B22).below B23).below B24).below B25).below B26))
  go_wp2_with fail
  refine (show Calls Tryd.prog 31 #[.slice A1 m2 c1, .int .i64 1] _ _ from HH26.out).mono ?_
  rintro e w27 ⟨rfl, B27⟩
  go_wp2_with fail
  go_ret
  exact ⟨rfl, C26.trans (B27.mono C26.size)⟩
end
end Go.Proofs.YtjockiedganokaaDoor
