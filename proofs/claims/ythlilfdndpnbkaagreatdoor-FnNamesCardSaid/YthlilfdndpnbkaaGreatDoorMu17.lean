/-
  What holds of a range of blocks holds in every later world in which that range lies as it lay.
-/
import Derived.Test.YthlilfdndpnbkaaGreatDoorMu1
import Derived.OwnWalk
import Derived.Laws.OwnMore
import Derived.Below
import Derived.Deep.QuietTactic
import Derived.Test.YthlilfdndpnbkaaGreatDoorMu6
import Derived.Test.YthlilfdndpnbkaaGreatDoorMu9
import Derived.Maps.AppendAt
import Derived.Lib.ItoaNum
import Derived.Deep.RegionHeld3
import Derived.Laws.IdiomStrings
import Derived.Test.YthlilfdndpnbkaaGreatDoorMu12
import Derived.Test.YthlilfdndpnbkaaGreatDoorAs9
import Derived.Test.YthlilfdndpnbkaaGreatDoorMu14
namespace Go.Proofs.YthlilfdndpnbkaaGreatDoor
section
set_option linter.unusedVariables false
open Go.RowKit

/-- From w to w' nothing in the blocks lo .. hi - 1 has changed. -/
structure Like (lo hi : Nat) (w w' : World) : Prop where
  os : w'.os = w.os
  tape : w'.tape = w.tape
  output : w'.output = w.output
  size : w.heap.size ≤ w'.heap.size
  block : ∀ k, lo ≤ k → k < hi → w'.heap[k]? = w.heap[k]?
theorem Like.refl (lo hi : Nat) (w : World) : Like lo hi w w := ⟨rfl, rfl, rfl, Nat.le_refl _, fun _ _ _ => rfl⟩
theorem Like.trans {lo hi : Nat} {a b c : World} (h : Like lo hi a b) (k : Like lo hi b c) : Like lo hi a c :=
  ⟨k.os.trans h.os, k.tape.trans h.tape, k.output.trans h.output, Nat.le_trans h.size k.size, fun i h1 h2 => (k.block i h1 h2).trans (h.block i h1 h2)⟩
theorem Like.of_below {lo hi B : Nat} {w w' : World} (h : Below B w w') (hB : hi ≤ B) : Like lo hi w w' := ⟨h.os, h.tape, h.output, h.size, fun k _ h2 => h.block k (Nat.lt_of_lt_of_le h2 hB)⟩
theorem Like.of_grown {lo hi : Nat} {w w' : World} {r : Option Nat} (h : w.grownBy w' r) (hw : hi ≤ w.heap.size) (hne : ∀ k, r = some k → k < lo ∨ hi ≤ k) : Like lo hi w w' :=
  ⟨h.os, h.tape, h.output, h.size, fun k h1 h2 => h.block k (Nat.lt_of_lt_of_le h2 hw) (fun e => by have := hne k e.symm; omega)⟩
theorem Like.below {hi : Nat} {w w' : World} (h : Like 0 hi w w') : Below hi w w' := ⟨h.os, h.tape, h.output, h.size, fun k h1 => h.block k (Nat.zero_le _) h1⟩
/-- P holds as long as the blocks lo .. hi - 1 lie as they lie. -/
def Sp (lo hi : Nat) (P : World → Prop) (w : World) : Prop := hi ≤ w.heap.size ∧ ∀ W, Like lo hi w W → P W
theorem Sp.here {lo hi : Nat} {P : World → Prop} {w : World} (h : Sp lo hi P w) : P w := h.2 w (Like.refl _ _ _)
theorem Sp.like {lo hi : Nat} {P : World → Prop} {w w' : World} (h : Sp lo hi P w) (hl : Like lo hi w w') : Sp lo hi P w' := ⟨Nat.le_trans h.1 hl.size, fun W hW => h.2 W (hl.trans hW)⟩
theorem Sp.next {lo hi : Nat} {P : World → Prop} {w w' : World} (h : Sp lo hi P w) (hb : Below w.heap.size w w') : Sp lo hi P w' := h.like (Like.of_below hb h.1)
theorem Sp.mark {lo hi : Nat} {P : World → Prop} {w w' : World} {r : Option Nat} (h : Sp lo hi P w) (hg : w.grownBy w' r) (hne : ∀ k, r = some k → k < lo ∨ hi ≤ k) : Sp lo hi P w' := h.like (Like.of_grown hg h.1 hne)
theorem Sp.from_ (w : World) : Sp 0 w.heap.size (fun W => Below w.heap.size w W) w := ⟨Nat.le_refl _, fun _ h => h.below⟩
theorem Sp.row {w : World} {lo s n : Nat} {t : TypeId} {v : Value} {xs : List Value} (h : w.ownsRow lo t s v n xs) : Sp lo w.heap.size (fun W => W.ownsRow lo t s v n xs) w :=
  ⟨Nat.le_refl _, fun W hW => ⟨h.1, by
    rcases h.2 with h2 | ⟨g, cap, cur, h1, h2, h3, h4⟩
    · exact .inl h2
    · exact .inr ⟨g, cap, cur, h1, h2, (hW.block g h2 (Array.getElem?_eq_some_iff.1 h3).1).trans h3, h4⟩⟩⟩
/-- A row that was written anew, in the range in which it lay. -/
theorem Sp.again {w : World} {lo hi s n : Nat} {t : TypeId} {v : Value} {xs : List Value} (h : w.ownsRow lo t s v n xs) (hlt : ∀ k, v.ownBlock = some k → k < hi) (hh : hi ≤ w.heap.size) : Sp lo hi (fun W => W.ownsRow lo t s v n xs) w :=
  ⟨hh, fun W hW => ⟨h.1, by
    rcases h.2 with h2 | ⟨g, cap, cur, h1, h2, h3, h4⟩
    · exact .inl h2
    · exact .inr ⟨g, cap, cur, h1, h2, (hW.block g h2 (hlt g (by rw [h1]; rfl))).trans h3, h4⟩⟩⟩
theorem own_range {w : World} {lo s n : Nat} {t : TypeId} {v : Value} {xs : List Value} (h : w.ownsRow lo t s v n xs) : ∀ k, v.ownBlock = some k → lo ≤ k ∧ k < w.heap.size := h.lt
theorem below_drN_r {B : Nat} {a w : World} (h : Below B a w) (n : Nat) : Below B a (w.drewN n) := ⟨h.os, h.tape, h.output, h.size, h.block⟩
end
section
set_option linter.unusedVariables false
open Go.RowKit

theorem below_dr0 {B : Nat} {a w : World} (h : Below B a w) (n : Nat) : Below B a (w.drewN n) := ⟨h.os, h.tape, h.output, h.size, h.block⟩
theorem below_grown {w w' : World} (h : Below w.heap.size w w') (row : Option Nat) : w.grownBy w' row := ⟨h.os, h.tape, h.output, h.size, fun k hk _ => h.block k hk⟩

def markB (k : Nat) : ByteArray := ⟨(109 :: Lib.decDigits k).toArray⟩
theorem dec_step (j : Nat) (l : List UInt8) (h : 0 < j) : Lib.decDigits j ++ l = (if j / 10 = 0 then [] else Lib.decDigits (j / 10)) ++ (48 + UInt8.ofNat (j % 10)) :: l := by
  by_cases h10 : j < 10
  · rw [Lib.decDigits, dif_pos h10, if_pos (by omega)]
    have : j % 10 = j := Nat.mod_eq_of_lt h10
    simp [this]
  · rw [Lib.decDigits, dif_neg h10, if_neg (by omega)]
    simp

theorem dec_len (k : Nat) : (Lib.decDigits k).length ≤ k + 1 := by
  induction k using Nat.strongRecOn with
  | _ k ih =>
    by_cases h : k < 10
    · rw [Lib.decDigits, dif_pos h]; simp
    · rw [Lib.decDigits, dif_neg h]
      have := ih (k / 10) (by omega)
      simp; omega
theorem conv_one (w : World) (j : Nat) : (convert 22 9 (.slice (some ⟨w.heap.size, 0, none⟩) 1 1)).run Tryz.prog (w.alloc (.cells #[.int .u8 (48 + (j : Int) % 10)] 5)) =
    .ok (.string ⟨#[UInt8.ofNat (48 + j % 10)]⟩) (w.alloc (.cells #[.int .u8 (48 + (j : Int) % 10)] 5)) := by
  refine run_convert_bytes_back (P := Tryz.prog) (w.alloc (.cells #[.int .u8 (48 + (j : Int) % 10)] 5)) 22 9 5 ⟨w.heap.size, 0, none⟩ 1 [UInt8.ofNat (48 + j % 10)] Tryz.underlying22 Tryz.underlying5 Tryz.underlying9 ?_
  intro i hi
  obtain rfl : i = 0 := by simpa using hi
  have h1 : ((UInt8.ofNat (48 + j % 10)).toNat : Int) = 48 + (j : Int) % 10 := by
    rw [UInt8.toNat_ofNat_of_lt' (by simp [UInt8.size]; omega)]; omega
  have h2 := new_one w (.int .u8 (48 + (j : Int) % 10)) 5
  have h3 : ((⟨w.heap.size, 0, none⟩ : Addr).add 0) = ⟨w.heap.size, 0, none⟩ := by simp [Addr.add]
  rw [h3, h2]
  exact congrArg (fun x => some (Value.int .u8 x)) h1.symm

/-- The first j cells marked, the rest as it was. -/
def markL (k j : Nat) (xs : List Value) : List Value := ((List.range j).map fun i => Value.string (markB (k + i))) ++ xs.drop j
theorem markL_zero (k : Nat) (xs : List Value) : markL k 0 xs = xs := by simp [markL]
theorem markL_step (k j : Nat) (xs : List Value) (hj : j < xs.length) : (markL k j xs).set j (.string (markB (k + j))) = markL k (j + 1) xs := by
  unfold markL
  rw [List.set_append_right _ _ (by simp), List.range_succ, List.map_append, List.append_assoc]
  congr 1
  simp only [List.length_map, List.length_range, Nat.sub_self]
  rw [List.drop_eq_getElem_cons hj, List.set_cons_zero]
  rfl
theorem markL_all (k : Nat) (xs : List Value) (n : Nat) (hn : n = xs.length) : markL k n xs = (List.range n).map fun i => Value.string (markB (k + i)) := by
  unfold markL; rw [List.drop_of_length_le (by omega), List.append_nil]
def marksV (k n : Nat) : List Value := (List.range n).map fun i => Value.string (markB (k + i))
theorem marksV_at (k n j : Nat) (h : j < n) : (marksV k n)[j]? = some (.string (markB (k + j))) := by simp [marksV, h]

end
section
set_option linter.unusedVariables false
open Go.RowKit

theorem TextAt.row2 {w : World} {B n : Nat} {A : Option Addr} {xs : List ByteArray} (h : TextAt w B A n xs) {k : Nat} {x : ByteArray} (hx : xs[k]? = some x) :
    ∃ b o, A = some ⟨b, o, none⟩ ∧ b < B ∧ w.cell? ⟨b, o + k, none⟩ = some (.string x) := by
  have := (List.getElem?_eq_some_iff.1 hx).1
  obtain ⟨b, o, h1, h2, h3⟩ := h.2 (by have := h.1; omega)
  exact ⟨b, o, h1, h2, h3 k x hx⟩

theorem Sp.text {w : World} {A : Option Addr} {n : Nat} {xs : List ByteArray} (h : TextAt w w.heap.size A n xs) : Sp 0 w.heap.size (fun W => TextAt W W.heap.size A n xs) w :=
  ⟨Nat.le_refl _, fun W hW => (h.below hW.below (Nat.le_refl _)).more hW.size⟩
theorem own_text {w : World} {lo n c : Nat} {A : Option Addr} {xs : List ByteArray} (h : w.ownsRow lo 9 1 (.slice A n c) n (strV xs)) : TextAt w w.heap.size A n xs := by
  have hl : xs.length = n := by have := h.1; rw [strV_len] at this; omega
  refine ⟨hl.symm, fun hp => ?_⟩
  rcases h.2 with ⟨_, h0⟩ | ⟨g, cap, cur, hv, hg, hb, _⟩
  · omega
  · cases hv
    refine ⟨g, 0, rfl, (Array.getElem?_eq_some_iff.1 hb).1, fun j x hx => ?_⟩
    rw [Nat.zero_add]
    exact (h.cellAt j (by have := (List.getElem?_eq_some_iff.1 hx).1; omega)).trans (strV_at _ _ _ hx)
def CopyS (n : Nat) (xs : List ByteArray) (w : World) (e : Ending) (w' : World) : Prop := ∃ A, e = .returned (.slice A n n) ∧ w'.ownsRow w.heap.size 9 1 (.slice A n n) n (strV xs) ∧ Below w.heap.size w w'
def MarkedS (lo : Nat) (A : Option Addr) (n c k : Nat) (w : World) (e : Ending) (w' : World) : Prop :=
  e = .returned (.int .i64 ((k + n : Nat) : Int)) ∧ w.grownBy w' (Value.slice A n c).ownBlock
end
section
set_option linter.unusedVariables false
open Go.RowKit

theorem cCodeNil (w : World) : Calls Tryz.prog 51 #[.nilIface] w fun e w' => e = .returned (.int .i64 0) ∧ Below w.heap.size w w' := by
  have CA := Lib.hid (fun t W => as_nil t W)
  have hb0 := (Below.refl w.heap.size w).alloc (Nat.le_refl _) (.cells #[.int .i64 0, .nilIface] 135)
  go_enter Tryz.func51, Tryz.ntmps51
  go_wp2_with fail
  refine (CA.out _ _).mono ?_
  rintro e w1 ⟨rfl, rfl⟩
  go_wp2_with fail
  go_ret
  exact ⟨rfl, hb0⟩
set_option maxHeartbeats 1000000 in
theorem cCodeRef (c : Int) (u : Value) (w : World) (hu : u.oneCell' = true) (het : Et w) :
    Calls Tryz.prog 51 #[.iface 135 (.agg #[.int .i64 c, u])] w fun e w' => e = .returned (.int .i64 c) ∧ Below w.heap.size w w' := by
  have hb0 := (Below.refl w.heap.size w).alloc (Nat.le_refl _) (.cells #[.int .i64 0, .nilIface] 135)
  have CA := Lib.hid (as_hit (.int .i64 c) u w.heap.size (.int .i64 0) .nilIface (w.alloc (.cells #[.int .i64 0, .nilIface] 135)) rfl hu (het.below hb0) (World.cell?_alloc_at _ _ _ _ rfl) (World.cell?_alloc_at _ _ _ _ rfl) (fun k => World.frozen?_alloc_new _ _ _ _))
  have HB := Lib.hid hb0
  clear hb0 het
  go_enter Tryz.func51, Tryz.ntmps51
  go_wp2_with fail
  refine CA.out.mono ?_
  rintro e w1 ⟨rfl, hw⟩
  have hc : w1.cell? ⟨w.heap.size, 0, none⟩ = some (.int .i64 c) := by
    rw [hw, World.cell?_setCell_other _ _ _ _ (by simp)]
    refine World.cell?_setCell_same' _ _ _ ?_
    rw [World.cell?_alloc_lt _ _ ⟨w.heap.size, 0, none⟩ (by simp; omega), World.cell?_alloc_lt _ _ ⟨w.heap.size, 0, none⟩ (by simp; omega), World.cell?_alloc_lt _ _ ⟨w.heap.size, 0, none⟩ (by simp; omega), World.cell?_alloc_lt _ _ ⟨w.heap.size, 0, none⟩ (by simp), World.cell?_alloc_at _ _ _ _ rfl]
    rfl
  have hbt : Below w.heap.size w w1 := by
    rw [hw]
    exact (((((HB.out.alloc (by simp) _).alloc (by simp; omega) _).alloc (by simp; omega) _).alloc (by simp; omega) _).setCell (p := ⟨w.heap.size, 0, none⟩) (Nat.le_refl _) _).setCell (p := ⟨w.heap.size, 1, none⟩) (Nat.le_refl _) _
  clear hw
  go_wp2_with fail
  go_ret
  exact ⟨rfl, hbt⟩

theorem all9_stop {s : List ByteArray} {k : Nat} {x : ByteArray} (h : s[k]? = some x) (hx : langB x = false) : s.all langB = false := by
  rw [List.all_eq_false]; exact ⟨x, List.mem_of_getElem? h, by simp [hx]⟩
theorem all9_step {s : List ByteArray} {k : Nat} {x : ByteArray} (h : s[k]? = some x) (ha : (s.take k).all langB = true) (hx : langB x = true) : (s.take (k + 1)).all langB = true := by
  rw [take_snoc9 h, List.all_append, ha]; simp [hx]
theorem all9_end {s : List ByteArray} {k : Nat} (h : s.length ≤ k) (ha : (s.take k).all langB = true) : s.all langB = true := by rwa [List.take_of_length_le h] at ha

set_option maxHeartbeats 1000000 in
theorem cAllLang (A : Option Addr) (n c : Nat) (ls : List ByteArray) (w : World) (hb : n ≤ 1048576) (hs : ∀ x ∈ ls, x.size ≤ maxLen) (h : TextAt w w.heap.size A n ls) :
    Calls Tryz.prog 106 #[.slice A n c, .func (.func 77) #[] #[]] w fun e w' => e = .returned (.bool (ls.all langB)) ∧ w = w' := by
  have HN := Lib.hid h.1
  have H := Lib.hid h
  have CC := Lib.hid (fun x (hx : x ∈ ls) W => cLang_impl x W (hs x hx))
  clear h hs
  go_enter Tryz.func106, Tryz.ntmps106
  go_wp2
  go_loop [9] (fun i => ∃ k : Nat, k ≤ n ∧ i = .int .i64 k ∧ Hid ((ls.take k).all langB = true)) (fun i => n - (intOf i).toNat)
  case atStart => exact ⟨0, Nat.zero_le _, rfl, Lib.hid rfl⟩
  case round =>
    obtain ⟨k, hk, rfl, HA⟩ := hrel
    by_cases hlt : k < n
    · obtain ⟨x, hx⟩ : ∃ x, ls[k]? = some x := ⟨ls[k]'(by have := HN.out; omega), List.getElem?_eq_getElem _⟩
      obtain ⟨b, o, rfl, hbl, c0⟩ := H.out.row2 hx
      have CX := Lib.hid (fun W => CC.out x (List.mem_of_getElem? hx) W)
      have HX := Lib.hid hx
      have u1 : (0 : Int) ≤ (k : Int) := Int.natCast_nonneg _
      have u2 : (k : Int) < (n : Int) := by omega
      clear hx
      cases hv : langB x
      · rw [hv] at CX
        have HY := Lib.hid (all9_stop HX.out hv)
        clear hv
        go_wp2_with (go_at_call 77; refine (CX.out _).mono ?_; rintro e w' ⟨rfl, rfl⟩)
        go_ret
        exact ⟨ret_bool HY.out.symm, rfl⟩
      · rw [hv] at CX
        have HY := Lib.hid (all9_step HX.out HA.out hv)
        clear hv
        go_wp2_with (go_at_call 77; refine (CX.out _).mono ?_; rintro e w' ⟨rfl, rfl⟩)
        go_round
        case rel => exact ⟨k + 1, by omega, by go_num, HY⟩
        case measure => simp [intOf]; omega
    · have HY := Lib.hid (all9_end (s := ls) (k := k) (by have := HN.out; omega) HA.out)
      go_wp2
      go_ret
      exact ⟨ret_bool HY.out.symm, rfl⟩

theorem yr_sp (y : Int) : spB y y = yrB y := by unfold spB yrB; rw [decide_eq_true (Int.le_refl y)]; simp
theorem us_in (x : Nm) (y : Int) : inB x.f x.u y = usB x y := rfl
theorem cIsYear (y : Int) (w : World) :
    Calls Tryz.prog 107 #[.int .i64 y] w fun e w' => e = .returned (.bool (yrB y)) ∧ Below w.heap.size w w' := by
  have CV := Lib.hid (fun W => cValid y y W)
  rw [yr_sp] at CV
  go_enter Tryz.func107, Tryz.ntmps107
  go_wp2_with fail
  refine (CV.out _).mono ?_
  rintro e w1 ⟨rfl, g1⟩
  go_wp2_with fail
  go_ret
  exact ⟨rfl, g1⟩
theorem cUsed1 (x : Nm) (y : Int) (w : World) :
    Calls Tryz.prog 65 #[nmA x, .int .i64 y] w fun e w' => e = .returned (.bool (usB x y)) ∧ Below w.heap.size w w' := by
  have CV := Lib.hid (fun W => cHolds x.f x.u y W)
  rw [us_in] at CV
  have hb0 := (Below.refl w.heap.size w).alloc (Nat.le_refl _) (.cells #[.string x.t, .string x.l, .int .i64 x.s, .int .i64 x.f, .int .i64 x.u] 27)
  go_enter Tryz.func65, Tryz.ntmps65
  go_wp2_with fail
  refine (CV.out _).mono ?_
  rintro e w1 ⟨rfl, g1⟩
  go_wp2_with fail
  go_ret
  exact ⟨rfl, bstep9 hb0 hb0.size g1⟩

/-- What a question answers: no error, or a refusal with this code. -/
def RefV (c : Int) (v : Value) : Prop := (c = 0 ∧ v = .nilIface) ∨ (c ≠ 0 ∧ ∃ u, v = .iface 135 (.agg #[.int .i64 c, .iface 257 u]))
def RefOut (c : Int) (w : World) (e : Ending) (w' : World) : Prop := (∃ v, e = .returned v ∧ RefV c v) ∧ Below w.heap.size w w'

set_option maxHeartbeats 2000000 in
theorem cQuest (A B : Option Addr) (n c n2 c2 : Nat) (xs : List Nm) (ls : List ByteArray) (y : Int) (w : World) (hb : n ≤ 1048576) (hb2 : n2 ≤ 1048576) (hz : Sz9 xs) (hl : ∀ x ∈ ls, x.size ≤ maxLen)
    (h : NmAt w w.heap.size A n xs) (hcap : n ≤ c) (h2 : TextAt w w.heap.size B n2 ls) (hsh : w.ShapedOpen Tryz.prog) (her : Er7 w) :
    Calls Tryz.prog 64 #[.slice A n c, .slice B n2 c2, .int .i64 y] w (RefOut (qC xs ls y) w) := by
  have CN := Lib.hid (cChkNames A n c xs w hb hz h hcap hsh her.e)
  have CL := Lib.hid (fun W (hW : Below w.heap.size w W) => cAllLang B n2 c2 ls W hb2 hl ((h2.below hW (Nat.le_refl _)).more hW.size))
  have CY := Lib.hid (fun W => cIsYear y W)
  have HE := Lib.hid (fun W (hW : Below w.heap.size w W) => her.below hW)
  clear h h2 hsh her hz hl
  rcases qC_cases xs ls y with ⟨hq, e1⟩ | ⟨hq, e1, e2⟩ | ⟨hq, e1, e2, e3⟩ | ⟨hq, e1, e2, e3⟩
  · rw [hq]
    rw [e1] at CN
    clear hq e1
    go_enter Tryz.func64, Tryz.ntmps64
    go_wp2_with fail
    refine CN.out.mono ?_
    rintro e w1 ⟨⟨v, rfl, hv⟩, hbt⟩
    obtain ⟨u, rfl⟩ : ∃ u, v = .iface 257 u := by
      rcases hv with ⟨h, _⟩ | ⟨_, h⟩
      · cases h
      · exact h
    clear hv
    go_wp2_with fail
    go_ret
    exact ⟨⟨_, rfl, .inr ⟨by decide, _, rfl⟩⟩, hbt⟩
  all_goals
    rw [hq]
    rw [e1] at CN
    rw [e2] at CL
    clear hq e1 e2
    go_enter Tryz.func64, Tryz.ntmps64
    go_wp2_with fail
    refine CN.out.mono ?_
    rintro e w1 ⟨⟨v, rfl, hv⟩, hbt⟩
    obtain rfl : v = .nilIface := by
      rcases hv with ⟨_, h⟩ | ⟨h, _⟩
      · exact h
      · cases h
    clear hv
  · obtain ⟨v, hv⟩ := (HE.out w1 hbt).e.e.l
    go_wp2_with (go_at_call 106; refine (CL.out _ hbt).mono ?_; rintro e w' ⟨rfl, rfl⟩)
    go_ret
    exact ⟨⟨_, rfl, .inr ⟨by decide, _, rfl⟩⟩, hbt⟩
  · rw [e3] at CY
    clear e3
    go_wp2_with (go_at_call 106; refine (CL.out _ hbt).mono ?_; rintro e w' ⟨rfl, rfl⟩)
    refine (CY.out _).mono ?_
    rintro e w2 ⟨rfl, g2⟩
    have hb2 := bstep9 hbt hbt.size g2
    obtain ⟨v, hv⟩ := (HE.out w2 hb2).q
    clear g2
    go_wp2_with fail
    go_ret
    exact ⟨⟨_, rfl, .inr ⟨by decide, _, rfl⟩⟩, hb2⟩
  · rw [e3] at CY
    clear e3
    go_wp2_with (go_at_call 106; refine (CL.out _ hbt).mono ?_; rintro e w' ⟨rfl, rfl⟩)
    refine (CY.out _).mono ?_
    rintro e w2 ⟨rfl, g2⟩
    have hb2 := bstep9 hbt hbt.size g2
    clear g2
    go_wp2_with fail
    go_ret
    exact ⟨⟨_, rfl, .inl ⟨rfl, rfl⟩⟩, hb2⟩
end
section
set_option linter.unusedVariables false
open Go.RowKit

theorem Sp.num {w : World} {A : Option Addr} {n : Nat} {xs : List Int} (h : NumAt w w.heap.size A n xs) : Sp 0 w.heap.size (fun W => NumAt W W.heap.size A n xs) w :=
  ⟨Nat.le_refl _, fun W hW => (h.below hW.below (Nat.le_refl _)).more hW.size⟩
theorem own_num {w : World} {lo n c : Nat} {A : Option Addr} {xs : List Int} (h : w.ownsRow lo 2 1 (.slice A n c) n (intV xs)) : NumAt w w.heap.size A n xs := by
  have hl : xs.length = n := by have := h.1; rw [intV_len] at this; omega
  refine ⟨hl.symm, fun hp => ?_⟩
  rcases h.2 with ⟨_, h0⟩ | ⟨g, cap, cur, hv, hg, hb, _⟩
  · omega
  · cases hv
    refine ⟨g, 0, rfl, (Array.getElem?_eq_some_iff.1 hb).1, fun j x hx => ?_⟩
    rw [Nat.zero_add]
    exact (h.cellAt j (by have := (List.getElem?_eq_some_iff.1 hx).1; omega)).trans (intV_at _ _ _ hx)
/-- A copy of one's own. -/
def CopyI (n : Nat) (xs : List Int) (w : World) (e : Ending) (w' : World) : Prop := ∃ A, e = .returned (.slice A n n) ∧ w'.ownsRow w.heap.size 2 1 (.slice A n n) n (intV xs) ∧ Below w.heap.size w w'
/-- Marks in a row of one's own. -/
def MarkedI (lo : Nat) (A : Option Addr) (n c k : Nat) (w : World) (e : Ending) (w' : World) : Prop :=
  e = .returned (.int .i64 ((k + n : Nat) : Int)) ∧ w'.ownsRow lo 2 1 (.slice A n c) n (intV (marksI k n)) ∧ w.grownBy w' (Value.slice A n c).ownBlock
theorem own_lift {w : World} {lo s n : Nat} {t : TypeId} {v : Value} {xs ys : List Value} (h : w.ownsRow 0 t s v n xs) (hlo : ∀ k, v.ownBlock = some k → lo ≤ k) : w.ownsRow lo t s v n xs :=
  ⟨h.1, by
    rcases h.2 with h2 | ⟨g, cap, cur, h1, h2, h3⟩
    · exact .inl h2
    · exact .inr ⟨g, cap, cur, h1, hlo g (by rw [h1]; rfl), h3⟩⟩
end
end Go.Proofs.YthlilfdndpnbkaaGreatDoor
