/-
  The contracts of impl's soundTable.numberOf and soundTable.soundOf.
-/
import Derived.Test.YtmbahbnadkmnkaaSndT
import Derived.Test.YtmbahbnadkmnkaaClass
import Derived.Laws.IdiomStrings
import Derived.IntWalk
import Derived.Deep.AppendLies
namespace Go.Proofs.Ytmbahbnadkmnkaa
set_option linter.unusedVariables false
open Go.RowKit

theorem info_u8 : (Try.prog.info? 5).map (fun i => (i.zero, i.size, i.bytes)) = some (some (.int .u8 0), 1, 1) := by kernel_rfl
def chV (l : List UInt8) : List Value := l.map fun c => .int .u8 (c.toNat : Int)
theorem chV_len (l : List UInt8) : (chV l).length = l.length := by simp [chV]
theorem chV_snoc (l : List UInt8) (c : UInt8) : chV l ++ [.int .u8 (c.toNat : Int)] = chV (l ++ [c]) := by simp [chV]
theorem chV_at {l : List UInt8} {j : Nat} (h : j < l.length) : (chV l)[j]? = some (.int .u8 (l[j].toNat : Int)) := by simp [chV, h]

theorem quiet_row {P : Program} {T : Type} {f : T → World} {o : Oper} {a : Act} {K : Act → Prop} (ty : TypeId) (x : Operand) (ho : o.op = .load ty x)
    (g : Nat) (hx : a.eval x = .pointer (some ⟨g, 0, none⟩)) (t : TypeId) (cs : Array Value) (fr : Nat × Nat) (d : TypeDesc) (hg : ∀ u, (f u).heap[g]? = some (.cells cs t fr))
    (hu : P.underlying ty = some d) (hd : (match d with | .struct _ | .array _ _ => true | _ => false) = true) (hi : (P.info? ty).map (·.size) = some cs.size)
    (hk : K (a.put o.dst (.agg cs))) : o.quiet P a (fun w' => ∃ u, w' = f u) K := by
  refine ⟨.agg cs, ?_, hk⟩
  rintro w ⟨u, rfl⟩
  unfold Oper.quietAt execOp
  simp only [ho, hx, Instr.loadAt, Instr.sureAddr, Sem.run_bind, Sem.run_pure, Result.andThen_ok, run_loadVar_row (f u) g t ty cs fr d (hg u) hu hd hi]
  exact ⟨rfl, rfl⟩

set_option maxHeartbeats 1000000 in
set_option maxRecDepth 100000 in
theorem cNumOf (xs : List Int) (c : UInt8) (w : World) (h : tabB xs = true) (h1 : (97 : Int) ≤ (c.toNat : Int)) (h2 : (c.toNat : Int) ≤ 122) :
    Calls Try.prog 74 #[.agg (agC xs), .int .u8 (c.toNat : Int)] w fun e w' => e = .returned (.int .i64 (numC xs c)) ∧ Below w.heap.size w w' := by
  have hx := agC_at (numC_at h h1 h2)
  have hs : (agC xs).size = 26 := by rw [agC_size, tab_len h]
  obtain ⟨x, hxx⟩ : ∃ x, x = numC xs c := ⟨_, rfl⟩
  rw [← hxx] at hx ⊢
  obtain ⟨cs, hcs⟩ : ∃ cs, cs = agC xs := ⟨_, rfl⟩
  rw [← hcs] at hx hs ⊢
  obtain ⟨m, hm⟩ : ∃ m, m = c.toNat - 97 := ⟨_, rfl⟩
  rw [← hm] at hx
  have e1 : IntKind.u8.wrap ((c.toNat : Int) - 97) = (m : Int) := by rw [IntWalk.u8_in _ (by omega)]; omega
  have e2 : m < 26 := by omega
  have T0 := TabAt.new w 75 cs
  have k0 : (w.alloc (.cells cs 75)).cell? ⟨w.heap.size, m, none⟩ = some (.int .i64 x) := (T0.cell m).trans hx
  have HS := Lib.hid hs
  have B0 := Lib.hid ((Below.refl w.heap.size w).alloc (Nat.le_refl _) (.cells cs 75))
  clear hx hs hxx hcs hm T0 h
  go_enter Try.func74, Try.ntmps74
  go_wp2
  go_ret
  exact ⟨rfl, B0.out⟩
theorem ownsLit8 (w : World) (c : UInt8) : (w.alloc (.cells #[.int .u8 (c.toNat : Int)] 5)).ownsRow w.heap.size 5 1 (.slice (some ⟨w.heap.size, 0, none⟩) 1 1) 1 (chV [c]) :=
  World.ownsRow_lit (e := 5) (base := w.heap.size) (size := 1) w #[.int .u8 (c.toNat : Int)] 1 (Nat.le_refl _) (by decide) rfl
theorem ownsRow_keep {w w' : World} {B s n : Nat} {t : TypeId} {v : Value} {xs : List Value} (h : w.ownsRow B t s v n xs) (hb : Below w.heap.size w w') : w'.ownsRow B t s v n xs := by
  refine World.ownsRow.kept h (bgr hb none) ?_
  cases hC : v.ownBlock with
  | none => exact .inl rfl
  | some x => exact .inr (fun e => by cases e)
theorem sndU_first (xs : List Int) (s : ByteArray) (h : 0 < s.size) : sndU xs s 0 = [s[0]] := by
  have := take_snoc s 0 h
  rw [List.take_zero, List.nil_append] at this
  exact this
theorem fill_of {l : List UInt8} {j : Nat} (h1 : 1 ≤ l.length) (hm : 4 ≤ l.length + j) (hj : j = 0 ∨ l.length + j ≤ 4) : fillL l = (l ++ List.replicate j 48).take 4 := by
  rcases hj with rfl | hj
  · rw [List.replicate_zero, List.append_nil]; exact fillL_long (by omega)
  · rw [fillL_short h1 (show l.length + j = 4 by omega), List.take_of_length_le (by rw [List.length_append, List.length_replicate]; omega)]
def slLen : Value → Nat
  | .slice _ n _ => n
  | _ => 0
set_option maxHeartbeats 2000000 in
set_option maxRecDepth 100000 in
theorem cSoundOfI (xs : List Int) (s : ByteArray) (w : World) (h : tabB xs = true) (hw : wordB s = true) :
    Calls Try.prog 59 #[.agg (agC xs), .string s] w fun e w' => e = .returned (.string (sndB xs s)) ∧ Below w.heap.size w w' := by
  obtain ⟨i0, hi0, hz0, hz1, hz2⟩ := info_parts info_u8
  have hws := word_size s hw
  have hp1 := hws.1
  have hp2 := hws.2
  have HLOW := Lib.hid (word_low hw)
  have HTB := Lib.hid h
  have HAS : Hid ((agC xs).size = 26) := Lib.hid (by rw [agC_size, tab_len h])
  have CN := Lib.hid (fun c W h1 h2 => cNumOf xs c W h h1 h2)
  have hb1 : (97 : Int) ≤ (s[0].toNat : Int) := (low_at (word_low hw) (by omega)).1
  have p0 : (0 : Int) < (s.size : Int) := by omega
  have HFST := Lib.hid (sndU_first xs s hp1)
  have T0 : Hid (TabAt (w.alloc (.cells (agC xs) 75)) w.heap.size 75 (agC xs)) := Lib.hid (TabAt.new w _ _)
  have B0 := Lib.hid ((Below.refl w.heap.size w).alloc (Nat.le_refl _) (.cells (agC xs) 75))
  have HZ0 : Hid ((w.alloc (.cells (agC xs) 75)).heap.size = w.heap.size + 1) := Lib.hid (by simp)
  have own0 := ownsLit8 (w.alloc (.cells (agC xs) 75)) s[0]
  have bel0 : Below (w.alloc (.cells (agC xs) 75)).heap.size (w.alloc (.cells (agC xs) 75)) ((w.alloc (.cells (agC xs) 75)).alloc (.cells #[.int .u8 (s[0].toNat : Int)] 5)) := (Below.refl _ _).alloc (Nat.le_refl _) _
  rw [← HFST.out] at own0
  obtain ⟨W0, hW0⟩ : ∃ W0, W0 = w.alloc (.cells (agC xs) 75) := ⟨_, rfl⟩
  have HW0 := Lib.hid hW0
  obtain ⟨cs, hcs⟩ : ∃ cs, cs = agC xs := ⟨_, rfl⟩
  rw [← hcs] at HAS CN ⊢
  rw [← hW0] at T0 B0 HZ0 own0 bel0
  rw [← hcs] at hW0 HW0 T0
  rw [HZ0.out] at own0 bel0
  have HO0 := Lib.hid own0
  have HB0 := Lib.hid bel0
  clear h hw hws hb1 own0 bel0 hcs hW0
  go_enter Try.func59, Try.ntmps59
  go_wp2_with fail
  rw [← HW0.out]
  go_loopw [5, 6, 7] (fun sv i nv wr => ∃ (k m : Nat) (v u : Value), v = sv ∧ u = nv ∧ k < s.size ∧ i = .int .i64 ((k : Int) + 1) ∧ Hid (m = (sndU xs s k).length) ∧ m ≤ k + 1 ∧ Hid (wr.ownsRow (w.heap.size + 1) 5 1 v m (chV (sndU xs s k))) ∧ Hid (Below (w.heap.size + 1) W0 wr)) (fun _ i _ _ => s.size + 1 - (intOf i).toNat)
  case atStart => exact ⟨0, 1, _, _, rfl, rfl, hp1, rfl, Lib.hid (by rw [HFST.out]; rfl), by omega, HO0, HB0⟩
  case round =>
    obtain ⟨k, m, v, u, rfl, rfl, hk, rfl, HM, hm, HO, HB⟩ := hrel
    clear HO0 HB0
    by_cases hlt : k + 1 < s.size
    · have c1 := low_at HLOW.out hlt
      have c2 := low_at HLOW.out hk
      have hq := numK_bd HTB.out s (k + 1)
      have hq0 := numK_bd HTB.out s k
      have HQ : Hid (numC xs s[k + 1] = numK xs s (k + 1)) := Lib.hid (numK_at xs s (k + 1) hlt).symm
      have HQ0 : Hid (numC xs s[k] = numK xs s k) := Lib.hid (numK_at xs s k hk).symm
      have HGY : Hid (numK xs s (k + 1) ≠ 0 → numK xs s (k + 1) ≠ numK xs s k → sndU xs s (k + 1) = sndU xs s k ++ [digC (numK xs s (k + 1))]) := Lib.hid (fun a b => sndU_yes (gives_yes a (by rw [Nat.add_sub_cancel]; exact b)))
      have HGN : Hid ((numK xs s (k + 1) = 0 ∨ numK xs s (k + 1) = numK xs s k) → sndU xs s (k + 1) = sndU xs s k) := Lib.hid (fun a => sndU_no (gives_no (by rw [Nat.add_sub_cancel]; exact a)))
      have CN1 : Hid (∀ W, Calls Try.prog 74 #[.agg cs, .int .u8 (s[k + 1].toNat : Int)] W fun e w' => e = .returned (.int .i64 (numK xs s (k + 1))) ∧ Below W.heap.size W w') := Lib.hid (fun W => by rw [← HQ.out]; exact CN.out _ W c1.1 c1.2)
      have CN0 : Hid (∀ W, Calls Try.prog 74 #[.agg cs, .int .u8 (s[k].toNat : Int)] W fun e w' => e = .returned (.int .i64 (numK xs s k)) ∧ Below W.heap.size W w') := Lib.hid (fun W => by rw [← HQ0.out]; exact CN.out _ W c2.1 c2.2)
      obtain ⟨q, hqe⟩ : ∃ q, q = numK xs s (k + 1) := ⟨_, rfl⟩
      obtain ⟨q0, hqe0⟩ : ∃ q0, q0 = numK xs s k := ⟨_, rfl⟩
      rw [← hqe] at hq CN1 HGY HGN
      rw [← hqe0] at hq0 CN0 HGY HGN
      have T1 : Hid (TabAt wr w.heap.size 75 cs) := Lib.hid (T0.out.below HB.out (by omega))
      have HSZ := Lib.hid HB.out.size
      obtain ⟨ty1, f, t0, hT, ht0, hf, hback⟩ := class_of wr
      have HROW : Hid (∀ t, (f t).heap[w.heap.size]? = some (.cells cs 75 (0, 0))) := Lib.hid (fun t => T1.out.below (hf t) (by have := HSZ.out; have := HZ0.out; omega))
      have HF := Lib.hid hf
      have HK := Lib.hid hback
      have i1 : (0 : Int) ≤ (k : Int) + 1 := by omega
      have i2 : (k : Int) + 1 < (s.size : Int) := by omega
      have i3 : ((k : Int) + 1).toNat = k + 1 := by omega
      clear hf hback c1 c2 hqe hqe0 HQ HQ0
      go_wp2_with fail
      refine wp_region_class f t0 ht0 (by kernel_rfl) (by kernel_rfl) ?_
      clear ht0
      repeat (first
        | (go_big_quiet_want; refine quiet_row _ _ rfl w.heap.size rfl 75 _ (0, 0) _ HROW.out Try.underlying75 rfl (size26.trans (by rw [HAS.out])) ?_; go_simp; go_big_quiet_on)
        | go_big_quiet_step (first | (go_at_call 74; exact Calls.class_of HF.out HK.out (CN1.out _))))
      refine wpQuiet_nil ?_
      rintro w5 ⟨t5, rfl⟩
      have hb5 := HF.out t5
      have HO5 : Hid ((f t5).ownsRow (w.heap.size + 1) 5 1 v m (chV (sndU xs s k))) := Lib.hid (ownsRow_keep HO.out hb5)
      have HB5 : Hid (Below (w.heap.size + 1) W0 (f t5)) := Lib.hid (HB.out.trans (hb5.mono (by have := HSZ.out; have := HZ0.out; omega)))
      have T5 : Hid (TabAt (f t5) w.heap.size 75 cs) := Lib.hid (HROW.out t5)
      obtain ⟨w6, hw6⟩ : ∃ w6, w6 = f t5 := ⟨_, rfl⟩
      rw [← hw6] at HO5 HB5 T5 ⊢
      clear hb5 hw6 HROW HF HK hT HO HB T1 HSZ
      obtain ⟨ty1, f, t0, hT, ht0, hf, hback⟩ := class_of w6
      have HROW : Hid (∀ t, (f t).heap[w.heap.size]? = some (.cells cs 75 (0, 0))) := Lib.hid (fun t => T5.out.below (hf t) (by have := HB5.out.size; have := HZ0.out; omega))
      have HF := Lib.hid hf
      have HK := Lib.hid hback
      have j1 : (k : Int) + 1 - 1 = (k : Int) := by omega
      have j2 : (0 : Int) ≤ (k : Int) := Int.natCast_nonneg _
      have j3 : (k : Int) < (s.size : Int) := by omega
      clear hf hback
      by_cases hq0' : q = 0
      · have HG2 := Lib.hid (HGN.out (.inl hq0'))
        subst hq0'
        go_wp2_with fail
        refine wp_region_class f t0 ht0 (by kernel_rfl) (by kernel_rfl) ?_
        clear ht0
        repeat (first
          | (go_big_quiet_want; refine quiet_row _ _ rfl w.heap.size rfl 75 _ (0, 0) _ HROW.out Try.underlying75 rfl (size26.trans (by rw [HAS.out])) ?_; go_simp; go_big_quiet_on)
          | go_big_quiet_step (first | (go_at_call 74; exact Calls.class_of HF.out HK.out (CN0.out _))))
        refine wpQuiet_nil ?_
        rintro w7 ⟨t7, rfl⟩
        have hb7 := HF.out t7
        have HO7 : Hid ((f t7).ownsRow (w.heap.size + 1) 5 1 v m (chV (sndU xs s k))) := Lib.hid (ownsRow_keep HO5.out hb7)
        have HB7 : Hid (Below (w.heap.size + 1) W0 (f t7)) := Lib.hid (HB5.out.trans (hb7.mono (by have := HB5.out.size; have := HZ0.out; omega)))
        clear hb7 HROW HF HK hT HO5 HB5 T5
        go_wp2_with fail
        go_roundw
        case rel => exact ⟨k + 1, m, v, _, rfl, rfl, hlt, by go_num, Lib.hid (by rw [HG2.out]; exact HM.out), by omega, Lib.hid (by rw [HG2.out]; exact HO7.out), HB7⟩
        case measure => simp [intOf]; omega
      · have d1 : (q != 0) = true := by simp; exact hq0'
        have d2 : (q == 0) = false := by simp; exact hq0'
        have e1 : IntKind.u8.wrap q = q := IntWalk.u8_in _ (by omega)
        have e2 : IntKind.u8.wrap (48 + q) = 48 + q := IntWalk.u8_in _ (by omega)
        by_cases hqq : q = q0
        · have HG2 := Lib.hid (HGN.out (.inr hqq))
          subst hqq
          go_wp2_with fail
          refine wp_region_class f t0 ht0 (by kernel_rfl) (by kernel_rfl) ?_
          clear ht0
          repeat (first
            | (go_big_quiet_want; refine quiet_row _ _ rfl w.heap.size rfl 75 _ (0, 0) _ HROW.out Try.underlying75 rfl (size26.trans (by rw [HAS.out])) ?_; go_simp; go_big_quiet_on)
            | go_big_quiet_step (first | (go_at_call 74; exact Calls.class_of HF.out HK.out (CN0.out _))))
          refine wpQuiet_nil ?_
          rintro w7 ⟨t7, rfl⟩
          have hb7 := HF.out t7
          have HO7 : Hid ((f t7).ownsRow (w.heap.size + 1) 5 1 v m (chV (sndU xs s k))) := Lib.hid (ownsRow_keep HO5.out hb7)
          have HB7 : Hid (Below (w.heap.size + 1) W0 (f t7)) := Lib.hid (HB5.out.trans (hb7.mono (by have := HB5.out.size; have := HZ0.out; omega)))
          clear hb7 HROW HF HK hT HO5 HB5 T5
          go_wp2_with fail
          go_roundw
          case rel => exact ⟨k + 1, m, v, _, rfl, rfl, hlt, by go_num, Lib.hid (by rw [HG2.out]; exact HM.out), by omega, Lib.hid (by rw [HG2.out]; exact HO7.out), HB7⟩
          case measure => simp [intOf]; omega
        · have HG2 := Lib.hid (HGY.out hq0' hqq)
          have HD : Hid (((digC q).toNat : Int) = 48 + q) := Lib.hid (digC_nat q hq.1 hq.2)
          have d3 : (q != q0) = true := by simp; exact hqq
          have d4 : (q == q0) = false := by simp; exact hqq
          go_wp2_with fail
          refine wp_region_class f t0 ht0 (by kernel_rfl) (by kernel_rfl) ?_
          clear ht0
          repeat (first
            | (go_big_quiet_want; refine quiet_row _ _ rfl w.heap.size rfl 75 _ (0, 0) _ HROW.out Try.underlying75 rfl (size26.trans (by rw [HAS.out])) ?_; go_simp; go_big_quiet_on)
            | go_big_quiet_step (first | (go_at_call 74; exact Calls.class_of HF.out HK.out (CN0.out _))))
          refine wpQuiet_nil ?_
          rintro w7 ⟨t7, rfl⟩
          have hb7 := HF.out t7
          have HO7 : Hid ((f t7).ownsRow (w.heap.size + 1) 5 1 v m (chV (sndU xs s k))) := Lib.hid (ownsRow_keep HO5.out hb7)
          have HB7 : Hid (Below (w.heap.size + 1) W0 (f t7)) := Lib.hid (HB5.out.trans (hb7.mono (by have := HB5.out.size; have := HZ0.out; omega)))
          obtain ⟨w8, hw8⟩ : ∃ w8, w8 = f t7 := ⟨_, rfl⟩
          rw [← hw8] at HO7 HB7 ⊢
          have HSZ8 : Hid (w.heap.size + 1 ≤ w8.heap.size) := Lib.hid (by have := HB7.out.size; have := HZ0.out; omega)
          clear hb7 HROW HF HK hT HO5 HB5 T5 hw8
          go_wp2_with (first
            | (at_builtin; refine wpList_append_own _ rfl _ _ 22 rfl (w.heap.size + 1) 5 i0 _ 1 1 Try.underlying22 hi0 hz0 hz1 hz2 rfl (by decide) _ _ _ rfl (World.ownsRow.alloc (w := w8) HO7.out _) ⟨w8.heap.size, 0, none⟩ 1 1 [.int .u8 (48 + q)] rfl rfl ?c1 ?c2 ?c3 ?c4 ?c5 ?_))
          case c1 => exact one_cell' _ _ _ (new_one w8 _ _)
          case c2 => intro u hu; simp at hu; subst hu; rfl
          case c3 => unfold maxLen; omega
          case c4 => omega
          case c5 => have := HSZ8.out; simp; omega
          intro v' w9 hown9 hgrow9 _
          rw [← HD.out, chV_snoc, ← HG2.out] at hown9
          have HO9 := Lib.hid hown9
          have HB9 : Hid (Below (w.heap.size + 1) W0 w9) := Lib.hid ((HB7.out.alloc (by have := HSZ8.out; omega) _).grown hgrow9 (by have := HSZ8.out; simp; omega) (fun x hx => (HO7.out.lt x hx).1))
          have HM9 : Hid (m + 1 = (sndU xs s (k + 1)).length) := Lib.hid (by rw [HG2.out, List.length_append, ← HM.out]; rfl)
          clear hown9 hgrow9
          go_wp2_with fail
          go_roundw
          case rel => exact ⟨k + 1, m + 1, v', _, rfl, rfl, hlt, by go_num, HM9, by omega, HO9, HB9⟩
          case measure => simp [intOf]; omega
    · have hkz : k = s.size - 1 := by omega
      have HFL : Hid (sndL xs s = fillL (sndU xs s k)) := Lib.hid (by unfold sndL; rw [hkz])
      have HML : Hid (1 ≤ m) := Lib.hid (by rw [HM.out]; exact sndU_pos xs s k hp1)
      obtain ⟨l, hl⟩ : ∃ l, l = sndU xs s k := ⟨_, rfl⟩
      rw [← hl] at HM HO HFL
      have HO1 : Hid (wr.ownsRow (w.heap.size + 1) 5 1 v (m + 0) (chV (l ++ List.replicate 0 48))) := Lib.hid (by rw [List.replicate_zero, List.append_nil]; exact HO.out)
      clear hl hkz HO
      have i2 : ¬ ((k : Int) + 1 < (s.size : Int)) := by omega
      go_wp2_with fail
      go_loopw [5] (fun sv wr => ∃ (j m : Nat) (v : Value), v = sv ∧ Hid (m = l.length + j) ∧ Hid (1 ≤ m) ∧ m ≤ 100 ∧ (j = 0 ∨ m ≤ 4) ∧ Hid (wr.ownsRow (w.heap.size + 1) 5 1 v m (chV (l ++ List.replicate j 48))) ∧ Hid (Below (w.heap.size + 1) W0 wr)) (fun sv _ => 4 - slLen sv)
      case atStart => exact ⟨0, m, v, rfl, HM, HML, by omega, .inl rfl, HO1, HB⟩
      case round =>
        have HLL : Hid (1 ≤ l.length) := Lib.hid (by have := HM.out; have := HML.out; omega)
        clear HO1 HB HM HML hm
        obtain ⟨j, m, v, rfl, HM, HML, hm, hj, HO, HB⟩ := hrel
        obtain ⟨g, cap, rfl, hg1, hg2⟩ := HO.out.form HML.out
        have HSZ : Hid (w.heap.size + 1 ≤ wr.heap.size) := Lib.hid (by have := HB.out.size; have := HZ0.out; omega)
        by_cases hlt : m < 4
        · go_wp2_with (first
            | (at_builtin; refine wpList_append_own _ rfl _ _ 22 rfl (w.heap.size + 1) 5 i0 _ 1 1 Try.underlying22 hi0 hz0 hz1 hz2 rfl (by decide) _ _ _ rfl (World.ownsRow.alloc (w := wr) HO.out _) ⟨wr.heap.size, 0, none⟩ 1 1 [.int .u8 (48)] rfl rfl ?c1 ?c2 ?c3 ?c4 ?c5 ?_))
          case c1 => exact one_cell' _ _ _ (new_one wr _ _)
          case c2 => intro u hu; simp at hu; subst hu; rfl
          case c3 => unfold maxLen; omega
          case c4 => omega
          case c5 => have := HSZ.out; simp; omega
          intro v' w9 hown9 hgrow9 _
          have h48 : chV (l ++ List.replicate j 48) ++ [Value.int IntKind.u8 48] = chV (l ++ List.replicate (j + 1) 48) := by
            rw [show (48 : Int) = ((48 : UInt8).toNat : Int) from rfl, chV_snoc, List.append_assoc, List.replicate_succ']
          rw [h48] at hown9
          obtain ⟨g2, cap2, rfl, _, _⟩ := hown9.form (Nat.succ_pos _)
          have HO9 := Lib.hid hown9
          have HB9 : Hid (Below (w.heap.size + 1) W0 w9) := Lib.hid ((HB.out.alloc (by have := HSZ.out; omega) _).grown hgrow9 (by have := HSZ.out; simp; omega) (fun x hx => (HO.out.lt x hx).1))
          clear hown9 hgrow9 h48
          go_wp2_with fail
          go_roundw
          case rel => exact ⟨j + 1, m + 1, _, rfl, Lib.hid (by rw [HM.out]; rfl), Lib.hid (by omega), by omega, .inr (by omega), HO9, HB9⟩
          case measure => simp [slLen]; omega
        · have hcap : m ≤ cap := by
            rcases HO.out.2 with ⟨e, _⟩ | ⟨g', cap', cur, e, _, _, h1, _⟩
            · cases e
            · cases e; exact h1
          have HF2 : Hid (sndL xs s = (l ++ List.replicate j 48).take 4) := Lib.hid (by
            rw [HFL.out]; exact fill_of HLL.out (by have := HM.out; omega) (by have := HM.out; rcases hj with h | h; exact .inl h; exact .inr (by omega)))
          have hcv := run_convert_bytes_back (P := Try.prog) wr 22 9 5 ⟨g, 0, none⟩ cap (sndL xs s) Try.underlying22 Try.underlying5 Try.underlying9 (by
            intro i hi
            have hi4 : i < 4 := by rw [sndL_len xs s hp1] at hi; exact hi
            have hlen : (l ++ List.replicate j 48).length = m := by rw [List.length_append, List.length_replicate]; exact HM.out.symm
            rw [add_plain', Nat.zero_add, HO.out.cellAt i (by omega), chV_at (by rw [hlen]; omega)]
            congr 3
            simp only [HF2.out, List.getElem_take])
          rw [sndL_len xs s hp1] at hcv
          have HCV : Hid (sndB xs s = ⟨(sndL xs s).toArray⟩) := Lib.hid rfl
          rw [← HCV.out] at hcv
          have i4 : (4 : Int) ≤ (cap : Int) := by omega
          have HB2 : Hid (Below w.heap.size w wr) := Lib.hid (B0.out.trans (HB.out.mono (by omega)))
          clear HF2
          go_wp2_with fail
          go_ret
          exact ⟨rfl, HB2.out⟩
end Go.Proofs.Ytmbahbnadkmnkaa
