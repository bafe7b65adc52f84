/-
  The contract of impl.readNumbers at any separator.
-/
import Derived.Test.YtnodnjaajaemcabDoorReadNPlain
import Derived.Test.YtnodnjaajaemcabDoorShelf
namespace Go.Proofs.YtnodnjaajaemcabDoor
set_option linter.unusedVariables false
open Go.RowKit

def In64 (xs : List Int) : Prop := ∀ x ∈ xs, -9223372036854775808 ≤ x ∧ x ≤ 9223372036854775807
/-- What reading s as numbers with a separator gives: the numbers, or none. -/
def RNum (sp : UInt8) (most : Nat) (s : ByteArray) : Option (List Int) → Prop
  | some vs => 0 < vs.length ∧ vs.length ≤ most ∧ In64 vs ∧ s = jB sp (nums vs)
  | none => ∀ vs, 0 < vs.length → vs.length ≤ most → In64 vs → s ≠ jB sp (nums vs)
theorem RNum.have_ (sp : UInt8) (most : Nat) (s : ByteArray) : ∃ o, RNum sp most s o := by
  by_cases h2 : ∃ vs : List Int, 0 < vs.length ∧ vs.length ≤ most ∧ In64 vs ∧ s = jB sp (nums vs)
  · obtain ⟨vs, h⟩ := h2
    exact ⟨some vs, h⟩
  · exact ⟨none, fun vs a b c d => h2 ⟨vs, a, b, c, d⟩⟩
theorem readN_64 {Q : List ByteArray} {vs : List Int} (h : Q.map rN = vs.map some) : In64 vs := by
  intro x hx
  have h1 : some x ∈ vs.map some := List.mem_map_of_mem hx
  rw [← h] at h1
  obtain ⟨q, _, hq⟩ := List.mem_map.1 h1
  exact (rN_some hq).2
def RNPost (o : Option (List Int)) (w : World) (e : Ending) (w' : World) : Prop :=
  (o = none ∧ e = .returned (.tuple #[.slice none 0 0, .bool false]) ∧ Below w.heap.size w w') ∨
  (∃ vs g c, o = some vs ∧ e = .returned (.tuple #[.slice (some ⟨g, 0, none⟩) vs.length c, .bool true]) ∧ w'.ownsRow w.heap.size 2 1 (.slice (some ⟨g, 0, none⟩) vs.length c) vs.length (intV vs) ∧ Below w.heap.size w w')

set_option maxHeartbeats 2000000 in
set_option maxRecDepth 100000 in
theorem cReadN (sp : UInt8) (hsp : NoS sp) (most : Nat) (h1m : 1 ≤ most) (hm6 : most ≤ 60) (s : ByteArray) (o : Option (List Int)) (w : World) (hs : s.size ≤ 1073741824) (hl : Laid w) (hsh : w.ShapedOpen Tryd.prog) (hcase : RNum sp most s o) :
    Calls Tryd.prog 34 #[.string s, .string (sepB sp), .int .i64 (most : Int)] w (RNPost o w) := by
  obtain ⟨i0, hi0, hz0, hz1, hz2⟩ := info_parts info_i64
  obtain ⟨hq0, hq1, hq2, hq3⟩ := cutN_facts sp (most + 1) s (by omega)
  have hc := Tryd.strings_SplitN_shaped s (sepB sp) (most + 1) w hsh (by omega) (by show 1 ≤ 1; omega) (by omega) (by omega)
  have hsz : ∀ x ∈ cutN sp (most + 1) s, x.size ≤ 1073741824 := fun x hx => Nat.le_trans (piece_sz sp _ s x hx) hs
  have hjoin : (cutN sp (most + 1) s).length ≤ most → s = jB sp (cutN sp (most + 1) s) := fun h => by rw [hq2 (by omega)]; exact (join_pieces sp s.size s (Nat.le_refl _)).symm
  have hcut : ∀ vs : List Int, 0 < vs.length → vs.length ≤ most → s = jB sp (nums vs) → cutN sp (most + 1) s = nums vs := by
    intro vs h1 h2 h3
    have h4 : piecesB sp s = nums vs := by rw [h3]; exact pieces_nums sp hsp vs h1
    have h5 : (nums vs).length = vs.length := by simp [nums]
    rw [hq3 (by rw [h4, h5]; omega), h4]
  change Calls _ _ _ _ (fun e w' => e = .returned (.slice _ (cutN sp (most + 1) s).length _) ∧ w' = w.alloc (.cells (Lib.cellsOf (cutN sp (most + 1) s) _) _)) at hc
  generalize hQ : cutN sp (most + 1) s = Q at *
  generalize min (most + 1) (s.size + 1) = N at *
  obtain ⟨n, hn⟩ : ∃ n, n = Q.length := ⟨_, rfl⟩
  rw [← hn] at hq0 hq1 hc hjoin
  rw [show (((most + 1 : Nat) : Int)) = (most : Int) + 1 by omega] at hc
  have HN := Lib.hid hn
  have HC := Lib.hid hc
  have HS := Lib.hid hsz
  have HJ := Lib.hid hjoin
  have HL := Lib.hid hl
  have HCU := Lib.hid hcut
  have HR := Lib.hid hcase
  have hn61 : n ≤ 61 := by omega
  have hm1 : (most : Int) + 1 ≤ 61 := by omega
  have hm0 : (0 : Int) ≤ (most : Int) := by omega
  clear hn hc hsz hjoin hcase hsh hq2 hq3 hl hcut hQ hsp
  go_enter Tryd.func34, Tryd.ntmps34
  go_wp2_with fail
  refine (show Calls Tryd.prog 22 #[.string s, .string (sepB sp), .int .i64 ((most : Int) + 1)] _ _ from HC.out).mono ?_
  rintro e w1 ⟨rfl, hw1⟩
  have hb1 : Below w.heap.size w w1 := by rw [hw1]; exact (Below.refl _ _).alloc (Nat.le_refl _) _
  have hl1 : w.heap.size < w1.heap.size := by rw [hw1]; simp
  have HK : Hid (∀ (j : Nat) x, Q[j]? = some x → w1.cell? ⟨w.heap.size, j, none⟩ = some (.string x)) := Lib.hid (fun j x hx => by
    rw [hw1, World.cell?_alloc_at _ _ _ _ rfl]
    unfold Lib.cellsOf
    have hj := (List.getElem?_eq_some_iff.1 hx).1
    rw [List.getElem?_toArray, List.getElem?_append_left (by simpa using hj)]
    simp [hx])
  clear hw1
  by_cases hbig : most < n
  · have hO : o = none := by
      cases o with
      | none => rfl
      | some vs =>
        exfalso
        obtain ⟨a, b, _, d⟩ := HR.out
        have h1 := HCU.out vs a b d
        have h2 := HN.out
        rw [h1] at h2
        simp [nums] at h2
        omega
    have z1 : (most : Int) < (n : Int) := by omega
    clear hbig
    go_wp2_with fail
    go_ret2
    exact .inl ⟨hO, rfl, hb1⟩
  have z1 : (n : Int) ≤ (most : Int) := by omega
  have z2 : decide (most < n) = false := decide_eq_false hbig
  go_wp2_with (at_make; refine wpList_make_full _ rfl _ _ 28 rfl w1.heap.size 2 i0 _ 1 Tryd.underlying28 hi0 hz0 hz1 _ _ _ _ n rfl rfl (by simp) (by simp) ?b2 ?b3 (Nat.le_refl _) ?_)
  case b2 => rw [hz2]; omega
  case b3 => unfold maxLen; omega
  intro w2 hown2 hgrow2
  rw [zeroI_nil] at hown2
  have hb2 : Below w1.heap.size w1 w2 := (Below.refl _ _).grown hgrow2 (Nat.le_refl _) (fun k h => by cases h)
  clear hgrow2
  go_wp2_with fail
  go_loopw [28] (fun i wr => ∃ (k : Nat) (vs : List Int), k ≤ n ∧ i = .int .i64 k ∧ Hid (k = vs.length) ∧ Hid ((Q.take k).map rN = vs.map some) ∧ Hid (wr.ownsRow w1.heap.size 2 1 (.slice (some ⟨w1.heap.size, 0, none⟩) n n) n (zeroI vs n)) ∧ Below w1.heap.size w1 wr) (fun i _ => n - (intOf i).toNat)
  case atStart => exact ⟨0, [], Nat.zero_le _, rfl, Lib.hid rfl, Lib.hid rfl, Lib.hid hown2, hb2⟩
  case round =>
    clear hown2 hb2
    obtain ⟨k, vs, hk, rfl, HKV, HM, HRO, hbw⟩ := hrel
    have hb3 := hb1.trans (hbw.mono hb1.size)
    by_cases hlt : k < n
    · obtain ⟨x, hx⟩ : ∃ x, Q[k]? = some x := ⟨Q[k]'(by have := HN.out; omega), List.getElem?_eq_getElem _⟩
      have hcx : wr.cell? ⟨w.heap.size, k, none⟩ = some (.string x) := (hbw.cell (p := ⟨w.heap.size, k, none⟩) hl1).trans (HK.out k x hx)
      have CR := Lib.hid (cRead x wr (HS.out x (List.mem_of_getElem? hx)) (HL.out.below hb3))
      cases hr : rN x with
      | none =>
        have hO : o = none := by
          cases o with
          | none => rfl
          | some us =>
            exfalso
            obtain ⟨a, b, c6, d⟩ := HR.out
            have h1 := congrArg (fun l => l[k]?) (read_nums2 c6)
            rw [← HCU.out us a b d] at h1
            simp only [List.getElem?_map] at h1
            rw [hx] at h1
            simp only [Option.map_some, hr] at h1
            cases hv : us[k]? <;> rw [hv] at h1 <;> simp at h1
        rw [rV_none hr] at CR
        clear hx hr
        go_wp2_with fail
        refine CR.out.mono ?_
        rintro e w4 ⟨rfl, g4⟩
        go_wp2_with fail
        go_ret2
        exact .inl ⟨hO, rfl, hb3.trans (g4.mono hb3.size)⟩
      | some v =>
        have HT := Lib.hid (map_take_step HM.out hx hr)
        rw [rV_some hr] at CR
        clear hx hr
        go_wp2_with fail
        refine CR.out.mono ?_
        rintro e w4 ⟨rfl, g4⟩
        have hrow := HRO.out.kept (bgr g4 none) (row := none) (by simp [Value.ownBlock])
        obtain ⟨v4, c4⟩ : ∃ u, w4.cell? ⟨w1.heap.size, k, none⟩ = some u := by
          have h1 := hrow.1
          exact ⟨_, (hrow.cellAt k (by omega)).trans (List.getElem?_eq_getElem (by omega))⟩
        have f4 := hrow.frozenAt k
        have hst := (hrow.stored k (.int .i64 v)).1
        have hzs := zeroI_step vs n v (by have := HKV.out; omega)
        rw [← HKV.out] at hzs
        rw [hzs] at hst
        have hbw4 : Below w1.heap.size w1 (w4.setCell ⟨w1.heap.size, k, none⟩ (.int .i64 v)) := (hbw.trans (g4.mono hbw.size)).setCell (Nat.le_refl _) _
        have HST := Lib.hid hst
        clear hrow hst hzs
        go_wp2_with fail
        go_roundw
        case rel => exact ⟨k + 1, vs ++ [v], by omega, by go_num, Lib.hid (by rw [List.length_append, List.length_singleton, HKV.out]), HT, HST, hbw4⟩
        case measure => simp [intOf]; omega
    · obtain rfl : k = n := by omega
      have hmm := HM.out
      rw [List.take_of_length_le (by have := HN.out; omega)] at hmm
      have hqn := readAll_nums hmm
      have hrow := HRO.out
      rw [zeroI_all vs k HKV.out] at hrow
      have hO : o = some vs := by
        cases o with
        | none =>
          exfalso
          refine HR.out vs (by have := HKV.out; omega) (by have := HKV.out; omega) (readN_64 hmm) ?_
          rw [← hqn]; exact HJ.out (by omega)
        | some us =>
          obtain ⟨a, b, c6, d⟩ := HR.out
          have h1 := read_nums2 c6
          rw [← HCU.out us a b d, hmm] at h1
          rw [somes_inj h1]
      have hkv := HKV.out
      have HRW := Lib.hid (rowBase hrow hb1.size)
      clear hmm hqn hrow
      go_wp2_with fail
      go_ret2
      subst hkv
      exact .inr ⟨vs, _, _, hO, rfl, HRW.out, hb3⟩
end Go.Proofs.YtnodnjaajaemcabDoor
