/-
  The contract of impl.readNumber: the one decimal text of a number of 64 bits.
-/
import Derived.Test.YthlilfdndpnbkaaGreatDoorMg11
import Derived.Test.YthlilfdndpnbkaaGreatDoorMg12
import Derived.Lib.ParseIntBTie
import Derived.Lib.AtoiErrMem
namespace Go.Proofs.YthlilfdndpnbkaaGreatDoor
set_option linter.unusedVariables false
open Go.RowKit

def rN (s : ByteArray) : Option Int :=
  match Lib.parseIntB 64 s.data.toList with
  | .ok v => if numB v = s then some v else none
  | _ => none
theorem parse_bd {l : List UInt8} {v : Int} (h : Lib.parseIntB 64 l = .ok v) : -9223372036854775808 ≤ v ∧ v ≤ 9223372036854775807 := by
  have hb := Lib.parseIntB_bounds h
  have e : ((2 ^ (64 - 1) : Nat) : Int) = 9223372036854775808 := by decide
  rw [e] at hb
  omega
theorem rN_some {s : ByteArray} {v : Int} (h : rN s = some v) : numB v = s ∧ -9223372036854775808 ≤ v ∧ v ≤ 9223372036854775807 := by
  unfold rN at h
  split at h
  · rename_i u hu
    split at h
    · rename_i he
      obtain rfl := Option.some.inj h
      exact ⟨he, parse_bd hu⟩
    · cases h
  · cases h
theorem rN_of (v : Int) (h1 : -9223372036854775808 ≤ v) (h2 : v ≤ 9223372036854775807) : rN (numB v) = some v := by
  unfold rN
  rw [numB_data, parse_itoa v h1 h2]
  simp
def rV (s : ByteArray) : Value := match rN s with | some v => .tuple #[.int .i64 v, .bool true] | none => .tuple #[.int .i64 0, .bool false]
theorem rV_some {s : ByteArray} {v : Int} (h : rN s = some v) : rV s = .tuple #[.int .i64 v, .bool true] := by unfold rV; rw [h]
theorem rV_none {s : ByteArray} (h : rN s = none) : rV s = .tuple #[.int .i64 0, .bool false] := by unfold rV; rw [h]

/-- What the text of the library lays: the table of powers and the two errors. -/
def Laid (w : World) : Prop :=
  Lib.TabIs Tryz.prog w "internal/strconv.uint64pow10" .u64 Lib.pow10Tab ∧ (∃ tp p, w.var? Tryz.prog "strconv.ErrSyntax" = some #[.iface tp p]) ∧ ∃ tp p, w.var? Tryz.prog "strconv.ErrRange" = some #[.iface tp p]
theorem syn_named : Tryz.prog.globalNamed "strconv.ErrSyntax" = some 14 := by kernel_rfl
theorem rng_named : Tryz.prog.globalNamed "strconv.ErrRange" = some 15 := by kernel_rfl
theorem var_lt {w : World} {name : String} {g : Nat} {v : Value} (hg : Tryz.prog.globalNamed name = some g) (h : w.var? Tryz.prog name = some #[v]) : g < w.heap.size :=
  World.block_lt_of_cell? w _ (show w.cell? ⟨g, 0, none⟩ = some v from World.var?_cell hg h 0)
theorem Laid.below {w w' : World} (h : Laid w) (hb : Below w.heap.size w w') : Laid w' := by
  obtain ⟨h1, ⟨t2, p2, h2⟩, ⟨t3, p3, h3⟩⟩ := h
  have hgl : 10 < w.heap.size := World.block_lt_of_cell? w _ (h1.cell pow_named 0 (by rw [Lib.pow10Tab_length]; omega))
  exact ⟨tab_below hb pow_named hgl h1, ⟨t2, p2, var?_below hb syn_named (var_lt syn_named h2) h2⟩, ⟨t3, p3, var?_below hb rng_named (var_lt rng_named h3) h3⟩⟩

theorem toList_ne {a b : ByteArray} (h : a ≠ b) : (a.toList == b.toList) = false := by
  rw [beq_eq_false_iff_ne, ByteArray.toList_eq, ByteArray.toList_eq]
  exact fun e => h (ByteArray.ext (Array.toList_inj.1 e))
theorem rN_other {s : ByteArray} (h : ∀ v, Lib.parseIntB 64 s.data.toList ≠ .ok v) : rN s = none := by
  unfold rN
  split
  · rename_i v hv; exact absurd hv (h v)
  · rfl

set_option maxHeartbeats 1000000 in
set_option maxRecDepth 100000 in
theorem cRead (s : ByteArray) (w : World) (hs : s.size ≤ 1073741824) (hl : Laid w) :
    Calls Tryz.prog 97 #[.string s] w fun e w' => e = .returned (rV s) ∧ Below w.heap.size w w' := by
  have HL := Lib.hid hl
  clear hl
  rcases hp : Lib.parseIntB 64 s.data.toList with v | _ | _
  · have hbd := parse_bd hp
    have CP := Lib.hid (Tryz.strconv_ParseInt_10_at64_ok s (by omega) v hp)
    have CF := Lib.hid (fun W (hW : Below w.heap.size w W) => Tryz.strconv_FormatInt_10 v hbd.1 hbd.2 W (HL.out.below hW).1)
    by_cases he : numB v = s
    · have HV := Lib.hid (rV_some (show rN s = some v by unfold rN; rw [hp]; exact if_pos he))
      have hz : ((numB v).toList == s.toList) = true := by rw [he, beq_self_eq_true]
      clear hp he hbd
      go_enter Tryz.func97, Tryz.ntmps97
      go_wp2_with fail
      refine (CP.out _).mono ?_
      rintro e w1 ⟨rfl, hw1⟩
      have hb1 : Below w.heap.size w w1 := by
        rcases hw1 with rfl | ⟨t, rfl⟩
        · exact Below.refl _ _
        · exact Lib.bytesWorld_below _ _ _
      clear hw1
      go_wp2_with fail
      refine (show Calls _ _ _ _ (fun e w' => e = .returned (.string (numB v)) ∧ ∃ k os, w' = Sort.grow (w1.drewN k) os) from CF.out _ hb1).mono ?_
      rintro e w2 ⟨rfl, k, os, rfl⟩
      have hb2 := hb1.trans ((grow_below w1 k os).mono hb1.size)
      generalize Sort.grow (w1.drewN k) os = w2 at *
      go_wp2_with fail
      go_ret2
      exact ⟨by rw [HV.out]; rfl, hb2⟩
    · have HV := Lib.hid (rV_none (show rN s = none by unfold rN; rw [hp]; exact if_neg he))
      have hz : ((numB v).toList == s.toList) = false := toList_ne he
      clear hp he hbd
      go_enter Tryz.func97, Tryz.ntmps97
      go_wp2_with fail
      refine (CP.out _).mono ?_
      rintro e w1 ⟨rfl, hw1⟩
      have hb1 : Below w.heap.size w w1 := by
        rcases hw1 with rfl | ⟨t, rfl⟩
        · exact Below.refl _ _
        · exact Lib.bytesWorld_below _ _ _
      clear hw1
      go_wp2_with fail
      refine (show Calls _ _ _ _ (fun e w' => e = .returned (.string (numB v)) ∧ ∃ k os, w' = Sort.grow (w1.drewN k) os) from CF.out _ hb1).mono ?_
      rintro e w2 ⟨rfl, k, os, rfl⟩
      have hb2 := hb1.trans ((grow_below w1 k os).mono hb1.size)
      generalize Sort.grow (w1.drewN k) os = w2 at *
      go_wp2_with fail
      go_ret2
      exact ⟨by rw [HV.out]; rfl, hb2⟩
  all_goals
    have HV := Lib.hid (rV_none (rN_other (s := s) (fun v h => by rw [hp] at h; cases h)))
    obtain ⟨t1, p1, h1⟩ := HL.out.2.1
    obtain ⟨t2, p2, h2⟩ := HL.out.2.2
    have CP : Hid (∃ (n : Int) (t : TypeId), Calls Tryz.prog 133 #[.string s, .int .i64 10, .int .i64 64] w fun e w' => (∃ N, e = .returned (.tuple #[.int .i64 n, .iface t (.pointer (some ⟨N, 0, none⟩))])) ∧ Below w.heap.size w w') := Lib.hid (by
      first
        | exact ⟨_, _, (Any.strconv_ParseInt_10_at64_syntax_var Tryz.laysC174 s (by omega) hp t1 p1 w h1).mono fun e w' ⟨N, he, _, _, hb⟩ => ⟨⟨N, he⟩, hb⟩⟩
        | exact ⟨_, _, (Any.strconv_ParseInt_10_at64_range_var Tryz.laysC174 s (by omega) hp t2 p2 w h2).mono fun e w' ⟨N, he, _, _, hb⟩ => ⟨⟨N, he⟩, hb⟩⟩)
    obtain ⟨n, t, hcp⟩ := CP.out
    have CQ := Lib.hid hcp
    clear hcp CP hp h1 h2
    go_enter Tryz.func97, Tryz.ntmps97
    go_wp2_with fail
    refine CQ.out.mono ?_
    rintro e w1 ⟨⟨N, rfl⟩, hb1⟩
    go_wp2_with fail
    go_ret2
    exact ⟨by rw [HV.out]; rfl, hb1⟩
end Go.Proofs.YthlilfdndpnbkaaGreatDoor
