/-
  The contract of spec.l04Good.
-/
import Derived.Test.YtnfdbpfegmodcaaDrawRule
import Derived.Test.YtnfdbpfegmodcaaAddS
import Derived.Test.YtnfdbpfegmodcaaAddOut
namespace Go.Proofs.Ytnfdbpfegmodcaa
set_option linter.unusedVariables false
open Go.RowKit

theorem add_keep {rs : List Ru} {r : Ru} (h : addC rs r = 0) : addZ rs r = addL rs r ∧ tableB (addL rs r) = true := by
  have h1 : addOk rs r = true := by
    cases hx : addOk rs r with
    | true => rfl
    | false => rw [(add_bad hx).2] at h; exact absurd h (by decide)
  have h2 : addFits rs r = true := by
    cases hx : addFits rs r with
    | true => rfl
    | false => rw [(add_full h1 hx).2] at h; exact absurd h (by decide)
  exact ⟨(add_good h1 h2).1, by rw [addL_table h1]; exact h2⟩
theorem DTab.ofOwn {w : World} {B R g n c : Nat} {es : List El} (h : OwnR w B g n c es) (hR : R ≤ B) (h1 : ∀ r ∈ rulesOf es, 1 ≤ r.1.length) : DTab w R (.slice (some ⟨g, 0, none⟩) n c) es := by
  refine ⟨?_, fun e he => ?_⟩
  · have h9 := rowBase h.outer hR
    rw [h.1]; exact h9
  · have hm : 1 ≤ e.2.2.1.length := h1 e.2.2 (by unfold rulesOf; exact List.mem_map_of_mem he)
    exact rowBase ((h.2.inner e he).2.2 (by omega)) hR
theorem add_plainG (b o i : Nat) : (⟨b, o, none⟩ : Addr).add i = ⟨b, o + i, none⟩ := by
  unfold Addr.add
  split
  · rename_i h; simp_all
  · rfl
theorem rule_cells (w : World) (x y : Value) (t : TypeId) : ∀ (j : Nat) u, [x, y][j]? = some u → (w.alloc (.cells #[x, y] t)).cell? ((⟨w.heap.size, 0, none⟩ : Addr).add j) = some u := by
  intro j u h
  rw [add_plainG, Nat.zero_add, World.cell?_alloc_at _ _ _ _ rfl]
  match j, h with
  | 0, h => exact h
  | 1, h => exact h
theorem rule_one (A : Option Addr) (n c : Nat) (t : ByteArray) : ∀ u ∈ [Value.slice A n c, .string t], u.oneCell' = true := by
  intro u hu; simp at hu; rcases hu with rfl | rfl <;> rfl
def textsG : List ByteArray := [⟨#[97]⟩, ⟨#[98]⟩, ⟨#[115]⟩, ⟨#[104]⟩, ⟨#[115, 104]⟩, ⟨#[97, 98]⟩, ⟨#[99]⟩, ⟨#[]⟩]
/-- Small rules. -/
def SmlR (es : List El) : Prop := ∀ r ∈ rulesOf es, r.1.length ≤ 4 ∧ r.2.size ≤ 5
theorem SmlR.snoc {es : List El} (h : SmlR es) (q : El) (h1 : q.2.2.1.length ≤ 4) (h2 : q.2.2.2.size ≤ 5) : SmlR (es ++ [q]) := by
  intro r hr
  unfold rulesOf at hr
  rw [List.map_append, List.mem_append] at hr
  rcases hr with hr | hr
  · exact h r hr
  · simp at hr; subst hr; exact ⟨h1, h2⟩
theorem SmlR.max {es : List El} (h : SmlR es) : ∀ r ∈ rulesOf es, r.1.length ≤ maxLen ∧ r.2.size ≤ maxLen := fun r hr => by have := h r hr; unfold maxLen; omega
def GoodPost (B len : Nat) (w : World) (e : Ending) (w' : World) : Prop := ∃ (g c : Nat) (es : List El), 5 ≤ es.length ∧ es.length ≤ 8 ∧ e = .returned (.slice (some ⟨g, 0, none⟩) es.length c) ∧ DTab w' w.heap.size (.slice (some ⟨g, 0, none⟩) es.length c) es ∧ SmlR es ∧ Src w' B len ∧ w.grownBy w' (some B)
theorem DTab.form {w : World} {R : Nat} {v : Value} {es : List El} (h : DTab w R v es) (hp : 0 < es.length) : ∃ g c, v = .slice (some ⟨g, 0, none⟩) es.length c := by
  obtain ⟨g, c, hv, _⟩ := h.row.form hp
  exact ⟨g, c, hv⟩
theorem DTab.next {w w' : World} {B R : Nat} {v : Value} {es : List El} (h : DTab w R v es) (hg : w.grownBy w' (some B)) (hB : B < R) : DTab w' R v es := h.kept hg (fun x hx => by cases hx; exact hB)
theorem grown_below {a w w' : World} {B : Nat} (h : a.grownBy w (some B)) (hb : Below w.heap.size w w') : a.grownBy w' (some B) := grown_after h (bgr hb none) (fun x hx => by cases hx)
theorem src_belowG {w w' : World} {B len : Nat} (h : Src w B len) (hb : Below w.heap.size w w') : Src w' B len := h.growD (bgr hb none) (fun x hx => by cases hx)

set_option maxHeartbeats 4000000 in
set_option maxRecDepth 100000 in
theorem cDrawGood (B len : Nat) (w : World) (hlen : len ≤ 1048576) (h : Src w B len) :
    Calls Try.prog 105 #[.pointer (some ⟨B, 0, none⟩)] w (GoodPost B len w) := by
  obtain ⟨iR, hiR, hzR0, hzR1, hzR2⟩ := info_parts info_rule
  have hB := h.lt
  obtain ⟨W1, hW1⟩ : ∃ W1, W1 = (w.alloc (.cells #[] 35)).alloc (.cells #[.string ⟨#[97]⟩, .string ⟨#[98]⟩, .string ⟨#[115]⟩, .string ⟨#[104]⟩, .string ⟨#[115, 104]⟩, .string ⟨#[97, 98]⟩, .string ⟨#[99]⟩, .string ⟨#[]⟩] 9) := ⟨_, rfl⟩
  have D1 : Hid (DTab W1 w.heap.size (.slice (some ⟨w.heap.size, 0, none⟩) 0 0) []) := Lib.hid (by
    rw [hW1]
    exact DTab.nil _ ((World.ownsRow_lit (e := 35) (base := w.heap.size) (size := 2) w #[] 0 (by omega) (by decide) rfl).alloc _))
  have S1 : Hid (Src W1 B len) := Lib.hid (by rw [hW1]; exact srcAlloc (srcAlloc h _) _)
  have G1 : Hid (w.grownBy W1 (some B)) := Lib.hid (by rw [hW1]; exact (World.grownBy_alloc w _ _).trans (World.grownBy_alloc _ _ _))
  have T1 : Hid (W1.ownsRow 0 9 1 (.slice (some ⟨w.heap.size + 1, 0, none⟩) 8 8) 8 (textsG.map Value.string)) := Lib.hid (by
    rw [hW1]
    have h9 := World.ownsRow_lit (e := 9) (base := 0) (size := 1) (w.alloc (.cells #[] 35)) #[.string ⟨#[97]⟩, .string ⟨#[98]⟩, .string ⟨#[115]⟩, .string ⟨#[104]⟩, .string ⟨#[115, 104]⟩, .string ⟨#[97, 98]⟩, .string ⟨#[99]⟩, .string ⟨#[]⟩] 8 (Nat.zero_le _) (by decide) rfl
    rw [World.size_alloc] at h9
    exact h9)
  clear h
  go_enter Try.func105, Try.ntmps105
  go_wp2_with fail
  rw [← hW1]
  clear hW1
  go_loopw [3, 5] (fun o i wr => ∃ (k : Nat) (es : List El) (v : Value), k ≤ 5 ∧ es.length = k ∧ i = .int .i64 k ∧ v = o ∧ Hid (DTab wr w.heap.size v es) ∧ Hid (SmlR es) ∧ Hid (wr.ownsRow 0 9 1 (.slice (some ⟨w.heap.size + 1, 0, none⟩) 8 8) 8 (textsG.map Value.string)) ∧ Hid (Src wr B len) ∧ Hid (w.grownBy wr (some B))) (fun _ i _ => 5 - (intOf i).toNat)
  case atStart => exact ⟨0, [], _, by omega, rfl, by go_num, rfl, D1, Lib.hid (fun r hr => by simp [rulesOf] at hr), T1, S1, G1⟩
  case round =>
    clear D1 T1 S1 G1
    obtain ⟨k, es, v, hk5, hel, rfl, rfl, HD, HSM, HT, HS, HG⟩ := hrel
    have HEL := Lib.hid hel
    clear hel
    by_cases hk : k < 5
    · have z1 : decide ((k : Int) < 5) = true := decide_eq_true (by omega)
      have z1' : decide (k < 5) = true := decide_eq_true hk
      have hgw := HG.out.size
      have QL := Lib.hid (World.ownsRow_lit (e := 2) (base := w.heap.size) (size := 1) wr #[.int .i64 k] 1 (by omega) (by decide) rfl)
      have C2 := Lib.hid (cNext B len 8 (wr.alloc (.cells #[.int .i64 k] 2)) hlen (by omega) (by omega) (srcAlloc HS.out _))
      go_wp2_with fail
      refine C2.out.mono ?_
      rintro e w5 ⟨r, hr0, hr1, rfl, hS5, g5⟩
      obtain ⟨q, rfl⟩ : ∃ q : Nat, r = q := ⟨r.toNat, by omega⟩
      have hq8 : q < 8 := by omega
      have gA := (World.grownBy_alloc wr (.cells #[.int .i64 k] 2) (some B)).trans g5
      have HG5 := Lib.hid (HG.out.trans gA)
      have HD5 := Lib.hid (HD.out.next gA hB)
      have Q5 := Lib.hid (QL.out.kept g5 (.inr (by simp [Value.ownBlock]; omega)))
      have T5 := Lib.hid (HT.out.kept gA (.inr (by simp [Value.ownBlock]; omega)))
      have HS5 := Lib.hid hS5
      obtain ⟨t, ht, hc⟩ : ∃ t : ByteArray, t.size ≤ 2 ∧ w5.cell? ⟨w.heap.size + 1, q, none⟩ = some (.string t) := by
        have h9 := T5.out.cellAt q (by simpa using hq8)
        have h8 : q = 0 ∨ q = 1 ∨ q = 2 ∨ q = 3 ∨ q = 4 ∨ q = 5 ∨ q = 6 ∨ q = 7 := by omega
        rcases h8 with rfl | rfl | rfl | rfl | rfl | rfl | rfl | rfl
        all_goals exact ⟨_, by decide, h9⟩
      have hp5 := HG5.out.size
      have e1 : (0 : Int) ≤ (q : Int) := by omega
      have e2 : (q : Int) < 8 := by omega
      clear hS5 g5 gA hr1 C2 QL HT HS HG HD
      go_wp2_with (at_builtin; refine wpList_append_own _ rfl _ _ 24 rfl w.heap.size 35 iR _ 2 40 Try.underlying24 hiR hzR0 hzR1 hzR2 rfl (by decide) _ _ _ rfl (HD5.out.alloc _).row ⟨w5.heap.size, 0, none⟩ 1 1 [.slice (some ⟨wr.heap.size, 0, none⟩) 1 1, .string t] rfl rfl (rule_cells _ _ _ _) (rule_one _ _ _ _) ?c3 ?c4 ?c5 ?_)
      case c3 => have := HEL.out; unfold maxLen; omega
      case c4 => have := HEL.out; omega
      case c5 => simp; omega
      intro v' w7 hown7 hgrow7 _
      have hrow : ∀ x, Value.ownBlock _ = some x → w.heap.size ≤ x := fun x hx => (HD5.out.row.lt x hx).1
      have gA := World.grownBy_alloc w5 (.cells #[.slice (some ⟨wr.heap.size, 0, none⟩) 1 1, .string t] 35) (some B)
      have HD7 := Lib.hid ((HD5.out.alloc (.cells #[.slice (some ⟨wr.heap.size, 0, none⟩) 1 1, .string t] 35)).push (q := (wr.heap.size, 1, ([(k : Int)], t))) (Q5.out.alloc _) hown7 hgrow7)
      have HS7 := Lib.hid ((srcAlloc HS5.out (.cells #[.slice (some ⟨wr.heap.size, 0, none⟩) 1 1, .string t] 35)).growD hgrow7 (fun x hx => by have := hrow x hx; omega))
      have HG7 := Lib.hid (grown_after (HG5.out.trans gA) hgrow7 (fun x hx => hrow x hx))
      have HT7 := Lib.hid (World.ownsRow.kept (T5.out.alloc (.cells #[.slice (some ⟨wr.heap.size, 0, none⟩) 1 1, .string t] 35)) hgrow7 (rows_apart (by decide) (T5.out.alloc (.cells #[.slice (some ⟨wr.heap.size, 0, none⟩) 1 1, .string t] 35)) (HD5.out.alloc (.cells #[.slice (some ⟨wr.heap.size, 0, none⟩) 1 1, .string t] 35)).row))
      have HSM7 := Lib.hid (HSM.out.snoc (wr.heap.size, 1, ([(k : Int)], t)) (by simp) (by show t.size ≤ 5; omega))
      clear hown7 hgrow7 gA hrow
      go_wp2_with fail
      go_roundw
      case rel => exact ⟨k + 1, es ++ [(wr.heap.size, 1, ([(k : Int)], t))], v', by omega, by rw [List.length_append, HEL.out]; rfl, by go_num, rfl, HD7, HSM7, HT7, HS7, HG7⟩
      case measure => simp [intOf]; omega
    · have z1 : decide ((k : Int) < 5) = false := decide_eq_false (by omega)
      have z1' : decide (k < 5) = false := decide_eq_false hk
      have C3 := Lib.hid (cNext B len 4 wr hlen (by omega) (by omega) HS.out)
      go_wp2_with fail
      refine C3.out.mono ?_
      rintro e w5 ⟨r, hr0, hr1, rfl, hS5, g5⟩
      obtain ⟨n0, rfl⟩ : ∃ q : Nat, r = q := ⟨r.toNat, by omega⟩
      have hn0 : n0 ≤ 3 := by omega
      have HG5 := Lib.hid (HG.out.trans g5)
      have HD5 := Lib.hid (HD.out.next g5 hB)
      have HS5 := Lib.hid hS5
      have HL5 : Hid (es.length = 5) := Lib.hid (by have := HEL.out; omega)
      clear hS5 g5 hr1 C3 HG HD HS HT HEL
      go_wp2_with fail
      go_loopw [3, 6] (fun o i wr => ∃ (m : Nat) (es : List El) (v : Value), es.length + m ≤ 8 ∧ 5 ≤ es.length ∧ i = .int .i64 m ∧ v = o ∧ Hid (DTab wr w.heap.size v es) ∧ Hid (SmlR es) ∧ Hid (Src wr B len) ∧ Hid (w.grownBy wr (some B))) (fun _ i _ => (intOf i).toNat)
      case atStart => exact ⟨n0, es, _, by have := HL5.out; omega, by have := HL5.out; omega, by go_num, rfl, HD5, HSM, HS5, HG5⟩
      case round =>
        clear HD5 HSM HS5 HG5 HL5
        obtain ⟨m, es, v, hem, he5, rfl, rfl, HD, HSM, HS, HG⟩ := hrel
        have HEM := Lib.hid hem
        have hm8 : m ≤ 8 := by omega
        have HE5 := Lib.hid he5
        clear hem he5
        obtain ⟨g0, c0, hv0⟩ := HD.out.form (by have := HE5.out; omega)
        by_cases hm : 0 < m
        · have z2 : decide ((0 : Int) < (m : Int)) = true := decide_eq_true (by omega)
          have z2' : decide (0 < m) = true := decide_eq_true hm
          have C4 := Lib.hid (cDrawRule B len wr hlen HS.out)
          go_wp2_with fail
          refine C4.out.mono ?_
          rintro e w6 ⟨g1, k1, c1, xs, t, rfl, hk1, ht5, hxs, hown6, hS6, g6⟩
          have HG6 := Lib.hid (HG.out.trans g6)
          have HD6 := Lib.hid (HD.out.next g6 hB)
          have HS6 := Lib.hid hS6
          have hN : NumAt w6 w6.heap.size (some ⟨g1, 0, none⟩) k1 xs := RowI.num (RowI.of hown6)
          obtain ⟨A9, c9, hv9, hlc, hcm, hR9⟩ := HD6.out.rules HSM.out.max
          rw [hv0] at hv9
          cases hv9
          obtain ⟨cd, hcd⟩ : ∃ cd, cd = addC (rulesOf es) (xs, t) := ⟨_, rfl⟩
          have HCD := Lib.hid hcd
          have C5 := Lib.hid (cAddS g0 0 (some ⟨g1, 0, none⟩) es.length c0 k1 c1 (rulesOf es) (xs, t) w6 (by have := HEM.out; omega) (by omega) (by show t.size ≤ maxLen; unfold maxLen; omega) hR9 hN)
          rw [← hcd] at C5
          clear hS6 g6 hown6 hN hR9 C4 hcd HS HG HD
          subst hv0
          go_wp2_with fail
          refine C5.out.mono ?_
          rintro e w7 hA
          have hp6 := HG6.out.size
          by_cases hc0 : cd = 0
          · have z3 : (cd == 0) = true := by simp [hc0]
            have hk9 := add_keep (rs := rulesOf es) (r := (xs, t)) (by rw [← HCD.out]; exact hc0)
            have hl9 := addL_len (rulesOf es) (xs, t)
            have hs9 := (addZ_small (rulesOf es) (xs, t)).2.1
            rcases hA with ⟨hz, rfl, hb⟩ | ⟨g2, c2, es2, rfl, he2, ho2, hb⟩
            · exfalso
              rw [hk9.1] at hz
              rw [hz] at hl9
              have h8 := HE5.out
              simp [rulesOf] at hl9
              rw [hl9] at h8
              simp at h8
            · have hlen2 : es2.length = (addZ (rulesOf es) (xs, t)).length := by rw [← he2]; simp [rulesOf]
              have hle : es2.length + (m - 1) ≤ 8 ∧ 5 ≤ es2.length := by
                rw [hlen2, hk9.1]
                have h8 : (rulesOf es).length = es.length := by simp [rulesOf]
                have := HEM.out
                have := HE5.out
                omega
              have HD7 := Lib.hid (DTab.ofOwn ho2 (by exact hp6) (fun r hr => by
                rw [he2, hk9.1] at hr
                exact (signs_len (rule_signs (goodT_mem (table_good hk9.2) hr))).1))
              have HSM7 : Hid (SmlR es2) := Lib.hid (fun r hr => by rw [he2] at hr; have := hs9 r hr; omega)
              have HS7 := Lib.hid (src_belowG HS6.out hb)
              have HG7 := Lib.hid (grown_below HG6.out hb)
              clear hk9 hl9 hs9 he2 ho2 hb hlen2 hc0 C5
              have HLE := Lib.hid hle
              clear hle
              go_wp2_with fail
              go_roundw
              case rel => exact ⟨m - 1, es2, _, HLE.out.1, HLE.out.2, by go_num, rfl, HD7, HSM7, HS7, HG7⟩
              case measure => simp [intOf]; omega
          · have z3 : (cd == 0) = false := by rw [beq_eq_false_iff_ne]; exact hc0
            have hx : ∃ u, e = .returned (.tuple #[u, .int .i64 cd]) ∧ Below w6.heap.size w6 w7 := by
              rcases hA with ⟨hz, h1, hb⟩ | ⟨g2, c2, es2, h1, he2, ho2, hb⟩
              · exact ⟨_, h1, hb⟩
              · exact ⟨_, h1, hb⟩
            obtain ⟨u, rfl, hb⟩ := hx
            have HD7 := Lib.hid (HD6.out.below hb)
            have HS7 := Lib.hid (src_belowG HS6.out hb)
            have HG7 := Lib.hid (grown_below HG6.out hb)
            clear hA hb hc0 C5
            go_wp2_with fail
            go_roundw
            case rel => exact ⟨m - 1, es, _, by have := HEM.out; omega, HE5.out, by go_num, rfl, HD7, HSM, HS7, HG7⟩
            case measure => simp [intOf]; omega
        · have z2 : decide ((0 : Int) < (m : Int)) = false := decide_eq_false (by omega)
          have z2' : decide (0 < m) = false := decide_eq_false hm
          subst hv0
          go_wp2_with fail
          go_ret
          exact ⟨g0, c0, es, HE5.out, by have := HEM.out; omega, rfl, HD.out, HSM.out, HS.out, HG.out⟩
end Go.Proofs.Ytnfdbpfegmodcaa
