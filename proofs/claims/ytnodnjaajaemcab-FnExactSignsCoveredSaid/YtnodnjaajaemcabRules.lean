/-
  Rows of rules of one's own, and the contracts of the laws' szRuleS, toRuleS and eqRuleS.
-/
import Derived.Test.YtnodnjaajaemcabRuleTo
import Derived.OwnWalk
import Derived.Laws.OwnMore
import Derived.Deep.RegionHeld3
namespace Go.Proofs.Ytnodnjaajaemcab
set_option linter.unusedVariables false
open Go.RowKit

def bulk (rs : List Ru) : Nat := (rs.map fun r => r.1.length + r.2.size).sum
theorem bulk_step {rs : List Ru} {k : Nat} {r : Ru} (h : rs[k]? = some r) : bulk (rs.take (k + 1)) = bulk (rs.take k) + (r.1.length + r.2.size) := by
  rw [takeK_snoc h]; simp [bulk]
theorem bulk_mem : ∀ {rs : List Ru} {r : Ru}, r ∈ rs → r.1.length + r.2.size ≤ bulk rs
  | [], r, h => by simp at h
  | q :: rs, r, h => by
    rcases List.mem_cons.1 h with rfl | h
    · simp [bulk]
    · have := bulk_mem h; simp [bulk] at *; omega
theorem bulk_all {rs : List Ru} {k : Nat} (h : rs.length ≤ k) : bulk (rs.take k) = bulk rs := by rw [List.take_of_length_le h]
/-- What szRuleS answers allows the walk to go on only for small slices. -/
def SmallR (n : Nat) (rs : List Ru) (r : Int) : Prop := r ≤ 1048576 ∧ (r < 0 ∨ n + bulk rs ≤ 1048576)
def SomeB (P : Int → Prop) (w : World) (e : Ending) (w' : World) : Prop := ∃ r : Int, P r ∧ e = .returned (.int .i64 r) ∧ Below w.heap.size w w'

set_option maxHeartbeats 1000000 in
theorem cSzRs (A : Option Addr) (n cap : Nat) (rs : List Ru) (w : World) (hm : n ≤ maxLen) (h : RulesAt w w.heap.size A n rs) :
    Calls Try.prog 5 #[.slice A n cap, .int .i64 1048576] w (SomeB (SmallR n rs) w) := by
  unfold maxLen at hm
  have HL := Lib.hid h.1
  have H := Lib.hid h
  clear h
  by_cases h1 : 1048576 < n
  · go_enter Try.func5, Try.ntmps5
    go_wp2
    go_ret
    exact ⟨-1, ⟨by omega, .inl (by omega)⟩, rfl, Below.refl _ _⟩
  go_enter Try.func5, Try.ntmps5
  go_wp2
  go_loopw [1, 5] (fun l i wr => ∃ (k : Nat) (r : Int), k ≤ n ∧ i = .int .i64 k ∧ l = .int .i64 r ∧ 0 ≤ r ∧ Hid (r = 1048576 - (n : Int) - (bulk (rs.take k) : Nat)) ∧ Below w.heap.size w wr) (fun _ i _ => n - (intOf i).toNat)
  case atStart => exact ⟨0, _, Nat.zero_le _, rfl, rfl, by omega, Lib.hid (by simp [bulk]), Below.refl _ _⟩
  case round =>
    obtain ⟨k, r, hk, rfl, rfl, hr0, HR, hbw⟩ := hrel
    by_cases hlt : k < n
    · obtain ⟨q, hq⟩ : ∃ q, rs[k]? = some q := ⟨rs[k]'(by have := HL.out; omega), List.getElem?_eq_getElem _⟩
      obtain ⟨b, o, rfl, hbl, A', n', c', k0, k1, k2, k3, k4⟩ := (H.out.below hbw (Nat.le_refl _)).row hq
      have hst := bulk_step hq
      have hlen : n' = q.1.length := k2.1
      have hr1 : r ≤ 1048576 := by have := HR.out; omega
      have C := Lib.hid (fun W => cSzR A' n' c' q.2 r W k3 k4 hr0 hr1)
      by_cases hz : szR r n' q.2.size < 0
      · clear hst hlen k2 k3 k4
        go_wp2_with (go_at_call 17; refine (C.out _).mono ?_; rintro e w1 ⟨rfl, hb⟩)
        go_ret
        exact ⟨-1, ⟨by omega, .inl (by omega)⟩, rfl, hbw.trans (hb.mono hbw.size)⟩
      · have hzz := szR_ok hz
        have HN : Hid (szR r n' q.2.size = 1048576 - (n : Int) - (bulk (rs.take (k + 1)) : Nat)) := Lib.hid (by have := HR.out; omega)
        have hz0 : 0 ≤ szR r n' q.2.size := by omega
        clear hst hlen k2 k3 k4 hzz
        go_wp2_with (go_at_call 17; refine (C.out _).mono ?_; rintro e w1 ⟨rfl, hb⟩)
        go_roundw
        case rel => exact ⟨k + 1, _, by omega, by go_num, rfl, hz0, HN, hbw.trans (hb.mono hbw.size)⟩
        case measure => simp [intOf]; omega
    · have HF : Hid (SmallR n rs r) := Lib.hid ⟨by have := HR.out; omega, .inr (by have := HR.out; rw [bulk_all (by have := HL.out; omega)] at this; omega)⟩
      go_wp2
      go_ret
      exact ⟨r, HF.out, rfl, hbw⟩

/-- A block, a capacity and a rule for each element of a row of rules. -/
abbrev El := Nat × Nat × Ru
def elV (e : El) : List Value := [.slice (some ⟨e.1, 0, none⟩) e.2.2.1.length e.2.1, .string e.2.2.2]
def elsV (es : List El) : List Value := es.flatMap elV
def rulesOf (es : List El) : List Ru := es.map (·.2.2)
theorem elsV_app (xs ys : List El) : elsV (xs ++ ys) = elsV xs ++ elsV ys := by simp [elsV]
theorem elsV_cons (e : El) (xs : List El) : elsV (e :: xs) = .slice (some ⟨e.1, 0, none⟩) e.2.2.1.length e.2.1 :: .string e.2.2.2 :: elsV xs := by simp [elsV, elV]
theorem elsV_len : ∀ xs : List El, (elsV xs).length = xs.length * 2
  | [] => rfl
  | p :: xs => by rw [elsV_cons, List.length_cons, List.length_cons, elsV_len xs, List.length_cons]; omega
theorem elsV_at : ∀ (xs : List El) (k : Nat) (p : El), xs[k]? = some p → (elsV xs)[k * 2]? = some (.slice (some ⟨p.1, 0, none⟩) p.2.2.1.length p.2.1) ∧ (elsV xs)[k * 2 + 1]? = some (.string p.2.2.2)
  | [], k, p, h => by simp at h
  | q :: xs, 0, p, h => by
    obtain rfl : q = p := by simpa using h
    rw [elsV_cons]; exact ⟨rfl, rfl⟩
  | q :: xs, k + 1, p, h => by
    rw [List.getElem?_cons_succ] at h
    have ih := elsV_at xs k p h
    rw [elsV_cons, show (k + 1) * 2 = k * 2 + 1 + 1 by omega, List.getElem?_cons_succ, List.getElem?_cons_succ, List.getElem?_cons_succ, List.getElem?_cons_succ]
    exact ih
def zerosR (m : Nat) : List Value := (List.replicate m [Value.slice none 0 0, Value.string ByteArray.empty]).flatten
theorem zerosR_succ (m : Nat) : zerosR (m + 1) = .slice none 0 0 :: .string ByteArray.empty :: zerosR m := by simp [zerosR, List.replicate_succ]
theorem zerosR_len : ∀ m : Nat, (zerosR m).length = m * 2
  | 0 => rfl
  | m + 1 => by rw [zerosR_succ, List.length_cons, List.length_cons, zerosR_len m]; omega
theorem zerosR_made (n : Nat) : (madeCells #[Value.slice none 0 0, Value.string ByteArray.empty] (n * 2)).toList = zerosR n := by
  apply List.ext_getElem?
  intro j
  have key : ∀ (n j : Nat), (zerosR n)[j]? = if j < n * 2 then (if j % 2 = 0 then some (Value.slice none 0 0) else some (.string ByteArray.empty)) else none := by
    intro n
    induction n with
    | zero => intro j; simp [zerosR]
    | succ n ih =>
      intro j
      rw [zerosR_succ]
      match j with
      | 0 => simp
      | 1 => simp; omega
      | j + 2 =>
        rw [List.getElem?_cons_succ, List.getElem?_cons_succ, ih j]
        have e : (j + 2) % 2 = j % 2 := by omega
        rw [e]
        by_cases h : j < n * 2
        · simp only [if_pos h, if_pos (show j + 2 < (n + 1) * 2 by omega)]
        · simp only [if_neg h, if_neg (show ¬ j + 2 < (n + 1) * 2 by omega)]
  rw [key]
  by_cases h : j < n * 2
  · rw [if_pos h]
    have h2 : j % 2 = 0 ∨ j % 2 = 1 := by omega
    rcases h2 with h2 | h2 <;> simp [madeCells, h, h2]
  · rw [if_neg h, List.getElem?_eq_none (by simp [madeCells]; omega)]

theorem info_rule : (Try.prog.info? 44).map (fun i => (i.zero, i.size, i.bytes)) = some (some (.agg #[.slice none 0 0, .string ByteArray.empty]), 2, 40) := by kernel_rfl

/-- A row of n rules of one's own in block g, of which the elements es have been laid; their numbers lie in rows of their own; no two share a block; all from block B on. -/
structure PartR (w : World) (B g n c : Nat) (es : List El) : Prop where
  len : es.length ≤ n
  row : w.ownsRow B 44 2 (.slice (some ⟨g, 0, none⟩) n c) n (elsV es ++ zerosR (n - es.length))
  inner : ∀ e ∈ es, B ≤ e.1 ∧ e.1 < w.heap.size ∧ (0 < e.2.2.1.length → w.ownsRow B 2 1 (.slice (some ⟨e.1, 0, none⟩) e.2.2.1.length e.2.1) e.2.2.1.length (intV e.2.2.1))
  nodup : (g :: es.map (·.1)).Nodup
/-- A whole row of rules of one's own. -/
def OwnR (w : World) (B g n c : Nat) (es : List El) : Prop := es.length = n ∧ PartR w B g n c es
theorem PartR.glt {w : World} {B g n c : Nat} {es : List El} (h : PartR w B g n c es) : B ≤ g ∧ g < w.heap.size := h.row.lt _ rfl
/-- What changes no block of the row leaves it. -/
theorem PartR.kept {w w' : World} {B g n c : Nat} {es : List El} (h : PartR w B g n c es) (hs : w.heap.size ≤ w'.heap.size) (hb : ∀ b, b ∈ g :: es.map (·.1) → w'.heap[b]? = w.heap[b]?) : PartR w' B g n c es :=
  ⟨h.len, ownsRow_block h.row (hb g (by simp)), fun e he => by
    obtain ⟨h1, h2, h3⟩ := h.inner e he
    exact ⟨h1, by omega, fun hp => ownsRow_block (h3 hp) (hb e.1 (by rw [List.mem_cons]; exact .inr (List.mem_map_of_mem he)))⟩, h.nodup⟩
theorem PartR.mem_lt {w : World} {B g n c : Nat} {es : List El} (h : PartR w B g n c es) : ∀ b ∈ g :: es.map (·.1), B ≤ b ∧ b < w.heap.size := by
  intro b hb
  rcases List.mem_cons.1 hb with rfl | hb
  · exact h.glt
  · obtain ⟨e, he, rfl⟩ := List.mem_map.1 hb
    exact ⟨(h.inner e he).1, (h.inner e he).2.1⟩
theorem PartR.below {w w' : World} {B g n c : Nat} {es : List El} (h : PartR w B g n c es) (hb : Below w.heap.size w w') : PartR w' B g n c es :=
  h.kept hb.size fun b hm => hb.block b (h.mem_lt b hm).2
theorem OwnR.below {w w' : World} {B g n c : Nat} {es : List El} (h : OwnR w B g n c es) (hb : Below w.heap.size w w') : OwnR w' B g n c es := ⟨h.1, h.2.below hb⟩
theorem elsV_set (ys : List El) (m : Nat) (q : El) : (((elsV ys ++ zerosR (m + 1)).set (ys.length * 2) (.slice (some ⟨q.1, 0, none⟩) q.2.2.1.length q.2.1)).set (ys.length * 2 + 1) (.string q.2.2.2)) = elsV (ys ++ [q]) ++ zerosR m := by
  rw [zerosR_succ, List.set_append_right _ _ (by rw [elsV_len]; exact Nat.le_refl _), elsV_len, Nat.sub_self, List.set_cons_zero,
    List.set_append_right _ _ (by rw [elsV_len]; omega), elsV_len, show ys.length * 2 + 1 - ys.length * 2 = 0 + 1 by omega, List.set_cons_succ, List.set_cons_zero, elsV_app, elsV_cons, List.append_assoc]
  rfl
/-- One element more is laid. -/
theorem PartR.step {w : World} {B g n c : Nat} {es : List El} {q : El} (h : PartR w B g n c es) (hl : es.length < n)
    (hq : B ≤ q.1 ∧ q.1 < w.heap.size ∧ (0 < q.2.2.1.length → w.ownsRow B 2 1 (.slice (some ⟨q.1, 0, none⟩) q.2.2.1.length q.2.1) q.2.2.1.length (intV q.2.2.1))) (hn : q.1 ∉ g :: es.map (·.1)) :
    PartR ((w.setCell ⟨g, es.length * 2, none⟩ (.slice (some ⟨q.1, 0, none⟩) q.2.2.1.length q.2.1)).setCell ⟨g, es.length * 2 + 1, none⟩ (.string q.2.2.2)) B g n c (es ++ [q]) := by
  have hr := h.row
  obtain ⟨d, hd⟩ : ∃ d, n - es.length = d + 1 := ⟨n - es.length - 1, by omega⟩
  rw [hd] at hr
  have hs := ((hr.stored (es.length * 2) (.slice (some ⟨q.1, 0, none⟩) q.2.2.1.length q.2.1)).1.stored (es.length * 2 + 1) (.string q.2.2.2)).1
  rw [elsV_set] at hs
  have key : ∀ b, b ≠ g → ((w.setCell ⟨g, es.length * 2, none⟩ (.slice (some ⟨q.1, 0, none⟩) q.2.2.1.length q.2.1)).setCell ⟨g, es.length * 2 + 1, none⟩ (.string q.2.2.2)).heap[b]? = w.heap[b]? := by
    intro b hb
    rw [Below.heap_setCell _ _ _ _ (by exact hb), Below.heap_setCell _ _ _ _ (by exact hb)]
  refine ⟨by simp; omega, by rw [List.length_append, List.length_singleton, show n - (es.length + 1) = d by omega]; exact hs, ?_, ?_⟩
  · intro e he
    rcases List.mem_append.1 he with he | he
    · obtain ⟨h1, h2, h3⟩ := h.inner e he
      refine ⟨h1, by simpa using h2, fun hp => ownsRow_block (h3 hp) (key _ ?_)⟩
      rintro rfl
      have := h.nodup
      rw [List.nodup_cons] at this
      exact this.1 (List.mem_map_of_mem he)
    · rw [List.mem_singleton] at he
      subst he
      obtain ⟨h1, h2, h3⟩ := hq
      refine ⟨h1, by simpa using h2, fun hp => ownsRow_block (h3 hp) (key _ ?_)⟩
      rintro rfl
      exact hn (by simp)
  · have := h.nodup
    rw [List.map_append, ← List.cons_append, List.nodup_append]
    refine ⟨this, by simp, ?_⟩
    intro a ha b hb e
    simp at hb
    subst hb; subst e
    exact hn ha
theorem OwnR.rules {w : World} {B g n c : Nat} {es : List El} (h : OwnR w B g n c es) (hs : ∀ r ∈ rulesOf es, r.1.length ≤ maxLen ∧ r.2.size ≤ maxLen) : RulesAt w w.heap.size (some ⟨g, 0, none⟩) n (rulesOf es) := by
  refine ⟨by simp [rulesOf, h.1], fun hp => ⟨g, 0, rfl, h.2.glt.2, fun j r hr => ?_⟩⟩
  obtain ⟨e, he, rfl⟩ : ∃ e, es[j]? = some e ∧ e.2.2 = r := by
    unfold rulesOf at hr
    rw [List.getElem?_map] at hr
    cases h : es[j]? with
    | none => rw [h] at hr; simp at hr
    | some e => rw [h] at hr; simp at hr; exact ⟨e, rfl, hr⟩
  have hj := (List.getElem?_eq_some_iff.1 he).1
  have hrow := h.2.row
  rw [h.1, Nat.sub_self, show zerosR 0 = [] from rfl, List.append_nil] at hrow
  have hat := elsV_at es j e he
  have hmem := List.mem_of_getElem? he
  obtain ⟨i1, i2, i3⟩ := h.2.inner e hmem
  have hsz := hs e.2.2 (List.mem_map_of_mem hmem)
  have hn := h.1
  refine ⟨some ⟨e.1, 0, none⟩, e.2.2.1.length, e.2.1, ?_, ?_, ⟨rfl, fun hp => (numAt_own (i3 hp)).2 hp⟩, hsz.1, hsz.2⟩
  · rw [Nat.zero_add]; exact (hrow.cellAt (j * 2) (by omega)).trans hat.1
  · rw [Nat.zero_add]; exact (hrow.cellAt (j * 2 + 1) (by omega)).trans hat.2

/-- A copy of the rules comes back. -/
def ToRsPost (n : Nat) (rs : List Ru) (w : World) (e : Ending) (w' : World) : Prop :=
  ∃ es, e = .returned (.slice (some ⟨w.heap.size, 0, none⟩) n n) ∧ rulesOf es = rs ∧ OwnR w' w.heap.size w.heap.size n n es ∧ Below w.heap.size w w'

set_option maxHeartbeats 2000000 in
theorem cToRs (A : Option Addr) (n cap : Nat) (rs : List Ru) (w : World) (hbig : n + bulk rs ≤ 1048576) (h : RulesAt w w.heap.size A n rs) :
    Calls Try.prog 7 #[.slice A n cap] w (ToRsPost n rs w) := by
  obtain ⟨i0, hi0, hz0, hz1, hz2⟩ := info_parts info_rule
  have HL := Lib.hid h.1
  have H := Lib.hid h
  clear h
  go_enter Try.func7, Try.ntmps7
  go_wp2_with (at_make; refine wpList_make_full _ rfl _ _ 27 rfl w.heap.size 44 i0 _ 2 Try.underlying27 hi0 hz0 hz1 _ _ _ _ n rfl rfl (by simp) (by simp) ?b2 ?b3 (Nat.le_refl _) ?_)
  case b2 => rw [hz2]; omega
  case b3 => unfold maxLen; omega
  intro w0 hown0 hgrow0
  rw [zerosR_made] at hown0
  have hb0 : Below w.heap.size w w0 := (Below.refl _ _).grown hgrow0 (Nat.le_refl _) (fun k h => by cases h)
  have HP0 : Hid (PartR w0 w.heap.size w.heap.size n n []) := Lib.hid ⟨Nat.zero_le _, hown0, by simp, by simp⟩
  clear hgrow0 hown0
  go_wp2
  go_loopw [4] (fun i wr => ∃ (k : Nat) (es : List El), k ≤ n ∧ i = .int .i64 k ∧ Hid (es.length = k ∧ rulesOf es = rs.take k) ∧ Hid (PartR wr w.heap.size w.heap.size n n es) ∧ Below w.heap.size w wr) (fun i _ => n - (intOf i).toNat)
  case atStart => exact ⟨0, [], Nat.zero_le _, rfl, Lib.hid ⟨rfl, by simp [rulesOf]⟩, HP0, hb0⟩
  case round =>
    clear HP0 hb0
    obtain ⟨k, es, hk, rfl, HE, HP, hbw⟩ := hrel
    by_cases hlt : k < n
    · obtain ⟨q, hq⟩ : ∃ q, rs[k]? = some q := ⟨rs[k]'(by have := HL.out; omega), List.getElem?_eq_getElem _⟩
      obtain ⟨b, o, rfl, hbl, A', n', c', k0, k1, k2, k3, k4⟩ := (H.out.below hbw (Nat.le_refl _)).row hq
      have hlen : n' = q.1.length := k2.1
      have hq1 : n' ≤ 1048576 := by have := bulk_mem (List.mem_of_getElem? hq); omega
      have C := Lib.hid (cToRule A' n' c' q wr hq1 (k2.more hbw.size))
      have HQ := Lib.hid hq
      have HLEN := Lib.hid hlen
      clear hq hlen k2 k3 k4
      go_wp2_with fail
      refine C.out.mono ?_
      rintro e w1 ⟨g, rfl, hg, hgl, T1, own1, hb1⟩
      have hp1 := HP.out.below hb1
      have hbw1 := hbw.trans (hb1.mono hbw.size)
      have hel := HE.out.1
      have hr1 := hp1.row
      have hrl := hr1.1
      have hws := hbw.size
      obtain ⟨v0, d0⟩ : ∃ v, w1.cell? ⟨w.heap.size, k * 2, none⟩ = some v := ⟨_, (hr1.cellAt (k * 2) (by omega)).trans (List.getElem?_eq_getElem (by omega))⟩
      obtain ⟨v1, d1⟩ : ∃ v, w1.cell? ⟨w.heap.size, k * 2 + 1, none⟩ = some v := ⟨_, (hr1.cellAt (k * 2 + 1) (by omega)).trans (List.getElem?_eq_getElem (by omega))⟩
      have f0 := hr1.frozenAt (k * 2)
      have f1 := hr1.frozenAt (k * 2 + 1)
      have hT1 : n' = q.1.length := T1.1
      have hst := hp1.step (q := (g, n', q)) (by omega) ⟨by show w.heap.size ≤ g; omega, hgl, fun hp => rowBase (by rw [← hT1]; exact own1 (by rw [hT1]; exact hp)) (by omega)⟩ (fun hm => by have := (HP.out.mem_lt g hm).2; omega)
      rw [hel, ← hT1] at hst
      have HST := Lib.hid hst
      have HE2 : Hid ((es ++ [(g, n', q)]).length = k + 1 ∧ rulesOf (es ++ [(g, n', q)]) = rs.take (k + 1)) := Lib.hid ⟨by simp [hel], by
        rw [takeK_snoc HQ.out, ← HE.out.2]; simp [rulesOf]⟩
      have hbw2 := (hbw1.setCell (p := ⟨w.heap.size, k * 2, none⟩) (Nat.le_refl _) (.slice (some ⟨g, 0, none⟩) n' n')).setCell (p := ⟨w.heap.size, k * 2 + 1, none⟩) (Nat.le_refl _) (.string q.2)
      clear hp1 hr1 hrl hst hT1 T1 own1 hel hb1 hbw1 HP HE hws hbw
      go_wp2_with fail
      go_roundw
      case rel => exact ⟨k + 1, _, by omega, by go_num, HE2, HST, hbw2⟩
      case measure => simp [intOf]; omega
    · obtain rfl : k = n := by omega
      go_wp2
      go_ret
      exact ⟨es, rfl, by rw [HE.out.2, List.take_of_length_le (by have := HL.out; omega)], ⟨HE.out.1, HP.out⟩, hbw⟩

/-- Four cells in two blocks, through a drawn region. -/
def FourR (A0 : World) (b1 o1 : Nat) (u1 v1 : Value) (b2 o2 : Nat) (u2 v2 : Value) (W : World) : Prop :=
  W.cell? ⟨b1, o1, none⟩ = some u1 ∧ W.cell? ⟨b1, o1 + 1, none⟩ = some v1 ∧ W.cell? ⟨b2, o2, none⟩ = some u2 ∧ W.cell? ⟨b2, o2 + 1, none⟩ = some v2 ∧ b1 < W.heap.size ∧ b2 < W.heap.size ∧ Below A0.heap.size A0 W
theorem FourR.get {A0 W : World} {b1 o1 b2 o2 : Nat} {u1 v1 u2 v2 : Value} (h : FourR A0 b1 o1 u1 v1 b2 o2 u2 v2 W) : Below A0.heap.size A0 W := h.2.2.2.2.2.2
theorem FourR.keep {A0 W W' : World} {b1 o1 b2 o2 : Nat} {u1 v1 u2 v2 : Value} (h : FourR A0 b1 o1 u1 v1 b2 o2 u2 v2 W) (hb : Below W.heap.size W W') : FourR A0 b1 o1 u1 v1 b2 o2 u2 v2 W' := by
  obtain ⟨h1, h2, h3, h4, h5, h6, h7⟩ := h
  exact ⟨(hb.cell (p := ⟨b1, o1, none⟩) h5).trans h1, (hb.cell (p := ⟨b1, o1 + 1, none⟩) h5).trans h2, (hb.cell (p := ⟨b2, o2, none⟩) h6).trans h3, (hb.cell (p := ⟨b2, o2 + 1, none⟩) h6).trans h4, Nat.lt_of_lt_of_le h5 hb.size, Nat.lt_of_lt_of_le h6 hb.size, h7.trans (hb.mono h7.size)⟩

set_option maxHeartbeats 1000000 in
set_option maxRecDepth 100000 in
theorem cEqRs (A A' : Option Addr) (n cap cap' : Nat) (rs : List Ru) (w : World) (hbig : n + bulk rs ≤ 1048576) (h1 : RulesAt w w.heap.size A n rs) (h2 : RulesAt w w.heap.size A' n rs) :
    Calls Try.prog 10 #[.slice A n cap, .slice A' n cap'] w fun e w' => e = .returned (.bool true) ∧ Below w.heap.size w w' := by
  have HL := Lib.hid h1.1
  have H1 := Lib.hid h1
  have H2 := Lib.hid h2
  clear h1 h2
  go_enter Try.func10, Try.ntmps10
  go_wp2
  go_loopw [5] (fun i wr => ∃ j : Nat, j ≤ n ∧ i = .int .i64 j ∧ Below w.heap.size w wr) (fun i _ => n - (intOf i).toNat)
  case atStart => exact ⟨0, Nat.zero_le _, rfl, Below.refl _ _⟩
  case round =>
    obtain ⟨j, hj, rfl, hbw⟩ := hrel
    by_cases hlt : j < n
    · obtain ⟨q, hq⟩ : ∃ q, rs[j]? = some q := ⟨rs[j]'(by have := HL.out; omega), List.getElem?_eq_getElem _⟩
      have hq1 : q.1.length ≤ 1048576 := by have := bulk_mem (List.mem_of_getElem? hq); omega
      obtain ⟨b, o, rfl, hbl, A1, n1, c1, k0, k1, k2, k3, k4⟩ := (H1.out.below hbw (Nat.le_refl _)).row hq
      obtain ⟨b', o', rfl, hbl', A2, n2, c2, m0, m1, m2, m3, m4⟩ := (H2.out.below hbw (Nat.le_refl _)).row hq
      obtain rfl : n1 = n2 := by rw [k2.1, m2.1]
      have hn1 : n1 ≤ 1048576 := by rw [k2.1]; exact hq1
      have hws := hbw.size
      have CE := Lib.hid (fun (W : World) (hW : Below wr.heap.size wr W) => cEqRule A1 A2 n1 c1 c2 w.heap.size w.heap.size q W hn1 (k2.below hW hws) (m2.below hW hws) (Nat.le_trans hws hW.size) (Nat.le_trans hws hW.size))
      have hb1 : b < wr.heap.size := by omega
      have hb2 : b' < wr.heap.size := by omega
      have HB := Lib.hid hbw
      clear hq hq1 k2 k3 k4 m2 m3 m4 hbw hws
      have e1 : (0 : Int) ≤ (j : Int) := Int.natCast_nonneg _
      have e2 : (j : Int) < (n : Int) := by omega
      go_wp2
      go_region_held3 (fun W => W.cell? ⟨b, o + j * 2, none⟩ = some (.slice A1 n1 c1) ∧ W.cell? ⟨b, o + j * 2 + 1, none⟩ = some (.string q.2) ∧ W.cell? ⟨b', o' + j * 2, none⟩ = some (.slice A2 n1 c2) ∧ W.cell? ⟨b', o' + j * 2 + 1, none⟩ = some (.string q.2) ∧ b < W.heap.size ∧ b' < W.heap.size ∧ Below wr.heap.size wr W)
        (first | (exact ⟨k0, k1, m0, m1, hb1, hb2, (Below.refl _ _).drew⟩) | (exact FourR.keep (A0 := wr) (by assumption) hb) | assumption)
        ((go_at_call 23; refine (CE.out _ (FourR.get (A0 := wr) (show FourR wr b (o + j * 2) (.slice A1 n1 c1) (.string q.2) b' (o' + j * 2) (.slice A2 n1 c2) (.string q.2) _ by assumption))).mono ?_; rintro e w1 ⟨rfl, hb⟩))
      all_goals
        have hq2 : Below wr.heap.size wr w1 := FourR.get (show FourR wr b (o + j * 2) (.slice A1 n1 c1) (.string q.2) b' (o' + j * 2) (.slice A2 n1 c2) (.string q.2) w1 by assumption)
        go_wp2
        go_roundw
        case rel => exact ⟨j + 1, by omega, by go_num, HB.out.trans (hq2.mono HB.out.size)⟩
        case measure => simp [intOf]; omega
    · go_wp2
      go_ret
      exact ⟨rfl, hbw⟩
end Go.Proofs.Ytnodnjaajaemcab
