/-
  Keys of rules: the contract of impl.keyOf, and the map of a table: block b is a map that reads as a function from signs to places.
-/
import Derived.Test.YtnodnjaajaemcabRules
import Derived.Laws.CopyOwn
import Derived.Maps.OwnSet
import Derived.WideKeyPair
import Derived.OwnWalk
namespace Go.Proofs.Ytnodnjaajaemcab
set_option linter.unusedVariables false
open Go.RowKit Go.Maps Go.WideMaps

def kd (xs : List Int) (i : Nat) : Int := xs.getD i (-1)
def keyV (xs : List Int) : Value := .agg #[.int .i64 (kd xs 0), .int .i64 (kd xs 1), .int .i64 (kd xs 2)]
/-- At most three numbers that are not negative and small. -/
def KeyList (xs : List Int) : Prop := xs.length ≤ 3 ∧ ∀ x ∈ xs, 0 ≤ x ∧ x ≤ 19
theorem keyList_of {m : Nat} {xs : List Int} (h : signsB m xs = true) (hm : xs.length ≤ 3) : KeyList xs := ⟨hm, signs_all h⟩
theorem keyList_take {xs : List Int} {k : Nat} (h : ∀ x ∈ xs, 0 ≤ x ∧ x ≤ 19) (hk : k ≤ 3) : KeyList (xs.take k) :=
  ⟨by rw [List.length_take]; omega, fun x hx => h x (List.mem_of_mem_take hx)⟩
theorem kd_at {xs : List Int} {i : Nat} (h : i < xs.length) : kd xs i = xs[i] := by unfold kd; rw [List.getD_eq_getElem?_getD, List.getElem?_eq_getElem h]; rfl
theorem kd_out {xs : List Int} {i : Nat} (h : xs.length ≤ i) : kd xs i = -1 := by
  unfold kd; rw [List.getD_eq_getElem?_getD, List.getElem?_eq_none h]; rfl
theorem kd_bd {xs : List Int} (h : KeyList xs) (i : Nat) : -1 ≤ kd xs i ∧ kd xs i ≤ 19 := by
  by_cases hi : i < xs.length
  · rw [kd_at hi]; have := h.2 _ (List.getElem_mem hi); omega
  · rw [kd_out (by omega)]; omega
theorem key_same {xs ys : List Int} (h1 : KeyList xs) (h2 : KeyList ys) (e : keyV xs = keyV ys) : xs = ys := by
  unfold keyV at e
  simp only [Value.agg.injEq] at e
  have e0 : kd xs 0 = kd ys 0 ∧ kd xs 1 = kd ys 1 ∧ kd xs 2 = kd ys 2 := by simpa using e
  have key : ∀ i, i < 3 → kd xs i = kd ys i := by
    intro i hi
    match i, hi with
    | 0, _ => exact e0.1
    | 1, _ => exact e0.2.1
    | 2, _ => exact e0.2.2
  have hl : xs.length = ys.length := by
    rcases Nat.lt_trichotomy xs.length ys.length with h | h | h
    · have := key xs.length (by have := h2.1; omega)
      rw [kd_out (Nat.le_refl _), kd_at h] at this
      have := h2.2 _ (List.getElem_mem h)
      omega
    · exact h
    · have := key ys.length (by have := h1.1; omega)
      rw [kd_out (Nat.le_refl ys.length), kd_at h] at this
      have := h1.2 _ (List.getElem_mem h)
      omega
  apply List.ext_getElem hl
  intro i hi hi'
  have := key i (by have := h1.1; omega)
  rw [kd_at hi, kd_at hi'] at this
  exact this

theorem info_i64' : (Try.prog.info? 2).map (·.size) = some 1 := by kernel_rfl
theorem arr3 (w : World) (x y z : Value) (t : TypeId) : (w.alloc (.cells #[x, y, z] t)).heap[w.heap.size]? = some (.cells [x, y, z].toArray t (0, 0)) := heap_alloc_new w _
theorem cell_of {w : World} {g : Nat} {cs : List Value} {t : TypeId} {f : Nat × Nat} (h : w.heap[g]? = some (.cells cs.toArray t f)) (i : Nat) (v : Value) (hv : cs[i]? = some v) : w.cell? ⟨g, i, none⟩ = some v := by
  unfold World.cell?
  simp [h, hv]

set_option maxHeartbeats 1000000 in
set_option maxRecDepth 100000 in
theorem cKeyOf (A : Option Addr) (n c : Nat) (xs : List Int) (w : World) (h3 : xs.length ≤ 3) (h : NumAt w w.heap.size A n xs) :
    Calls Try.prog 43 #[.slice A n c] w fun e w' => e = .returned (keyV xs) ∧ Below w.heap.size w w' := by
  have hG := arr3 (w.alloc (.cells #[.int .i64 0, .int .i64 0, .int .i64 0] 77)) (.int .i64 (-1)) (.int .i64 (-1)) (.int .i64 (-1)) 77
  have hR := arr3 w (.int .i64 0) (.int .i64 0) (.int .i64 0) 77
  have hz : (w.alloc (.cells #[.int .i64 0, .int .i64 0, .int .i64 0] 77)).heap.size = w.heap.size + 1 := by simp
  rw [hz] at hG
  have hR2 := (Below.heap_alloc (w.alloc (.cells #[.int .i64 0, .int .i64 0, .int .i64 0] 77)) (.cells #[.int .i64 (-1), .int .i64 (-1), .int .i64 (-1)] 77) w.heap.size (by simp)).trans hR
  have B2 : Below w.heap.size w ((w.alloc (.cells #[.int .i64 0, .int .i64 0, .int .i64 0] 77)).alloc (.cells #[.int .i64 (-1), .int .i64 (-1), .int .i64 (-1)] 77)) := ((Below.refl _ _).alloc (Nat.le_refl _) _).alloc (by simp) _
  have hl : (intV xs).length = Nat.min n 3 := by rw [intV_len, h.1]; show _ = min _ _; omega
  have hpos : 0 < (intV xs).length → (some ⟨w.heap.size + 1, 0, none⟩ : Option Addr) = some ⟨w.heap.size + 1, 0, none⟩ ∧ ∃ ad, A = some ad ∧ ∀ (j : Nat) v, (intV xs)[j]? = some v → ((w.alloc (.cells #[.int .i64 0, .int .i64 0, .int .i64 0] 77)).alloc (.cells #[.int .i64 (-1), .int .i64 (-1), .int .i64 (-1)] 77)).cell? (ad.add j) = some v := by
    intro hp
    rw [intV_len] at hp
    obtain ⟨b, o, rfl, hb, hc⟩ := h.2 (by have := h.1; omega)
    refine ⟨rfl, _, rfl, fun j v hv => ?_⟩
    unfold intV at hv
    rw [List.getElem?_map] at hv
    cases hx : xs[j]? with
    | none => rw [hx] at hv; cases hv
    | some x =>
      rw [hx] at hv
      obtain rfl : Value.int .i64 x = v := by simpa using hv
      rw [add_plain']
      exact (B2.cell (p := ⟨b, o + j, none⟩) hb).trans (hc j x hx)
  have h1 : ∀ v ∈ intV xs, v.oneCell' = true := by
    intro v hv
    unfold intV at hv
    obtain ⟨x, _, rfl⟩ := List.mem_map.1 hv
    rfl
  have hfit : 0 + (intV xs).length ≤ [Value.int .i64 (-1), .int .i64 (-1), .int .i64 (-1)].length := by rw [intV_len]; simpa using h3
  have hsp : ∀ i, i < 3 → (splice [Value.int .i64 (-1), .int .i64 (-1), .int .i64 (-1)] 0 (intV xs))[i]? = some (.int .i64 (kd xs i)) := by
    intro i hi
    match xs, h3 with
    | [], _ => match i, hi with
      | 0, _ => rfl
      | 1, _ => rfl
      | 2, _ => rfl
    | [a], _ => match i, hi with
      | 0, _ => rfl
      | 1, _ => rfl
      | 2, _ => rfl
    | [a, b], _ => match i, hi with
      | 0, _ => rfl
      | 1, _ => rfl
      | 2, _ => rfl
    | [a, b, c], _ => match i, hi with
      | 0, _ => rfl
      | 1, _ => rfl
      | 2, _ => rfl
  have HG := Lib.hid hG
  have HP := Lib.hid hpos
  have HS := Lib.hid hsp
  have HL := Lib.hid hl
  have HR := Lib.hid hR2
  have HB := Lib.hid B2
  have H1 := Lib.hid h1
  have HF := Lib.hid hfit
  have HX := Lib.hid h
  clear hG hpos hsp hl hR hR2 B2 h1 hfit h hz
  go_enter Try.func43, Try.ntmps43
  go_wp2_with (with_reducible refine wpList_copy_splice rfl (.tmp 5) (.tmp 6) 23 23 rfl 2 Try.underlying23 info_i64' _ _ 3 3 n c rfl rfl (w.heap.size + 1) 0 [Value.int .i64 (-1), .int .i64 (-1), .int .i64 (-1)] 77 HG.out (intV xs) HL.out HP.out HF.out H1.out (w.heap.size + 1) _ (Below.refl _ _) (Nat.le_refl _) ?_; intro w3 hg3 hb3; have k0 := cell_of hg3.out 0 _ (HS.out 0 (by omega)); have k1 := cell_of hg3.out 1 _ (HS.out 1 (by omega)); have k2 := cell_of hg3.out 2 _ (HS.out 2 (by omega)); have hr3 := (hb3.block w.heap.size (Nat.lt_succ_self _)).trans HR.out; have d0 := cell_of hr3 0 _ rfl; have d1 := cell_of hr3 1 _ rfl; have d2 := cell_of hr3 2 _ rfl; have f0 : w3.frozen? ⟨w.heap.size, 0, none⟩ = false := (by unfold World.frozen?; simp [hr3]); have f1 : w3.frozen? ⟨w.heap.size, 1, none⟩ = false := (by unfold World.frozen?; simp [hr3]); have f2 : w3.frozen? ⟨w.heap.size, 2, none⟩ = false := (by unfold World.frozen?; simp [hr3]); have B9 := HB.out.trans (hb3.mono (Nat.le_succ _)); have B10 := ((B9.setCell (p := ⟨w.heap.size, 0, none⟩) (Nat.le_refl _) (.int .i64 (kd xs 0))).setCell (p := ⟨w.heap.size, 1, none⟩) (Nat.le_refl _) (.int .i64 (kd xs 1))).setCell (p := ⟨w.heap.size, 2, none⟩) (Nat.le_refl _) (.int .i64 (kd xs 2)); clear hg3 hb3 hr3 B9)
  refine bodyPost_ret (v := keyV xs) (by simp [results, Try.results43, go_sem, keyV, d0, d1, d2]) rfl ⟨rfl, B10⟩

theorem arrK : ArrKey Try.prog 77 2 3 := ⟨Try.underlying77, by kernel_rfl, by kernel_rfl, by kernel_rfl⟩
theorem key_law : Keyed Try.prog 77 := Keyed.of_law arrK.law
theorem types_pos : ∃ m, Try.prog.types.size = m + 1 := ⟨Try.prog.types.size - 1, by have : 0 < Try.prog.types.size := of_decide_eq_true (by kernel_rfl); omega⟩
def keyL (xs : List Int) : Lit := .string (keyBytes [.int .i64 (kd xs 0), .int .i64 (kd xs 1), .int .i64 (kd xs 2)])
theorem keyOf_three {a b c : Int} (wa : (Lit.int .i64 a).wf = true) (wb : (Lit.int .i64 b).wf = true) (wc : (Lit.int .i64 c).wf = true) :
    keyOf Try.prog 77 (.agg #[.int .i64 a, .int .i64 b, .int .i64 c]) = some (.string (keyBytes [.int .i64 a, .int .i64 b, .int .i64 c])) := by
  have hkt := arrK.keyType types_pos
  obtain ⟨m, hm⟩ := types_pos
  unfold keyOf
  simp only [arrK.hu]
  rw [if_pos (by simp [hkt, Value.formed, arrK.hu, arrK.size]), hm]
  unfold Program.keyLits
  simp only [arrK.hu, Value.cells]
  rw [if_pos (by rw [arrK.size]; rfl), show List.range 3 = [0, 1, 2] from rfl, List.mapM_cons, List.mapM_cons, List.mapM_cons, List.mapM_nil]
  simp [arrK.one, Program.keyLits, Try.underlying2, wa, wb, wc]
theorem key_read {xs : List Int} (h : KeyList xs) : keyOf Try.prog 77 (keyV xs) = some (keyL xs) := by
  have w : ∀ i, (Lit.int .i64 (kd xs i)).wf = true := fun i => by
    have := kd_bd h i
    simp [Lit.wf, IntKind.min, IntKind.max, IntKind.bits, IntKind.signed]
    omega
  exact keyOf_three (w 0) (w 1) (w 2)
theorem keyL_inj {xs ys : List Int} (h1 : KeyList xs) (h2 : KeyList ys) (e : keyL xs = keyL ys) : xs = ys :=
  key_same h1 h2 (key_law.inj (key_read h1) (by rw [e]; exact key_read h2))
end Go.Proofs.Ytnodnjaajaemcab
