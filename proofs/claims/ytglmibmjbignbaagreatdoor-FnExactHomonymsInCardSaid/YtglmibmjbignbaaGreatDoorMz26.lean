/-
  Texts that name more than one place: plain facts.
-/
import Derived.Test.YtglmibmjbignbaaGreatDoorMz23
import Derived.Test.YtglmibmjbignbaaGreatDoorMz1
import Derived.Laws.OwnMore
import Derived.Below
import Derived.WalkKit
import Derived.Deep.RegionLaw
namespace Go.Proofs.YtglmibmjbignbaaGreatDoor
section
set_option linter.unusedVariables false
open Go.RowKit

/-- The texts that are as the one before them. -/
def dupT : List ByteArray → List ByteArray
  | a :: b :: t => if b = a then b :: dupT (b :: t) else dupT (b :: t)
  | _ => []
theorem dupT_snoc (a b : ByteArray) : ∀ l : List ByteArray, dupT (l ++ [a, b]) = dupT (l ++ [a]) ++ (if b = a then [b] else [])
  | [] => by simp [dupT]
  | [x] => by
    show dupT [x, a, b] = dupT [x, a] ++ _
    simp only [dupT]
    split <;> split <;> simp
  | x :: z :: t => by
    have ih := dupT_snoc a b (z :: t)
    have e1 : (x :: z :: t) ++ [a, b] = x :: z :: (t ++ [a, b]) := rfl
    have e2 : (x :: z :: t) ++ [a] = x :: z :: (t ++ [a]) := rfl
    have e3 : (z :: t) ++ [a, b] = z :: (t ++ [a, b]) := rfl
    have e4 : (z :: t) ++ [a] = z :: (t ++ [a]) := rfl
    rw [e3, e4] at ih
    rw [e1, e2]
    simp only [dupT]
    rw [ih]
    split <;> simp
theorem dupT_sub : ∀ (a : ByteArray) (l : List ByteArray), (dupT (a :: l)).Sublist l
  | a, [] => by simp [dupT]
  | a, b :: t => by
    have ih := dupT_sub b t
    simp only [dupT]
    split
    · exact ih.cons_cons b
    · exact ih.cons b
theorem dupT_sub' : ∀ l : List ByteArray, (dupT l).Sublist l
  | [] => by simp [dupT]
  | a :: l => (dupT_sub a l).cons a
def leT (a b : ByteArray) : Prop := a.data.toList ≤ b.data.toList
theorem leT_anti {a b : ByteArray} (h : leT a b) (k : leT b a) : a = b := ByteArray.ext (Array.toList_inj.1 (List.le_antisymm h k))
/-- How often a text stands in a list. -/
def cnX (x : ByteArray) (l : List ByteArray) : Nat := l.countP fun z => decide (z = x)
theorem cnX_cons (x a : ByteArray) (l : List ByteArray) : cnX x (a :: l) = cnX x l + (if a = x then 1 else 0) := by
  unfold cnX; rw [List.countP_cons]
  by_cases h : a = x
  · rw [if_pos h, decide_eq_true h, if_pos rfl]
  · rw [if_neg h, decide_eq_false h]; rfl
theorem cnX_zero {x : ByteArray} {l : List ByteArray} (h : x ∉ l) : cnX x l = 0 := by
  unfold cnX; rw [List.countP_eq_zero]
  intro z hz e
  exact h (by rw [← of_decide_eq_true e]; exact hz)
theorem dup_mem (x : ByteArray) : ∀ l : List ByteArray, l.Pairwise leT → (x ∈ dupT l ↔ 2 ≤ cnX x l)
  | [], _ => by simp [dupT, cnX]
  | [a], _ => by
    rw [cnX_cons]
    have h0 : cnX x [] = 0 := rfl
    rw [h0]
    simp only [dupT, List.not_mem_nil, false_iff]
    split <;> omega
  | a :: b :: t, hp => by
    have hp' := hp
    rw [List.pairwise_cons] at hp'
    have ih := dup_mem x (b :: t) hp'.2
    simp only [dupT]
    rw [cnX_cons]
    by_cases e : b = a
    · rw [if_pos e, List.mem_cons, ih]
      by_cases hx : x = b
      · have h1 : 1 ≤ cnX x (b :: t) := by rw [cnX_cons, if_pos hx.symm]; omega
        rw [if_pos (show a = x by rw [hx, e])]
        exact ⟨fun _ => by omega, fun _ => .inl hx⟩
      · rw [if_neg (show ¬ a = x by intro h; exact hx (by rw [← h, e]))]
        exact ⟨fun h => by rcases h with h | h; exact absurd h hx; exact h, fun h => .inr h⟩
    · rw [if_neg e, ih]
      by_cases hx : a = x
      · have hc : cnX x (b :: t) = 0 := cnX_zero fun hm => by
          rcases List.mem_cons.1 hm with h | h
          · exact e (by rw [hx, h])
          · have h1 := hp'.1 b (by simp)
            have h3 := (List.pairwise_cons.1 hp'.2).1 x h
            rw [hx] at h1
            exact e ((leT_anti h3 h1).trans hx.symm)
        rw [hc, if_pos hx]; omega
      · rw [if_neg hx]; omega

/-- All texts used in the year, place by place, each once a place. -/
def allX (ps : List Pl) (y : Int) : List ByteArray := ps.flatMap fun p => setT (txU p.ns y)
theorem allX_step {ps : List Pl} {y : Int} {k : Nat} {p : Pl} (h : ps[k]? = some p) : allX (ps.take (k + 1)) y = allX (ps.take k) y ++ setT (txU p.ns y) := by
  rw [take_snocP h]; unfold allX; rw [List.flatMap_append]; simp
/-- At how many places the text is used in the year. -/
def cntX (ps : List Pl) (y : Int) (x : ByteArray) : Nat := ps.countP fun p => hasT11 p.ns y x
theorem cntX_yes {ps : List Pl} {y : Int} {k : Nat} {p : Pl} {x : ByteArray} (h : ps[k]? = some p) (hh : hasT11 p.ns y x = true) : cntX (ps.take (k + 1)) y x = cntX (ps.take k) y x + 1 := by
  rw [take_snocP h]; unfold cntX; rw [List.countP_append]; simp [hh]
theorem cntX_no {ps : List Pl} {y : Int} {k : Nat} {p : Pl} {x : ByteArray} (h : ps[k]? = some p) (hh : hasT11 p.ns y x = false) : cntX (ps.take (k + 1)) y x = cntX (ps.take k) y x := by
  rw [take_snocP h]; unfold cntX; rw [List.countP_append]; simp [hh]
theorem cntX_len (ps : List Pl) (y : Int) (x : ByteArray) : cntX ps y x ≤ ps.length := List.countP_le_length
theorem cnX_one {x : ByteArray} : ∀ {l : List ByteArray}, l.Pairwise ltT → x ∈ l → cnX x l = 1
  | [], _, h => by cases h
  | a :: l, hp, h => by
    rw [List.pairwise_cons] at hp
    rw [cnX_cons]
    by_cases e : a = x
    · rw [if_pos e, cnX_zero fun hm => ltT_irr a (by have := hp.1 x hm; rwa [← e] at this)]
    · rw [if_neg e]
      rcases List.mem_cons.1 h with h | h
      · exact absurd h.symm e
      · rw [cnX_one hp.2 h]
theorem setT_count (xs : List Nm) (y : Int) (x : ByteArray) : cnX x (setT (txU xs y)) = if hasT11 xs y x then 1 else 0 := by
  have h := setT_is (txU xs y)
  by_cases hm : x ∈ setT (txU xs y)
  · have h1 : hasT11 xs y x = true := decide_eq_true ((h.2 x).1 hm)
    rw [h1, if_pos rfl]
    exact cnX_one h.1 hm
  · have h1 : hasT11 xs y x = false := decide_eq_false fun k => hm ((h.2 x).2 k)
    rw [h1, cnX_zero hm]; rfl
theorem cnX_app (x : ByteArray) (a b : List ByteArray) : cnX x (a ++ b) = cnX x a + cnX x b := by unfold cnX; rw [List.countP_append]
theorem allX_count (y : Int) (x : ByteArray) : ∀ ps : List Pl, cnX x (allX ps y) = cntX ps y x
  | [] => rfl
  | p :: ps => by
    have ih := allX_count y x ps
    have e1 : allX (p :: ps) y = setT (txU p.ns y) ++ allX ps y := by unfold allX; rw [List.flatMap_cons]
    rw [e1, cnX_app, ih, setT_count]
    unfold cntX
    rw [List.countP_cons]
    omega
/-- The same texts sorted. -/
def srtX (ps : List Pl) (y : Int) : List ByteArray := ofL ((toL (allX ps y)).mergeSort fun x y => decide (x ≤ y))
theorem srt_pair (ps : List Pl) (y : Int) : (srtX ps y).Pairwise leT := by
  have := List.pairwise_mergeSort (le := fun (x y : List UInt8) => decide (x ≤ y)) (fun a b c h1 h2 => by simp only [decide_eq_true_eq] at *; exact List.le_trans h1 h2) (fun a b => by simp only [Bool.or_eq_true, decide_eq_true_eq]; exact List.le_total a b) (toL (allX ps y))
  unfold srtX ofL
  rw [List.pairwise_map]
  exact this.imp fun h => by unfold leT; simpa using h
theorem srt_count (ps : List Pl) (y : Int) (x : ByteArray) : cnX x (srtX ps y) = cntX ps y x := by
  rw [← allX_count]
  have h : (srtX ps y).Perm (allX ps y) := by
    have h1 := (List.mergeSort_perm (toL (allX ps y)) fun x y => decide (x ≤ y)).map (fun l : List UInt8 => (⟨l.toArray⟩ : ByteArray))
    have h2 : (toL (allX ps y)).map (fun l : List UInt8 => (⟨l.toArray⟩ : ByteArray)) = allX ps y := ofL_toL _
    rw [h2] at h1
    exact h1
  exact h.countP_eq _
theorem srt_len (ps : List Pl) (y : Int) : (srtX ps y).length = (allX ps y).length := by unfold srtX ofL toL; simp
theorem allX_len (ps : List Pl) (y : Int) : (allX ps y).length ≤ (ps.map fun p => p.ns.length).sum := by
  induction ps with
  | nil => simp [allX]
  | cons p ps ih =>
    have e1 : allX (p :: ps) y = setT (txU p.ns y) ++ allX ps y := by unfold allX; rw [List.flatMap_cons]
    rw [e1, List.length_append, List.map_cons, List.sum_cons]
    have h1 := setT_len (txU p.ns y)
    have h2 := txU_len p.ns y
    omega
/-- The texts of all names that name more than one place. -/
def homL (ps : List Pl) (y : Int) : List ByteArray := ((ps.flatMap (·.ns)).map Nm.t).filter fun x => decide (1 < cntX ps y x)
theorem homL_mem {ps : List Pl} {y : Int} {x : ByteArray} : x ∈ homL ps y ↔ 1 < cntX ps y x := by
  unfold homL
  rw [List.mem_filter, decide_eq_true_eq]
  constructor
  · exact fun h => h.2
  · intro h
    refine ⟨?_, h⟩
    have hp : 0 < cntX ps y x := by omega
    unfold cntX at hp
    rw [List.countP_pos_iff] at hp
    obtain ⟨p, hp, hh⟩ := hp
    unfold hasT11 at hh
    obtain ⟨z, hz, _, rfl⟩ := txU_mem.1 (of_decide_eq_true hh)
    rw [List.mem_map]
    exact ⟨z, List.mem_flatMap.2 ⟨p, hp, hz⟩, rfl⟩
/-- What Compact makes of the texts that are as the one before them. -/
theorem hom_set (ps : List Pl) (y : Int) : ofL (Lib.compact (toL (dupT (srtX ps y)))) = setT (homL ps y) := by
  apply setT_eq
  have hs := srt_pair ps y
  have hd : (dupT (srtX ps y)).Pairwise leT := hs.sublist (dupT_sub' _)
  have hp : (toL (dupT (srtX ps y))).Pairwise fun a b : List UInt8 => a ≤ b := by
    unfold toL; rw [List.pairwise_map]; exact hd
  obtain ⟨h1, h2⟩ := compact_set (fun a b : List UInt8 => a < b) (fun a b => a ≤ b) (fun x a b h k => List.lt_of_le_of_lt h k) (fun a b h hne => by
    by_cases k : a < b
    · exact k
    · exact absurd (List.le_antisymm h (List.not_lt.1 k)) hne) (fun a => List.le_refl a) (fun a b h => List.le_of_lt h) _ hp
  refine ⟨?_, fun x => ?_⟩
  · unfold ofL
    rw [List.pairwise_map]
    exact h1
  · rw [mem_ofL, h2, homL_mem]
    have h3 := dup_mem x _ hs
    rw [srt_count] at h3
    have h4 : x.data.toList ∈ toL (dupT (srtX ps y)) ↔ x ∈ dupT (srtX ps y) := by
      unfold toL
      rw [List.mem_map]
      constructor
      · rintro ⟨s, hs, e⟩
        rw [← show s = x from ByteArray.ext (Array.toList_inj.1 e)]; exact hs
      · intro h; exact ⟨x, h, rfl⟩
    rw [h4, h3]
    omega
/-- One more text of the sorted ones. -/
theorem dup_step {S : List ByteArray} {k : Nat} {a b : ByteArray} (h1 : S[k]? = some a) (h2 : S[k + 1]? = some b) : dupT (S.take (k + 2)) = dupT (S.take (k + 1)) ++ (if b = a then [b] else []) := by
  have e1 : S.take (k + 1) = S.take k ++ [a] := take_snoc9 h1
  have e2 : S.take (k + 1 + 1) = S.take (k + 1) ++ [b] := take_snoc9 h2
  have e3 : S.take (k + 2) = S.take k ++ [a, b] := by rw [show k + 2 = k + 1 + 1 from rfl, e2, e1]; simp
  rw [e3, e1, dupT_snoc]
theorem dup_one (S : List ByteArray) : dupT (S.take 1) = [] := by cases S <;> simp [dupT]
theorem dup_len (S : List ByteArray) : (dupT S).length ≤ S.length := (dupT_sub' S).length_le
noncomputable def hmZ (ps : List Pl) (y : Int) : List ByteArray := if pyC ps y = 0 then setT (homL ps y) else []
theorem hmZ_ok {ps : List Pl} {y : Int} (h : pyC ps y = 0) : hmZ ps y = setT (homL ps y) := by unfold hmZ; rw [if_pos h]
theorem hmZ_no {ps : List Pl} {y : Int} (h : pyC ps y ≠ 0) : hmZ ps y = [] := by unfold hmZ; rw [if_neg h]
theorem sum_le (ps : List Pl) (m : Nat) (h : ∀ p ∈ ps, p.ns.length ≤ m) : (ps.map fun p => p.ns.length).sum ≤ m * ps.length := by
  induction ps with
  | nil => simp
  | cons p ps ih =>
    have h1 := h p (by simp)
    have h2 := ih (fun q hq => h q (List.mem_cons_of_mem _ hq))
    rw [List.map_cons, List.sum_cons, List.length_cons, Nat.mul_add]; omega
theorem reg_sum12 {ps : List Pl} (h : regB ps = true) : (ps.map fun p => p.ns.length).sum ≤ 120 := by
  have h1 := sum_le ps 12 (fun p hp => (names_of (pl_parts (reg_mem h hp)).2.2.2.2.1).1)
  have h2 := (reg_of h).1
  omega
theorem homL_len (ps : List Pl) (y : Int) : (homL ps y).length ≤ (ps.map fun p => p.ns.length).sum := by
  unfold homL
  refine Nat.le_trans (List.length_filter_le _ _) ?_
  rw [List.length_map, List.length_flatMap]
  exact Nat.le_refl _
theorem hmZ_len (ps : List Pl) (y : Int) : (hmZ ps y).length ≤ 1048576 := by
  by_cases h : pyC ps y = 0
  · rw [hmZ_ok h]
    have h1 := setT_len (homL ps y)
    have h2 := homL_len ps y
    have h3 := reg_sum12 (pyC_zero h).1
    omega
  · rw [hmZ_no h]; simp
end
section
set_option linter.unusedVariables false
open Go.RowKit

theorem run_append_none11 {P : Program} (w : World) (base : Nat) (t ty e : TypeId) (i : TypeInfo) (size d : Nat) (ht : P.underlying t = some (.slice e)) (hi : P.info? e = some i)
    (v : Value) (n : Nat) (xs : List Value) (hown : w.ownsRow base e size v n xs) :
    (Builtin.append_ #[t, t] ty #[v, .slice none 0 d]).run P w = .ok v w := by
  rcases hown.2 with ⟨rfl, rfl⟩ | ⟨g, cap, cur, rfl, _, _, hnc, _⟩
  · simp [Builtin.append_, run_underlying ht, sizeOf, typeInfo, hi, Builtin.lenOf, Builtin.firstCells]
  · simp [Builtin.append_, run_underlying ht, sizeOf, typeInfo, hi, Builtin.lenOf, Builtin.firstCells, hnc, storeCells]
theorem run_append_x {P : Program} (w : World) (base : Nat) (t ty e : TypeId) (i : TypeInfo) (z : Value) (size bytes : Nat) (ht : P.underlying t = some (.slice e)) (hi : P.info? e = some i) (hz : i.zero = some z)
    (hsize : i.size = size) (hby : i.bytes = bytes) (hzs : z.cells.size = size) (hsz : 0 < size)
    (v : Value) (n : Nat) (xs : List Value) (hown : w.ownsRow base e size v n xs)
    (A : Option Addr) (m c : Nat) (news : List Value) (hA : A = none → m = 0) (hl : news.length = m * size) (hnews : ∀ ad, A = some ad → ∀ j u, news[j]? = some u → w.cell? (ad.add j) = some u) (h1 : ∀ u ∈ news, u.oneCell' = true)
    (h63 : n + m ≤ maxLen) (hbytes : (n + m) * bytes ≤ 140737488355328) (hbase : base ≤ w.heap.size) :
    ∃ v' w', (Builtin.append_ #[t, t] ty #[v, .slice A m c]).run P w = .ok v' w' ∧ w'.ownsRow base e size v' (n + m) (xs ++ news) ∧ w.grownBy w' v.ownBlock ∧ (v' = .slice none 0 0 ↔ v = .slice none 0 0 ∧ m = 0) := by
  cases A with
  | some ad => exact run_append_own (P := P) w base t ty e i z size bytes ht hi hz hsize hby hzs hsz v n xs hown ad m c news hl (hnews ad rfl) h1 h63 hbytes hbase
  | none =>
    obtain rfl := hA rfl
    have hn : news = [] := List.eq_nil_of_length_eq_zero (by omega)
    subst hn
    exact ⟨v, w, run_append_none11 w base t ty e i size c ht hi v n xs hown, by simpa using hown, ⟨rfl, rfl, rfl, Nat.le_refl _, fun _ _ _ => rfl⟩, by simp⟩
theorem wp_append_x {P : Program} {w : World} {o : Oper} {a : Act} {K : Act → World → Prop} {Q : Exit → Act → World → Prop} (s x : Operand) (t : TypeId)
    (ho : o.op = .call { callee := .builtin .append, args := #[s, x], argTypes := #[t, t] })
    (base : Nat) (e : TypeId) (i : TypeInfo) (z : Value) (size bytes : Nat) (ht : P.underlying t = some (.slice e)) (hi : P.info? e = some i) (hz : i.zero = some z)
    (hsize : i.size = size) (hby : i.bytes = bytes) (hzs : z.cells.size = size) (hsz : 0 < size)
    (v : Value) (n : Nat) (xs : List Value) (hs : a.eval s = v) (hown : w.ownsRow base e size v n xs)
    (A : Option Addr) (m c : Nat) (news : List Value) (hx : a.eval x = .slice A m c) (hA : A = none → m = 0) (hl : news.length = m * size) (hnews : ∀ ad, A = some ad → ∀ j u, news[j]? = some u → w.cell? (ad.add j) = some u) (h1 : ∀ u ∈ news, u.oneCell' = true)
    (h63 : n + m ≤ maxLen) (hbytes : (n + m) * bytes ≤ 140737488355328) (hbase : base ≤ w.heap.size)
    (h : ∀ v' w', w'.ownsRow base e size v' (n + m) (xs ++ news) → w.grownBy w' v.ownBlock → (v' = .slice none 0 0 ↔ v = .slice none 0 0 ∧ m = 0) → K (a.put o.dst v') w') : o.wp P a w K Q := by
  obtain ⟨v', w', hr, h2, h3, h4⟩ := run_append_x (P := P) w base t o.type e i z size bytes ht hi hz hsize hby hzs hsz v n xs hown A m c news hA hl hnews h1 h63 hbytes hbase
  unfold Oper.wp execOp
  simp only [ho, resolve, invoke, builtin, Sem.run_bind, Sem.run_pure, Result.andThen_ok, List.map_toArray, List.map_cons, List.map_nil, hs, hx, hr]
  exact h v' w' h2 h3 h4
theorem wpList_append_x {P : Program} {w : World} {ops : Array Oper} {rest : List Oper} {o : Oper} {a : Act} {Q : Exit → Act → World → Prop} (hgd : o.guard = none) (s x : Operand) (t : TypeId)
    (ho : o.op = .call { callee := .builtin .append, args := #[s, x], argTypes := #[t, t] })
    (base : Nat) (e : TypeId) (i : TypeInfo) (z : Value) (size bytes : Nat) (ht : P.underlying t = some (.slice e)) (hi : P.info? e = some i) (hz : i.zero = some z)
    (hsize : i.size = size) (hby : i.bytes = bytes) (hzs : z.cells.size = size) (hsz : 0 < size)
    (v : Value) (n : Nat) (xs : List Value) (hs : a.eval s = v) (hown : w.ownsRow base e size v n xs)
    (A : Option Addr) (m c : Nat) (news : List Value) (hx : a.eval x = .slice A m c) (hA : A = none → m = 0) (hl : news.length = m * size) (hnews : ∀ ad, A = some ad → ∀ j u, news[j]? = some u → w.cell? (ad.add j) = some u) (h1 : ∀ u ∈ news, u.oneCell' = true)
    (h63 : n + m ≤ maxLen) (hbytes : (n + m) * bytes ≤ 140737488355328) (hbase : base ≤ w.heap.size)
    (h : ∀ v' w', w'.ownsRow base e size v' (n + m) (xs ++ news) → w.grownBy w' v.ownBlock → (v' = .slice none 0 0 ↔ v = .slice none 0 0 ∧ m = 0) → wpList P ops Q rest (a.put o.dst v') w') : wpList P ops Q (o :: rest) a w :=
  wpList_plain hgd fun _ hK => wp_append_x s x t ho base e i z size bytes ht hi hz hsize hby hzs hsz v n xs hs hown A m c news hx hA hl hnews h1 h63 hbytes hbase fun v' w' h2 h3 h4 => hK _ _ (h v' w' h2 h3 h4)
theorem step_append_x {P : Program} {w : World} {ops : Array Oper} {o : Oper} {a : Act} {K : Act → World → Prop} {Q : Exit → Act → World → Prop} {E : Prop} (hgd : o.guard = none) (s x : Operand) (t : TypeId)
    (ho : o.op = .call { callee := .builtin .append, args := #[s, x], argTypes := #[t, t] })
    (base : Nat) (e : TypeId) (i : TypeInfo) (z : Value) (size bytes : Nat) (ht : P.underlying t = some (.slice e)) (hi : P.info? e = some i) (hz : i.zero = some z)
    (hsize : i.size = size) (hby : i.bytes = bytes) (hzs : z.cells.size = size) (hsz : 0 < size)
    (v : Value) (n : Nat) (xs : List Value) (hs : a.eval s = v) (hown : w.ownsRow base e size v n xs)
    (A : Option Addr) (m c : Nat) (news : List Value) (hx : a.eval x = .slice A m c) (hA : A = none → m = 0) (hl : news.length = m * size) (hnews : ∀ ad, A = some ad → ∀ j u, news[j]? = some u → w.cell? (ad.add j) = some u) (h1 : ∀ u ∈ news, u.oneCell' = true)
    (h63 : n + m ≤ maxLen) (hbytes : (n + m) * bytes ≤ 140737488355328) (hbase : base ≤ w.heap.size)
    (h : ∀ v' w', w'.ownsRow base e size v' (n + m) (xs ++ news) → w.grownBy w' v.ownBlock → (v' = .slice none 0 0 ↔ v = .slice none 0 0 ∧ m = 0) → K (a.put o.dst v') w') :
    if Region.wanted o (yielded ops a.tmps) = true then Oper.wp P o a w K Q else E := by
  have hw : Region.wanted o (yielded ops a.tmps) = true := by simp [Region.wanted, hgd]
  rw [if_pos hw]
  exact wp_append_x s x t ho base e i z size bytes ht hi hz hsize hby hzs hsz v n xs hs hown A m c news hx hA hl hnews h1 h63 hbytes hbase h
end
end Go.Proofs.YtglmibmjbignbaaGreatDoor
