/-
  Plain facts on phrases that are taken apart, and boxes that hold parts.
-/
import Derived.Test.YtippjomkbpiliaaDoorGen
import Derived.Test.YtippjomkbpiliaaDoorJoin
import Derived.Test.YtippjomkbpiliaaDoorWordsOf
namespace Go.Proofs.YtippjomkbpiliaaDoor
set_option linter.unusedVariables false
open Go.RowKit

def getT (ws : List ByteArray) (k : Nat) : ByteArray := ws.getD k ByteArray.empty
theorem getT_at {ws : List ByteArray} {k : Nat} (h : k < ws.length) : ws[k]? = some (getT ws k) := by
  unfold getT; rw [List.getD_eq_getElem?_getD, List.getElem?_eq_getElem h]; rfl
/-- The place of the Generic. -/
def plP (gs ws : List ByteArray) : Option Nat :=
  if ws.length ≤ 1 then none else if getT ws (ws.length - 1) ∈ gs then some (ws.length - 1) else if getT ws 0 ∈ gs then some 0 else none
theorem plP_short {gs ws : List ByteArray} (h : ws.length ≤ 1) : plP gs ws = none := by unfold plP; rw [if_pos h]
theorem plP_last {gs ws : List ByteArray} (h : ¬ ws.length ≤ 1) (k : getT ws (ws.length - 1) ∈ gs) : plP gs ws = some (ws.length - 1) := by unfold plP; rw [if_neg h, if_pos k]
theorem plP_first {gs ws : List ByteArray} (h : ¬ ws.length ≤ 1) (k : getT ws (ws.length - 1) ∉ gs) (l : getT ws 0 ∈ gs) : plP gs ws = some 0 := by unfold plP; rw [if_neg h, if_neg k, if_pos l]
theorem plP_none {gs ws : List ByteArray} (h : ¬ ws.length ≤ 1) (k : getT ws (ws.length - 1) ∉ gs) (l : getT ws 0 ∉ gs) : plP gs ws = none := by unfold plP; rw [if_neg h, if_neg k, if_neg l]
theorem plP_lt {gs ws : List ByteArray} {k : Nat} (h : plP gs ws = some k) : k < ws.length ∧ 1 < ws.length ∧ getT ws k ∈ gs := by
  unfold plP at h
  split at h
  · cases h
  · split at h
    · cases h; refine ⟨by omega, by omega, ?_⟩; assumption
    · split at h
      · cases h; refine ⟨by omega, by omega, ?_⟩; assumption
      · cases h
def plV (o : Option Nat) : Value := match o with
  | some k => .tuple #[.int .i64 (k : Int), .bool true]
  | none => .tuple #[.int .i64 0, .bool false]
def partS (gs : List ByteArray) (s : ByteArray) : ByteArray := match plP gs (spaceB s) with
  | some k => joinB ((spaceB s).take k ++ (spaceB s).drop (k + 1))
  | none => s
def partG (gs : List ByteArray) (s : ByteArray) : ByteArray := match plP gs (spaceB s) with
  | some k => getT (spaceB s) k
  | none => ByteArray.empty
theorem partS_some {gs : List ByteArray} {s : ByteArray} {k : Nat} (h : plP gs (spaceB s) = some k) : partS gs s = joinB ((spaceB s).take k ++ (spaceB s).drop (k + 1)) := by unfold partS; rw [h]
theorem partG_some {gs : List ByteArray} {s : ByteArray} {k : Nat} (h : plP gs (spaceB s) = some k) : partG gs s = getT (spaceB s) k := by unfold partG; rw [h]
theorem partS_none {gs : List ByteArray} {s : ByteArray} (h : plP gs (spaceB s) = none) : partS gs s = s := by unfold partS; rw [h]
theorem partG_none {gs : List ByteArray} {s : ByteArray} (h : plP gs (spaceB s) = none) : partG gs s = ByteArray.empty := by unfold partG; rw [h]
def okT (gs : List ByteArray) (s : ByteArray) : Bool := genB gs && phraseB s
def taC (gs : List ByteArray) (s : ByteArray) : Int := if okT gs s then 0 else 1
def taS (gs : List ByteArray) (s : ByteArray) : ByteArray := if okT gs s then partS gs s else ByteArray.empty
def taG (gs : List ByteArray) (s : ByteArray) : ByteArray := if okT gs s then partG gs s else ByteArray.empty
theorem ta_bad {gs : List ByteArray} {s : ByteArray} (h : okT gs s = false) : taC gs s = 1 ∧ taS gs s = ByteArray.empty ∧ taG gs s = ByteArray.empty := by unfold taC taS taG; rw [h]; exact ⟨rfl, rfl, rfl⟩
theorem ta_ok {gs : List ByteArray} {s : ByteArray} (h : okT gs s = true) : taC gs s = 0 ∧ taS gs s = partS gs s ∧ taG gs s = partG gs s := by unfold taC taS taG; rw [h]; exact ⟨rfl, rfl, rfl⟩

/-- A box that holds parts. -/
def PB (w : World) (b : Nat) (s t : ByteArray) : Prop :=
  (b < w.heap.size ∧ w.cell? ⟨b, 0, none⟩ = some (.string s) ∧ w.cell? ⟨b, 1, none⟩ = some (.string t)) ∧ w.frozen? ⟨b, 0, none⟩ = false ∧ w.frozen? ⟨b, 1, none⟩ = false
theorem PB.below {w w' : World} {b : Nat} {s t : ByteArray} (h : PB w b s t) (hb : Below w.heap.size w w') : PB w' b s t :=
  ⟨⟨Nat.lt_of_lt_of_le h.1.1 hb.size, (hb.cell (p := ⟨b, 0, none⟩) h.1.1).trans h.1.2.1, (hb.cell (p := ⟨b, 1, none⟩) h.1.1).trans h.1.2.2⟩, (hb.frozen (p := ⟨b, 0, none⟩) h.1.1).trans h.2.1, (hb.frozen (p := ⟨b, 1, none⟩) h.1.1).trans h.2.2⟩
theorem heap_new8 (w : World) (o : Obj) : (w.alloc o).heap[w.heap.size]? = some o := by
  show (w.heap.push o)[w.heap.size]? = some o
  simp
theorem PB.new (w : World) (s t : ByteArray) : PB (w.alloc (.cells #[.string s, .string t] 28)) w.heap.size s t := by
  refine ⟨⟨by simp, by rw [World.cell?_alloc_at _ _ _ _ rfl]; rfl, by rw [World.cell?_alloc_at _ _ _ _ rfl]; rfl⟩, by unfold World.frozen?; rw [heap_new8]; simp, by unfold World.frozen?; rw [heap_new8]; simp⟩
theorem below_setP {B : Nat} {w w' : World} (h : Below B w w') {g : Nat} (hg : B ≤ g) (x y : Value) : Below B w ((w'.setCell ⟨g, 0, none⟩ x).setCell ⟨g, 1, none⟩ y) := (h.setCell hg x).setCell hg y

theorem tCont (A : Option Addr) (n c B : Nat) (gs : List ByteArray) (x : ByteArray) (w : World) (hbig : n ≤ 1048576) (h : TextAt w B A n gs) :
    Calls Tryd.prog 47 #[.slice A n c, .string x] w fun e w' => e = .returned (.bool (decide (x ∈ gs))) ∧ w = w' := by
  rcases Nat.eq_zero_or_pos n with rfl | hp
  · obtain rfl : gs = [] := List.eq_nil_of_length_eq_zero h.1.symm
    exact (Tryd.slices_Contains_string_empty A c x w).mono fun e w' ⟨h1, h2⟩ => ⟨by rw [h1]; simp, h2.symm⟩
  · obtain ⟨b, o, rfl, hb, hc⟩ := h.2 hp
    have k := Tryd.slices_Contains_string b o n c gs x w (by rw [h.1]; exact Nat.le_refl _) (by omega) (cells_getD hc)
    rw [List.take_of_length_le (by rw [h.1]; exact Nat.le_refl _), contains_dec] at k
    exact k.mono fun e w' ⟨h1, h2⟩ => ⟨h1, h2.symm⟩

set_option maxHeartbeats 400000 in
theorem cPlace (A : Option Addr) (n c B g m d : Nat) (gs ws : List ByteArray) (w : World) (hbig : n ≤ 1048576) (h : TextAt w B A n gs) (hm : m = ws.length) (hm0 : 1 ≤ m) (hmb : m ≤ 1048576)
    (hc : ∀ (j : Nat) x, ws[j]? = some x → w.cell? ⟨g, j, none⟩ = some (.string x)) :
    Calls Tryd.prog 30 #[.slice A n c, .slice (some ⟨g, 0, none⟩) m d] w fun e w' => e = .returned (plV (plP gs ws)) ∧ w = w' := by
  have CC := Lib.hid (fun x => tCont A n c B gs x w hbig h)
  obtain ⟨q, hq⟩ : ∃ q, m = q + 1 := ⟨m - 1, by omega⟩
  have hq1 : (m : Int) - 1 = (q : Int) := by omega
  have hq2 : ws.length - 1 = q := by omega
  have HM := Lib.hid hm
  have cl := hc q (getT ws q) (getT_at (by omega))
  have c0 := hc 0 (getT ws 0) (getT_at (by omega))
  have q1 : (0 : Int) ≤ (q : Int) := Int.natCast_nonneg _
  have q2 : (q : Int) < (m : Int) := by omega
  have q3 : (0 : Int) < (m : Int) := by omega
  clear h hc hm
  by_cases h1 : ws.length ≤ 1
  · rw [plP_short h1]
    have hz : ((q : Int) == 0) = true := by rw [beq_iff_eq]; omega
    clear h1
    go_enter Tryd.func30, Tryd.ntmps30
    go_wp2_with fail
    go_ret2
    exact ⟨rfl, rfl⟩
  have hz : ((q : Int) == 0) = false := by rw [beq_eq_false_iff_ne]; have := HM.out; omega
  have CL := Lib.hid (CC.out (getT ws q))
  have CF := Lib.hid (CC.out (getT ws 0))
  by_cases h2 : getT ws q ∈ gs
  · rw [plP_last h1 (by rw [hq2]; exact h2), hq2]
    rw [decide_eq_true h2] at CL
    clear h1 h2 CC hq hq2
    generalize getT ws q = x at cl CL
    go_enter Tryd.func30, Tryd.ntmps30
    go_wp2_with (go_at_call 47; refine CL.out.mono ?_; rintro e w' ⟨rfl, rfl⟩)
    go_ret2
    exact ⟨rfl, rfl⟩
  by_cases h3 : getT ws 0 ∈ gs
  · rw [plP_first h1 (by rw [hq2]; exact h2) h3]
    rw [decide_eq_false h2] at CL
    rw [decide_eq_true h3] at CF
    clear h1 h2 h3 CC hq hq2
    generalize getT ws q = x at cl CL
    generalize getT ws 0 = y at c0 CF
    go_enter Tryd.func30, Tryd.ntmps30
    go_wp2_with (first
      | (go_at_call_of 47 (Value.string x); refine CL.out.mono ?_; rintro e w' ⟨rfl, rfl⟩)
      | (go_at_call_of 47 (Value.string y); refine CF.out.mono ?_; rintro e w' ⟨rfl, rfl⟩))
    go_ret2
    exact ⟨rfl, rfl⟩
  · rw [plP_none h1 (by rw [hq2]; exact h2) h3]
    rw [decide_eq_false h2] at CL
    rw [decide_eq_false h3] at CF
    clear h1 h2 h3 CC hq hq2
    generalize getT ws q = x at cl CL
    generalize getT ws 0 = y at c0 CF
    go_enter Tryd.func30, Tryd.ntmps30
    go_wp2_with (first
      | (go_at_call_of 47 (Value.string x); refine CL.out.mono ?_; rintro e w' ⟨rfl, rfl⟩)
      | (go_at_call_of 47 (Value.string y); refine CF.out.mono ?_; rintro e w' ⟨rfl, rfl⟩))
    go_ret2
    exact ⟨rfl, rfl⟩
end Go.Proofs.YtippjomkbpiliaaDoor
