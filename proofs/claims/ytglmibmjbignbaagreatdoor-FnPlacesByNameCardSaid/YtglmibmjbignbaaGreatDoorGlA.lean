/-
  A register that is being drawn: places in a row of one's own, the source beside it.
-/
import Derived.Test.YtglmibmjbignbaaGreatDoorGeD
import Derived.Test.YtglmibmjbignbaaGreatDoorPlAdS
import Derived.Test.YtglmibmjbignbaaGreatDoorMy19
namespace Go.Proofs.YtglmibmjbignbaaGreatDoor
set_option linter.unusedVariables false
open Go.RowKit

/-- A place of bounded size, with its names. -/
def SmQ (p : Pl) : Prop := SmP p ∧ p.ns.length ≤ 13 ∧ ∀ x ∈ p.ns, Small x
structure LP (w : World) (B len : Nat) (V : World) (A : Option Addr) (n c : Nat) (ps : List Pl) : Prop where
  own : ∃ es, plsOf es = ps ∧ OwnP V w.heap.size V.heap.size A n c es
  src : Src V B len
  grown : w.grownBy V (some B)
  lt : B < w.heap.size
  sm : ∀ p ∈ ps, SmQ p
theorem own_next {w V V' : World} {B n c : Nat} {A : Option Addr} {es : List PE} (hl : B < w.heap.size) (ho : OwnP V w.heap.size V.heap.size A n c es) (hg : V.grownBy V' (some B)) : OwnP V' w.heap.size V'.heap.size A n c es :=
  (ho.like ⟨hg.os, hg.tape, hg.output, hg.size, fun k h1 h2 => hg.block k h2 (fun e => by injection e; omega)⟩).here
theorem LP.next {w V V' : World} {B len n c : Nat} {A : Option Addr} {ps : List Pl} (h : LP w B len V A n c ps) (hS : Src V' B len) (hg : V.grownBy V' (some B)) : LP w B len V' A n c ps := by
  obtain ⟨es, he, ho⟩ := h.own
  have hl := h.lt
  refine ⟨⟨es, he, ?_⟩, hS, h.grown.trans hg, h.lt, h.sm⟩
  exact (ho.like ⟨hg.os, hg.tape, hg.output, hg.size, fun k h1 h2 => hg.block k h2 (fun e => by injection e; omega)⟩).here
theorem LP.alloc {w V : World} {B len n c : Nat} {A : Option Addr} {ps : List Pl} (h : LP w B len V A n c ps) (o : Obj) : LP w B len (V.alloc o) A n c ps := h.next (h.src.alloc o) (World.grownBy_alloc V o (some B))
theorem LP.below {w V V' : World} {B len n c : Nat} {A : Option Addr} {ps : List Pl} (h : LP w B len V A n c ps) (hb : Below V.heap.size V V') : LP w B len V' A n c ps :=
  h.next (h.src.ownL (r := none) ⟨hb.os, hb.tape, hb.output, hb.size, fun k hk _ => hb.block k hk⟩ (fun k e => by cases e)) ⟨hb.os, hb.tape, hb.output, hb.size, fun k hk _ => hb.block k hk⟩
theorem LP.pl {w V : World} {B len n c : Nat} {A : Option Addr} {ps : List Pl} (h : LP w B len V A n c ps) : PlAt V V.heap.size A n ps := by
  obtain ⟨es, he, ho⟩ := h.own
  exact own_pl2 ho he
theorem LP.form {w V : World} {B len n c : Nat} {A : Option Addr} {ps : List Pl} (h : LP w B len V A n c ps) : Form11 V A n c := by
  obtain ⟨es, he, ho⟩ := h.own
  exact form11 ho
theorem LP.sz {w V : World} {B len n c : Nat} {A : Option Addr} {ps : List Pl} (h : LP w B len V A n c ps) : Sz11 ps := fun p hp => by
  obtain ⟨h1, h2, h3⟩ := h.sm p hp
  exact ⟨by have := h1.1; omega, by omega, fun x hx => ⟨by have := (h3 x hx).1; omega, by have := (h3 x hx).2.1; omega⟩⟩
theorem LP.n_le {w V : World} {B len n c : Nat} {A : Option Addr} {ps : List Pl} (h : LP w B len V A n c ps) : n = ps.length := h.pl.1
theorem smq_sz {p : Pl} (h : SmQ p) : p.c.size ≤ 1048576 ∧ p.ns.length ≤ 1048576 ∧ ∀ e ∈ p.ns, e.t.size ≤ 1048576 ∧ e.l.size ≤ 1048576 :=
  ⟨by have := h.1.1; omega, by have := h.2.1; omega, fun x hx => ⟨by have := (h.2.2 x hx).1; omega, by have := (h.2.2 x hx).2.1; omega⟩⟩
/-- An empty row. -/
theorem LP.nil {w : World} {B len : Nat} (hS : Src w B len) : LP w B len (w.alloc (.cells #[] 29)) (some ⟨w.heap.size, 0, none⟩) 0 0 [] := by
  have hl := hS.lt
  refine ⟨⟨[], rfl, ⟨World.ownsRow_lit (e := 29) (base := w.heap.size) (size := 5) w #[] 0 (Nat.le_refl _) (by decide) rfl, fun k hk => by cases hk; simp, (fun e he => by cases he), (fun i j x y _ hx => by simp at hx)⟩⟩, hS.alloc _, World.grownBy_alloc w _ _, hl, (fun p hp => by cases hp)⟩
/-- What AddPlace makes of it. -/
theorem LP.add {w V V' : World} {B len n c n' c' : Nat} {A A' : Option Addr} {ps : List Pl} {p : Pl} {es : List PE} (h : LP w B len V A n c ps) (hp : SmQ p) (hc : adC ps p = 0) (he : plsOf es = adZ ps p) (ho : OwnP V' V.heap.size V'.heap.size A' n' c' es) (hb : Below V.heap.size V V') : LP w B len V' A' n' c' (adZ ps p) := by
  have h1 := h.below hb
  refine ⟨⟨es, he, ho.down h.grown.size⟩, h1.src, h1.grown, h.lt, fun x hx => ?_⟩
  rw [adZ_ok hc] at hx
  unfold insP at hx
  rw [List.mem_append, List.mem_append, List.mem_singleton] at hx
  rcases hx with (hx | rfl) | hx
  · exact h.sm x (List.mem_of_mem_take hx)
  · exact hp
  · exact h.sm x (List.mem_of_mem_drop hx)
theorem adZ_ten {ps : List Pl} {p : Pl} (hc : adC ps p = 0) : (adZ ps p).length ≤ 10 := by
  rw [adZ_ok hc]
  unfold adC at hc
  cases h1 : regB ps
  · rw [h1] at hc; simp at hc
  · have h2 := (reg_of h1).1
    have h3 : ps.length ≠ 10 := by
      intro e
      rw [h1, e] at hc
      cases h4 : plB p <;> rw [h4] at hc <;> simp at hc
    unfold insP
    rw [List.length_append, List.length_append, List.length_take, List.length_drop, List.length_singleton]
    omega
/-- One more place behind the others, by append. -/
theorem wpList_appP {ops : Array Oper} {rest : List Oper} {o : Oper} {a : Act} {Q : Exit → Act → World → Prop} {w V : World} {B len n c d : Nat} {A Ap : Option Addr} {ps : List Pl} {p : Pl} (h : LP w B len V A n c ps) (hp : SmQ p)
    (es : List PE) (he : plsOf es = ps) (how : OwnP V w.heap.size V.heap.size A n c es)
    (hin : 0 < p.ns.length → V.ownsRow w.heap.size 100 5 (.slice Ap p.ns.length d) p.ns.length (nmV p.ns)) (hap : ∀ x ∈ es, 0 < x.p.ns.length → 0 < p.ns.length → x.a ≠ Ap)
    (hgd : o.guard = none) (s x : Operand)
    (ho : o.op = .call { callee := .builtin .append, args := #[s, x], argTypes := #[24, 24] }) (hs : a.eval s = .slice A n c) (hx : a.eval x = .slice (some ⟨V.heap.size, 0, none⟩) 1 1) (hn : n ≤ 1000)
    (hk : ∀ (A' : Option Addr) (c' : Nat) (w' : World), LP w B len w' A' (n + 1) c' (ps ++ [p]) → wpList Tryz.prog ops Q rest (a.put o.dst (.slice A' (n + 1) c')) w') :
    wpList Tryz.prog ops Q (o :: rest) a (V.alloc (.cells #[.string p.c, .int .i64 p.k, .int .i64 p.f, .int .i64 p.u, .slice Ap p.ns.length d] 29)) := by
  obtain ⟨i0, hi0, hz0, hz1, hz2⟩ := info_parts info_pl
  have hba := below_alloc11 V (.cells #[.string p.c, .int .i64 p.k, .int .i64 p.f, .int .i64 p.u, .slice Ap p.ns.length d] 29)
  have hA := how.alloc (.cells #[.string p.c, .int .i64 p.k, .int .i64 p.f, .int .i64 p.u, .slice Ap p.ns.length d] 29)
  refine wpList_append_x hgd s x 24 ho w.heap.size 29 i0 _ 5 64 Tryz.underlying24 hi0 hz0 hz1 hz2 rfl (by decide) _ n (plV es) hs hA.row (some ⟨V.heap.size, 0, none⟩) 1 1 (encE11 ⟨p, Ap, d⟩) hx (fun e => by cases e) rfl (bx_addG (Bx.new V #[.string p.c, .int .i64 p.k, .int .i64 p.f, .int .i64 p.u, .slice Ap p.ns.length d] 29)) (fun u hu => pl_one11 [⟨p, Ap, d⟩] u (by rw [plV_one]; exact hu)) (by unfold maxLen; omega) (by omega) (Nat.le_trans h.grown.size hba.size) ?_
  intro v' w' h1 h2 _
  have e1 : plV es ++ encE11 ⟨p, Ap, d⟩ = plV (es ++ [⟨p, Ap, d⟩]) := by rw [plV_app, plV_one]
  rw [e1] at h1
  obtain ⟨A', c', rfl⟩ : ∃ A' c', v' = .slice A' (n + 1) c' := by
    rcases h1.2 with ⟨rfl, h0⟩ | ⟨g, cap, cur, rfl, _⟩
    · omega
    · exact ⟨_, _, rfl⟩
  have hl := h.lt
  have hblk : ∀ k, (Value.slice A n c).ownBlock = some k → w.heap.size ≤ k := fun k hk => (how.row.lt k hk).1
  have hsize := h2.size
  simp at hsize
  refine hk A' c' w' ⟨⟨es ++ [⟨p, Ap, d⟩], by rw [plsOf_app, he]; rfl, ?_⟩, ?_, ?_, h.lt, ?_⟩
  · exact hA.snoc (hi' := w'.heap.size) (e := ⟨p, Ap, d⟩) (fun h0 => ⟨(hin h0).alloc _, fun b hb => by have := ((hin h0).lt b hb).2; omega⟩) hap h1 (fun k hk => (h1.lt k hk).2) (by omega) h2
  · exact (h.src.alloc _).ownL h2 (fun k hk => by have := hblk k hk; omega)
  · exact grown_ownL (h.grown.trans (World.grownBy_alloc V _ (some B))) h2 (fun k hk => hblk k hk)
  · intro z hz
    rw [List.mem_append, List.mem_singleton] at hz
    rcases hz with hz | rfl
    · exact h.sm z hz
    · exact hp
/-- The same for a place without names. -/
theorem wpList_appP0 {ops : Array Oper} {rest : List Oper} {o : Oper} {a : Act} {Q : Exit → Act → World → Prop} {w V : World} {B len n c : Nat} {A : Option Addr} {ps : List Pl} {t : ByteArray} {k f u : Int} (h : LP w B len V A n c ps) (hp : SmQ ⟨t, k, f, u, []⟩)
    (hgd : o.guard = none) (s x : Operand)
    (ho : o.op = .call { callee := .builtin .append, args := #[s, x], argTypes := #[24, 24] }) (hs : a.eval s = .slice A n c) (hx : a.eval x = .slice (some ⟨V.heap.size, 0, none⟩) 1 1) (hn : n ≤ 1000)
    (hk : ∀ (A' : Option Addr) (c' : Nat) (w' : World), LP w B len w' A' (n + 1) c' (ps ++ [⟨t, k, f, u, []⟩]) → wpList Tryz.prog ops Q rest (a.put o.dst (.slice A' (n + 1) c')) w') :
    wpList Tryz.prog ops Q (o :: rest) a (V.alloc (.cells #[.string t, .int .i64 k, .int .i64 f, .int .i64 u, .slice none 0 0] 29)) := by
  obtain ⟨es, he, how⟩ := h.own
  exact wpList_appP (p := ⟨t, k, f, u, []⟩) (Ap := none) (d := 0) h hp es he how (fun h0 => absurd h0 (Nat.lt_irrefl 0)) (fun x hx h1 h2 => absurd h2 (Nat.lt_irrefl 0)) hgd s x ho hs hx hn hk
end Go.Proofs.YtglmibmjbignbaaGreatDoor
