/-
  The contract of spec.l03Good: a drawn alphabet is a row of short texts of one's own.
-/
import Derived.Test.YthlilfdndpnbkaaGreatDoorMg2
import Derived.Test.YthlilfdndpnbkaaGreatDoorSplit
import Derived.Deep.RegionLaw
import Derived.Deep.AppendLies
namespace Go.Proofs.YthlilfdndpnbkaaGreatDoor
section
set_option linter.unusedVariables false
open Go.RowKit

theorem Src.grow {w w' : World} {B len : Nat} {row : Option Nat} (h : Src w B len) (hg : w.grownBy w' row) (hne : ∀ x, row = some x → B < x) : Src w' B len := by
  obtain ⟨A, cap, a, s, hT, k1, k2, k3, k4, k5⟩ := h
  refine ⟨A, cap, a, s, (hg.block B hT.lt (fun e => by have := hne _ e.symm; omega)).trans hT, k1, k2, k3, k4, fun hp => ?_⟩
  obtain ⟨cb, co, hA, hlt, hbl, hc⟩ := k5 hp
  refine ⟨cb, co, hA, hlt, Nat.lt_of_lt_of_le hbl hg.size, fun j hj => ?_⟩
  obtain ⟨z, q0, q1, hz⟩ := hc j hj
  exact ⟨z, q0, q1, (World.cell?_of_block (a := ⟨cb, co + j, none⟩) (hg.block cb hbl (fun e => by have := hne _ e.symm; omega))).trans hz⟩
theorem grown_new {a w w' : World} {B : Nat} {row : Option Nat} (h : a.grownBy w (some B)) (hg : w.grownBy w' row) (hr : ∀ x, row = some x → a.heap.size ≤ x) : a.grownBy w' (some B) :=
  ⟨hg.os.trans h.os, hg.tape.trans h.tape, hg.output.trans h.output, Nat.le_trans h.size hg.size, fun k hk hne => (hg.block k (Nat.lt_of_lt_of_le hk h.size) (fun e => by have := hr k e.symm; omega)).trans (h.block k hk hne)⟩
theorem grown_drw {a w : World} {row : Option Nat} (h : a.grownBy w row) : a.grownBy w.drew row := ⟨h.os, h.tape, h.output, h.size, h.block⟩
/-- A row of texts of at most m characters, of one's own from block lo on. -/
def TRow (w : World) (lo m n : Nat) (v : Value) (xs : List ByteArray) : Prop := w.ownsRow lo 9 1 v n (strV xs) ∧ ∀ x ∈ xs, x.size ≤ m
theorem TRow.len {w : World} {lo m n : Nat} {v : Value} {xs : List ByteArray} (h : TRow w lo m n v xs) : n = xs.length := by have := h.1.1; rw [strV_len] at this; omega
theorem TRow.kept {w w' : World} {lo m n B : Nat} {v : Value} {xs : List ByteArray} (h : TRow w lo m n v xs) (hg : w.grownBy w' (some B)) (hB : B < lo) : TRow w' lo m n v xs :=
  ⟨h.1.kept hg (by
    cases hv : Value.ownBlock _ with
    | none => exact .inl rfl
    | some x =>
      have h1 := (h.1.lt x hv).1
      exact .inr (by intro e; injection e with e; omega)), h.2⟩
theorem TRow.form {w : World} {lo m n : Nat} {v : Value} {xs : List ByteArray} (h : TRow w lo m n v xs) : ∃ A c, v = .slice A n c := by
  rcases h.1.2 with ⟨h1, h2⟩ | ⟨g1, cap1, cur, h1, h2⟩
  · exact ⟨none, 0, by rw [h1, h2]⟩
  · exact ⟨_, _, h1⟩
theorem TRow.snoc {w : World} {lo m n : Nat} {v : Value} {xs : List ByteArray} {y : ByteArray} (h : w.ownsRow lo 9 1 v (n + 1) (strV xs ++ [.string y])) (hx : ∀ x ∈ xs, x.size ≤ m) (hy : y.size ≤ m) : TRow w lo m (n + 1) v (xs ++ [y]) :=
  ⟨by rw [← strV_snoc]; exact h, fun x hm => by
    rcases List.mem_append.1 hm with hm | hm
    · exact hx x hm
    · rw [List.mem_singleton] at hm; rw [hm]; exact hy⟩
def TRowPost (m : Nat) (w : World) (B len : Nat) (e : Ending) (w' : World) : Prop := ∃ (v : Value) (n : Nat) (xs : List ByteArray), n ≤ 60 ∧ e = .returned v ∧ TRow w' w.heap.size m n v xs ∧ Src w' B len ∧ w.grownBy w' (some B)

def GoodPost (w : World) (B len : Nat) (e : Ending) (w' : World) : Prop := ∃ (v : Value) (n : Nat) (xs : List ByteArray), 0 < n ∧ n ≤ 26 ∧ e = .returned v ∧ TRow w' w.heap.size 64 n v xs ∧ Src w' B len ∧ w.grownBy w' (some B)

def lit26 : Array Value := #[.string ⟨#[97]⟩, .string ⟨#[98]⟩, .string ⟨#[101]⟩, .string ⟨#[102]⟩, .string ⟨#[104]⟩, .string ⟨#[105]⟩, .string ⟨#[107]⟩, .string ⟨#[108]⟩, .string ⟨#[109]⟩, .string ⟨#[110]⟩, .string ⟨#[111]⟩, .string ⟨#[114]⟩, .string ⟨#[115]⟩, .string ⟨#[116]⟩, .string ⟨#[119]⟩, .string ⟨#[121]⟩, .string ⟨#[100]⟩, .string ⟨#[103]⟩, .string ⟨#[99]⟩, .string ⟨#[115, 104]⟩, .string ⟨#[115, 116]⟩, .string ⟨#[99, 104]⟩, .string ⟨#[97, 101]⟩, .string ⟨#[107, 105]⟩, .string ⟨#[102, 111, 114]⟩, .string ⟨#[116, 111, 110]⟩]
theorem row26 (w : World) : TextRow (w.alloc (.cells lit26 9)) w.heap.size 26 3 := by
  refine ⟨by simp, fun j hj => ?_⟩
  rw [World.cell?_alloc_at _ _ _ _ rfl]
  have h : ∀ j, j < 26 → ∃ x : ByteArray, x.size ≤ 3 ∧ lit26[j]? = some (.string x) := by
    intro j hj
    have h : j = 0 ∨ j = 1 ∨ j = 2 ∨ j = 3 ∨ j = 4 ∨ j = 5 ∨ j = 6 ∨ j = 7 ∨ j = 8 ∨ j = 9 ∨ j = 10 ∨ j = 11 ∨ j = 12 ∨ j = 13 ∨ j = 14 ∨ j = 15 ∨ j = 16 ∨ j = 17 ∨ j = 18 ∨ j = 19 ∨ j = 20 ∨ j = 21 ∨ j = 22 ∨ j = 23 ∨ j = 24 ∨ j = 25 := by omega
    rcases h with rfl | rfl | rfl | rfl | rfl | rfl | rfl | rfl | rfl | rfl | rfl | rfl | rfl | rfl | rfl | rfl | rfl | rfl | rfl | rfl | rfl | rfl | rfl | rfl | rfl | rfl
    all_goals exact ⟨_, by decide, rfl⟩
  exact h j hj
theorem TextRow.grow {w w' : World} {P n m : Nat} {row : Option Nat} (h : TextRow w P n m) (hg : w.grownBy w' row) (hne : row ≠ some P) : TextRow w' P n m :=
  ⟨Nat.lt_of_lt_of_le h.1 hg.size, fun j hj => by
    obtain ⟨x, hx, hc⟩ := h.2 j hj
    exact ⟨x, hx, hg.cell hc (fun e => hne e.symm)⟩⟩

/-- append at a step of a region that draws, nothing asked of the number. -/
theorem step_append_own {P : Program} {w : World} {ops : Array Oper} {o : Oper} {a : Act} {K : Act → World → Prop} {Q : Exit → Act → World → Prop} {E : Prop} (hgd : o.guard = none) (s x : Operand) (t : TypeId)
    (ho : o.op = .call { callee := .builtin .append, args := #[s, x], argTypes := #[t, t] })
    (base : Nat) (e : TypeId) (i : TypeInfo) (z : Value) (size bytes : Nat) (ht : P.underlying t = some (.slice e)) (hi : P.info? e = some i) (hz : i.zero = some z)
    (hsize : i.size = size) (hby : i.bytes = bytes) (hzs : z.cells.size = size) (hsz : 0 < size)
    (v : Value) (n : Nat) (xs : List Value) (hs : a.eval s = v) (hown : w.ownsRow base e size v n xs)
    (ad : Addr) (m c : Nat) (news : List Value) (hx : a.eval x = .slice (some ad) m c) (hl : news.length = m * size) (hnews : ∀ j u, news[j]? = some u → w.cell? (ad.add j) = some u) (h1 : ∀ u ∈ news, u.oneCell' = true)
    (h63 : n + m ≤ maxLen) (hbytes : (n + m) * bytes ≤ 140737488355328) (hbase : base ≤ w.heap.size)
    (h : ∀ v' w', w'.ownsRow base e size v' (n + m) (xs ++ news) → w.grownBy w' v.ownBlock → (v' = .slice none 0 0 ↔ v = .slice none 0 0 ∧ m = 0) → K (a.put o.dst v') w') :
    if Region.wanted o (yielded ops a.tmps) = true then Oper.wp P o a w K Q else E := by
  have hw : Region.wanted o (yielded ops a.tmps) = true := by simp [Region.wanted, hgd]
  rw [if_pos hw]
  exact wp_append_own w s x t ho base e i z size bytes ht hi hz hsize hby hzs hsz v n xs hs hown ad m c news hx hl hnews h1 h63 hbytes hbase h

end
section
set_option linter.unusedVariables false
open Go.RowKit

theorem TRow.cut0 {w : World} {lo m n : Nat} {A : Option Addr} {c : Nat} {xs : List ByteArray} (h : TRow w lo m n (.slice A n c) xs) : TRow w lo m 0 (.slice A 0 c) [] := by
  refine ⟨⟨rfl, ?_⟩, by simp⟩
  rcases h.1.2 with ⟨h1, h2⟩ | ⟨g1, cap1, cur, h1, h2, h3, h4, h5, h6, h7⟩
  · injection h1 with e1 e2 e3
    rw [e1, e3]; exact .inl ⟨rfl, rfl⟩
  · injection h1 with e1 e2 e3
    rw [e1, e3]; exact .inr ⟨g1, cap1, cur, rfl, h2, h3, Nat.zero_le _, h5, h6, by simp [strV]⟩
theorem TRow.set0 {w : World} {lo m n g c : Nat} {xs : List ByteArray} {y : ByteArray} (h : TRow w lo m n (.slice (some ⟨g, 0, none⟩) n c) xs) (hy : y.size ≤ m) : TRow (w.setCell ⟨g, 0, none⟩ (.string y)) lo m n (.slice (some ⟨g, 0, none⟩) n c) (xs.set 0 y) := by
  refine ⟨?_, fun x hx => ?_⟩
  · have := (h.1.stored 0 (.string y)).1
    rw [show strV (xs.set 0 y) = (strV xs).set 0 (.string y) from by simp [strV, List.map_set]]
    exact this
  · rcases List.mem_or_eq_of_mem_set hx with h1 | h1
    · exact h.2 x h1
    · rw [h1]; exact hy
def lit4 : Array Value := #[.string ⟨#[]⟩, .string ⟨#[97, 98, 99, 100]⟩, .string ⟨#[65]⟩, .string ⟨#[122, 122, 122]⟩]
theorem row4 (w : World) : TextRow (w.alloc (.cells #[.string ⟨#[]⟩, .string ⟨#[97, 98, 99, 100]⟩, .string ⟨#[65]⟩, .string ⟨#[122, 122, 122]⟩] 9)) w.heap.size 4 4 := by
  refine ⟨by simp, fun j hj => ?_⟩
  rw [World.cell?_alloc_at _ _ _ _ rfl]
  have h : j = 0 ∨ j = 1 ∨ j = 2 ∨ j = 3 := by omega
  rcases h with rfl | rfl | rfl | rfl
  all_goals exact ⟨_, by decide, rfl⟩

end
end Go.Proofs.YthlilfdndpnbkaaGreatDoor
