/-
  The contract of spec.l03Good: a drawn alphabet is a row of short texts of one's own.
-/
import Derived.Test.YtdbbolnmcbhflaaDraw
import Derived.Test.YtdbbolnmcbhflaaSplit
import Derived.Deep.RegionLaw
import Derived.Deep.AppendLies
namespace Go.Proofs.Ytdbbolnmcbhflaa
set_option linter.unusedVariables false
open Go.RowKit

theorem Src.grow {w w' : World} {B len : Nat} {row : Option Nat} (h : Src w B len) (hg : w.grownBy w' row) (hne : ∀ x, row = some x → B < x) : Src w' B len := by
  obtain ⟨A, cap, a, s, hT, k1, k2, k3, k4, k5⟩ := h
  refine ⟨A, cap, a, s, (hg.block B hT.lt (fun e => by have := hne _ e.symm; omega)).trans hT, k1, k2, k3, k4, fun hp => ?_⟩
  obtain ⟨cb, co, hA, hlt, hbl, hc⟩ := k5 hp
  refine ⟨cb, co, hA, hlt, Nat.lt_of_lt_of_le hbl hg.size, fun j hj => ?_⟩
  obtain ⟨z, q0, q1, hz⟩ := hc j hj
  exact ⟨z, q0, q1, (World.cell?_of_block (a := ⟨cb, co + j, none⟩) (hg.block cb hbl (fun e => by have := hne _ e.symm; omega))).trans hz⟩
theorem grown_new {a w w' : World} {B : Nat} {row : Option Nat} (h : a.grownBy w (some B)) (hg : w.grownBy w' row) (hr : ∀ x, row = some x → a.heap.size ≤ x) : a.grownBy w' (some B) :=
  ⟨hg.os.trans h.os, hg.tape.trans h.tape, hg.output.trans h.output, Nat.le_trans h.size hg.size, fun k hk hne => (hg.block k (Nat.lt_of_lt_of_le hk h.size) (fun e => by have := hr k e.symm; omega)).trans (h.block k hk hne)⟩
theorem grown_drw {a w : World} {row : Option Nat} (h : a.grownBy w row) : a.grownBy w.drew row := ⟨h.os, h.tape, h.output, h.size, h.block⟩
/-- A row of texts of at most m characters, of one's own from block lo on. -/
def TRow (w : World) (lo m n : Nat) (v : Value) (xs : List ByteArray) : Prop := w.ownsRow lo 9 1 v n (strV xs) ∧ ∀ x ∈ xs, x.size ≤ m
theorem TRow.len {w : World} {lo m n : Nat} {v : Value} {xs : List ByteArray} (h : TRow w lo m n v xs) : n = xs.length := by have := h.1.1; rw [strV_len] at this; omega
theorem TRow.kept {w w' : World} {lo m n B : Nat} {v : Value} {xs : List ByteArray} (h : TRow w lo m n v xs) (hg : w.grownBy w' (some B)) (hB : B < lo) : TRow w' lo m n v xs :=
  ⟨h.1.kept hg (by
    cases hv : Value.ownBlock _ with
    | none => exact .inl rfl
    | some x =>
      have h1 := (h.1.lt x hv).1
      exact .inr (by intro e; injection e with e; omega)), h.2⟩
theorem TRow.form {w : World} {lo m n : Nat} {v : Value} {xs : List ByteArray} (h : TRow w lo m n v xs) : ∃ A c, v = .slice A n c := by
  rcases h.1.2 with ⟨h1, h2⟩ | ⟨g1, cap1, cur, h1, h2⟩
  · exact ⟨none, 0, by rw [h1, h2]⟩
  · exact ⟨_, _, h1⟩
theorem TRow.snoc {w : World} {lo m n : Nat} {v : Value} {xs : List ByteArray} {y : ByteArray} (h : w.ownsRow lo 9 1 v (n + 1) (strV xs ++ [.string y])) (hx : ∀ x ∈ xs, x.size ≤ m) (hy : y.size ≤ m) : TRow w lo m (n + 1) v (xs ++ [y]) :=
  ⟨by rw [← strV_snoc]; exact h, fun x hm => by
    rcases List.mem_append.1 hm with hm | hm
    · exact hx x hm
    · rw [List.mem_singleton] at hm; rw [hm]; exact hy⟩
def TRowPost (m : Nat) (w : World) (B len : Nat) (e : Ending) (w' : World) : Prop := ∃ (v : Value) (n : Nat) (xs : List ByteArray), n ≤ 60 ∧ e = .returned v ∧ TRow w' w.heap.size m n v xs ∧ Src w' B len ∧ w.grownBy w' (some B)

def GoodPost (w : World) (B len : Nat) (e : Ending) (w' : World) : Prop := ∃ (v : Value) (n : Nat) (xs : List ByteArray), 0 < n ∧ n ≤ 26 ∧ e = .returned v ∧ TRow w' w.heap.size 64 n v xs ∧ Src w' B len ∧ w.grownBy w' (some B)

def lit26 : Array Value := #[.string ⟨#[97]⟩, .string ⟨#[98]⟩, .string ⟨#[101]⟩, .string ⟨#[102]⟩, .string ⟨#[104]⟩, .string ⟨#[105]⟩, .string ⟨#[107]⟩, .string ⟨#[108]⟩, .string ⟨#[109]⟩, .string ⟨#[110]⟩, .string ⟨#[111]⟩, .string ⟨#[114]⟩, .string ⟨#[115]⟩, .string ⟨#[116]⟩, .string ⟨#[119]⟩, .string ⟨#[121]⟩, .string ⟨#[100]⟩, .string ⟨#[103]⟩, .string ⟨#[99]⟩, .string ⟨#[115, 104]⟩, .string ⟨#[115, 116]⟩, .string ⟨#[99, 104]⟩, .string ⟨#[97, 101]⟩, .string ⟨#[107, 105]⟩, .string ⟨#[102, 111, 114]⟩, .string ⟨#[116, 111, 110]⟩]
theorem row26 (w : World) : TextRow (w.alloc (.cells lit26 9)) w.heap.size 26 3 := by
  refine ⟨by simp, fun j hj => ?_⟩
  rw [World.cell?_alloc_at _ _ _ _ rfl]
  have h : ∀ j, j < 26 → ∃ x : ByteArray, x.size ≤ 3 ∧ lit26[j]? = some (.string x) := by
    intro j hj
    have h : j = 0 ∨ j = 1 ∨ j = 2 ∨ j = 3 ∨ j = 4 ∨ j = 5 ∨ j = 6 ∨ j = 7 ∨ j = 8 ∨ j = 9 ∨ j = 10 ∨ j = 11 ∨ j = 12 ∨ j = 13 ∨ j = 14 ∨ j = 15 ∨ j = 16 ∨ j = 17 ∨ j = 18 ∨ j = 19 ∨ j = 20 ∨ j = 21 ∨ j = 22 ∨ j = 23 ∨ j = 24 ∨ j = 25 := by omega
    rcases h with rfl | rfl | rfl | rfl | rfl | rfl | rfl | rfl | rfl | rfl | rfl | rfl | rfl | rfl | rfl | rfl | rfl | rfl | rfl | rfl | rfl | rfl | rfl | rfl | rfl | rfl
    all_goals exact ⟨_, by decide, rfl⟩
  exact h j hj
theorem TextRow.grow {w w' : World} {P n m : Nat} {row : Option Nat} (h : TextRow w P n m) (hg : w.grownBy w' row) (hne : row ≠ some P) : TextRow w' P n m :=
  ⟨Nat.lt_of_lt_of_le h.1 hg.size, fun j hj => by
    obtain ⟨x, hx, hc⟩ := h.2 j hj
    exact ⟨x, hx, hg.cell hc (fun e => hne e.symm)⟩⟩

/-- append at a step of a region that draws, nothing asked of the number. -/
theorem step_append_own {P : Program} {w : World} {ops : Array Oper} {o : Oper} {a : Act} {K : Act → World → Prop} {Q : Exit → Act → World → Prop} {E : Prop} (hgd : o.guard = none) (s x : Operand) (t : TypeId)
    (ho : o.op = .call { callee := .builtin .append, args := #[s, x], argTypes := #[t, t] })
    (base : Nat) (e : TypeId) (i : TypeInfo) (z : Value) (size bytes : Nat) (ht : P.underlying t = some (.slice e)) (hi : P.info? e = some i) (hz : i.zero = some z)
    (hsize : i.size = size) (hby : i.bytes = bytes) (hzs : z.cells.size = size) (hsz : 0 < size)
    (v : Value) (n : Nat) (xs : List Value) (hs : a.eval s = v) (hown : w.ownsRow base e size v n xs)
    (ad : Addr) (m c : Nat) (news : List Value) (hx : a.eval x = .slice (some ad) m c) (hl : news.length = m * size) (hnews : ∀ j u, news[j]? = some u → w.cell? (ad.add j) = some u) (h1 : ∀ u ∈ news, u.oneCell' = true)
    (h63 : n + m ≤ maxLen) (hbytes : (n + m) * bytes ≤ 140737488355328) (hbase : base ≤ w.heap.size)
    (h : ∀ v' w', w'.ownsRow base e size v' (n + m) (xs ++ news) → w.grownBy w' v.ownBlock → (v' = .slice none 0 0 ↔ v = .slice none 0 0 ∧ m = 0) → K (a.put o.dst v') w') :
    if Region.wanted o (yielded ops a.tmps) = true then Oper.wp P o a w K Q else E := by
  have hw : Region.wanted o (yielded ops a.tmps) = true := by simp [Region.wanted, hgd]
  rw [if_pos hw]
  exact wp_append_own w s x t ho base e i z size bytes ht hi hz hsize hby hzs hsz v n xs hs hown ad m c news hx hl hnews h1 h63 hbytes hbase h

set_option maxHeartbeats 2000000 in
set_option maxRecDepth 100000 in
theorem cAlGood (B len : Nat) (w : World) (hlen : len ≤ 1048576) (h : Src w B len) :
    Calls Try.prog 53 #[.pointer (some ⟨B, 0, none⟩)] w (GoodPost w B len) := by
  obtain ⟨i0, hi0, hz0, hz1, hz2⟩ := info_parts info_str
  have hBl := h.lt
  have HR := Lib.hid (row26 (w.alloc (.cells #[] 9)))
  have HS := Lib.hid ((h.alloc (.cells #[] 9)).alloc (.cells lit26 9))
  have HO := Lib.hid (World.ownsRow.alloc (World.ownsRow_lit (e := 9) (base := w.heap.size) (size := 1) w #[] 0 (Nat.le_refl _) (by decide) rfl) (.cells lit26 9))
  have HG := Lib.hid ((World.grownBy_alloc w (.cells #[] 9) (some B)).trans (World.grownBy_alloc (w.alloc (.cells #[] 9)) (.cells lit26 9) (some B)))
  rw [show lit26 = #[.string ⟨#[97]⟩, .string ⟨#[98]⟩, .string ⟨#[101]⟩, .string ⟨#[102]⟩, .string ⟨#[104]⟩, .string ⟨#[105]⟩, .string ⟨#[107]⟩, .string ⟨#[108]⟩, .string ⟨#[109]⟩, .string ⟨#[110]⟩, .string ⟨#[111]⟩, .string ⟨#[114]⟩, .string ⟨#[115]⟩, .string ⟨#[116]⟩, .string ⟨#[119]⟩, .string ⟨#[121]⟩, .string ⟨#[100]⟩, .string ⟨#[103]⟩, .string ⟨#[99]⟩, .string ⟨#[115, 104]⟩, .string ⟨#[115, 116]⟩, .string ⟨#[99, 104]⟩, .string ⟨#[97, 101]⟩, .string ⟨#[107, 105]⟩, .string ⟨#[102, 111, 114]⟩, .string ⟨#[116, 111, 110]⟩] from rfl] at HR HS HO HG
  clear h
  obtain ⟨P, hP⟩ : ∃ P, P = w.heap.size + 1 := ⟨_, rfl⟩
  have HP := Lib.hid hP
  have hPw : w.heap.size < P := by omega
  rw [World.size_alloc, ← hP] at HR
  clear hP
  go_enter Try.func53, Try.ntmps53
  go_wp2_with fail
  rw [← HP.out]
  go_loopw [3, 5] (fun o i wr => ∃ (k m : Nat) (v : Value) (xs : List ByteArray), k ≤ 26 ∧ m ≤ k ∧ i = .int .i64 k ∧ v = o ∧ Hid (TRow wr w.heap.size 64 m v xs) ∧ Hid (v.ownBlock ≠ some P) ∧ Hid (TextRow wr P 26 3) ∧ Hid (Src wr B len) ∧ Hid (w.grownBy wr (some B))) (fun _ i _ => 26 - (intOf i).toNat)
  case atStart => exact ⟨0, 0, _, [], Nat.zero_le _, Nat.zero_le _, rfl, rfl, Lib.hid ⟨HO.out, by simp⟩, Lib.hid (by simp [Value.ownBlock]; omega), HR, HS, HG⟩
  case round =>
    clear HO HR HS HG
    obtain ⟨k, m, v, xs, hk, hmk, rfl, rfl, HO, HNE, HR, HS, HG⟩ := hrel
    have hsz := HG.out.size
    have hBP : P ≠ B := by omega
    by_cases hlt : k < 26
    · have C1 := Lib.hid (cNext B len 8 wr hlen (by omega) (by omega) HS.out)
      obtain ⟨y, hy, hcy⟩ := HR.out.2 k hlt
      go_wp2_with fail
      refine C1.out.mono ?_
      rintro e w4 ⟨r, hr0, hr1, rfl, hS4, g4⟩
      have HO4 := Lib.hid (HO.out.kept g4 hBl)
      have HR4 := Lib.hid (HR.out.kept g4 hBP)
      have HG4 := Lib.hid (HG.out.trans g4)
      have hcy4 : w4.cell? ⟨P, k, none⟩ = some (.string y) := g4.cell hcy (by simp; exact hBP)
      have HS4 := Lib.hid hS4
      clear hS4 g4 hr1 C1 hcy HO HR HS HG
      have hsz4 := HG4.out.size
      by_cases h0 : 0 < r
      · have z1 : decide ((0 : Int) < r) = true := decide_eq_true h0
        go_wp2_with (at_builtin; refine wpList_append_lies _ rfl _ _ 30 rfl w.heap.size 9 i0 _ 1 16 Try.underlying30 hi0 hz0 hz1 hz2 rfl (by decide) _ _ _ rfl (HO4.out.1.alloc _) ⟨w4.heap.size, 0, none⟩ 1 1 [.string y] rfl rfl ?c1 ?c2 (by decide) ?c3 ?c4 ?c5 _ rfl ?_)
        case c1 => exact one_cell' _ _ _ (new_one _ _ _)
        case c2 => intro u hu; simp at hu; subst hu; rfl
        case c3 => unfold maxLen; omega
        case c4 => omega
        case c5 => simp; omega
        intro g7 cap7 w7 hown7 hgrow7 hat7 hlt7
        have hrow : ∀ x, v.ownBlock = some x → w.heap.size ≤ x := fun x hx => (HO4.out.1.lt x hx).1
        have gA := World.grownBy_alloc w4 (.cells #[.string y] 9) v.ownBlock
        have HO7 := Lib.hid (TRow.snoc hown7 HO4.out.2 (by omega))
        have HS7 := Lib.hid (Src.grow (HS4.out.grow gA (fun x hx => by have := hrow x hx; omega)) hgrow7 (fun x hx => by have := hrow x hx; omega))
        have HG7 := Lib.hid (grown_new (grown_new HG4.out gA hrow) hgrow7 hrow)
        have HR7 : Hid (TextRow w7 P 26 3) := Lib.hid (by
          refine (HR4.out.grow gA (fun e => ?_)).grow hgrow7 (fun e => ?_)
          all_goals exact HNE.out e)
        have HNE7 : Hid ((Value.slice (some ⟨g7, 0, none⟩) (m + 1) cap7).ownBlock ≠ some P) := Lib.hid (by
          intro e
          have e' : g7 = P := by simpa [Value.ownBlock] using e
          rcases hat7 with h | h
          · exact HNE.out (by rw [h, e'])
          · have := HR4.out.1; omega)
        clear hown7 hgrow7 gA hrow hat7
        go_wp2_with fail
        go_roundw
        case rel => exact ⟨k + 1, m + 1, _, xs ++ [y], by omega, by omega, by go_num, rfl, HO7, HNE7, HR7, HS7, HG7⟩
        case measure => simp [intOf]; omega
      · have z1 : decide ((0 : Int) < r) = false := decide_eq_false h0
        go_wp2_with fail
        go_roundw
        case rel => exact ⟨k + 1, m, v, xs, by omega, by omega, by go_num, rfl, HO4, HNE, HR4, HS4, HG4⟩
        case measure => simp [intOf]; omega
    · obtain ⟨A1, c1, hv1⟩ := HO.out.form
      by_cases hm0 : m = 0
      · subst hm0
        subst hv1
        have HS5 := Lib.hid (HS.out.alloc (.cells #[.string ⟨#[97]⟩] 9))
        have HG5 := Lib.hid (grown_new (row := none) HG.out (World.grownBy_alloc wr (.cells #[.string ⟨#[97]⟩] 9) none) (fun x hx => by cases hx))
        have HO5 := Lib.hid (World.ownsRow_lit (e := 9) (base := w.heap.size) (size := 1) wr #[.string ⟨#[97]⟩] 1 hsz (by decide) rfl)
        go_wp2_with fail
        go_ret
        exact ⟨_, 1, [⟨#[97]⟩], by omega, by omega, rfl, ⟨HO5.out, by intro x hx; simp at hx; subst hx; decide⟩, HS5.out, HG5.out⟩
      · obtain ⟨g, c, hv2, hgl, hgs⟩ := World.ownsRow.form HO.out.1 (by omega)
        have z1 : ((m : Int) == 0) = false := by rw [beq_eq_false_iff_ne]; omega
        have C1 := Lib.hid (cNext B len m wr hlen (by omega) (by omega) HS.out)
        subst hv2
        clear hv1
        go_wp2_with fail
        refine C1.out.mono ?_
        rintro e w4 ⟨r, hr0, hr1, rfl, hS4, g4⟩
        obtain ⟨q, rfl⟩ : ∃ q : Nat, r = q := ⟨r.toNat, by omega⟩
        have hq : q < m := by omega
        have HO4 := Lib.hid (HO.out.kept g4 hBl)
        have HG4 := Lib.hid (HG.out.trans g4)
        have HS4 := Lib.hid hS4
        clear hS4 g4 hr1 C1 HO HR HS HG HNE
        have hsz4 := HG4.out.size
        have hmc : m ≤ c := by
          rcases HO4.out.1.2 with ⟨h, _⟩ | ⟨g', c', cur, h, _, _, hle, _⟩
          · cases h
          · cases h; exact hle
        have e1 : (0 : Int) ≤ (q : Int) := Int.natCast_nonneg _
        have e2 : (q : Int) ≤ (m : Int) := by omega
        have e3 : (q : Int) ≤ (c : Int) := by omega
        have e4 : ¬ c = q := by omega
        have e5 : q ≤ m := by omega
        have e6 : q ≤ c := by omega
        have hml : m = xs.length := HO4.out.len
        have OWN1 : ((w4.alloc (.cells #[] 9)).drew).ownsRow w.heap.size 9 1 (.slice (some ⟨w4.heap.size, 0, none⟩) 0 0) 0 (#[] : Array Value).toList := World.ownsRow_lit (e := 9) (base := w.heap.size) (size := 1) w4 #[] 0 hsz4 (by decide) rfl
        have CEL : ∀ (W : World), ((w4.alloc (.cells #[] 9)).drew).grownBy W (Value.slice (some ⟨w4.heap.size, 0, none⟩) 0 0).ownBlock → ∀ j u, (strV xs)[j]? = some u → W.cell? ⟨g, j, none⟩ = some u := fun W hW j u hu => by
          have hj := (List.getElem?_eq_some_iff.1 hu).1
          rw [strV_len] at hj
          have h1 := (HO4.out.1.cellAt j (by omega)).trans hu
          have hgl : g < w4.heap.size := World.block_lt_of_cell? w4 _ h1
          have h2 : ((w4.alloc (.cells #[] 9)).drew).cell? ⟨g, j, none⟩ = some u := (World.cell?_alloc_lt w4 (.cells #[] 9) ⟨g, j, none⟩ hgl).trans h1
          exact hW.cell h2 (by simp [Value.ownBlock]; omega)
        have NEWS1 : ∀ j u, ((strV xs).drop q)[j]? = some u → ((w4.alloc (.cells #[] 9)).drew).cell? ((⟨g, q, none⟩ : Addr).add j) = some u := fun j u hu => by
          rw [add_plain', ]
          exact CEL _ (World.grownBy.refl _ _) (q + j) u (by rw [List.getElem?_drop] at hu; exact hu)
        have NEWS2 : ∀ (W : World), ((w4.alloc (.cells #[] 9)).drew).grownBy W (Value.slice (some ⟨w4.heap.size, 0, none⟩) 0 0).ownBlock → ∀ j u, ((strV xs).take q)[j]? = some u → W.cell? ((⟨g, 0, none⟩ : Addr).add j) = some u := fun W hW j u hu => by
          rw [add_plain', Nat.zero_add]
          exact CEL W hW j u (by rw [List.getElem?_take] at hu; split at hu; exact hu; cases hu)
        have ONE : ∀ u ∈ strV xs, u.oneCell' = true := fun u hu => by unfold strV at hu; rw [List.mem_map] at hu; obtain ⟨x, _, rfl⟩ := hu; rfl
        have ONE1 : ∀ u ∈ (strV xs).drop q, u.oneCell' = true := fun u hu => ONE u (List.mem_of_mem_drop hu)
        have ONE2 : ∀ u ∈ (strV xs).take q, u.oneCell' = true := fun u hu => ONE u (List.mem_of_mem_take hu)
        have LEN1 : ((strV xs).drop q).length = (m - q) * 1 := by rw [List.length_drop, strV_len]; omega
        have LEN2 : ((strV xs).take q).length = q * 1 := by rw [List.length_take, strV_len]; omega
        have n1 : 0 + (m - q) ≤ maxLen := by unfold maxLen; omega
        have n2 : (0 + (m - q)) * 16 ≤ 140737488355328 := by omega
        have n3 : 0 + (m - q) + q ≤ maxLen := by unfold maxLen; omega
        have n4 : (0 + (m - q) + q) * 16 ≤ 140737488355328 := by omega
        have b1 : w.heap.size ≤ ((w4.alloc (.cells #[] 9)).drew).heap.size := by simp; omega
        have HOWN1 := Lib.hid OWN1
        have HN1 := Lib.hid NEWS1
        have HN2 := Lib.hid NEWS2
        have HO1 := Lib.hid ONE1
        have HO2 := Lib.hid ONE2
        have HL1 := Lib.hid LEN1
        have HL2 := Lib.hid LEN2
        have HML := Lib.hid hml
        have H1 := Lib.hid n1
        have H2 := Lib.hid n2
        have H3 := Lib.hid n3
        have H4 := Lib.hid n4
        have HB1 := Lib.hid b1
        clear OWN1 CEL NEWS1 NEWS2 ONE ONE1 ONE2 LEN1 LEN2 hml n1 n2 n3 n4 b1
        go_wp2_with fail
        go_region_law (first
          | (refine step_append_own rfl (.tmp 33) (.tmp 36) 30 rfl w.heap.size 9 i0 _ 1 16 Try.underlying30 hi0 hz0 hz1 hz2 rfl (by decide) _ 0 _ rfl HOWN1.out ⟨g, q, none⟩ (m - q) (c - q) _ rfl HL1.out HN1.out HO1.out H1.out H2.out HB1.out ?_; intro v5 w5 hown5 hgrow5 hnil5)
          | (refine step_append_own rfl (.tmp 37) (.tmp 40) 30 rfl w.heap.size 9 i0 _ 1 16 Try.underlying30 hi0 hz0 hz1 hz2 rfl (by decide) _ _ _ rfl hown5 ⟨g, 0, none⟩ q c _ rfl HL2.out (HN2.out w5 hgrow5) HO2.out H3.out H4.out (Nat.le_trans HB1.out hgrow5.size) ?_; intro v6 w6 hown6 hgrow6 hnil6))
        have gA : w4.grownBy ((w4.alloc (.cells #[] 9)).drew) none := grown_drw (World.grownBy_alloc w4 (.cells #[] 9) none)
        have r5 : ∀ x, (Value.slice (some ⟨w4.heap.size, 0, none⟩) 0 0).ownBlock = some x → w.heap.size ≤ x := fun x hx => (HOWN1.out.lt x hx).1
        have r6 : ∀ x, Value.ownBlock _ = some x → w.heap.size ≤ x := fun x hx => (hown5.lt x hx).1
        have HS6 := Lib.hid (((HS4.out.grow gA (fun x hx => by cases hx)).grow hgrow5 (fun x hx => by have := r5 x hx; omega)).grow hgrow6 (fun x hx => by have := r6 x hx; omega))
        have HG6 := Lib.hid (grown_new (grown_new (grown_new HG4.out gA (fun x hx => by cases hx)) hgrow5 r5) hgrow6 r6)
        have HO6 := Lib.hid hown6
        clear gA r5 r6 hgrow5 hgrow6 hnil5 hnil6 hown6 hown5
        go_wp2_with fail
        go_ret
        refine ⟨_, m, xs.drop q ++ xs.take q, by omega, by omega, rfl, ⟨?_, fun x hx => ?_⟩, HS6.out, HG6.out⟩
        · have h := HO6.out
          rw [show 0 + (m - q) + q = m by omega] at h
          rw [show strV (xs.drop q ++ xs.take q) = (#[] : Array Value).toList ++ (strV xs).drop q ++ (strV xs).take q from by simp [strV, List.map_drop, List.map_take]]
          exact h
        · rcases List.mem_append.1 hx with hx | hx
          · exact HO4.out.2 x (List.mem_of_mem_drop hx)
          · exact HO4.out.2 x (List.mem_of_mem_take hx)
end Go.Proofs.Ytdbbolnmcbhflaa
