/-
  The contract of impl.ReadList.
-/
import Derived.Test.YtdbbolnmcbhflaaDoorReadN
namespace Go.Proofs.YtdbbolnmcbhflaaDoor
set_option linter.unusedVariables false
open Go.RowKit

theorem shaped_below2 {P : Program} {w w' : World} (h : w.ShapedOpen P) (hb : Below w.heap.size w w') : w'.ShapedOpen P := h.keptBut (hb.frame (fun _ => False)) (fun _ f => f.elim)
def dash : ByteArray := ⟨#[45]⟩
/-- What reading s as a list gives: the list xs and the code c. -/
def RL (s : ByteArray) (xs : List Int) (c : Int) : Prop :=
  (s = dash ∧ xs = [] ∧ c = 0) ∨ (s ≠ dash ∧ 0 < xs.length ∧ xs.length ≤ 60 ∧ okAll xs = true ∧ s = comB (nums xs) ∧ c = 0) ∨
  (s ≠ dash ∧ (∀ ys, 0 < ys.length → ys.length ≤ 60 → okAll ys = true → s ≠ comB (nums ys)) ∧ xs = [] ∧ c = 6)
theorem RL.have_ (s : ByteArray) : ∃ xs c, RL s xs c := by
  by_cases h : s = dash
  · exact ⟨[], 0, .inl ⟨h, rfl, rfl⟩⟩
  · by_cases h2 : ∃ ys : List Int, 0 < ys.length ∧ ys.length ≤ 60 ∧ okAll ys = true ∧ s = comB (nums ys)
    · obtain ⟨ys, h3, h4, h5, h6⟩ := h2
      exact ⟨ys, 0, .inr (.inl ⟨h, h3, h4, h5, h6, rfl⟩)⟩
    · exact ⟨[], 6, .inr (.inr ⟨h, fun ys a b c d => h2 ⟨ys, a, b, c, d⟩, rfl, rfl⟩)⟩
theorem RL.len {s : ByteArray} {xs : List Int} {c : Int} (h : RL s xs c) : xs.length ≤ 60 := by
  rcases h with ⟨_, rfl, _⟩ | ⟨_, _, h, _⟩ | ⟨_, _, rfl, _⟩
  · exact Nat.zero_le _
  · exact h
  · exact Nat.zero_le _
def RLPost (xs : List Int) (c : Int) (w : World) (e : Ending) (w' : World) : Prop :=
  ∃ A cap, e = .returned (.tuple #[.slice A xs.length cap, .int .i64 c]) ∧ w'.ownsRow w.heap.size 2 1 (.slice A xs.length cap) xs.length (intV xs) ∧ Below w.heap.size w w'
theorem RLPost.nul {c : Int} {w w' : World} (hb : Below w.heap.size w w') : RLPost [] c w (.returned (.tuple #[.slice none 0 0, .int .i64 c])) w' :=
  ⟨none, 0, rfl, World.ownsRow_nil _ _ _ _, hb⟩
theorem ok_64 {xs : List Int} (h : okAll xs = true) : In64 xs := fun x hx => by have := okAll_mem xs h x hx; omega
theorem com_inj {xs ys : List Int} (h1 : In64 xs) (h2 : In64 ys) (p1 : 0 < xs.length) (p2 : 0 < ys.length) (h : comB (nums xs) = comB (nums ys)) : xs = ys := by
  have e1 := pieces_nums 44 noS_44 xs p1
  have e2 := pieces_nums 44 noS_44 ys p2
  rw [show jB 44 (nums xs) = jB 44 (nums ys) from h, e2] at e1
  have r1 := read_nums2 h1
  have r2 := read_nums2 h2
  rw [← e1, r2] at r1
  exact (somes_inj r1).symm

theorem RNPost.no {w w' : World} {e : Ending} (h : RNPost none w e w') : e = .returned (.tuple #[.slice none 0 0, .bool false]) ∧ Below w.heap.size w w' := by
  rcases h with ⟨_, h1, h2⟩ | ⟨vs, g, c, h0, _⟩
  · exact ⟨h1, h2⟩
  · cases h0
theorem RNPost.yes {vs : List Int} {w w' : World} {e : Ending} (h : RNPost (some vs) w e w') : ∃ g c, e = .returned (.tuple #[.slice (some ⟨g, 0, none⟩) vs.length c, .bool true]) ∧ w'.ownsRow w.heap.size 2 1 (.slice (some ⟨g, 0, none⟩) vs.length c) vs.length (intV vs) ∧ Below w.heap.size w w' := by
  rcases h with ⟨h0, _⟩ | ⟨us, g, c, h0, h1, h2, h3⟩
  · cases h0
  · cases h0; exact ⟨g, c, h1, h2, h3⟩
set_option maxHeartbeats 1000000 in
set_option maxRecDepth 100000 in
theorem cRL_impl (s : ByteArray) (xs : List Int) (c : Int) (w : World) (hs : s.size ≤ 1073741824) (hl : Laid w) (hsh : w.ShapedOpen Tryd.prog) (hcase : RL s xs c) :
    Calls Tryd.prog 26 #[.string s] w (RLPost xs c w) := by
  by_cases hd : s = dash
  · obtain ⟨rfl, rfl⟩ : xs = [] ∧ c = 0 := by
      rcases hcase with ⟨_, h1, h2⟩ | ⟨h, _⟩ | ⟨h, _⟩
      · exact ⟨h1, h2⟩
      · exact absurd hd h
      · exact absurd hd h
    subst hd
    unfold dash
    clear hcase hl hsh hs
    go_enter Tryd.func26, Tryd.ntmps26
    go_wp2_with fail
    go_ret2
    exact RLPost.nul (Below.refl _ _)
  have hz : (s.toList == (⟨#[45]⟩ : ByteArray).toList) = false := toList_ne hd
  have hz' : (s.toList == [45]) = false := by
    have e : (⟨#[45]⟩ : ByteArray).toList = [45] := by rw [ByteArray.toList_eq]
    rw [← e]; exact hz
  obtain ⟨o, ho⟩ := RNum.have_ 44 60 s
  have CN := Lib.hid (cReadN 44 noS_44 60 (by omega) (by omega) s o w hs hl hsh ho)
  cases o with
  | none =>
    obtain ⟨rfl, rfl⟩ : xs = [] ∧ c = 6 := by
      rcases hcase with ⟨h, _⟩ | ⟨_, a, b, d, e, _⟩ | ⟨_, _, h1, h2⟩
      · exact absurd h hd
      · exact absurd e (ho xs a b (ok_64 d))
      · exact ⟨h1, h2⟩
    have CN2 := Lib.hid (CN.out.mono fun e w' h => h.no)
    clear hcase hl hsh ho CN
    go_enter Tryd.func26, Tryd.ntmps26
    go_wp2_with fail
    refine (show Calls Tryd.prog _ #[.string s, .string (sepB 44), .int .i64 60] _ _ from CN2.out).mono ?_
    rintro e w1 ⟨rfl, hb1⟩
    go_wp2_with fail
    go_ret2
    exact RLPost.nul hb1
  | some vs =>
    obtain ⟨v1, v2, v3, v4⟩ := ho
    have CN2 := Lib.hid (CN.out.mono fun e w' h => h.yes)
    have HF : Hid (okAll vs = false → xs = [] ∧ c = 6) := Lib.hid (fun hk => by
      rcases hcase with ⟨h, _⟩ | ⟨_, a, b, d, e, _⟩ | ⟨_, _, h1, h2⟩
      · exact absurd h hd
      · have := com_inj (ok_64 d) v3 a v1 (e.symm.trans v4)
        rw [this, hk] at d; cases d
      · exact ⟨h1, h2⟩)
    have HT : Hid (okAll vs = true → xs = vs ∧ c = 0) := Lib.hid (fun hk => by
      rcases hcase with ⟨h, _⟩ | ⟨_, a, b, d, e, f⟩ | ⟨_, h0, _⟩
      · exact absurd h hd
      · exact ⟨com_inj (ok_64 d) v3 a v1 (e.symm.trans v4), f⟩
      · exact absurd v4 (h0 vs v1 v2 hk))
    obtain ⟨n, hn⟩ : ∃ n, n = vs.length := ⟨_, rfl⟩
    rw [← hn] at CN2 v2
    have HN := Lib.hid hn
    clear hcase hl hsh CN v1 v3 v4 hn
    go_enter Tryd.func26, Tryd.ntmps26
    go_wp2_with fail
    refine (show Calls Tryd.prog _ #[.string s, .string (sepB 44), .int .i64 60] _ _ from CN2.out).mono ?_
    rintro e w1 ⟨g, c1, rfl, hown, hb1⟩
    have CA := Lib.hid (cAreValues g 0 c1 n vs w1 HN.out (by omega) (fun j x hx => by
      rw [Nat.zero_add]
      exact (hown.cellAt j (by have := (List.getElem?_eq_some_iff.1 hx).1; have := HN.out; omega)).trans (intV_at _ _ _ hx)))
    cases hk : okAll vs
    · obtain ⟨rfl, rfl⟩ := HF.out hk
      rw [hk] at CA
      clear hk hown
      go_wp2_with fail
      refine CA.out.mono ?_
      rintro e w' ⟨rfl, rfl⟩
      go_wp2_with fail
      go_ret2
      exact RLPost.nul hb1
    · obtain ⟨rfl, rfl⟩ := HT.out hk
      rw [hk] at CA
      have HO := Lib.hid hown
      clear hk hown
      go_wp2_with fail
      refine CA.out.mono ?_
      rintro e w' ⟨rfl, rfl⟩
      go_wp2_with fail
      go_ret2
      have hh := HN.out
      subst hh
      exact ⟨_, _, rfl, HO.out, hb1⟩
end Go.Proofs.YtdbbolnmcbhflaaDoor
