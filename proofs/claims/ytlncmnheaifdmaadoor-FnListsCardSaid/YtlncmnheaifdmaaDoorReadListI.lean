/-
  The contract of impl.ReadList.
-/
import Derived.Test.YtlncmnheaifdmaaDoorReadListPlain
import Derived.Test.YtlncmnheaifdmaaDoorReadSpanS
import Derived.Test.YtlncmnheaifdmaaDoorIntRow
import Derived.Test.YtlncmnheaifdmaaDoorShelf
namespace Go.Proofs.YtlncmnheaifdmaaDoor
set_option linter.unusedVariables false
open Go.RowKit

def dash : ByteArray := ⟨#[45]⟩
/-- What reading s as a list gives: the list xs and the code c. -/
def RL (s : ByteArray) (xs : List Int) (c : Int) : Prop :=
  (s = dash ∧ xs = [] ∧ c = 0) ∨ (s ≠ dash ∧ 0 < xs.length ∧ xs.length ≤ 60 ∧ okAll xs = true ∧ s = comB (nums xs) ∧ c = 0) ∨
  (s ≠ dash ∧ (∀ ys, 0 < ys.length → ys.length ≤ 60 → okAll ys = true → s ≠ comB (nums ys)) ∧ xs = [] ∧ c = 6)
theorem RL.have_ (s : ByteArray) : ∃ xs c, RL s xs c := by
  by_cases h : s = dash
  · exact ⟨[], 0, .inl ⟨h, rfl, rfl⟩⟩
  · by_cases h2 : ∃ ys : List Int, 0 < ys.length ∧ ys.length ≤ 60 ∧ okAll ys = true ∧ s = comB (nums ys)
    · obtain ⟨ys, h3, h4, h5, h6⟩ := h2
      exact ⟨ys, 0, .inr (.inl ⟨h, h3, h4, h5, h6, rfl⟩)⟩
    · exact ⟨[], 6, .inr (.inr ⟨h, fun ys a b c d => h2 ⟨ys, a, b, c, d⟩, rfl, rfl⟩)⟩
theorem RL.len {s : ByteArray} {xs : List Int} {c : Int} (h : RL s xs c) : xs.length ≤ 60 := by
  rcases h with ⟨_, rfl, _⟩ | ⟨_, _, h, _⟩ | ⟨_, _, rfl, _⟩
  · exact Nat.zero_le _
  · exact h
  · exact Nat.zero_le _
def RLPost (xs : List Int) (c : Int) (w : World) (e : Ending) (w' : World) : Prop :=
  ∃ A cap, e = .returned (.tuple #[.slice A xs.length cap, .int .i64 c]) ∧ w'.ownsRow w.heap.size 2 1 (.slice A xs.length cap) xs.length (intV xs) ∧ Below w.heap.size w w'
theorem RLPost.nul {c : Int} {w w' : World} (hb : Below w.heap.size w w') : RLPost [] c w (.returned (.tuple #[.slice none 0 0, .int .i64 c])) w' :=
  ⟨none, 0, rfl, World.ownsRow_nil _ _ _ _, hb⟩
def zeroI (vs : List Int) (n : Nat) : List Value := intV vs ++ List.replicate (n - vs.length) (.int .i64 0)
theorem zeroI_nil (n : Nat) : (madeCells #[Value.int .i64 0] n).toList = zeroI [] n := by
  apply List.ext_getElem?
  intro j
  by_cases h : j < n
  · simp [madeCells, zeroI, intV, h, Nat.mod_one]
  · rw [List.getElem?_eq_none (by simp [madeCells]; omega), List.getElem?_eq_none (by simp [zeroI, intV]; omega)]
theorem zeroI_step (vs : List Int) (n : Nat) (v : Int) (h : vs.length < n) : (zeroI vs n).set vs.length (.int .i64 v) = zeroI (vs ++ [v]) n := by
  unfold zeroI
  obtain ⟨d, hd⟩ : ∃ d, n - vs.length = d + 1 := ⟨n - vs.length - 1, by omega⟩
  have e : n - (vs ++ [v]).length = d := by rw [List.length_append, List.length_singleton]; omega
  rw [hd, e, List.set_append_right _ _ (by rw [intV_len]; exact Nat.le_refl _), intV_len, Nat.sub_self, List.replicate_succ, List.set_cons_zero, ← intV_snoc, List.append_assoc]
  rfl
theorem zeroI_all (vs : List Int) (n : Nat) (h : n = vs.length) : zeroI vs n = intV vs := by unfold zeroI; rw [h, Nat.sub_self]; simp
theorem readAll_nums {Q : List ByteArray} {vs : List Int} (h : Q.map rN = vs.map some) : Q = nums vs := by
  apply List.ext_getElem?
  intro i
  have h1 := congrArg (fun l => l[i]?) h
  simp only [List.getElem?_map] at h1
  unfold nums
  rw [List.getElem?_map]
  cases hq : Q[i]? with
  | none => rw [hq] at h1; cases hv : vs[i]? with
    | none => rfl
    | some v => rw [hv] at h1; simp at h1
  | some q =>
    rw [hq] at h1
    cases hv : vs[i]? with
    | none => rw [hv] at h1; simp at h1
    | some v =>
      rw [hv] at h1
      have h2 : rN q = some v := by simpa using h1
      rw [← (rN_some h2).1]; rfl
theorem read_nums {xs : List Int} (h : okAll xs = true) : (nums xs).map rN = xs.map some := by
  unfold nums
  rw [List.map_map]
  apply List.map_congr_left
  intro v hv
  have hb := okAll_mem xs h v hv
  exact rN_of v (by omega) (by omega)
theorem somes_inj {a b : List Int} (h : a.map some = b.map some) : a = b := by
  apply List.ext_getElem?
  intro i
  have h1 := congrArg (fun l => l[i]?) h
  simp only [List.getElem?_map] at h1
  cases ha : a[i]? <;> cases hb : b[i]? <;> rw [ha, hb] at h1 <;> simp_all
/-- Where s is a list's text, what SplitN gives are its numbers' texts. -/
theorem cut61_nums {s : ByteArray} {xs : List Int} (hp : 0 < xs.length) (hl : xs.length ≤ 60) (hs : s = comB (nums xs)) : cut61 s = nums xs := by
  have h1 : piecesB 44 s = nums xs := by rw [hs]; exact pieces_nums xs hp
  have h2 : (nums xs).length = xs.length := by simp [nums]
  rw [(cut61_facts s).2.2.2 (by rw [h1, h2]; omega), h1]
theorem map_take_step {Q : List ByteArray} {vs : List Int} {k : Nat} {x : ByteArray} {v : Int} (h : (Q.take k).map rN = vs.map some) (hx : Q[k]? = some x) (hv : rN x = some v) : (Q.take (k + 1)).map rN = (vs ++ [v]).map some := by
  have hl := (List.getElem?_eq_some_iff.1 hx).1
  have he : Q[k] = x := (List.getElem?_eq_some_iff.1 hx).2
  rw [List.take_succ_eq_append_getElem hl, he, List.map_append, List.map_append, h]
  simp [hv]

set_option maxHeartbeats 2000000 in
set_option maxRecDepth 100000 in
theorem cRL_impl (s : ByteArray) (xs : List Int) (c : Int) (w : World) (hs : s.size ≤ 1073741824) (hl : Laid w) (hsh : w.ShapedOpen Tryd.prog) (hcase : RL s xs c) :
    Calls Tryd.prog 29 #[.string s] w (RLPost xs c w) := by
  obtain ⟨i0, hi0, hz0, hz1, hz2⟩ := info_parts info_i64
  by_cases hd : s = dash
  · obtain ⟨rfl, rfl⟩ : xs = [] ∧ c = 0 := by
      rcases hcase with ⟨_, h1, h2⟩ | ⟨h, _⟩ | ⟨h, _⟩
      · exact ⟨h1, h2⟩
      · exact absurd hd h
      · exact absurd hd h
    subst hd
    unfold dash
    clear hcase hl hsh hs
    go_enter Tryd.func29, Tryd.ntmps29
    go_wp2_with fail
    go_ret2
    exact RLPost.nul (Below.refl _ _)
  have hz : (s.toList == (⟨#[45]⟩ : ByteArray).toList) = false := toList_ne hd
  have hz' : (s.toList == [45]) = false := by
    have e : (⟨#[45]⟩ : ByteArray).toList = [45] := by rw [ByteArray.toList_eq]
    rw [← e]; exact hz
  obtain ⟨hq0, hq1, hq2, _⟩ := cut61_facts s
  have hc := Tryd.strings_SplitN_shaped s (sepB 44) 61 w hsh (by omega) (by decide) (by decide) (by decide)
  have hsz : ∀ x ∈ cut61 s, x.size ≤ 1073741824 := fun x hx => Nat.le_trans (piece_sz 44 _ s x hx) hs
  have halt : ∀ (P : Prop), (0 < xs.length → xs.length ≤ 60 → okAll xs = true → cut61 s = nums xs → P) → ((∀ ys, 0 < ys.length → ys.length ≤ 60 → okAll ys = true → s ≠ comB (nums ys)) → xs = [] → c = 6 → P) → P := by
    intro P h1 h2
    rcases hcase with ⟨h, _⟩ | ⟨_, a, b, d, e, _⟩ | ⟨_, a, b, d⟩
    · exact absurd h hd
    · exact h1 a b d (cut61_nums a b e)
    · exact h2 a b d
  have hc0 : 0 < xs.length → c = 0 := fun hp => by
    rcases hcase with ⟨h, _⟩ | ⟨_, _, _, _, _, h⟩ | ⟨_, _, h, _⟩
    · exact absurd h hd
    · exact h
    · rw [h] at hp; simp at hp
  have hjoin : (cut61 s).length ≤ 60 → s = comB (cut61 s) := fun h => by rw [hq2 h]; exact (join_pieces s.size s (Nat.le_refl _)).symm
  change Calls _ _ _ _ (fun e w' => e = .returned (.slice _ (cut61 s).length _) ∧ w' = w.alloc (.cells (Lib.cellsOf (cut61 s) _) _)) at hc
  generalize hQ : cut61 s = Q at *
  generalize min 61 (s.size + 1) = N at *
  obtain ⟨n, hn⟩ : ∃ n, n = Q.length := ⟨_, rfl⟩
  rw [← hn] at hq0 hq1 hc hjoin
  have HN := Lib.hid hn
  have HC := Lib.hid hc
  have HS := Lib.hid hsz
  have HA := Lib.hid halt
  have HJ := Lib.hid hjoin
  have HL := Lib.hid hl
  have H0 := Lib.hid hc0
  have hcell : ∀ W : World, Below w.heap.size w W → True := fun _ _ => trivial
  clear hn hc hsz halt hjoin hcase hsh hq2 hl hc0 hcell
  go_enter Tryd.func29, Tryd.ntmps29
  go_wp2_with fail
  refine (show Calls Tryd.prog 54 #[.string s, .string (sepB 44), .int .i64 61] _ _ from HC.out).mono ?_
  rintro e w1 ⟨rfl, hw1⟩
  have hb1 : Below w.heap.size w w1 := by rw [hw1]; exact (Below.refl _ _).alloc (Nat.le_refl _) _
  have hl1 : w.heap.size < w1.heap.size := by rw [hw1]; simp
  have HK : Hid (∀ (j : Nat) x, Q[j]? = some x → w1.cell? ⟨w.heap.size, j, none⟩ = some (.string x)) := Lib.hid (fun j x hx => by
    rw [hw1, World.cell?_alloc_at _ _ _ _ rfl]
    unfold Lib.cellsOf
    have hj := (List.getElem?_eq_some_iff.1 hx).1
    rw [List.getElem?_toArray, List.getElem?_append_left (by simpa using hj)]
    simp [hx])
  clear hw1
  go_wp2_with (at_make; refine wpList_make_full _ rfl _ _ 37 rfl w1.heap.size 2 i0 _ 1 Tryd.underlying37 hi0 hz0 hz1 _ _ _ _ n rfl rfl (by simp) (by simp) ?b2 ?b3 (Nat.le_refl _) ?_)
  case b2 => rw [hz2]; omega
  case b3 => unfold maxLen; omega
  intro w2 hown2 hgrow2
  rw [zeroI_nil] at hown2
  have hb2 : Below w1.heap.size w1 w2 := (Below.refl _ _).grown hgrow2 (Nat.le_refl _) (fun k h => by cases h)
  clear hgrow2
  go_wp2_with fail
  go_loopw [19] (fun i wr => ∃ (k : Nat) (vs : List Int), k ≤ n ∧ i = .int .i64 k ∧ Hid (k = vs.length) ∧ Hid ((Q.take k).map rN = vs.map some) ∧ Hid (wr.ownsRow w1.heap.size 2 1 (.slice (some ⟨w1.heap.size, 0, none⟩) n n) n (zeroI vs n)) ∧ Below w1.heap.size w1 wr) (fun i _ => n - (intOf i).toNat)
  case atStart => exact ⟨0, [], Nat.zero_le _, rfl, Lib.hid rfl, Lib.hid rfl, Lib.hid hown2, hb2⟩
  case round =>
    clear hown2 hb2
    obtain ⟨k, vs, hk, rfl, HKV, HM, HR, hbw⟩ := hrel
    have hb3 := hb1.trans (hbw.mono hb1.size)
    by_cases hlt : k < n
    · obtain ⟨x, hx⟩ : ∃ x, Q[k]? = some x := ⟨Q[k]'(by have := HN.out; omega), List.getElem?_eq_getElem _⟩
      have hcx : wr.cell? ⟨w.heap.size, k, none⟩ = some (.string x) := (hbw.cell (p := ⟨w.heap.size, k, none⟩) hl1).trans (HK.out k x hx)
      have CR := Lib.hid (cRead x wr (HS.out x (List.mem_of_getElem? hx)) (HL.out.below hb3))
      cases hr : rN x with
      | none =>
        obtain ⟨rfl, rfl⟩ : xs = [] ∧ c = 6 := HA.out _ (fun _ _ hok hq => by
          exfalso
          have h1 := congrArg (fun l => l[k]?) (read_nums hok)
          rw [← hq] at h1
          simp only [List.getElem?_map] at h1
          rw [hx] at h1
          simp only [Option.map_some, hr] at h1
          cases hv : xs[k]? <;> rw [hv] at h1 <;> simp at h1) (fun _ a b => ⟨a, b⟩)
        rw [rV_none hr] at CR
        clear hx hr
        go_wp2_with fail
        refine CR.out.mono ?_
        rintro e w4 ⟨rfl, g4⟩
        go_wp2_with fail
        go_ret2
        exact RLPost.nul (hb3.trans (g4.mono hb3.size))
      | some v =>
        have HT := Lib.hid (map_take_step HM.out hx hr)
        rw [rV_some hr] at CR
        clear hx hr
        go_wp2_with fail
        refine CR.out.mono ?_
        rintro e w4 ⟨rfl, g4⟩
        have hrow := HR.out.kept (bgr g4 none) (row := none) (by simp [Value.ownBlock])
        obtain ⟨v4, c4⟩ : ∃ u, w4.cell? ⟨w1.heap.size, k, none⟩ = some u := by
          have h1 := hrow.1
          exact ⟨_, (hrow.cellAt k (by omega)).trans (List.getElem?_eq_getElem (by omega))⟩
        have f4 := hrow.frozenAt k
        have hst := (hrow.stored k (.int .i64 v)).1
        have hzs := zeroI_step vs n v (by have := HKV.out; omega)
        rw [← HKV.out] at hzs
        rw [hzs] at hst
        have hbw4 : Below w1.heap.size w1 (w4.setCell ⟨w1.heap.size, k, none⟩ (.int .i64 v)) := (hbw.trans (g4.mono hbw.size)).setCell (Nat.le_refl _) _
        have HST := Lib.hid hst
        clear hrow hst hzs
        go_wp2_with fail
        go_roundw
        case rel => exact ⟨k + 1, vs ++ [v], by omega, by go_num, Lib.hid (by rw [List.length_append, List.length_singleton, HKV.out]), HT, HST, hbw4⟩
        case measure => simp [intOf]; omega
    · obtain rfl : k = n := by omega
      have hmm := HM.out
      rw [List.take_of_length_le (by have := HN.out; omega)] at hmm
      have hqn := readAll_nums hmm
      have hrow := HR.out
      rw [zeroI_all vs k HKV.out] at hrow
      have hrc : ∀ (j : Nat) x, vs[j]? = some x → wr.cell? ⟨w1.heap.size, 0 + j, none⟩ = some (.int .i64 x) := fun j x hx => by
        have hj := (List.getElem?_eq_some_iff.1 hx).1
        rw [Nat.zero_add]
        have := HKV.out
        exact (hrow.cellAt j (by omega)).trans (intV_at _ _ _ hx)
      have CA := Lib.hid (cAreValues w1.heap.size 0 k k vs wr HKV.out (by omega) hrc)
      by_cases h60 : 60 < k
      · obtain ⟨rfl, rfl⟩ : xs = [] ∧ c = 6 := HA.out _ (fun _ hle _ hq => by
          exfalso
          have h1 := HN.out
          rw [hq] at h1
          simp [nums] at h1
          omega) (fun _ a b => ⟨a, b⟩)
        have z1 : decide ((60 : Int) < (k : Int)) = true := decide_eq_true (by omega)
        have z2 : decide (60 < k) = true := decide_eq_true h60
        clear hmm hqn hrow hrc
        go_wp2_with fail
        go_ret2
        exact RLPost.nul hb3
      · have z1 : decide ((60 : Int) < (k : Int)) = false := decide_eq_false (by omega)
        have z2 : decide (60 < k) = false := decide_eq_false h60
        have hj := HJ.out (by omega)
        cases hok : okAll vs
        · obtain ⟨rfl, rfl⟩ : xs = [] ∧ c = 6 := HA.out _ (fun _ _ hok2 hq => by
            exfalso
            have h1 := read_nums hok2
            rw [← hq, hmm] at h1
            rw [somes_inj h1, hok2] at hok
            cases hok) (fun _ a b => ⟨a, b⟩)
          rw [hok] at CA
          clear hmm hqn hrow hrc hok
          go_wp2_with fail
          refine CA.out.mono ?_
          rintro e w' ⟨rfl, rfl⟩
          go_wp2_with fail
          go_ret2
          exact RLPost.nul hb3
        · obtain ⟨rfl, rfl⟩ : vs = xs ∧ c = 0 := HA.out _ (fun hp _ hok2 hq => by
            have h1 := read_nums hok2
            rw [← hq, hmm] at h1
            exact ⟨somes_inj h1, H0.out hp⟩) (fun hno _ _ => by
              exfalso
              refine hno vs (by have := HKV.out; omega) (by have := HKV.out; omega) hok ?_
              rw [hj, ← hqn])
          rw [hok] at CA
          have HRW := Lib.hid (rowBase hrow hb1.size)
          clear hmm hqn hrow hrc hok hj
          go_wp2_with fail
          refine CA.out.mono ?_
          rintro e w' ⟨rfl, rfl⟩
          go_wp2_with fail
          go_ret2
          have hkv := HKV.out
          subst hkv
          exact ⟨_, _, rfl, HRW.out, hb3⟩
end Go.Proofs.YtlncmnheaifdmaaDoor
