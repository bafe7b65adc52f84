/-
  The contract of spec.l08Insert at a row of texts of one's own.
-/
import Derived.Test.YtglmibmjbignbaaGreatDoorMz24
import Derived.Test.YtglmibmjbignbaaGreatDoorMz1
namespace Go.Proofs.YtglmibmjbignbaaGreatDoor
set_option linter.unusedVariables false
open Go.RowKit

/-- append at a step of a region that draws, nothing asked of the number. -/
theorem step_append_s {P : Program} {w : World} {ops : Array Oper} {o : Oper} {a : Act} {K : Act → World → Prop} {Q : Exit → Act → World → Prop} {E : Prop} (hgd : o.guard = none) (s x : Operand) (t : TypeId)
    (ho : o.op = .call { callee := .builtin .append, args := #[s, x], argTypes := #[t, t] })
    (base : Nat) (e : TypeId) (i : TypeInfo) (z : Value) (size bytes : Nat) (ht : P.underlying t = some (.slice e)) (hi : P.info? e = some i) (hz : i.zero = some z)
    (hsize : i.size = size) (hby : i.bytes = bytes) (hzs : z.cells.size = size) (hsz : 0 < size)
    (v : Value) (n : Nat) (xs : List Value) (hs : a.eval s = v) (hown : w.ownsRow base e size v n xs)
    (ad : Addr) (m c : Nat) (news : List Value) (hx : a.eval x = .slice (some ad) m c) (hl : news.length = m * size) (hnews : ∀ j u, news[j]? = some u → w.cell? (ad.add j) = some u) (h1 : ∀ u ∈ news, u.oneCell' = true)
    (h63 : n + m ≤ maxLen) (hbytes : (n + m) * bytes ≤ 140737488355328) (hbase : base ≤ w.heap.size)
    (h : ∀ v' w', w'.ownsRow base e size v' (n + m) (xs ++ news) → w.grownBy w' v.ownBlock → (v' = .slice none 0 0 ↔ v = .slice none 0 0 ∧ m = 0) → K (a.put o.dst v') w') :
    if Region.wanted o (yielded ops a.tmps) = true then Oper.wp P o a w K Q else E := by
  have hw : Region.wanted o (yielded ops a.tmps) = true := by simp [Region.wanted, hgd]
  rw [if_pos hw]
  exact wp_append_own w s x t ho base e i z size bytes ht hi hz hsize hby hzs hsz v n xs hs hown ad m c news hx hl hnews h1 h63 hbytes hbase h
theorem strV_one (xs : List ByteArray) : ∀ u ∈ strV xs, u.oneCell' = true := fun u hu => by unfold strV at hu; rw [List.mem_map] at hu; obtain ⟨x, _, rfl⟩ := hu; rfl
theorem srow_form {w : World} {b n : Nat} {v : Value} {xs : List Value} (h : w.ownsRow b 9 1 v n xs) (hne : v ≠ .slice none 0 0) : ∃ g c, v = .slice (some ⟨g, 0, none⟩) n c ∧ n ≤ c ∧ b ≤ g ∧ g < w.heap.size := by
  rcases h.2 with ⟨rfl, h0⟩ | ⟨g, cap, cur, rfl, h1, h2, h3, _⟩
  · exact absurd rfl hne
  · exact ⟨_, _, rfl, h3, h1, (Array.getElem?_eq_some_iff.1 h2).1⟩

/-- A row of one's own at an address, with these texts. -/
def RowT (w : World) (base g n c : Nat) (xs : List ByteArray) : Prop := w.ownsRow base 9 1 (.slice (some ⟨g, 0, none⟩) n c) n (strV xs)
def InsOut (base : Nat) (xs ys : List ByteArray) (s : ByteArray) (w : World) (e : Ending) (w' : World) : Prop :=
  ∃ g n c zs, e = .returned (.slice (some ⟨g, 0, none⟩) n c) ∧ n ≤ xs.length + 1 ∧ RowT w' base g n c zs ∧ IsSetT zs (ys ++ [s]) ∧ Below w.heap.size w w'

set_option maxHeartbeats 8000000 in
set_option maxRecDepth 100000 in
theorem cIns (base g n c : Nat) (xs ys : List ByteArray) (s : ByteArray) (w : World) (hbig : n ≤ 1048576) (hbase : base ≤ w.heap.size) (h : RowT w base g n c xs) (hset : IsSetT xs ys) :
    Calls Tryz.prog 79 #[.slice (some ⟨g, 0, none⟩) n c, .string s] w (InsOut base xs ys s w) := by
  obtain ⟨i0, hi0, hz0, hz1, hz2⟩ := info_parts info_str
  have hl : xs.length = n := by have := h.1; rw [strV_len] at this; omega
  obtain ⟨hnc, hgl⟩ : n ≤ c ∧ g < w.heap.size := by
    rcases h.2 with ⟨hv, _⟩ | ⟨g', cap', cur, hv, h1, h2, h3, h4, h5, h6⟩
    · cases hv
    · cases hv; exact ⟨h3, (Array.getElem?_eq_some_iff.1 h2).1⟩
  have HL := Lib.hid hl
  have HO := Lib.hid h
  have HS := Lib.hid hset
  have HBASE := Lib.hid hbase
  have HROW : Hid (∀ (j : Nat) y, xs[j]? = some y → w.cell? ⟨g, j, none⟩ = some (.string y)) := Lib.hid (fun j y hy => (World.ownsRow.cellAt h j (by have := (List.getElem?_eq_some_iff.1 hy).1; omega)).trans (strV_at _ _ _ hy))
  have HNC := Lib.hid hnc
  clear h hset hl hbase
  go_enter Tryz.func79, Tryz.ntmps79
  go_wp2
  go_loop [5] (fun i => ∃ q : Nat, q ≤ n ∧ i = .int .i64 q ∧ Hid (∀ x ∈ xs.take q, ltT x s)) (fun i => n - (intOf i).toNat)
  case atStart => exact ⟨0, Nat.zero_le _, rfl, Lib.hid (by simp)⟩
  case round =>
    obtain ⟨q, hq, rfl, HA⟩ := hrel
    by_cases hlt : q < n
    · obtain ⟨x, hx⟩ : ∃ x, xs[q]? = some x := ⟨xs[q]'(by have := HL.out; omega), List.getElem?_eq_getElem _⟩
      have cx := HROW.out q x hx
      have HX := Lib.hid hx
      have u1 : (0 : Int) ≤ (q : Int) := Int.natCast_nonneg _
      have u2 : (q : Int) < (n : Int) := by omega
      have d1 : decide ((q : Int) < (n : Int)) = true := decide_eq_true u2
      clear hx
      by_cases hls : ltT x s
      · have hd : Op.bytesLess x.toList s.toList = true := by rw [less_dec]; exact decide_eq_true hls
        have HA2 : Hid (∀ y ∈ xs.take (q + 1), ltT y s) := Lib.hid (fun y hy => by
          rw [take_snocT HX.out, List.mem_append, List.mem_singleton] at hy
          rcases hy with hy | rfl
          · exact HA.out y hy
          · exact hls)
        clear hls
        go_wp2_with fail
        go_round
        case rel => exact ⟨q + 1, by omega, by go_num, HA2⟩
        case measure => simp [intOf]; omega
      · have hd : Op.bytesLess x.toList s.toList = false := by rw [less_dec]; exact decide_eq_false hls
        by_cases he : x = s
        · have hd2 : (x.toList == s.toList) = true := by rw [toList_beq']; exact decide_eq_true he
          have HI : Hid (IsSetT xs (ys ++ [s])) := Lib.hid (ins_in HS.out (by rw [HX.out, he]))
          clear hls he
          go_wp2_with fail
          go_ret
          exact ⟨g, n, c, xs, rfl, by rw [HL.out]; omega, HO.out, HI.out, Below.refl _ _⟩
        · have hd2 : (x.toList == s.toList) = false := by rw [toList_beq']; exact decide_eq_false he
          have HI : Hid (IsSetT (xs.take q ++ [s] ++ xs.drop q) (ys ++ [s])) := Lib.hid (ins_at HS.out (by rw [HL.out]; omega) HA.out (fun y hy => by
            rw [HX.out] at hy
            cases hy
            exact ⟨hls, he⟩))
          clear hls he
          have BA : Hid (Below w.heap.size w ((w.alloc (.cells #[] 9)).drew)) := Lib.hid ((Below.refl _ _).alloc (Nat.le_refl _) _).drew
          have BC : Hid (Below w.heap.size w (((w.alloc (.cells #[] 9)).drew).alloc (.cells #[.string s] 9))) := Lib.hid (BA.out.alloc BA.out.size _)
          have BF0 : Below w.heap.size w ((w.alloc (.cells #[.string s] 9)).drew) := ((Below.refl _ _).alloc (Nat.le_refl _) _).drew
          have BF : Hid (Below w.heap.size w (((w.alloc (.cells #[.string s] 9)).drew).alloc (.cells #[] 9))) := Lib.hid (BF0.alloc BF0.size _)
          have OA : Hid (((w.alloc (.cells #[] 9)).drew).ownsRow w.heap.size 9 1 (.slice (some ⟨w.heap.size, 0, none⟩) 0 0) 0 (#[] : Array Value).toList) := Lib.hid (World.ownsRow_lit (e := 9) (base := w.heap.size) (size := 1) w #[] 0 (Nat.le_refl _) (by decide) rfl)
          have OC : Hid ((((w.alloc (.cells #[] 9)).drew).alloc (.cells #[.string s] 9)).ownsRow w.heap.size 9 1 (.slice (some ⟨w.heap.size, 0, none⟩) 0 0) 0 (#[] : Array Value).toList) := Lib.hid (OA.out.alloc _)
          have hs1 : ((w.alloc (.cells #[.string s] 9)).drew).heap.size = w.heap.size + 1 := by simp
          have OF : Hid ((((w.alloc (.cells #[.string s] 9)).drew).alloc (.cells #[] 9)).ownsRow w.heap.size 9 1 (.slice (some ⟨w.heap.size + 1, 0, none⟩) 0 0) 0 (#[] : Array Value).toList) := Lib.hid (by
            have h := World.ownsRow_lit (e := 9) (base := w.heap.size) (size := 1) ((w.alloc (.cells #[.string s] 9)).drew) #[] 0 (by omega) (by decide) rfl
            rw [hs1] at h
            exact h)
          have XC : Hid ((((w.alloc (.cells #[] 9)).drew).alloc (.cells #[.string s] 9)).cell? ⟨w.heap.size + 1, 0, none⟩ = some (.string s)) := Lib.hid (by
            have h := new_one ((w.alloc (.cells #[] 9)).drew) (.string s) 9
            have e : ((w.alloc (.cells #[] 9)).drew).heap.size = w.heap.size + 1 := by simp
            rw [e] at h
            exact h)
          have XF : Hid ((((w.alloc (.cells #[.string s] 9)).drew).alloc (.cells #[] 9)).cell? ⟨w.heap.size, 0, none⟩ = some (.string s)) := Lib.hid ((World.cell?_alloc_lt ((w.alloc (.cells #[.string s] 9)).drew) _ ⟨w.heap.size, 0, none⟩ (by show w.heap.size < _; omega)).trans (new_one w (.string s) 9))
          have KC : Hid (∀ W, ((((w.alloc (.cells #[] 9)).drew).alloc (.cells #[.string s] 9))).grownBy W (Value.slice (some ⟨w.heap.size, 0, none⟩) 0 0).ownBlock → W.cell? ⟨w.heap.size + 1, 0, none⟩ = some (.string s)) := Lib.hid (fun W hW => hW.cell XC.out (by simp [Value.ownBlock]))
          have KF : Hid (∀ W, ((((w.alloc (.cells #[.string s] 9)).drew).alloc (.cells #[] 9))).grownBy W (Value.slice (some ⟨w.heap.size + 1, 0, none⟩) 0 0).ownBlock → W.cell? ⟨w.heap.size, 0, none⟩ = some (.string s)) := Lib.hid (fun W hW => hW.cell XF.out (by simp [Value.ownBlock]))
          have NT : Hid (∀ W, Below w.heap.size w W → ∀ j u, (strV (xs.take q))[j]? = some u → W.cell? ((⟨g, 0, none⟩ : Addr).add j) = some u) := Lib.hid (fun W hW j u hu => by
            rw [add_plain', Nat.zero_add]
            unfold strV at hu
            rw [List.getElem?_map] at hu
            cases hy : (xs.take q)[j]? with
            | none => rw [hy] at hu; cases hu
            | some y =>
              rw [hy] at hu
              obtain rfl := Option.some.inj hu
              rw [List.getElem?_take] at hy
              split at hy
              · exact (hW.cell (p := ⟨g, j, none⟩) hgl).trans (HROW.out j y hy)
              · cases hy)
          have ND : Hid (∀ W, Below w.heap.size w W → ∀ ad, (ad = ⟨g, q, none⟩ ∨ n = q) → ∀ j u, (strV (xs.drop q))[j]? = some u → W.cell? ((ad : Addr).add j) = some u) := Lib.hid (fun W hW ad hor j u hu => by
            unfold strV at hu
            rw [List.getElem?_map] at hu
            cases hy : (xs.drop q)[j]? with
            | none => rw [hy] at hu; cases hu
            | some y =>
              rw [hy] at hu
              obtain rfl := Option.some.inj hu
              rw [List.getElem?_drop] at hy
              rcases hor with rfl | hnq
              · rw [add_plain']
                exact (hW.cell (p := ⟨g, q + j, none⟩) hgl).trans (HROW.out (q + j) y hy)
              · have := (List.getElem?_eq_some_iff.1 hy).1
                have := HL.out
                omega)
          have L1 : Hid ((strV (xs.take q)).length = q * 1) := Lib.hid (by rw [strV_len, List.length_take]; have := HL.out; omega)
          have L3 : Hid ((strV (xs.drop q)).length = (n - q) * 1) := Lib.hid (by rw [strV_len, List.length_drop]; have := HL.out; omega)
          have L30 : Hid (c = q → (strV (xs.drop q)).length = 0 * 1) := Lib.hid (fun e => by rw [strV_len, List.length_drop]; have := HL.out; have := HNC.out; omega)
          have L32 : Hid (n = q → (strV (xs.drop q)).length = 0 * 1) := Lib.hid (fun e => by rw [strV_len, List.length_drop]; have := HL.out; omega)
          have P1 : Hid (0 + q ≤ maxLen) := Lib.hid (by unfold maxLen; omega)
          have P2 : Hid ((0 + q) * 16 ≤ 140737488355328) := Lib.hid (by omega)
          have P3 : Hid (0 + q + 1 ≤ maxLen) := Lib.hid (by unfold maxLen; omega)
          have P4 : Hid ((0 + q + 1) * 16 ≤ 140737488355328) := Lib.hid (by omega)
          have P5 : Hid (0 + q + 1 + (n - q) ≤ maxLen) := Lib.hid (by unfold maxLen; omega)
          have P6 : Hid ((0 + q + 1 + (n - q)) * 16 ≤ 140737488355328) := Lib.hid (by omega)
          have hcase : c = q ∨ ¬ c = q := by omega
          have HNM : Hid (c = q → n = q) := Lib.hid (fun h => by have := HNC.out; omega)
          have v2 : (q : Int) ≤ (n : Int) := by omega
          have v3 : (q : Int) ≤ (c : Int) := by have := HNC.out; omega
          have v4 : (0 : Int) ≤ (n : Int) := Int.natCast_nonneg _
          have v6 : q ≤ c := by have := HNC.out; omega
          have HQ : Hid (q ≤ n) := Lib.hid (by omega)
          clear BF0 hs1 hnc
          rcases hcase with hcc | hcc
          · obtain rfl : q = c := hcc.symm
            have HKQ : Hid (n = q) := Lib.hid (HNM.out rfl)
            have L31 : Hid ((strV (xs.drop q)).length = 0 * 1) := Lib.hid (L30.out rfl)
            clear HNM L30
            go_wp2_with fail
            go_region_law (first
              | ((refine step_append_s rfl (.tmp 33) (.tmp 36) 38 rfl w.heap.size 9 i0 _ 1 16 Tryz.underlying38 hi0 hz0 hz1 hz2 rfl (by decide) _ 0 _ rfl (by first | exact OA.out | exact OC.out | exact OF.out) ⟨g, 0, none⟩ q _ _ rfl L1.out (by first | exact NT.out _ BA.out | exact NT.out _ BC.out | exact NT.out _ BF.out) (strV_one _) P1.out P2.out (by first | exact BA.out.size | exact BC.out.size | exact BF.out.size) ?_); intro v5 w5 hown5 hgrow5 hnil5; have hb5 : Below w.heap.size w w5 := (by first | exact BA.out.grown hgrow5 BA.out.size (fun j hj => (OA.out.lt j hj).1) | exact BC.out.grown hgrow5 BC.out.size (fun j hj => (OC.out.lt j hj).1) | exact BF.out.grown hgrow5 BF.out.size (fun j hj => (OF.out.lt j hj).1)))
              | ((refine step_append_s rfl (.tmp 37) (.tmp 39) 38 rfl w.heap.size 9 i0 _ 1 16 Tryz.underlying38 hi0 hz0 hz1 hz2 rfl (by decide) _ _ _ rfl (by first | exact hown5 | exact hown5.alloc _) _ 1 1 [.string s] rfl rfl (by first | exact one_cell' _ _ _ (new_one w5 _ _) | exact one_cell' _ _ _ (KC.out w5 hgrow5) | exact one_cell' _ _ _ (KF.out w5 hgrow5)) (by simp [Value.oneCell']) P3.out P4.out (by first | exact hb5.size | exact (hb5.alloc hb5.size _).size) ?_); intro v6 w6 hown6 hgrow6 hnil6; have hb6 : Below w.heap.size w w6 := (by first | exact hb5.grown hgrow6 hb5.size (fun j hj => (hown5.lt j hj).1) | exact (hb5.alloc hb5.size _).grown hgrow6 (hb5.alloc hb5.size _).size (fun j hj => (hown5.lt j hj).1)))
              | ((refine step_append_s rfl (.tmp 40) (.tmp 43) 38 rfl w.heap.size 9 i0 _ 1 16 Tryz.underlying38 hi0 hz0 hz1 hz2 rfl (by decide) _ _ _ rfl hown6 _ _ _ (strV (xs.drop q)) rfl (by first | exact L3.out | exact L31.out) (ND.out _ hb6 _ (.inr HKQ.out)) (strV_one _) (by first | exact P5.out | exact P3.out) (by first | exact P6.out | exact P4.out) hb6.size ?_); intro v7 w7 hown7 hgrow7 hnil7; have hb7 : Below w.heap.size w w7 := hb6.grown hgrow7 hb6.size (fun j hj => (hown6.lt j hj).1)))
            all_goals
              have hne7 : v7 ≠ .slice none 0 0 := fun h => by
                have h6 := (hnil7.1 h).1
                have h5 := (hnil6.1 h6).1
                have h4 := (hnil5.1 h5).1
                cases h4
              have hown8 : w7.ownsRow w.heap.size 9 1 v7 (n + 1) (strV (xs.take q ++ [s] ++ xs.drop q)) := by
                have e : 0 + q + 1 + (n - q) = n + 1 := by have := HQ.out; omega
                have e' : 0 + q + 1 + 0 = n + 1 := by have := HKQ.out; omega
                have e2 : strV (xs.take q ++ [s] ++ xs.drop q) = (#[] : Array Value).toList ++ strV (xs.take q) ++ [.string s] ++ strV (xs.drop q) := by simp [strV]
                rw [e2]
                first
                  | (rw [← e]; exact hown7)
                  | (rw [← e']; exact hown7)
              obtain ⟨g', c', rfl, hgc1, hgc2, hgc3⟩ := srow_form hown8 hne7
              have HO8 := Lib.hid (rowBase hown8 HBASE.out)
              have HB8 := Lib.hid hb7
              clear hown8 hown7 hown6 hown5 hgrow5 hgrow6 hgrow7 hnil5 hnil6 hnil7 hb5 hb6 hb7 hne7
              go_wp2_with fail
              go_ret
              exact ⟨g', n + 1, c', _, rfl, by rw [HL.out]; exact Nat.le_refl _, HO8.out, HI.out, HB8.out⟩
          · go_wp2_with fail
            go_region_law (first
              | ((refine step_append_s rfl (.tmp 33) (.tmp 36) 38 rfl w.heap.size 9 i0 _ 1 16 Tryz.underlying38 hi0 hz0 hz1 hz2 rfl (by decide) _ 0 _ rfl (by first | exact OA.out | exact OC.out | exact OF.out) ⟨g, 0, none⟩ q _ _ rfl L1.out (by first | exact NT.out _ BA.out | exact NT.out _ BC.out | exact NT.out _ BF.out) (strV_one _) P1.out P2.out (by first | exact BA.out.size | exact BC.out.size | exact BF.out.size) ?_); intro v5 w5 hown5 hgrow5 hnil5; have hb5 : Below w.heap.size w w5 := (by first | exact BA.out.grown hgrow5 BA.out.size (fun j hj => (OA.out.lt j hj).1) | exact BC.out.grown hgrow5 BC.out.size (fun j hj => (OC.out.lt j hj).1) | exact BF.out.grown hgrow5 BF.out.size (fun j hj => (OF.out.lt j hj).1)))
              | ((refine step_append_s rfl (.tmp 37) (.tmp 39) 38 rfl w.heap.size 9 i0 _ 1 16 Tryz.underlying38 hi0 hz0 hz1 hz2 rfl (by decide) _ _ _ rfl (by first | exact hown5 | exact hown5.alloc _) _ 1 1 [.string s] rfl rfl (by first | exact one_cell' _ _ _ (new_one w5 _ _) | exact one_cell' _ _ _ (KC.out w5 hgrow5) | exact one_cell' _ _ _ (KF.out w5 hgrow5)) (by simp [Value.oneCell']) P3.out P4.out (by first | exact hb5.size | exact (hb5.alloc hb5.size _).size) ?_); intro v6 w6 hown6 hgrow6 hnil6; have hb6 : Below w.heap.size w w6 := (by first | exact hb5.grown hgrow6 hb5.size (fun j hj => (hown5.lt j hj).1) | exact (hb5.alloc hb5.size _).grown hgrow6 (hb5.alloc hb5.size _).size (fun j hj => (hown5.lt j hj).1)))
              | ((refine step_append_s rfl (.tmp 40) (.tmp 43) 38 rfl w.heap.size 9 i0 _ 1 16 Tryz.underlying38 hi0 hz0 hz1 hz2 rfl (by decide) _ _ _ rfl hown6 _ _ _ (strV (xs.drop q)) rfl (by first | exact L3.out | exact L32.out (by first | rfl | trivial)) (ND.out _ hb6 _ (.inl rfl)) (strV_one _) (by first | exact P5.out | exact P3.out) (by first | exact P6.out | exact P4.out) hb6.size ?_); intro v7 w7 hown7 hgrow7 hnil7; have hb7 : Below w.heap.size w w7 := hb6.grown hgrow7 hb6.size (fun j hj => (hown6.lt j hj).1)))
            all_goals
              have hne7 : v7 ≠ .slice none 0 0 := fun h => by
                have h6 := (hnil7.1 h).1
                have h5 := (hnil6.1 h6).1
                have h4 := (hnil5.1 h5).1
                cases h4
              have hown8 : w7.ownsRow w.heap.size 9 1 v7 (n + 1) (strV (xs.take q ++ [s] ++ xs.drop q)) := by
                have e : 0 + q + 1 + (n - q) = n + 1 := by have := HQ.out; omega
                have e2 : strV (xs.take q ++ [s] ++ xs.drop q) = (#[] : Array Value).toList ++ strV (xs.take q) ++ [.string s] ++ strV (xs.drop q) := by simp [strV]
                rw [e2]
                first
                  | (rw [← e]; exact hown7)
                  | (have e9 : 0 + q + 1 + 0 = q + 1 := by omega
                     rw [e9] at hown7; exact hown7)
              obtain ⟨g', c', rfl, hgc1, hgc2, hgc3⟩ := srow_form hown8 hne7
              have HO8 := Lib.hid (rowBase hown8 HBASE.out)
              have HB8 := Lib.hid hb7
              clear hown8 hown7 hown6 hown5 hgrow5 hgrow6 hgrow7 hnil5 hnil6 hnil7 hb5 hb6 hb7 hne7
              go_wp2_with fail
              go_ret
              exact ⟨g', n + 1, c', _, rfl, by rw [HL.out]; exact Nat.le_refl _, HO8.out, HI.out, HB8.out⟩
    · obtain rfl : q = n := by omega
      have u1 : (0 : Int) ≤ (q : Int) := Int.natCast_nonneg _
      have HI : Hid (IsSetT (xs.take q ++ [s] ++ xs.drop q) (ys ++ [s])) := Lib.hid (ins_at HS.out (by rw [HL.out]; omega) HA.out (fun y hy => by
        have := (List.getElem?_eq_some_iff.1 hy).1
        have := HL.out
        omega))
      have BA : Hid (Below w.heap.size w ((w.alloc (.cells #[] 9)).drew)) := Lib.hid ((Below.refl _ _).alloc (Nat.le_refl _) _).drew
      have BC : Hid (Below w.heap.size w (((w.alloc (.cells #[] 9)).drew).alloc (.cells #[.string s] 9))) := Lib.hid (BA.out.alloc BA.out.size _)
      have BF0 : Below w.heap.size w ((w.alloc (.cells #[.string s] 9)).drew) := ((Below.refl _ _).alloc (Nat.le_refl _) _).drew
      have BF : Hid (Below w.heap.size w (((w.alloc (.cells #[.string s] 9)).drew).alloc (.cells #[] 9))) := Lib.hid (BF0.alloc BF0.size _)
      have OA : Hid (((w.alloc (.cells #[] 9)).drew).ownsRow w.heap.size 9 1 (.slice (some ⟨w.heap.size, 0, none⟩) 0 0) 0 (#[] : Array Value).toList) := Lib.hid (World.ownsRow_lit (e := 9) (base := w.heap.size) (size := 1) w #[] 0 (Nat.le_refl _) (by decide) rfl)
      have OC : Hid ((((w.alloc (.cells #[] 9)).drew).alloc (.cells #[.string s] 9)).ownsRow w.heap.size 9 1 (.slice (some ⟨w.heap.size, 0, none⟩) 0 0) 0 (#[] : Array Value).toList) := Lib.hid (OA.out.alloc _)
      have hs1 : ((w.alloc (.cells #[.string s] 9)).drew).heap.size = w.heap.size + 1 := by simp
      have OF : Hid ((((w.alloc (.cells #[.string s] 9)).drew).alloc (.cells #[] 9)).ownsRow w.heap.size 9 1 (.slice (some ⟨w.heap.size + 1, 0, none⟩) 0 0) 0 (#[] : Array Value).toList) := Lib.hid (by
        have h := World.ownsRow_lit (e := 9) (base := w.heap.size) (size := 1) ((w.alloc (.cells #[.string s] 9)).drew) #[] 0 (by omega) (by decide) rfl
        rw [hs1] at h
        exact h)
      have XC : Hid ((((w.alloc (.cells #[] 9)).drew).alloc (.cells #[.string s] 9)).cell? ⟨w.heap.size + 1, 0, none⟩ = some (.string s)) := Lib.hid (by
        have h := new_one ((w.alloc (.cells #[] 9)).drew) (.string s) 9
        have e : ((w.alloc (.cells #[] 9)).drew).heap.size = w.heap.size + 1 := by simp
        rw [e] at h
        exact h)
      have XF : Hid ((((w.alloc (.cells #[.string s] 9)).drew).alloc (.cells #[] 9)).cell? ⟨w.heap.size, 0, none⟩ = some (.string s)) := Lib.hid ((World.cell?_alloc_lt ((w.alloc (.cells #[.string s] 9)).drew) _ ⟨w.heap.size, 0, none⟩ (by show w.heap.size < _; omega)).trans (new_one w (.string s) 9))
      have KC : Hid (∀ W, ((((w.alloc (.cells #[] 9)).drew).alloc (.cells #[.string s] 9))).grownBy W (Value.slice (some ⟨w.heap.size, 0, none⟩) 0 0).ownBlock → W.cell? ⟨w.heap.size + 1, 0, none⟩ = some (.string s)) := Lib.hid (fun W hW => hW.cell XC.out (by simp [Value.ownBlock]))
      have KF : Hid (∀ W, ((((w.alloc (.cells #[.string s] 9)).drew).alloc (.cells #[] 9))).grownBy W (Value.slice (some ⟨w.heap.size + 1, 0, none⟩) 0 0).ownBlock → W.cell? ⟨w.heap.size, 0, none⟩ = some (.string s)) := Lib.hid (fun W hW => hW.cell XF.out (by simp [Value.ownBlock]))
      have NT : Hid (∀ W, Below w.heap.size w W → ∀ j u, (strV (xs.take q))[j]? = some u → W.cell? ((⟨g, 0, none⟩ : Addr).add j) = some u) := Lib.hid (fun W hW j u hu => by
        rw [add_plain', Nat.zero_add]
        unfold strV at hu
        rw [List.getElem?_map] at hu
        cases hy : (xs.take q)[j]? with
        | none => rw [hy] at hu; cases hu
        | some y =>
          rw [hy] at hu
          obtain rfl := Option.some.inj hu
          rw [List.getElem?_take] at hy
          split at hy
          · exact (hW.cell (p := ⟨g, j, none⟩) hgl).trans (HROW.out j y hy)
          · cases hy)
      have ND : Hid (∀ W, Below w.heap.size w W → ∀ ad, (ad = ⟨g, q, none⟩ ∨ q = q) → ∀ j u, (strV (xs.drop q))[j]? = some u → W.cell? ((ad : Addr).add j) = some u) := Lib.hid (fun W hW ad hor j u hu => by
        unfold strV at hu
        rw [List.getElem?_map] at hu
        cases hy : (xs.drop q)[j]? with
        | none => rw [hy] at hu; cases hu
        | some y =>
          rw [hy] at hu
          obtain rfl := Option.some.inj hu
          rw [List.getElem?_drop] at hy
          rcases hor with rfl | hnq
          · rw [add_plain']
            exact (hW.cell (p := ⟨g, q + j, none⟩) hgl).trans (HROW.out (q + j) y hy)
          · have := (List.getElem?_eq_some_iff.1 hy).1
            have := HL.out
            omega)
      have L1 : Hid ((strV (xs.take q)).length = q * 1) := Lib.hid (by rw [strV_len, List.length_take]; have := HL.out; omega)
      have L3 : Hid ((strV (xs.drop q)).length = (q - q) * 1) := Lib.hid (by rw [strV_len, List.length_drop]; have := HL.out; omega)
      have L30 : Hid (c = q → (strV (xs.drop q)).length = 0 * 1) := Lib.hid (fun e => by rw [strV_len, List.length_drop]; have := HL.out; have := HNC.out; omega)
      have L32 : Hid (q = q → (strV (xs.drop q)).length = 0 * 1) := Lib.hid (fun e => by rw [strV_len, List.length_drop]; have := HL.out; omega)
      have P1 : Hid (0 + q ≤ maxLen) := Lib.hid (by unfold maxLen; omega)
      have P2 : Hid ((0 + q) * 16 ≤ 140737488355328) := Lib.hid (by omega)
      have P3 : Hid (0 + q + 1 ≤ maxLen) := Lib.hid (by unfold maxLen; omega)
      have P4 : Hid ((0 + q + 1) * 16 ≤ 140737488355328) := Lib.hid (by omega)
      have P5 : Hid (0 + q + 1 + (q - q) ≤ maxLen) := Lib.hid (by unfold maxLen; omega)
      have P6 : Hid ((0 + q + 1 + (q - q)) * 16 ≤ 140737488355328) := Lib.hid (by omega)
      have hcase : c = q ∨ ¬ c = q := by omega
      have HNM : Hid (c = q → q = q) := Lib.hid (fun h => by have := HNC.out; omega)
      have v2 : (q : Int) ≤ (q : Int) := by omega
      have v3 : (q : Int) ≤ (c : Int) := by have := HNC.out; omega
      have v4 : (0 : Int) ≤ (q : Int) := Int.natCast_nonneg _
      have v6 : q ≤ c := by have := HNC.out; omega
      have HQ : Hid (q ≤ q) := Lib.hid (by omega)
      clear BF0 hs1 hnc
      rcases hcase with hcc | hcc
      · obtain rfl : q = c := hcc.symm
        have HKQ : Hid (q = q) := Lib.hid (HNM.out rfl)
        have L31 : Hid ((strV (xs.drop q)).length = 0 * 1) := Lib.hid (L30.out rfl)
        clear HNM L30
        go_wp2_with fail
        go_region_law (first
          | ((refine step_append_s rfl (.tmp 33) (.tmp 36) 38 rfl w.heap.size 9 i0 _ 1 16 Tryz.underlying38 hi0 hz0 hz1 hz2 rfl (by decide) _ 0 _ rfl (by first | exact OA.out | exact OC.out | exact OF.out) ⟨g, 0, none⟩ q _ _ rfl L1.out (by first | exact NT.out _ BA.out | exact NT.out _ BC.out | exact NT.out _ BF.out) (strV_one _) P1.out P2.out (by first | exact BA.out.size | exact BC.out.size | exact BF.out.size) ?_); intro v5 w5 hown5 hgrow5 hnil5; have hb5 : Below w.heap.size w w5 := (by first | exact BA.out.grown hgrow5 BA.out.size (fun j hj => (OA.out.lt j hj).1) | exact BC.out.grown hgrow5 BC.out.size (fun j hj => (OC.out.lt j hj).1) | exact BF.out.grown hgrow5 BF.out.size (fun j hj => (OF.out.lt j hj).1)))
          | ((refine step_append_s rfl (.tmp 37) (.tmp 39) 38 rfl w.heap.size 9 i0 _ 1 16 Tryz.underlying38 hi0 hz0 hz1 hz2 rfl (by decide) _ _ _ rfl (by first | exact hown5 | exact hown5.alloc _) _ 1 1 [.string s] rfl rfl (by first | exact one_cell' _ _ _ (new_one w5 _ _) | exact one_cell' _ _ _ (KC.out w5 hgrow5) | exact one_cell' _ _ _ (KF.out w5 hgrow5)) (by simp [Value.oneCell']) P3.out P4.out (by first | exact hb5.size | exact (hb5.alloc hb5.size _).size) ?_); intro v6 w6 hown6 hgrow6 hnil6; have hb6 : Below w.heap.size w w6 := (by first | exact hb5.grown hgrow6 hb5.size (fun j hj => (hown5.lt j hj).1) | exact (hb5.alloc hb5.size _).grown hgrow6 (hb5.alloc hb5.size _).size (fun j hj => (hown5.lt j hj).1)))
          | ((refine step_append_s rfl (.tmp 40) (.tmp 43) 38 rfl w.heap.size 9 i0 _ 1 16 Tryz.underlying38 hi0 hz0 hz1 hz2 rfl (by decide) _ _ _ rfl hown6 _ _ _ (strV (xs.drop q)) rfl (by first | exact L3.out | exact L31.out) (ND.out _ hb6 _ (.inr HKQ.out)) (strV_one _) (by first | exact P5.out | exact P3.out) (by first | exact P6.out | exact P4.out) hb6.size ?_); intro v7 w7 hown7 hgrow7 hnil7; have hb7 : Below w.heap.size w w7 := hb6.grown hgrow7 hb6.size (fun j hj => (hown6.lt j hj).1)))
        all_goals
          have hne7 : v7 ≠ .slice none 0 0 := fun h => by
            have h6 := (hnil7.1 h).1
            have h5 := (hnil6.1 h6).1
            have h4 := (hnil5.1 h5).1
            cases h4
          have hown8 : w7.ownsRow w.heap.size 9 1 v7 (q + 1) (strV (xs.take q ++ [s] ++ xs.drop q)) := by
            have e : 0 + q + 1 + (q - q) = q + 1 := by have := HQ.out; omega
            have e' : 0 + q + 1 + 0 = q + 1 := by have := HKQ.out; omega
            have e2 : strV (xs.take q ++ [s] ++ xs.drop q) = (#[] : Array Value).toList ++ strV (xs.take q) ++ [.string s] ++ strV (xs.drop q) := by simp [strV]
            rw [e2]
            first
              | (rw [← e]; exact hown7)
              | (rw [← e']; exact hown7)
          obtain ⟨g', c', rfl, hgc1, hgc2, hgc3⟩ := srow_form hown8 hne7
          have HO8 := Lib.hid (rowBase hown8 HBASE.out)
          have HB8 := Lib.hid hb7
          clear hown8 hown7 hown6 hown5 hgrow5 hgrow6 hgrow7 hnil5 hnil6 hnil7 hb5 hb6 hb7 hne7
          go_wp2_with fail
          go_ret
          exact ⟨g', q + 1, c', _, rfl, by rw [HL.out]; exact Nat.le_refl _, HO8.out, HI.out, HB8.out⟩
      · go_wp2_with fail
        go_region_law (first
          | ((refine step_append_s rfl (.tmp 33) (.tmp 36) 38 rfl w.heap.size 9 i0 _ 1 16 Tryz.underlying38 hi0 hz0 hz1 hz2 rfl (by decide) _ 0 _ rfl (by first | exact OA.out | exact OC.out | exact OF.out) ⟨g, 0, none⟩ q _ _ rfl L1.out (by first | exact NT.out _ BA.out | exact NT.out _ BC.out | exact NT.out _ BF.out) (strV_one _) P1.out P2.out (by first | exact BA.out.size | exact BC.out.size | exact BF.out.size) ?_); intro v5 w5 hown5 hgrow5 hnil5; have hb5 : Below w.heap.size w w5 := (by first | exact BA.out.grown hgrow5 BA.out.size (fun j hj => (OA.out.lt j hj).1) | exact BC.out.grown hgrow5 BC.out.size (fun j hj => (OC.out.lt j hj).1) | exact BF.out.grown hgrow5 BF.out.size (fun j hj => (OF.out.lt j hj).1)))
          | ((refine step_append_s rfl (.tmp 37) (.tmp 39) 38 rfl w.heap.size 9 i0 _ 1 16 Tryz.underlying38 hi0 hz0 hz1 hz2 rfl (by decide) _ _ _ rfl (by first | exact hown5 | exact hown5.alloc _) _ 1 1 [.string s] rfl rfl (by first | exact one_cell' _ _ _ (new_one w5 _ _) | exact one_cell' _ _ _ (KC.out w5 hgrow5) | exact one_cell' _ _ _ (KF.out w5 hgrow5)) (by simp [Value.oneCell']) P3.out P4.out (by first | exact hb5.size | exact (hb5.alloc hb5.size _).size) ?_); intro v6 w6 hown6 hgrow6 hnil6; have hb6 : Below w.heap.size w w6 := (by first | exact hb5.grown hgrow6 hb5.size (fun j hj => (hown5.lt j hj).1) | exact (hb5.alloc hb5.size _).grown hgrow6 (hb5.alloc hb5.size _).size (fun j hj => (hown5.lt j hj).1)))
          | ((refine step_append_s rfl (.tmp 40) (.tmp 43) 38 rfl w.heap.size 9 i0 _ 1 16 Tryz.underlying38 hi0 hz0 hz1 hz2 rfl (by decide) _ _ _ rfl hown6 _ _ _ (strV (xs.drop q)) rfl (by first | exact L3.out | exact L32.out (by first | rfl | trivial)) (ND.out _ hb6 _ (.inl rfl)) (strV_one _) (by first | exact P5.out | exact P3.out) (by first | exact P6.out | exact P4.out) hb6.size ?_); intro v7 w7 hown7 hgrow7 hnil7; have hb7 : Below w.heap.size w w7 := hb6.grown hgrow7 hb6.size (fun j hj => (hown6.lt j hj).1)))
        all_goals
          have hne7 : v7 ≠ .slice none 0 0 := fun h => by
            have h6 := (hnil7.1 h).1
            have h5 := (hnil6.1 h6).1
            have h4 := (hnil5.1 h5).1
            cases h4
          have hown8 : w7.ownsRow w.heap.size 9 1 v7 (q + 1) (strV (xs.take q ++ [s] ++ xs.drop q)) := by
            have e : 0 + q + 1 + (q - q) = q + 1 := by have := HQ.out; omega
            have e2 : strV (xs.take q ++ [s] ++ xs.drop q) = (#[] : Array Value).toList ++ strV (xs.take q) ++ [.string s] ++ strV (xs.drop q) := by simp [strV]
            rw [e2]
            first
              | (rw [← e]; exact hown7)
              | (have e9 : 0 + q + 1 + 0 = q + 1 := by omega
                 rw [e9] at hown7; exact hown7)
          obtain ⟨g', c', rfl, hgc1, hgc2, hgc3⟩ := srow_form hown8 hne7
          have HO8 := Lib.hid (rowBase hown8 HBASE.out)
          have HB8 := Lib.hid hb7
          clear hown8 hown7 hown6 hown5 hgrow5 hgrow6 hgrow7 hnil5 hnil6 hnil7 hb5 hb6 hb7 hne7
          go_wp2_with fail
          go_ret
          exact ⟨g', q + 1, c', _, rfl, by rw [HL.out]; exact Nat.le_refl _, HO8.out, HI.out, HB8.out⟩
end Go.Proofs.YtglmibmjbignbaaGreatDoor
