/-
  The contract of spec.l01Numbers: texts that are read as numbers.
-/
import Derived.Test.YtnodnjaajaemcabDoorSigned
import Derived.Test.YtnodnjaajaemcabDoorIntRow
import Derived.Deep.AppendLies
namespace Go.Proofs.YtnodnjaajaemcabDoor
set_option linter.unusedVariables false
open Go.RowKit

def sAll (ws : List ByteArray) : Bool := ws.all sB
theorem sAll_step (ws : List ByteArray) (k : Nat) (x : ByteArray) (h : ws[k]? = some x) (ha : sAll (ws.take k) = true) (hc : sB x = true) : sAll (ws.take (k + 1)) = true := by
  have hl := (List.getElem?_eq_some_iff.1 h).1
  have he : ws[k] = x := (List.getElem?_eq_some_iff.1 h).2
  rw [List.take_succ_eq_append_getElem hl, he]; unfold sAll at *; simp [List.all_append, ha, hc]
theorem sAll_stop (ws : List ByteArray) (k : Nat) (x : ByteArray) (h : ws[k]? = some x) (hc : sB x = false) : sAll ws = false := by
  unfold sAll; rw [List.all_eq_false]; exact ⟨x, List.mem_of_getElem? h, by simp [hc]⟩
theorem sMap_step (ws : List ByteArray) (k : Nat) (x : ByteArray) (h : ws[k]? = some x) : (ws.map sN).take (k + 1) = (ws.map sN).take k ++ [sN x] := by
  have hl := (List.getElem?_eq_some_iff.1 h).1
  have he : ws[k] = x := (List.getElem?_eq_some_iff.1 h).2
  rw [List.take_succ_eq_append_getElem (by simpa using hl), List.getElem_map, he]
theorem kp (v : Value) : v.ownBlock = none ∨ v.ownBlock ≠ none := by cases v.ownBlock <;> simp
def NumsPost (ws : List ByteArray) (w : World) (e : Ending) (w' : World) : Prop :=
  Below w.heap.size w w' ∧ ((sAll ws = false ∧ e = .returned (.tuple #[.slice none 0 0, .bool false])) ∨
    (sAll ws = true ∧ ∃ A cap, e = .returned (.tuple #[.slice A ws.length cap, .bool true]) ∧ w'.ownsRow w.heap.size 2 1 (.slice A ws.length cap) ws.length (intV (ws.map sN))))
theorem nums_end {ws : List ByteArray} {w w' : World} {v : Value} (hb : Below w.heap.size w w') (ha : sAll ws = true) (hr : w'.ownsRow w.heap.size 2 1 v ws.length (intV (ws.map sN))) : NumsPost ws w (.returned (.tuple #[v, .bool true])) w' := by
  refine ⟨hb, .inr ⟨ha, ?_⟩⟩
  have hr0 := hr
  rcases hr.2 with ⟨h1, h2⟩ | ⟨g1, cap1, cur, h1, h2⟩
  · subst h1
    exact ⟨none, 0, by rw [h2], by rw [h2] at hr0 ⊢; exact hr0⟩
  · subst h1
    exact ⟨_, _, rfl, hr0⟩
theorem one_cellI (w : World) (B : Nat) (u : Value) (h : w.cell? ⟨B, 0, none⟩ = some u) : ∀ (j : Nat) x, [u][j]? = some x → w.cell? ((⟨B, 0, none⟩ : Addr).add j) = some x := one_cell' w B u h

set_option maxHeartbeats 2000000 in
set_option maxRecDepth 100000 in
theorem cNumbers (g cap n : Nat) (ws : List ByteArray) (w : World) (hn : n = ws.length) (hbig : n ≤ 1073741825) (hg : g < w.heap.size) (hsz : ∀ x ∈ ws, x.size ≤ 1073741824)
    (hc : ∀ (j : Nat) x, ws[j]? = some x → w.cell? ⟨g, j, none⟩ = some (.string x)) :
    Calls Tryd.prog 32 #[.slice (some ⟨g, 0, none⟩) n cap] w (NumsPost ws w) := by
  obtain ⟨i0, hi0, hz0, hz1, hz2⟩ := info_parts info_i64
  have HN := Lib.hid hn
  have HS := Lib.hid hsz
  have HC := Lib.hid hc
  clear hn hsz hc
  go_enter Tryd.func32, Tryd.ntmps32
  go_wp2_with fail
  go_loopw [4, 5] (fun o i wr => ∃ (k : Nat) (v : Value), k ≤ n ∧ i = .int .i64 k ∧ o = v ∧ Hid (sAll (ws.take k) = true) ∧
      Hid (wr.ownsRow w.heap.size 2 1 v k (intV ((ws.map sN).take k))) ∧ Below w.heap.size w wr) (fun _ i _ => n - (intOf i).toNat)
  case atStart => exact ⟨0, _, Nat.zero_le _, rfl, rfl, Lib.hid rfl, Lib.hid (World.ownsRow_lit (e := 2) (base := w.heap.size) (size := 1) w #[] 0 (Nat.le_refl _) (by decide) rfl), (Below.refl _ _).alloc (Nat.le_refl _) _⟩
  case round =>
    obtain ⟨k, v, hk, rfl, rfl, HA, HR, hbw⟩ := hrel
    by_cases hlt : k < n
    · obtain ⟨x, hx⟩ : ∃ x, ws[k]? = some x := ⟨ws[k]'(by have := HN.out; omega), List.getElem?_eq_getElem _⟩
      have hcx : wr.cell? ⟨g, k, none⟩ = some (.string x) := (hbw.cell (p := ⟨g, k, none⟩) hg).trans (HC.out k x hx)
      have CS := Lib.hid (cSigned x wr (HS.out x (List.mem_of_getElem? hx)))
      cases hb : sB x
      · have HF := Lib.hid (sAll_stop ws k x hx hb)
        rw [hb] at CS
        clear hx hb
        go_wp2_with fail
        refine CS.out.mono ?_
        rintro e w1 ⟨rfl, g1⟩
        go_wp2_with fail
        go_ret2
        exact ⟨hbw.trans (g1.mono hbw.size), .inl ⟨HF.out, rfl⟩⟩
      · have HT := Lib.hid (sAll_step ws k x hx HA.out hb)
        have HM := Lib.hid (sMap_step ws k x hx)
        rw [hb] at CS
        generalize sN x = z at *
        clear hx hb
        go_wp2_with fail
        refine CS.out.mono ?_
        rintro e w1 ⟨rfl, g1⟩
        have hb1 := hbw.trans (g1.mono hbw.size)
        have hown := HR.out.kept (bgr g1 none) (row := none) (kp _)
        have HO := Lib.hid hown
        clear hown
        go_wp2_with (at_builtin; refine wpList_append_own _ rfl _ _ 28 rfl w.heap.size 2 i0 _ 1 8 Tryd.underlying28 hi0 hz0 hz1 hz2 rfl (by decide) _ _ _ rfl (HO.out.alloc _) ⟨w1.heap.size, 0, none⟩ 1 1 [.int .i64 z] rfl rfl ?c1 ?c2 ?c3 ?c4 ?c5 ?_)
        case c1 => exact one_cell' _ _ _ (new_one _ _ _)
        case c2 => intro u hu; simp at hu; subst hu; rfl
        case c3 => unfold maxLen; omega
        case c4 => omega
        case c5 => have := hb1.size; simp; omega
        intro v' w2 hown2 hgrow2 _
        rw [intV_snoc, ← HM.out] at hown2
        have hb2 : Below w.heap.size w w2 := (hb1.alloc hb1.size _).grown hgrow2 (by have := hb1.size; simp; omega) (fun x hx => (HO.out.lt x hx).1)
        have HO2 := Lib.hid hown2
        clear hown2 hgrow2
        go_wp2_with fail
        go_roundw
        case rel => exact ⟨k + 1, v', by omega, by go_num, rfl, HT, HO2, hb2⟩
        case measure => simp [intOf]; omega
    · obtain rfl : k = n := by omega
      have ha := HA.out
      have hr := HR.out
      rw [List.take_of_length_le (by have := HN.out; omega)] at ha
      rw [List.take_of_length_le (by rw [List.length_map]; have := HN.out; omega)] at hr
      have HAA := Lib.hid ha
      have HRR := Lib.hid hr
      clear ha hr
      go_wp2_with fail
      go_ret2
      exact nums_end hbw HAA.out (by rw [← HN.out]; exact HRR.out)
end Go.Proofs.YtnodnjaajaemcabDoor
