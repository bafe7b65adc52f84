/-
  The contracts of impl.romanOf, impl.Romanise, spec.l04Roman and spec.Romanise.
-/
import Derived.Test.YtnodnjaajaemcabRomanPlain
import Derived.Test.YtnodnjaajaemcabShelf
namespace Go.Proofs.Ytnodnjaajaemcab
set_option linter.unusedVariables false
open Go.RowKit

theorem size_listR (s : ByteArray) : s.data.toList.length = s.size := by simp

set_option maxHeartbeats 1000000 in
set_option maxRecDepth 100000 in
theorem cRomanOf (A A' : Option Addr) (n n' c c' : Nat) (rs : List Ru) (zs : List Int) (w : World) (hb : n ≤ 1048576) (hb' : n' ≤ 1048576) (hr4 : ∀ r ∈ rs, r.2.size ≤ 4) (hg : GoodZ n zs) (h : RulesAt w w.heap.size A n rs) (h' : NumAt w w.heap.size A' n' zs) :
    Calls Try.prog 22 #[.slice A n c, .slice A' n' c'] w fun e w' => e = .returned (.string (catR rs zs)) ∧ Below w.heap.size w w' := by
  have HL := Lib.hid h.1
  have HL' := Lib.hid h'.1
  have H := Lib.hid h
  have H' := Lib.hid h'
  have HR4 := Lib.hid hr4
  have HG := Lib.hid hg
  clear h h' hr4 hg
  obtain ⟨Bb, hBb⟩ : ∃ Bb, Bb = w.heap.size := ⟨_, rfl⟩
  have fresh := Lib.fresh_isBuilder 65 5 w
  rw [← hBb] at fresh
  have FR := Lib.hid fresh
  have BA := Lib.hid ((Below.refl Bb w).alloc (Nat.le_of_eq hBb) (.cells #[.pointer none, .slice none 0 0] 65))
  have HBB := Lib.hid hBb
  clear fresh hBb
  go_enter Try.func22, Try.ntmps22
  go_wp2_with fail
  rw [← HBB.out]
  go_loopw [10] (fun i wr => ∃ k : Nat, k ≤ n' ∧ i = .int .i64 k ∧ Hid (Lib.IsBuilder 65 5 Bb Bb (Lib.byteCells (catR rs (zs.take k)).data.toList) wr) ∧ (catR rs (zs.take k)).size ≤ k * 4 ∧ Hid (Below Bb w wr)) (fun i _ => n' - (intOf i).toNat)
  case atStart => exact ⟨0, Nat.zero_le _, rfl, FR, Nat.zero_le _, BA⟩
  case round =>
    obtain ⟨k, hk, rfl, HB, ht, HW⟩ := hrel
    have hbw : Below w.heap.size w wr := by rw [← HBB.out]; exact HW.out
    by_cases hlt : k < n'
    · obtain ⟨i, hi⟩ : ∃ i, zs[k]? = some i := ⟨zs[k]'(by have := HL'.out; omega), List.getElem?_eq_getElem _⟩
      obtain ⟨b', o', rfl, hb', hci⟩ := (H'.out.below hbw (Nat.le_refl _)).row hi
      obtain ⟨q, rfl, hq⟩ := HG.out i (List.mem_of_getElem? hi)
      obtain ⟨r, hr⟩ : ∃ r, rs[q]? = some r := ⟨rs[q]'(by have := HL.out; omega), List.getElem?_eq_getElem _⟩
      obtain ⟨b, o, rfl, hbl, A1, n1, c1, k0, k1, _, _, k4⟩ := (H.out.below hbw (Nat.le_refl _)).row hr
      have hr3 := HR4.out r (List.mem_of_getElem? hr)
      have hst : catR rs (zs.take (k + 1)) = catR rs (zs.take k) ++ r.2 := by rw [catR_step hi, romAt_at hr]
      have HS := Lib.hid hst
      have hcl : (Lib.byteCells (catR rs (zs.take k)).data.toList).length = (catR rs (zs.take k)).size := by rw [Lib.byteCells_length]; exact size_listR _
      have WS := Lib.hid (Try.Builder_WriteString Bb Bb _ r.2 wr HB.out (by rw [hcl]; omega) (Nat.le_trans (Nat.le_of_eq HBB.out) HW.out.size))
      have hnext : (catR rs (zs.take (k + 1))).size ≤ (k + 1) * 4 := by rw [hst, ByteArray.size_append]; omega
      have q0 : (0 : Int) ≤ (q : Int) := by omega
      have q1 : (q : Int) < (n : Int) := by omega
      clear hr hi hcl hst k0 hbw
      go_wp2_with fail
      refine WS.out.mono ?_
      rintro e w2 ⟨rfl, hB2, hb2⟩
      have HB2 : Hid (Lib.IsBuilder 65 5 Bb Bb (Lib.byteCells (catR rs (zs.take (k + 1))).data.toList) w2) := Lib.hid (.inr (by
        rw [HS.out, ByteArray.data_append, Array.toList_append, Lib.byteCells_append]; exact hB2))
      have HW2 := Lib.hid (HW.out.trans hb2)
      clear hB2 hb2
      go_wp2
      go_roundw
      case rel => exact ⟨k + 1, by omega, by go_num, HB2, hnext, HW2⟩
      case measure => simp [intOf]; omega
    · have hw : zs.take k = zs := List.take_of_length_le (by have := HL'.out; omega)
      have hBS := Try.Builder_String_any Bb Bb _ wr HB.out (Nat.le_trans (Nat.le_of_eq HBB.out) HW.out.size)
      rw [hw] at hBS
      rw [show (⟨(catR rs zs).data.toList.toArray⟩ : ByteArray) = catR rs zs from rfl] at hBS
      have BS := Lib.hid hBS
      clear hw hBS
      go_wp2_with fail
      refine BS.out.mono ?_
      rintro e w2 ⟨rfl, hb2⟩
      go_wp2_with fail
      go_ret
      exact ⟨rfl, hbw.trans (by rw [← HBB.out]; exact hb2)⟩

/-- What l04Roman gives. -/
def romO (rs : List Ru) (xs : List Int) : Option ByteArray := (usedF (placeK (keys rs)) xs).map (catR rs)
def RomPost (o : Option ByteArray) (w : World) (e : Ending) (w' : World) : Prop := e = .returned (.tuple #[.string (o.getD ByteArray.empty), .bool o.isSome]) ∧ Below w.heap.size w w'

set_option maxHeartbeats 2000000 in
set_option maxRecDepth 100000 in
theorem cRomanS (A : Option Addr) (n c b' o' n' c' : Nat) (rs : List Ru) (xs : List Int) (w : World) (hb : n ≤ 1048576) (hb' : n' ≤ 1048576) (hc : n' ≤ c') (hcm : c' ≤ maxLen) (hr4 : ∀ r ∈ rs, r.2.size ≤ 4) (h : RulesAt w w.heap.size A n rs) (h' : NumAt w w.heap.size (some ⟨b', o', none⟩) n' xs) :
    Calls Try.prog 19 #[.slice A n c, .slice (some ⟨b', o', none⟩) n' c'] w (RomPost (romO rs xs) w) := by
  have CU := Lib.hid (cUsedS A n c b' o' n' c' rs xs w hb hb' hc hcm h h')
  have HL := Lib.hid h.1
  have HL' := Lib.hid h'.1
  have H := Lib.hid h
  have HR4 := Lib.hid hr4
  clear h h' hr4
  unfold romO
  cases hu : usedF (placeK (keys rs)) xs with
  | none =>
    rw [hu] at CU
    have CR3 := Lib.hid (CU.out.mono fun e w' h => h.no)
    clear hu CU
    go_enter Try.func19, Try.ntmps19
    go_wp2_with (go_at_call 31; refine CR3.out.mono ?_; rintro e w1 ⟨rfl, hb1⟩)
    refine wp_loop_rounds 1 ?_
    rw [rounds_succ]
    go_wp2
    go_ret2
    exact ⟨rfl, hb1⟩
  | some l =>
    have hgz := goodZ_used hu
    have HGL := Lib.hid hgz.1
    have HG := Lib.hid hgz.2
    rw [hu] at CU
    have CR3 := Lib.hid (CU.out.mono fun e w' h => h.yes)
    have hl6 : l.length ≤ 1048576 := by have := hgz.1; have := HL'.out; omega
    clear hu CU hgz
    go_enter Try.func19, Try.ntmps19
    go_wp2_with (go_at_call 31; refine CR3.out.mono ?_; rintro e w1 ⟨A1, c1, rfl, hown, hb1⟩)
    have HO := Lib.hid (RowI.of hown)
    have H1 := Lib.hid (H.out.below hb1 (Nat.le_refl _))
    clear hown
    go_loop [8, 9] (fun ou i => ∃ (k : Nat) (t : ByteArray), k ≤ l.length ∧ i = .int .i64 k ∧ ou = .string t ∧ t.size ≤ k * 4 ∧ Hid (t = catR rs (l.take k))) (fun _ i => l.length - (intOf i).toNat)
    case atStart => exact ⟨0, ⟨#[]⟩, Nat.zero_le _, rfl, rfl, Nat.zero_le _, Lib.hid rfl⟩
    case round =>
      obtain ⟨k, t, hk, rfl, rfl, ht, HT⟩ := hrel
      by_cases hlt : k < l.length
      · obtain ⟨i, hi⟩ : ∃ i, l[k]? = some i := ⟨l[k], List.getElem?_eq_getElem _⟩
        obtain ⟨g, rfl, _, hcells⟩ := HO.out.cells (by omega)
        have hci := hcells k i hi
        obtain ⟨q, rfl, hq⟩ := HG.out i (List.mem_of_getElem? hi)
        obtain ⟨r, hr⟩ : ∃ r, rs[q]? = some r := ⟨rs[q], List.getElem?_eq_getElem _⟩
        obtain ⟨b, o, rfl, hbl, A2, n2, c2, k0, k1, _, _, k4⟩ := H1.out.row hr
        have hr3 := HR4.out r (List.mem_of_getElem? hr)
        have HS : Hid (catR rs (l.take (k + 1)) = catR rs (l.take k) ++ r.2) := Lib.hid (by rw [catR_step hi, romAt_at hr])
        have q0 : (0 : Int) ≤ (q : Int) := by omega
        have q1 : (q : Int) < (n : Int) := by have := HL.out; omega
        clear hr hi hcells k0
        go_wp2
        go_round
        case rel => exact ⟨k + 1, _, by omega, by go_num, rfl, by rw [ByteArray.size_append]; omega, Lib.hid (by rw [HS.out, HT.out])⟩
        case measure => simp [intOf]; omega
      · have HW : Hid (t = catR rs l) := Lib.hid (by rw [HT.out, List.take_of_length_le (by omega)])
        go_wp2
        go_ret2
        exact ⟨by rw [HW.out]; rfl, hb1⟩

def romV (rs : List Ru) (xs : List Int) : Value :=
  if okU rs xs then (match romO rs xs with
    | some t => .tuple #[.string t, .int .i64 0]
    | none => .tuple #[.string ByteArray.empty, .int .i64 4]) else .tuple #[.string ByteArray.empty, .int .i64 1]

set_option maxHeartbeats 1000000 in
theorem cRoman_spec (A A' : Option Addr) (n n' c c' : Nat) (rs : List Ru) (xs : List Int) (w : World) (hb : n ≤ 1048576) (hb' : n' ≤ 1048576) (hc : n' ≤ c') (hcm : c' ≤ maxLen) (h : RulesAt w w.heap.size A n rs) (h' : NumAt w w.heap.size A' n' xs) :
    Calls Try.prog 6 #[.slice A n c, .slice A' n' c'] w fun e w' => e = .returned (romV rs xs) ∧ Below w.heap.size w w' := by
  have CC := Lib.hid (cCode A A' n n' c c' rs xs w (by unfold maxLen; omega) hb' h h')
  unfold romV
  cases hok : okU rs xs
  · rw [hok] at CC
    clear h h' hok
    go_enter Try.func6, Try.ntmps6
    go_wp2_with (go_at_call 18; refine CC.out.mono ?_; rintro e w1 ⟨rfl, hb1⟩)
    go_ret2
    exact ⟨rfl, hb1⟩
  · rw [hok] at CC
    have ht : tableB rs = true ∧ signsB 12 xs = true := by unfold okU at hok; rwa [Bool.and_eq_true] at hok
    obtain ⟨b', o', rfl, _, _⟩ := h'.2 (by have := (signs_len ht.2).1; have := h'.1; omega)
    have CU := Lib.hid (fun (W : World) (hW : Below w.heap.size w W) => cRomanS A n c b' o' n' c' rs xs W hb hb' hc hcm (table_rom ht.1) ((h.below hW (Nat.le_refl _)).more hW.size) ((h'.below hW (Nat.le_refl _)).more hW.size))
    clear h h' hok ht
    unfold RomPost at CU
    cases hu : romO rs xs with
    | none =>
      rw [hu] at CU
      clear hu
      go_enter Try.func6, Try.ntmps6
      go_wp2_with (first
        | (go_at_call 18; refine CC.out.mono ?_; rintro e w1 ⟨rfl, hb1⟩)
        | (go_at_call 19; refine (CU.out _ hb1).mono ?_; rintro e w3 ⟨rfl, hb3⟩))
      go_ret2
      exact ⟨rfl, hb1.trans (hb3.mono hb1.size)⟩
    | some t =>
      rw [hu] at CU
      clear hu
      go_enter Try.func6, Try.ntmps6
      go_wp2_with (first
        | (go_at_call 18; refine CC.out.mono ?_; rintro e w1 ⟨rfl, hb1⟩)
        | (go_at_call 19; refine (CU.out _ hb1).mono ?_; rintro e w3 ⟨rfl, hb3⟩))
      go_ret2
      exact ⟨rfl, hb1.trans (hb3.mono hb1.size)⟩

set_option maxHeartbeats 1000000 in
theorem cRoman_impl (A A' : Option Addr) (n n' c c' : Nat) (rs : List Ru) (xs : List Int) (w : World) (hb : n ≤ 1048576) (hb' : n' ≤ 1048576) (hc : n' ≤ c') (hcm : c' ≤ maxLen) (h : RulesAt w w.heap.size A n rs) (h' : NumAt w w.heap.size A' n' xs) :
    Calls Try.prog 9 #[.slice A n c, .slice A' n' c'] w fun e w' => e = .returned (romV rs xs) ∧ Below w.heap.size w w' := by
  have CU := Lib.hid (cUsed_impl A A' n n' c c' rs xs w (by unfold maxLen; omega) hb' hc hcm h h')
  unfold zsU codeU at CU
  unfold romV
  cases hok : okU rs xs
  · rw [hok] at CU
    clear h h' hok
    go_enter Try.func9, Try.ntmps9
    go_wp2_with (go_at_call 21; refine (show Calls Try.prog _ _ _ (UOut [] 1 w) from CU.out).mono ?_; rintro e w1 ⟨A1, n1, c1, rfl, _, hb1⟩)
    go_ret2
    exact ⟨rfl, hb1⟩
  · rw [hok] at CU
    have ht : tableB rs = true ∧ signsB 12 xs = true := by unfold okU at hok; rwa [Bool.and_eq_true] at hok
    have HT := Lib.hid ht.1
    unfold romO
    cases hu : usedF (placeK (keys rs)) xs with
    | none =>
      rw [hu] at CU
      clear h h' hok ht hu
      go_enter Try.func9, Try.ntmps9
      go_wp2_with (go_at_call 21; refine (show Calls Try.prog _ _ _ (UOut [] 4 w) from CU.out).mono ?_; rintro e w1 ⟨A1, n1, c1, rfl, _, hb1⟩)
      go_ret2
      exact ⟨rfl, hb1⟩
    | some l =>
      have hgz := goodZ_used hu
      have HG : Hid (GoodZ n l) := Lib.hid (by rw [h.1]; exact hgz.2)
      have HGL : Hid (l.length ≤ 1048576) := Lib.hid (by have := hgz.1; have := h'.1; omega)
      rw [hu] at CU
      have H := Lib.hid h
      clear h h' hok ht hu hgz
      go_enter Try.func9, Try.ntmps9
      go_wp2_with fail
      refine (show Calls Try.prog _ _ _ (UOut l 0 w) from CU.out).mono ?_
      rintro e w1 ⟨A1, n1, c1, rfl, hown, hb1⟩
      have hrow := RowI.of hown
      have hn1 : n1 = l.length := hrow.len.symm
      have HN : Hid (NumAt w1 w1.heap.size A1 n1 l) := Lib.hid ⟨hn1, fun hp => by
        obtain ⟨g, e1, h1, h2⟩ := hrow.cells hp
        exact ⟨g, 0, e1, h1, fun j x hx => by rw [Nat.zero_add]; exact h2 j x hx⟩⟩
      have CR := Lib.hid (cRomanOf A A1 n n1 c c1 rs l w1 hb (by rw [hn1]; exact HGL.out) (table_rom HT.out) HG.out ((H.out.below hb1 (Nat.le_refl _)).more hb1.size) HN.out)
      clear hown hrow hn1
      go_wp2_with (go_at_call 22; refine CR.out.mono ?_; rintro e w2 ⟨rfl, hb2⟩)
      go_ret2
      exact ⟨rfl, hb1.trans (hb2.mono hb1.size)⟩
end Go.Proofs.Ytnodnjaajaemcab
