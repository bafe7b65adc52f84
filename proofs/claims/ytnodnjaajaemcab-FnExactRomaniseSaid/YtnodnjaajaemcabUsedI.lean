/-
  The contracts of the map's longestRule and rulesFor, and of impl.RulesUsed.
-/
import Derived.Test.YtnodnjaajaemcabFinder
import Derived.Test.YtnodnjaajaemcabUsedPlain
import Derived.Deep.AppendLies
namespace Go.Proofs.Ytnodnjaajaemcab
set_option linter.unusedVariables false
open Go.RowKit Go.Maps

theorem NumAt.cut {w : World} {B : Nat} {b o n : Nat} {xs : List Int} (h : NumAt w B (some ⟨b, o, none⟩) n xs) (k : Nat) (hk : k ≤ n) : NumAt w B (some ⟨b, o, none⟩) k (xs.take k) := by
  refine ⟨by rw [List.length_take]; have := h.1; omega, fun hp => ?_⟩
  obtain ⟨b', o', e, h1, h2⟩ := h.2 (by omega)
  cases e
  refine ⟨b, o, rfl, h1, fun j x hx => h2 j x ?_⟩
  rw [List.getElem?_take] at hx
  split at hx
  · exact hx
  · cases hx
theorem NumAt.rest {w : World} {B : Nat} {b o n : Nat} {xs : List Int} (h : NumAt w B (some ⟨b, o, none⟩) n xs) (k : Nat) (hk : k ≤ n) : NumAt w B (some ⟨b, o + k, none⟩) (n - k) (xs.drop k) := by
  refine ⟨by rw [List.length_drop]; have := h.1; omega, fun hp => ?_⟩
  obtain ⟨b', o', e, h1, h2⟩ := h.2 (by omega)
  cases e
  refine ⟨b, o + k, rfl, h1, fun j x hx => ?_⟩
  rw [List.getElem?_drop] at hx
  have := h2 _ _ hx
  rwa [← Nat.add_assoc] at this

def longT (f : List Int → Option Int) (xs : List Int) : Value := if longF f xs = 0 then .tuple #[.int .i64 0, .int .i64 0] else .tuple #[.int .i64 (longV f xs), .int .i64 (longF f xs : Int)]
theorem longT_no {f : List Int → Option Int} {xs : List Int} (h : longF f xs = 0) : longT f xs = .tuple #[.int .i64 0, .int .i64 0] := by unfold longT; rw [if_pos h]
theorem longT_yes {f : List Int → Option Int} {xs : List Int} {l : Nat} (h : l = longF f xs) (hl : 0 < l) : longT f xs = .tuple #[.int .i64 ((f (xs.take l)).getD 0), .int .i64 (l : Int)] := by unfold longT longV; rw [if_neg (by omega), h]

set_option maxHeartbeats 1000000 in
set_option maxRecDepth 100000 in
theorem cLongest (mb m : Nat) (f : List Int → Option Int) (A : Option Addr) (n c : Nat) (xs : List Int) (w : World) (hbig : n ≤ maxLen) (hc : n ≤ c) (hcm : c ≤ maxLen) (hx : ∀ x ∈ xs, 0 ≤ x ∧ x ≤ 19) (hD : KDict w mb m f) (h : NumAt w w.heap.size A n xs) :
    Calls Try.prog 45 #[.map (some mb), .slice A n c] w fun e w' => e = .returned (longT f xs) ∧ Below w.heap.size w w' := by
  have HL := Lib.hid h.1
  have H := Lib.hid h
  have HX := Lib.hid hx
  have HD := Lib.hid hD
  unfold maxLen at hbig hcm
  clear h hx hD
  have hm3 : (n : Int) < 3 ∨ (3 : Int) ≤ (n : Int) := by omega
  rcases hm3 with hm3 | hm3
  all_goals
    go_enter Try.func45, Try.ntmps45
    go_wp2
    go_loopw [6] (fun i wr => ∃ l : Nat, l ≤ 3 ∧ l ≤ n ∧ i = .int .i64 l ∧ Hid (longF f xs = longU f xs l) ∧ Below w.heap.size w wr) (fun i _ => (intOf i).toNat)
    case atStart => exact ⟨min 3 n, by omega, by omega, by (congr 1; omega), Lib.hid (by unfold longF; rw [HL.out]), Below.refl _ _⟩
    case round =>
      obtain ⟨l, hl3, hln, rfl, HU, hbw⟩ := hrel
      rcases Nat.eq_zero_or_pos l with rfl | hp
      · have HT := Lib.hid (longT_no (f := f) (xs := xs) HU.out)
        go_wp2
        go_ret2
        exact ⟨by rw [HT.out]; rfl, hbw⟩
      · obtain ⟨b, o, rfl, hb, hcell⟩ := H.out.2 (by omega)
        obtain ⟨l', rfl⟩ : ∃ l', l = l' + 1 := ⟨l - 1, by omega⟩
        have HN := Lib.hid (((H.out.below hbw (Nat.le_refl _)).more hbw.size).cut (l' + 1) hln)
        have hK : KeyList (xs.take (l' + 1)) := keyList_take HX.out hl3
        have HK := Lib.hid hK
        have CK := Lib.hid (cKeyOf (some ⟨b, o, none⟩) (l' + 1) c (xs.take (l' + 1)) wr HK.out.1 HN.out)
        have hle : ((l' + 1 : Nat) : Int) ≤ (c : Int) := by omega
        have hle2 : l' + 1 ≤ c := by omega
        have e0 : (0 : Int) ≤ ((l' + 1 : Nat) : Int) := by omega
        have e1 : (0 : Int) < ((l' + 1 : Nat) : Int) := by omega
        have HB := Lib.hid hbw
        clear hcell hK hbw
        cases hf : f (xs.take (l' + 1)) with
        | some v =>
          have HT := Lib.hid (longT_yes (f := f) (xs := xs) (l := l' + 1) (by rw [HU.out, longU_yes (by rw [hf]; rfl)]) (by omega))
          rw [hf] at HT
          go_wp2_with (go_at_call 43; refine (show Calls Try.prog _ _ _ _ from CK.out).mono ?_; rintro e w1 ⟨rfl, hb1⟩; have hk := (HD.out.below ((HB.out.trans (hb1.mono HB.out.size)))).look HK.out; rw [hf] at hk; simp only [Option.getD_some, Option.isSome_some] at hk; unfold keyV at hk ⊢)
          go_ret2
          exact ⟨by rw [HT.out]; rfl, HB.out.trans (hb1.mono HB.out.size)⟩
        | none =>
          have HU2 : Hid (longF f xs = longU f xs l') := Lib.hid (by rw [HU.out, longU_no (by rw [hf]; rfl)])
          go_wp2_with (go_at_call 43; refine (show Calls Try.prog _ _ _ _ from CK.out).mono ?_; rintro e w1 ⟨rfl, hb1⟩; have hk := (HD.out.below ((HB.out.trans (hb1.mono HB.out.size)))).look HK.out; rw [hf] at hk; simp only [Option.getD_none, Option.isSome_none] at hk; unfold keyV at hk ⊢)
          go_roundw
          case rel => exact ⟨l', by omega, by omega, by go_num, HU2, HB.out.trans (hb1.mono HB.out.size)⟩
          case measure => simp [intOf]

theorem ownsRow_keep {w w' : World} {B s n : Nat} {t : TypeId} {v : Value} {xs : List Value} (h : w.ownsRow B t s v n xs) (hb : Below w.heap.size w w') : w'.ownsRow B t s v n xs := by
  refine World.ownsRow.kept h (bgr hb none) ?_
  cases hC : v.ownBlock with
  | none => exact .inl rfl
  | some x => exact .inr (fun e => by cases e)
def UsedPost (o : Option (List Int)) (w : World) (e : Ending) (w' : World) : Prop :=
  (o = none ∧ e = .returned (.tuple #[.slice none 0 0, .bool false]) ∧ Below w.heap.size w w') ∨
  (∃ l v, o = some l ∧ e = .returned (.tuple #[v, .bool true]) ∧ w'.ownsRow w.heap.size 2 1 v l.length (intV l) ∧ Below w.heap.size w w')

set_option maxHeartbeats 1000000 in
set_option maxRecDepth 100000 in
theorem cRulesFor (mb m : Nat) (f : List Int → Option Int) (A : Option Addr) (n c : Nat) (xs : List Int) (w : World) (hbig : n ≤ 1048576) (hc : n ≤ c) (hcm : c ≤ maxLen) (hx : ∀ x ∈ xs, 0 ≤ x ∧ x ≤ 19) (hD : KDict w mb m f) (h : NumAt w w.heap.size A n xs) :
    Calls Try.prog 34 #[.map (some mb), .slice A n c] w (UsedPost (usedF f xs) w) := by
  obtain ⟨i0, hi0, hz0, hz1, hz2⟩ := info_parts info_i64
  have HL := Lib.hid h.1
  have H := Lib.hid h
  have HX := Lib.hid hx
  have HD := Lib.hid hD
  clear h hx hD
  go_enter Try.func34, Try.ntmps34
  go_wp2
  go_loopw [6, 7] (fun u i wr => ∃ (s k : Nat) (acc : List Int) (uv : Value), u = uv ∧ s ≤ n ∧ i = .int .i64 s ∧ k ≤ s ∧ Hid (k = acc.length) ∧ Hid (Along f xs (xs.drop s) acc) ∧ wr.ownsRow w.heap.size 2 1 uv k (intV acc) ∧ Below w.heap.size w wr) (fun _ i _ => n - (intOf i).toNat)
  case atStart => exact ⟨0, 0, [], _, rfl, Nat.zero_le _, rfl, Nat.le_refl _, Lib.hid rfl, Lib.hid (Along.start f xs), World.ownsRow_nil _ _ _ _, Below.refl _ _⟩
  case round =>
    obtain ⟨s, k, acc, uv, rfl, hs, rfl, hks, HM, HA, hown, hbw⟩ := hrel
    by_cases hlt : s < n
    · obtain ⟨b, o, rfl, hb, _⟩ := H.out.2 (by omega)
      have hne : xs.drop s ≠ [] := by
        intro e
        have h1 := congrArg List.length e
        rw [List.length_drop, List.length_nil] at h1
        have := HL.out
        omega
      have HN := Lib.hid (((H.out.below hbw (Nat.le_refl _)).more hbw.size).rest s (by omega))
      have CL := Lib.hid (cLongest mb m f (some ⟨b, o + s, none⟩) (n - s) (c - s) (xs.drop s) wr (by unfold maxLen; omega) (by omega) (by omega) (fun x hx => HX.out x (List.mem_of_mem_drop hx)) (HD.out.below hbw) HN.out)
      have hle := (longF_le f (xs.drop s)).2
      rw [List.length_drop, ← HL.out] at hle
      rcases Nat.eq_zero_or_pos (longF f (xs.drop s)) with h0 | h0
      · have HF := Lib.hid (HA.out.stop hne h0)
        rw [longT_no h0] at CL
        have HB := Lib.hid hbw
        clear hne h0 hle hbw hown
        go_wp2_with (go_at_call 45; refine CL.out.mono ?_; rintro e w1 ⟨rfl, hb1⟩)
        go_ret2
        exact .inl ⟨HF.out, rfl, HB.out.trans (hb1.mono HB.out.size)⟩
      · have HS := Lib.hid (HA.out.step hne h0)
        obtain ⟨L, hL⟩ : ∃ L, L = longF f (xs.drop s) := ⟨_, rfl⟩
        rw [longT_yes hL (by omega)] at CL
        obtain ⟨V, hV⟩ : ∃ V, V = longV f (xs.drop s) := ⟨_, rfl⟩
        rw [show (f ((xs.drop s).take L)).getD 0 = V from by rw [hV, hL]; rfl] at CL
        rw [← hL, ← hV] at HS
        rw [← hL] at hle h0
        have HB := Lib.hid hbw
        clear hne hL hV hbw
        have d0 : ((L : Int) == 0) = false := by simp; omega
        have d1 : (L == 0) = false := by simp; omega
        go_wp2_with (first
          | (go_at_call 45; refine CL.out.mono ?_; rintro e w1 ⟨rfl, hb1⟩; have hown1 := ownsRow_keep hown hb1)
          | (at_builtin; refine wpList_append_own _ rfl _ _ 23 rfl w.heap.size 2 i0 _ 1 8 Try.underlying23 hi0 hz0 hz1 hz2 rfl (by decide) _ _ _ rfl (hown1.alloc _) ⟨w1.heap.size, 0, none⟩ 1 1 [.int .i64 V] rfl rfl ?c1 ?c2 ?c3 ?c4 ?c5 ?_))
        case c1 => exact one_cell' _ _ _ (new_one w1 _ _)
        case c2 => intro u hu; simp at hu; subst hu; rfl
        case c3 => unfold maxLen; omega
        case c4 => omega
        case c5 => have := HB.out.size; have := hb1.size; simp; omega
        intro v' w2 hown2 hgrow2 _
        rw [intV_snoc] at hown2
        have hB1 := HB.out.trans (hb1.mono HB.out.size)
        have hB2 : Below w.heap.size w w2 := (hB1.alloc hB1.size _).grown hgrow2 (by have := hB1.size; simp; omega) (fun x hx => (hown.lt x hx).1)
        have HD2 : Hid ((xs.drop s).drop L = xs.drop (s + L)) := Lib.hid (by rw [List.drop_drop])
        clear hgrow2 hown hown1 hB1 hb1
        go_wp2
        go_roundw
        case rel => exact ⟨s + L, k + 1, acc ++ [V], v', rfl, by omega, by go_num, by omega, Lib.hid (by rw [List.length_append, HM.out]; rfl), Lib.hid (by rw [← HD2.out]; exact HS.out), hown2, hB2⟩
        case measure => simp [intOf]; omega
    · have HF : Hid (usedF f xs = some acc) := Lib.hid (Along.done (by have := HA.out; rwa [List.drop_of_length_le (by have := HL.out; omega)] at this))
      go_wp2
      go_ret2
      exact .inr ⟨acc, _, HF.out, rfl, by rw [← HM.out]; exact hown, hbw⟩

def okU (rs : List Ru) (xs : List Int) : Bool := tableB rs && signsB 12 xs
def zsU (rs : List Ru) (xs : List Int) : List Int := if okU rs xs then (usedF (placeK (keys rs)) xs).getD [] else []
def codeU (rs : List Ru) (xs : List Int) : Int := if okU rs xs then (if (usedF (placeK (keys rs)) xs).isSome then 0 else 4) else 1
theorem zsU_len (rs : List Ru) (xs : List Int) : (zsU rs xs).length ≤ xs.length := by
  unfold zsU
  split
  · cases hu : usedF (placeK (keys rs)) xs with
    | none => exact Nat.zero_le _
    | some l => exact (usedF_mem (P := fun _ => True) (fun _ _ _ => trivial) _ xs (Nat.le_refl _) l hu).1
  · exact Nat.zero_le _
/-- The row zs and the code come back; the row is new. -/
def UOut (zs : List Int) (code : Int) (w : World) (e : Ending) (w' : World) : Prop :=
  ∃ A n c, e = .returned (.tuple #[.slice A n c, .int .i64 code]) ∧ w'.ownsRow w.heap.size 2 1 (.slice A n c) n (intV zs) ∧ Below w.heap.size w w'
theorem row_slice {w : World} {b n : Nat} {v : Value} {t : TypeId} {s : Nat} {xs : List Value} (h : w.ownsRow b t s v n xs) : ∃ A c, v = .slice A n c := by
  rcases h.2 with ⟨rfl, h0⟩ | ⟨g, cap, cur, rfl, _⟩
  · exact ⟨none, 0, by rw [h0]⟩
  · exact ⟨_, _, rfl⟩
theorem uOut_nil {w w' : World} {code : Int} (h : Below w.heap.size w w') : UOut [] code w (.returned (.tuple #[.slice none 0 0, .int .i64 code])) w' :=
  ⟨none, 0, 0, rfl, World.ownsRow_nil _ _ _ _, h⟩

theorem UsedPost.no {w w' : World} {e : Ending} (h : UsedPost none w e w') : e = .returned (.tuple #[.slice none 0 0, .bool false]) ∧ Below w.heap.size w w' := by
  rcases h with ⟨_, h1, h2⟩ | ⟨l, v, h0, _⟩
  · exact ⟨h1, h2⟩
  · cases h0
theorem UsedPost.yes {l : List Int} {w w' : World} {e : Ending} (h : UsedPost (some l) w e w') : ∃ A c, e = .returned (.tuple #[.slice A l.length c, .bool true]) ∧ w'.ownsRow w.heap.size 2 1 (.slice A l.length c) l.length (intV l) ∧ Below w.heap.size w w' := by
  rcases h with ⟨h0, _⟩ | ⟨l', v, h0, h1, h2, h3⟩
  · cases h0
  · cases h0
    obtain ⟨A, c, rfl⟩ := row_slice h2
    exact ⟨A, c, h1, h2, h3⟩
set_option maxHeartbeats 1000000 in
theorem cUsed_impl (A A' : Option Addr) (n n' c c' : Nat) (rs : List Ru) (xs : List Int) (w : World) (hb : n ≤ maxLen) (hb' : n' ≤ 1048576) (hc : n' ≤ c') (hcm : c' ≤ maxLen) (h : RulesAt w w.heap.size A n rs) (h' : NumAt w w.heap.size A' n' xs) :
    Calls Try.prog 21 #[.slice A n c, .slice A' n' c'] w (UOut (zsU rs xs) (codeU rs xs) w) := by
  have CF := Lib.hid (cFinder A n c rs w hb h)
  have CS := Lib.hid (fun (W : World) (hW : Below w.heap.size w W) => cAreSigns A' n' c' 12 w.heap.size xs W (by unfold maxLen; omega) (by omega) (h'.below hW (Nat.le_refl _)))
  have CR := Lib.hid (fun (W : World) (hx : ∀ x ∈ xs, 0 ≤ x ∧ x ≤ 19) (hW : Below w.heap.size w W) (hD : KDict W w.heap.size n (placeK (keys rs))) => cRulesFor w.heap.size n (placeK (keys rs)) A' n' c' xs W hb' hc hcm hx hD ((h'.below hW (Nat.le_refl _)).more hW.size))
  clear h h'
  cases ht : tableB rs
  · rw [ht] at CF
    have e1 : zsU rs xs = [] := by unfold zsU okU; rw [ht]; rfl
    have e2 : codeU rs xs = 1 := by unfold codeU okU; rw [ht]; rfl
    rw [e1, e2]
    clear ht e1 e2
    go_enter Try.func21, Try.ntmps21
    go_wp2_with (go_at_call 32; refine (show Calls Try.prog _ _ _ (fun e w' => e = .returned (.tuple #[.map none, .bool false]) ∧ _ ∧ Below w.heap.size w w') from CF.out).mono ?_; rintro e w1 ⟨rfl, _, hb1⟩)
    go_ret2
    exact uOut_nil hb1
  cases hs : signsB 12 xs
  · rw [ht] at CF
    rw [hs] at CS
    have e1 : zsU rs xs = [] := by unfold zsU okU; rw [ht, hs]; rfl
    have e2 : codeU rs xs = 1 := by unfold codeU okU; rw [ht, hs]; rfl
    rw [e1, e2]
    clear ht hs e1 e2
    go_enter Try.func21, Try.ntmps21
    go_wp2_with (first
      | (go_at_call 32; refine (show Calls Try.prog _ _ _ (fun e w' => e = .returned (.tuple #[.map (some w.heap.size), .bool true]) ∧ _ ∧ Below w.heap.size w w') from CF.out).mono ?_; rintro e w1 ⟨rfl, _, hb1⟩)
      | (go_at_call 33; refine (CS.out _ hb1).mono ?_; rintro e w2 ⟨rfl, rfl⟩))
    go_ret2
    exact uOut_nil hb1
  · have HX := Lib.hid (signs_all hs)
    rw [hs] at CS
    have HK := Lib.hid ht
    rw [ht] at CF
    have e1 : zsU rs xs = (usedF (placeK (keys rs)) xs).getD [] := by unfold zsU okU; rw [ht, hs]; rfl
    have e2 : codeU rs xs = (if (usedF (placeK (keys rs)) xs).isSome then 0 else 4) := by unfold codeU okU; rw [ht, hs]; rfl
    rw [e1, e2]
    clear ht hs e1 e2
    cases hu : usedF (placeK (keys rs)) xs with
    | none =>
      rw [hu] at CR
      have CR3 := Lib.hid (fun (W : World) (hW : Below w.heap.size w W) (hD : KDict W w.heap.size n (placeK (keys rs))) => (CR.out W HX.out hW hD).mono fun e w' h => h.no)
      clear hu CR
      go_enter Try.func21, Try.ntmps21
      go_wp2_with (first
        | (go_at_call 32; refine (show Calls Try.prog _ _ _ (fun e w' => e = .returned (.tuple #[.map (some w.heap.size), .bool true]) ∧ (true = true → KDict w' w.heap.size n (placeK (keys rs))) ∧ Below w.heap.size w w') from CF.out).mono ?_; rintro e w1 ⟨rfl, hD1, hb1⟩; have hD2 := hD1 rfl; clear hD1)
        | (go_at_call 33; refine (CS.out _ hb1).mono ?_; rintro e w2 ⟨rfl, rfl⟩)
        | (go_at_call 34; refine (CR3.out _ hb1 hD2).mono ?_; rintro e w3 ⟨rfl, hb3⟩))
      go_ret2
      exact uOut_nil (hb1.trans (hb3.mono hb1.size))
    | some l =>
      rw [hu] at CR
      have CR3 := Lib.hid (fun (W : World) (hW : Below w.heap.size w W) (hD : KDict W w.heap.size n (placeK (keys rs))) => (CR.out W HX.out hW hD).mono fun e w' h => h.yes)
      clear hu CR
      go_enter Try.func21, Try.ntmps21
      go_wp2_with (first
        | (go_at_call 32; refine (show Calls Try.prog _ _ _ (fun e w' => e = .returned (.tuple #[.map (some w.heap.size), .bool true]) ∧ (true = true → KDict w' w.heap.size n (placeK (keys rs))) ∧ Below w.heap.size w w') from CF.out).mono ?_; rintro e w1 ⟨rfl, hD1, hb1⟩; have hD2 := hD1 rfl; clear hD1)
        | (go_at_call 33; refine (CS.out _ hb1).mono ?_; rintro e w2 ⟨rfl, rfl⟩)
        | (go_at_call 34; refine (CR3.out _ hb1 hD2).mono ?_; rintro e w3 ⟨A1, c1, rfl, hown, hb3⟩))
      go_ret2
      exact ⟨A1, _, c1, rfl, rowBase hown hb1.size, hb1.trans (hb3.mono hb1.size)⟩
end Go.Proofs.Ytnodnjaajaemcab
