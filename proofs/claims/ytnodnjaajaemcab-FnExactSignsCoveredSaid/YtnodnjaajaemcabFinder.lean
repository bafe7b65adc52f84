/-
  The map of a table and the contracts of impl.ruleFinderOf and impl.IsTable.
-/
import Derived.Test.YtnodnjaajaemcabKeys
namespace Go.Proofs.Ytnodnjaajaemcab
set_option linter.unusedVariables false
open Go.RowKit Go.Maps Go.WideMaps

theorem wf_num (k : Nat) (h : k ≤ 9223372036854775807) : (Lit.int .i64 (k : Int)).wf = true := by
  simp [Lit.wf, IntKind.min, IntKind.max, IntKind.bits, IntKind.signed]; omega
theorem zero_int (w : World) : (zeroValue 2).run Try.prog w = .ok (.int .i64 0) w := by kernel_rfl
def numL (n : Int) : DataW Unit := .lit (.int .i64 n)
/-- The map reads as the function f, at all lists of signs that can be keys. -/
def KD (D : DataW Unit) (f : List Int → Option Int) : Prop := IsMap D ∧ ∀ xs, KeyList xs → Maps.has D (keyL xs) = (f xs).isSome ∧ D.atKey (keyL xs) (numL 0) = numL ((f xs).getD 0)
def KDict (w : World) (b n : Nat) (f : List Int → Option Int) : Prop := ∃ D : DataW Unit, w.ownsMap Try.prog 77 (plainElem Try.prog 2) b n D ∧ KD D f
theorem KDict.lt {w : World} {b n : Nat} {f : List Int → Option Int} (h : KDict w b n f) : b < w.heap.size := by obtain ⟨D, h, _⟩ := h; exact h.lt
theorem KDict.kept {w w' : World} {b n : Nat} {f : List Int → Option Int} {row : Option Nat} (h : KDict w b n f) (hg : w.grownBy w' row) (hne : some b ≠ row) : KDict w' b n f := by
  obtain ⟨D, h, hD⟩ := h; exact ⟨D, h.kept hg hne, hD⟩
theorem KDict.below {w w' : World} {b n : Nat} {f : List Int → Option Int} (h : KDict w b n f) (hb : Below w.heap.size w w') : KDict w' b n f :=
  h.kept (row := none) ⟨hb.os, hb.tape, hb.output, hb.size, fun k hk _ => hb.block k hk⟩ (by simp)
theorem KDict.made (w : World) : KDict (w.alloc (.map #[] 0)) w.heap.size 0 (fun _ => none) :=
  ⟨.map [], World.ownsMap_made _ _ _ _, isMap_empty, fun x _ => ⟨by simp [Maps.has], by simp [DataW.atKey]⟩⟩
theorem KDict.look {w : World} {b n : Nat} {f : List Int → Option Int} (h : KDict w b n f) {xs : List Int} (hx : KeyList xs) :
    (Instr.lookup 57 (.map (some b)) (keyV xs) true).run Try.prog w = .ok (.tuple #[.int .i64 ((f xs).getD 0), .bool (f xs).isSome]) w := by
  obtain ⟨D, h, hm, hD⟩ := h
  obtain ⟨v, ps, hrun, hv⟩ := h.look_ok key_law Try.underlying57 (zero_int w) (plainElem_int Try.underlying2 (by decide)) (key_read hx)
  obtain ⟨h1, h2⟩ := hD xs hx
  rw [show (DataW.lit (.int .i64 0) : DataW Unit) = numL 0 from rfl, h2] at hv
  obtain ⟨c, rfl, hc, hwc⟩ := plainElem_int_inv Try.underlying2 hv
  have hc' : (f xs).getD 0 = c := by
    have := congrArg Prod.fst hc
    simpa [numL] using this
  rw [hrun, h1, hc']
theorem isKey_of {xs : List Int} (h : KeyList xs) : WideAt.IsKeyLit (keyL xs) := key_law.key (key_read h)
/-- One key more. -/
def putF (f : List Int → Option Int) (k : List Int) (v : Int) : List Int → Option Int := fun xs => if xs = k then some v else f xs
theorem KD.put {D : DataW Unit} {f : List Int → Option Int} (h : KD D f) {k : List Int} (hk : KeyList k) (v : Int) : KD (D.put (keyL k) (numL v)) (putF f k v) := by
  refine ⟨h.1.put _ _, fun xs hx => ?_⟩
  unfold putF
  by_cases e : xs = k
  · subst e
    rw [if_pos rfl, has_put_same h.1 (isKey_of hx), atKey_put_same h.1 (isKey_of hx)]
    exact ⟨rfl, rfl⟩
  · have hne : keyL xs ≠ keyL k := fun hh => e (keyL_inj hx hk hh)
    rw [if_neg e, has_put_other hne, atKey_put_other hne]
    exact h.2 xs hx
/-- The places of the first k keys. -/
def placeK (ks : List (List Int)) : List Int → Option Int := fun xs => if xs ∈ ks then some (posK ks xs : Int) else none
theorem placeK_nil : placeK [] = fun _ => none := by funext xs; simp [placeK]
theorem placeK_step {ks : List (List Int)} {k : Nat} {x : List Int} (h : ks[k]? = some x) (hn : x ∉ ks.take k) : putF (placeK (ks.take k)) x (k : Int) = placeK (ks.take (k + 1)) := by
  funext xs
  unfold putF placeK
  rw [takeK_snoc h]
  have hk := (List.getElem?_eq_some_iff.1 h).1
  by_cases e : xs = x
  · subst e
    rw [if_pos rfl, if_pos (by simp), posK_at (ks.take k ++ [xs]) k xs (by rw [List.getElem?_append_right (by simp; omega)]; simp [Nat.min_eq_left (Nat.le_of_lt hk)]) (by rw [List.take_append_of_le_length (by simp; omega), List.take_take, Nat.min_self]; exact hn)]
  · rw [if_neg e]
    by_cases hm : xs ∈ ks.take k
    · rw [if_pos hm, if_pos (by simp [hm]), posK_app _ _ _ hm]
    · rw [if_neg hm, if_neg (by rw [List.mem_append, List.mem_singleton]; rintro (h | h); exact hm h; exact e h)]

def finV (ok : Bool) (b : Nat) : Value := if ok then .tuple #[.map (some b), .bool true] else .tuple #[.map none, .bool false]

set_option maxHeartbeats 2000000 in
set_option maxRecDepth 100000 in
theorem cFinder (A : Option Addr) (n c : Nat) (rs : List Ru) (w : World) (hbig : n ≤ maxLen) (h : RulesAt w w.heap.size A n rs) :
    Calls Try.prog 32 #[.slice A n c] w fun e w' => e = .returned (finV (tableB rs) w.heap.size) ∧ (tableB rs = true → KDict w' w.heap.size n (placeK (keys rs))) ∧ Below w.heap.size w w' := by
  unfold maxLen at hbig
  have HL := Lib.hid h.1
  have H := Lib.hid h
  clear h
  by_cases h30 : 30 < n
  · have HX := Lib.hid (table_long (rs := rs) (by have := HL.out; omega))
    go_enter Try.func32, Try.ntmps32
    go_wp2
    go_ret2
    refine ⟨by rw [HX.out]; rfl, fun h => ?_, Below.refl _ _⟩
    rw [HX.out] at h; cases h
  have hmm := @run_makeMap Try.prog
  go_enter Try.func32, Try.ntmps32
  go_wp2
  go_loopw [16] (fun i wr => ∃ k : Nat, k ≤ n ∧ i = .int .i64 k ∧ Hid (goodT (rs.take k) = true) ∧ Hid (KDict wr w.heap.size k (placeK ((keys rs).take k))) ∧ Below w.heap.size w wr) (fun i _ => n - (intOf i).toNat)
  case atStart => exact ⟨0, Nat.zero_le _, rfl, Lib.hid (goodT_zero rs), Lib.hid (by rw [List.take_zero, placeK_nil]; exact KDict.made w), (Below.refl _ _).alloc (Nat.le_refl _) _⟩
  case round =>
    obtain ⟨k, hk, rfl, HA, HD, hbw⟩ := hrel
    by_cases hlt : k < n
    · obtain ⟨q, hq⟩ : ∃ q, rs[k]? = some q := ⟨rs[k]'(by have := HL.out; omega), List.getElem?_eq_getElem _⟩
      obtain ⟨b, o, rfl, hbl, A1, n1, c1, k0, k1, k2, k3, k4⟩ := (H.out.below hbw (Nat.le_refl _)).row hq
      have hws := hbw.size
      have B1 := alloc_below wr (.cells #[.slice A1 n1 c1, .string q.2] 44)
      have P1 := PairAt.new wr (.slice A1 n1 c1) (.string q.2) 44
      have N1 := k2.below B1 hws
      have CI := Lib.hid (cIsRule_impl A1 n1 c1 w.heap.size q _ k3 k4 N1 (Nat.le_trans hws B1.size))
      have HQ := Lib.hid hq
      have HB := Lib.hid (hbw.trans (B1.mono hws))
      cases hr : ruleB q
      · rw [hr] at CI
        have HX := Lib.hid (table_bad (goodT_bad HQ.out hr))
        clear hq k2 k3 k4 hr hbw B1 P1 N1 hws HD
        go_wp2_with (go_at_call 42; refine CI.out.mono ?_; rintro e w1 ⟨rfl, hb1⟩)
        go_ret2
        refine ⟨by rw [HX.out]; rfl, fun h => ?_, HB.out.trans (hb1.mono HB.out.size)⟩
        rw [HX.out] at h; cases h
      · rw [hr] at CI
        have hkl : KeyList q.1 := keyList_of (rule_signs hr) (signs_len (rule_signs hr)).2
        have HK := Lib.hid hkl
        have HN1 := Lib.hid (N1.more (Nat.le_trans hws B1.size))
        have HR := Lib.hid hr
        have HD1 := Lib.hid (HD.out.below B1)
        have hrs : wr.heap.size < (wr.alloc (.cells #[.slice A1 n1 c1, .string q.2] 44)).heap.size := P1.1
        clear k2 k3 k4 hr hbw B1 N1 hws HD hkl
        go_wp2_with fail
        refine CI.out.mono ?_
        rintro e w1 ⟨rfl, hb1⟩
        obtain ⟨l1, a0, a1⟩ := P1.below hb1
        have CK := Lib.hid (cKeyOf A1 n1 c1 q.1 w1 HK.out.1 ((HN1.out.below hb1 (Nat.le_refl _)).more hb1.size))
        have HB1 := Lib.hid (HB.out.trans (hb1.mono HB.out.size))
        have HD2 := Lib.hid (HD1.out.below hb1)
        clear hb1 P1 HN1 HB HD1 CI
        go_wp2_with fail
        refine CK.out.mono ?_
        rintro e w2 ⟨rfl, hb2⟩
        have B3 := alloc_below w2 (.cells #[.int .i64 (kd q.1 0), .int .i64 (kd q.1 1), .int .i64 (kd q.1 2)] 77)
        have HB2 := Lib.hid (HB1.out.trans ((hb2.trans (B3.mono hb2.size)).mono HB1.out.size))
        have HD3 := (HD2.out.below hb2).below B3
        have hl := HD3.look HK.out
        unfold keyV at hl ⊢
        clear hb2 B3 HD2 CK
        by_cases hm : q.1 ∈ (keys rs).take k
        · have hp : placeK ((keys rs).take k) q.1 = some (posK ((keys rs).take k) q.1 : Int) := by unfold placeK; rw [if_pos hm]
          have HX := Lib.hid (table_bad (goodT_twice HQ.out hm))
          rw [hp] at hl
          simp only [Option.getD_some, Option.isSome_some] at hl
          clear hp hq hm HD3
          go_wp2_with fail
          go_ret2
          refine ⟨by rw [HX.out]; rfl, fun h => ?_, HB2.out⟩
          rw [HX.out] at h; cases h
        · have hp : placeK ((keys rs).take k) q.1 = none := by unfold placeK; rw [if_neg hm]
          have HX := Lib.hid (goodT_step HQ.out HA.out HR.out hm)
          rw [hp] at hl
          simp only [Option.getD_none, Option.isSome_none] at hl
          obtain ⟨D, hown, hDD⟩ := HD3
          have HP := Lib.hid (placeK_step (keys_at HQ.out) hm)
          have HDS := Lib.hid (hDD.put HK.out (k : Int))
          have hkey := key_read HK.out
          unfold keyV at hkey
          clear hp hm hDD hq
          go_wp2_with (first
            | (at_mapUpdate; go_loud (refine wpList_mapUpdate_own _ rfl _ _ _ 57 rfl 77 2 key_law Try.underlying57 _ w.heap.size k _ rfl hown (by unfold maxLen; omega) _ _ _ rfl rfl hkey (numL k) [] (plainElem_int Try.underlying2 (by refine wf_num k ?_; omega)) ?_); intro w3 hown3 hgrow3)
            | go_in)
          have R2 := HB2.out.grown hgrow3 HB2.out.size (fun j hj => by cases hj; exact Nat.le_refl _)
          have R1 : Hid (KDict w3 w.heap.size (k + 1) (placeK ((keys rs).take (k + 1)))) := Lib.hid ⟨_, hown3, by rw [← HP.out]; exact HDS.out⟩
          clear hown3 hgrow3 hown hl hkey HDS HP HB2 a0 a1 l1
          go_wp2
          go_roundw
          case rel => exact ⟨k + 1, by omega, by go_num, HX, R1, R2⟩
          case measure => simp [intOf]; omega
    · have hT : tableB rs = true := table_yes (by rw [← goodT_end (k := k) (by have := HL.out; omega)]; exact HA.out) (by have := HL.out; omega)
      have hkn : k = n := by omega
      have hD : KDict wr w.heap.size n (placeK (keys rs)) := by
        have := HD.out
        rwa [List.take_of_length_le (by rw [keys_len]; have := HL.out; omega), hkn] at this
      have HT := Lib.hid hT
      have HDD := Lib.hid hD
      clear hT hD HA HD hkn
      go_wp2
      go_ret2
      exact ⟨by rw [HT.out]; rfl, fun _ => HDD.out, hbw⟩

theorem cIsTable (A : Option Addr) (n c : Nat) (rs : List Ru) (w : World) (hbig : n ≤ maxLen) (h : RulesAt w w.heap.size A n rs) :
    Calls Try.prog 26 #[.slice A n c] w fun e w' => e = .returned (.bool (tableB rs)) ∧ Below w.heap.size w w' := by
  have C := Lib.hid (cFinder A n c rs w hbig h)
  clear h
  cases ha : tableB rs
  · rw [ha] at C
    go_enter Try.func26, Try.ntmps26
    go_wp2_with (go_at_call 32; refine (show Calls Try.prog _ _ _ (fun e w' => e = .returned (.tuple #[.map none, .bool false]) ∧ _ ∧ Below w.heap.size w w') from C.out).mono ?_; rintro e w1 ⟨rfl, _, hb1⟩)
    go_ret
    exact ⟨rfl, hb1⟩
  · rw [ha] at C
    go_enter Try.func26, Try.ntmps26
    go_wp2_with (go_at_call 32; refine (show Calls Try.prog _ _ _ (fun e w' => e = .returned (.tuple #[.map (some w.heap.size), .bool true]) ∧ _ ∧ Below w.heap.size w w') from C.out).mono ?_; rintro e w1 ⟨rfl, _, hb1⟩)
    go_ret
    exact ⟨rfl, hb1⟩
end Go.Proofs.Ytnodnjaajaemcab
