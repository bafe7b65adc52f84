/-
  Proves the card of the law FnNameTexts: at every input its call answers true and every argument reads as before; the package-level variables that its row lists start as the program's text lays them (the given tie).
  The walk is the theorem that it names, in the texts that it imports.
-/
import Derived.Test.YthlilfdndpnbkaaGreatDoorCards
import Derived.Test.YthlilfdndpnbkaaGreatDoorTie
import Derived.WalkKit
import Derived.ProofKit
import Derived.OpenShut
import Derived.ShutString
import Derived.Deep.DeepHandedRow
import Derived.Deep.DeepWitnessRowRef
import Derived.Lib.LaidTab
import Derived.Carry
import Derived.OpenVars
import Derived.LaidSub
import Derived.SliceStrings
import Derived.Test.YthlilfdndpnbkaaGreatDoorLawNT
import Derived.Test.YthlilfdndpnbkaaGreatDoorCodeArg
import Derived.Test.YthlilfdndpnbkaaGreatDoorErr9
import Derived.Test.YthlilfdndpnbkaaGreatDoorLd9
namespace Go.Proofs.YthlilfdndpnbkaaGreatDoor.fnNameTexts
open Go.ChangeShapes Go.WideShapes Go.ChangeAt Go.RowKit
open Go.ChangeMaps (open_string shut_string)
set_option linter.unusedVariables false

theorem own : ownKnob Tryz.prog.godebug = none := by kernel_rfl
theorem laidOut : laidOutB Tryz.prog = true := by kernel_rfl

theorem synMem : ("strconv.ErrSyntax", (Rows.laid_strconv_ErrSyntax : DataW Unit)) ∈ Rows.fnNameTextsRow.laid := by simp [Rows.fnNameTextsRow]
theorem rngMem : ("strconv.ErrRange", (Rows.laid_strconv_ErrRange : DataW Unit)) ∈ Rows.fnNameTextsRow.laid := by simp [Rows.fnNameTextsRow]
theorem mem_errorType : ("errors.errorType", (Rows.laid_errors_errorType : DataW Unit)) ∈ Rows.fnNameTextsRow.laid := by simp [Rows.fnNameTextsRow]
theorem mem_errNoPhrase : ("loop.example/g01030/impl.errNoPhrase", (Rows.laid_loop_example_g01030_impl_errNoPhrase : DataW Unit)) ∈ Rows.fnNameTextsRow.laid := by simp [Rows.fnNameTextsRow]
theorem mem_errNoLanguage : ("loop.example/g01030/impl.errNoLanguage", (Rows.laid_loop_example_g01030_impl_errNoLanguage : DataW Unit)) ∈ Rows.fnNameTextsRow.laid := by simp [Rows.fnNameTextsRow]
theorem mem_errNoStatus : ("loop.example/g01030/impl.errNoStatus", (Rows.laid_loop_example_g01030_impl_errNoStatus : DataW Unit)) ∈ Rows.fnNameTextsRow.laid := by simp [Rows.fnNameTextsRow]
theorem mem_errNoSpan : ("loop.example/g01030/impl.errNoSpan", (Rows.laid_loop_example_g01030_impl_errNoSpan : DataW Unit)) ∈ Rows.fnNameTextsRow.laid := by simp [Rows.fnNameTextsRow]
theorem mem_errNoParts : ("loop.example/g01030/impl.errNoParts", (Rows.laid_loop_example_g01030_impl_errNoParts : DataW Unit)) ∈ Rows.fnNameTextsRow.laid := by simp [Rows.fnNameTextsRow]
theorem vars_len9 {H : Type} {enc : TypeId × Value → H} {W : World} : ∀ {ns : List String} {gs : List (DataW H)} {ps : List MemPlace}, DataW.TrodVars enc Tryz.prog W (fun _ => true) ns gs ps → gs.length = ns.length
  | [], [], _, _ => rfl
  | [], _ :: _, _, h => h.elim
  | _ :: _, [], _, h => h.elim
  | _ :: _, _ :: _, _, h => by
    obtain ⟨_, _, _, _, _, _, _, _, _, _, h2, _⟩ := h
    simp [vars_len9 h2]
theorem powData : (Lib.tabData .u64 Lib.pow10Tab : DataW Unit) = Rows.laid_internal_strconv_uint64pow10 := by kernel_rfl
theorem powMem : ("internal/strconv.uint64pow10", (Lib.tabData .u64 Lib.pow10Tab : DataW Unit)) ∈ Rows.fnNameTextsRow.laid := by
  rw [powData]
  simp [Rows.fnNameTextsRow]
set_option maxRecDepth 100000 in
theorem contract (H : Type) (enc : TypeId × Value → H) (W : World) (base : Nat) (args : Array Value) (ds gs : List (DataW H)) (before : List MemPlace)
    (hval : ∀ (j : Nat) t v, Tryz.f3.params[j]? = some t → args[j]? = some v → Value.okWide Tryz.prog W .any base t v)
    (hW : DataW.Whole enc Tryz.prog Tryz.f3.params.toList Rows.fnNameTextsSpec.vars false W args.toList ds gs before) (hL : laidMetH Tryz.prog Rows.fnNameTextsRow.laid W) (hsh : W.ShapedOpen Tryz.prog) :
    Calls Tryz.prog 3 args W fun e W' => ∃ v, e = .returned v ∧ Rows.fnNameTextsSpec.post enc Tryz.prog Tryz.f3 false true false false W args v W' := by
  have hW' := hW
  obtain ⟨p, q, hA0, hV, rfl, hfz, hnd⟩ := hW
  have hA : DataW.TrodAll enc Tryz.prog W 0 (fun _ => true) true Tryz.f3.params.toList args.toList ds p := hA0
  rw [Tryz.params3] at hA hval
  obtain ⟨v0, vs0, d0, ds0, p0, q0, hargs, rfl, rfl, h0, r0⟩ := trodAll_cons hA
  obtain ⟨rfl, rfl, rfl⟩ := trodAll_nil r0
  obtain rfl : args = #[v0] := by cases args; simp_all
  have hlen := vars_len9 hV
  obtain ⟨g1, g2, g3, g4, g5, rfl⟩ : ∃ g1 g2 g3 g4 g5, gs = [g1, g2, g3, g4, g5] := by
    match gs, hlen with
    | [g1, g2, g3, g4, g5], _ => exact ⟨g1, g2, g3, g4, g5, rfl⟩
  clear hlen
  have k0 := h0
  have lt0 : ∀ x ∈ p0, x.block < W.heap.size := by obtain ⟨m, hm⟩ := k0; exact DataW.trod_lt m _ _ _ hm
  obtain ⟨a0, len0, cap0, rfl⟩ := okWide_slice Tryz.underlying22 (hval 0 22 v0 rfl rfl)
  obtain ⟨z0, w0⟩ : ∃ zs, IsInts .u8 W a0 len0 cap0 zs := by
    obtain ⟨fuel, hf⟩ := h0
    rcases open_ints Tryz.underlying22 Tryz.underlying5 (by kernel_rfl) hf with ⟨hcs, _⟩ | ⟨x, l, c, zs, hcs, _, hl, hm, hz, _, hcell, hwz⟩
    · simp [Value.cells] at hcs
      obtain ⟨rfl, rfl, rfl⟩ := hcs
      exact ⟨[], .inl ⟨rfl, rfl, rfl, rfl⟩⟩
    · simp [Value.cells] at hcs
      obtain ⟨rfl, rfl, rfl⟩ := hcs
      exact ⟨zs, .inr ⟨_, rfl, hl, hm, by simpa using hz, hcell, hwz⟩⟩
  clear hA0
  have he4 : Er4 W := ⟨laid_ev hL mem_errNoPhrase (by kernel_rfl) (by kernel_rfl), laid_ev hL mem_errNoLanguage (by kernel_rfl) (by kernel_rfl), laid_ev hL mem_errNoStatus (by kernel_rfl) (by kernel_rfl), laid_ev hL mem_errNoSpan (by kernel_rfl) (by kernel_rfl)⟩
  have he5 : Er5 W := ⟨he4, laid_ev hL mem_errNoParts (by kernel_rfl) (by kernel_rfl), laid_et hL mem_errorType⟩
  refine (wNameTexts a0 len0 cap0 W (codeIn w0).1 (codeIn w0).2 (laidOf9 (laid := Rows.fnNameTextsRow.laid) hL powMem synMem rngMem) hsh he5).mono fun e W' ⟨he, bel⟩ => ?_
  subst he
  exact ⟨_, rfl, _, _, _, [], _, _, hW', trodAll_mk1 (shut_bool Tryz.underlying4 _), (trodAll_cons_mk (Below.trod laidOut (by kernel_rfl) (of_decide_eq_true (by kernel_rfl)) k0 bel lt0) trodAll_mk0), Below.trodVars laidOut bel (by kernel_rfl) hV, bel.frame _, fun h => by cases h⟩

/-- A world for the witness: the settled one, the listed variables holding what the text lays. -/
noncomputable def laidHeap (N : Nat) (h : Array Obj) : Array Obj :=
  (((((((((((((h.modify 16 fun
      | .cells _ t frozen => .cells ((Go.Pinned.utf8FirstZ.map fun (n : Nat) => Value.int .u8 (n : Int)).toArray) t frozen
      | o => o).modify 17 fun
      | .cells _ t frozen => .cells (#[.int .u8 128, .int .u8 191, .int .u8 160, .int .u8 191, .int .u8 128, .int .u8 159, .int .u8 144, .int .u8 191, .int .u8 128, .int .u8 143, .int .u8 0, .int .u8 0, .int .u8 0, .int .u8 0, .int .u8 0, .int .u8 0, .int .u8 0, .int .u8 0, .int .u8 0, .int .u8 0, .int .u8 0, .int .u8 0, .int .u8 0, .int .u8 0, .int .u8 0, .int .u8 0, .int .u8 0, .int .u8 0, .int .u8 0, .int .u8 0, .int .u8 0, .int .u8 0]) t frozen
      | o => o).modify 12 fun
      | .cells _ t frozen => .cells (#[.int .u8 0, .int .u8 1, .int .u8 28, .int .u8 2, .int .u8 29, .int .u8 14, .int .u8 24, .int .u8 3, .int .u8 30, .int .u8 22, .int .u8 20, .int .u8 15, .int .u8 25, .int .u8 17, .int .u8 4, .int .u8 8, .int .u8 31, .int .u8 27, .int .u8 13, .int .u8 23, .int .u8 21, .int .u8 19, .int .u8 16, .int .u8 7, .int .u8 26, .int .u8 12, .int .u8 18, .int .u8 6, .int .u8 11, .int .u8 5, .int .u8 10, .int .u8 9]) t frozen
      | o => o).modify 13 fun
      | .cells _ t frozen => .cells (#[.int .u8 0, .int .u8 1, .int .u8 56, .int .u8 2, .int .u8 57, .int .u8 49, .int .u8 28, .int .u8 3, .int .u8 61, .int .u8 58, .int .u8 42, .int .u8 50, .int .u8 38, .int .u8 29, .int .u8 17, .int .u8 4, .int .u8 62, .int .u8 47, .int .u8 59, .int .u8 36, .int .u8 45, .int .u8 43, .int .u8 51, .int .u8 22, .int .u8 53, .int .u8 39, .int .u8 33, .int .u8 30, .int .u8 24, .int .u8 18, .int .u8 12, .int .u8 5, .int .u8 63, .int .u8 55, .int .u8 48, .int .u8 27, .int .u8 60, .int .u8 41, .int .u8 37, .int .u8 16, .int .u8 46, .int .u8 35, .int .u8 44, .int .u8 21, .int .u8 52, .int .u8 32, .int .u8 23, .int .u8 11, .int .u8 54, .int .u8 26, .int .u8 40, .int .u8 15, .int .u8 34, .int .u8 20, .int .u8 31, .int .u8 10, .int .u8 25, .int .u8 14, .int .u8 19, .int .u8 9, .int .u8 13, .int .u8 8, .int .u8 7, .int .u8 6]) t frozen
      | o => o).modify 10 fun
      | .cells _ t frozen => .cells (#[.int .u64 1, .int .u64 10, .int .u64 100, .int .u64 1000, .int .u64 10000, .int .u64 100000, .int .u64 1000000, .int .u64 10000000, .int .u64 100000000, .int .u64 1000000000, .int .u64 10000000000, .int .u64 100000000000, .int .u64 1000000000000, .int .u64 10000000000000, .int .u64 100000000000000, .int .u64 1000000000000000, .int .u64 10000000000000000, .int .u64 100000000000000000, .int .u64 1000000000000000000, .int .u64 10000000000000000000]) t frozen
      | o => o).modify 9 fun
      | .cells _ t frozen => .cells (#[.iface 205 (.agg #[.pointer (some ⟨18, 82, none⟩)])]) t frozen
      | o => o).modify 15 fun
      | .cells _ t frozen => .cells (#[.iface 257 (.pointer (some ⟨N + 0, 0, none⟩))]) t frozen
      | o => o).modify 14 fun
      | .cells _ t frozen => .cells (#[.iface 257 (.pointer (some ⟨N + 1, 0, none⟩))]) t frozen
      | o => o).modify 1 fun
      | .cells _ t frozen => .cells (#[.iface 257 (.pointer (some ⟨N + 2, 0, none⟩))]) t frozen
      | o => o).modify 2 fun
      | .cells _ t frozen => .cells (#[.iface 257 (.pointer (some ⟨N + 3, 0, none⟩))]) t frozen
      | o => o).modify 3 fun
      | .cells _ t frozen => .cells (#[.iface 257 (.pointer (some ⟨N + 4, 0, none⟩))]) t frozen
      | o => o).modify 4 fun
      | .cells _ t frozen => .cells (#[.iface 257 (.pointer (some ⟨N + 5, 0, none⟩))]) t frozen
      | o => o).modify 0 fun
      | .cells _ t frozen => .cells (#[.iface 257 (.pointer (some ⟨N + 6, 0, none⟩))]) t frozen
      | o => o)
noncomputable def laidWorld (os : Os) : World :=
  { World.holding Tryz.prog os ⟨#[.cells #[.string ⟨#[118, 97, 108, 117, 101, 32, 111, 117, 116, 32, 111, 102, 32, 114, 97, 110, 103, 101]⟩] 259, .cells #[.string ⟨#[105, 110, 118, 97, 108, 105, 100, 32, 115, 121, 110, 116, 97, 120]⟩] 259, .cells #[.string ⟨#[116, 104, 101, 32, 116, 101, 120, 116, 32, 105, 115, 32, 110, 111, 32, 112, 104, 114, 97, 115, 101]⟩] 259, .cells #[.string ⟨#[116, 104, 101, 32, 108, 97, 110, 103, 117, 97, 103, 101, 32, 105, 115, 32, 110, 111, 110, 101]⟩] 259, .cells #[.string ⟨#[116, 104, 101, 32, 115, 116, 97, 116, 117, 115, 32, 105, 115, 32, 110, 111, 110, 101]⟩] 259, .cells #[.string ⟨#[116, 104, 101, 32, 121, 101, 97, 114, 115, 32, 97, 114, 101, 32, 110, 111, 32, 118, 97, 108, 105, 100, 32, 115, 112, 97, 110]⟩] 259, .cells #[.string ⟨#[116, 104, 101, 32, 112, 97, 114, 116, 115, 32, 111, 102, 32, 116, 104, 101, 32, 116, 101, 120, 116, 32, 97, 114, 101, 32, 110, 111, 116, 32, 116, 104, 111, 115, 101, 32, 111, 102, 32, 97, 32, 110, 97, 109, 101]⟩] 259], #[], []⟩ with heap := laidHeap (World.settled Tryz.prog os).heap.size (World.holding Tryz.prog os ⟨#[.cells #[.string ⟨#[118, 97, 108, 117, 101, 32, 111, 117, 116, 32, 111, 102, 32, 114, 97, 110, 103, 101]⟩] 259, .cells #[.string ⟨#[105, 110, 118, 97, 108, 105, 100, 32, 115, 121, 110, 116, 97, 120]⟩] 259, .cells #[.string ⟨#[116, 104, 101, 32, 116, 101, 120, 116, 32, 105, 115, 32, 110, 111, 32, 112, 104, 114, 97, 115, 101]⟩] 259, .cells #[.string ⟨#[116, 104, 101, 32, 108, 97, 110, 103, 117, 97, 103, 101, 32, 105, 115, 32, 110, 111, 110, 101]⟩] 259, .cells #[.string ⟨#[116, 104, 101, 32, 115, 116, 97, 116, 117, 115, 32, 105, 115, 32, 110, 111, 110, 101]⟩] 259, .cells #[.string ⟨#[116, 104, 101, 32, 121, 101, 97, 114, 115, 32, 97, 114, 101, 32, 110, 111, 32, 118, 97, 108, 105, 100, 32, 115, 112, 97, 110]⟩] 259, .cells #[.string ⟨#[116, 104, 101, 32, 112, 97, 114, 116, 115, 32, 111, 102, 32, 116, 104, 101, 32, 116, 101, 120, 116, 32, 97, 114, 101, 32, 110, 111, 116, 32, 116, 104, 111, 115, 101, 32, 111, 102, 32, 97, 32, 110, 97, 109, 101]⟩] 259], #[], []⟩).heap }
theorem laid_met (os : Os) : laidMetH Tryz.prog Rows.fnNameTextsRow.laid ((laidWorld os).forCall (fun _ _ => 0) ⟨#[], #[.slice none 0 0], []⟩).memory :=
  laidMetH_of_parts (laidMet_of_run' 8 (by kernel_rfl) (by kernel_rfl)) (by kernel_rfl)
theorem reads (os : Os) {H : Type} (enc : TypeId × Value → H) : (DataW.whole enc Tryz.prog ((laidWorld os).forCall (fun _ _ => 0) ⟨#[], #[.slice none 0 0], []⟩).memory Tryz.f3.params.toList Rows.fnNameTextsSpec.vars false (#[.slice none 0 0] : Array Value).toList 8).isSome = true := by kernel_rfl

set_option maxRecDepth 100000 in
theorem lifted (os : Os) (started : os.Started) (H : Type) (enc : TypeId × Value → H) (F : Stop.Interp) :
    ReturnsInHanded {} Tryz.checked os 3 .any ((OpenSpec.ofChange Rows.fnNameTextsSpec).preRow enc Tryz.prog Tryz.f3 Rows.fnNameTextsRow.domain false Rows.fnNameTextsRow.laid) (((OpenSpec.ofChange Rows.fnNameTextsSpec).at F).post enc Tryz.prog Tryz.f3 false true false false) := by
  obtain ⟨x, hx⟩ := Option.isSome_iff_exists.1 (reads os enc)
  refine returnsInHanded_of_row (C := Tryz.checked) (s := OpenSpec.ofChange Rows.fnNameTextsSpec) own started (by kernel_rfl) Tryz.func3
    (witness_row_atRef (enc := enc) (C := Tryz.checked) false (laidWorld os) #[.slice none 0 0] rfl (by kernel_rfl) (by kernel_rfl) (by kernel_rfl)
      (OpenSpec.preRow_of_cond 8 hx (by kernel_rfl) (fun k hk => by cases hk) (by kernel_rfl) (laid_met os))) ?_
  intro W base args ds gs before hval hW _ _ _ hL hsh _
  exact contract H enc W base args ds gs before hval hW hL hsh

theorem said : Rows.FnNameTextsSaid :=
  OpenClaim.holds_of_cond 3 Tryz.f3 rfl rfl rfl rfl rfl rfl rfl ⟨rfl, rfl, rfl, rfl, rfl⟩ rfl rfl rfl rfl rfl (by kernel_rfl) Tryz.func3 (by kernel_rfl)
    (of_decide_eq_true (by kernel_rfl)) (by unfold Func.isWrapper; first | (rw [if_pos (by decide +kernel)]; kernel_rfl) | (rw [if_neg (by decide +kernel)]; exact ⟨rfl, rfl⟩))
    (fun os started H enc _ F => by rw [OpenClaim.pre_eq_preRow]; exact lifted os started H enc F)

theorem plain (f : FuncId) (fn : Func) (hf : Tryz.pinned.checked.prog.funcNamed "loop.example/g01030/laws.FnNameTexts" = some f) (hfn : Tryz.pinned.checked.prog.funcs[f]? = some fn) :
    true = Tryz.pinned.checked.prog.looks [] ∧ ∀ (j : Nat) t, fn.params[j]? = some t → Tryz.pinned.checked.prog.wantsStandIn t = false := by
  obtain rfl : f = 3 := Option.some.inj ((show Tryz.prog.funcNamed "loop.example/g01030/laws.FnNameTexts" = some 3 by kernel_rfl).symm.trans hf) |>.symm
  obtain rfl : fn = Tryz.f3 := (Option.some.inj (Tryz.func3.symm.trans hfn)).symm
  refine ⟨by kernel_rfl, fun j t ht => ?_⟩
  rw [Tryz.params3] at ht
  obtain rfl : t = 22 := by have := Array.mem_of_getElem? ht; simpa using this
  exact (show Tryz.prog.wantsStandIn 22 = false by kernel_rfl)

/-- The card. -/
theorem card : Rows.FnNameTextsCardSaid :=
  Claim7.holds_tied_plain_at .later [] _ _ _ _ said (fun _ h => by cases h) (by kernel_rfl) (fun _ h => by cases h) fnNameTexts_row_tie rfl ⟨rfl, rfl⟩ (by kernel_rfl) rfl plain (by kernel_rfl)
#print axioms card
end Go.Proofs.YthlilfdndpnbkaaGreatDoor.fnNameTexts
