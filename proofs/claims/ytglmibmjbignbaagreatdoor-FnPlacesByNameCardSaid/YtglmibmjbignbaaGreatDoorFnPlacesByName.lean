/-
  Proves the card of the law FnPlacesByName: at every input its call answers true and every argument reads as before; the package-level variables that its row lists start as the program's text lays them (the given tie).
  The walk is the theorem that it names, in the texts that it imports.
-/
import Derived.Test.YtglmibmjbignbaaGreatDoorCards
import Derived.Test.YtglmibmjbignbaaGreatDoorTie
import Derived.WalkKit
import Derived.ProofKit
import Derived.OpenShut
import Derived.ShutString
import Derived.Deep.DeepHandedRow
import Derived.Deep.DeepWitnessRowRef
import Derived.Lib.LaidTab
import Derived.Carry
import Derived.OpenVars
import Derived.LaidSub
import Derived.SliceStrings
import Derived.Test.YtglmibmjbignbaaGreatDoorLawPBN
import Derived.Test.YtglmibmjbignbaaGreatDoorCodeArg
import Derived.Test.YtglmibmjbignbaaGreatDoorErr9
namespace Go.Proofs.YtglmibmjbignbaaGreatDoor.fnPlacesByName
open Go.ChangeShapes Go.WideShapes Go.ChangeAt Go.RowKit
open Go.ChangeMaps (open_string shut_string)
set_option linter.unusedVariables false

theorem own : ownKnob Tryz.prog.godebug = none := by kernel_rfl
theorem laidOut : laidOutB Tryz.prog = true := by kernel_rfl

theorem mem_errorType : ("errors.errorType", (Rows.laid_errors_errorType : DataW Unit)) ∈ Rows.fnPlacesByNameRow.laid := by simp [Rows.fnPlacesByNameRow]
theorem mem_errNoPhrase : ("loop.example/g01030/impl.errNoPhrase", (Rows.laid_loop_example_g01030_impl_errNoPhrase : DataW Unit)) ∈ Rows.fnPlacesByNameRow.laid := by simp [Rows.fnPlacesByNameRow]
theorem mem_errNoLanguage : ("loop.example/g01030/impl.errNoLanguage", (Rows.laid_loop_example_g01030_impl_errNoLanguage : DataW Unit)) ∈ Rows.fnPlacesByNameRow.laid := by simp [Rows.fnPlacesByNameRow]
theorem mem_errNoStatus : ("loop.example/g01030/impl.errNoStatus", (Rows.laid_loop_example_g01030_impl_errNoStatus : DataW Unit)) ∈ Rows.fnPlacesByNameRow.laid := by simp [Rows.fnPlacesByNameRow]
theorem mem_errNoSpan : ("loop.example/g01030/impl.errNoSpan", (Rows.laid_loop_example_g01030_impl_errNoSpan : DataW Unit)) ∈ Rows.fnPlacesByNameRow.laid := by simp [Rows.fnPlacesByNameRow]
theorem mem_errNoYear : ("loop.example/g01030/impl.errNoYear", (Rows.laid_loop_example_g01030_impl_errNoYear : DataW Unit)) ∈ Rows.fnPlacesByNameRow.laid := by simp [Rows.fnPlacesByNameRow]
theorem mem_errNoName : ("loop.example/g01030/impl.errNoName", (Rows.laid_loop_example_g01030_impl_errNoName : DataW Unit)) ∈ Rows.fnPlacesByNameRow.laid := by simp [Rows.fnPlacesByNameRow]
theorem mem_errNamesMeet : ("loop.example/g01030/impl.errNamesMeet", (Rows.laid_loop_example_g01030_impl_errNamesMeet : DataW Unit)) ∈ Rows.fnPlacesByNameRow.laid := by simp [Rows.fnPlacesByNameRow]
theorem mem_errManyNames : ("loop.example/g01030/impl.errManyNames", (Rows.laid_loop_example_g01030_impl_errManyNames : DataW Unit)) ∈ Rows.fnPlacesByNameRow.laid := by simp [Rows.fnPlacesByNameRow]
theorem vars_len9 {H : Type} {enc : TypeId × Value → H} {W : World} : ∀ {ns : List String} {gs : List (DataW H)} {ps : List MemPlace}, DataW.TrodVars enc Tryz.prog W (fun _ => true) ns gs ps → gs.length = ns.length
  | [], [], _, _ => rfl
  | [], _ :: _, _, h => h.elim
  | _ :: _, [], _, h => h.elim
  | _ :: _, _ :: _, _, h => by
    obtain ⟨_, _, _, _, _, _, _, _, _, _, h2, _⟩ := h
    simp [vars_len9 h2]
set_option maxRecDepth 100000 in
theorem contract (H : Type) (enc : TypeId × Value → H) (W : World) (base : Nat) (args : Array Value) (ds gs : List (DataW H)) (before : List MemPlace)
    (hval : ∀ (j : Nat) t v, Tryz.f4.params[j]? = some t → args[j]? = some v → Value.okWide Tryz.prog W .any base t v)
    (hW : DataW.Whole enc Tryz.prog Tryz.f4.params.toList Rows.fnPlacesByNameSpec.vars false W args.toList ds gs before) (hL : laidMetH Tryz.prog Rows.fnPlacesByNameRow.laid W) (hsh : W.ShapedOpen Tryz.prog) :
    Calls Tryz.prog 4 args W fun e W' => ∃ v, e = .returned v ∧ Rows.fnPlacesByNameSpec.post enc Tryz.prog Tryz.f4 false true false false W args v W' := by
  have hW' := hW
  obtain ⟨p, q, hA0, hV, rfl, hfz, hnd⟩ := hW
  have hA : DataW.TrodAll enc Tryz.prog W 0 (fun _ => true) true Tryz.f4.params.toList args.toList ds p := hA0
  rw [Tryz.params4] at hA hval
  obtain ⟨v0, vs0, d0, ds0, p0, q0, hargs, rfl, rfl, h0, r0⟩ := trodAll_cons hA
  obtain ⟨rfl, rfl, rfl⟩ := trodAll_nil r0
  obtain rfl : args = #[v0] := by cases args; simp_all
  have hlen := vars_len9 hV
  obtain ⟨g1, g2, g3, g4, g5, g6, g7, g8, rfl⟩ : ∃ g1 g2 g3 g4 g5 g6 g7 g8, gs = [g1, g2, g3, g4, g5, g6, g7, g8] := by
    match gs, hlen with
    | [g1, g2, g3, g4, g5, g6, g7, g8], _ => exact ⟨g1, g2, g3, g4, g5, g6, g7, g8, rfl⟩
  clear hlen
  have k0 := h0
  have lt0 : ∀ x ∈ p0, x.block < W.heap.size := by obtain ⟨m, hm⟩ := k0; exact DataW.trod_lt m _ _ _ hm
  obtain ⟨a0, len0, cap0, rfl⟩ := okWide_slice Tryz.underlying22 (hval 0 22 v0 rfl rfl)
  obtain ⟨z0, w0⟩ : ∃ zs, IsInts .u8 W a0 len0 cap0 zs := by
    obtain ⟨fuel, hf⟩ := h0
    rcases open_ints Tryz.underlying22 Tryz.underlying5 (by kernel_rfl) hf with ⟨hcs, _⟩ | ⟨x, l, c, zs, hcs, _, hl, hm, hz, _, hcell, hwz⟩
    · simp [Value.cells] at hcs
      obtain ⟨rfl, rfl, rfl⟩ := hcs
      exact ⟨[], .inl ⟨rfl, rfl, rfl, rfl⟩⟩
    · simp [Value.cells] at hcs
      obtain ⟨rfl, rfl, rfl⟩ := hcs
      exact ⟨zs, .inr ⟨_, rfl, hl, hm, by simpa using hz, hcell, hwz⟩⟩
  clear hA0
  have he4 : Er4 W := ⟨laid_ev hL mem_errNoPhrase (by kernel_rfl) (by kernel_rfl), laid_ev hL mem_errNoLanguage (by kernel_rfl) (by kernel_rfl), laid_ev hL mem_errNoStatus (by kernel_rfl) (by kernel_rfl), laid_ev hL mem_errNoSpan (by kernel_rfl) (by kernel_rfl)⟩
  have he6 : Er6 W := ⟨he4, laid_ev hL mem_errManyNames (by kernel_rfl) (by kernel_rfl), laid_ev hL mem_errNamesMeet (by kernel_rfl) (by kernel_rfl)⟩
  have he7 : Er7 W := ⟨he6, laid_ev hL mem_errNoYear (by kernel_rfl) (by kernel_rfl), laid_et hL mem_errorType⟩
  have he8 : Er8 W := ⟨he7, laid_ev hL mem_errNoName (by kernel_rfl) (by kernel_rfl)⟩
  refine (wPBN a0 len0 cap0 W (codeIn w0).1 (codeIn w0).2 hsh he8).mono fun e W' ⟨he, bel⟩ => ?_
  subst he
  exact ⟨_, rfl, _, _, _, [], _, _, hW', trodAll_mk1 (shut_bool Tryz.underlying4 _), (trodAll_cons_mk (Below.trod laidOut (by kernel_rfl) (of_decide_eq_true (by kernel_rfl)) k0 bel lt0) trodAll_mk0), Below.trodVars laidOut bel (by kernel_rfl) hV, bel.frame _, fun h => by cases h⟩

/-- A world for the witness: the settled one, the listed variables holding what the text lays. -/
noncomputable def laidHeap (N : Nat) (h : Array Obj) : Array Obj :=
  (((((((((((h.modify 10 fun
      | .cells _ t frozen => .cells ((Go.Pinned.utf8FirstZ.map fun (n : Nat) => Value.int .u8 (n : Int)).toArray) t frozen
      | o => o).modify 11 fun
      | .cells _ t frozen => .cells (#[.int .u8 128, .int .u8 191, .int .u8 160, .int .u8 191, .int .u8 128, .int .u8 159, .int .u8 144, .int .u8 191, .int .u8 128, .int .u8 143, .int .u8 0, .int .u8 0, .int .u8 0, .int .u8 0, .int .u8 0, .int .u8 0, .int .u8 0, .int .u8 0, .int .u8 0, .int .u8 0, .int .u8 0, .int .u8 0, .int .u8 0, .int .u8 0, .int .u8 0, .int .u8 0, .int .u8 0, .int .u8 0, .int .u8 0, .int .u8 0, .int .u8 0, .int .u8 0]) t frozen
      | o => o).modify 5 fun
      | .cells _ t frozen => .cells (#[.iface 239 (.agg #[.pointer (some ⟨12, 181, none⟩)])]) t frozen
      | o => o).modify 6 fun
      | .cells _ t frozen => .cells (#[.iface 257 (.pointer (some ⟨N + 0, 0, none⟩))]) t frozen
      | o => o).modify 3 fun
      | .cells _ t frozen => .cells (#[.iface 257 (.pointer (some ⟨N + 1, 0, none⟩))]) t frozen
      | o => o).modify 7 fun
      | .cells _ t frozen => .cells (#[.iface 257 (.pointer (some ⟨N + 2, 0, none⟩))]) t frozen
      | o => o).modify 8 fun
      | .cells _ t frozen => .cells (#[.iface 257 (.pointer (some ⟨N + 3, 0, none⟩))]) t frozen
      | o => o).modify 4 fun
      | .cells _ t frozen => .cells (#[.iface 257 (.pointer (some ⟨N + 4, 0, none⟩))]) t frozen
      | o => o).modify 0 fun
      | .cells _ t frozen => .cells (#[.iface 257 (.pointer (some ⟨N + 5, 0, none⟩))]) t frozen
      | o => o).modify 2 fun
      | .cells _ t frozen => .cells (#[.iface 257 (.pointer (some ⟨N + 6, 0, none⟩))]) t frozen
      | o => o).modify 1 fun
      | .cells _ t frozen => .cells (#[.iface 257 (.pointer (some ⟨N + 7, 0, none⟩))]) t frozen
      | o => o)
noncomputable def laidWorld (os : Os) : World :=
  { World.holding Tryz.prog os ⟨#[.cells #[.string ⟨#[116, 104, 101, 32, 116, 101, 120, 116, 32, 105, 115, 32, 110, 111, 32, 112, 104, 114, 97, 115, 101]⟩] 278, .cells #[.string ⟨#[116, 104, 101, 32, 108, 97, 110, 103, 117, 97, 103, 101, 32, 105, 115, 32, 110, 111, 110, 101]⟩] 278, .cells #[.string ⟨#[116, 104, 101, 32, 115, 116, 97, 116, 117, 115, 32, 105, 115, 32, 110, 111, 110, 101]⟩] 278, .cells #[.string ⟨#[116, 104, 101, 32, 121, 101, 97, 114, 115, 32, 97, 114, 101, 32, 110, 111, 32, 118, 97, 108, 105, 100, 32, 115, 112, 97, 110]⟩] 278, .cells #[.string ⟨#[116, 104, 101, 32, 121, 101, 97, 114, 32, 105, 115, 32, 98, 101, 102, 111, 114, 101, 32, 116, 104, 101, 32, 102, 105, 114, 115, 116, 32, 111, 114, 32, 97, 102, 116, 101, 114, 32, 116, 104, 101, 32, 108, 97, 115, 116, 32, 111, 110, 101]⟩] 278, .cells #[.string ⟨#[116, 104, 101, 114, 101, 32, 105, 115, 32, 110, 111, 32, 115, 117, 99, 104, 32, 110, 97, 109, 101]⟩] 278, .cells #[.string ⟨#[116, 119, 111, 32, 111, 102, 102, 105, 99, 105, 97, 108, 32, 110, 97, 109, 101, 115, 32, 119, 105, 116, 104, 32, 111, 110, 101, 32, 108, 97, 110, 103, 117, 97, 103, 101, 32, 109, 101, 101, 116]⟩] 278, .cells #[.string ⟨#[116, 104, 101, 114, 101, 32, 97, 114, 101, 32, 116, 111, 111, 32, 109, 97, 110, 121, 32, 110, 97, 109, 101, 115]⟩] 278], #[], []⟩ with heap := laidHeap (World.settled Tryz.prog os).heap.size (World.holding Tryz.prog os ⟨#[.cells #[.string ⟨#[116, 104, 101, 32, 116, 101, 120, 116, 32, 105, 115, 32, 110, 111, 32, 112, 104, 114, 97, 115, 101]⟩] 278, .cells #[.string ⟨#[116, 104, 101, 32, 108, 97, 110, 103, 117, 97, 103, 101, 32, 105, 115, 32, 110, 111, 110, 101]⟩] 278, .cells #[.string ⟨#[116, 104, 101, 32, 115, 116, 97, 116, 117, 115, 32, 105, 115, 32, 110, 111, 110, 101]⟩] 278, .cells #[.string ⟨#[116, 104, 101, 32, 121, 101, 97, 114, 115, 32, 97, 114, 101, 32, 110, 111, 32, 118, 97, 108, 105, 100, 32, 115, 112, 97, 110]⟩] 278, .cells #[.string ⟨#[116, 104, 101, 32, 121, 101, 97, 114, 32, 105, 115, 32, 98, 101, 102, 111, 114, 101, 32, 116, 104, 101, 32, 102, 105, 114, 115, 116, 32, 111, 114, 32, 97, 102, 116, 101, 114, 32, 116, 104, 101, 32, 108, 97, 115, 116, 32, 111, 110, 101]⟩] 278, .cells #[.string ⟨#[116, 104, 101, 114, 101, 32, 105, 115, 32, 110, 111, 32, 115, 117, 99, 104, 32, 110, 97, 109, 101]⟩] 278, .cells #[.string ⟨#[116, 119, 111, 32, 111, 102, 102, 105, 99, 105, 97, 108, 32, 110, 97, 109, 101, 115, 32, 119, 105, 116, 104, 32, 111, 110, 101, 32, 108, 97, 110, 103, 117, 97, 103, 101, 32, 109, 101, 101, 116]⟩] 278, .cells #[.string ⟨#[116, 104, 101, 114, 101, 32, 97, 114, 101, 32, 116, 111, 111, 32, 109, 97, 110, 121, 32, 110, 97, 109, 101, 115]⟩] 278], #[], []⟩).heap }
theorem laid_met (os : Os) : laidMetH Tryz.prog Rows.fnPlacesByNameRow.laid ((laidWorld os).forCall (fun _ _ => 0) ⟨#[], #[.slice none 0 0], []⟩).memory :=
  laidMetH_of_parts (laidMet_of_run' 8 (by kernel_rfl) (by kernel_rfl)) (by kernel_rfl)
theorem reads (os : Os) {H : Type} (enc : TypeId × Value → H) : (DataW.whole enc Tryz.prog ((laidWorld os).forCall (fun _ _ => 0) ⟨#[], #[.slice none 0 0], []⟩).memory Tryz.f4.params.toList Rows.fnPlacesByNameSpec.vars false (#[.slice none 0 0] : Array Value).toList 8).isSome = true := by kernel_rfl

set_option maxRecDepth 100000 in
theorem lifted (os : Os) (started : os.Started) (H : Type) (enc : TypeId × Value → H) (F : Stop.Interp) :
    ReturnsInHanded {} Tryz.checked os 4 .any ((OpenSpec.ofChange Rows.fnPlacesByNameSpec).preRow enc Tryz.prog Tryz.f4 Rows.fnPlacesByNameRow.domain false Rows.fnPlacesByNameRow.laid) (((OpenSpec.ofChange Rows.fnPlacesByNameSpec).at F).post enc Tryz.prog Tryz.f4 false true false false) := by
  obtain ⟨x, hx⟩ := Option.isSome_iff_exists.1 (reads os enc)
  refine returnsInHanded_of_row (C := Tryz.checked) (s := OpenSpec.ofChange Rows.fnPlacesByNameSpec) own started (by kernel_rfl) Tryz.func4
    (witness_row_atRef (enc := enc) (C := Tryz.checked) false (laidWorld os) #[.slice none 0 0] rfl (by kernel_rfl) (by kernel_rfl) (by kernel_rfl)
      (OpenSpec.preRow_of_cond 8 hx (by kernel_rfl) (fun k hk => by cases hk) (by kernel_rfl) (laid_met os))) ?_
  intro W base args ds gs before hval hW _ _ _ hL hsh _
  exact contract H enc W base args ds gs before hval hW hL hsh

theorem said : Rows.FnPlacesByNameSaid :=
  OpenClaim.holds_of_cond 4 Tryz.f4 rfl rfl rfl rfl rfl rfl rfl ⟨rfl, rfl, rfl, rfl, rfl⟩ rfl rfl rfl rfl rfl (by kernel_rfl) Tryz.func4 (by kernel_rfl)
    (of_decide_eq_true (by kernel_rfl)) (by unfold Func.isWrapper; first | (rw [if_pos (by decide +kernel)]; kernel_rfl) | (rw [if_neg (by decide +kernel)]; exact ⟨rfl, rfl⟩))
    (fun os started H enc _ F => by rw [OpenClaim.pre_eq_preRow]; exact lifted os started H enc F)

theorem plain (f : FuncId) (fn : Func) (hf : Tryz.pinned.checked.prog.funcNamed "loop.example/g01030/laws.FnPlacesByName" = some f) (hfn : Tryz.pinned.checked.prog.funcs[f]? = some fn) :
    true = Tryz.pinned.checked.prog.looks [] ∧ ∀ (j : Nat) t, fn.params[j]? = some t → Tryz.pinned.checked.prog.wantsStandIn t = false := by
  obtain rfl : f = 4 := Option.some.inj ((show Tryz.prog.funcNamed "loop.example/g01030/laws.FnPlacesByName" = some 4 by kernel_rfl).symm.trans hf) |>.symm
  obtain rfl : fn = Tryz.f4 := (Option.some.inj (Tryz.func4.symm.trans hfn)).symm
  refine ⟨by kernel_rfl, fun j t ht => ?_⟩
  rw [Tryz.params4] at ht
  obtain rfl : t = 22 := by have := Array.mem_of_getElem? ht; simpa using this
  exact (show Tryz.prog.wantsStandIn 22 = false by kernel_rfl)

/-- The card. -/
theorem card : Rows.FnPlacesByNameCardSaid :=
  Claim7.holds_tied_plain_at .later [] _ _ _ _ said (fun _ h => by cases h) (by kernel_rfl) (fun _ h => by cases h) fnPlacesByName_row_tie rfl ⟨rfl, rfl⟩ (by kernel_rfl) rfl plain (by kernel_rfl)
#print axioms card
end Go.Proofs.YtglmibmjbignbaaGreatDoor.fnPlacesByName
