/-
  No cell of these rows narrows 'for every input' (looked for: loops, veiled, ifaces, maps, wideKeys, modest, calm, conditions, laid).
  DERIVED. THE GIVEN ROWS OF THIS SEAT. 11 by the template 'for every input the law returns true; each argument reads behind the call as it read before'; 0 by the template 'total and deterministic' (their statements: YtlncmnheaifdmaaTotals.lean).
  GIVEN WITH THE SEED: the statements are not yours to turn. If you find one false, say at which input.
  Laid BY PROGRAM, IN A SANDBOX (cutbox-rows.mjs): the forced cells as the released guide's own fill.sh prints them over the translation db2a9fffec6c0ccd… (all of the seat's roots in one cut). By AI agents, Wed Nov 11 2026. No macro, syntax, notation, axiom, sorry.
-/
import Derived.Test.YtlncmnheaifdmaaChecked
import GoSem.Claim
import GoSem.ClaimJoined
import GoSem.ClaimMapViews
import Derived.JoinedTies
import Derived.KernelRfl
namespace Go.Proofs.Ytlncmnheaifdmaa
/- THE CELL 'sum', in the pinned program and in every row, IS THE sha256 OF THE DUMP (.gsa) THAT YtlncmnheaifdmaaProg.lean LOADS. Nothing in Lean hashes anything: it is a label: what it is worth is what the hold of that sum in a sandbox is worth. -/
noncomputable def Try.pinned : Pinned := { name := "ytlncmnheaifdmaa", sum := "db2a9fffec6c0ccd006e1636fa560ce562d26e5ca7a983f60ee7464d27494d8b", checked := Try.checked }
namespace Rows
def none {H : Type} : Left H := { results := [], args := [] }

/-- 'laws.FnDistances': WHATEVER THE INPUT: true; the input reads as it did. -/
def fnDistancesSpec : ChangeSpec := { name := "fnDistances", fn := fun _ => fun
  | [d] => { results := [.lit (.bool true)], args := [d] }
  | _ => none }
def fnDistancesRow : OpenClaim := { program := "ytlncmnheaifdmaa", sum := "db2a9fffec6c0ccd006e1636fa560ce562d26e5ca7a983f60ee7464d27494d8b", func := "loop.example/g01030/laws.FnDistances", spec := "fnDistances", apart := false }
def FnDistancesSaid : Prop := fnDistancesRow.holds Try.pinned (OpenSpec.ofChange fnDistancesSpec)

/-- ITS FALSE NEIGHBOUR: 'it returns false'. Refute it at one input. -/
def fnDistancesWrong : ChangeSpec := { name := "fnDistances", fn := fun _ => fun
  | [d] => { results := [.lit (.bool false)], args := [d] }
  | _ => none }
def FnDistancesWrongFalsely : Prop := fnDistancesRow.holds Try.pinned (OpenSpec.ofChange fnDistancesWrong)

/-- 'laws.FnYears': WHATEVER THE INPUT: true; the input reads as it did. -/
def fnYearsSpec : ChangeSpec := { name := "fnYears", fn := fun _ => fun
  | [d] => { results := [.lit (.bool true)], args := [d] }
  | _ => none }
def fnYearsRow : OpenClaim := { program := "ytlncmnheaifdmaa", sum := "db2a9fffec6c0ccd006e1636fa560ce562d26e5ca7a983f60ee7464d27494d8b", func := "loop.example/g01030/laws.FnYears", spec := "fnYears", unfollowed := true, recurses := true, apart := false }
def FnYearsSaid : Prop := fnYearsRow.holds Try.pinned (OpenSpec.ofChange fnYearsSpec)

/-- ITS FALSE NEIGHBOUR: 'it returns false'. Refute it at one input. -/
def fnYearsWrong : ChangeSpec := { name := "fnYears", fn := fun _ => fun
  | [d] => { results := [.lit (.bool false)], args := [d] }
  | _ => none }
def FnYearsWrongFalsely : Prop := fnYearsRow.holds Try.pinned (OpenSpec.ofChange fnYearsWrong)

/-- 'laws.FnYearCounts': WHATEVER THE INPUT: true; the input reads as it did. -/
def fnYearCountsSpec : ChangeSpec := { name := "fnYearCounts", fn := fun _ => fun
  | [d] => { results := [.lit (.bool true)], args := [d] }
  | _ => none }
def fnYearCountsRow : OpenClaim := { program := "ytlncmnheaifdmaa", sum := "db2a9fffec6c0ccd006e1636fa560ce562d26e5ca7a983f60ee7464d27494d8b", func := "loop.example/g01030/laws.FnYearCounts", spec := "fnYearCounts", unfollowed := true, recurses := true, apart := false }
def FnYearCountsSaid : Prop := fnYearCountsRow.holds Try.pinned (OpenSpec.ofChange fnYearCountsSpec)

/-- ITS FALSE NEIGHBOUR: 'it returns false'. Refute it at one input. -/
def fnYearCountsWrong : ChangeSpec := { name := "fnYearCounts", fn := fun _ => fun
  | [d] => { results := [.lit (.bool false)], args := [d] }
  | _ => none }
def FnYearCountsWrongFalsely : Prop := fnYearCountsRow.holds Try.pinned (OpenSpec.ofChange fnYearCountsWrong)

/-- 'laws.FnExactIsSpan': WHATEVER THE INPUT: true; the input reads as it did. -/
def fnExactIsSpanSpec : ChangeSpec := { name := "fnExactIsSpan", fn := fun _ => fun
  | [d] => { results := [.lit (.bool true)], args := [d] }
  | _ => none }
def fnExactIsSpanRow : OpenClaim := { program := "ytlncmnheaifdmaa", sum := "db2a9fffec6c0ccd006e1636fa560ce562d26e5ca7a983f60ee7464d27494d8b", func := "loop.example/g01030/laws.FnExactIsSpan", spec := "fnExactIsSpan", apart := false }
def FnExactIsSpanSaid : Prop := fnExactIsSpanRow.holds Try.pinned (OpenSpec.ofChange fnExactIsSpanSpec)

/-- ITS FALSE NEIGHBOUR: 'it returns false'. Refute it at one input. -/
def fnExactIsSpanWrong : ChangeSpec := { name := "fnExactIsSpan", fn := fun _ => fun
  | [d] => { results := [.lit (.bool false)], args := [d] }
  | _ => none }
def FnExactIsSpanWrongFalsely : Prop := fnExactIsSpanRow.holds Try.pinned (OpenSpec.ofChange fnExactIsSpanWrong)

/-- 'laws.FnExactAreYears': WHATEVER THE INPUT: true; the input reads as it did. -/
def fnExactAreYearsSpec : ChangeSpec := { name := "fnExactAreYears", fn := fun _ => fun
  | [d] => { results := [.lit (.bool true)], args := [d] }
  | _ => none }
def fnExactAreYearsRow : OpenClaim := { program := "ytlncmnheaifdmaa", sum := "db2a9fffec6c0ccd006e1636fa560ce562d26e5ca7a983f60ee7464d27494d8b", func := "loop.example/g01030/laws.FnExactAreYears", spec := "fnExactAreYears", apart := false }
def FnExactAreYearsSaid : Prop := fnExactAreYearsRow.holds Try.pinned (OpenSpec.ofChange fnExactAreYearsSpec)

/-- ITS FALSE NEIGHBOUR: 'it returns false'. Refute it at one input. -/
def fnExactAreYearsWrong : ChangeSpec := { name := "fnExactAreYears", fn := fun _ => fun
  | [d] => { results := [.lit (.bool false)], args := [d] }
  | _ => none }
def FnExactAreYearsWrongFalsely : Prop := fnExactAreYearsRow.holds Try.pinned (OpenSpec.ofChange fnExactAreYearsWrong)

/-- 'laws.FnExactDoMeet': WHATEVER THE INPUT: true; the input reads as it did. -/
def fnExactDoMeetSpec : ChangeSpec := { name := "fnExactDoMeet", fn := fun _ => fun
  | [d1, d2] => { results := [.lit (.bool true)], args := [d1, d2] }
  | _ => none }
def fnExactDoMeetRow : OpenClaim := { program := "ytlncmnheaifdmaa", sum := "db2a9fffec6c0ccd006e1636fa560ce562d26e5ca7a983f60ee7464d27494d8b", func := "loop.example/g01030/laws.FnExactDoMeet", spec := "fnExactDoMeet", apart := false }
def FnExactDoMeetSaid : Prop := fnExactDoMeetRow.holds Try.pinned (OpenSpec.ofChange fnExactDoMeetSpec)

/-- ITS FALSE NEIGHBOUR: 'it returns false'. Refute it at one input. -/
def fnExactDoMeetWrong : ChangeSpec := { name := "fnExactDoMeet", fn := fun _ => fun
  | [d1, d2] => { results := [.lit (.bool false)], args := [d1, d2] }
  | _ => none }
def FnExactDoMeetWrongFalsely : Prop := fnExactDoMeetRow.holds Try.pinned (OpenSpec.ofChange fnExactDoMeetWrong)

/-- 'laws.FnExactMeetOf': WHATEVER THE INPUT: true; the input reads as it did. -/
def fnExactMeetOfSpec : ChangeSpec := { name := "fnExactMeetOf", fn := fun _ => fun
  | [d1, d2] => { results := [.lit (.bool true)], args := [d1, d2] }
  | _ => none }
def fnExactMeetOfRow : OpenClaim := { program := "ytlncmnheaifdmaa", sum := "db2a9fffec6c0ccd006e1636fa560ce562d26e5ca7a983f60ee7464d27494d8b", func := "loop.example/g01030/laws.FnExactMeetOf", spec := "fnExactMeetOf", apart := false }
def FnExactMeetOfSaid : Prop := fnExactMeetOfRow.holds Try.pinned (OpenSpec.ofChange fnExactMeetOfSpec)

/-- ITS FALSE NEIGHBOUR: 'it returns false'. Refute it at one input. -/
def fnExactMeetOfWrong : ChangeSpec := { name := "fnExactMeetOf", fn := fun _ => fun
  | [d1, d2] => { results := [.lit (.bool false)], args := [d1, d2] }
  | _ => none }
def FnExactMeetOfWrongFalsely : Prop := fnExactMeetOfRow.holds Try.pinned (OpenSpec.ofChange fnExactMeetOfWrong)

/-- 'laws.FnExactUnionOf': WHATEVER THE INPUT: true; the input reads as it did. -/
def fnExactUnionOfSpec : ChangeSpec := { name := "fnExactUnionOf", fn := fun _ => fun
  | [d1, d2] => { results := [.lit (.bool true)], args := [d1, d2] }
  | _ => none }
def fnExactUnionOfRow : OpenClaim := { program := "ytlncmnheaifdmaa", sum := "db2a9fffec6c0ccd006e1636fa560ce562d26e5ca7a983f60ee7464d27494d8b", func := "loop.example/g01030/laws.FnExactUnionOf", spec := "fnExactUnionOf", unfollowed := true, recurses := true, apart := false }
def FnExactUnionOfSaid : Prop := fnExactUnionOfRow.holds Try.pinned (OpenSpec.ofChange fnExactUnionOfSpec)

/-- ITS FALSE NEIGHBOUR: 'it returns false'. Refute it at one input. -/
def fnExactUnionOfWrong : ChangeSpec := { name := "fnExactUnionOf", fn := fun _ => fun
  | [d1, d2] => { results := [.lit (.bool false)], args := [d1, d2] }
  | _ => none }
def FnExactUnionOfWrongFalsely : Prop := fnExactUnionOfRow.holds Try.pinned (OpenSpec.ofChange fnExactUnionOfWrong)

/-- 'laws.FnExactWithoutYears': WHATEVER THE INPUT: true; the input reads as it did. -/
def fnExactWithoutYearsSpec : ChangeSpec := { name := "fnExactWithoutYears", fn := fun _ => fun
  | [d1, d2] => { results := [.lit (.bool true)], args := [d1, d2] }
  | _ => none }
def fnExactWithoutYearsRow : OpenClaim := { program := "ytlncmnheaifdmaa", sum := "db2a9fffec6c0ccd006e1636fa560ce562d26e5ca7a983f60ee7464d27494d8b", func := "loop.example/g01030/laws.FnExactWithoutYears", spec := "fnExactWithoutYears", apart := false }
def FnExactWithoutYearsSaid : Prop := fnExactWithoutYearsRow.holds Try.pinned (OpenSpec.ofChange fnExactWithoutYearsSpec)

/-- ITS FALSE NEIGHBOUR: 'it returns false'. Refute it at one input. -/
def fnExactWithoutYearsWrong : ChangeSpec := { name := "fnExactWithoutYears", fn := fun _ => fun
  | [d1, d2] => { results := [.lit (.bool false)], args := [d1, d2] }
  | _ => none }
def FnExactWithoutYearsWrongFalsely : Prop := fnExactWithoutYearsRow.holds Try.pinned (OpenSpec.ofChange fnExactWithoutYearsWrong)

/-- 'laws.FnExactHasYear': WHATEVER THE INPUT: true; the input reads as it did. -/
def fnExactHasYearSpec : ChangeSpec := { name := "fnExactHasYear", fn := fun _ => fun
  | [d1, d2] => { results := [.lit (.bool true)], args := [d1, d2] }
  | _ => none }
def fnExactHasYearRow : OpenClaim := { program := "ytlncmnheaifdmaa", sum := "db2a9fffec6c0ccd006e1636fa560ce562d26e5ca7a983f60ee7464d27494d8b", func := "loop.example/g01030/laws.FnExactHasYear", spec := "fnExactHasYear", apart := false }
def FnExactHasYearSaid : Prop := fnExactHasYearRow.holds Try.pinned (OpenSpec.ofChange fnExactHasYearSpec)

/-- ITS FALSE NEIGHBOUR: 'it returns false'. Refute it at one input. -/
def fnExactHasYearWrong : ChangeSpec := { name := "fnExactHasYear", fn := fun _ => fun
  | [d1, d2] => { results := [.lit (.bool false)], args := [d1, d2] }
  | _ => none }
def FnExactHasYearWrongFalsely : Prop := fnExactHasYearRow.holds Try.pinned (OpenSpec.ofChange fnExactHasYearWrong)

/-- 'laws.FnExactCountYears': WHATEVER THE INPUT: true; the input reads as it did. -/
def fnExactCountYearsSpec : ChangeSpec := { name := "fnExactCountYears", fn := fun _ => fun
  | [d] => { results := [.lit (.bool true)], args := [d] }
  | _ => none }
def fnExactCountYearsRow : OpenClaim := { program := "ytlncmnheaifdmaa", sum := "db2a9fffec6c0ccd006e1636fa560ce562d26e5ca7a983f60ee7464d27494d8b", func := "loop.example/g01030/laws.FnExactCountYears", spec := "fnExactCountYears", apart := false }
def FnExactCountYearsSaid : Prop := fnExactCountYearsRow.holds Try.pinned (OpenSpec.ofChange fnExactCountYearsSpec)

/-- ITS FALSE NEIGHBOUR: 'it returns false'. Refute it at one input. -/
def fnExactCountYearsWrong : ChangeSpec := { name := "fnExactCountYears", fn := fun _ => fun
  | [d] => { results := [.lit (.bool false)], args := [d] }
  | _ => none }
def FnExactCountYearsWrongFalsely : Prop := fnExactCountYearsRow.holds Try.pinned (OpenSpec.ofChange fnExactCountYearsWrong)

/- THE SECOND FORM. 'bulk': how many values and letters a reading holds, each counted each time it is reached (what is shared counts as often as it is met; a slice's spare places count too). A statement '..UptoSaid' is the law's where the arguments, and the package variables that the reading takes, are together of bulk at most 1048576: NARROWER than '..Said'. Prove '..Said' where nothing that the law and all that it calls make is longer than what came in: it says more and counts as full. Else prove '..UptoSaid'. A law counts once. -/
mutual
def uptoBulk {H : Type} : DataW H → Nat
  | .lit (.string bytes) => bytes.length + 1
  | .lit _ => 1
  | .nil => 1
  | .ptr d => uptoBulk d + 1
  | .slice elems spare => uptoBulkAll elems + uptoBulkAll spare + 1
  | .agg parts => uptoBulkAll parts + 1
  | .iface _ d => uptoBulk d + 1
  | .map entries => uptoBulkEntries entries + 1
  | .held _ => 1
def uptoBulkAll {H : Type} : List (DataW H) → Nat
  | [] => 0
  | d :: r => uptoBulk d + uptoBulkAll r
def uptoBulkEntries {H : Type} : List (Lit × DataW H) → Nat
  | [] => 0
  | x :: r => uptoBulkEntry x + uptoBulkEntries r
def uptoBulkEntry {H : Type} : Lit × DataW H → Nat
  | (.string bytes, d) => bytes.length + uptoBulk d + 1
  | (_, d) => uptoBulk d + 1
 end
def uptoSmall : (H : Type) → List (DataW H) → Bool := fun _ ds => decide (uptoBulkAll ds ≤ 1048576)
def OpenSpec.upto (s : _root_.Go.ChangeSpec) : _root_.Go.OpenSpec := { _root_.Go.OpenSpec.ofChange s with cond := some uptoSmall }

/-- 'laws.FnDistances', WHERE WHAT IT READS IS OF BULK AT MOST 1048576: true; the input reads as it did. -/
def fnDistancesUptoRow : OpenClaim := { program := "ytlncmnheaifdmaa", sum := "db2a9fffec6c0ccd006e1636fa560ce562d26e5ca7a983f60ee7464d27494d8b", func := "loop.example/g01030/laws.FnDistances", spec := "fnDistances", apart := false, narrowed := true }
def FnDistancesUptoSaid : Prop := fnDistancesUptoRow.holds Try.pinned (OpenSpec.upto fnDistancesSpec)

/-- 'laws.FnYears', WHERE WHAT IT READS IS OF BULK AT MOST 1048576: true; the input reads as it did. -/
def fnYearsUptoRow : OpenClaim := { program := "ytlncmnheaifdmaa", sum := "db2a9fffec6c0ccd006e1636fa560ce562d26e5ca7a983f60ee7464d27494d8b", func := "loop.example/g01030/laws.FnYears", spec := "fnYears", unfollowed := true, recurses := true, apart := false, narrowed := true }
def FnYearsUptoSaid : Prop := fnYearsUptoRow.holds Try.pinned (OpenSpec.upto fnYearsSpec)

/-- 'laws.FnYearCounts', WHERE WHAT IT READS IS OF BULK AT MOST 1048576: true; the input reads as it did. -/
def fnYearCountsUptoRow : OpenClaim := { program := "ytlncmnheaifdmaa", sum := "db2a9fffec6c0ccd006e1636fa560ce562d26e5ca7a983f60ee7464d27494d8b", func := "loop.example/g01030/laws.FnYearCounts", spec := "fnYearCounts", unfollowed := true, recurses := true, apart := false, narrowed := true }
def FnYearCountsUptoSaid : Prop := fnYearCountsUptoRow.holds Try.pinned (OpenSpec.upto fnYearCountsSpec)

/-- 'laws.FnExactIsSpan', WHERE WHAT IT READS IS OF BULK AT MOST 1048576: true; the input reads as it did. -/
def fnExactIsSpanUptoRow : OpenClaim := { program := "ytlncmnheaifdmaa", sum := "db2a9fffec6c0ccd006e1636fa560ce562d26e5ca7a983f60ee7464d27494d8b", func := "loop.example/g01030/laws.FnExactIsSpan", spec := "fnExactIsSpan", apart := false, narrowed := true }
def FnExactIsSpanUptoSaid : Prop := fnExactIsSpanUptoRow.holds Try.pinned (OpenSpec.upto fnExactIsSpanSpec)

/-- 'laws.FnExactAreYears', WHERE WHAT IT READS IS OF BULK AT MOST 1048576: true; the input reads as it did. -/
def fnExactAreYearsUptoRow : OpenClaim := { program := "ytlncmnheaifdmaa", sum := "db2a9fffec6c0ccd006e1636fa560ce562d26e5ca7a983f60ee7464d27494d8b", func := "loop.example/g01030/laws.FnExactAreYears", spec := "fnExactAreYears", apart := false, narrowed := true }
def FnExactAreYearsUptoSaid : Prop := fnExactAreYearsUptoRow.holds Try.pinned (OpenSpec.upto fnExactAreYearsSpec)

/-- 'laws.FnExactDoMeet', WHERE WHAT IT READS IS OF BULK AT MOST 1048576: true; the input reads as it did. -/
def fnExactDoMeetUptoRow : OpenClaim := { program := "ytlncmnheaifdmaa", sum := "db2a9fffec6c0ccd006e1636fa560ce562d26e5ca7a983f60ee7464d27494d8b", func := "loop.example/g01030/laws.FnExactDoMeet", spec := "fnExactDoMeet", apart := false, narrowed := true }
def FnExactDoMeetUptoSaid : Prop := fnExactDoMeetUptoRow.holds Try.pinned (OpenSpec.upto fnExactDoMeetSpec)

/-- 'laws.FnExactMeetOf', WHERE WHAT IT READS IS OF BULK AT MOST 1048576: true; the input reads as it did. -/
def fnExactMeetOfUptoRow : OpenClaim := { program := "ytlncmnheaifdmaa", sum := "db2a9fffec6c0ccd006e1636fa560ce562d26e5ca7a983f60ee7464d27494d8b", func := "loop.example/g01030/laws.FnExactMeetOf", spec := "fnExactMeetOf", apart := false, narrowed := true }
def FnExactMeetOfUptoSaid : Prop := fnExactMeetOfUptoRow.holds Try.pinned (OpenSpec.upto fnExactMeetOfSpec)

/-- 'laws.FnExactUnionOf', WHERE WHAT IT READS IS OF BULK AT MOST 1048576: true; the input reads as it did. -/
def fnExactUnionOfUptoRow : OpenClaim := { program := "ytlncmnheaifdmaa", sum := "db2a9fffec6c0ccd006e1636fa560ce562d26e5ca7a983f60ee7464d27494d8b", func := "loop.example/g01030/laws.FnExactUnionOf", spec := "fnExactUnionOf", unfollowed := true, recurses := true, apart := false, narrowed := true }
def FnExactUnionOfUptoSaid : Prop := fnExactUnionOfUptoRow.holds Try.pinned (OpenSpec.upto fnExactUnionOfSpec)

/-- 'laws.FnExactWithoutYears', WHERE WHAT IT READS IS OF BULK AT MOST 1048576: true; the input reads as it did. -/
def fnExactWithoutYearsUptoRow : OpenClaim := { program := "ytlncmnheaifdmaa", sum := "db2a9fffec6c0ccd006e1636fa560ce562d26e5ca7a983f60ee7464d27494d8b", func := "loop.example/g01030/laws.FnExactWithoutYears", spec := "fnExactWithoutYears", apart := false, narrowed := true }
def FnExactWithoutYearsUptoSaid : Prop := fnExactWithoutYearsUptoRow.holds Try.pinned (OpenSpec.upto fnExactWithoutYearsSpec)

/-- 'laws.FnExactHasYear', WHERE WHAT IT READS IS OF BULK AT MOST 1048576: true; the input reads as it did. -/
def fnExactHasYearUptoRow : OpenClaim := { program := "ytlncmnheaifdmaa", sum := "db2a9fffec6c0ccd006e1636fa560ce562d26e5ca7a983f60ee7464d27494d8b", func := "loop.example/g01030/laws.FnExactHasYear", spec := "fnExactHasYear", apart := false, narrowed := true }
def FnExactHasYearUptoSaid : Prop := fnExactHasYearUptoRow.holds Try.pinned (OpenSpec.upto fnExactHasYearSpec)

/-- 'laws.FnExactCountYears', WHERE WHAT IT READS IS OF BULK AT MOST 1048576: true; the input reads as it did. -/
def fnExactCountYearsUptoRow : OpenClaim := { program := "ytlncmnheaifdmaa", sum := "db2a9fffec6c0ccd006e1636fa560ce562d26e5ca7a983f60ee7464d27494d8b", func := "loop.example/g01030/laws.FnExactCountYears", spec := "fnExactCountYears", apart := false, narrowed := true }
def FnExactCountYearsUptoSaid : Prop := fnExactCountYearsUptoRow.holds Try.pinned (OpenSpec.upto fnExactCountYearsSpec)

end Rows
end Go.Proofs.Ytlncmnheaifdmaa
