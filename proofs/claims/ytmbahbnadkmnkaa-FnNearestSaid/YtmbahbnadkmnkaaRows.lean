/-
  No cell of these rows narrows 'for every input' (looked for: loops, veiled, ifaces, maps, wideKeys, modest, calm, conditions, laid).
  DERIVED. THE GIVEN ROWS OF THIS SEAT. 8 by the template 'for every input the law returns true; each argument reads behind the call as it read before'; 0 by the template 'total and deterministic' (their statements: YtmbahbnadkmnkaaTotals.lean).
  GIVEN WITH THE SEED: the statements are not yours to turn. If you find one false, say at which input.
  Laid BY PROGRAM, IN A SANDBOX (cutbox-rows.mjs): the forced cells as the released guide's own fill.sh prints them over the translation dbc27665b454c0a7… (all of the seat's roots in one cut). By AI agents, Wed Nov 11 2026. No macro, syntax, notation, axiom, sorry.
-/
import Derived.Test.YtmbahbnadkmnkaaChecked
import GoSem.Claim
import GoSem.ClaimJoined
import GoSem.ClaimMapViews
import Derived.JoinedTies
import Derived.KernelRfl
namespace Go.Proofs.Ytmbahbnadkmnkaa
/- THE CELL 'sum', in the pinned program and in every row, IS THE sha256 OF THE DUMP (.gsa) THAT YtmbahbnadkmnkaaProg.lean LOADS. Nothing in Lean hashes anything: it is a label: what it is worth is what the hold of that sum in a sandbox is worth. -/
noncomputable def Try.pinned : Pinned := { name := "ytmbahbnadkmnkaa", sum := "dbc27665b454c0a737cc45894096e68619a6382fac73ef7e90b2c2563afcbe44", checked := Try.checked }
namespace Rows
def none {H : Type} : Left H := { results := [], args := [] }

/-- 'laws.FnNearest': WHATEVER THE INPUT: true; the input reads as it did. -/
def fnNearestSpec : ChangeSpec := { name := "fnNearest", fn := fun _ => fun
  | [d] => { results := [.lit (.bool true)], args := [d] }
  | _ => none }
def fnNearestRow : OpenClaim := { program := "ytmbahbnadkmnkaa", sum := "dbc27665b454c0a737cc45894096e68619a6382fac73ef7e90b2c2563afcbe44", func := "loop.example/g01030/laws.FnNearest", spec := "fnNearest", unfollowed := true, recurses := true, apart := false }
def FnNearestSaid : Prop := fnNearestRow.holds Try.pinned (OpenSpec.ofChange fnNearestSpec)

/-- ITS FALSE NEIGHBOUR: 'it returns false'. Refute it at one input. -/
def fnNearestWrong : ChangeSpec := { name := "fnNearest", fn := fun _ => fun
  | [d] => { results := [.lit (.bool false)], args := [d] }
  | _ => none }
def FnNearestWrongFalsely : Prop := fnNearestRow.holds Try.pinned (OpenSpec.ofChange fnNearestWrong)

/-- 'laws.FnExactIsSoundTable': WHATEVER THE INPUT: true; the input reads as it did. -/
def fnExactIsSoundTableSpec : ChangeSpec := { name := "fnExactIsSoundTable", fn := fun _ => fun
  | [d] => { results := [.lit (.bool true)], args := [d] }
  | _ => none }
def fnExactIsSoundTableRow : OpenClaim := { program := "ytmbahbnadkmnkaa", sum := "dbc27665b454c0a737cc45894096e68619a6382fac73ef7e90b2c2563afcbe44", func := "loop.example/g01030/laws.FnExactIsSoundTable", spec := "fnExactIsSoundTable", apart := false }
def FnExactIsSoundTableSaid : Prop := fnExactIsSoundTableRow.holds Try.pinned (OpenSpec.ofChange fnExactIsSoundTableSpec)

/-- ITS FALSE NEIGHBOUR: 'it returns false'. Refute it at one input. -/
def fnExactIsSoundTableWrong : ChangeSpec := { name := "fnExactIsSoundTable", fn := fun _ => fun
  | [d] => { results := [.lit (.bool false)], args := [d] }
  | _ => none }
def FnExactIsSoundTableWrongFalsely : Prop := fnExactIsSoundTableRow.holds Try.pinned (OpenSpec.ofChange fnExactIsSoundTableWrong)

/-- 'laws.FnExactSoundOf': WHATEVER THE INPUT: true; the input reads as it did. -/
def fnExactSoundOfSpec : ChangeSpec := { name := "fnExactSoundOf", fn := fun _ => fun
  | [d1, d2] => { results := [.lit (.bool true)], args := [d1, d2] }
  | _ => none }
def fnExactSoundOfRow : OpenClaim := { program := "ytmbahbnadkmnkaa", sum := "dbc27665b454c0a737cc45894096e68619a6382fac73ef7e90b2c2563afcbe44", func := "loop.example/g01030/laws.FnExactSoundOf", spec := "fnExactSoundOf", unfollowed := true, recurses := true, apart := false }
def FnExactSoundOfSaid : Prop := fnExactSoundOfRow.holds Try.pinned (OpenSpec.ofChange fnExactSoundOfSpec)

/-- ITS FALSE NEIGHBOUR: 'it returns false'. Refute it at one input. -/
def fnExactSoundOfWrong : ChangeSpec := { name := "fnExactSoundOf", fn := fun _ => fun
  | [d1, d2] => { results := [.lit (.bool false)], args := [d1, d2] }
  | _ => none }
def FnExactSoundOfWrongFalsely : Prop := fnExactSoundOfRow.holds Try.pinned (OpenSpec.ofChange fnExactSoundOfWrong)

/-- 'laws.FnExactDoSoundAlike': WHATEVER THE INPUT: true; the input reads as it did. -/
def fnExactDoSoundAlikeSpec : ChangeSpec := { name := "fnExactDoSoundAlike", fn := fun _ => fun
  | [d1, d2, d3] => { results := [.lit (.bool true)], args := [d1, d2, d3] }
  | _ => none }
def fnExactDoSoundAlikeRow : OpenClaim := { program := "ytmbahbnadkmnkaa", sum := "dbc27665b454c0a737cc45894096e68619a6382fac73ef7e90b2c2563afcbe44", func := "loop.example/g01030/laws.FnExactDoSoundAlike", spec := "fnExactDoSoundAlike", unfollowed := true, recurses := true, apart := false }
def FnExactDoSoundAlikeSaid : Prop := fnExactDoSoundAlikeRow.holds Try.pinned (OpenSpec.ofChange fnExactDoSoundAlikeSpec)

/-- ITS FALSE NEIGHBOUR: 'it returns false'. Refute it at one input. -/
def fnExactDoSoundAlikeWrong : ChangeSpec := { name := "fnExactDoSoundAlike", fn := fun _ => fun
  | [d1, d2, d3] => { results := [.lit (.bool false)], args := [d1, d2, d3] }
  | _ => none }
def FnExactDoSoundAlikeWrongFalsely : Prop := fnExactDoSoundAlikeRow.holds Try.pinned (OpenSpec.ofChange fnExactDoSoundAlikeWrong)

/-- 'laws.FnExactMatchSounds': WHATEVER THE INPUT: true; the input reads as it did. -/
def fnExactMatchSoundsSpec : ChangeSpec := { name := "fnExactMatchSounds", fn := fun _ => fun
  | [d1, d2, d3] => { results := [.lit (.bool true)], args := [d1, d2, d3] }
  | _ => none }
def fnExactMatchSoundsRow : OpenClaim := { program := "ytmbahbnadkmnkaa", sum := "dbc27665b454c0a737cc45894096e68619a6382fac73ef7e90b2c2563afcbe44", func := "loop.example/g01030/laws.FnExactMatchSounds", spec := "fnExactMatchSounds", unfollowed := true, recurses := true, apart := false }
def FnExactMatchSoundsSaid : Prop := fnExactMatchSoundsRow.holds Try.pinned (OpenSpec.ofChange fnExactMatchSoundsSpec)

/-- ITS FALSE NEIGHBOUR: 'it returns false'. Refute it at one input. -/
def fnExactMatchSoundsWrong : ChangeSpec := { name := "fnExactMatchSounds", fn := fun _ => fun
  | [d1, d2, d3] => { results := [.lit (.bool false)], args := [d1, d2, d3] }
  | _ => none }
def FnExactMatchSoundsWrongFalsely : Prop := fnExactMatchSoundsRow.holds Try.pinned (OpenSpec.ofChange fnExactMatchSoundsWrong)

/-- 'laws.FnExactNearestWords': WHATEVER THE INPUT: true; the input reads as it did. -/
def fnExactNearestWordsSpec : ChangeSpec := { name := "fnExactNearestWords", fn := fun _ => fun
  | [d1, d2, d3] => { results := [.lit (.bool true)], args := [d1, d2, d3] }
  | _ => none }
def fnExactNearestWordsRow : OpenClaim := { program := "ytmbahbnadkmnkaa", sum := "dbc27665b454c0a737cc45894096e68619a6382fac73ef7e90b2c2563afcbe44", func := "loop.example/g01030/laws.FnExactNearestWords", spec := "fnExactNearestWords", unfollowed := true, recurses := true, apart := false }
def FnExactNearestWordsSaid : Prop := fnExactNearestWordsRow.holds Try.pinned (OpenSpec.ofChange fnExactNearestWordsSpec)

/-- ITS FALSE NEIGHBOUR: 'it returns false'. Refute it at one input. -/
def fnExactNearestWordsWrong : ChangeSpec := { name := "fnExactNearestWords", fn := fun _ => fun
  | [d1, d2, d3] => { results := [.lit (.bool false)], args := [d1, d2, d3] }
  | _ => none }
def FnExactNearestWordsWrongFalsely : Prop := fnExactNearestWordsRow.holds Try.pinned (OpenSpec.ofChange fnExactNearestWordsWrong)

/-- 'laws.FnExactGroupsBySound': WHATEVER THE INPUT: true; the input reads as it did. -/
def fnExactGroupsBySoundSpec : ChangeSpec := { name := "fnExactGroupsBySound", fn := fun _ => fun
  | [d1, d2] => { results := [.lit (.bool true)], args := [d1, d2] }
  | _ => none }
def fnExactGroupsBySoundRow : OpenClaim := { program := "ytmbahbnadkmnkaa", sum := "dbc27665b454c0a737cc45894096e68619a6382fac73ef7e90b2c2563afcbe44", func := "loop.example/g01030/laws.FnExactGroupsBySound", spec := "fnExactGroupsBySound", unfollowed := true, recurses := true, apart := false }
def FnExactGroupsBySoundSaid : Prop := fnExactGroupsBySoundRow.holds Try.pinned (OpenSpec.ofChange fnExactGroupsBySoundSpec)

/-- ITS FALSE NEIGHBOUR: 'it returns false'. Refute it at one input. -/
def fnExactGroupsBySoundWrong : ChangeSpec := { name := "fnExactGroupsBySound", fn := fun _ => fun
  | [d1, d2] => { results := [.lit (.bool false)], args := [d1, d2] }
  | _ => none }
def FnExactGroupsBySoundWrongFalsely : Prop := fnExactGroupsBySoundRow.holds Try.pinned (OpenSpec.ofChange fnExactGroupsBySoundWrong)

/-- 'laws.FnExactSharperTable': WHATEVER THE INPUT: true; the input reads as it did. -/
def fnExactSharperTableSpec : ChangeSpec := { name := "fnExactSharperTable", fn := fun _ => fun
  | [d1, d2] => { results := [.lit (.bool true)], args := [d1, d2] }
  | _ => none }
def fnExactSharperTableRow : OpenClaim := { program := "ytmbahbnadkmnkaa", sum := "dbc27665b454c0a737cc45894096e68619a6382fac73ef7e90b2c2563afcbe44", func := "loop.example/g01030/laws.FnExactSharperTable", spec := "fnExactSharperTable", apart := false }
def FnExactSharperTableSaid : Prop := fnExactSharperTableRow.holds Try.pinned (OpenSpec.ofChange fnExactSharperTableSpec)

/-- ITS FALSE NEIGHBOUR: 'it returns false'. Refute it at one input. -/
def fnExactSharperTableWrong : ChangeSpec := { name := "fnExactSharperTable", fn := fun _ => fun
  | [d1, d2] => { results := [.lit (.bool false)], args := [d1, d2] }
  | _ => none }
def FnExactSharperTableWrongFalsely : Prop := fnExactSharperTableRow.holds Try.pinned (OpenSpec.ofChange fnExactSharperTableWrong)

/- THE SECOND FORM. 'bulk': how many values and letters a reading holds, each counted each time it is reached (what is shared counts as often as it is met; a slice's spare places count too). A statement '..UptoSaid' is the law's where the arguments, and the package variables that the reading takes, are together of bulk at most 1048576: NARROWER than '..Said'. Prove '..Said' where nothing that the law and all that it calls make is longer than what came in: it says more and counts as full. Else prove '..UptoSaid'. A law counts once. -/
mutual
def uptoBulk {H : Type} : DataW H → Nat
  | .lit (.string bytes) => bytes.length + 1
  | .lit _ => 1
  | .nil => 1
  | .ptr d => uptoBulk d + 1
  | .slice elems spare => uptoBulkAll elems + uptoBulkAll spare + 1
  | .agg parts => uptoBulkAll parts + 1
  | .iface _ d => uptoBulk d + 1
  | .map entries => uptoBulkEntries entries + 1
  | .held _ => 1
def uptoBulkAll {H : Type} : List (DataW H) → Nat
  | [] => 0
  | d :: r => uptoBulk d + uptoBulkAll r
def uptoBulkEntries {H : Type} : List (Lit × DataW H) → Nat
  | [] => 0
  | x :: r => uptoBulkEntry x + uptoBulkEntries r
def uptoBulkEntry {H : Type} : Lit × DataW H → Nat
  | (.string bytes, d) => bytes.length + uptoBulk d + 1
  | (_, d) => uptoBulk d + 1
 end
def uptoSmall : (H : Type) → List (DataW H) → Bool := fun _ ds => decide (uptoBulkAll ds ≤ 1048576)
def OpenSpec.upto (s : _root_.Go.ChangeSpec) : _root_.Go.OpenSpec := { _root_.Go.OpenSpec.ofChange s with cond := some uptoSmall }

/-- 'laws.FnNearest', WHERE WHAT IT READS IS OF BULK AT MOST 1048576: true; the input reads as it did. -/
def fnNearestUptoRow : OpenClaim := { program := "ytmbahbnadkmnkaa", sum := "dbc27665b454c0a737cc45894096e68619a6382fac73ef7e90b2c2563afcbe44", func := "loop.example/g01030/laws.FnNearest", spec := "fnNearest", unfollowed := true, recurses := true, apart := false, narrowed := true }
def FnNearestUptoSaid : Prop := fnNearestUptoRow.holds Try.pinned (OpenSpec.upto fnNearestSpec)

/-- 'laws.FnExactIsSoundTable', WHERE WHAT IT READS IS OF BULK AT MOST 1048576: true; the input reads as it did. -/
def fnExactIsSoundTableUptoRow : OpenClaim := { program := "ytmbahbnadkmnkaa", sum := "dbc27665b454c0a737cc45894096e68619a6382fac73ef7e90b2c2563afcbe44", func := "loop.example/g01030/laws.FnExactIsSoundTable", spec := "fnExactIsSoundTable", apart := false, narrowed := true }
def FnExactIsSoundTableUptoSaid : Prop := fnExactIsSoundTableUptoRow.holds Try.pinned (OpenSpec.upto fnExactIsSoundTableSpec)

/-- 'laws.FnExactSoundOf', WHERE WHAT IT READS IS OF BULK AT MOST 1048576: true; the input reads as it did. -/
def fnExactSoundOfUptoRow : OpenClaim := { program := "ytmbahbnadkmnkaa", sum := "dbc27665b454c0a737cc45894096e68619a6382fac73ef7e90b2c2563afcbe44", func := "loop.example/g01030/laws.FnExactSoundOf", spec := "fnExactSoundOf", unfollowed := true, recurses := true, apart := false, narrowed := true }
def FnExactSoundOfUptoSaid : Prop := fnExactSoundOfUptoRow.holds Try.pinned (OpenSpec.upto fnExactSoundOfSpec)

/-- 'laws.FnExactDoSoundAlike', WHERE WHAT IT READS IS OF BULK AT MOST 1048576: true; the input reads as it did. -/
def fnExactDoSoundAlikeUptoRow : OpenClaim := { program := "ytmbahbnadkmnkaa", sum := "dbc27665b454c0a737cc45894096e68619a6382fac73ef7e90b2c2563afcbe44", func := "loop.example/g01030/laws.FnExactDoSoundAlike", spec := "fnExactDoSoundAlike", unfollowed := true, recurses := true, apart := false, narrowed := true }
def FnExactDoSoundAlikeUptoSaid : Prop := fnExactDoSoundAlikeUptoRow.holds Try.pinned (OpenSpec.upto fnExactDoSoundAlikeSpec)

/-- 'laws.FnExactMatchSounds', WHERE WHAT IT READS IS OF BULK AT MOST 1048576: true; the input reads as it did. -/
def fnExactMatchSoundsUptoRow : OpenClaim := { program := "ytmbahbnadkmnkaa", sum := "dbc27665b454c0a737cc45894096e68619a6382fac73ef7e90b2c2563afcbe44", func := "loop.example/g01030/laws.FnExactMatchSounds", spec := "fnExactMatchSounds", unfollowed := true, recurses := true, apart := false, narrowed := true }
def FnExactMatchSoundsUptoSaid : Prop := fnExactMatchSoundsUptoRow.holds Try.pinned (OpenSpec.upto fnExactMatchSoundsSpec)

/-- 'laws.FnExactNearestWords', WHERE WHAT IT READS IS OF BULK AT MOST 1048576: true; the input reads as it did. -/
def fnExactNearestWordsUptoRow : OpenClaim := { program := "ytmbahbnadkmnkaa", sum := "dbc27665b454c0a737cc45894096e68619a6382fac73ef7e90b2c2563afcbe44", func := "loop.example/g01030/laws.FnExactNearestWords", spec := "fnExactNearestWords", unfollowed := true, recurses := true, apart := false, narrowed := true }
def FnExactNearestWordsUptoSaid : Prop := fnExactNearestWordsUptoRow.holds Try.pinned (OpenSpec.upto fnExactNearestWordsSpec)

/-- 'laws.FnExactGroupsBySound', WHERE WHAT IT READS IS OF BULK AT MOST 1048576: true; the input reads as it did. -/
def fnExactGroupsBySoundUptoRow : OpenClaim := { program := "ytmbahbnadkmnkaa", sum := "dbc27665b454c0a737cc45894096e68619a6382fac73ef7e90b2c2563afcbe44", func := "loop.example/g01030/laws.FnExactGroupsBySound", spec := "fnExactGroupsBySound", unfollowed := true, recurses := true, apart := false, narrowed := true }
def FnExactGroupsBySoundUptoSaid : Prop := fnExactGroupsBySoundUptoRow.holds Try.pinned (OpenSpec.upto fnExactGroupsBySoundSpec)

/-- 'laws.FnExactSharperTable', WHERE WHAT IT READS IS OF BULK AT MOST 1048576: true; the input reads as it did. -/
def fnExactSharperTableUptoRow : OpenClaim := { program := "ytmbahbnadkmnkaa", sum := "dbc27665b454c0a737cc45894096e68619a6382fac73ef7e90b2c2563afcbe44", func := "loop.example/g01030/laws.FnExactSharperTable", spec := "fnExactSharperTable", apart := false, narrowed := true }
def FnExactSharperTableUptoSaid : Prop := fnExactSharperTableUptoRow.holds Try.pinned (OpenSpec.upto fnExactSharperTableSpec)

end Rows
end Go.Proofs.Ytmbahbnadkmnkaa
