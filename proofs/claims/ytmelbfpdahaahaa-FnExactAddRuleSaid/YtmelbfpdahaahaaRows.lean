/-
  No cell of these rows narrows 'for every input' (looked for: loops, veiled, ifaces, maps, wideKeys, modest, calm, conditions, laid).
  DERIVED. THE GIVEN ROWS OF THIS SEAT. 3 by the template 'for every input the law returns true; each argument reads behind the call as it read before'; 0 by the template 'total and deterministic' (their statements: YtmelbfpdahaahaaTotals.lean).
  GIVEN WITH THE SEED: the statements are not yours to turn. If you find one false, say at which input.
  Laid BY PROGRAM, IN A SANDBOX (cutbox-rows.mjs): the forced cells as the released guide's own fill.sh prints them over the translation 0b7b1ce9e4f7f6b2… (all of the seat's roots in one cut). By AI agents, Wed Nov 11 2026. No macro, syntax, notation, axiom, sorry.
-/
import Derived.Test.YtmelbfpdahaahaaChecked
import GoSem.Claim
import GoSem.ClaimJoined
import GoSem.ClaimMapViews
import Derived.JoinedTies
import Derived.KernelRfl
namespace Go.Proofs.Ytmelbfpdahaahaa
/- THE CELL 'sum', in the pinned program and in every row, IS THE sha256 OF THE DUMP (.gsa) THAT YtmelbfpdahaahaaProg.lean LOADS. Nothing in Lean hashes anything: it is a label: what it is worth is what the hold of that sum in a sandbox is worth. -/
noncomputable def Try.pinned : Pinned := { name := "ytmelbfpdahaahaa", sum := "0b7b1ce9e4f7f6b26265a6a0001c0ead942444672111727e9d5fd5110208035a", checked := Try.checked }
namespace Rows
def none {H : Type} : Left H := { results := [], args := [] }

/-- 'laws.FnExactSignsCovered': WHATEVER THE INPUT: true; the input reads as it did. -/
def fnExactSignsCoveredSpec : ChangeSpec := { name := "fnExactSignsCovered", fn := fun _ => fun
  | [d] => { results := [.lit (.bool true)], args := [d] }
  | _ => none }
def fnExactSignsCoveredRow : OpenClaim := { program := "ytmelbfpdahaahaa", sum := "0b7b1ce9e4f7f6b26265a6a0001c0ead942444672111727e9d5fd5110208035a", func := "loop.example/g01030/laws.FnExactSignsCovered", spec := "fnExactSignsCovered", recurses := true, plainKeys := false, apart := false }
def FnExactSignsCoveredSaid : Prop := fnExactSignsCoveredRow.holds Try.pinned (OpenSpec.ofChange fnExactSignsCoveredSpec)

/-- ITS FALSE NEIGHBOUR: 'it returns false'. Refute it at one input. -/
def fnExactSignsCoveredWrong : ChangeSpec := { name := "fnExactSignsCovered", fn := fun _ => fun
  | [d] => { results := [.lit (.bool false)], args := [d] }
  | _ => none }
def FnExactSignsCoveredWrongFalsely : Prop := fnExactSignsCoveredRow.holds Try.pinned (OpenSpec.ofChange fnExactSignsCoveredWrong)

/-- 'laws.FnExactUselessRules': WHATEVER THE INPUT: true; the input reads as it did. -/
def fnExactUselessRulesSpec : ChangeSpec := { name := "fnExactUselessRules", fn := fun _ => fun
  | [d] => { results := [.lit (.bool true)], args := [d] }
  | _ => none }
def fnExactUselessRulesRow : OpenClaim := { program := "ytmelbfpdahaahaa", sum := "0b7b1ce9e4f7f6b26265a6a0001c0ead942444672111727e9d5fd5110208035a", func := "loop.example/g01030/laws.FnExactUselessRules", spec := "fnExactUselessRules", inPlace := ["maps.clone", "internal/abi.NoEscape"], plainKeys := false, apart := false }
def FnExactUselessRulesSaid : Prop := fnExactUselessRulesRow.holds Try.pinned (OpenSpec.ofChange fnExactUselessRulesSpec)

/-- ITS FALSE NEIGHBOUR: 'it returns false'. Refute it at one input. -/
def fnExactUselessRulesWrong : ChangeSpec := { name := "fnExactUselessRules", fn := fun _ => fun
  | [d] => { results := [.lit (.bool false)], args := [d] }
  | _ => none }
def FnExactUselessRulesWrongFalsely : Prop := fnExactUselessRulesRow.holds Try.pinned (OpenSpec.ofChange fnExactUselessRulesWrong)

/-- 'laws.FnExactAddRule': WHATEVER THE INPUT: true; the input reads as it did. -/
def fnExactAddRuleSpec : ChangeSpec := { name := "fnExactAddRule", fn := fun _ => fun
  | [d1, d2] => { results := [.lit (.bool true)], args := [d1, d2] }
  | _ => none }
def fnExactAddRuleRow : OpenClaim := { program := "ytmelbfpdahaahaa", sum := "0b7b1ce9e4f7f6b26265a6a0001c0ead942444672111727e9d5fd5110208035a", func := "loop.example/g01030/laws.FnExactAddRule", spec := "fnExactAddRule", plainKeys := false, apart := false }
def FnExactAddRuleSaid : Prop := fnExactAddRuleRow.holds Try.pinned (OpenSpec.ofChange fnExactAddRuleSpec)

/-- ITS FALSE NEIGHBOUR: 'it returns false'. Refute it at one input. -/
def fnExactAddRuleWrong : ChangeSpec := { name := "fnExactAddRule", fn := fun _ => fun
  | [d1, d2] => { results := [.lit (.bool false)], args := [d1, d2] }
  | _ => none }
def FnExactAddRuleWrongFalsely : Prop := fnExactAddRuleRow.holds Try.pinned (OpenSpec.ofChange fnExactAddRuleWrong)

/- THE SECOND FORM. 'bulk': how many values and letters a reading holds, each counted each time it is reached (what is shared counts as often as it is met; a slice's spare places count too). A statement '..UptoSaid' is the law's where the arguments, and the package variables that the reading takes, are together of bulk at most 1048576: NARROWER than '..Said'. Prove '..Said' where nothing that the law and all that it calls make is longer than what came in: it says more and counts as full. Else prove '..UptoSaid'. A law counts once. -/
mutual
def uptoBulk {H : Type} : DataW H → Nat
  | .lit (.string bytes) => bytes.length + 1
  | .lit _ => 1
  | .nil => 1
  | .ptr d => uptoBulk d + 1
  | .slice elems spare => uptoBulkAll elems + uptoBulkAll spare + 1
  | .agg parts => uptoBulkAll parts + 1
  | .iface _ d => uptoBulk d + 1
  | .map entries => uptoBulkEntries entries + 1
  | .held _ => 1
def uptoBulkAll {H : Type} : List (DataW H) → Nat
  | [] => 0
  | d :: r => uptoBulk d + uptoBulkAll r
def uptoBulkEntries {H : Type} : List (Lit × DataW H) → Nat
  | [] => 0
  | x :: r => uptoBulkEntry x + uptoBulkEntries r
def uptoBulkEntry {H : Type} : Lit × DataW H → Nat
  | (.string bytes, d) => bytes.length + uptoBulk d + 1
  | (_, d) => uptoBulk d + 1
 end
def uptoSmall : (H : Type) → List (DataW H) → Bool := fun _ ds => decide (uptoBulkAll ds ≤ 1048576)
def OpenSpec.upto (s : _root_.Go.ChangeSpec) : _root_.Go.OpenSpec := { _root_.Go.OpenSpec.ofChange s with cond := some uptoSmall }

/-- 'laws.FnExactSignsCovered', WHERE WHAT IT READS IS OF BULK AT MOST 1048576: true; the input reads as it did. -/
def fnExactSignsCoveredUptoRow : OpenClaim := { program := "ytmelbfpdahaahaa", sum := "0b7b1ce9e4f7f6b26265a6a0001c0ead942444672111727e9d5fd5110208035a", func := "loop.example/g01030/laws.FnExactSignsCovered", spec := "fnExactSignsCovered", recurses := true, plainKeys := false, apart := false, narrowed := true }
def FnExactSignsCoveredUptoSaid : Prop := fnExactSignsCoveredUptoRow.holds Try.pinned (OpenSpec.upto fnExactSignsCoveredSpec)

/-- 'laws.FnExactUselessRules', WHERE WHAT IT READS IS OF BULK AT MOST 1048576: true; the input reads as it did. -/
def fnExactUselessRulesUptoRow : OpenClaim := { program := "ytmelbfpdahaahaa", sum := "0b7b1ce9e4f7f6b26265a6a0001c0ead942444672111727e9d5fd5110208035a", func := "loop.example/g01030/laws.FnExactUselessRules", spec := "fnExactUselessRules", inPlace := ["maps.clone", "internal/abi.NoEscape"], plainKeys := false, apart := false, narrowed := true }
def FnExactUselessRulesUptoSaid : Prop := fnExactUselessRulesUptoRow.holds Try.pinned (OpenSpec.upto fnExactUselessRulesSpec)

/-- 'laws.FnExactAddRule', WHERE WHAT IT READS IS OF BULK AT MOST 1048576: true; the input reads as it did. -/
def fnExactAddRuleUptoRow : OpenClaim := { program := "ytmelbfpdahaahaa", sum := "0b7b1ce9e4f7f6b26265a6a0001c0ead942444672111727e9d5fd5110208035a", func := "loop.example/g01030/laws.FnExactAddRule", spec := "fnExactAddRule", plainKeys := false, apart := false, narrowed := true }
def FnExactAddRuleUptoSaid : Prop := fnExactAddRuleUptoRow.holds Try.pinned (OpenSpec.upto fnExactAddRuleSpec)

end Rows
end Go.Proofs.Ytmelbfpdahaahaa
