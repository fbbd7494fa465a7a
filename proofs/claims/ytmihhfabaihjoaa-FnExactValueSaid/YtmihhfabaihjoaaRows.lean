/-
  No cell of these rows narrows 'for every input' (looked for: loops, veiled, ifaces, maps, wideKeys, modest, calm, conditions, laid).
  DERIVED. THE GIVEN ROWS OF THIS SEAT. 7 by the template 'for every input the law returns true; each argument reads behind the call as it read before'; 0 by the template 'total and deterministic' (their statements: YtmihhfabaihjoaaTotals.lean).
  GIVEN WITH THE SEED: the statements are not yours to turn. If you find one false, say at which input.
  Laid BY PROGRAM, IN A SANDBOX (cutbox-rows.mjs): the forced cells as the released guide's own fill.sh prints them over the translation e5911bfa630b2315… (all of the seat's roots in one cut). By AI agents, Wed Nov 11 2026. No macro, syntax, notation, axiom, sorry.
-/
import Derived.Test.YtmihhfabaihjoaaChecked
import GoSem.Claim
import GoSem.ClaimJoined
import GoSem.ClaimMapViews
import Derived.JoinedTies
import Derived.KernelRfl
namespace Go.Proofs.Ytmihhfabaihjoaa
/- THE CELL 'sum', in the pinned program and in every row, IS THE sha256 OF THE DUMP (.gsa) THAT YtmihhfabaihjoaaProg.lean LOADS. Nothing in Lean hashes anything: it is a label: what it is worth is what the hold of that sum in a sandbox is worth. -/
noncomputable def Try.pinned : Pinned := { name := "ytmihhfabaihjoaa", sum := "e5911bfa630b231514481de1949dc1e6794951ee522bf634ccc98cd909625d02", checked := Try.checked }
namespace Rows
def none {H : Type} : Left H := { results := [], args := [] }

/-- 'laws.FnPct': WHATEVER THE INPUT: true; the input reads as it did. -/
def fnPctSpec : ChangeSpec := { name := "fnPct", fn := fun _ => fun
  | [d] => { results := [.lit (.bool true)], args := [d] }
  | _ => none }
def fnPctRow : OpenClaim := { program := "ytmihhfabaihjoaa", sum := "e5911bfa630b231514481de1949dc1e6794951ee522bf634ccc98cd909625d02", func := "loop.example/g00716/laws.FnPct", spec := "fnPct", inPlace := ["internal/bytealg.IndexByteString"], apart := false }
def FnPctSaid : Prop := fnPctRow.holds Try.pinned (OpenSpec.ofChange fnPctSpec)

/-- ITS FALSE NEIGHBOUR: 'it returns false'. Refute it at one input. -/
def fnPctWrong : ChangeSpec := { name := "fnPct", fn := fun _ => fun
  | [d] => { results := [.lit (.bool false)], args := [d] }
  | _ => none }
def FnPctWrongFalsely : Prop := fnPctRow.holds Try.pinned (OpenSpec.ofChange fnPctWrong)

/-- 'laws.FnExactPct': WHATEVER THE INPUT: true; the input reads as it did. -/
def fnExactPctSpec : ChangeSpec := { name := "fnExactPct", fn := fun _ => fun
  | [d] => { results := [.lit (.bool true)], args := [d] }
  | _ => none }
def fnExactPctRow : OpenClaim := { program := "ytmihhfabaihjoaa", sum := "e5911bfa630b231514481de1949dc1e6794951ee522bf634ccc98cd909625d02", func := "loop.example/g00716/laws.FnExactPct", spec := "fnExactPct", inPlace := ["internal/bytealg.IndexByteString"], apart := false }
def FnExactPctSaid : Prop := fnExactPctRow.holds Try.pinned (OpenSpec.ofChange fnExactPctSpec)

/-- ITS FALSE NEIGHBOUR: 'it returns false'. Refute it at one input. -/
def fnExactPctWrong : ChangeSpec := { name := "fnExactPct", fn := fun _ => fun
  | [d] => { results := [.lit (.bool false)], args := [d] }
  | _ => none }
def FnExactPctWrongFalsely : Prop := fnExactPctRow.holds Try.pinned (OpenSpec.ofChange fnExactPctWrong)

/-- 'laws.FnExactUnPct': WHATEVER THE INPUT: true; the input reads as it did. -/
def fnExactUnPctSpec : ChangeSpec := { name := "fnExactUnPct", fn := fun _ => fun
  | [d] => { results := [.lit (.bool true)], args := [d] }
  | _ => none }
def fnExactUnPctRow : OpenClaim := { program := "ytmihhfabaihjoaa", sum := "e5911bfa630b231514481de1949dc1e6794951ee522bf634ccc98cd909625d02", func := "loop.example/g00716/laws.FnExactUnPct", spec := "fnExactUnPct", inPlace := ["internal/bytealg.IndexByteString"], apart := false }
def FnExactUnPctSaid : Prop := fnExactUnPctRow.holds Try.pinned (OpenSpec.ofChange fnExactUnPctSpec)

/-- ITS FALSE NEIGHBOUR: 'it returns false'. Refute it at one input. -/
def fnExactUnPctWrong : ChangeSpec := { name := "fnExactUnPct", fn := fun _ => fun
  | [d] => { results := [.lit (.bool false)], args := [d] }
  | _ => none }
def FnExactUnPctWrongFalsely : Prop := fnExactUnPctRow.holds Try.pinned (OpenSpec.ofChange fnExactUnPctWrong)

/-- 'laws.FnExactPutForm': WHATEVER THE INPUT: true; the input reads as it did. -/
def fnExactPutFormSpec : ChangeSpec := { name := "fnExactPutForm", fn := fun _ => fun
  | [d] => { results := [.lit (.bool true)], args := [d] }
  | _ => none }
def fnExactPutFormRow : OpenClaim := { program := "ytmihhfabaihjoaa", sum := "e5911bfa630b231514481de1949dc1e6794951ee522bf634ccc98cd909625d02", func := "loop.example/g00716/laws.FnExactPutForm", spec := "fnExactPutForm", inPlace := ["internal/bytealg.IndexByteString", "internal/abi.NoEscape", "internal/bytealg.MakeNoZero"], apart := false }
def FnExactPutFormSaid : Prop := fnExactPutFormRow.holds Try.pinned (OpenSpec.ofChange fnExactPutFormSpec)

/-- ITS FALSE NEIGHBOUR: 'it returns false'. Refute it at one input. -/
def fnExactPutFormWrong : ChangeSpec := { name := "fnExactPutForm", fn := fun _ => fun
  | [d] => { results := [.lit (.bool false)], args := [d] }
  | _ => none }
def FnExactPutFormWrongFalsely : Prop := fnExactPutFormRow.holds Try.pinned (OpenSpec.ofChange fnExactPutFormWrong)

/-- 'laws.FnExactValue': WHATEVER THE INPUT: true; the input reads as it did. -/
def fnExactValueSpec : ChangeSpec := { name := "fnExactValue", fn := fun _ => fun
  | [d1, d2] => { results := [.lit (.bool true)], args := [d1, d2] }
  | _ => none }
def fnExactValueRow : OpenClaim := { program := "ytmihhfabaihjoaa", sum := "e5911bfa630b231514481de1949dc1e6794951ee522bf634ccc98cd909625d02", func := "loop.example/g00716/laws.FnExactValue", spec := "fnExactValue", apart := false }
def FnExactValueSaid : Prop := fnExactValueRow.holds Try.pinned (OpenSpec.ofChange fnExactValueSpec)

/-- ITS FALSE NEIGHBOUR: 'it returns false'. Refute it at one input. -/
def fnExactValueWrong : ChangeSpec := { name := "fnExactValue", fn := fun _ => fun
  | [d1, d2] => { results := [.lit (.bool false)], args := [d1, d2] }
  | _ => none }
def FnExactValueWrongFalsely : Prop := fnExactValueRow.holds Try.pinned (OpenSpec.ofChange fnExactValueWrong)

/-- 'laws.FnExactB64': WHATEVER THE INPUT: true; the input reads as it did. -/
def fnExactB64Spec : ChangeSpec := { name := "fnExactB64", fn := fun _ => fun
  | [d] => { results := [.lit (.bool true)], args := [d] }
  | _ => none }
def fnExactB64Row : OpenClaim := { program := "ytmihhfabaihjoaa", sum := "e5911bfa630b231514481de1949dc1e6794951ee522bf634ccc98cd909625d02", func := "loop.example/g00716/laws.FnExactB64", spec := "fnExactB64", apart := false }
def FnExactB64Said : Prop := fnExactB64Row.holds Try.pinned (OpenSpec.ofChange fnExactB64Spec)

/-- ITS FALSE NEIGHBOUR: 'it returns false'. Refute it at one input. -/
def fnExactB64Wrong : ChangeSpec := { name := "fnExactB64", fn := fun _ => fun
  | [d] => { results := [.lit (.bool false)], args := [d] }
  | _ => none }
def FnExactB64WrongFalsely : Prop := fnExactB64Row.holds Try.pinned (OpenSpec.ofChange fnExactB64Wrong)

/-- 'laws.FnExactUnB64': WHATEVER THE INPUT: true; the input reads as it did. -/
def fnExactUnB64Spec : ChangeSpec := { name := "fnExactUnB64", fn := fun _ => fun
  | [d] => { results := [.lit (.bool true)], args := [d] }
  | _ => none }
def fnExactUnB64Row : OpenClaim := { program := "ytmihhfabaihjoaa", sum := "e5911bfa630b231514481de1949dc1e6794951ee522bf634ccc98cd909625d02", func := "loop.example/g00716/laws.FnExactUnB64", spec := "fnExactUnB64", apart := false }
def FnExactUnB64Said : Prop := fnExactUnB64Row.holds Try.pinned (OpenSpec.ofChange fnExactUnB64Spec)

/-- ITS FALSE NEIGHBOUR: 'it returns false'. Refute it at one input. -/
def fnExactUnB64Wrong : ChangeSpec := { name := "fnExactUnB64", fn := fun _ => fun
  | [d] => { results := [.lit (.bool false)], args := [d] }
  | _ => none }
def FnExactUnB64WrongFalsely : Prop := fnExactUnB64Row.holds Try.pinned (OpenSpec.ofChange fnExactUnB64Wrong)

/- THE SECOND FORM. 'bulk': how many values and letters a reading holds, each counted each time it is reached (what is shared counts as often as it is met; a slice's spare places count too). A statement '..UptoSaid' is the law's where the arguments, and the package variables that the reading takes, are together of bulk at most 1048576: NARROWER than '..Said'. Prove '..Said' where nothing that the law and all that it calls make is longer than what came in: it says more and counts as full. Else prove '..UptoSaid'. A law counts once. -/
mutual
def uptoBulk {H : Type} : DataW H → Nat
  | .lit (.string bytes) => bytes.length + 1
  | .lit _ => 1
  | .nil => 1
  | .ptr d => uptoBulk d + 1
  | .slice elems spare => uptoBulkAll elems + uptoBulkAll spare + 1
  | .agg parts => uptoBulkAll parts + 1
  | .iface _ d => uptoBulk d + 1
  | .map entries => uptoBulkEntries entries + 1
  | .held _ => 1
def uptoBulkAll {H : Type} : List (DataW H) → Nat
  | [] => 0
  | d :: r => uptoBulk d + uptoBulkAll r
def uptoBulkEntries {H : Type} : List (Lit × DataW H) → Nat
  | [] => 0
  | x :: r => uptoBulkEntry x + uptoBulkEntries r
def uptoBulkEntry {H : Type} : Lit × DataW H → Nat
  | (.string bytes, d) => bytes.length + uptoBulk d + 1
  | (_, d) => uptoBulk d + 1
 end
def uptoSmall : (H : Type) → List (DataW H) → Bool := fun _ ds => decide (uptoBulkAll ds ≤ 1048576)
def OpenSpec.upto (s : _root_.Go.ChangeSpec) : _root_.Go.OpenSpec := { _root_.Go.OpenSpec.ofChange s with cond := some uptoSmall }

/-- 'laws.FnPct', WHERE WHAT IT READS IS OF BULK AT MOST 1048576: true; the input reads as it did. -/
def fnPctUptoRow : OpenClaim := { program := "ytmihhfabaihjoaa", sum := "e5911bfa630b231514481de1949dc1e6794951ee522bf634ccc98cd909625d02", func := "loop.example/g00716/laws.FnPct", spec := "fnPct", inPlace := ["internal/bytealg.IndexByteString"], apart := false, narrowed := true }
def FnPctUptoSaid : Prop := fnPctUptoRow.holds Try.pinned (OpenSpec.upto fnPctSpec)

/-- 'laws.FnExactPct', WHERE WHAT IT READS IS OF BULK AT MOST 1048576: true; the input reads as it did. -/
def fnExactPctUptoRow : OpenClaim := { program := "ytmihhfabaihjoaa", sum := "e5911bfa630b231514481de1949dc1e6794951ee522bf634ccc98cd909625d02", func := "loop.example/g00716/laws.FnExactPct", spec := "fnExactPct", inPlace := ["internal/bytealg.IndexByteString"], apart := false, narrowed := true }
def FnExactPctUptoSaid : Prop := fnExactPctUptoRow.holds Try.pinned (OpenSpec.upto fnExactPctSpec)

/-- 'laws.FnExactUnPct', WHERE WHAT IT READS IS OF BULK AT MOST 1048576: true; the input reads as it did. -/
def fnExactUnPctUptoRow : OpenClaim := { program := "ytmihhfabaihjoaa", sum := "e5911bfa630b231514481de1949dc1e6794951ee522bf634ccc98cd909625d02", func := "loop.example/g00716/laws.FnExactUnPct", spec := "fnExactUnPct", inPlace := ["internal/bytealg.IndexByteString"], apart := false, narrowed := true }
def FnExactUnPctUptoSaid : Prop := fnExactUnPctUptoRow.holds Try.pinned (OpenSpec.upto fnExactUnPctSpec)

/-- 'laws.FnExactPutForm', WHERE WHAT IT READS IS OF BULK AT MOST 1048576: true; the input reads as it did. -/
def fnExactPutFormUptoRow : OpenClaim := { program := "ytmihhfabaihjoaa", sum := "e5911bfa630b231514481de1949dc1e6794951ee522bf634ccc98cd909625d02", func := "loop.example/g00716/laws.FnExactPutForm", spec := "fnExactPutForm", inPlace := ["internal/bytealg.IndexByteString", "internal/abi.NoEscape", "internal/bytealg.MakeNoZero"], apart := false, narrowed := true }
def FnExactPutFormUptoSaid : Prop := fnExactPutFormUptoRow.holds Try.pinned (OpenSpec.upto fnExactPutFormSpec)

/-- 'laws.FnExactValue', WHERE WHAT IT READS IS OF BULK AT MOST 1048576: true; the input reads as it did. -/
def fnExactValueUptoRow : OpenClaim := { program := "ytmihhfabaihjoaa", sum := "e5911bfa630b231514481de1949dc1e6794951ee522bf634ccc98cd909625d02", func := "loop.example/g00716/laws.FnExactValue", spec := "fnExactValue", apart := false, narrowed := true }
def FnExactValueUptoSaid : Prop := fnExactValueUptoRow.holds Try.pinned (OpenSpec.upto fnExactValueSpec)

/-- 'laws.FnExactB64', WHERE WHAT IT READS IS OF BULK AT MOST 1048576: true; the input reads as it did. -/
def fnExactB64UptoRow : OpenClaim := { program := "ytmihhfabaihjoaa", sum := "e5911bfa630b231514481de1949dc1e6794951ee522bf634ccc98cd909625d02", func := "loop.example/g00716/laws.FnExactB64", spec := "fnExactB64", apart := false, narrowed := true }
def FnExactB64UptoSaid : Prop := fnExactB64UptoRow.holds Try.pinned (OpenSpec.upto fnExactB64Spec)

/-- 'laws.FnExactUnB64', WHERE WHAT IT READS IS OF BULK AT MOST 1048576: true; the input reads as it did. -/
def fnExactUnB64UptoRow : OpenClaim := { program := "ytmihhfabaihjoaa", sum := "e5911bfa630b231514481de1949dc1e6794951ee522bf634ccc98cd909625d02", func := "loop.example/g00716/laws.FnExactUnB64", spec := "fnExactUnB64", apart := false, narrowed := true }
def FnExactUnB64UptoSaid : Prop := fnExactUnB64UptoRow.holds Try.pinned (OpenSpec.upto fnExactUnB64Spec)

end Rows
end Go.Proofs.Ytmihhfabaihjoaa
