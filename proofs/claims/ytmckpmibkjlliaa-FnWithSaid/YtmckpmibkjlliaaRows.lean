/-
  No cell of these rows narrows 'for every input' (looked for: loops, veiled, ifaces, maps, wideKeys, modest, calm, conditions, laid).
  DERIVED. THE GIVEN ROWS OF THIS SEAT. 9 by the template 'for every input the law returns true; each argument reads behind the call as it read before'; 0 by the template 'total and deterministic' (their statements: YtmckpmibkjlliaaTotals.lean).
  GIVEN WITH THE SEED: the statements are not yours to turn. If you find one false, say at which input.
  Laid BY PROGRAM, IN A SANDBOX (cutbox-rows.mjs): the forced cells as the released guide's own fill.sh prints them over the translation 9f56e05cba0e2492… (all of the seat's roots in one cut). By AI agents, Wed Nov 11 2026. No macro, syntax, notation, axiom, sorry.
-/
import Derived.Test.YtmckpmibkjlliaaChecked
import GoSem.Claim
import GoSem.ClaimJoined
import GoSem.ClaimMapViews
import Derived.JoinedTies
import Derived.KernelRfl
namespace Go.Proofs.Ytmckpmibkjlliaa
/- THE CELL 'sum', in the pinned program and in every row, IS THE sha256 OF THE DUMP (.gsa) THAT YtmckpmibkjlliaaProg.lean LOADS. Nothing in Lean hashes anything: it is a label: what it is worth is what the hold of that sum in a sandbox is worth. -/
noncomputable def Try.pinned : Pinned := { name := "ytmckpmibkjlliaa", sum := "9f56e05cba0e24928638a6aec371a2c0a4fcb950c2632f230b6ed26ca32801c7", checked := Try.checked }
namespace Rows
def none {H : Type} : Left H := { results := [], args := [] }

/-- 'laws.FnFields': WHATEVER THE INPUT: true; the input reads as it did. -/
def fnFieldsSpec : ChangeSpec := { name := "fnFields", fn := fun _ => fun
  | [d] => { results := [.lit (.bool true)], args := [d] }
  | _ => none }
def fnFieldsRow : OpenClaim := { program := "ytmckpmibkjlliaa", sum := "9f56e05cba0e24928638a6aec371a2c0a4fcb950c2632f230b6ed26ca32801c7", func := "loop.example/g00716/laws.FnFields", spec := "fnFields", inPlace := ["internal/abi.NoEscape", "internal/bytealg.MakeNoZero", "internal/bytealg.IndexByteString"], unfollowed := true, recurses := true, apart := false }
def FnFieldsSaid : Prop := fnFieldsRow.holds Try.pinned (OpenSpec.ofChange fnFieldsSpec)

/-- ITS FALSE NEIGHBOUR: 'it returns false'. Refute it at one input. -/
def fnFieldsWrong : ChangeSpec := { name := "fnFields", fn := fun _ => fun
  | [d] => { results := [.lit (.bool false)], args := [d] }
  | _ => none }
def FnFieldsWrongFalsely : Prop := fnFieldsRow.holds Try.pinned (OpenSpec.ofChange fnFieldsWrong)

/-- 'laws.FnSaid': WHATEVER THE INPUT: true; the input reads as it did. -/
def fnSaidSpec : ChangeSpec := { name := "fnSaid", fn := fun _ => fun
  | [d] => { results := [.lit (.bool true)], args := [d] }
  | _ => none }
def fnSaidRow : OpenClaim := { program := "ytmckpmibkjlliaa", sum := "9f56e05cba0e24928638a6aec371a2c0a4fcb950c2632f230b6ed26ca32801c7", func := "loop.example/g00716/laws.FnSaid", spec := "fnSaid", inPlace := ["internal/bytealg.IndexByteString", "internal/abi.NoEscape", "internal/bytealg.MakeNoZero"], unfollowed := true, recurses := true, apart := false }
def FnSaidSaid : Prop := fnSaidRow.holds Try.pinned (OpenSpec.ofChange fnSaidSpec)

/-- ITS FALSE NEIGHBOUR: 'it returns false'. Refute it at one input. -/
def fnSaidWrong : ChangeSpec := { name := "fnSaid", fn := fun _ => fun
  | [d] => { results := [.lit (.bool false)], args := [d] }
  | _ => none }
def FnSaidWrongFalsely : Prop := fnSaidRow.holds Try.pinned (OpenSpec.ofChange fnSaidWrong)

/-- 'laws.FnWith': WHATEVER THE INPUT: true; the input reads as it did. -/
def fnWithSpec : ChangeSpec := { name := "fnWith", fn := fun _ => fun
  | [d] => { results := [.lit (.bool true)], args := [d] }
  | _ => none }
def fnWithRow : OpenClaim := { program := "ytmckpmibkjlliaa", sum := "9f56e05cba0e24928638a6aec371a2c0a4fcb950c2632f230b6ed26ca32801c7", func := "loop.example/g00716/laws.FnWith", spec := "fnWith", unfollowed := true, recurses := true, apart := false }
def FnWithSaid : Prop := fnWithRow.holds Try.pinned (OpenSpec.ofChange fnWithSpec)

/-- ITS FALSE NEIGHBOUR: 'it returns false'. Refute it at one input. -/
def fnWithWrong : ChangeSpec := { name := "fnWith", fn := fun _ => fun
  | [d] => { results := [.lit (.bool false)], args := [d] }
  | _ => none }
def FnWithWrongFalsely : Prop := fnWithRow.holds Try.pinned (OpenSpec.ofChange fnWithWrong)

/-- 'laws.FnExactFieldsOk': WHATEVER THE INPUT: true; the input reads as it did. -/
def fnExactFieldsOkSpec : ChangeSpec := { name := "fnExactFieldsOk", fn := fun _ => fun
  | [d] => { results := [.lit (.bool true)], args := [d] }
  | _ => none }
def fnExactFieldsOkRow : OpenClaim := { program := "ytmckpmibkjlliaa", sum := "9f56e05cba0e24928638a6aec371a2c0a4fcb950c2632f230b6ed26ca32801c7", func := "loop.example/g00716/laws.FnExactFieldsOk", spec := "fnExactFieldsOk", unfollowed := true, recurses := true, apart := false }
def FnExactFieldsOkSaid : Prop := fnExactFieldsOkRow.holds Try.pinned (OpenSpec.ofChange fnExactFieldsOkSpec)

/-- ITS FALSE NEIGHBOUR: 'it returns false'. Refute it at one input. -/
def fnExactFieldsOkWrong : ChangeSpec := { name := "fnExactFieldsOk", fn := fun _ => fun
  | [d] => { results := [.lit (.bool false)], args := [d] }
  | _ => none }
def FnExactFieldsOkWrongFalsely : Prop := fnExactFieldsOkRow.holds Try.pinned (OpenSpec.ofChange fnExactFieldsOkWrong)

/-- 'laws.FnExactPutFields': WHATEVER THE INPUT: true; the input reads as it did. -/
def fnExactPutFieldsSpec : ChangeSpec := { name := "fnExactPutFields", fn := fun _ => fun
  | [d] => { results := [.lit (.bool true)], args := [d] }
  | _ => none }
def fnExactPutFieldsRow : OpenClaim := { program := "ytmckpmibkjlliaa", sum := "9f56e05cba0e24928638a6aec371a2c0a4fcb950c2632f230b6ed26ca32801c7", func := "loop.example/g00716/laws.FnExactPutFields", spec := "fnExactPutFields", inPlace := ["internal/abi.NoEscape", "internal/bytealg.MakeNoZero"], unfollowed := true, recurses := true, apart := false }
def FnExactPutFieldsSaid : Prop := fnExactPutFieldsRow.holds Try.pinned (OpenSpec.ofChange fnExactPutFieldsSpec)

/-- ITS FALSE NEIGHBOUR: 'it returns false'. Refute it at one input. -/
def fnExactPutFieldsWrong : ChangeSpec := { name := "fnExactPutFields", fn := fun _ => fun
  | [d] => { results := [.lit (.bool false)], args := [d] }
  | _ => none }
def FnExactPutFieldsWrongFalsely : Prop := fnExactPutFieldsRow.holds Try.pinned (OpenSpec.ofChange fnExactPutFieldsWrong)

/-- 'laws.FnExactGetFields': WHATEVER THE INPUT: true; the input reads as it did. -/
def fnExactGetFieldsSpec : ChangeSpec := { name := "fnExactGetFields", fn := fun _ => fun
  | [d] => { results := [.lit (.bool true)], args := [d] }
  | _ => none }
def fnExactGetFieldsRow : OpenClaim := { program := "ytmckpmibkjlliaa", sum := "9f56e05cba0e24928638a6aec371a2c0a4fcb950c2632f230b6ed26ca32801c7", func := "loop.example/g00716/laws.FnExactGetFields", spec := "fnExactGetFields", inPlace := ["internal/bytealg.IndexByteString"], unfollowed := true, recurses := true, apart := false }
def FnExactGetFieldsSaid : Prop := fnExactGetFieldsRow.holds Try.pinned (OpenSpec.ofChange fnExactGetFieldsSpec)

/-- ITS FALSE NEIGHBOUR: 'it returns false'. Refute it at one input. -/
def fnExactGetFieldsWrong : ChangeSpec := { name := "fnExactGetFields", fn := fun _ => fun
  | [d] => { results := [.lit (.bool false)], args := [d] }
  | _ => none }
def FnExactGetFieldsWrongFalsely : Prop := fnExactGetFieldsRow.holds Try.pinned (OpenSpec.ofChange fnExactGetFieldsWrong)

/-- 'laws.FnExactTextOf': WHATEVER THE INPUT: true; the input reads as it did. -/
def fnExactTextOfSpec : ChangeSpec := { name := "fnExactTextOf", fn := fun _ => fun
  | [d1, d2] => { results := [.lit (.bool true)], args := [d1, d2] }
  | _ => none }
def fnExactTextOfRow : OpenClaim := { program := "ytmckpmibkjlliaa", sum := "9f56e05cba0e24928638a6aec371a2c0a4fcb950c2632f230b6ed26ca32801c7", func := "loop.example/g00716/laws.FnExactTextOf", spec := "fnExactTextOf", unfollowed := true, recurses := true, apart := false }
def FnExactTextOfSaid : Prop := fnExactTextOfRow.holds Try.pinned (OpenSpec.ofChange fnExactTextOfSpec)

/-- ITS FALSE NEIGHBOUR: 'it returns false'. Refute it at one input. -/
def fnExactTextOfWrong : ChangeSpec := { name := "fnExactTextOf", fn := fun _ => fun
  | [d1, d2] => { results := [.lit (.bool false)], args := [d1, d2] }
  | _ => none }
def FnExactTextOfWrongFalsely : Prop := fnExactTextOfRow.holds Try.pinned (OpenSpec.ofChange fnExactTextOfWrong)

/-- 'laws.FnExactNumOf': WHATEVER THE INPUT: true; the input reads as it did. -/
def fnExactNumOfSpec : ChangeSpec := { name := "fnExactNumOf", fn := fun _ => fun
  | [d1, d2] => { results := [.lit (.bool true)], args := [d1, d2] }
  | _ => none }
def fnExactNumOfRow : OpenClaim := { program := "ytmckpmibkjlliaa", sum := "9f56e05cba0e24928638a6aec371a2c0a4fcb950c2632f230b6ed26ca32801c7", func := "loop.example/g00716/laws.FnExactNumOf", spec := "fnExactNumOf", unfollowed := true, recurses := true, apart := false }
def FnExactNumOfSaid : Prop := fnExactNumOfRow.holds Try.pinned (OpenSpec.ofChange fnExactNumOfSpec)

/-- ITS FALSE NEIGHBOUR: 'it returns false'. Refute it at one input. -/
def fnExactNumOfWrong : ChangeSpec := { name := "fnExactNumOf", fn := fun _ => fun
  | [d1, d2] => { results := [.lit (.bool false)], args := [d1, d2] }
  | _ => none }
def FnExactNumOfWrongFalsely : Prop := fnExactNumOfRow.holds Try.pinned (OpenSpec.ofChange fnExactNumOfWrong)

/-- 'laws.FnExactWithText': WHATEVER THE INPUT: true; the input reads as it did. -/
def fnExactWithTextSpec : ChangeSpec := { name := "fnExactWithText", fn := fun _ => fun
  | [d1, d2, d3] => { results := [.lit (.bool true)], args := [d1, d2, d3] }
  | _ => none }
def fnExactWithTextRow : OpenClaim := { program := "ytmckpmibkjlliaa", sum := "9f56e05cba0e24928638a6aec371a2c0a4fcb950c2632f230b6ed26ca32801c7", func := "loop.example/g00716/laws.FnExactWithText", spec := "fnExactWithText", unfollowed := true, recurses := true, apart := false }
def FnExactWithTextSaid : Prop := fnExactWithTextRow.holds Try.pinned (OpenSpec.ofChange fnExactWithTextSpec)

/-- ITS FALSE NEIGHBOUR: 'it returns false'. Refute it at one input. -/
def fnExactWithTextWrong : ChangeSpec := { name := "fnExactWithText", fn := fun _ => fun
  | [d1, d2, d3] => { results := [.lit (.bool false)], args := [d1, d2, d3] }
  | _ => none }
def FnExactWithTextWrongFalsely : Prop := fnExactWithTextRow.holds Try.pinned (OpenSpec.ofChange fnExactWithTextWrong)

/- THE SECOND FORM. 'bulk': how many values and letters a reading holds, each counted each time it is reached (what is shared counts as often as it is met; a slice's spare places count too). A statement '..UptoSaid' is the law's where the arguments, and the package variables that the reading takes, are together of bulk at most 1048576: NARROWER than '..Said'. Prove '..Said' where nothing that the law and all that it calls make is longer than what came in: it says more and counts as full. Else prove '..UptoSaid'. A law counts once. -/
mutual
def uptoBulk {H : Type} : DataW H → Nat
  | .lit (.string bytes) => bytes.length + 1
  | .lit _ => 1
  | .nil => 1
  | .ptr d => uptoBulk d + 1
  | .slice elems spare => uptoBulkAll elems + uptoBulkAll spare + 1
  | .agg parts => uptoBulkAll parts + 1
  | .iface _ d => uptoBulk d + 1
  | .map entries => uptoBulkEntries entries + 1
  | .held _ => 1
def uptoBulkAll {H : Type} : List (DataW H) → Nat
  | [] => 0
  | d :: r => uptoBulk d + uptoBulkAll r
def uptoBulkEntries {H : Type} : List (Lit × DataW H) → Nat
  | [] => 0
  | x :: r => uptoBulkEntry x + uptoBulkEntries r
def uptoBulkEntry {H : Type} : Lit × DataW H → Nat
  | (.string bytes, d) => bytes.length + uptoBulk d + 1
  | (_, d) => uptoBulk d + 1
 end
def uptoSmall : (H : Type) → List (DataW H) → Bool := fun _ ds => decide (uptoBulkAll ds ≤ 1048576)
def OpenSpec.upto (s : _root_.Go.ChangeSpec) : _root_.Go.OpenSpec := { _root_.Go.OpenSpec.ofChange s with cond := some uptoSmall }

/-- 'laws.FnFields', WHERE WHAT IT READS IS OF BULK AT MOST 1048576: true; the input reads as it did. -/
def fnFieldsUptoRow : OpenClaim := { program := "ytmckpmibkjlliaa", sum := "9f56e05cba0e24928638a6aec371a2c0a4fcb950c2632f230b6ed26ca32801c7", func := "loop.example/g00716/laws.FnFields", spec := "fnFields", inPlace := ["internal/abi.NoEscape", "internal/bytealg.MakeNoZero", "internal/bytealg.IndexByteString"], unfollowed := true, recurses := true, apart := false, narrowed := true }
def FnFieldsUptoSaid : Prop := fnFieldsUptoRow.holds Try.pinned (OpenSpec.upto fnFieldsSpec)

/-- 'laws.FnSaid', WHERE WHAT IT READS IS OF BULK AT MOST 1048576: true; the input reads as it did. -/
def fnSaidUptoRow : OpenClaim := { program := "ytmckpmibkjlliaa", sum := "9f56e05cba0e24928638a6aec371a2c0a4fcb950c2632f230b6ed26ca32801c7", func := "loop.example/g00716/laws.FnSaid", spec := "fnSaid", inPlace := ["internal/bytealg.IndexByteString", "internal/abi.NoEscape", "internal/bytealg.MakeNoZero"], unfollowed := true, recurses := true, apart := false, narrowed := true }
def FnSaidUptoSaid : Prop := fnSaidUptoRow.holds Try.pinned (OpenSpec.upto fnSaidSpec)

/-- 'laws.FnWith', WHERE WHAT IT READS IS OF BULK AT MOST 1048576: true; the input reads as it did. -/
def fnWithUptoRow : OpenClaim := { program := "ytmckpmibkjlliaa", sum := "9f56e05cba0e24928638a6aec371a2c0a4fcb950c2632f230b6ed26ca32801c7", func := "loop.example/g00716/laws.FnWith", spec := "fnWith", unfollowed := true, recurses := true, apart := false, narrowed := true }
def FnWithUptoSaid : Prop := fnWithUptoRow.holds Try.pinned (OpenSpec.upto fnWithSpec)

/-- 'laws.FnExactFieldsOk', WHERE WHAT IT READS IS OF BULK AT MOST 1048576: true; the input reads as it did. -/
def fnExactFieldsOkUptoRow : OpenClaim := { program := "ytmckpmibkjlliaa", sum := "9f56e05cba0e24928638a6aec371a2c0a4fcb950c2632f230b6ed26ca32801c7", func := "loop.example/g00716/laws.FnExactFieldsOk", spec := "fnExactFieldsOk", unfollowed := true, recurses := true, apart := false, narrowed := true }
def FnExactFieldsOkUptoSaid : Prop := fnExactFieldsOkUptoRow.holds Try.pinned (OpenSpec.upto fnExactFieldsOkSpec)

/-- 'laws.FnExactPutFields', WHERE WHAT IT READS IS OF BULK AT MOST 1048576: true; the input reads as it did. -/
def fnExactPutFieldsUptoRow : OpenClaim := { program := "ytmckpmibkjlliaa", sum := "9f56e05cba0e24928638a6aec371a2c0a4fcb950c2632f230b6ed26ca32801c7", func := "loop.example/g00716/laws.FnExactPutFields", spec := "fnExactPutFields", inPlace := ["internal/abi.NoEscape", "internal/bytealg.MakeNoZero"], unfollowed := true, recurses := true, apart := false, narrowed := true }
def FnExactPutFieldsUptoSaid : Prop := fnExactPutFieldsUptoRow.holds Try.pinned (OpenSpec.upto fnExactPutFieldsSpec)

/-- 'laws.FnExactGetFields', WHERE WHAT IT READS IS OF BULK AT MOST 1048576: true; the input reads as it did. -/
def fnExactGetFieldsUptoRow : OpenClaim := { program := "ytmckpmibkjlliaa", sum := "9f56e05cba0e24928638a6aec371a2c0a4fcb950c2632f230b6ed26ca32801c7", func := "loop.example/g00716/laws.FnExactGetFields", spec := "fnExactGetFields", inPlace := ["internal/bytealg.IndexByteString"], unfollowed := true, recurses := true, apart := false, narrowed := true }
def FnExactGetFieldsUptoSaid : Prop := fnExactGetFieldsUptoRow.holds Try.pinned (OpenSpec.upto fnExactGetFieldsSpec)

/-- 'laws.FnExactTextOf', WHERE WHAT IT READS IS OF BULK AT MOST 1048576: true; the input reads as it did. -/
def fnExactTextOfUptoRow : OpenClaim := { program := "ytmckpmibkjlliaa", sum := "9f56e05cba0e24928638a6aec371a2c0a4fcb950c2632f230b6ed26ca32801c7", func := "loop.example/g00716/laws.FnExactTextOf", spec := "fnExactTextOf", unfollowed := true, recurses := true, apart := false, narrowed := true }
def FnExactTextOfUptoSaid : Prop := fnExactTextOfUptoRow.holds Try.pinned (OpenSpec.upto fnExactTextOfSpec)

/-- 'laws.FnExactNumOf', WHERE WHAT IT READS IS OF BULK AT MOST 1048576: true; the input reads as it did. -/
def fnExactNumOfUptoRow : OpenClaim := { program := "ytmckpmibkjlliaa", sum := "9f56e05cba0e24928638a6aec371a2c0a4fcb950c2632f230b6ed26ca32801c7", func := "loop.example/g00716/laws.FnExactNumOf", spec := "fnExactNumOf", unfollowed := true, recurses := true, apart := false, narrowed := true }
def FnExactNumOfUptoSaid : Prop := fnExactNumOfUptoRow.holds Try.pinned (OpenSpec.upto fnExactNumOfSpec)

/-- 'laws.FnExactWithText', WHERE WHAT IT READS IS OF BULK AT MOST 1048576: true; the input reads as it did. -/
def fnExactWithTextUptoRow : OpenClaim := { program := "ytmckpmibkjlliaa", sum := "9f56e05cba0e24928638a6aec371a2c0a4fcb950c2632f230b6ed26ca32801c7", func := "loop.example/g00716/laws.FnExactWithText", spec := "fnExactWithText", unfollowed := true, recurses := true, apart := false, narrowed := true }
def FnExactWithTextUptoSaid : Prop := fnExactWithTextUptoRow.holds Try.pinned (OpenSpec.upto fnExactWithTextSpec)

end Rows
end Go.Proofs.Ytmckpmibkjlliaa
