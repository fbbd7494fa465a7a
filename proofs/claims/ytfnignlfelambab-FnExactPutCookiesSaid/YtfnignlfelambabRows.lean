/-
  No cell of these rows narrows 'for every input' (looked for: loops, veiled, ifaces, maps, wideKeys, modest, calm, conditions, laid).
  DERIVED. THE GIVEN ROWS OF THIS SEAT. 3 by the template 'for every input the law returns true; each argument reads behind the call as it read before'; 0 by the template 'total and deterministic' (their statements: YtfnignlfelambabTotals.lean).
  GIVEN WITH THE SEED: the statements are not yours to turn. If you find one false, say at which input.
  Laid BY PROGRAM, IN A SANDBOX (cutbox-rows.mjs): the forced cells as the released guide's own fill.sh prints them over the translation a205399ef5c5ba97… (all of the seat's roots in one cut). By AI agents, Wed Nov 11 2026. No macro, syntax, notation, axiom, sorry.
-/
import Derived.Test.YtfnignlfelambabChecked
import GoSem.Claim
import GoSem.ClaimJoined
import GoSem.ClaimMapViews
import Derived.JoinedTies
import Derived.KernelRfl
namespace Go.Proofs.Ytfnignlfelambab
/- THE CELL 'sum', in the pinned program and in every row, IS THE sha256 OF THE DUMP (.gsa) THAT YtfnignlfelambabProg.lean LOADS. Nothing in Lean hashes anything: it is a label: what it is worth is what the hold of that sum in a sandbox is worth. -/
noncomputable def Try.pinned : Pinned := { name := "ytfnignlfelambab", sum := "a205399ef5c5ba9787650bd4f9abc561a529087352d750681c6b650d5294a9c3", checked := Try.checked }
namespace Rows
def none {H : Type} : Left H := { results := [], args := [] }

/-- 'laws.FnExactDomainMatch': WHATEVER THE INPUT: true; the input reads as it did. -/
def fnExactDomainMatchSpec : ChangeSpec := { name := "fnExactDomainMatch", fn := fun _ => fun
  | [d1, d2] => { results := [.lit (.bool true)], args := [d1, d2] }
  | _ => none }
def fnExactDomainMatchRow : OpenClaim := { program := "ytfnignlfelambab", sum := "a205399ef5c5ba9787650bd4f9abc561a529087352d750681c6b650d5294a9c3", func := "loop.example/g00716/laws.FnExactDomainMatch", spec := "fnExactDomainMatch", inPlace := ["internal/bytealg.IndexByteString"], unfollowed := true, recurses := true, apart := false }
def FnExactDomainMatchSaid : Prop := fnExactDomainMatchRow.holds Try.pinned (OpenSpec.ofChange fnExactDomainMatchSpec)

/-- ITS FALSE NEIGHBOUR: 'it returns false'. Refute it at one input. -/
def fnExactDomainMatchWrong : ChangeSpec := { name := "fnExactDomainMatch", fn := fun _ => fun
  | [d1, d2] => { results := [.lit (.bool false)], args := [d1, d2] }
  | _ => none }
def FnExactDomainMatchWrongFalsely : Prop := fnExactDomainMatchRow.holds Try.pinned (OpenSpec.ofChange fnExactDomainMatchWrong)

/-- 'laws.FnExactPathMatch': WHATEVER THE INPUT: true; the input reads as it did. -/
def fnExactPathMatchSpec : ChangeSpec := { name := "fnExactPathMatch", fn := fun _ => fun
  | [d1, d2] => { results := [.lit (.bool true)], args := [d1, d2] }
  | _ => none }
def fnExactPathMatchRow : OpenClaim := { program := "ytfnignlfelambab", sum := "a205399ef5c5ba9787650bd4f9abc561a529087352d750681c6b650d5294a9c3", func := "loop.example/g00716/laws.FnExactPathMatch", spec := "fnExactPathMatch", inPlace := ["internal/bytealg.IndexByteString"], unfollowed := true, recurses := true, apart := false }
def FnExactPathMatchSaid : Prop := fnExactPathMatchRow.holds Try.pinned (OpenSpec.ofChange fnExactPathMatchSpec)

/-- ITS FALSE NEIGHBOUR: 'it returns false'. Refute it at one input. -/
def fnExactPathMatchWrong : ChangeSpec := { name := "fnExactPathMatch", fn := fun _ => fun
  | [d1, d2] => { results := [.lit (.bool false)], args := [d1, d2] }
  | _ => none }
def FnExactPathMatchWrongFalsely : Prop := fnExactPathMatchRow.holds Try.pinned (OpenSpec.ofChange fnExactPathMatchWrong)

/-- 'laws.FnExactPutCookies': WHATEVER THE INPUT: true; the input reads as it did. -/
def fnExactPutCookiesSpec : ChangeSpec := { name := "fnExactPutCookies", fn := fun _ => fun
  | [d] => { results := [.lit (.bool true)], args := [d] }
  | _ => none }
def fnExactPutCookiesRow : OpenClaim := { program := "ytfnignlfelambab", sum := "a205399ef5c5ba9787650bd4f9abc561a529087352d750681c6b650d5294a9c3", func := "loop.example/g00716/laws.FnExactPutCookies", spec := "fnExactPutCookies", inPlace := ["internal/abi.NoEscape", "internal/bytealg.MakeNoZero"], apart := false }
def FnExactPutCookiesSaid : Prop := fnExactPutCookiesRow.holds Try.pinned (OpenSpec.ofChange fnExactPutCookiesSpec)

/-- ITS FALSE NEIGHBOUR: 'it returns false'. Refute it at one input. -/
def fnExactPutCookiesWrong : ChangeSpec := { name := "fnExactPutCookies", fn := fun _ => fun
  | [d] => { results := [.lit (.bool false)], args := [d] }
  | _ => none }
def FnExactPutCookiesWrongFalsely : Prop := fnExactPutCookiesRow.holds Try.pinned (OpenSpec.ofChange fnExactPutCookiesWrong)

/- THE SECOND FORM. 'bulk': how many values and letters a reading holds, each counted each time it is reached (what is shared counts as often as it is met; a slice's spare places count too). A statement '..UptoSaid' is the law's where the arguments, and the package variables that the reading takes, are together of bulk at most 1048576: NARROWER than '..Said'. Prove '..Said' where nothing that the law and all that it calls make is longer than what came in: it says more and counts as full. Else prove '..UptoSaid'. A law counts once. -/
mutual
def uptoBulk {H : Type} : DataW H → Nat
  | .lit (.string bytes) => bytes.length + 1
  | .lit _ => 1
  | .nil => 1
  | .ptr d => uptoBulk d + 1
  | .slice elems spare => uptoBulkAll elems + uptoBulkAll spare + 1
  | .agg parts => uptoBulkAll parts + 1
  | .iface _ d => uptoBulk d + 1
  | .map entries => uptoBulkEntries entries + 1
  | .held _ => 1
def uptoBulkAll {H : Type} : List (DataW H) → Nat
  | [] => 0
  | d :: r => uptoBulk d + uptoBulkAll r
def uptoBulkEntries {H : Type} : List (Lit × DataW H) → Nat
  | [] => 0
  | x :: r => uptoBulkEntry x + uptoBulkEntries r
def uptoBulkEntry {H : Type} : Lit × DataW H → Nat
  | (.string bytes, d) => bytes.length + uptoBulk d + 1
  | (_, d) => uptoBulk d + 1
 end
def uptoSmall : (H : Type) → List (DataW H) → Bool := fun _ ds => decide (uptoBulkAll ds ≤ 1048576)
def OpenSpec.upto (s : _root_.Go.ChangeSpec) : _root_.Go.OpenSpec := { _root_.Go.OpenSpec.ofChange s with cond := some uptoSmall }

/-- 'laws.FnExactDomainMatch', WHERE WHAT IT READS IS OF BULK AT MOST 1048576: true; the input reads as it did. -/
def fnExactDomainMatchUptoRow : OpenClaim := { program := "ytfnignlfelambab", sum := "a205399ef5c5ba9787650bd4f9abc561a529087352d750681c6b650d5294a9c3", func := "loop.example/g00716/laws.FnExactDomainMatch", spec := "fnExactDomainMatch", inPlace := ["internal/bytealg.IndexByteString"], unfollowed := true, recurses := true, apart := false, narrowed := true }
def FnExactDomainMatchUptoSaid : Prop := fnExactDomainMatchUptoRow.holds Try.pinned (OpenSpec.upto fnExactDomainMatchSpec)

/-- 'laws.FnExactPathMatch', WHERE WHAT IT READS IS OF BULK AT MOST 1048576: true; the input reads as it did. -/
def fnExactPathMatchUptoRow : OpenClaim := { program := "ytfnignlfelambab", sum := "a205399ef5c5ba9787650bd4f9abc561a529087352d750681c6b650d5294a9c3", func := "loop.example/g00716/laws.FnExactPathMatch", spec := "fnExactPathMatch", inPlace := ["internal/bytealg.IndexByteString"], unfollowed := true, recurses := true, apart := false, narrowed := true }
def FnExactPathMatchUptoSaid : Prop := fnExactPathMatchUptoRow.holds Try.pinned (OpenSpec.upto fnExactPathMatchSpec)

/-- 'laws.FnExactPutCookies', WHERE WHAT IT READS IS OF BULK AT MOST 1048576: true; the input reads as it did. -/
def fnExactPutCookiesUptoRow : OpenClaim := { program := "ytfnignlfelambab", sum := "a205399ef5c5ba9787650bd4f9abc561a529087352d750681c6b650d5294a9c3", func := "loop.example/g00716/laws.FnExactPutCookies", spec := "fnExactPutCookies", inPlace := ["internal/abi.NoEscape", "internal/bytealg.MakeNoZero"], apart := false, narrowed := true }
def FnExactPutCookiesUptoSaid : Prop := fnExactPutCookiesUptoRow.holds Try.pinned (OpenSpec.upto fnExactPutCookiesSpec)

end Rows
end Go.Proofs.Ytfnignlfelambab
