/- A byte's reading as a letter. -/
import Derived.WalkKit
import Derived.ProofKit
namespace Go.Proofs.YtonpalaopnfffaaGreatDoor

theorem byte_of (a : Int) (h : (Lit.int .u8 a).wf = true) : ∃ b : UInt8, a = ((b.toNat : Nat) : Int) := by
  have hx : 0 ≤ a ∧ a ≤ 255 := by simpa [Lit.wf, IntKind.min, IntKind.max, IntKind.signed, IntKind.bits] using h
  refine ⟨UInt8.ofNat a.toNat, ?_⟩
  rw [UInt8.toNat_ofNat']
  omega
end Go.Proofs.YtonpalaopnfffaaGreatDoor
