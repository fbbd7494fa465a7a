/- CONTRACTS: jars compared. -/
import Derived.Test.YtdgfiebehnfpgaaCkR
import Derived.Test.YtdgfiebehnfpgaaCkEq
namespace Go.Proofs.Ytdgfiebehnfpgaa
set_option linter.unusedVariables false
set_option maxRecDepth 4000
open Go.ChangeShapes Go.WideShapes Go.ChangeAt Go.RowKit
open Go.ChangeMaps (open_string shut_string)

namespace Ck
open Ht

set_option maxHeartbeats 3200000 in
theorem sameJar_call (v1 v2 : Value) (l : List CkL) (w : World) (h1 : JAt w v1 l) (h2 : JAt w v2 l) (hn : l.length ≤ 2097152) :
    Calls Try.prog 10 #[v1, v2] w fun e w' => e = .returned (.bool true) ∧ Below w.heap.size w w' := by
  have H1 := Lib.hid h1
  have H2 := Lib.hid h2
  obtain ⟨a1, cap1, rfl, _⟩ := h1
  obtain ⟨a2, cap2, rfl, _⟩ := h2
  go_enter Try.func10, Try.ntmps10
  go_wp2
  go_loopw [5] (fun i wr => ∃ k : Nat, k ≤ l.length ∧ i = .int .i64 k ∧ Below w.heap.size w wr) (fun i _ => l.length - (intOf i).toNat)
  case atStart => exact ⟨0, by omega, rfl, Below.refl _ _⟩
  case round =>
    obtain ⟨k, hk, rfl, hbel⟩ := hrel
    by_cases hlt : k < l.length
    · obtain ⟨g1, o1, rfl, hg1, c0, c1, c2, c3, c4, c5⟩ := JAt.cells (Grid.GAt.below H1.out hbel) k hlt
      obtain ⟨g2, o2, rfl, hg2, d0, d1, d2, d3, d4, d5⟩ := JAt.cells (Grid.GAt.below H2.out hbel) k hlt
      generalize l[k] = p at c0 c1 c2 c3 c4 c5 d0 d1 d2 d3 d4 d5
      have EQ := cookie_eql p p
      rw [eqC_self] at EQ
      unfold ckV at EQ
      have hi0 : (0 : Int) ≤ (k : Int) := by omega
      have hi1 : (k : Int) < (l.length : Int) := by omega
      go_wp2
      go_quiet (fail)
      go_wp2
      go_roundw
      case rel => exact ⟨k + 1, by omega, by go_num, below_drewN hbel _⟩
      case measure => simp [intOf]; omega
    · go_wp2
      go_ret
      exact ⟨rfl, hbel⟩

end Ck
end Go.Proofs.Ytdgfiebehnfpgaa
