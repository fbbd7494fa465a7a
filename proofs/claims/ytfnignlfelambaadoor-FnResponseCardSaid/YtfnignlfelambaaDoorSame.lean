/- CONTRACT of the laws' samePairs. -/
import Derived.Test.YtfnignlfelambaaDoorPairs
namespace Go.Proofs.YtfnignlfelambaaDoor
set_option linter.unusedVariables false
set_option maxRecDepth 4000
open Go.ChangeShapes Go.WideShapes Go.ChangeAt Go.RowKit
open Go.ChangeMaps (open_string shut_string)

set_option maxHeartbeats 800000 in
theorem samePairs_call (v1 v2 : Value) (l : List PairL) (w : World) (h1 : PAt w v1 l) (h2 : PAt w v2 l) (hn : l.length ≤ 2097152) :
    Calls Tryd.prog 37 #[v1, v2] w fun e w' => e = .returned (.bool true) ∧ Below w.heap.size w w' := by
  obtain ⟨a1, cap1, rfl, hc1⟩ := h1
  obtain ⟨a2, cap2, rfl, hc2⟩ := h2
  have HC1 := Lib.hid hc1
  have HC2 := Lib.hid hc2
  clear hc1 hc2
  go_enter Tryd.func37, Tryd.ntmps37
  go_wp2
  go_loopw [5] (fun i wr => ∃ k : Nat, k ≤ l.length ∧ i = .int .i64 k ∧ Below w.heap.size w wr) (fun i _ => l.length - (intOf i).toNat)
  case atStart => exact ⟨0, by omega, rfl, Below.refl _ _⟩
  case round =>
    obtain ⟨k, hk, rfl, hbel⟩ := hrel
    by_cases hlt : k < l.length
    · rcases HC1.out with h0 | ⟨g1, o1, rfl, hg1, hcell1⟩
      · omega
      rcases HC2.out with h0 | ⟨g2, o2, rfl, hg2, hcell2⟩
      · omega
      obtain ⟨c1, c2⟩ := hcell1 k hlt
      obtain ⟨d1, d2⟩ := hcell2 k hlt
      have c1 := (hbel.cell (p := ⟨g1, _, none⟩) hg1).trans c1
      have c2 := (hbel.cell (p := ⟨g1, _, none⟩) hg1).trans c2
      have d1 := (hbel.cell (p := ⟨g2, _, none⟩) hg2).trans d1
      have d2 := (hbel.cell (p := ⟨g2, _, none⟩) hg2).trans d2
      clear hcell1 hcell2
      generalize l[k] = p at c1 c2 d1 d2
      obtain ⟨pk, pv⟩ := p
      simp only at c1 c2 d1 d2
      have hi0 : (0 : Int) ≤ (k : Int) := by omega
      have hi1 : (k : Int) < (l.length : Int) := by omega
      go_wp2
      go_quiet (fail)
      go_wp2
      go_roundw
      case rel => exact ⟨k + 1, by omega, by go_num, below_drewN hbel _⟩
      case measure => simp [intOf]; omega
    · go_wp2
      go_ret
      exact ⟨rfl, hbel⟩

end Go.Proofs.YtfnignlfelambaaDoor
