/- CONTRACTS of PutSet, the model's and the program's; the attributes' names. -/
import Derived.Test.YtdgfiebehnfpgaaGreatDoorC1
import Derived.Test.YtdgfiebehnfpgaaGreatDoorShelf
import Derived.Lib.AppendIntMem
import Derived.Test.YtdgfiebehnfpgaaGreatDoorCkL
import Derived.Test.YtdgfiebehnfpgaaGreatDoorCkB
import Derived.Lib.LaidTab
namespace Go.Proofs.YtdgfiebehnfpgaaGreatDoor
set_option linter.unusedVariables false
set_option maxRecDepth 4000
open Go.ChangeShapes Go.WideShapes Go.ChangeAt Go.RowKit

theorem dectext_impl (n : Int) (h0 : -9223372036854775808 ≤ n) (h1 : n ≤ 9223372036854775807) (w : World) (htab : Lib.TabIs Tryz.prog w "internal/strconv.uint64pow10" .u64 Lib.pow10Tab) :
    Calls Tryz.prog 72 #[.int .i64 n] w fun e w' => e = .returned (.string (txt (Lib.itoa n))) ∧ Below w.heap.size w w' := by
  have HT := Lib.hid htab
  clear htab
  go_enter Tryz.func72, Tryz.ntmps72
  go_wp2_with fail
  refine (Tryz.strconv_Itoa n h0 h1 _ HT.out).mono ?_
  rintro e w1 ⟨rfl, k, os, rfl⟩
  go_wp2
  go_ret
  exact ⟨rfl, Lib.below_grow _ _ (Nat.le_refl _) _ _⟩
end Go.Proofs.YtdgfiebehnfpgaaGreatDoor

namespace Go.Proofs.YtdgfiebehnfpgaaGreatDoor
set_option linter.unusedVariables false
set_option maxRecDepth 4000
open Go.ChangeShapes Go.WideShapes Go.ChangeAt Go.RowKit
open Go.ChangeMaps (open_string shut_string)

namespace Ck
open Ht

/-- the attributes' names lie in their variable -/
def Nm (w : World) : Prop := 0 < w.heap.size ∧ w.cell? ⟨0, 0, none⟩ = some (.string (txt pathT)) ∧ w.cell? ⟨0, 1, none⟩ = some (.string (txt domT)) ∧ w.cell? ⟨0, 2, none⟩ = some (.string (txt ageT))

theorem nm_below {w w' : World} (h : Nm w) (hb : Below w.heap.size w w') : Nm w' := by
  obtain ⟨h1, h2, h3, h4⟩ := h
  exact ⟨Nat.lt_of_lt_of_le h1 hb.size, (hb.cell (p := ⟨_, 0, none⟩) h1).trans h2, (hb.cell (p := ⟨_, 1, none⟩) h1).trans h3, (hb.cell (p := ⟨_, 2, none⟩) h1).trans h4⟩

/-- the pow table is there, and stays -/
def Pt (w : World) : Prop := ∀ w', Below w.heap.size w w' → Lib.TabIs Tryz.prog w' "internal/strconv.uint64pow10" .u64 Lib.pow10Tab

theorem pt_below {w w' : World} (h : Pt w) (hb : Below w.heap.size w w') : Pt w' := fun w'' h2 => h w'' (bstep hb h2)

theorem pt_of {w : World} (h : Lib.TabIs Tryz.prog w "internal/strconv.uint64pow10" .u64 Lib.pow10Tab) : Pt w := Lib.tabBelow_of_tabIs h

theorem ck_small {c : CkL} (h : ckOk c = true) : c.n.length ≤ 30 ∧ c.v.length ≤ 600 ∧ c.d.length ≤ 60 ∧ c.p.length ≤ 61 := by
  obtain ⟨h1, h2, h3, h4, _⟩ := ck_parts h
  unfold nmL at h1
  unfold vlL at h2
  unfold hostL at h3
  unfold pathL at h4
  simp only [Bool.and_eq_true, decide_eq_true_eq] at h1 h2 h3 h4
  exact ⟨h1.2.2, h2.2, h3.2.2, h4.1.1⟩

end Ck
end Go.Proofs.YtdgfiebehnfpgaaGreatDoor
