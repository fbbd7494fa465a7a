/- CONTRACTS of Head, the model's and the program's. -/
import Derived.Test.YtfnignlfelambaaGreatDoorHtOk3
namespace Go.Proofs.YtfnignlfelambaaGreatDoor
set_option linter.unusedVariables false
set_option maxRecDepth 4000
open Go.ChangeShapes Go.WideShapes Go.ChangeAt Go.RowKit
open Go.ChangeMaps (open_string shut_string)

namespace Ht

theorem low_length (l : List UInt8) : (lowL l).length = l.length := by simp [lowL]

set_option maxHeartbeats 800000 in
theorem sameHead_call (a b : List UInt8) (w : World) (ha : a.length ≤ 1048576) (hb : b.length ≤ 1048576) :
    Calls Tryz.prog 68 #[.string (txt a), .string (txt b)] w fun e w' => e = .returned (.bool (decide (lowL a = lowL b))) ∧ Below w.heap.size w w' := by
  have za := txt_size a
  have zb := txt_size b
  have CA := Lib.hid (fun wx => lower_impl (txt a) wx (by omega))
  have CB := Lib.hid (fun wx => lower_impl (txt b) wx (by omega))
  have he := txt_beq (lowL a) (lowL b)
  rw [txt_toList] at CA CB
  by_cases hl : a.length = b.length
  · have il : (a.length : Int) = (b.length : Int) := by omega
    generalize decide (lowL a = lowL b) = R at he ⊢
    generalize lowL a = x at CA he
    generalize lowL b = y at CB he
    go_enter Tryz.func68, Tryz.ntmps68
    go_wp2_with fail
    refine (CA.out _).mono ?_
    rintro e w1 ⟨rfl, b1⟩
    go_wp2_with fail
    refine (CB.out _).mono ?_
    rintro e w2 ⟨rfl, b2⟩
    go_wp2
    go_ret
    exact ⟨rfl, bstep b1 b2⟩
  · have il : ((a.length : Int) == (b.length : Int)) = false := by
      rw [Bool.eq_false_iff]
      intro e
      have := eq_of_beq e
      omega
    have HR := Lib.hid (show decide (lowL a = lowL b) = false from decide_eq_false fun e => hl (by rw [← low_length a, ← low_length b, e]))
    generalize decide (lowL a = lowL b) = R at HR ⊢
    go_enter Tryz.func68, Tryz.ntmps68
    go_wp2
    go_ret
    exact ⟨ret_bool HR.out.symm, Below.refl _ _⟩

theorem headV_eq (key : List UInt8) (l : List PairL) (k : Nat) (hk : k < l.length) : headV key (l.drop k) = if lowL l[k].1 = lowL key then some l[k].2 else headV key (l.drop (k + 1)) := by
  rw [List.drop_eq_getElem_cons hk, headV]

end Ht
end Go.Proofs.YtfnignlfelambaaGreatDoor
