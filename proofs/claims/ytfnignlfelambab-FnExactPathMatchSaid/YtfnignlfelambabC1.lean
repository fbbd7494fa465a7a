/- CONTRACTS of the functions of texts and numbers (the first layer), of the program and of its model: what each call gives back, and that what was there before stays. -/
import Derived.Test.YtfnignlfelambabLem
import Derived.Test.YtfnignlfelambabProg

namespace Go.Proofs.Ytfnignlfelambab
set_option linter.unusedVariables false
set_option maxRecDepth 4000
open Go.ChangeShapes Go.WideShapes Go.ChangeAt Go.RowKit
open Go.ChangeMaps (open_string shut_string)

theorem Try.info5 : (Try.prog.info? 5).map (fun i => (i.zero, i.size, i.bytes)) = some (some (.int .u8 0), 1, 1) := by kernel_rfl

theorem index_wrap (s : ByteArray) (c : UInt8) (w : World) :
    Calls Try.prog 43 #[.string s, .int .u8 c.toNat] w fun e w' => e = .returned (.int .i64 (Lib.indexByte s.data.toList c)) ∧ w = w' := by
  have hc : ((c.toNat : Int)).toNat.toUInt8 = c := by simp
  go_enter Try.func43, Try.ntmps43
  go_wp2
  rw [run_callFunc_extern Try.func51 (by kernel_rfl) (by kernel_rfl) (by kernel_rfl) (e := Extern.BytealgIndexByte.indexByte) (by kernel_rfl), Lib.run_indexByteString, hc]
  simp only [Result.andThen]
  rw [Oper.upon_value]
  go_wp2
  go_ret
  exact ⟨rfl, rfl⟩

set_option maxHeartbeats 400000 in
theorem cut_impl_no (s : ByteArray) (c : UInt8) (w : World) (h : ∀ j (hj : j < s.size), s[j] ≠ c) :
    Calls Try.prog 47 #[.string s, .int .u8 c.toNat] w fun e w' => e = .returned (.tuple #[.string s, .string ⟨#[]⟩, .bool false]) ∧ Below w.heap.size w w' := by
  have H := Lib.hid (index_no s c h)
  clear h
  go_enter Try.func47, Try.ntmps47
  go_wp2_with fail
  refine (index_wrap s c _).mono ?_
  rintro e w1 ⟨rfl, rfl⟩
  rw [H.out]
  go_wp2
  go_ret3
  exact ⟨rfl, Below.refl _ _⟩

set_option maxHeartbeats 400000 in
theorem cut_impl_yes (s : ByteArray) (c : UInt8) (w : World) (hs : s.size ≤ 1048576) (n : Nat) (hn : n < s.size) (hc : s[n] = c) (h : ∀ j (hj : j < n), s[j] ≠ c) :
    Calls Try.prog 47 #[.string s, .int .u8 c.toNat] w fun e w' => e = .returned (.tuple #[.string (s.extract 0 n), .string (s.extract (n + 1) s.size), .bool true]) ∧ Below w.heap.size w w' := by
  have H := Lib.hid (index_yes s c n hn hc h)
  clear h hc
  go_enter Try.func47, Try.ntmps47
  go_wp2_with fail
  refine (index_wrap s c _).mono ?_
  rintro e w1 ⟨rfl, rfl⟩
  rw [H.out]
  go_wp2
  go_quiet (fail)
  go_wp2
  go_ret3
  exact ⟨rfl, below_drewN (Below.refl _ _) _⟩

theorem hexI_call (c : UInt8) (w : World) :
    Calls Try.prog 43 #[.string { data := #[48, 49, 50, 51, 52, 53, 54, 55, 56, 57, 97, 98, 99, 100, 101, 102] }, .int .u8 c.toNat] w fun e w' => e = .returned (.int .i64 (hexI c)) ∧ w = w' :=
  index_wrap hexs c w

end Go.Proofs.Ytfnignlfelambab
