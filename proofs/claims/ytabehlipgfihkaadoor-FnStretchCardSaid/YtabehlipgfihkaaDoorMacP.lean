/- CONTRACTS of the program's Mac, Stretch, NewName. -/
import Derived.Test.YtabehlipgfihkaaDoorMacM
import Derived.Test.YtabehlipgfihkaaDoorDec
namespace Go.Proofs.YtabehlipgfihkaaDoor
set_option linter.unusedVariables false
set_option maxRecDepth 4000
open Go.ChangeShapes Go.WideShapes Go.ChangeAt Go.RowKit
open Go.ChangeMaps (open_string shut_string)
open Sh

namespace Mk

theorem mac_impl (k s : ByteArray) (hk : k.size ≤ 1048576) (hs : s.size ≤ 1048576) (w : World) (hK : W32At w 0 K) :
    Calls Tryd.prog 14 #[.string k, .string s] w fun e w' => e = .returned (.string (txt (macL k.data.toList s.data.toList))) ∧ Below w.heap.size w w' := by
  have U := Lib.hid (fun wx hk2 => under_call k (by omega) wx hk2)
  have C := Lib.hid (fun b3 b4 wx h3 h4 hk2 => clos_call k.data.toList s hs b3 b4 wx h3 h4 hk2)
  have HKK := Lib.hid hK
  clear hK
  generalize macL k.data.toList s.data.toList = R at C
  go_enter Tryd.func14, Tryd.ntmps14
  go_wp2_with fail
  refine (U.out _ HKK.out).mono ?_
  rintro e w1 ⟨b3, b4, rfl, h3, h4, b1⟩
  unfold macF
  go_wp2_with fail
  refine (C.out _ _ _ h3 h4 (HKK.out.below b1)).mono ?_
  rintro e w2 ⟨rfl, b2⟩
  go_wp2
  go_ret
  exact ⟨rfl, bstep b1 b2⟩

set_option maxHeartbeats 800000 in
theorem stretch_impl (k s : ByteArray) (t : Int) (ht1 : -9223372036854775808 ≤ t) (ht2 : t ≤ 9223372036854775807) (hk : k.size ≤ 1048576) (hs : s.size ≤ 1048576) (w : World) (hK : W32At w 0 K) :
    Calls Tryd.prog 10 #[.string k, .string s, .int .i64 t] w fun e w' => e = .returned (.string (txt (strL k.data.toList s.data.toList t))) ∧ Below w.heap.size w w' := by
  obtain ⟨R, hR⟩ : ∃ R, R = strL k.data.toList s.data.toList t := ⟨_, rfl⟩
  have HR := Lib.hid (show R = strN (timesN t) k.data.toList s.data.toList from hR)
  rw [← hR]
  clear hR
  have hdl := data_length s
  have U := Lib.hid (fun wx hk2 => under_call k (by omega) wx hk2)
  have C := Lib.hid (fun (l : List UInt8) (hl : l.length ≤ 1048576) b3 b4 wx h3 h4 hk2 => clos_call k.data.toList (txt l) (by rw [txt_size]; exact hl) b3 b4 wx h3 h4 hk2)
  simp only [txt_toList] at C
  have HN := Lib.hid (fun n => (strN_snoc n k.data.toList s.data.toList).symm)
  have HL := Lib.hid (fun n => strN_len n k.data.toList s.data.toList (by omega))
  have HKK := Lib.hid hK
  clear hK
  have H0 := Lib.hid (show s = txt (strN 0 k.data.toList s.data.toList) by rw [strN, txt_of])
  have hn1 : min (max t 1) 50 = ((timesN t : Nat) : Int) := by rcases timesN_is t with h | h | h <;> omega
  have hn50 : timesN t ≤ 50 := by rcases timesN_is t with h | h | h <;> omega
  generalize timesN t = n at HR hn1 hn50
  go_enter Tryd.func10, Tryd.ntmps10
  go_wp2_with fail
  refine (U.out _ HKK.out).mono ?_
  rintro e w1 ⟨b3, b4, rfl, h3, h4, b1⟩
  unfold macF
  go_wp2
  clear hn1
  rw [H0.out]
  go_loopw [8, 15] (fun v i wr => ∃ j : Nat, j ≤ n ∧ i = .int .i64 j ∧ v = .string (txt (strN j k.data.toList s.data.toList)) ∧ Below w1.heap.size w1 wr) (fun _ i _ => 50 - (intOf i).toNat)
  case atStart => exact ⟨0, by omega, rfl, rfl, Below.refl _ _⟩
  case round =>
    obtain ⟨j, hjn, rfl, rfl, hbel⟩ := hrel
    by_cases hlt : j < n
    · have h1 : (j : Int) < (n : Int) := by omega
      go_wp2_with fail
      refine (C.out _ (HL.out j) _ _ _ (h3.below hbel) (h4.below hbel) (HKK.out.below (bstep b1 hbel))).mono ?_
      rintro e w2 ⟨rfl, b2⟩
      rw [HN.out j]
      go_wp2
      exact ⟨⟨j + 1, by omega, by go_num, rfl, bstep hbel b2⟩, by simp [intOf]; omega⟩
    · obtain rfl : j = n := by omega
      go_wp2
      go_ret
      exact ⟨by rw [HR.out]; rfl, bstep b1 hbel⟩

set_option maxHeartbeats 800000 in
theorem name_impl (k : ByteArray) (n : Int) (h1 : -9223372036854775808 ≤ n) (h2 : n ≤ 9223372036854775807) (hk : k.size ≤ 1048576) (w : World) (hK : W32At w 0 K)
    (htab : ∀ w', Below w.heap.size w w' → Lib.TabIs Tryd.prog w' "internal/strconv.uint64pow10" .u64 Lib.pow10Tab) :
    Calls Tryd.prog 12 #[.string k, .int .i64 n] w fun e w' => e = .returned (.string (txt (nameL k.data.toList (Lib.itoa n)))) ∧ Below w.heap.size w w' := by
  have hil := itoa_short n h1 h2
  have HN := Lib.hid (show nameL k.data.toList (Lib.itoa n) = hexL ((macL k.data.toList (Lib.itoa n)).take 8) from rfl)
  have HT := Lib.hid htab
  have HKK := Lib.hid hK
  clear htab hK
  have D := Lib.hid (fun wx ht => dectext_impl n h1 h2 wx ht)
  have M := Lib.hid (fun wx hk2 => mac_impl k (txt (Lib.itoa n)) hk (by rw [txt_size]; omega) wx hk2)
  simp only [txt_toList] at M
  have hml := mac_len k.data.toList (Lib.itoa n)
  generalize macL k.data.toList (Lib.itoa n) = L at M HN hml
  have hC := cut_txtS L 0 8 (by omega)
  rw [List.drop_zero] at hC
  have hsz : (txt L).size = 32 := by rw [txt_size, hml]
  have hb1 : (8 : Int) ≤ ((txt L).size : Int) := by omega
  have X := Lib.hid (fun wx => hex_impl (txt (L.take 8)) wx (by rw [txt_size, List.length_take]; omega))
  simp only [txt_toList] at X
  rw [← HN.out] at X
  go_enter Tryd.func12, Tryd.ntmps12
  go_wp2_with fail
  refine (D.out _ (HT.out _ (Below.refl _ _))).mono ?_
  rintro e w1 ⟨rfl, b1⟩
  go_wp2_with fail
  refine (M.out _ (HKK.out.below b1)).mono ?_
  rintro e w2 ⟨rfl, b2⟩
  go_wp2_with fail
  refine (X.out _).mono ?_
  rintro e w3 ⟨rfl, b3⟩
  go_wp2
  go_ret
  exact ⟨rfl, bstep (bstep b1 b2) b3⟩

end Mk

end Go.Proofs.YtabehlipgfihkaaDoor
