/- CONTRACTS of GetCookies, the model's and the program's; the trimmed parts of a text. -/
import Derived.Test.YtdgfiebehnfpgaaDoorCkN
import Derived.Test.YtdgfiebehnfpgaaDoorCkB
import Derived.Test.YtdgfiebehnfpgaaDoorHtTk
import Derived.Test.YtdgfiebehnfpgaaDoorHtG
import Derived.Test.YtdgfiebehnfpgaaDoorGet
import Derived.Shelf.Strings.SlTrimAscii
namespace Go.Proofs.YtdgfiebehnfpgaaDoor
set_option linter.unusedVariables false
set_option maxRecDepth 4000
open Go.ChangeShapes Go.WideShapes Go.ChangeAt Go.RowKit
open Go.ChangeMaps (open_string shut_string)

namespace Ck
open Ht

theorem cutA_R (c : UInt8) (l : List UInt8) : cutR l (cutL c l) = .tuple #[.string (txt (cutA c l).1), .string (txt (cutA c l).2.1), .bool (cutA c l).2.2] := by
  unfold cutA
  cases cutL c l with
  | none => rfl
  | some p => rfl

theorem cutA_len (c : UInt8) (l : List UInt8) : (cutA c l).1.length ≤ l.length ∧ (cutA c l).2.1.length ≤ l.length := by
  unfold cutA
  cases h : cutL c l with
  | none => exact ⟨Nat.le_refl _, Nat.zero_le _⟩
  | some p => exact cutL_len c l p.1 p.2 h

theorem cutS (c : UInt8) (l : List UInt8) (w : World) (hs : l.length ≤ 1048576) :
    Calls Tryd.prog 44 #[.string (txt l), .int .u8 c.toNat] w fun e w' => e = .returned (.tuple #[.string (txt (cutA c l).1), .string (txt (cutA c l).2.1), .bool (cutA c l).2.2]) ∧ Below w.heap.size w w' := by
  have := cut_spec_l l c w hs
  rwa [cutA_R] at this

theorem cutI (c : UInt8) (l : List UInt8) (w : World) (hs : l.length ≤ 1048576) :
    Calls Tryd.prog 35 #[.string (txt l), .int .u8 c.toNat] w fun e w' => e = .returned (.tuple #[.string (txt (cutA c l).1), .string (txt (cutA c l).2.1), .bool (cutA c l).2.2]) ∧ Below w.heap.size w w' := by
  have := cut_impl_l l c w hs
  rwa [cutA_R] at this

theorem trimI (s : List UInt8) (w : World) (hs : s.length ≤ 1048576) :
    Calls Tryd.prog 61 #[.string (txt s), .string ⟨#[32, 9]⟩] w fun e w' => e = .returned (.string (txt (trimL s))) ∧ Below w.heap.size w w' := by
  have h := Any.strings_Trim_laid Tryd.lays160 (by kernel_rfl) (txt s) ⟨#[32, 9]⟩ w (by rw [txt_size]; omega) (by decide) (ascii_of_all (by decide))
  rw [txt_toList] at h
  exact h

theorem trimS (s : List UInt8) (w : World) (hs : s.length ≤ 1048576) :
    Calls Tryd.prog 45 #[.string (txt s)] w fun e w' => e = .returned (.string (txt (trimL s))) ∧ w = w' := by
  have h := trim_spec (txt s) w (by rw [txt_size]; exact hs)
  rwa [txt_toList] at h

theorem trim_set (L : List (List UInt8)) (k : Nat) (hk : k < L.length) : ((L.take k).map trimL ++ L.drop k).set k (trimL L[k]) = (L.take (k + 1)).map trimL ++ L.drop (k + 1) := by
  have h1 : ((L.take k).map trimL).length = k := by rw [List.length_map, List.length_take]; omega
  rw [List.set_append, if_neg (by omega), h1, Nat.sub_self, List.drop_eq_getElem_cons hk, List.set_cons_zero, List.take_succ_eq_append_getElem hk, List.map_append]
  simp

theorem trim_get (L : List (List UInt8)) (k : Nat) (hk : k < L.length) (h : k < ((L.take k).map trimL ++ L.drop k).length) : ((L.take k).map trimL ++ L.drop k)[k] = L[k] := by
  have h1 : ((L.take k).map trimL).length = k := by rw [List.length_map, List.length_take]; omega
  rw [List.getElem_append_right (by omega)]
  have e : k - ((L.take k).map trimL).length = 0 := by omega
  simp only [e, List.getElem_drop, Nat.add_zero]

set_option maxHeartbeats 1600000 in
theorem parts_impl (s : ByteArray) (w : World) (hs : s.size ≤ 1048576) :
    Calls Tryd.prog 34 #[.string s] w fun e w' => ∃ v, e = .returned v ∧ w'.ownsRow w.heap.size 9 1 v (partsOf s.data.toList).length (strs (partsOf s.data.toList)) ∧ Below w.heap.size w w' := by
  have C := Lib.hid (fun wx => split_impl s 59 wx hs)
  have hlen := splitL_len 59 s.data.toList
  rw [data_length] at hlen
  have HM := Lib.hid (show ∀ x ∈ splitL 59 s.data.toList, x.length ≤ 1048576 from fun x hx => by have := splitL_part 59 s.data.toList x hx; rw [data_length] at this; omega)
  change Hid (∀ wx, Calls Tryd.prog 55 #[.string s, .int .u8 59] wx _) at C
  unfold partsOf
  generalize splitL 59 s.data.toList = L at C hlen HM ⊢
  go_enter Tryd.func34, Tryd.ntmps34
  go_wp2_with fail
  refine (C.out _).mono ?_
  rintro e w1 ⟨v, rfl, o1, b1⟩
  obtain ⟨a, cap, rfl⟩ := own_val o1
  go_wp2
  go_loopw [10] (fun i wr => ∃ k : Nat, k ≤ L.length ∧ i = .int .i64 k ∧ wr.ownsRow w.heap.size 9 1 (.slice a L.length cap) L.length (strs ((L.take k).map trimL ++ L.drop k)) ∧ Below w.heap.size w wr) (fun i _ => L.length - (intOf i).toNat)
  case atStart => exact ⟨0, by omega, rfl, by simpa using o1, b1⟩
  case round =>
    obtain ⟨k, hk, rfl, hown, hbel⟩ := hrel
    have hll : ((L.take k).map trimL ++ L.drop k).length = L.length := by rw [List.length_append, List.length_map, List.length_take, List.length_drop]; omega
    by_cases hlt : k < L.length
    · obtain ⟨g, rfl, hg1, hg2⟩ := own_at hown (by omega)
      have c1 := own_cell hown k (by rw [hll]; exact hlt) hll
      rw [trim_get L k hlt] at c1
      have T := Lib.hid (fun wx => trimI L[k] wx (HM.out L[k] (List.getElem_mem hlt)))
      have hi0 : (0 : Int) ≤ (k : Int) := by omega
      have hi1 : (k : Int) < (L.length : Int) := by omega
      clear o1
      go_wp2_with fail
      refine (T.out _).mono ?_
      rintro e w2 ⟨rfl, hb2⟩
      have hown2 := ownsRow_below hown (hb2.mono (Nat.le_refl _))
      obtain ⟨u, hc2⟩ : ∃ u, w2.cell? ⟨g, k, none⟩ = some u := ⟨_, own_cell hown2 k (by rw [hll]; exact hlt) hll⟩
      have hf2 := hown2.frozenAt k
      have hst := hown2.stored k (.string (txt (trimL L[k])))
      rw [strs_set, trim_set L k hlt] at hst
      have hbel2 := (hbel.trans (hb2.mono hbel.size)).setCell (p := ⟨g, k, none⟩) hg1 (.string (txt (trimL L[k])))
      have hown3 := hst.1
      clear hst hll c1
      generalize txt (trimL L[k]) = t at hown3 hbel2 ⊢
      go_wp2
      go_roundw
      case rel => exact ⟨k + 1, by omega, by go_num, hown3, hbel2⟩
      case measure => simp [intOf]; omega
    · have he : L.drop k = [] := List.drop_eq_nil_of_le (by omega)
      have he2 : L.take k = L := List.take_of_length_le (by omega)
      rw [he, he2, List.append_nil] at hown
      clear he he2 hll
      go_wp2
      go_ret
      exact ⟨_, rfl, by rw [List.length_map]; exact hown, hbel⟩

/- the rows of pairs -/

def pk (L : List (List UInt8)) : List PairL := (L.map trimL).filterMap onePair

theorem pk_snoc (L : List (List UInt8)) (k : Nat) (hk : k < L.length) : pk (L.take (k + 1)) = pk (L.take k) ++ (match onePair (trimL L[k]) with | some p => [p] | none => []) := by
  unfold pk
  rw [List.take_succ_eq_append_getElem hk, List.map_append, List.filterMap_append]
  congr 1
  simp only [List.map_cons, List.map_nil, List.filterMap_cons, List.filterMap_nil]
  cases onePair (trimL L[k]) <;> rfl

theorem pk_pre (L : List (List UInt8)) (k : Nat) : ∃ r, pk L = pk (L.take k) ++ r := by
  refine ⟨pk (L.drop k), ?_⟩
  unfold pk
  rw [← List.filterMap_append, ← List.map_append, List.take_append_drop]

theorem getCk_pk (s : List UInt8) : getCk s = (pk (splitL 59 s)).take 30 := rfl

theorem pk_len (L : List (List UInt8)) : (pk L).length ≤ L.length := by
  unfold pk
  have := List.length_filterMap_le onePair (L.map trimL)
  rw [List.length_map] at this
  exact this

end Ck
end Go.Proofs.YtdgfiebehnfpgaaDoor
