/- CONTRACTS of Head, the model's and the program's. -/
import Derived.Test.YtfnignlfelambaaDoorHtOk3
namespace Go.Proofs.YtfnignlfelambaaDoor
set_option linter.unusedVariables false
set_option maxRecDepth 4000
open Go.ChangeShapes Go.WideShapes Go.ChangeAt Go.RowKit
open Go.ChangeMaps (open_string shut_string)

namespace Ht

theorem low_length (l : List UInt8) : (lowL l).length = l.length := by simp [lowL]

set_option maxHeartbeats 800000 in
theorem sameHead_call (a b : List UInt8) (w : World) (ha : a.length ≤ 1048576) (hb : b.length ≤ 1048576) :
    Calls Tryd.prog 55 #[.string (txt a), .string (txt b)] w fun e w' => e = .returned (.bool (decide (lowL a = lowL b))) ∧ Below w.heap.size w w' := by
  have za := txt_size a
  have zb := txt_size b
  have CA := Lib.hid (fun wx => lower_impl (txt a) wx (by omega))
  have CB := Lib.hid (fun wx => lower_impl (txt b) wx (by omega))
  have he := txt_beq (lowL a) (lowL b)
  rw [txt_toList] at CA CB
  by_cases hl : a.length = b.length
  · have il : (a.length : Int) = (b.length : Int) := by omega
    generalize decide (lowL a = lowL b) = R at he ⊢
    generalize lowL a = x at CA he
    generalize lowL b = y at CB he
    go_enter Tryd.func55, Tryd.ntmps55
    go_wp2_with fail
    refine (CA.out _).mono ?_
    rintro e w1 ⟨rfl, b1⟩
    go_wp2_with fail
    refine (CB.out _).mono ?_
    rintro e w2 ⟨rfl, b2⟩
    go_wp2
    go_ret
    exact ⟨rfl, bstep b1 b2⟩
  · have il : ((a.length : Int) == (b.length : Int)) = false := by
      rw [Bool.eq_false_iff]
      intro e
      have := eq_of_beq e
      omega
    have HR := Lib.hid (show decide (lowL a = lowL b) = false from decide_eq_false fun e => hl (by rw [← low_length a, ← low_length b, e]))
    generalize decide (lowL a = lowL b) = R at HR ⊢
    go_enter Tryd.func55, Tryd.ntmps55
    go_wp2
    go_ret
    exact ⟨ret_bool HR.out.symm, Below.refl _ _⟩

theorem headV_eq (key : List UInt8) (l : List PairL) (k : Nat) (hk : k < l.length) : headV key (l.drop k) = if lowL l[k].1 = lowL key then some l[k].2 else headV key (l.drop (k + 1)) := by
  rw [List.drop_eq_getElem_cons hk, headV]

set_option maxHeartbeats 1600000 in
theorem head_spec (v : Value) (l : List PairL) (key : List UInt8) (w : World) (h : PAt w v l) (hn : l.length ≤ 2097152) (hm : ∀ p ∈ l, p.1.length ≤ 1048576) (hk : key.length ≤ 1048576) :
    Calls Tryd.prog 17 #[v, .string (txt key)] w fun e w' => e = .returned (unR (headV key l)) ∧ Below w.heap.size w w' := by
  have HF := Lib.hid h
  have HM := Lib.hid hm
  obtain ⟨a, cap, rfl, _⟩ := h
  have HR := Lib.hid (show headV key l = headV key (l.drop 0) by rw [List.drop_zero])
  have CL := Lib.hid (fun wx => lower_spec (txt key) wx (by rw [txt_size]; exact hk))
  rw [txt_toList] at CL
  generalize headV key l = R at HR ⊢
  clear hm
  go_enter Tryd.func17, Tryd.ntmps17
  go_wp2
  go_loopw [6] (fun i wr => ∃ k : Nat, k ≤ l.length ∧ i = .int .i64 k ∧ Hid (R = headV key (l.drop k)) ∧ Below w.heap.size w wr) (fun i _ => l.length - (intOf i).toNat)
  case atStart => exact ⟨0, by omega, rfl, HR, Below.refl _ _⟩
  case round =>
    obtain ⟨k, hk, rfl, hr, hbel⟩ := hrel
    by_cases hlt : k < l.length
    · obtain ⟨g, off, cap', hv, hg, c1, c2⟩ := PAt.cells (HF.out.below hbel) k hlt
      simp only [Value.slice.injEq] at hv
      obtain ⟨rfl, _, rfl⟩ := hv
      have hm := HM.out l[k] (List.getElem_mem hlt)
      have hr2 := hr.out
      rw [headV_eq key l k hlt] at hr2
      have HR2 := Lib.hid hr2
      clear hr2 hr
      have hi0 : (0 : Int) ≤ (k : Int) := by omega
      have hi1 : (k : Int) < (l.length : Int) := by omega
      have CA := Lib.hid (fun wx => lower_spec (txt l[k].1) wx (by rw [txt_size]; exact hm))
      rw [txt_toList] at CA
      have he := txt_beq (lowL l[k].1) (lowL key)
      clear hm
      by_cases hs : lowL l[k].1 = lowL key
      · have HR3 := Lib.hid (show R = some l[k].2 by rw [HR2.out, if_pos hs])
        rw [decide_eq_true hs] at he
        clear hs
        go_wp2_with fail
        refine (CA.out _).mono ?_
        rintro e w1 ⟨rfl, b1⟩
        go_wp2_with fail
        refine (CL.out _).mono ?_
        rintro e w2 ⟨rfl, b2⟩
        have bb := hbel.trans (b1.mono hbel.size)
        have bc := bb.trans (b2.mono bb.size)
        have d2 := (b2.cell (p := ⟨g, off + k * 2 + 1, none⟩) (Nat.lt_of_lt_of_le hg b1.size)).trans ((b1.cell (p := ⟨g, off + k * 2 + 1, none⟩) hg).trans c2)
        go_wp2
        go_ret2
        exact ⟨by rw [HR3.out]; rfl, bc⟩
      · have HR3 := Lib.hid (show R = headV key (l.drop (k + 1)) by rw [HR2.out, if_neg hs])
        rw [decide_eq_false hs] at he
        clear hs
        go_wp2_with fail
        refine (CA.out _).mono ?_
        rintro e w1 ⟨rfl, b1⟩
        go_wp2_with fail
        refine (CL.out _).mono ?_
        rintro e w2 ⟨rfl, b2⟩
        have bb := hbel.trans (b1.mono hbel.size)
        have bc := bb.trans (b2.mono bb.size)
        go_wp2
        exact ⟨⟨k + 1, by omega, by go_num, HR3, bc⟩, by simp [intOf]; omega⟩
    · have hr2 := hr.out
      rw [List.drop_eq_nil_of_le (by omega)] at hr2
      have HR2 := Lib.hid (show R = none by rw [hr2]; rfl)
      clear hr2 hr
      go_wp2
      go_ret2
      exact ⟨by rw [HR2.out]; rfl, hbel⟩

set_option maxHeartbeats 1600000 in
theorem head_impl (v : Value) (l : List PairL) (key : List UInt8) (w : World) (h : PAt w v l) (hn : l.length ≤ 2097152) (hm : ∀ p ∈ l, p.1.length ≤ 1048576) (hk : key.length ≤ 1048576) :
    Calls Tryd.prog 16 #[v, .string (txt key)] w fun e w' => e = .returned (unR (headV key l)) ∧ Below w.heap.size w w' := by
  have HF := Lib.hid h
  have HM := Lib.hid hm
  obtain ⟨a, cap, rfl, _⟩ := h
  have HR := Lib.hid (show headV key l = headV key (l.drop 0) by rw [List.drop_zero])
  generalize headV key l = R at HR ⊢
  clear hm
  have HK := Lib.hid hk
  clear hk
  go_enter Tryd.func16, Tryd.ntmps16
  go_wp2
  go_loopw [10] (fun i wr => ∃ k : Nat, k ≤ l.length ∧ i = .int .i64 k ∧ Hid (R = headV key (l.drop k)) ∧ Below w.heap.size w wr) (fun i _ => l.length - (intOf i).toNat)
  case atStart => exact ⟨0, by omega, rfl, HR, Below.refl _ _⟩
  case round =>
    obtain ⟨k, hk, rfl, hr, hbel⟩ := hrel
    by_cases hlt : k < l.length
    · obtain ⟨g, off, cap', hv, hg, c1, c2⟩ := PAt.cells (HF.out.below hbel) k hlt
      simp only [Value.slice.injEq] at hv
      obtain ⟨rfl, _, rfl⟩ := hv
      have hm := HM.out l[k] (List.getElem_mem hlt)
      have hr2 := hr.out
      rw [headV_eq key l k hlt] at hr2
      have HR2 := Lib.hid hr2
      clear hr2 hr
      have hi0 : (0 : Int) ≤ (k : Int) := by omega
      have hi1 : (k : Int) < (l.length : Int) := by omega
      have CS := Lib.hid (fun wx => sameHead_call l[k].1 key wx hm HK.out)
      clear hm
      have ba := hbel.alloc hbel.size (.cells #[.string (txt l[k].1), .string (txt l[k].2)] 71)
      by_cases hs : lowL l[k].1 = lowL key
      · have HR3 := Lib.hid (show R = some l[k].2 by rw [HR2.out, if_pos hs])
        rw [decide_eq_true hs] at CS
        clear hs
        go_wp2_with fail
        refine (CS.out _).mono ?_
        rintro e w1 ⟨rfl, b1⟩
        have bb := ba.trans (b1.mono ba.size)
        have d2 := (b1.cell (p := ⟨wr.heap.size, 1, none⟩) (by simp)).trans (by simp : (wr.alloc (.cells #[.string (txt l[k].1), .string (txt l[k].2)] 71)).cell? ⟨wr.heap.size, 1, none⟩ = some (.string (txt l[k].2)))
        go_wp2
        go_ret2
        exact ⟨by rw [HR3.out]; rfl, bb⟩
      · have HR3 := Lib.hid (show R = headV key (l.drop (k + 1)) by rw [HR2.out, if_neg hs])
        rw [decide_eq_false hs] at CS
        clear hs
        go_wp2_with fail
        refine (CS.out _).mono ?_
        rintro e w1 ⟨rfl, b1⟩
        have bb := ba.trans (b1.mono ba.size)
        go_wp2
        exact ⟨⟨k + 1, by omega, by go_num, HR3, bb⟩, by simp [intOf]; omega⟩
    · have hr2 := hr.out
      rw [List.drop_eq_nil_of_le (by omega)] at hr2
      have HR2 := Lib.hid (show R = none by rw [hr2]; rfl)
      clear hr2 hr
      go_wp2
      go_ret2
      exact ⟨by rw [HR2.out]; rfl, hbel⟩

end Ht
end Go.Proofs.YtfnignlfelambaaDoor
