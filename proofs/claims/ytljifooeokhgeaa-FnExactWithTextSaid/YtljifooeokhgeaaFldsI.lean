/- CONTRACT: the program's FieldsOk: a set of keys. -/
import Derived.Test.YtljifooeokhgeaaFldsP
namespace Go.Proofs.Ytljifooeokhgeaa
set_option linter.unusedVariables false
set_option maxRecDepth 4000
open Go.ChangeShapes Go.WideShapes Go.ChangeAt Go.RowKit
open Go.ChangeMaps (open_string shut_string)
open Go.Maps Go.WideMaps

namespace Fld

theorem law_key : Keyed Try.prog 9 := string_keyed Try.underlying9

def setK (l : List FieldL) : DataW Unit := setOf (.agg []) ((l.map (·.1)).map Lit.string)

theorem setK_snoc (l : List FieldL) (k : Nat) (hk : k < l.length) : setK (l.take (k + 1)) = (setK (l.take k)).put (.string l[k].1) (.agg []) := by
  unfold setK
  rw [List.take_succ_eq_append_getElem hk, List.map_append, List.map_append, List.map_cons, List.map_nil, List.map_cons, List.map_nil, setOf_snoc]

theorem makeMap_n (n : Nat) (w : World) : (Instr.makeMap 50 (some (.int .i64 (n : Int)))).run Try.prog w = .ok (.map (some w.heap.size)) (w.alloc (.map #[] 0)) := by
  simp [Instr.makeMap, go_sem, Result.andThen]

set_option maxHeartbeats 800000 in
theorem fieldsOk_impl (v : Value) (l : List FieldL) (w : World) (h : FAt w v l) (hn : l.length ≤ 2097152) (hm : ∀ p ∈ l, okM p) :
    Calls Try.prog 14 #[v] w fun e w' => e = .returned (.bool (fieldsR l)) ∧ Below w.heap.size w w' := by
  have HF := Lib.hid h
  have HM := Lib.hid hm
  clear hm
  obtain ⟨a, cap, rfl, _⟩ := h
  obtain ⟨R, hR⟩ : ∃ R, R = fieldsR l := ⟨_, rfl⟩
  have HR := Lib.hid hR
  rw [← hR]
  clear hR
  by_cases hl : l.length ≤ 20
  · have hmm := makeMap_n l.length
    go_enter Try.func14, Try.ntmps14
    go_wp2
    go_loopw [14] (fun i wr => ∃ k : Nat, k ≤ l.length ∧ i = .int .i64 k ∧ Hid ((l.take k).all fieldR = true) ∧ wr.ownsMap Try.prog 9 (unitElem (H := Unit)) w.heap.size k (setK (l.take k)) ∧ Below w.heap.size w wr) (fun i _ => l.length - (intOf i).toNat)
    case atStart => exact ⟨0, by omega, rfl, Lib.hid rfl, World.ownsMap_made _ _ _ _, (Below.refl _ _).alloc (Nat.le_refl _) _⟩
    case round =>
      clear hmm
      obtain ⟨k, hk, rfl, hal, hown, hbel⟩ := hrel
      by_cases hlt : k < l.length
      · obtain ⟨g, off, rfl, hg, c1, c2, c3, c4⟩ := FAt.cells (Grid.GAt.below HF.out hbel) k hlt
        have hi0 : (0 : Int) ≤ (k : Int) := by omega
        have hi1 : (k : Int) < (l.length : Int) := by omega
        have hlk := (HM.out l[k] (List.getElem_mem hlt)).1
        have C := Lib.hid (fun wx => fieldOk_call l[k] wx (HM.out l[k] (List.getElem_mem hlt)))
        have HS := Lib.hid (setK_snoc l k hlt)
        have hkey : keyOf Try.prog 9 (.string (txt l[k].1)) = some (.string l[k].1) := by
          have := keyOf_string_mk (P := Try.prog) (s := txt l[k].1) Try.underlying9 (by rw [txt_size]; unfold maxLen; exact hlk)
          rw [txt_toList] at this
          exact this
        simp only [fc] at C
        cases hq : fieldR l[k] with
        | false =>
          have HR2 := Lib.hid (show R = false by rw [HR.out]; exact all_not l k hlt hq)
          rw [hq] at C
          clear hq
          go_wp2_with fail
          refine (C.out _).mono ?_
          rintro e w1 ⟨rfl, hb1⟩
          go_wp2
          go_ret
          exact ⟨by rw [HR2.out]; rfl, bstep (hbel.alloc hbel.size _) hb1⟩
        | true =>
          have HAL := Lib.hid (all_snoc l k hlt hal.out hq)
          rw [hq] at C
          clear hq
          go_wp2_with fail
          refine (C.out _).mono ?_
          rintro e w1 ⟨rfl, hb1⟩
          have d1 : w1.cell? ⟨wr.heap.size, 0, none⟩ = some (.string (txt l[k].1)) := (hb1.cell (p := ⟨wr.heap.size, 0, none⟩) (by simp)).trans (by simp)
          have hown1 : w1.ownsMap Try.prog 9 (unitElem (H := Unit)) w.heap.size k (setK (l.take k)) := (hown.alloc _).kept (grown_below hb1 none) (by simp)
          have hbel1 := bstep (hbel.alloc hbel.size _) hb1
          clear hb1 hown hbel
          go_wp2_with (at_mapUpdate; refine wpList_mapUpdate_own _ rfl _ _ _ 50 rfl 9 52 law_key Try.underlying50 (unitElem (H := Unit)) w.heap.size k _ rfl hown1 (by unfold maxLen; omega) _ _ _ rfl rfl hkey _ [] unitElem_mk ?_; intro w2 hown2 hgrow2)
          go_roundw
          case rel => exact ⟨k + 1, by omega, by go_num, HAL, by rw [HS.out]; exact hown2, hbel1.grown hgrow2 hbel1.size (fun j hj => by cases hj; exact Nat.le_refl _)⟩
          case measure => simp [intOf]; omega
      · have he : l.take k = l := List.take_of_length_le (by omega)
        obtain rfl : k = l.length := by omega
        have h1 := hal.out
        rw [he] at h1 hown
        have HR2 := Lib.hid (show R = decide ((l.map (·.1)).Nodup) by rw [HR.out]; unfold fieldsR; rw [decide_eq_true hl, h1]; rfl)
        have HSZ := Lib.hid (size_nodup (.agg []) (l.map (·.1)))
        have hsl := size_le (.agg []) (l.map (·.1))
        rw [List.length_map] at hsl
        clear h1 he
        go_wp2_with (at_len; refine wpList_len_own _ rfl _ 50 rfl 9 52 Try.underlying50 (unitElem (H := Unit)) w.heap.size l.length _ rfl hown ?_)
        by_cases hnd : (l.map (·.1)).Nodup
        · have hsz : Maps.size (setK l) = l.length := by
            have h2 := HSZ.out
            rw [List.length_map] at h2
            exact cast h2.symm hnd
          have HR3 := Lib.hid (show R = true by rw [HR2.out, decide_eq_true hnd])
          rw [hsz]
          clear hsz hnd hsl
          go_wp2
          go_ret
          exact ⟨ret_bool (by rw [HR3.out]; simp), hbel⟩
        · have hsz : ¬ Maps.size (setK l) = l.length := by
            have h2 := HSZ.out
            rw [List.length_map] at h2
            intro h3
            exact hnd (cast h2 h3)
          have HR3 := Lib.hid (show R = false by rw [HR2.out, decide_eq_false hnd])
          have hsl2 : Maps.size (setK l) ≤ l.length := hsl
          generalize Maps.size (setK l) = q at hsz hsl2 ⊢
          have hq : ¬ ((q : Nat) : Int) = ((l.length : Nat) : Int) := by omega
          clear hsl hnd
          go_wp2
          go_ret
          exact ⟨ret_bool (by rw [HR3.out]; simp only [beq_eq_false_iff_ne, ne_eq]; omega), hbel⟩
  · have HR2 := Lib.hid (show R = false by rw [HR.out]; unfold fieldsR; rw [decide_eq_false hl]; rfl)
    go_enter Try.func14, Try.ntmps14
    go_wp2
    go_ret
    exact ⟨by rw [HR2.out]; rfl, Below.refl _ _⟩

end Fld

end Go.Proofs.Ytljifooeokhgeaa
