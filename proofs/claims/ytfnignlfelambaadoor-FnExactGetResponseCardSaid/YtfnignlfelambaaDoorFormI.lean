/- CONTRACTS of Value and PutForm: the program's. -/
import Derived.Test.YtfnignlfelambaaDoorForm
import Derived.Test.YtfnignlfelambaaDoorShelf
import Derived.Test.YtfnignlfelambaaDoorPctI

namespace Go.Proofs.YtfnignlfelambaaDoor
set_option linter.unusedVariables false
set_option maxRecDepth 4000
open Go.ChangeShapes Go.WideShapes Go.ChangeAt Go.RowKit
open Go.ChangeMaps (open_string shut_string)

theorem putL_join (l : List PairL) : Lib.join (l.map oneL) [38] = putL l := by
  match l with
  | [] => rfl
  | p :: r =>
    rw [List.map_cons, Lib.join_cons, putL, Lib.joinTail]
    congr 1
    rw [List.map_map, List.flatMap_def]
    rfl

theorem join_call (base : Nat) (v : Value) (xs : List (List UInt8)) (sep : List UInt8) (w : World) (hown : w.ownsRow base 9 1 v xs.length (strs xs)) (hn : xs.length ≤ 2097152) (hlen : (Lib.join xs sep).length ≤ 140737488355328) :
    Calls Tryd.prog 89 #[v, .string (txt sep)] w fun e w' => e = .returned (.string (txt (Lib.join xs sep))) ∧ Below w.heap.size w w' := by
  have hown2 := hown
  obtain ⟨a, cap, rfl⟩ := own_val hown
  match xs with
  | [] =>
    refine (Tryd.strings_Join_none a cap (txt sep) w).mono ?_
    rintro e w1 ⟨rfl, rfl⟩
    exact ⟨rfl, Below.refl _ _⟩
  | x :: r =>
    obtain ⟨g, rfl, hg1, hg2⟩ := own_at hown (by simp)
    have hcap : (x :: r).length ≤ cap := by
      rcases hown2.2 with ⟨h, _⟩ | ⟨g', cap', cur, h, _, _, hnc, _⟩
      · cases h
      · cases h; exact hnc
    have hm : (((x :: r).map txt).map (·.data.toList)) = x :: r := by
      rw [List.map_map]
      conv => rhs; rw [← List.map_id (x :: r)]
      apply List.map_congr_left
      intro y _
      exact txt_toList y
    have hJ := Tryd.strings_Join g 0 cap ((x :: r).map txt) (txt sep) w (fun j y hy => by
      rw [List.getElem?_map] at hy
      cases hx : (x :: r)[j]? with
      | none => rw [hx] at hy; cases hy
      | some z =>
        rw [hx] at hy
        obtain ⟨hj, hz⟩ := List.getElem?_eq_some_iff.1 hx
        have := own_cell hown j hj rfl
        rw [Nat.zero_add, this, hz]
        cases hy
        rfl) hg2 (by rw [List.length_map]; omega) (by rw [List.length_map]; exact hcap) (by rw [hm, txt_toList]; exact hlen)
    rw [List.length_map, hm, txt_toList] at hJ
    exact hJ

theorem Tryd.infoS : (Tryd.prog.info? 9).map (fun i => (i.zero, i.size, i.bytes)) = some (some (.string ⟨#[]⟩), 1, 16) := by kernel_rfl

theorem cell_alloc_keep {w : World} {a : Addr} {v : Value} {o : Obj} (h : w.cell? a = some v) : (w.alloc o).cell? a = some v := by
  rw [World.cell?_alloc_some w a o (by rw [h]; rfl), h]

end Go.Proofs.YtfnignlfelambaaDoor
