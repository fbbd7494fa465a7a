/- FIELDS, plainly: what a field's cells are, what is right, what is written; nothing of the program here. -/
import Derived.Test.YtljifooeokhgeaaGrid
namespace Go.Proofs.Ytljifooeokhgeaa
set_option linter.unusedVariables false
set_option maxRecDepth 4000
open Go.ChangeShapes Go.WideShapes Go.ChangeAt Go.RowKit
open Go.ChangeMaps (open_string shut_string)

namespace Fld

/-- a field: its key, its text, its number, whether it is one -/
abbrev FieldL := List UInt8 × List UInt8 × Int × Bool

def fc (p : FieldL) : List Value := [.string (txt p.1), .string (txt p.2.1), .int .i64 p.2.2.1, .bool p.2.2.2]

theorem fc_len (p : FieldL) : (fc p).length = 4 := rfl

abbrev FAt (w : World) (v : Value) (l : List FieldL) : Prop := Grid.GAt fc 4 w v l

/-- the four cells of one field, as a walk spells them -/
theorem FAt.cells {w : World} {a : Option Addr} {n cap : Nat} {l : List FieldL} (h : FAt w (.slice a n cap) l) (k : Nat) (hk : k < l.length) :
    ∃ g off, a = some ⟨g, off, none⟩ ∧ g < w.heap.size ∧ w.cell? ⟨g, off + k * 4, none⟩ = some (.string (txt l[k].1)) ∧ w.cell? ⟨g, off + k * 4 + 1, none⟩ = some (.string (txt l[k].2.1)) ∧
      w.cell? ⟨g, off + k * 4 + 2, none⟩ = some (.int .i64 l[k].2.2.1) ∧ w.cell? ⟨g, off + k * 4 + 3, none⟩ = some (.bool l[k].2.2.2) := by
  obtain ⟨a', cap', hv, h0 | ⟨g, off, rfl, hg, hc⟩⟩ := h
  · omega
  · simp only [Value.slice.injEq] at hv
    obtain ⟨rfl, _, _⟩ := hv
    exact ⟨g, off, rfl, hg, hc k hk 0 (by omega), hc k hk 1 (by omega), hc k hk 2 (by omega), hc k hk 3 (by omega)⟩

theorem FAt.len {w : World} {a : Option Addr} {n cap : Nat} {l : List FieldL} (h : FAt w (.slice a n cap) l) : n = l.length := by
  obtain ⟨a', cap', hv, _⟩ := h
  simp only [Value.slice.injEq] at hv
  exact hv.2.1

theorem txt_beq (a b : List UInt8) : ((txt a).toList == (txt b).toList) = decide (a = b) := by
  rw [Lib.toList_data, Lib.toList_data]
  show (a == b) = decide (a = b)
  rw [Bool.eq_iff_iff]
  simp

/-- what the texts of fields weigh -/
def wtL (l : List FieldL) : Nat := (l.map fun p => p.1.length + p.2.1.length).sum

theorem wt_append (a b : List FieldL) : wtL (a ++ b) = wtL a + wtL b := by simp [wtL]

theorem wt_take (l : List FieldL) (k : Nat) (hk : k < l.length) : wtL (l.take (k + 1)) = wtL (l.take k) + l[k].1.length + l[k].2.1.length := by
  rw [List.take_succ_eq_append_getElem hk, wt_append]
  have : wtL [l[k]] = l[k].1.length + l[k].2.1.length := by simp [wtL]
  omega

theorem wt_le (l : List FieldL) (k : Nat) : wtL (l.take k) ≤ wtL l := by
  have h := wt_append (l.take k) (l.drop k)
  rw [List.take_append_drop] at h
  omega

theorem wt_mem (l : List FieldL) (p : FieldL) (h : p ∈ l) : p.1.length + p.2.1.length ≤ wtL l := by
  obtain ⟨i, hi, rfl⟩ := List.getElem_of_mem h
  have h1 := wt_take l i hi
  have h2 := wt_le l (i + 1)
  omega

/-- an integer of the machine -/
def inR (n : Int) : Prop := -9223372036854775808 ≤ n ∧ n ≤ 9223372036854775807

/-- a field that a machine can hold -/
def okM (p : FieldL) : Prop := p.1.length ≤ 9223372036854775807 ∧ p.2.1.length ≤ 9223372036854775807 ∧ inR p.2.2.1

theorem open_field {H : Type} {enc : TypeId × Value → H} {P : Program} {w : World} {base : Nat} {spare : Nat → Bool} {held : Bool} {e : TypeId} {n : Nat} {cs : List Value} {y : DataW H × List MemPlace} {f0 f1 f2 f3 : Field}
    (he : P.underlying e = some (.struct #[f0, f1, f2, f3])) (ce : P.cellsOf e = 4) (o0 : f0.offset = 0) (o1 : f1.offset = 1) (o2 : f2.offset = 2) (o3 : f3.offset = 3)
    (c0 : P.cellsOf f0.type = 1) (c1 : P.cellsOf f1.type = 1) (c2 : P.cellsOf f2.type = 1) (c3 : P.cellsOf f3.type = 1)
    (s0 : P.underlying f0.type = some .string) (s1 : P.underlying f1.type = some .string) (s2 : P.underlying f2.type = some (.int .i64)) (s3 : P.underlying f3.type = some .bool)
    (h : DataW.trod enc P w base spare held n e cs = some y) : ∃ q : FieldL, cs = fc q ∧ okM q := by
  obtain ⟨xs, m, _, _, hlen, hxl, hf⟩ := DataW.trod_struct he h
  rw [ce] at hlen
  match cs, hlen with
  | [v0, v1, v2, v3], _ =>
    match xs, hxl with
    | [y0, y1, y2, y3], _ =>
      have g0 := hf 0 f0 rfl
      have g1 := hf 1 f1 rfl
      have g2 := hf 2 f2 rfl
      have g3 := hf 3 f3 rfl
      simp [o0, o1, o2, o3, c0, c1, c2, c3] at g0 g1 g2 g3
      obtain ⟨sa, ha, _, la⟩ := DataW.trod_string s0 g0
      obtain ⟨sb, hb, _, lb⟩ := DataW.trod_string s1 g1
      obtain ⟨i, hi, _, li⟩ := DataW.trod_int s2 g2
      obtain ⟨b, hb3, _⟩ := DataW.trod_bool s3 g3
      simp only [List.cons.injEq, and_true] at ha hb hi hb3
      subst ha hb hi hb3
      have hr : inR i := by
        have := bounds_i64 li
        unfold inR; omega
      unfold maxLen at la lb
      refine ⟨(sa.data.toList, sb.data.toList, i, b), ?_, ?_, ?_, hr⟩
      · simp [fc, txt_of]
      · show sa.data.toList.length ≤ _
        rw [data_length]; exact la
      · show sb.data.toList.length ≤ _
        rw [data_length]; exact lb

end Fld

end Go.Proofs.Ytljifooeokhgeaa
