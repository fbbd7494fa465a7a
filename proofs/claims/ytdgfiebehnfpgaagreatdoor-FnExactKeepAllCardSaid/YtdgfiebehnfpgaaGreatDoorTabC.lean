/- THE TABLES that the rows list, the program's own names of attributes among them: a world for the witness that holds them; what a listing gives a walk. -/
import Derived.Test.YtdgfiebehnfpgaaGreatDoorRows
import Derived.Test.YtdgfiebehnfpgaaGreatDoorTie
import Derived.Test.YtdgfiebehnfpgaaGreatDoorCards
import Derived.Test.YtdgfiebehnfpgaaGreatDoorCkV
import Derived.WalkKit
import Derived.ProofKit
import Derived.OpenShut
import Derived.Deep.DeepHandedRow
import Derived.Lib.LaidTab
import Derived.Lib.AppendIntMem
import Derived.Stop.LaidErr
namespace Go.Proofs.YtdgfiebehnfpgaaGreatDoor
open Go.ChangeShapes Go.WideShapes Go.ChangeAt Go.RowKit

namespace Tc

/-- the cells of a table of numbers, of rows of numbers, of texts -/
def flatOf (d : DataW Unit) : Array Value := match d with
  | .agg xs => (xs.flatMap fun
    | .lit (.int k n) => [Value.int k n]
    | .lit (.string s) => [Value.string (txt s)]
    | .agg ys => ys.map fun | .lit (.int k n) => Value.int k n | _ => undef
    | _ => [undef]).toArray
  | _ => #[]

/-- a variable's block, made to hold a table -/
def holdingIt (d : DataW Unit) : Obj → Obj
  | .cells _ t frozen => .cells (flatOf d) t frozen
  | o => o

/-- variables made to hold their tables, one after another -/
def layIt (h : Array Obj) (l : List (Nat × DataW Unit)) : Array Obj := l.foldl (fun h x => h.modify x.1 (holdingIt x.2)) h

theorem gPow : Tryz.prog.globalNamed "internal/strconv.uint64pow10" = some 4 := by kernel_rfl

theorem gPowType : (Tryz.prog.globals[4]?).map (·.type) = some 186 := by kernel_rfl

theorem cellsPow : Tryz.prog.cellsOf 186 = 20 := by kernel_rfl

theorem cellsU64 : Tryz.prog.cellsOf 171 = 1 := by kernel_rfl

theorem dataPow : (Rows.laid_internal_strconv_uint64pow10 : DataW Unit) = Lib.tabData .u64 Lib.pow10Tab := by kernel_rfl

theorem pow_of {W : World} {rest : List (String × DataW Unit)} (h : laidMet Tryz.prog (("internal/strconv.uint64pow10", Rows.laid_internal_strconv_uint64pow10) :: rest) W) : Lib.TabIs Tryz.prog W "internal/strconv.uint64pow10" .u64 Lib.pow10Tab := by
  rw [dataPow] at h
  exact Lib.tabIs_of_head gPow gPowType Tryz.underlying186 Tryz.underlying171 cellsU64 cellsPow h

theorem gNm : Tryz.prog.globalNamed "loop.example/g00716/impl.attributeNames" = some 0 := by kernel_rfl

theorem gNmType : (Tryz.prog.globals[0]?).map (·.type) = some 156 := by kernel_rfl

theorem cellsNm : Tryz.prog.cellsOf 156 = 3 := by kernel_rfl

theorem cellsStr : Tryz.prog.cellsOf 9 = 1 := by kernel_rfl

theorem one_some {α β : Type} {f : α → Option β} {a b c : α} {r : List β} (h : [a, b, c].mapM f = some r) : ∃ x y z, f a = some x ∧ f b = some y ∧ f c = some z ∧ r = [x, y, z] := by
  simp only [List.mapM_cons, List.mapM_nil, Option.bind_eq_bind, Option.bind_eq_some_iff, Option.pure_def, Option.some.injEq] at h
  obtain ⟨x, hx, r1, ⟨y, hy, r2, ⟨z, hz, r3, rfl, rfl⟩, rfl⟩, rfl⟩ := h
  exact ⟨x, y, z, hx, hy, hz, rfl⟩

/-- an array of three texts reads as three texts only if it holds them -/
theorem three_texts {H : Type} {enc : TypeId × Value → H} {P : Program} {w : World} {base : Nat} {sp : Nat → Bool} {held : Bool} {fuel : Nat} {t e : TypeId} {cs : List Value} {a b c : List UInt8} {p : List MemPlace}
    (ht : P.underlying t = some (.array 3 e)) (he : P.underlying e = some .string) (hce : P.cellsOf e = 1) (hct : P.cellsOf t = 3)
    (h : DataW.trod enc P w base sp held fuel t cs = some (.agg [.lit (.string a), .lit (.string b), .lit (.string c)], p)) : cs = [.string (txt a), .string (txt b), .string (txt c)] := by
  cases fuel with
  | zero => simp [DataW.trod] at h
  | succ fuel =>
    simp only [DataW.trod, ht, hce, hct, Nat.mul_one] at h
    split at h
    · rename_i hl
      obtain ⟨xs, hm, hx⟩ := Option.map_eq_some_iff.1 h
      rw [show List.range 3 = [0, 1, 2] from rfl] at hm
      obtain ⟨x, y, z, h0, h1, h2, rfl⟩ := one_some hm
      obtain ⟨s0, e0, rfl, _⟩ := DataW.trod_string he h0
      obtain ⟨s1, e1, rfl, _⟩ := DataW.trod_string he h1
      obtain ⟨s2, e2, rfl, _⟩ := DataW.trod_string he h2
      have hd := congrArg Prod.fst hx
      simp only [List.map_cons, List.map_nil, DataW.agg.injEq, List.cons.injEq, DataW.lit.injEq, Lit.string.injEq, and_true] at hd
      obtain ⟨q0, q1, q2⟩ := hd
      match cs, hl, e0, e1, e2 with
      | [v0, v1, v2], _, e0, e1, e2 =>
        simp at e0 e1 e2
        rw [e0, e1, e2, ← q0, ← q1, ← q2, txt_of, txt_of, txt_of]
    · cases h

open Ht in
theorem nm_of {W : World} {rest : List (String × DataW Unit)} (h : laidMet Tryz.prog (("loop.example/g00716/impl.attributeNames", Rows.laid_loop_example_g00716_impl_attributeNames) :: rest) W) : Ck.Nm W := by
  obtain ⟨ps, ⟨g', t', cs, fuel, p, q, hg', ht', hvar, hd, _, _⟩, _⟩ := h
  obtain rfl := Option.some.inj (gNm.symm.trans hg')
  obtain rfl := Option.some.inj (gNmType.symm.trans ht')
  have e := three_texts (a := Ck.pathT) (b := Ck.domT) (c := Ck.ageT) Tryz.underlying156 Tryz.underlying9 cellsStr cellsNm hd
  have hcell := World.var?_cell gNm hvar
  have hc : ∀ i : Nat, cs[i]? = ([.string (txt Ck.pathT), .string (txt Ck.domT), .string (txt Ck.ageT)] : List Value)[i]? := fun i => by
    rw [← e]
    simp
  have c0 := (hcell 0).trans (hc 0)
  have c1 := (hcell 1).trans (hc 1)
  have c2 := (hcell 2).trans (hc 2)
  refine ⟨?_, c0, c1, c2⟩
  rcases Nat.lt_or_ge 0 W.heap.size with hlt | hge
  · exact hlt
  · unfold World.cell? at c0
    simp only [Array.getElem?_eq_none hge] at c0
    cases c0

theorem varBelow {P : Program} {B g : Nat} {W W' : World} {n : String} {cs : Array Value} (h : Below B W W') (hg : P.globalNamed n = some g) (hgB : g < B) (hv : W.var? P n = some cs) : W'.var? P n = some cs := by
  unfold World.var? at hv ⊢
  simp only [hg, Option.bind_some] at hv ⊢
  rw [h.block g hgB]
  exact hv

end Tc
end Go.Proofs.YtdgfiebehnfpgaaGreatDoor
