/- CONTRACT: the program's Open; and laying, where a variable holds a type's handle. -/
import Derived.Test.YtonpalaopnfffaaGreatDoorSlV
import Derived.WalkKit
import Derived.LaidEql
import Derived.LaidLaws
import Derived.LaidHandle
import Derived.Stop.Asserts
import Derived.RowKitTokens
import Derived.Test.YtonpalaopnfffaaGreatDoorTabP
namespace Go.Proofs.YtonpalaopnfffaaGreatDoor
set_option linter.unusedVariables false
set_option maxRecDepth 4000
open Go.RowKit Go.Extern.Stop Go.Stop Go.Extern
open Go.ChangeShapes Go.WideShapes Go.ChangeAt

namespace Sl

/-- the variable of package errors holds the handle of the type error -/
def Er (w : World) : Prop := w.cell? ⟨0, 0, none⟩ = some (.iface 119 (.agg #[.pointer (some ⟨6, 57, none⟩)]))

theorem Er.lt {w : World} (h : Er w) : 0 < w.heap.size := World.block_lt_of_cell? _ _ h

theorem Er.below {w w' : World} (h : Er w) (hb : Below w.heap.size w w') : Er w' := (hb.cell (p := ⟨0, 0, none⟩) h.lt).trans h

theorem erGlobal : Tryz.prog.globalNamed "errors.errorType" = some 0 := by kernel_rfl

theorem erType : (Tryz.prog.cutTypes.find? (·.1 == "internal/reflectlite.rtype")).map (·.2) = some 119 := by kernel_rfl

theorem oneRow : ((List.range 200).filter fun t => Tryz.prog.rowNamed t [101, 114, 114, 111, 114]) = [57] := by kernel_rfl

theorem typesN : Tryz.prog.types.size = 200 := by kernel_rfl

theorem er_of {W : World} (h : handlesMet Tryz.prog [("errors.errorType", .iface "internal/reflectlite.rtype" (.agg [.ptr (.lit (.string [101, 114, 114, 111, 114]))]))] W) : Er W := by
  obtain ⟨name, u, ty, e1, e2, e3, e4, e5⟩ := h _ (List.mem_singleton.2 rfl)
  have en : name = [101, 114, 114, 111, 114] := (Option.some.inj e1).symm
  subst en
  obtain rfl := Option.some.inj (erType.symm.trans e2)
  have hm : ty ∈ (List.range 200).filter fun t => Tryz.prog.rowNamed t [101, 114, 114, 111, 114] := List.mem_filter.2 ⟨List.mem_range.2 (by rw [← typesN]; exact e3), e4⟩
  rw [oneRow] at hm
  obtain rfl := List.mem_singleton.1 hm
  have hh : typeHandle Tryz.prog 57 = .pointer (some ⟨6, 57, none⟩) := by kernel_rfl
  rw [hh] at e5
  simpa [Er] using World.var?_cell erGlobal e5 0

/-- errors.As(nil, target). -/
theorem as_nil (t : Value) (w : World) :
    Calls Tryz.prog 31 #[.nilIface, t] w fun e w' => e = .returned (.bool false) ∧ w' = w := by
  go_enter Tryz.func31, Tryz.ntmps31
  go_wp2
  go_ret
  exact ⟨rfl, rfl⟩

theorem e_valueOf (t : Addr) (w : World) : (ReflectliteValue.unpack (.iface 62 (.pointer (some t)))).run Tryz.prog w
    = .ok (.agg #[.pointer (some ⟨6, 62, none⟩), .pointer (some ⟨w.heap.size, 0, none⟩), .int .u64 150]) (w.alloc (.cells #[.pointer (some t)] 62)) := by kernel_rfl

theorem e_type (a : Addr) (w : World) : (ReflectliteValue.methodAny (ReflectliteValue.valueError "reflectlite.Value.Type" 0) (fun t _ _ _ => ReflectliteType.toType t) #[.agg #[.pointer (some ⟨6, 62, none⟩), .pointer (some a), .int .u64 150]]).run Tryz.prog w
    = .ok (.iface 119 (.agg #[.pointer (some ⟨6, 62, none⟩)])) w := by kernel_rfl

theorem e_methodKind (h : Value) (w : World) : (Go.method 300 119 (.agg #[h]) "Kind").run Tryz.prog w = .ok (135, h) w := by kernel_rfl

theorem e_kindP (w : World) : ((ReflectliteType.abiMethod fun t => (fun a : Nat => Value.int IntKind.u8 (a : Int)) <$> Rtype.kind t) #[.pointer (some ⟨6, 62, none⟩)]).run Tryz.prog w = .ok (.int .u8 22) w := by kernel_rfl

theorem e_kindE (w : World) : ((ReflectliteType.abiMethod fun t => (fun a : Nat => Value.int IntKind.u8 (a : Int)) <$> Rtype.kind t) #[.pointer (some ⟨6, 60, none⟩)]).run Tryz.prog w = .ok (.int .u8 2) w := by kernel_rfl

theorem e_parts (a : Addr) (w : World) : (ReflectliteValue.parts (.agg #[.pointer (some ⟨6, 62, none⟩), .pointer (some a), .int .u64 150])).run Tryz.prog w = .ok (some (62, a, 150)) w := by kernel_rfl

theorem e_isNil (a p : Addr) (W : World) (ha : W.cell? a = some (.pointer (some p))) :
    (ReflectliteValue.method (ReflectliteValue.valueError "reflectlite.Value.IsNil" 0) ReflectliteValue.isNil #[.agg #[.pointer (some ⟨6, 62, none⟩), .pointer (some a), .int .u64 150]]).run Tryz.prog W = .ok (.bool false) W := by
  change (bind (ReflectliteValue.parts (.agg #[.pointer (some ⟨6, 62, none⟩), .pointer (some a), .int .u64 150])) _).run Tryz.prog W = _
  simp only [Sem.run_bind, e_parts, Result.andThen]
  simp [ReflectliteValue.isNil, loadVar, isAgg, underlying, Tryz.underlying62, ha, Result.andThen]

theorem e_methodElem (h : Value) (w : World) : (Go.method 300 119 (.agg #[h]) "Elem").run Tryz.prog w = .ok (145, .agg #[h]) w := by kernel_rfl

theorem e_methodImplements (h : Value) (w : World) : (Go.method 300 119 (.agg #[h]) "Implements").run Tryz.prog w = .ok (146, .agg #[h]) w := by kernel_rfl

theorem e_methodAssignable (h : Value) (w : World) : (Go.method 300 119 (.agg #[h]) "AssignableTo").run Tryz.prog w = .ok (143, .agg #[h]) w := by kernel_rfl

theorem e_elemT (w : World) : (ReflectliteType.method ReflectliteType.elem #[.agg #[.pointer (some ⟨6, 62, none⟩)]]).run Tryz.prog w = .ok (.iface 119 (.agg #[.pointer (some ⟨6, 60, none⟩)])) w := by kernel_rfl

theorem e_implements (w : World) : (ReflectliteType.relation "Implements" ReflectliteType.implements_ #[.agg #[.pointer (some ⟨6, 60, none⟩)], .iface 119 (.agg #[.pointer (some ⟨6, 57, none⟩)])]).run Tryz.prog w = .ok (.bool true) w := by kernel_rfl

theorem e_typeOf (v : Value) (w : World) : (ReflectliteType.typeOf #[.iface 60 v]).run Tryz.prog w = .ok (.iface 119 (.agg #[.pointer (some ⟨6, 60, none⟩)])) w := by kernel_rfl

theorem e_assignable (w : World) : (ReflectliteType.relation "AssignableTo" ReflectliteType.assignableTo #[.agg #[.pointer (some ⟨6, 60, none⟩)], .iface 119 (.agg #[.pointer (some ⟨6, 60, none⟩)])]).run Tryz.prog w = .ok (.bool true) w := by kernel_rfl

theorem e_valueOfE (n : Int) (w : World) : (ReflectliteValue.unpack (.iface 60 (.int .i64 n))).run Tryz.prog w
    = .ok (.agg #[.pointer (some ⟨6, 60, none⟩), .pointer (some ⟨w.heap.size, 0, none⟩), .int .u64 130]) (w.alloc (.cells #[.int .i64 n] 60)) := by kernel_rfl

theorem e_elemOf (w : World) : (Rtype.elem? 62).run Tryz.prog w = .ok (some 60) w := by kernel_rfl

theorem e_mk (p : Addr) (w : World) : (ReflectliteValue.mk 60 p ReflectliteValue.flagAddr).run Tryz.prog w = .ok (.agg #[.pointer (some ⟨6, 60, none⟩), .pointer (some p), .int .u64 386]) w := by kernel_rfl

theorem e_elemV (a p : Addr) (W : World) (ha : W.cell? a = some (.pointer (some p))) :
    (ReflectliteValue.method (ReflectliteValue.valueError "reflectlite.Value.Elem" 0) ReflectliteValue.elem #[.agg #[.pointer (some ⟨6, 62, none⟩), .pointer (some a), .int .u64 150]]).run Tryz.prog W
      = .ok (.agg #[.pointer (some ⟨6, 60, none⟩), .pointer (some p), .int .u64 386]) W := by
  change (bind (ReflectliteValue.parts (.agg #[.pointer (some ⟨6, 62, none⟩), .pointer (some a), .int .u64 150])) _).run Tryz.prog W = _
  simp only [Sem.run_bind, e_parts, Result.andThen]
  simp [ReflectliteValue.elem, loadVar, isAgg, underlying, Tryz.underlying62, ha, Result.andThen, e_elemOf, e_mk]

theorem e_partsA (a : Addr) (w : World) : (ReflectliteValue.parts (.agg #[.pointer (some ⟨6, 60, none⟩), .pointer (some a), .int .u64 386])).run Tryz.prog w = .ok (some (60, a, 386)) w := by kernel_rfl

theorem e_partsB (a : Addr) (w : World) : (ReflectliteValue.parts (.agg #[.pointer (some ⟨6, 60, none⟩), .pointer (some a), .int .u64 130])).run Tryz.prog w = .ok (some (60, a, 130)) w := by kernel_rfl

theorem e_direct (w : World) : (Rtype.directlyAssignable 60 60).run Tryz.prog w = .ok true w := by kernel_rfl

theorem e_set (ta b : Addr) (n : Int) (old : Value) (W : World) (hb : W.cell? b = some (.int .i64 n)) (ht : W.cell? ta = some old) (hf : W.frozen? ta = false) :
    (ReflectliteValue.set #[.agg #[.pointer (some ⟨6, 60, none⟩), .pointer (some ta), .int .u64 386], .agg #[.pointer (some ⟨6, 60, none⟩), .pointer (some b), .int .u64 130]]).run Tryz.prog W
      = .ok (.tuple #[]) (W.setCell ta (.int .i64 n)) := by
  change (bind (ReflectliteValue.parts (.agg #[.pointer (some ⟨6, 60, none⟩), .pointer (some ta), .int .u64 386])) _).run Tryz.prog W = _
  simp only [Sem.run_bind, e_partsA, Result.andThen, Array.getLit, List.getElem_toArray, List.getElem_cons_succ, List.getElem_cons_zero, e_partsB]
  simp [ReflectliteValue.flagAddr, loadVar, isAgg, underlying, Tryz.underlying60, hb, Result.andThen, e_direct, storeVar, Value.cells, storeCells, Addr.add]
  rw [run_store Tryz.prog W ta _ _ (by rfl)]
  simp [ht, hf]

def asW (w : World) (t : Addr) (n : Int) : World :=
  ((((w.alloc (.cells #[.pointer (some t)] 62)).alloc (.cells #[.pointer (some ⟨6, 62, none⟩), .pointer (some ⟨w.heap.size, 0, none⟩), .int .u64 150] 101)).alloc (.cells #[.pointer (some ⟨6, 62, none⟩), .pointer (some ⟨w.heap.size, 0, none⟩), .int .u64 150] 101)).alloc (.cells #[.int .i64 n] 60)).setCell t (.int .i64 n)

set_option maxHeartbeats 4000000 in
theorem as_hit (n : Int) (t : Addr) (old : Value) (w : World) (hg : Er w) (ht0 : w.cell? t = some old) (hf0 : w.frozen? t = false) :
    Calls Tryz.prog 31 #[.iface 60 (.int .i64 n), .iface 62 (.pointer (some t))] w fun ev w' => ev = .returned (.bool true) ∧ w' = asW w t n := by
  have h1 := @run_callFunc_extern Tryz.prog 60 _ (fun args => ReflectliteValue.unpack (args.getD 0 (.tuple #[]))) Tryz.func60 (by kernel_rfl) (by kernel_rfl) (by kernel_rfl) (by kernel_rfl)
  have h2 := @run_callFunc_extern Tryz.prog 61 _ (ReflectliteValue.methodAny (ReflectliteValue.valueError "reflectlite.Value.Type" 0) (fun t _ _ _ => ReflectliteType.toType t)) Tryz.func61 (by kernel_rfl) (by kernel_rfl) (by kernel_rfl) (by kernel_rfl)
  have h3 := @run_callFunc_extern Tryz.prog 62 _ (ReflectliteValue.method (ReflectliteValue.valueError "reflectlite.Value.IsNil" 0) ReflectliteValue.isNil) Tryz.func62 (by kernel_rfl) (by kernel_rfl) (by kernel_rfl) (by kernel_rfl)
  have h4 := @run_callFunc_extern Tryz.prog 135 _ (ReflectliteType.abiMethod fun t => (fun a : Nat => Value.int IntKind.u8 (a : Int)) <$> Rtype.kind t) Tryz.func135 (by kernel_rfl) (by kernel_rfl) (by kernel_rfl) (by kernel_rfl)
  have h5 := @run_callFunc_extern Tryz.prog 145 _ (ReflectliteType.method ReflectliteType.elem) Tryz.func145 (by kernel_rfl) (by kernel_rfl) (by kernel_rfl) (by kernel_rfl)
  have h6 := @run_callFunc_extern Tryz.prog 146 _ (ReflectliteType.relation "Implements" ReflectliteType.implements_) Tryz.func146 (by kernel_rfl) (by kernel_rfl) (by kernel_rfl) (by kernel_rfl)
  have h7 := @run_callFunc_extern Tryz.prog 79 _ ReflectliteType.typeOf Tryz.func79 (by kernel_rfl) (by kernel_rfl) (by kernel_rfl) (by kernel_rfl)
  have h8 := @run_callFunc_extern Tryz.prog 143 _ (ReflectliteType.relation "AssignableTo" ReflectliteType.assignableTo) Tryz.func143 (by kernel_rfl) (by kernel_rfl) (by kernel_rfl) (by kernel_rfl)
  have h9 := @run_callFunc_extern Tryz.prog 80 _ (ReflectliteValue.method (ReflectliteValue.valueError "reflectlite.Value.Elem" 0) ReflectliteValue.elem) Tryz.func80 (by kernel_rfl) (by kernel_rfl) (by kernel_rfl) (by kernel_rfl)
  have h10 := @run_callFunc_extern Tryz.prog 81 _ ReflectliteValue.set Tryz.func81 (by kernel_rfl) (by kernel_rfl) (by kernel_rfl) (by kernel_rfl)
  have tO := e_typeOf
  have mA := e_methodAssignable
  have a2 := e_assignable
  have vE := e_valueOfE
  have f6 := e_valueOf
  have f7 := e_type
  have mK := e_methodKind
  have mE := e_methodElem
  have mI := e_methodImplements
  have kP := e_kindP
  have kE := e_kindE
  have eT := e_elemT
  have iT := e_implements
  have n8 := e_isNil ⟨w.heap.size, 0, none⟩ t ((w.alloc (.cells #[.pointer (some t)] 62)).alloc (.cells #[.pointer (some ⟨6, 62, none⟩), .pointer (some ⟨w.heap.size, 0, none⟩), .int .u64 150] 101)) (by simp)
  have hlt : 0 < w.heap.size := hg.lt
  have hg2 : ((w.alloc (.cells #[.pointer (some t)] 62)).alloc (.cells #[.pointer (some ⟨6, 62, none⟩), .pointer (some ⟨w.heap.size, 0, none⟩), .int .u64 150] 101)).cell? ⟨0, 0, none⟩ = some (.iface 119 (.agg #[.pointer (some ⟨6, 57, none⟩)])) := by
    rw [World.cell?_alloc_lt _ _ ⟨0, 0, none⟩ (by simp), World.cell?_alloc_lt _ _ ⟨0, 0, none⟩ hlt]; exact hg
  have htl : t.block < w.heap.size := by
    rcases Nat.lt_or_ge t.block w.heap.size with h | h
    · exact h
    · simp [World.cell?, Array.getElem?_eq_none h] at ht0
  have el := e_elemV ⟨w.heap.size, 0, none⟩ t (((w.alloc (.cells #[.pointer (some t)] 62)).alloc (.cells #[.pointer (some ⟨6, 62, none⟩), .pointer (some ⟨w.heap.size, 0, none⟩), .int .u64 150] 101)).alloc (.cells #[.pointer (some ⟨6, 62, none⟩), .pointer (some ⟨w.heap.size, 0, none⟩), .int .u64 150] 101)) (by rw [World.cell?_alloc_lt _ _ ⟨w.heap.size, 0, none⟩ (by simp; omega)]; simp)
  have st := e_set t ⟨w.heap.size + 1 + 1 + 1, 0, none⟩ n old ((((w.alloc (.cells #[.pointer (some t)] 62)).alloc (.cells #[.pointer (some ⟨6, 62, none⟩), .pointer (some ⟨w.heap.size, 0, none⟩), .int .u64 150] 101)).alloc (.cells #[.pointer (some ⟨6, 62, none⟩), .pointer (some ⟨w.heap.size, 0, none⟩), .int .u64 150] 101)).alloc (.cells #[.int .i64 n] 60))
    (by rw [World.cell?_alloc_at _ _ _ _ (by simp)]; rfl)
    (by rw [World.cell?_alloc_lt _ _ t (by simp; omega), World.cell?_alloc_lt _ _ t (by simp; omega), World.cell?_alloc_lt _ _ t (by simp; omega), World.cell?_alloc_lt _ _ t htl]; exact ht0)
    (by rw [World.frozen?_alloc_old _ _ t (by simp; omega), World.frozen?_alloc_old _ _ t (by simp; omega), World.frozen?_alloc_old _ _ t (by simp; omega), World.frozen?_alloc_old _ _ t (Nat.ne_of_lt htl)]; exact hf0)
  go_enter Tryz.func31, Tryz.ntmps31
  go_wp2
  refine wp_loop_rounds 1 ?_
  rw [rounds_succ]
  go_wp2
  go_ret
  exact ⟨rfl, rfl⟩

end Sl
end Go.Proofs.YtonpalaopnfffaaGreatDoor

namespace Go.Proofs.YtonpalaopnfffaaGreatDoor
set_option linter.unusedVariables false
set_option maxRecDepth 4000
open Go.RowKit Go.ChangeShapes Go.WideShapes Go.ChangeAt

namespace Sl
open Ht Ck Ky Mk

/-- a variable's block, made to hold a table, or the handle of the type error -/
def holdH (d : DataW Unit) : Obj → Obj
  | .cells c t frozen => match d.handleName? with
    | some _ => .cells #[.iface 119 (.agg #[.pointer (some ⟨6, 57, none⟩)])] t frozen
    | none => holding d (.cells c t frozen)
  | o => o

/-- variables made to hold them, one after another -/
def layH (h : Array Obj) (l : List (Nat × DataW Unit)) : Array Obj := l.foldl (fun h x => h.modify x.1 (holdH x.2)) h

theorem open_err (l : List KeyL) (s : List UInt8) (now : Int) (h : ¬ (openL l s now).2 = 0) : (openL l s now).1 = [] := by
  revert h
  unfold openL
  cases readS s with
  | none => intro _; rfl
  | some q =>
    obtain ⟨id, t, m⟩ := q
    simp only
    split
    · split
      · split
        · intro h; exact absurd rfl h
        · intro _; rfl
      · intro _; rfl
    · intro _; rfl

theorem as_facts {w0 w : World} {b : Nat} (n : Int) (hB : Below w0.heap.size w0 w) (hb : w0.heap.size ≤ b) (row : w.heap[b]? = some (.cells #[.int .i64 0] 60 (0, 0))) :
    Below w0.heap.size w0 (asW w ⟨b, 0, none⟩ n) ∧ (asW w ⟨b, 0, none⟩ n).cell? ⟨b, 0, none⟩ = some (.int .i64 n) := by
  have c1 := (Below.refl w.heap.size w).alloc (Nat.le_refl _) (.cells #[.pointer (some ⟨b, 0, none⟩)] 62)
  have c2 := c1.alloc c1.size (.cells #[.pointer (some ⟨6, 62, none⟩), .pointer (some ⟨w.heap.size, 0, none⟩), .int .u64 150] 101)
  have c3 := c2.alloc c2.size (.cells #[.pointer (some ⟨6, 62, none⟩), .pointer (some ⟨w.heap.size, 0, none⟩), .int .u64 150] 101)
  have c4 := c3.alloc c3.size (.cells #[.int .i64 n] 60)
  have r4 := (c4.block b (lt_of_block row)).trans row
  have e := heap_setCell_same _ b 0 _ _ (.int .i64 n) r4
  exact ⟨(bstep hB c4).setCell (p := ⟨b, 0, none⟩) hb _, (box1 (a0 := .int .i64 n) e).1⟩

set_option maxHeartbeats 6400000 in
theorem open_impl (v : Value) (l : List KeyL) (s : List UInt8) (now : Int) (w : World) (h : At w v l) (hn : l.length ≤ 1048576) (hS : ∀ c ∈ l, Sm c) (hs : s.length ≤ 1048576) (hT : Tb w) (hE : Er w) :
    Calls Tryz.prog 9 #[.agg #[v], .string (txt s), .int .i64 now] w fun e w' => e = .returned (.tuple #[.string (txt (openL l s now).1), .int .i64 (openL l s now).2]) ∧ Below w.heap.size w w' := by
  obtain ⟨a, cap, rfl⟩ := h.form
  have ba := (Below.refl w.heap.size w).alloc (Nat.le_refl _) (.cells #[.slice a l.length cap] 30)
  have HF := Lib.hid (Grid.GAt.below h ba)
  have BA := Lib.hid ba
  have HT := Lib.hid (hT.below ba)
  have HE := Lib.hid (hE.below ba)
  have G0 := Lib.hid (heap_alloc_new w (.cells #[.slice a l.length cap] 30))
  have US := Lib.hid (fun wx hx ht => unseal_call (.slice a l.length cap) l s now wx hx hn hS hs ht)
  have HO := Lib.hid (open_err l s now)
  generalize openL l s now = R at US HO ⊢
  obtain ⟨RT, RC⟩ := R
  clear ba hT hE h
  by_cases hc : RC = 0
  · subst hc
    simp only [unsV, if_true] at US
    go_enter Tryz.func9, Tryz.ntmps9
    go_wp2_with fail
    refine (US.out _ HF.out HT.out).mono ?_
    rintro e w1 ⟨rfl, b1⟩
    have c2 := Lib.hid (bstep (bstep BA.out b1) ((Below.refl w1.heap.size w1).alloc (Nat.le_refl _) (.cells #[.int .i64 0] 60)))
    clear b1
    go_wp2_with fail
    refine (as_nil _ _).mono ?_
    rintro e w2 ⟨rfl, rfl⟩
    go_wp2
    go_ret2
    exact ⟨rfl, c2.out⟩
  · obtain rfl : RT = [] := HO.out hc
    simp only [unsV, if_neg hc, errV] at US
    clear HO
    go_enter Tryz.func9, Tryz.ntmps9
    go_wp2_with fail
    refine (US.out _ HF.out HT.out).mono ?_
    rintro e w1 ⟨rfl, b1⟩
    have d1 := (Below.refl w1.heap.size w1).alloc (Nat.le_refl _) (.cells #[.int .i64 0] 60)
    have hz := (bstep BA.out b1).size
    have HE1 := Lib.hid ((HE.out.below b1).below d1)
    have row := heap_alloc_new w1 (.cells #[.int .i64 0] 60)
    have X := Lib.hid (box1 row)
    have AF := Lib.hid (as_facts RC (bstep (bstep BA.out b1) d1) hz row)
    clear d1 b1 hz row hc
    go_wp2_with fail
    refine (as_hit RC _ _ _ HE1.out X.out.1 X.out.2).mono ?_
    rintro e w2 ⟨rfl, rfl⟩
    obtain ⟨A1, A2⟩ := AF.out
    have B1 := Lib.hid A1
    clear AF X HE1 A1
    generalize asW (w1.alloc (.cells #[.int .i64 0] 60)) ⟨w1.heap.size, 0, none⟩ RC = w3 at B1 A2
    go_wp2
    go_quiet (fail)
    go_wp2
    go_ret2
    exact ⟨rfl, below_drewN B1.out _⟩

end Sl
end Go.Proofs.YtonpalaopnfffaaGreatDoor
