/- CONTRACT of GetForm: the program's, by its range over a function. -/
import Derived.Test.YtfnignlfelambaaDoorGet
import Derived.Deep.MidRow
namespace Go.Proofs.YtfnignlfelambaaDoor
set_option linter.unusedVariables false
set_option maxRecDepth 4000
open Go.RowKit Go.Shelf
open Go.ChangeShapes Go.WideShapes Go.ChangeAt
attribute [local go_sem] Oper.semAt_some

def zero30 : Array Value := (List.replicate 60 (Value.string ⟨#[]⟩)).toArray

theorem getA_snoc (pre : List (List UInt8)) (x : List UInt8) : ∀ acc, getA acc (pre ++ [x]) = (getA acc pre).bind fun L => (partL x).map fun p => L ++ [p] := by
  induction pre with
  | nil =>
    intro acc
    rw [List.nil_append, getA]
    cases h : partL x <;> simp [getA, h]
  | cons y r ih =>
    intro acc
    rw [List.cons_append, getA, getA]
    cases h : partL y
    · simp
    · simp [ih]

theorem getA_stop (pre : List (List UInt8)) (r : List (List UInt8)) : ∀ acc, getA acc pre = none → getA acc (pre ++ r) = none := by
  induction pre with
  | nil => intro acc h; simp [getA] at h
  | cons y q ih =>
    intro acc h
    rw [getA] at h
    rw [List.cons_append, getA]
    cases hy : partL y
    · rfl
    · rw [hy] at h
      exact ih _ h

theorem getL_stop (s : List UInt8) (pre : List (List UInt8)) (hp : pre <+: splitL 38 s) (h : getA [] pre = none ∨ 30 < pre.length) : getL s = none := by
  obtain ⟨r, hr⟩ := hp
  unfold getL
  by_cases hl : (splitL 38 s).length > 30
  · rw [if_pos hl]
  · rw [if_neg hl]
    rcases h with h | h
    · rw [← hr]; exact getA_stop pre r [] h
    · rw [← hr, List.length_append] at hl; omega

theorem run_sliceAt_three {P : Program} (t e : TypeId) (N : Nat) (i : TypeInfo) (ht : P.underlying t = some (.array N e)) (hi : P.info? e = some i) (g n : Nat) (hn : n ≤ N) (w : World) :
    (Instr.sliceAt t (.pointer (some ⟨g, 0, none⟩)) none (some (.int .i64 (n : Int))) (some (.int .i64 (n : Int)))).run P w = .ok (.slice (some ⟨g, 0, none⟩) n n) w := by
  have h1 : (n : Int) ≤ (N : Int) := by omega
  have h2 : ¬ ((N : Int) < (n : Int)) := by omega
  simp [Instr.sliceAt, Instr.sureAddr, slicedAt, run_underlying ht, Instr.sliceBounds, run_sliceBound, sliced, sizeOf, typeInfo, hi, h1, h2, Result.andThen]
  intro _
  simp [Addr.add]

theorem run_loadVar_boxed {P : Program} {W : World} {g : Nat} {t : TypeId} {v : Value} {d : TypeDesc} (h : Boxed W g t v) (hu : P.underlying t = some d) (hd : (match d with | .struct _ | .array _ _ => true | _ => false) = false) :
    (loadVar t ⟨g, 0, none⟩).run P W = .ok v W := by
  have hc := h.cell
  have ha : (isAgg t).run P W = .ok false W := by
    unfold isAgg
    simp only [Sem.run_bind, run_underlying hu, Result.andThen]
    cases d <;> simp_all
  unfold loadVar
  simp only [Sem.run_bind, ha, Result.andThen]
  simp [hc]

theorem results_cells2 {P : Program} {fn : Func} {p q : Tmp} {t1 t2 : TypeId} (h : fn.results = #[.cell p t1, .cell q t2]) (tmps : Array Value) (W : World) (a1 a2 : Addr) (v1 v2 : Value) (h1 : tmps.getD p undef = .pointer (some a1)) (h2 : tmps.getD q undef = .pointer (some a2))
    (l1 : (loadVar t1 a1).run P W = .ok v1 W) (l2 : (loadVar t2 a2).run P W = .ok v2 W) : (results fn tmps).run P W = .ok (.tuple #[v1, v2]) W := by
  have e : (results fn tmps).run P W = ((asAddr (tmps.getD p undef)).run P W).andThen fun a w1 => ((loadVar t1 a).run P w1).andThen fun v w2 => ((asAddr (tmps.getD q undef)).run P w2).andThen fun b w3 => ((loadVar t2 b).run P w3).andThen fun u w4 => .ok (.tuple #[v, u]) w4 := by
    simp only [results, h]
    simp [Sem.run_bind, Result.andThen]
  rw [e, h1]
  simp only [asAddr, Sem.run_pure, Result.andThen, l1, h2, l2]

theorem boxed_putD {W : World} {g D : Nat} {t : TypeId} {v : Value} {o : Obj} (h : Boxed W g t v) (hne : g ≠ D) : Boxed (W.putObj D o) g t v := (World.putObj_heap_other hne).trans h

theorem boxed_other {W : World} {g B k : Nat} {t : TypeId} {v : Value} (h : Boxed W g t v) (hne : g ≠ B) (v' : Value) : Boxed (W.setCell ⟨B, k, none⟩ v') g t v := (Below.heap_setCell _ _ _ _ hne).trans h

/-- behind an early end -/
structure GetX (w : World) (c : Code) (pre : List (List UInt8)) (W : World) : Prop where
  ret : c = .ret
  why : getA [] pre = none ∨ 30 < pre.length
  res : Boxed W w.heap.size 24 (.slice none 0 0)
  ok : Boxed W (w.heap.size + 1) 4 (.bool false)
  below : Below w.heap.size w W

theorem GetX.kept {w W W' : World} {c : Code} {pre : List (List UInt8)} (h : GetX w c pre W) {row : Option Nat} (hg : W.grownBy W' row) (hr : ∀ r, row = some r → w.heap.size + 6 ≤ r) : GetX w c pre W' := by
  have hs2 := h.ok.lt
  have hb : ∀ k, k < w.heap.size + 2 → W'.heap[k]? = W.heap[k]? := fun k hk => hg.block k (by omega) (fun e => by have := hr k e.symm; omega)
  exact ⟨h.ret, h.why, (hb _ (by omega)).trans h.res, (hb _ (by omega)).trans h.ok, h.below.grown hg h.below.size (fun r e => by have := hr r e; omega)⟩

end Go.Proofs.YtfnignlfelambaaDoor
