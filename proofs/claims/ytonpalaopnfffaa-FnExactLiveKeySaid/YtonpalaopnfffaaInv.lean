/- A REGION THAT DRAWS ITS ORDER, BY AN INVARIANT: what holds of the operations that have come up, whatever their order. -/
import Derived.Test.YtonpalaopnfffaaC1
namespace Go.Proofs.Ytonpalaopnfffaa
set_option linter.unusedVariables false
set_option maxRecDepth 4000
open Go.ChangeShapes Go.WideShapes Go.ChangeAt Go.RowKit

namespace Inv

/-- how many have not come up yet -/
def left (l : Array Bool) : Nat := l.toList.countP (fun b => !b)

theorem left_set (l : Array Bool) (i : Nat) (hi : i < l.size) (h : l.getD i true = false) : left (l.setIfInBounds i true) + 1 = left l := by
  unfold left
  have hli : l.toList[i]'(by simpa using hi) = false := by
    have : l.getD i true = l[i] := by simp [Array.getD, hi]
    rw [this] at h
    simpa using h
  rw [Array.toList_setIfInBounds]
  have hl : i < l.toList.length := by simpa using hi
  have e := List.set_eq_take_append_cons_drop (l := l.toList) (i := i) (a := true)
  rw [if_pos hl] at e
  have e2 : l.toList = l.toList.take i ++ l.toList[i] :: l.toList.drop (i + 1) := by
    rw [← List.drop_eq_getElem_cons hl, List.take_append_drop]
  rw [e]
  conv => rhs; rw [e2]
  rw [List.countP_append, List.countP_append, List.countP_cons, List.countP_cons, hli]
  simp
  omega

theorem left_zero (l : Array Bool) (h : left l = 0) (i : Nat) : l.getD i true = true := by
  unfold left at h
  rw [List.countP_eq_zero] at h
  by_cases hi : i < l.size
  · have hm : l[i] ∈ l.toList := by simp
    have := h _ hm
    simpa [Array.getD, hi] using this
  · simp [Array.getD, hi]

section
variable {P : Program} {ops : Array Oper} {Q : Exit → Act → World → Prop} {md : Region.Mode}

theorem ready_mem {listed : Array Bool} {i : Nat} (h : i ∈ Region.ready md ops listed) : i < ops.size ∧ listed.getD i true = false ∧ ∀ o, ops[i]? = some o → o.after.all (fun e => !Region.binds md e || listed.getD e.on false) = true := by
  unfold Region.ready at h
  obtain ⟨h1, h2⟩ := List.mem_filter.1 h
  rw [List.mem_range] at h1
  simp only [Bool.and_eq_true, Bool.not_eq_true'] at h2
  refine ⟨h1, h2.1, fun o ho => ?_⟩
  have h3 := h2.2
  rw [ho] at h3
  simpa using h3

theorem ready_nil {listed : Array Bool} (hs : listed.size = ops.size) (hlow : ∀ (i : Nat) (o : Oper), ops[i]? = some o → o.after.all (fun e => !Region.binds md e || decide (e.on < i)) = true) (h : Region.ready md ops listed = []) : ∀ i, i < ops.size → listed.getD i true = true := by
  intro i
  induction i using Nat.strongRecOn with
  | ind i ih =>
    intro hi
    cases hb : listed.getD i true with
    | true => rfl
    | false =>
      exfalso
      have hm : i ∈ Region.ready md ops listed := by
        unfold Region.ready
        refine List.mem_filter.2 ⟨List.mem_range.2 hi, ?_⟩
        rw [hb, Array.getElem?_eq_getElem hi]
        have hl := hlow i ops[i] (Array.getElem?_eq_getElem hi)
        simp only [Bool.not_false, Bool.true_and, Option.map_some, Option.getD_some]
        rw [Array.all_eq_true] at hl ⊢
        intro j hj
        have h0 := hl j hj
        cases hbd : Region.binds md (ops[i].after[j]) with
        | false => rfl
        | true =>
          rw [hbd] at h0
          have h1 : (ops[i].after[j]).on < i := by simpa using h0
          have h2 := ih _ h1 (by omega)
          have h3 : listed.getD (ops[i].after[j]).on false = true := by
            have : (ops[i].after[j]).on < listed.size := by omega
            simpa [Array.getD, this] using h2
          rw [h3]
          rfl
      rw [h] at hm
      cases hm

theorem any_inv (J : Array Bool → Act → World → Prop) (hsz : ∀ l a w, J l a w → l.size = ops.size) (hlow : ∀ (i : Nat) (o : Oper), ops[i]? = some o → o.after.all (fun e => !Region.binds md e || decide (e.on < i)) = true)
    (hstep : ∀ l a w, J l a w → ∀ i, i < ops.size → l.getD i true = false → (∀ o : Oper, ops[i]? = some o → o.after.all (fun e => !Region.binds md e || l.getD e.on false) = true) → wpOp P ops Q i (fun a' w' => J (l.setIfInBounds i true) a' w') a w)
    (hend : ∀ l a w, J l a w → (∀ i, i < ops.size → l.getD i true = true) → Q .normal a w) :
    ∀ fuel l a w, left l ≤ fuel → J l a w → wpAny P md ops Q fuel l a w := by
  intro fuel
  induction fuel with
  | zero =>
    intro l a w hl hJ
    have hz := left_zero l (by omega)
    refine ⟨?_, hend l a w hJ (fun i _ => hz i)⟩
    cases hr : Region.ready md ops l with
    | nil => rfl
    | cons i r =>
      exfalso
      have := (ready_mem (md := md) (ops := ops) (listed := l) (i := i) (by rw [hr]; exact List.mem_cons_self)).2.1
      rw [hz i] at this
      cases this
  | succ n ih =>
    intro l a w hl hJ
    refine ⟨fun hr => hend l a w hJ (ready_nil (hsz l a w hJ) hlow hr), fun i hi => ?_⟩
    obtain ⟨h1, h2, h3⟩ := ready_mem hi
    refine wpOp_mono (fun a' w' hJ' => ih _ a' w' ?_ hJ') (hstep l a w hJ i h1 h2 h3)
    have := left_set l i (by rw [hsz l a w hJ]; exact h1) h2
    omega

theorem left_start (n : Nat) : left (Array.replicate n false) ≤ n := by
  unfold left
  refine Nat.le_trans (List.countP_le_length) ?_
  simp

/-- each operation waits for earlier ones alone -/
def low (ops : Array Oper) : Bool := (List.range ops.size).all fun i => match ops[i]? with
  | some o => o.after.all fun e => !Region.binds .any e || decide (e.on < i)
  | none => true

theorem low_at {ops : Array Oper} (h : low ops = true) (i : Nat) (o : Oper) (ho : ops[i]? = some o) : o.after.all (fun e => !Region.binds .any e || decide (e.on < i)) = true := by
  unfold low at h
  have hi : i < ops.size := by
    rcases Nat.lt_or_ge i ops.size with h | h
    · exact h
    · rw [Array.getElem?_eq_none h] at ho; cases ho
  have := List.all_eq_true.1 h i (List.mem_range.2 hi)
  rw [ho] at this
  exact this

/-- a region that draws, by an invariant -/
theorem region_inv {id : Nat} {a : Act} {w : World} (hm : P.follows .mixedOrders = true) (J : Array Bool → Act → World → Prop) (hsz : ∀ l a w, J l a w → l.size = ops.size) (hlow : low ops = true)
    (hJ : J (Array.replicate ops.size false) a w.drew)
    (hstep : ∀ l a w, J l a w → ∀ i, i < ops.size → l.getD i true = false → (∀ o : Oper, ops[i]? = some o → o.after.all (fun e => !Region.binds .any e || l.getD e.on false) = true) → wpOp P ops Q i (fun a' w' => J (l.setIfInBounds i true) a' w') a w)
    (hend : ∀ l a w, J l a w → (∀ i, i < ops.size → l.getD i true = true) → Q .normal a w) :
    (Code.region id ops true).wp P Q a w :=
  wp_region_any hm (any_inv J hsz (low_at hlow) hstep hend ops.size _ a _ (left_start _) hJ)

/-- an operation with no guard -/
theorem wpOp_at {i : Nat} {o : Oper} {K : Act → World → Prop} {a : Act} {w : World} (ho : ops[i]? = some o) (hg : o.guard = none) (h : o.wp P a w K Q) : wpOp P ops Q i K a w := by
  unfold wpOp
  simp only [ho, Region.wanted, hg, if_true]
  exact .inl h

theorem getD_set_same (l : Array Bool) (i : Nat) (hi : i < l.size) (d : Bool) : (l.setIfInBounds i true).getD i d = true := by
  simp [Array.getD, hi]

theorem getD_set_other (l : Array Bool) (i j : Nat) (h : i ≠ j) (d : Bool) : (l.setIfInBounds i true).getD j d = l.getD j d := by
  simp only [Array.getD_eq_getD_getElem?, Array.getElem?_setIfInBounds, h, if_false]

end

def upd {α : Type} (f : Nat → α) (i : Nat) (v : α) : Nat → α := fun k => if k = i then v else f k

theorem upd_bits (l : Array Bool) (i : Nat) (hi : i < l.size) : (fun k => (l.setIfInBounds i true).getD k false) = upd (fun k => l.getD k false) i true := by
  funext k
  unfold upd
  by_cases h : k = i
  · subst h
    rw [if_pos rfl, getD_set_same l k hi]
  · rw [if_neg h, getD_set_other l i k (fun e => h e.symm)]

theorem upd_slots (t : Array Value) (d : Nat) (v : Value) (hd : d < t.size) : (fun k => (t.setIfInBounds d v)[k]?.getD undef) = upd (fun k => t[k]?.getD undef) d v := by
  funext k
  unfold upd
  by_cases h : k = d
  · subst h
    simp [hd]
  · rw [if_neg h, Array.getElem?_setIfInBounds_ne (fun e => h e.symm)]

end Inv

end Go.Proofs.Ytonpalaopnfffaa
