/- A REGION THAT DRAWS ITS ORDER, BY AN INVARIANT OVER BITS AND SLOTS: the moves. -/
import Derived.Test.YtonpalaopnfffaaInv
namespace Go.Proofs.Ytonpalaopnfffaa
set_option linter.unusedVariables false
set_option maxRecDepth 4000
open Go.ChangeShapes Go.WideShapes Go.ChangeAt Go.RowKit

namespace Inv

/-- n operations, m slots; S: of what has come up, of the slots, of the world -/
def JJ (n m : Nat) (S : (Nat → Bool) → (Nat → Value) → World → Prop) (l : Array Bool) (a : Act) (w : World) : Prop :=
  l.size = n ∧ (a.tmps.size = m ∧ a.defers = []) ∧ S (fun k => l.getD k false) (fun k => a.tmps[k]?.getD undef) w

theorem jj_put {n m : Nat} {S : (Nat → Bool) → (Nat → Value) → World → Prop} {l : Array Bool} {a : Act} {w : World} {i d : Nat} {v : Value} (h : l.size = n) (hs : a.tmps.size = m ∧ a.defers = []) (hi : i < n) (hd : d < m) (hS : S (upd (fun k => l.getD k false) i true) (upd (fun k => a.tmps[k]?.getD undef) d v) w) :
    JJ n m S (l.setIfInBounds i true) { tmps := a.tmps.setIfInBounds d v, defers := a.defers } w := by
  refine ⟨by simp [h], ⟨by simp [hs.1], hs.2⟩, ?_⟩
  rw [upd_bits l i (by omega), upd_slots a.tmps d v (by rw [hs.1]; exact hd)]
  exact hS

theorem jj_keep {n m : Nat} {S : (Nat → Bool) → (Nat → Value) → World → Prop} {l : Array Bool} {a : Act} {w : World} {i : Nat} (h : l.size = n) (hs : a.tmps.size = m ∧ a.defers = []) (hi : i < n) (hS : S (upd (fun k => l.getD k false) i true) (fun k => a.tmps[k]?.getD undef) w) :
    JJ n m S (l.setIfInBounds i true) a w := by
  refine ⟨by simp [h], hs, ?_⟩
  rw [upd_bits l i (by omega)]
  exact hS

section
variable {P : Program} {ops : Array Oper} {Q : Exit → Act → World → Prop}

/-- a region by an invariant: each operation, as it comes up, from bits b and slots t -/
theorem region_jj {id : Nat} {a : Act} {w : World} (n m : Nat) (S : (Nat → Bool) → (Nat → Value) → World → Prop) (hm : P.follows .mixedOrders = true) (hsz : ops.size = n) (hlow : low ops = true) (ha : a.tmps.size = m ∧ a.defers = [])
    (h0 : S (fun _ => false) (fun k => a.tmps[k]?.getD undef) w.drew)
    (hstep : ∀ (a : Act) (b : Nat → Bool) (t : Nat → Value) (w : World), S b t w → (∀ k, a.tmps[k]?.getD undef = t k) → ∀ i, i < n → b i = false → (∀ o : Oper, ops[i]? = some o → o.after.all (fun e => !Region.binds .any e || b e.on) = true) →
      ∀ K : Act → World → Prop, (∀ d v w', d < m → S (upd b i true) (upd t d v) w' → K { tmps := a.tmps.setIfInBounds d v, defers := a.defers } w') → (∀ w', S (upd b i true) t w' → K a w') → wpOp P ops Q i K a w)
    (hend : ∀ (a : Act) (t : Nat → Value) (w : World) (b : Nat → Bool), S b t w → (∀ k, k < n → b k = true) → (∀ k, a.tmps[k]?.getD undef = t k) → a.tmps.size = m → a.defers = [] → Q .normal a w) :
    (Code.region id ops true).wp P Q a w := by
  refine region_inv hm (JJ n m S) (fun l a w h => by rw [h.1, hsz]) hlow ?_ ?_ ?_
  · refine ⟨by simp [hsz], ha, ?_⟩
    have e : (fun k => (Array.replicate ops.size false).getD k false) = fun _ => false := by
      funext k
      simp only [Array.getD_eq_getD_getElem?, Array.getElem?_replicate]
      split <;> rfl
    rw [e]
    exact h0
  · intro l a w hJ i hi hl hafter
    obtain ⟨h1, h2, h3⟩ := hJ
    have hlf : l.getD i false = false := by
      have hil : i < l.size := by omega
      simpa [Array.getD, hil] using hl
    exact hstep a _ _ w h3 (fun k => rfl) i (by omega) hlf hafter _ (fun d v w' hd hS => jj_put h1 h2 (by omega) hd hS) (fun w' hS => jj_keep h1 h2 (by omega) hS)
  · intro l a w hJ hall
    obtain ⟨h1, h2, h3⟩ := hJ
    refine hend a _ w _ h3 (fun k hk => ?_) (fun k => rfl) h2.1 h2.2
    have := hall k (by omega)
    have hil : k < l.size := by omega
    simpa [Array.getD, hil] using this

end
/-- an operation whose guard does not want it -/
theorem wpOp_skip {P : Program} {ops : Array Oper} {Q : Exit → Act → World → Prop} {i : Nat} {o : Oper} {K : Act → World → Prop} {a : Act} {w : World} {j d : Nat} {want got : Bool} (ho : ops[i]? = some o) (hg : o.guard = some (j, want)) (hd : (ops[j]?).bind (·.dst) = some d) (hv : a.tmps[d]?.getD undef = .bool got) (hne : got ≠ want) (h : K (a.put o.dst undef) w) : wpOp P ops Q i K a w := by
  have hv2 : a.tmps[d]? = some (.bool got) := by
    cases e : a.tmps[d]? with
    | none => rw [e] at hv; cases hv
    | some v => rw [e] at hv; simpa using hv
  have hw : Region.wanted o (yielded ops a.tmps) = false := by
    unfold Region.wanted yielded
    rw [hg]
    simp only [hd, Option.bind_some, hv2]
    cases got <;> cases want <;> simp_all
  unfold wpOp
  simp only [ho, hw]
  exact h

/-- an operation whose guard was itself passed over -/
theorem wpOp_skip0 {P : Program} {ops : Array Oper} {Q : Exit → Act → World → Prop} {i : Nat} {o : Oper} {K : Act → World → Prop} {a : Act} {w : World} {j d : Nat} {want : Bool} (ho : ops[i]? = some o) (hg : o.guard = some (j, want)) (hd : (ops[j]?).bind (·.dst) = some d) (hv : a.tmps[d]?.getD undef = undef) (h : K (a.put o.dst undef) w) : wpOp P ops Q i K a w := by
  have hw : Region.wanted o (yielded ops a.tmps) = false := by
    unfold Region.wanted yielded
    rw [hg]
    simp only [hd, Option.bind_some]
    cases e : a.tmps[d]? with
    | none => cases want <;> rfl
    | some v =>
      rw [e] at hv
      have hv2 : v = undef := by simpa using hv
      subst hv2
      cases want <;> rfl
  unfold wpOp
  simp only [ho, hw]
  exact h

/-- an operation whose guard wants it -/
theorem wpOp_want {P : Program} {ops : Array Oper} {Q : Exit → Act → World → Prop} {i : Nat} {o : Oper} {K : Act → World → Prop} {a : Act} {w : World} {j d : Nat} {want : Bool} (ho : ops[i]? = some o) (hg : o.guard = some (j, want)) (hd : (ops[j]?).bind (·.dst) = some d) (hv : a.tmps[d]?.getD undef = .bool want) (h : o.wp P a w K Q) : wpOp P ops Q i K a w := by
  have hv2 : a.tmps[d]? = some (.bool want) := by
    cases e : a.tmps[d]? with
    | none => rw [e] at hv; cases hv
    | some v => rw [e] at hv; simpa using hv
  have hw : Region.wanted o (yielded ops a.tmps) = true := by
    unfold Region.wanted yielded
    rw [hg]
    simp only [hd, Option.bind_some, hv2]
    cases want <;> rfl
  unfold wpOp
  simp only [ho, hw, if_true]
  exact .inl h

/-- what a table says of a slot -/
def tabAt (tab : List (Nat × Nat × Value)) (t0 : Nat → Value) (k : Nat) : Value := match tab.find? (fun p => p.2.1 == k) with
  | some p => p.2.2
  | none => t0 k

theorem act_lit {a : Act} {m : Nat} {T : Nat → Value} (hs : a.tmps.size = m) (hd : a.defers = []) (h : ∀ k, k < m → a.tmps[k]?.getD undef = T k) : a = { tmps := ((List.range m).map T).toArray, defers := [] } := by
  obtain ⟨tm, df⟩ := a
  simp only at hs hd h
  subst hd
  congr 1
  apply Array.ext
  · simp [hs]
  · intro i h1 h2
    have hi : i < m := by omega
    have := h i hi
    rw [Array.getElem?_eq_getElem h1] at this
    simp only [Option.getD_some] at this
    simp [this]

section
variable {P : Program} {ops : Array Oper} {Q : Exit → Act → World → Prop}

/-- a region whose operations yield what a table says, each into its slot -/
theorem region_tab {id : Nat} {a0 : Act} {w : World} (n m : Nat) (tab : List (Nat × Nat × Value)) (W : World → Prop) (hm : P.follows .mixedOrders = true) (hsz : ops.size = n) (hlow : low ops = true) (ha : a0.tmps.size = m ∧ a0.defers = [])
    (hn1 : (tab.map (·.1)) = List.range n) (hn2 : (tab.map (·.2.1)).Nodup) (hd : ∀ p ∈ tab, p.2.1 < m) (h0 : W w.drew)
    (hstep : ∀ (a : Act) (b : Nat → Bool) (t : Nat → Value) (w : World), W w → (∀ k, a.tmps[k]?.getD undef = t k) → (∀ p ∈ tab, b p.1 = true → t p.2.1 = p.2.2) → (∀ k, (∀ p ∈ tab, p.2.1 ≠ k) → t k = a0.tmps[k]?.getD undef) →
      ∀ p ∈ tab, (∀ o : Oper, ops[p.1]? = some o → o.after.all (fun e => !Region.binds .any e || b e.on) = true) → ∀ K : Act → World → Prop, (∀ w', W w' → K { tmps := a.tmps.setIfInBounds p.2.1 p.2.2, defers := a.defers } w') → wpOp P ops Q p.1 K a w)
    (hend : ∀ w, W w → Q .normal { tmps := ((List.range m).map (tabAt tab (fun k => a0.tmps[k]?.getD undef))).toArray, defers := [] } w) :
    (Code.region id ops true).wp P Q a0 w := by
  have hnd1 : (tab.map (·.1)).Nodup := by rw [hn1]; exact List.nodup_range
  refine region_jj n m (fun b t w => W w ∧ (∀ p ∈ tab, b p.1 = true → t p.2.1 = p.2.2) ∧ (∀ k, (∀ p ∈ tab, p.2.1 ≠ k) → t k = a0.tmps[k]?.getD undef)) hm hsz hlow ha ?_ ?_ ?_
  · refine ⟨h0, ?_, fun k _ => rfl⟩
    intro p _ h
    cases h
  · intro a b t w hS ht i hi hb hafter K SP SK
    obtain ⟨hW, h1, h2⟩ := hS
    have hmem : i ∈ tab.map (·.1) := by rw [hn1]; exact List.mem_range.2 hi
    obtain ⟨p, hp, hpi⟩ := List.mem_map.1 hmem
    subst hpi
    refine hstep a b t w hW ht h1 h2 p hp hafter K (fun w' hW' => SP _ _ _ (hd p hp) ⟨hW', ?_, ?_⟩)
    · intro q hq hbq
      unfold upd at hbq ⊢
      by_cases e : q.2.1 = p.2.1
      · have hqp : q = p := by
          obtain ⟨iq, hiq, rfl⟩ := List.getElem_of_mem hq
          obtain ⟨ip, hip, rfl⟩ := List.getElem_of_mem hp
          have h3 : (tab.map (·.2.1))[iq]'(by simpa using hiq) = (tab.map (·.2.1))[ip]'(by simpa using hip) := by simpa using e
          have h4 := (List.getElem_inj hn2).1 h3
          subst h4
          rfl
        rw [hqp, if_pos rfl]
      · rw [if_neg e]
        by_cases e2 : q.1 = p.1
        · exfalso
          apply e
          obtain ⟨iq, hiq, rfl⟩ := List.getElem_of_mem hq
          obtain ⟨ip, hip, rfl⟩ := List.getElem_of_mem hp
          have h3 : (tab.map (·.1))[iq]'(by simpa using hiq) = (tab.map (·.1))[ip]'(by simpa using hip) := by simpa using e2
          have h4 := (List.getElem_inj hnd1).1 h3
          subst h4
          rfl
        · rw [if_neg e2] at hbq
          exact h1 q hq hbq
    · intro k hk
      unfold upd
      rw [if_neg (fun e => hk p hp e.symm)]
      exact h2 k hk
  · intro a t w b hS hall ht hs hdf
    obtain ⟨hW, h1, h2⟩ := hS
    have e := act_lit (T := tabAt tab (fun k => a0.tmps[k]?.getD undef)) hs hdf (fun k hk => by
      rw [ht k]
      unfold tabAt
      cases hf : tab.find? (fun p => p.2.1 == k) with
      | none =>
        exact h2 k (fun p hp e => by
          have := List.find?_eq_none.1 hf p hp
          simp [e] at this)
      | some p =>
        have hp := List.mem_of_find?_eq_some hf
        have hpk := List.find?_some hf
        simp only [beq_iff_eq] at hpk
        rw [← hpk]
        exact h1 p hp (hall p.1 (by
          have : p.1 ∈ tab.map (·.1) := List.mem_map.2 ⟨p, hp, rfl⟩
          rw [hn1] at this
          exact List.mem_range.1 this)))
    rw [e]
    exact hend w hW

end
end Inv

end Go.Proofs.Ytonpalaopnfffaa
