/- A REGION THAT DRAWS ITS ORDER, BY AN INVARIANT OVER BITS AND SLOTS: the moves. -/
import Derived.Test.YtonpalaopnfffaaGreatDoorC1
namespace Go.Proofs.YtonpalaopnfffaaGreatDoor
set_option linter.unusedVariables false
set_option maxRecDepth 4000
open Go.ChangeShapes Go.WideShapes Go.ChangeAt Go.RowKit

namespace Inv

/-- how many have not come up yet -/
def left (l : Array Bool) : Nat := l.toList.countP (fun b => !b)

theorem left_set (l : Array Bool) (i : Nat) (hi : i < l.size) (h : l.getD i true = false) : left (l.setIfInBounds i true) + 1 = left l := by
  unfold left
  have hli : l.toList[i]'(by simpa using hi) = false := by
    have : l.getD i true = l[i] := by simp [Array.getD, hi]
    rw [this] at h
    simpa using h
  rw [Array.toList_setIfInBounds]
  have hl : i < l.toList.length := by simpa using hi
  have e := List.set_eq_take_append_cons_drop (l := l.toList) (i := i) (a := true)
  rw [if_pos hl] at e
  have e2 : l.toList = l.toList.take i ++ l.toList[i] :: l.toList.drop (i + 1) := by
    rw [← List.drop_eq_getElem_cons hl, List.take_append_drop]
  rw [e]
  conv => rhs; rw [e2]
  rw [List.countP_append, List.countP_append, List.countP_cons, List.countP_cons, hli]
  simp
  omega

theorem left_zero (l : Array Bool) (h : left l = 0) (i : Nat) : l.getD i true = true := by
  unfold left at h
  rw [List.countP_eq_zero] at h
  by_cases hi : i < l.size
  · have hm : l[i] ∈ l.toList := by simp
    have := h _ hm
    simpa [Array.getD, hi] using this
  · simp [Array.getD, hi]

section
variable {P : Program} {ops : Array Oper} {Q : Exit → Act → World → Prop} {md : Region.Mode}

theorem ready_mem {listed : Array Bool} {i : Nat} (h : i ∈ Region.ready md ops listed) : i < ops.size ∧ listed.getD i true = false ∧ ∀ o, ops[i]? = some o → o.after.all (fun e => !Region.binds md e || listed.getD e.on false) = true := by
  unfold Region.ready at h
  obtain ⟨h1, h2⟩ := List.mem_filter.1 h
  rw [List.mem_range] at h1
  simp only [Bool.and_eq_true, Bool.not_eq_true'] at h2
  refine ⟨h1, h2.1, fun o ho => ?_⟩
  have h3 := h2.2
  rw [ho] at h3
  simpa using h3

theorem ready_nil {listed : Array Bool} (hs : listed.size = ops.size) (hlow : ∀ (i : Nat) (o : Oper), ops[i]? = some o → o.after.all (fun e => !Region.binds md e || decide (e.on < i)) = true) (h : Region.ready md ops listed = []) : ∀ i, i < ops.size → listed.getD i true = true := by
  intro i
  induction i using Nat.strongRecOn with
  | ind i ih =>
    intro hi
    cases hb : listed.getD i true with
    | true => rfl
    | false =>
      exfalso
      have hm : i ∈ Region.ready md ops listed := by
        unfold Region.ready
        refine List.mem_filter.2 ⟨List.mem_range.2 hi, ?_⟩
        rw [hb, Array.getElem?_eq_getElem hi]
        have hl := hlow i ops[i] (Array.getElem?_eq_getElem hi)
        simp only [Bool.not_false, Bool.true_and, Option.map_some, Option.getD_some]
        rw [Array.all_eq_true] at hl ⊢
        intro j hj
        have h0 := hl j hj
        cases hbd : Region.binds md (ops[i].after[j]) with
        | false => rfl
        | true =>
          rw [hbd] at h0
          have h1 : (ops[i].after[j]).on < i := by simpa using h0
          have h2 := ih _ h1 (by omega)
          have h3 : listed.getD (ops[i].after[j]).on false = true := by
            have : (ops[i].after[j]).on < listed.size := by omega
            simpa [Array.getD, this] using h2
          rw [h3]
          rfl
      rw [h] at hm
      cases hm

theorem any_inv (J : Array Bool → Act → World → Prop) (hsz : ∀ l a w, J l a w → l.size = ops.size) (hlow : ∀ (i : Nat) (o : Oper), ops[i]? = some o → o.after.all (fun e => !Region.binds md e || decide (e.on < i)) = true)
    (hstep : ∀ l a w, J l a w → ∀ i, i < ops.size → l.getD i true = false → (∀ o : Oper, ops[i]? = some o → o.after.all (fun e => !Region.binds md e || l.getD e.on false) = true) → wpOp P ops Q i (fun a' w' => J (l.setIfInBounds i true) a' w') a w)
    (hend : ∀ l a w, J l a w → (∀ i, i < ops.size → l.getD i true = true) → Q .normal a w) :
    ∀ fuel l a w, left l ≤ fuel → J l a w → wpAny P md ops Q fuel l a w := by
  intro fuel
  induction fuel with
  | zero =>
    intro l a w hl hJ
    have hz := left_zero l (by omega)
    refine ⟨?_, hend l a w hJ (fun i _ => hz i)⟩
    cases hr : Region.ready md ops l with
    | nil => rfl
    | cons i r =>
      exfalso
      have := (ready_mem (md := md) (ops := ops) (listed := l) (i := i) (by rw [hr]; exact List.mem_cons_self)).2.1
      rw [hz i] at this
      cases this
  | succ n ih =>
    intro l a w hl hJ
    refine ⟨fun hr => hend l a w hJ (ready_nil (hsz l a w hJ) hlow hr), fun i hi => ?_⟩
    obtain ⟨h1, h2, h3⟩ := ready_mem hi
    refine wpOp_mono (fun a' w' hJ' => ih _ a' w' ?_ hJ') (hstep l a w hJ i h1 h2 h3)
    have := left_set l i (by rw [hsz l a w hJ]; exact h1) h2
    omega

theorem left_start (n : Nat) : left (Array.replicate n false) ≤ n := by
  unfold left
  refine Nat.le_trans (List.countP_le_length) ?_
  simp

/-- each operation waits for earlier ones alone -/
def low (ops : Array Oper) : Bool := (List.range ops.size).all fun i => match ops[i]? with
  | some o => o.after.all fun e => !Region.binds .any e || decide (e.on < i)
  | none => true

theorem low_at {ops : Array Oper} (h : low ops = true) (i : Nat) (o : Oper) (ho : ops[i]? = some o) : o.after.all (fun e => !Region.binds .any e || decide (e.on < i)) = true := by
  unfold low at h
  have hi : i < ops.size := by
    rcases Nat.lt_or_ge i ops.size with h | h
    · exact h
    · rw [Array.getElem?_eq_none h] at ho; cases ho
  have := List.all_eq_true.1 h i (List.mem_range.2 hi)
  rw [ho] at this
  exact this

/-- a region that draws, by an invariant -/
theorem region_inv {id : Nat} {a : Act} {w : World} (hm : P.follows .mixedOrders = true) (J : Array Bool → Act → World → Prop) (hsz : ∀ l a w, J l a w → l.size = ops.size) (hlow : low ops = true)
    (hJ : J (Array.replicate ops.size false) a w.drew)
    (hstep : ∀ l a w, J l a w → ∀ i, i < ops.size → l.getD i true = false → (∀ o : Oper, ops[i]? = some o → o.after.all (fun e => !Region.binds .any e || l.getD e.on false) = true) → wpOp P ops Q i (fun a' w' => J (l.setIfInBounds i true) a' w') a w)
    (hend : ∀ l a w, J l a w → (∀ i, i < ops.size → l.getD i true = true) → Q .normal a w) :
    (Code.region id ops true).wp P Q a w :=
  wp_region_any hm (any_inv J hsz (low_at hlow) hstep hend ops.size _ a _ (left_start _) hJ)

/-- an operation with no guard -/
theorem wpOp_at {i : Nat} {o : Oper} {K : Act → World → Prop} {a : Act} {w : World} (ho : ops[i]? = some o) (hg : o.guard = none) (h : o.wp P a w K Q) : wpOp P ops Q i K a w := by
  unfold wpOp
  simp only [ho, Region.wanted, hg, if_true]
  exact .inl h

theorem getD_set_same (l : Array Bool) (i : Nat) (hi : i < l.size) (d : Bool) : (l.setIfInBounds i true).getD i d = true := by
  simp [Array.getD, hi]

theorem getD_set_other (l : Array Bool) (i j : Nat) (h : i ≠ j) (d : Bool) : (l.setIfInBounds i true).getD j d = l.getD j d := by
  simp only [Array.getD_eq_getD_getElem?, Array.getElem?_setIfInBounds, h, if_false]

end

def upd {α : Type} (f : Nat → α) (i : Nat) (v : α) : Nat → α := fun k => if k = i then v else f k

theorem upd_bits (l : Array Bool) (i : Nat) (hi : i < l.size) : (fun k => (l.setIfInBounds i true).getD k false) = upd (fun k => l.getD k false) i true := by
  funext k
  unfold upd
  by_cases h : k = i
  · subst h
    rw [if_pos rfl, getD_set_same l k hi]
  · rw [if_neg h, getD_set_other l i k (fun e => h e.symm)]

theorem upd_slots (t : Array Value) (d : Nat) (v : Value) (hd : d < t.size) : (fun k => (t.setIfInBounds d v)[k]?.getD undef) = upd (fun k => t[k]?.getD undef) d v := by
  funext k
  unfold upd
  by_cases h : k = d
  · subst h
    simp [hd]
  · rw [if_neg h, Array.getElem?_setIfInBounds_ne (fun e => h e.symm)]

end Inv

end Go.Proofs.YtonpalaopnfffaaGreatDoor

namespace Go.Proofs.YtonpalaopnfffaaGreatDoor
set_option linter.unusedVariables false
set_option maxRecDepth 4000
open Go.ChangeShapes Go.WideShapes Go.ChangeAt Go.RowKit

namespace Inv

/-- n operations, m slots; S: of what has come up, of the slots, of the world -/
def JJ (n m : Nat) (S : (Nat → Bool) → (Nat → Value) → World → Prop) (l : Array Bool) (a : Act) (w : World) : Prop :=
  l.size = n ∧ (a.tmps.size = m ∧ a.defers = []) ∧ S (fun k => l.getD k false) (fun k => a.tmps[k]?.getD undef) w

theorem jj_put {n m : Nat} {S : (Nat → Bool) → (Nat → Value) → World → Prop} {l : Array Bool} {a : Act} {w : World} {i d : Nat} {v : Value} (h : l.size = n) (hs : a.tmps.size = m ∧ a.defers = []) (hi : i < n) (hd : d < m) (hS : S (upd (fun k => l.getD k false) i true) (upd (fun k => a.tmps[k]?.getD undef) d v) w) :
    JJ n m S (l.setIfInBounds i true) { tmps := a.tmps.setIfInBounds d v, defers := a.defers } w := by
  refine ⟨by simp [h], ⟨by simp [hs.1], hs.2⟩, ?_⟩
  rw [upd_bits l i (by omega), upd_slots a.tmps d v (by rw [hs.1]; exact hd)]
  exact hS

theorem jj_keep {n m : Nat} {S : (Nat → Bool) → (Nat → Value) → World → Prop} {l : Array Bool} {a : Act} {w : World} {i : Nat} (h : l.size = n) (hs : a.tmps.size = m ∧ a.defers = []) (hi : i < n) (hS : S (upd (fun k => l.getD k false) i true) (fun k => a.tmps[k]?.getD undef) w) :
    JJ n m S (l.setIfInBounds i true) a w := by
  refine ⟨by simp [h], hs, ?_⟩
  rw [upd_bits l i (by omega)]
  exact hS

section
variable {P : Program} {ops : Array Oper} {Q : Exit → Act → World → Prop}

/-- a region by an invariant: each operation, as it comes up, from bits b and slots t -/
theorem region_jj {id : Nat} {a : Act} {w : World} (n m : Nat) (S : (Nat → Bool) → (Nat → Value) → World → Prop) (hm : P.follows .mixedOrders = true) (hsz : ops.size = n) (hlow : low ops = true) (ha : a.tmps.size = m ∧ a.defers = [])
    (h0 : S (fun _ => false) (fun k => a.tmps[k]?.getD undef) w.drew)
    (hstep : ∀ (a : Act) (b : Nat → Bool) (t : Nat → Value) (w : World), S b t w → (∀ k, a.tmps[k]?.getD undef = t k) → ∀ i, i < n → b i = false → (∀ o : Oper, ops[i]? = some o → o.after.all (fun e => !Region.binds .any e || b e.on) = true) →
      ∀ K : Act → World → Prop, (∀ d v w', d < m → S (upd b i true) (upd t d v) w' → K { tmps := a.tmps.setIfInBounds d v, defers := a.defers } w') → (∀ w', S (upd b i true) t w' → K a w') → wpOp P ops Q i K a w)
    (hend : ∀ (a : Act) (t : Nat → Value) (w : World) (b : Nat → Bool), S b t w → (∀ k, k < n → b k = true) → (∀ k, a.tmps[k]?.getD undef = t k) → a.tmps.size = m → a.defers = [] → Q .normal a w) :
    (Code.region id ops true).wp P Q a w := by
  refine region_inv hm (JJ n m S) (fun l a w h => by rw [h.1, hsz]) hlow ?_ ?_ ?_
  · refine ⟨by simp [hsz], ha, ?_⟩
    have e : (fun k => (Array.replicate ops.size false).getD k false) = fun _ => false := by
      funext k
      simp only [Array.getD_eq_getD_getElem?, Array.getElem?_replicate]
      split <;> rfl
    rw [e]
    exact h0
  · intro l a w hJ i hi hl hafter
    obtain ⟨h1, h2, h3⟩ := hJ
    have hlf : l.getD i false = false := by
      have hil : i < l.size := by omega
      simpa [Array.getD, hil] using hl
    exact hstep a _ _ w h3 (fun k => rfl) i (by omega) hlf hafter _ (fun d v w' hd hS => jj_put h1 h2 (by omega) hd hS) (fun w' hS => jj_keep h1 h2 (by omega) hS)
  · intro l a w hJ hall
    obtain ⟨h1, h2, h3⟩ := hJ
    refine hend a _ w _ h3 (fun k hk => ?_) (fun k => rfl) h2.1 h2.2
    have := hall k (by omega)
    have hil : k < l.size := by omega
    simpa [Array.getD, hil] using this

end
/-- an operation whose guard does not want it -/
theorem wpOp_skip {P : Program} {ops : Array Oper} {Q : Exit → Act → World → Prop} {i : Nat} {o : Oper} {K : Act → World → Prop} {a : Act} {w : World} {j d : Nat} {want got : Bool} (ho : ops[i]? = some o) (hg : o.guard = some (j, want)) (hd : (ops[j]?).bind (·.dst) = some d) (hv : a.tmps[d]?.getD undef = .bool got) (hne : got ≠ want) (h : K (a.put o.dst undef) w) : wpOp P ops Q i K a w := by
  have hv2 : a.tmps[d]? = some (.bool got) := by
    cases e : a.tmps[d]? with
    | none => rw [e] at hv; cases hv
    | some v => rw [e] at hv; simpa using hv
  have hw : Region.wanted o (yielded ops a.tmps) = false := by
    unfold Region.wanted yielded
    rw [hg]
    simp only [hd, Option.bind_some, hv2]
    cases got <;> cases want <;> simp_all
  unfold wpOp
  simp only [ho, hw]
  exact h

/-- an operation whose guard was itself passed over -/
theorem wpOp_skip0 {P : Program} {ops : Array Oper} {Q : Exit → Act → World → Prop} {i : Nat} {o : Oper} {K : Act → World → Prop} {a : Act} {w : World} {j d : Nat} {want : Bool} (ho : ops[i]? = some o) (hg : o.guard = some (j, want)) (hd : (ops[j]?).bind (·.dst) = some d) (hv : a.tmps[d]?.getD undef = undef) (h : K (a.put o.dst undef) w) : wpOp P ops Q i K a w := by
  have hw : Region.wanted o (yielded ops a.tmps) = false := by
    unfold Region.wanted yielded
    rw [hg]
    simp only [hd, Option.bind_some]
    cases e : a.tmps[d]? with
    | none => cases want <;> rfl
    | some v =>
      rw [e] at hv
      have hv2 : v = undef := by simpa using hv
      subst hv2
      cases want <;> rfl
  unfold wpOp
  simp only [ho, hw]
  exact h

/-- an operation whose guard wants it -/
theorem wpOp_want {P : Program} {ops : Array Oper} {Q : Exit → Act → World → Prop} {i : Nat} {o : Oper} {K : Act → World → Prop} {a : Act} {w : World} {j d : Nat} {want : Bool} (ho : ops[i]? = some o) (hg : o.guard = some (j, want)) (hd : (ops[j]?).bind (·.dst) = some d) (hv : a.tmps[d]?.getD undef = .bool want) (h : o.wp P a w K Q) : wpOp P ops Q i K a w := by
  have hv2 : a.tmps[d]? = some (.bool want) := by
    cases e : a.tmps[d]? with
    | none => rw [e] at hv; cases hv
    | some v => rw [e] at hv; simpa using hv
  have hw : Region.wanted o (yielded ops a.tmps) = true := by
    unfold Region.wanted yielded
    rw [hg]
    simp only [hd, Option.bind_some, hv2]
    cases want <;> rfl
  unfold wpOp
  simp only [ho, hw, if_true]
  exact .inl h

/-- what a table says of a slot -/
def tabAt (tab : List (Nat × Nat × Value)) (t0 : Nat → Value) (k : Nat) : Value := match tab.find? (fun p => p.2.1 == k) with
  | some p => p.2.2
  | none => t0 k

theorem act_lit {a : Act} {m : Nat} {T : Nat → Value} (hs : a.tmps.size = m) (hd : a.defers = []) (h : ∀ k, k < m → a.tmps[k]?.getD undef = T k) : a = { tmps := ((List.range m).map T).toArray, defers := [] } := by
  obtain ⟨tm, df⟩ := a
  simp only at hs hd h
  subst hd
  congr 1
  apply Array.ext
  · simp [hs]
  · intro i h1 h2
    have hi : i < m := by omega
    have := h i hi
    rw [Array.getElem?_eq_getElem h1] at this
    simp only [Option.getD_some] at this
    simp [this]

section
variable {P : Program} {ops : Array Oper} {Q : Exit → Act → World → Prop}

/-- a region whose operations yield what a table says, each into its slot -/
theorem region_tab {id : Nat} {a0 : Act} {w : World} (n m : Nat) (tab : List (Nat × Nat × Value)) (W : World → Prop) (hm : P.follows .mixedOrders = true) (hsz : ops.size = n) (hlow : low ops = true) (ha : a0.tmps.size = m ∧ a0.defers = [])
    (hn1 : (tab.map (·.1)) = List.range n) (hn2 : (tab.map (·.2.1)).Nodup) (hd : ∀ p ∈ tab, p.2.1 < m) (h0 : W w.drew)
    (hstep : ∀ (a : Act) (b : Nat → Bool) (t : Nat → Value) (w : World), W w → (∀ k, a.tmps[k]?.getD undef = t k) → (∀ p ∈ tab, b p.1 = true → t p.2.1 = p.2.2) → (∀ k, (∀ p ∈ tab, p.2.1 ≠ k) → t k = a0.tmps[k]?.getD undef) →
      ∀ p ∈ tab, (∀ o : Oper, ops[p.1]? = some o → o.after.all (fun e => !Region.binds .any e || b e.on) = true) → ∀ K : Act → World → Prop, (∀ w', W w' → K { tmps := a.tmps.setIfInBounds p.2.1 p.2.2, defers := a.defers } w') → wpOp P ops Q p.1 K a w)
    (hend : ∀ w, W w → Q .normal { tmps := ((List.range m).map (tabAt tab (fun k => a0.tmps[k]?.getD undef))).toArray, defers := [] } w) :
    (Code.region id ops true).wp P Q a0 w := by
  have hnd1 : (tab.map (·.1)).Nodup := by rw [hn1]; exact List.nodup_range
  refine region_jj n m (fun b t w => W w ∧ (∀ p ∈ tab, b p.1 = true → t p.2.1 = p.2.2) ∧ (∀ k, (∀ p ∈ tab, p.2.1 ≠ k) → t k = a0.tmps[k]?.getD undef)) hm hsz hlow ha ?_ ?_ ?_
  · refine ⟨h0, ?_, fun k _ => rfl⟩
    intro p _ h
    cases h
  · intro a b t w hS ht i hi hb hafter K SP SK
    obtain ⟨hW, h1, h2⟩ := hS
    have hmem : i ∈ tab.map (·.1) := by rw [hn1]; exact List.mem_range.2 hi
    obtain ⟨p, hp, hpi⟩ := List.mem_map.1 hmem
    subst hpi
    refine hstep a b t w hW ht h1 h2 p hp hafter K (fun w' hW' => SP _ _ _ (hd p hp) ⟨hW', ?_, ?_⟩)
    · intro q hq hbq
      unfold upd at hbq ⊢
      by_cases e : q.2.1 = p.2.1
      · have hqp : q = p := by
          obtain ⟨iq, hiq, rfl⟩ := List.getElem_of_mem hq
          obtain ⟨ip, hip, rfl⟩ := List.getElem_of_mem hp
          have h3 : (tab.map (·.2.1))[iq]'(by simpa using hiq) = (tab.map (·.2.1))[ip]'(by simpa using hip) := by simpa using e
          have h4 := (List.getElem_inj hn2).1 h3
          subst h4
          rfl
        rw [hqp, if_pos rfl]
      · rw [if_neg e]
        by_cases e2 : q.1 = p.1
        · exfalso
          apply e
          obtain ⟨iq, hiq, rfl⟩ := List.getElem_of_mem hq
          obtain ⟨ip, hip, rfl⟩ := List.getElem_of_mem hp
          have h3 : (tab.map (·.1))[iq]'(by simpa using hiq) = (tab.map (·.1))[ip]'(by simpa using hip) := by simpa using e2
          have h4 := (List.getElem_inj hnd1).1 h3
          subst h4
          rfl
        · rw [if_neg e2] at hbq
          exact h1 q hq hbq
    · intro k hk
      unfold upd
      rw [if_neg (fun e => hk p hp e.symm)]
      exact h2 k hk
  · intro a t w b hS hall ht hs hdf
    obtain ⟨hW, h1, h2⟩ := hS
    have e := act_lit (T := tabAt tab (fun k => a0.tmps[k]?.getD undef)) hs hdf (fun k hk => by
      rw [ht k]
      unfold tabAt
      cases hf : tab.find? (fun p => p.2.1 == k) with
      | none =>
        exact h2 k (fun p hp e => by
          have := List.find?_eq_none.1 hf p hp
          simp [e] at this)
      | some p =>
        have hp := List.mem_of_find?_eq_some hf
        have hpk := List.find?_some hf
        simp only [beq_iff_eq] at hpk
        rw [← hpk]
        exact h1 p hp (hall p.1 (by
          have : p.1 ∈ tab.map (·.1) := List.mem_map.2 ⟨p, hp, rfl⟩
          rw [hn1] at this
          exact List.mem_range.1 this)))
    rw [e]
    exact hend w hW

end
end Inv

end Go.Proofs.YtonpalaopnfffaaGreatDoor
