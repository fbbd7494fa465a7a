/- A REGION THAT DRAWS ITS ORDER, BY AN INVARIANT OVER BITS AND SLOTS: the moves. -/
import Derived.Test.YtdgfiebehnfpgaaDoorInv
namespace Go.Proofs.YtdgfiebehnfpgaaDoor
set_option linter.unusedVariables false
set_option maxRecDepth 4000
open Go.ChangeShapes Go.WideShapes Go.ChangeAt Go.RowKit

namespace Inv

/-- n operations, m slots; S: of what has come up, of the slots, of the world -/
def JJ (n m : Nat) (S : (Nat → Bool) → (Nat → Value) → World → Prop) (l : Array Bool) (a : Act) (w : World) : Prop :=
  l.size = n ∧ (a.tmps.size = m ∧ a.defers = []) ∧ S (fun k => l.getD k false) (fun k => a.tmps[k]?.getD undef) w

theorem jj_put {n m : Nat} {S : (Nat → Bool) → (Nat → Value) → World → Prop} {l : Array Bool} {a : Act} {w : World} {i d : Nat} {v : Value} (h : l.size = n) (hs : a.tmps.size = m ∧ a.defers = []) (hi : i < n) (hd : d < m) (hS : S (upd (fun k => l.getD k false) i true) (upd (fun k => a.tmps[k]?.getD undef) d v) w) :
    JJ n m S (l.setIfInBounds i true) { tmps := a.tmps.setIfInBounds d v, defers := a.defers } w := by
  refine ⟨by simp [h], ⟨by simp [hs.1], hs.2⟩, ?_⟩
  rw [upd_bits l i (by omega), upd_slots a.tmps d v (by rw [hs.1]; exact hd)]
  exact hS

theorem jj_keep {n m : Nat} {S : (Nat → Bool) → (Nat → Value) → World → Prop} {l : Array Bool} {a : Act} {w : World} {i : Nat} (h : l.size = n) (hs : a.tmps.size = m ∧ a.defers = []) (hi : i < n) (hS : S (upd (fun k => l.getD k false) i true) (fun k => a.tmps[k]?.getD undef) w) :
    JJ n m S (l.setIfInBounds i true) a w := by
  refine ⟨by simp [h], hs, ?_⟩
  rw [upd_bits l i (by omega)]
  exact hS

section
variable {P : Program} {ops : Array Oper} {Q : Exit → Act → World → Prop}

/-- a region by an invariant: each operation, as it comes up, from bits b and slots t -/
theorem region_jj {id : Nat} {a : Act} {w : World} (n m : Nat) (S : (Nat → Bool) → (Nat → Value) → World → Prop) (hm : P.follows .mixedOrders = true) (hsz : ops.size = n) (hlow : low ops = true) (ha : a.tmps.size = m ∧ a.defers = [])
    (h0 : S (fun _ => false) (fun k => a.tmps[k]?.getD undef) w.drew)
    (hstep : ∀ (a : Act) (b : Nat → Bool) (t : Nat → Value) (w : World), S b t w → (∀ k, a.tmps[k]?.getD undef = t k) → ∀ i, i < n → b i = false → (∀ o : Oper, ops[i]? = some o → o.after.all (fun e => !Region.binds .any e || b e.on) = true) →
      ∀ K : Act → World → Prop, (∀ d v w', d < m → S (upd b i true) (upd t d v) w' → K { tmps := a.tmps.setIfInBounds d v, defers := a.defers } w') → (∀ w', S (upd b i true) t w' → K a w') → wpOp P ops Q i K a w)
    (hend : ∀ (a : Act) (t : Nat → Value) (w : World) (b : Nat → Bool), S b t w → (∀ k, k < n → b k = true) → (∀ k, a.tmps[k]?.getD undef = t k) → a.tmps.size = m → a.defers = [] → Q .normal a w) :
    (Code.region id ops true).wp P Q a w := by
  refine region_inv hm (JJ n m S) (fun l a w h => by rw [h.1, hsz]) hlow ?_ ?_ ?_
  · refine ⟨by simp [hsz], ha, ?_⟩
    have e : (fun k => (Array.replicate ops.size false).getD k false) = fun _ => false := by
      funext k
      simp only [Array.getD_eq_getD_getElem?, Array.getElem?_replicate]
      split <;> rfl
    rw [e]
    exact h0
  · intro l a w hJ i hi hl hafter
    obtain ⟨h1, h2, h3⟩ := hJ
    have hlf : l.getD i false = false := by
      have hil : i < l.size := by omega
      simpa [Array.getD, hil] using hl
    exact hstep a _ _ w h3 (fun k => rfl) i (by omega) hlf hafter _ (fun d v w' hd hS => jj_put h1 h2 (by omega) hd hS) (fun w' hS => jj_keep h1 h2 (by omega) hS)
  · intro l a w hJ hall
    obtain ⟨h1, h2, h3⟩ := hJ
    refine hend a _ w _ h3 (fun k hk => ?_) (fun k => rfl) h2.1 h2.2
    have := hall k (by omega)
    have hil : k < l.size := by omega
    simpa [Array.getD, hil] using this

end
end Inv

end Go.Proofs.YtdgfiebehnfpgaaDoor
