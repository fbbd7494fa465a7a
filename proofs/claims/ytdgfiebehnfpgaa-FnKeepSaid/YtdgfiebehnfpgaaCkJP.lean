/- PURE: what a jar that has been kept holds. -/
import Derived.Test.YtdgfiebehnfpgaaCkJ
import Derived.Test.YtdgfiebehnfpgaaCkEq
import Derived.Test.YtdgfiebehnfpgaaCkB
namespace Go.Proofs.Ytdgfiebehnfpgaa
set_option linter.unusedVariables false
set_option maxRecDepth 4000
open Go.ChangeShapes Go.WideShapes Go.ChangeAt Go.RowKit
open Go.ChangeMaps (open_string shut_string)

namespace Ck
open Ht

theorem keepL_jar (L : List CkL) (k : CkL) (now : Int) : jarR (keepL L k now) = true := by
  unfold keepL
  cases hj : jarR L with
  | false => rfl
  | true =>
    cases hk : ckOk k with
    | false => exact hj
    | true => exact keepV_jar L k now hj hk

theorem keepV_live (L : List CkL) (k : CkL) (now : Int) : ∀ x ∈ keepV L k now, liveC now x = true := by
  intro x hx
  have hr := (List.drop_sublist _ _).subset hx
  unfold keepRaw at hr
  rcases List.mem_append.1 hr with h | h
  · have := (List.mem_filter.1 h).2
    simp only [Bool.and_eq_true] at this
    exact this.2
  · split at h
    · rename_i hl
      have : x = k := by simpa using h
      rw [this]
      exact hl
    · cases h

theorem count_zero {F : List CkL} {k : CkL} (h : ∀ x ∈ F, slotL x ≠ slotL k) : F.countP (fun x => eqC x k) = 0 := by
  rw [List.countP_eq_zero]
  intro x hx he
  exact h x hx (by rw [(eqC_iff x k).1 he])

theorem keepV_count (L : List CkL) (k : CkL) (now : Int) : (keepV L k now).countP (fun x => eqC x k) = if liveC now k then 1 else 0 := by
  have hF : ∀ x ∈ (L.filter fun x => !decide (slotL x = slotL k) && liveC now x), slotL x ≠ slotL k := by
    intro x hx
    have := (List.mem_filter.1 hx).2
    simp only [Bool.and_eq_true, Bool.not_eq_true', decide_eq_false_iff_not] at this
    exact this.1
  unfold keepV keepRaw
  generalize (L.filter fun x => !decide (slotL x = slotL k) && liveC now x) = F at hF
  cases hl : liveC now k with
  | true =>
    simp only [if_true]
    have hd : (F ++ [k]).length - 40 ≤ F.length := by rw [List.length_append, List.length_singleton]; omega
    rw [List.drop_append_of_le_length hd, List.countP_append, count_zero (fun x hx => hF x (List.mem_of_mem_drop hx))]
    simp [eqC_self]
  | false =>
    simp only [Bool.false_eq_true, if_false, List.append_nil]
    exact count_zero (fun x hx => hF x (List.mem_of_mem_drop hx))

/-- a cookie that is over -/
def goneC (k : CkL) : CkL := { k with u := 0 }

theorem gone_ok {k : CkL} (h : ckOk k = true) : ckOk (goneC k) = true := by
  unfold ckOk at h ⊢
  simp only [Bool.and_eq_true, decide_eq_true_eq] at h ⊢
  exact ⟨h.1, by show (-1 : Int) ≤ 0; decide, by show (0 : Int) ≤ 999999999999; decide⟩

theorem gone_slot (k : CkL) : slotL (goneC k) = slotL k := rfl

theorem gone_none (K : List CkL) (k : CkL) (now : Int) (hj : jarR K = true) (hk : ckOk k = true) (hn : 0 ≤ now) : ∀ y ∈ keepL K (goneC k) now, slotL y ≠ slotL k := by
  intro y hy
  unfold keepL at hy
  rw [hj, gone_ok hk] at hy
  simp only [if_true] at hy
  have hr := (List.drop_sublist _ _).subset hy
  unfold keepRaw at hr
  have hdead : liveC now (goneC k) = false := by
    unfold liveC goneC
    have h1 : ((0 : Int) == -1) = false := by decide
    simp only [h1, Bool.false_or, decide_eq_false_iff_not]
    omega
  rw [hdead] at hr
  simp only [Bool.false_eq_true, if_false, List.append_nil] at hr
  have := (List.mem_filter.1 hr).2
  simp only [Bool.and_eq_true, Bool.not_eq_true', decide_eq_false_iff_not] at this
  exact this.1

end Ck
end Go.Proofs.Ytdgfiebehnfpgaa
