/- CONTRACTS: LiveKey, the model's by its loop, the program's by its range over a function. -/
import Derived.Test.YtonpalaopnfffaaGreatDoorKyO3
import Derived.RangeFuncNested
import Derived.RangeFuncBound
import Derived.RangeFuncCalls
import Derived.RangeFuncLeaves
import Derived.RangeFuncBox
import Derived.RangeFuncWrites
import Derived.Shelf.Abstract
import Derived.Shelf.RegionOpen
import Derived.WalkKit
import Derived.OwnWalkIn
import Derived.TacticsInMore
import Derived.LoopNIn
import Derived.LoopIn
import Derived.Sort.QuietIn
namespace Go.Proofs.YtonpalaopnfffaaGreatDoor
set_option linter.unusedVariables false
set_option maxRecDepth 4000
open Go.RowKit Go.Shelf
open Go.ChangeShapes Go.WideShapes Go.ChangeAt
attribute [local go_sem] Oper.semAt_some

namespace Ky
open Ht Ck

/-- places and keys from place k - 1 down to the first -/
def backF (l : List KeyL) : Nat → List (Int × KeyL)
  | 0 => []
  | k + 1 => match l[k]? with
    | some c => ((k : Int), c) :: backF l k
    | none => backF l k

theorem backF_succ (l : List KeyL) (k : Nat) (hk : k < l.length) : backF l (k + 1) = ((k : Int), l[k]) :: backF l k := by
  rw [backF, List.getElem?_eq_getElem hk]

theorem backF_len (l : List KeyL) : ∀ k, k ≤ l.length → (backF l k).length = k
  | 0, _ => rfl
  | k + 1, h => by rw [backF_succ l k (by omega), List.length_cons, backF_len l k (by omega)]

theorem backF_none (l : List KeyL) (now : Int) : ∀ k, k ≤ l.length → (∀ x ∈ backF l k, liveB now x.2 = false) → liveI l now k = -1
  | 0, _, _ => rfl
  | k + 1, hk, h => by
    rw [backF_succ l k (by omega)] at h
    rw [liveI_no l now k (by omega) (h _ List.mem_cons_self)]
    exact backF_none l now k (by omega) (fun x hx => h x (List.mem_cons_of_mem _ hx))

theorem backF_hit (l : List KeyL) (now : Int) : ∀ k, k ≤ l.length → ∀ (q : List (Int × KeyL)) (x : Int × KeyL), q ++ [x] <+: backF l k → (∀ y ∈ q, liveB now y.2 = false) → liveB now x.2 = true → liveI l now k = x.1
  | 0, _, q, x, h, _, _ => by
    have := h.length_le
    simp [backF] at this
  | k + 1, hk, q, x, h, hq, hx => by
    rw [backF_succ l k (by omega)] at h
    match q with
    | [] =>
      rw [List.nil_append, List.cons_prefix_cons] at h
      rw [h.1] at hx ⊢
      exact liveI_yes l now k (by omega) hx
    | y :: q' =>
      rw [List.cons_append, List.cons_prefix_cons] at h
      have hy := hq y List.mem_cons_self
      rw [h.1] at hy
      rw [liveI_no l now k (by omega) hy]
      exact backF_hit l now k (by omega) q' x h.2 (fun z hz => hq z (List.mem_cons_of_mem _ hz)) hx

set_option maxHeartbeats 6400000 in
theorem liveKey_spec (v : Value) (l : List KeyL) (now : Int) (w : World) (h : At w v l) (hn : l.length ≤ 2097152) (hS : ∀ c ∈ l, Sm c) :
    Calls Tryz.prog 49 #[.agg #[v], .int .i64 now] w fun e w' => e = .returned (.int .i64 (liveKeyL l now)) ∧ Below w.heap.size w w' := by
  obtain ⟨R, HR⟩ : ∃ R : Int, Hid (R = liveKeyL l now) := ⟨_, Lib.hid rfl⟩
  rw [← HR.out]
  obtain ⟨a, cap, rfl⟩ := h.form
  have ba := (Below.refl w.heap.size w).alloc (Nat.le_refl _) (.cells #[.slice a l.length cap] 30)
  have HF := Lib.hid (Grid.GAt.below h ba)
  have BA := Lib.hid ba
  have sa := Lib.hid (show (w.alloc (.cells #[.slice a l.length cap] 30)).heap.size = w.heap.size + 1 by simp)
  have G0 := Lib.hid (heap_alloc_new w (.cells #[.slice a l.length cap] 30))
  have RO := Lib.hid (fun wx hx => ringOk_spec (.slice a l.length cap) l wx hx hn hS)
  have ST := Lib.hid (show Below (w.heap.size + 1) (w.alloc (.cells #[.slice a l.length cap] 30)) (w.alloc (.cells #[.slice a l.length cap] 30)) from Below.refl _ _)
  clear h ba hS
  cases hr : ringR l with
  | false =>
    rw [hr] at RO
    have HR2 := Lib.hid (show R = -1 by rw [HR.out]; unfold liveKeyL; rw [hr]; rfl)
    clear hr
    go_enter Tryz.func49, Tryz.ntmps49
    go_wp2
    go_loopw [5, 6] (fun at' i wr => at' = .int .i64 (-1) ∧ i = .int .i64 0 ∧ wr = w.alloc (.cells #[.slice a l.length cap] 30)) (fun _ _ _ => 0)
    case atStart => exact ⟨rfl, rfl, rfl⟩
    case round =>
      obtain ⟨rfl, rfl, rfl⟩ := hrel
      obtain ⟨x0, _⟩ := box1 G0.out
      by_cases hlt : 0 < l.length
      · have hi : (0 : Int) < (l.length : Int) := by omega
        go_wp2_with fail
        refine (RO.out _ HF.out).mono ?_
        rintro e w1 ⟨rfl, b1⟩
        have c1 := bstep BA.out b1
        go_wp2
        go_ret
        exact ⟨ret_int HR2.out.symm, c1⟩
      · have hi : ¬ (0 : Int) < (l.length : Int) := by omega
        go_wp2
        go_ret
        exact ⟨ret_int HR2.out.symm, BA.out⟩
  | true =>
    rw [hr] at RO
    have HR2 := Lib.hid (show R = liveI l now l.length by rw [HR.out]; unfold liveKeyL; rw [hr]; rfl)
    clear hr
    go_enter Tryz.func49, Tryz.ntmps49
    go_wp2
    go_loopw [5, 6] (fun at' i wr => ∃ k : Nat, k ≤ l.length ∧ i = .int .i64 k ∧ at' = .int .i64 (liveI l now k) ∧ Below (w.heap.size + 1) (w.alloc (.cells #[.slice a l.length cap] 30)) wr) (fun _ i _ => l.length - (intOf i).toNat)
    case atStart => exact ⟨0, by omega, rfl, rfl, ST.out⟩
    case round =>
      obtain ⟨k, hk, rfl, rfl, hbel⟩ := hrel
      have hbox := Lib.hid ((hbel.block w.heap.size (by omega)).trans G0.out)
      obtain ⟨x0, _⟩ := box1 hbox.out
      have hws := hbel.size
      rw [sa.out] at hws
      have HB0 := Lib.hid (show Below (w.alloc (.cells #[.slice a l.length cap] 30)).heap.size (w.alloc (.cells #[.slice a l.length cap] 30)) wr by rw [sa.out]; exact hbel)
      by_cases hlt : k < l.length
      · have hi0 : (0 : Int) ≤ (k : Int) := by omega
        have hi1 : (k : Int) < (l.length : Int) := by omega
        go_wp2_with fail
        refine (RO.out _ (Grid.GAt.below HF.out HB0.out)).mono ?_
        rintro e w1 ⟨rfl, b1⟩
        have s1 := b1.size
        have HB1 := Lib.hid (bstep HB0.out b1)
        have K1 := Lib.hid ((b1.block w.heap.size (by omega)).trans hbox.out)
        obtain ⟨g, off, rfl, hg, c0, c1, c2, c3⟩ := At.cells (Grid.GAt.below HF.out HB1.out) k hlt
        clear x0 b1
        obtain ⟨x0, _⟩ := box1 K1.out
        have HY := Lib.hid (fun hl => liveI_yes l now k hlt hl)
        have HN := Lib.hid (fun hl => liveI_no l now k hlt hl)
        generalize l[k] = p at c0 c1 c2 c3 HY HN
        have I1 := Lib.hid (fun wx => (in_call now p.f p.t wx).mono (fun e w' (h : e = .returned (.bool (decide (p.f ≤ now) && decide (now ≤ p.t))) ∧ wx = w') => (⟨h.1, h.2.symm⟩ : e = .returned (.bool (liveB now p)) ∧ w' = wx)))
        have HB2 := Lib.hid (show Below (w.heap.size + 1) (w.alloc (.cells #[.slice (some ⟨g, off, none⟩) l.length cap] 30)) w1 by have := HB1.out; rw [sa.out] at this; exact this)
        generalize liveB now p = q at I1 HY HN
        cases q with
        | true =>
          have HY2 := Lib.hid (HY.out rfl)
          generalize liveI l now k = L at HY2 HN
          go_wp2
          go_quiet ((go_at_call 26; exact Calls.quiet_of_same (I1.out _)))
          go_wp2
          go_roundw
          case rel => exact ⟨k + 1, by omega, by go_num, by rw [HY2.out], below_drewN HB2.out nq⟩
          case measure => simp [intOf]; omega
        | false =>
          have HN2 := Lib.hid (HN.out rfl)
          generalize hL : liveI l now k = L at HN2 HN
          go_wp2
          go_quiet ((go_at_call 26; exact Calls.quiet_of_same (I1.out _)))
          go_wp2
          go_roundw
          case rel => exact ⟨k + 1, by omega, by go_num, by rw [HN2.out], below_drewN HB2.out nq⟩
          case measure => simp [intOf]; omega
      · have hkl : k = l.length := by omega
        have HKL := Lib.hid hkl
        have hi1 : ¬ (k : Int) < (l.length : Int) := by omega
        have HRk := Lib.hid (show R = liveI l now k by rw [HR2.out, ← HKL.out])
        generalize liveI l now k = L at HRk
        clear hkl
        go_wp2
        go_ret
        exact ⟨ret_int HRk.out.symm, bstep BA.out HB0.out⟩

end Ky
end Go.Proofs.YtonpalaopnfffaaGreatDoor
