/- CONTRACTS: the program's RingOk. -/
import Derived.Test.YtonpalaopnfffaaGreatDoorKyO2
namespace Go.Proofs.YtonpalaopnfffaaGreatDoor
set_option linter.unusedVariables false
set_option maxRecDepth 4000
open Go.ChangeShapes Go.WideShapes Go.ChangeAt Go.RowKit

namespace Ky
open Ht Ck

set_option maxHeartbeats 12800000 in
theorem ringOk_impl (v : Value) (l : List KeyL) (w : World) (h : At w v l) (hn : l.length ≤ 2097152) (hS : ∀ c ∈ l, Sm c) :
    Calls Tryz.prog 20 #[.agg #[v]] w fun e w' => e = .returned (.bool (ringR l)) ∧ Below w.heap.size w w' := by
  obtain ⟨R, HR⟩ : ∃ R, Hid (R = ringR l) := ⟨_, Lib.hid rfl⟩
  rw [← HR.out]
  have HM := Lib.hid hS
  clear hS
  obtain ⟨a, cap, rfl⟩ := h.form
  have ba := (Below.refl w.heap.size w).alloc (Nat.le_refl _) (.cells #[.slice a l.length cap] 30)
  have HF := Lib.hid (Grid.GAt.below h ba)
  have BA := Lib.hid ba
  have G0 := Lib.hid (heap_alloc_new w (.cells #[.slice a l.length cap] 30))
  clear h ba
  by_cases hl : l.length ≤ 6
  · have hl6 : ¬ ((6 : Int) < (l.length : Int)) := by omega
    go_enter Tryz.func20, Tryz.ntmps20
    go_wp2
    go_loopw [12] (fun i wr => ∃ k : Nat, k ≤ l.length ∧ i = .int .i64 k ∧ Hid (∀ j, j < k → okAt l j) ∧ Below (w.heap.size + 1) (w.alloc (.cells #[.slice a l.length cap] 30)) wr) (fun i _ => l.length - (intOf i).toNat)
    case atStart => exact ⟨0, by omega, rfl, Lib.hid (fun j hj => by omega), by have := Below.refl (w.alloc (.cells #[.slice a l.length cap] 30)).heap.size (w.alloc (.cells #[.slice a l.length cap] 30)); simpa using this⟩
    case round =>
      obtain ⟨k, hk, rfl, hok, hbel⟩ := hrel
      have hbox := (hbel.block w.heap.size (by simp)).trans G0.out
      have hwl := Lib.hid (show w.heap.size < wr.heap.size by have := hbel.size; simp at this; omega)
      obtain ⟨x0, _⟩ := box1 hbox
      by_cases hlt : k < l.length
      · obtain ⟨g, off, rfl, hg, c0, c1, c2, c3⟩ := At.cells (Grid.GAt.below HF.out (by simpa using hbel)) k hlt
        have hi0 : (0 : Int) ≤ (k : Int) := by omega
        have hi1 : (k : Int) < (l.length : Int) := by omega
        have hpS := HM.out l[k] (List.getElem_mem hlt)
        have HNO := Lib.hid (fun (h : ¬ (keyOk l[k] = true ∧ ∀ h0 : 0 < k, (l[k - 1]'(by omega)).i < l[k].i)) => (show R = false by rw [HR.out]; exact ring_no k hlt h))
        have HOK := Lib.hid (fun (h : keyOk l[k] = true ∧ ∀ h0 : 0 < k, (l[k - 1]'(by omega)).i < l[k].i) => (show ∀ j, j < k + 1 → okAt l j from fun j hj => by
          by_cases hjk : j = k
          · subst hjk; exact fun _ => h
          · exact hok.out j (by omega)))
        generalize l[k] = p at c0 c1 c2 c3 hpS HNO HOK
        have VC := Lib.hid (fun wx => valid_call p wx hpS.1)
        unfold V at VC
        have HBA := Lib.hid (bstep BA.out (by simpa using hbel) |>.alloc (by have := (bstep BA.out (by simpa using hbel)).size; omega) (.cells #[.int .i64 p.i, .string (txt p.s), .int .i64 p.f, .int .i64 p.t] 39))
        have HLB := Lib.hid (hbel.alloc (by have := hbel.size; simpa using this) (.cells #[.int .i64 p.i, .string (txt p.s), .int .i64 p.f, .int .i64 p.t] 39))
        obtain ⟨y0, y1, y2, y3⟩ := box4K (heap_alloc_new wr (.cells #[.int .i64 p.i, .string (txt p.s), .int .i64 p.f, .int .i64 p.t] 39))
        cases hq : keyOk p with
        | false =>
          have HR2 := Lib.hid (show R = false from HNO.out (fun h => by rw [hq] at h; exact absurd h.1 (by decide)))
          rw [hq] at VC
          clear hq
          go_wp2
          refine Inv.region_tab 19 37 [(0, 17, .agg #[.int .i64 p.i, .string (txt p.s), .int .i64 p.f, .int .i64 p.t]), (1, 18, .bool false), (2, 19, .bool true), (3, 20, .bool true), (4, 21, undef), (5, 22, undef), (6, 23, undef), (7, 24, undef), (8, 25, undef), (9, 26, undef), (10, 27, undef), (11, 28, undef), (12, 29, undef), (13, 30, undef), (14, 31, undef), (15, 32, undef), (16, 33, undef), (17, 34, undef), (18, 35, .bool true)] (fun W => Below (wr.heap.size + 1) (wr.alloc (.cells #[.int .i64 p.i, .string (txt p.s), .int .i64 p.f, .int .i64 p.t] 39)) W) (by kernel_rfl) rfl (by kernel_rfl) ⟨by simp, rfl⟩ (by rfl) (show ([17, 18, 19, 20, 21, 22, 23, 24, 25, 26, 27, 28, 29, 30, 31, 32, 33, 34, 35] : List Nat).Nodup by decide) (by simp) (by simpa using (Below.refl (wr.alloc (.cells #[.int .i64 p.i, .string (txt p.s), .int .i64 p.f, .int .i64 p.t] 39)).heap.size (wr.alloc (.cells #[.int .i64 p.i, .string (txt p.s), .int .i64 p.f, .int .i64 p.t] 39))).drew) ?_ ?_
          · intro a b t W hW ht htab hfr p hp hafter K SP
            have F := fun q hq hb => (ht q.2.1).trans (htab q hq hb)
            have G4 := (ht 4).trans (hfr 4 (by simp))
            simp only [List.mem_cons, List.not_mem_nil, or_false] at hp F
            have HF := Lib.hid F
            clear F ht htab hfr
            rcases hp with rfl | rfl | rfl | rfl | rfl | rfl | rfl | rfl | rfl | rfl | rfl | rfl | rfl | rfl | rfl | rfl | rfl | rfl | rfl
            · clear hafter
              refine Inv.wpOp_at rfl rfl ?_
              have d0 := (hW.cell (p := ⟨wr.heap.size, 0, none⟩) (Nat.lt_succ_self _)).trans y0
              have d1 := (hW.cell (p := ⟨wr.heap.size, 1, none⟩) (Nat.lt_succ_self _)).trans y1
              have d2 := (hW.cell (p := ⟨wr.heap.size, 2, none⟩) (Nat.lt_succ_self _)).trans y2
              have d3 := (hW.cell (p := ⟨wr.heap.size, 3, none⟩) (Nat.lt_succ_self _)).trans y3
              go_simp
              exact SP _ hW
            · have ha := hafter _ rfl
              clear hafter
              simp [Region.binds] at ha
              have f17 := HF.out _ (by left; rfl) (by simp_all)
              clear ha
              clear G4
              refine Inv.wpOp_at rfl rfl ?_
              go_simp
              refine (VC.out _).mono ?_
              rintro e wa ⟨rfl, hba⟩
              exact SP _ (hW.trans (hba.mono (by simpa using hW.size)))
            · have ha := hafter _ rfl
              clear hafter
              simp [Region.binds] at ha
              have f18 := HF.out _ (by right; left; rfl) (by simp_all)
              clear ha
              clear G4
              refine Inv.wpOp_at rfl rfl ?_
              go_simp
              exact SP _ hW
            · have ha := hafter _ rfl
              clear hafter
              simp [Region.binds] at ha
              have f19 := HF.out _ (by right; right; left; rfl) (by simp_all)
              clear ha
              clear G4
              refine Inv.wpOp_at rfl rfl ?_
              go_simp
              exact SP _ hW
            · have ha := hafter _ rfl
              clear hafter
              simp [Region.binds] at ha
              have f20 := HF.out _ (by right; right; right; left; rfl) (by simp_all)
              clear ha
              clear G4
              exact Inv.wpOp_skip rfl rfl rfl f20 (by decide) (SP _ hW)
            · have ha := hafter _ rfl
              clear hafter
              simp [Region.binds] at ha
              have f20 := HF.out _ (by right; right; right; left; rfl) (by simp_all)
              clear ha
              clear G4
              exact Inv.wpOp_skip rfl rfl rfl f20 (by decide) (SP _ hW)
            · have ha := hafter _ rfl
              clear hafter
              simp [Region.binds] at ha
              have f20 := HF.out _ (by right; right; right; left; rfl) (by simp_all)
              clear ha
              clear G4
              exact Inv.wpOp_skip rfl rfl rfl f20 (by decide) (SP _ hW)
            · have ha := hafter _ rfl
              clear hafter
              simp [Region.binds] at ha
              have f23 := HF.out _ (by right; right; right; right; right; right; left; rfl) (by simp_all)
              clear ha
              clear G4
              exact Inv.wpOp_skip0 rfl rfl rfl f23 (SP _ hW)
            · have ha := hafter _ rfl
              clear hafter
              simp [Region.binds] at ha
              have f23 := HF.out _ (by right; right; right; right; right; right; left; rfl) (by simp_all)
              clear ha
              clear G4
              exact Inv.wpOp_skip0 rfl rfl rfl f23 (SP _ hW)
            · have ha := hafter _ rfl
              clear hafter
              simp [Region.binds] at ha
              have f23 := HF.out _ (by right; right; right; right; right; right; left; rfl) (by simp_all)
              clear ha
              clear G4
              exact Inv.wpOp_skip0 rfl rfl rfl f23 (SP _ hW)
            · have ha := hafter _ rfl
              clear hafter
              simp [Region.binds] at ha
              have f23 := HF.out _ (by right; right; right; right; right; right; left; rfl) (by simp_all)
              clear ha
              clear G4
              exact Inv.wpOp_skip0 rfl rfl rfl f23 (SP _ hW)
            · have ha := hafter _ rfl
              clear hafter
              simp [Region.binds] at ha
              have f23 := HF.out _ (by right; right; right; right; right; right; left; rfl) (by simp_all)
              clear ha
              clear G4
              exact Inv.wpOp_skip0 rfl rfl rfl f23 (SP _ hW)
            · have ha := hafter _ rfl
              clear hafter
              simp [Region.binds] at ha
              have f23 := HF.out _ (by right; right; right; right; right; right; left; rfl) (by simp_all)
              clear ha
              clear G4
              exact Inv.wpOp_skip0 rfl rfl rfl f23 (SP _ hW)
            · have ha := hafter _ rfl
              clear hafter
              simp [Region.binds] at ha
              have f23 := HF.out _ (by right; right; right; right; right; right; left; rfl) (by simp_all)
              clear ha
              clear G4
              exact Inv.wpOp_skip0 rfl rfl rfl f23 (SP _ hW)
            · have ha := hafter _ rfl
              clear hafter
              simp [Region.binds] at ha
              have f23 := HF.out _ (by right; right; right; right; right; right; left; rfl) (by simp_all)
              clear ha
              clear G4
              exact Inv.wpOp_skip0 rfl rfl rfl f23 (SP _ hW)
            · have ha := hafter _ rfl
              clear hafter
              simp [Region.binds] at ha
              have f23 := HF.out _ (by right; right; right; right; right; right; left; rfl) (by simp_all)
              clear ha
              clear G4
              exact Inv.wpOp_skip0 rfl rfl rfl f23 (SP _ hW)
            · have ha := hafter _ rfl
              clear hafter
              simp [Region.binds] at ha
              have f23 := HF.out _ (by right; right; right; right; right; right; left; rfl) (by simp_all)
              clear ha
              clear G4
              exact Inv.wpOp_skip0 rfl rfl rfl f23 (SP _ hW)
            · have ha := hafter _ rfl
              clear hafter
              simp [Region.binds] at ha
              have f20 := HF.out _ (by right; right; right; left; rfl) (by simp_all)
              clear ha
              clear G4
              exact Inv.wpOp_skip rfl rfl rfl f20 (by decide) (SP _ hW)
            · have ha := hafter _ rfl
              clear hafter
              simp [Region.binds] at ha
              have f20 := HF.out _ (by right; right; right; left; rfl) (by simp_all)
              have f34 := HF.out _ (by right; right; right; right; right; right; right; right; right; right; right; right; right; right; right; right; right; left; rfl) (by simp_all)
              clear ha
              clear G4
              refine Inv.wpOp_at rfl rfl ?_
              go_simp
              exact SP _ hW
          · intro W hW
            have HW := Lib.hid hW
            simp only [List.range, List.range.loop, List.map_cons, List.map_nil, Inv.tabAt]
            simp
            clear hW
            go_wp2
            go_ret
            exact ⟨ret_bool HR2.out.symm, bstep HBA.out (by simpa using HW.out)⟩
        | true =>
          rw [hq] at VC
          have HQ := Lib.hid hq
          clear hq
          rcases Nat.eq_zero_or_pos k with hk0 | hk0
          · have ek0 : decide (0 < k) = false := decide_eq_false (by omega)
            have HOK2 := Lib.hid (HOK.out ⟨HQ.out, fun h0 => absurd hk0 (by omega)⟩)
            clear hk0
            go_wp2
            refine Inv.region_tab 19 37 [(0, 17, .agg #[.int .i64 p.i, .string (txt p.s), .int .i64 p.f, .int .i64 p.t]), (1, 18, .bool true), (2, 19, .bool false), (3, 20, .bool false), (4, 21, .int .i64 (k : Int)), (5, 22, .bool false), (6, 23, .bool false), (7, 24, undef), (8, 25, undef), (9, 26, undef), (10, 27, undef), (11, 28, undef), (12, 29, undef), (13, 30, undef), (14, 31, undef), (15, 32, undef), (16, 33, undef), (17, 34, .bool false), (18, 35, .bool false)] (fun W => Below (wr.heap.size + 1) (wr.alloc (.cells #[.int .i64 p.i, .string (txt p.s), .int .i64 p.f, .int .i64 p.t] 39)) W) (by kernel_rfl) rfl (by kernel_rfl) ⟨by simp, rfl⟩ (by rfl) (show ([17, 18, 19, 20, 21, 22, 23, 24, 25, 26, 27, 28, 29, 30, 31, 32, 33, 34, 35] : List Nat).Nodup by decide) (by simp) (by simpa using (Below.refl (wr.alloc (.cells #[.int .i64 p.i, .string (txt p.s), .int .i64 p.f, .int .i64 p.t] 39)).heap.size (wr.alloc (.cells #[.int .i64 p.i, .string (txt p.s), .int .i64 p.f, .int .i64 p.t] 39))).drew) ?_ ?_
            · intro a b t W hW ht htab hfr p hp hafter K SP
              have F := fun q hq hb => (ht q.2.1).trans (htab q hq hb)
              have G3 := (ht 3).trans (hfr 3 (by simp))
              have G4 := (ht 4).trans (hfr 4 (by simp))
              simp only [List.mem_cons, List.not_mem_nil, or_false] at hp F
              have HF := Lib.hid F
              clear F ht htab hfr
              rcases hp with rfl | rfl | rfl | rfl | rfl | rfl | rfl | rfl | rfl | rfl | rfl | rfl | rfl | rfl | rfl | rfl | rfl | rfl | rfl
              · clear hafter
                clear G3
                refine Inv.wpOp_at rfl rfl ?_
                have d0 := (hW.cell (p := ⟨wr.heap.size, 0, none⟩) (Nat.lt_succ_self _)).trans y0
                have d1 := (hW.cell (p := ⟨wr.heap.size, 1, none⟩) (Nat.lt_succ_self _)).trans y1
                have d2 := (hW.cell (p := ⟨wr.heap.size, 2, none⟩) (Nat.lt_succ_self _)).trans y2
                have d3 := (hW.cell (p := ⟨wr.heap.size, 3, none⟩) (Nat.lt_succ_self _)).trans y3
                go_simp
                exact SP _ hW
              · have ha := hafter _ rfl
                clear hafter
                simp [Region.binds] at ha
                have f17 := HF.out _ (by left; rfl) (by simp_all)
                clear ha
                clear G3 G4
                refine Inv.wpOp_at rfl rfl ?_
                go_simp
                refine (VC.out _).mono ?_
                rintro e wa ⟨rfl, hba⟩
                exact SP _ (hW.trans (hba.mono (by simpa using hW.size)))
              · have ha := hafter _ rfl
                clear hafter
                simp [Region.binds] at ha
                have f18 := HF.out _ (by right; left; rfl) (by simp_all)
                clear ha
                clear G3 G4
                refine Inv.wpOp_at rfl rfl ?_
                go_simp
                exact SP _ hW
              · have ha := hafter _ rfl
                clear hafter
                simp [Region.binds] at ha
                have f19 := HF.out _ (by right; right; left; rfl) (by simp_all)
                clear ha
                clear G3 G4
                refine Inv.wpOp_at rfl rfl ?_
                go_simp
                exact SP _ hW
              · have ha := hafter _ rfl
                clear hafter
                simp [Region.binds] at ha
                have f20 := HF.out _ (by right; right; right; left; rfl) (by simp_all)
                clear ha
                clear G4
                refine Inv.wpOp_want rfl rfl rfl f20 ?_
                clear f20
                go_simp
                exact SP _ hW
              · have ha := hafter _ rfl
                clear hafter
                simp [Region.binds] at ha
                have f21 := HF.out _ (by right; right; right; right; left; rfl) (by simp_all)
                have f20 := HF.out _ (by right; right; right; left; rfl) (by simp_all)
                clear ha
                clear G3 G4
                refine Inv.wpOp_want rfl rfl rfl f20 ?_
                clear f20
                go_simp
                exact SP _ hW
              · have ha := hafter _ rfl
                clear hafter
                simp [Region.binds] at ha
                have f22 := HF.out _ (by right; right; right; right; right; left; rfl) (by simp_all)
                have f20 := HF.out _ (by right; right; right; left; rfl) (by simp_all)
                clear ha
                clear G3 G4
                refine Inv.wpOp_want rfl rfl rfl f20 ?_
                clear f20
                go_simp
                exact SP _ hW
              · have ha := hafter _ rfl
                clear hafter
                simp [Region.binds] at ha
                have f23 := HF.out _ (by right; right; right; right; right; right; left; rfl) (by simp_all)
                clear ha
                clear G3 G4
                exact Inv.wpOp_skip rfl rfl rfl f23 (by decide) (SP _ hW)
              · have ha := hafter _ rfl
                clear hafter
                simp [Region.binds] at ha
                have f23 := HF.out _ (by right; right; right; right; right; right; left; rfl) (by simp_all)
                clear ha
                clear G3 G4
                exact Inv.wpOp_skip rfl rfl rfl f23 (by decide) (SP _ hW)
              · have ha := hafter _ rfl
                clear hafter
                simp [Region.binds] at ha
                have f23 := HF.out _ (by right; right; right; right; right; right; left; rfl) (by simp_all)
                clear ha
                clear G3 G4
                exact Inv.wpOp_skip rfl rfl rfl f23 (by decide) (SP _ hW)
              · have ha := hafter _ rfl
                clear hafter
                simp [Region.binds] at ha
                have f23 := HF.out _ (by right; right; right; right; right; right; left; rfl) (by simp_all)
                clear ha
                clear G3 G4
                exact Inv.wpOp_skip rfl rfl rfl f23 (by decide) (SP _ hW)
              · have ha := hafter _ rfl
                clear hafter
                simp [Region.binds] at ha
                have f23 := HF.out _ (by right; right; right; right; right; right; left; rfl) (by simp_all)
                clear ha
                clear G3 G4
                exact Inv.wpOp_skip rfl rfl rfl f23 (by decide) (SP _ hW)
              · have ha := hafter _ rfl
                clear hafter
                simp [Region.binds] at ha
                have f23 := HF.out _ (by right; right; right; right; right; right; left; rfl) (by simp_all)
                clear ha
                clear G3 G4
                exact Inv.wpOp_skip rfl rfl rfl f23 (by decide) (SP _ hW)
              · have ha := hafter _ rfl
                clear hafter
                simp [Region.binds] at ha
                have f23 := HF.out _ (by right; right; right; right; right; right; left; rfl) (by simp_all)
                clear ha
                clear G3 G4
                exact Inv.wpOp_skip rfl rfl rfl f23 (by decide) (SP _ hW)
              · have ha := hafter _ rfl
                clear hafter
                simp [Region.binds] at ha
                have f23 := HF.out _ (by right; right; right; right; right; right; left; rfl) (by simp_all)
                clear ha
                clear G3 G4
                exact Inv.wpOp_skip rfl rfl rfl f23 (by decide) (SP _ hW)
              · have ha := hafter _ rfl
                clear hafter
                simp [Region.binds] at ha
                have f23 := HF.out _ (by right; right; right; right; right; right; left; rfl) (by simp_all)
                clear ha
                clear G3 G4
                exact Inv.wpOp_skip rfl rfl rfl f23 (by decide) (SP _ hW)
              · have ha := hafter _ rfl
                clear hafter
                simp [Region.binds] at ha
                have f23 := HF.out _ (by right; right; right; right; right; right; left; rfl) (by simp_all)
                clear ha
                clear G3 G4
                exact Inv.wpOp_skip rfl rfl rfl f23 (by decide) (SP _ hW)
              · have ha := hafter _ rfl
                clear hafter
                simp [Region.binds] at ha
                have f23 := HF.out _ (by right; right; right; right; right; right; left; rfl) (by simp_all)
                have f33 := HF.out _ (by right; right; right; right; right; right; right; right; right; right; right; right; right; right; right; right; left; rfl) (by simp_all)
                have f20 := HF.out _ (by right; right; right; left; rfl) (by simp_all)
                clear ha
                clear G3 G4
                refine Inv.wpOp_want rfl rfl rfl f20 ?_
                clear f20
                go_simp
                exact SP _ hW
              · have ha := hafter _ rfl
                clear hafter
                simp [Region.binds] at ha
                have f20 := HF.out _ (by right; right; right; left; rfl) (by simp_all)
                have f34 := HF.out _ (by right; right; right; right; right; right; right; right; right; right; right; right; right; right; right; right; right; left; rfl) (by simp_all)
                clear ha
                clear G3 G4
                refine Inv.wpOp_at rfl rfl ?_
                go_simp
                exact SP _ hW
            · intro W hW
              have HW := Lib.hid hW
              simp only [List.range, List.range.loop, List.map_cons, List.map_nil, Inv.tabAt]
              simp
              clear hW
              go_wp2
              go_roundw
              case rel => exact ⟨k + 1, by omega, by go_num, HOK2, HLB.out.trans (HW.out.mono (by have := HLB.out.size; simp at this ⊢; omega))⟩
              case measure => simp [intOf]; omega
          · obtain ⟨kp, hkp⟩ : ∃ kp, k = kp + 1 := ⟨k - 1, by omega⟩
            have hkl : kp < l.length := by omega
            have HKP := Lib.hid hkp
            have ek0 : decide (0 < k) = true := decide_eq_true (by omega)
            have ekp : (k : Int) - 1 = (kp : Int) := by omega
            have ekq : (0 : Int) ≤ (kp : Int) := by omega
            have ekr : (kp : Int) < (l.length : Int) := by omega
            have ekw : IntKind.i64.wrap (kp : Int) = (kp : Int) := IntWalk.i64_in _ (by omega)
            have hk1 : k - 1 < l.length := Nat.lt_of_le_of_lt (Nat.sub_le _ _) hlt
            have HPI := Lib.hid (show (l[k - 1]'hk1).i = (l[kp]'hkl).i by simp [hkp])
            clear hkp hk0
            obtain ⟨gq, offq, hvq, hgq, d0, _, _, _⟩ := At.cells (Grid.GAt.below HF.out (by simpa using hbel)) kp hkl
            simp only [Option.some.injEq, Addr.mk.injEq, and_true] at hvq
            obtain ⟨rfl, rfl⟩ := hvq
            generalize l[kp].i = pi at d0 HPI
            have dA : (wr.alloc (.cells #[.int .i64 p.i, .string (txt p.s), .int .i64 p.f, .int .i64 p.t] 39)).cell? ⟨g, off + kp * 4, none⟩ = some (.int .i64 pi) := (((Below.refl wr.heap.size wr).alloc (Nat.le_refl _) _).cell (p := ⟨g, _, none⟩) hg).trans d0
            have xA : (wr.alloc (.cells #[.int .i64 p.i, .string (txt p.s), .int .i64 p.f, .int .i64 p.t] 39)).cell? ⟨w.heap.size, 0, none⟩ = some (.slice (some ⟨g, off, none⟩) l.length cap) := (((Below.refl wr.heap.size wr).alloc (Nat.le_refl _) _).cell (p := ⟨w.heap.size, _, none⟩) hwl.out).trans x0
            clear d0
            by_cases hlt2 : pi < p.i
            · have ei : decide (p.i ≤ pi) = false := decide_eq_false (by omega)
              have HOK2 := Lib.hid (HOK.out ⟨HQ.out, fun _ => by rw [HPI.out]; exact hlt2⟩)
              go_wp2
              refine Inv.region_tab 19 37 [(0, 17, .agg #[.int .i64 p.i, .string (txt p.s), .int .i64 p.f, .int .i64 p.t]), (1, 18, .bool true), (2, 19, .bool false), (3, 20, .bool false), (4, 21, .int .i64 (k : Int)), (5, 22, .bool true), (6, 23, .bool true), (7, 24, .pointer (some ⟨wr.heap.size, 0, none⟩)), (8, 25, .int .i64 p.i), (9, 26, .pointer (some ⟨w.heap.size, 0, none⟩)), (10, 27, .slice (some ⟨g, off, none⟩) l.length cap), (11, 28, .int .i64 (k : Int)), (12, 29, .int .i64 (kp : Int)), (13, 30, .pointer (some ⟨g, off + kp * 4, none⟩)), (14, 31, .pointer (some ⟨g, off + kp * 4, none⟩)), (15, 32, .int .i64 pi), (16, 33, .bool false), (17, 34, .bool false), (18, 35, .bool false)] (fun W => Below (wr.heap.size + 1) (wr.alloc (.cells #[.int .i64 p.i, .string (txt p.s), .int .i64 p.f, .int .i64 p.t] 39)) W) (by kernel_rfl) rfl (by kernel_rfl) ⟨by simp, rfl⟩ (by rfl) (show ([17, 18, 19, 20, 21, 22, 23, 24, 25, 26, 27, 28, 29, 30, 31, 32, 33, 34, 35] : List Nat).Nodup by decide) (by simp) (by simpa using (Below.refl (wr.alloc (.cells #[.int .i64 p.i, .string (txt p.s), .int .i64 p.f, .int .i64 p.t] 39)).heap.size (wr.alloc (.cells #[.int .i64 p.i, .string (txt p.s), .int .i64 p.f, .int .i64 p.t] 39))).drew) ?_ ?_
              · intro a b t W hW ht htab hfr p hp hafter K SP
                have F := fun q hq hb => (ht q.2.1).trans (htab q hq hb)
                have G1 := (ht 1).trans (hfr 1 (by simp))
                have G3 := (ht 3).trans (hfr 3 (by simp))
                have G4 := (ht 4).trans (hfr 4 (by simp))
                simp only [List.mem_cons, List.not_mem_nil, or_false] at hp F
                have HF := Lib.hid F
                clear F ht htab hfr
                rcases hp with rfl | rfl | rfl | rfl | rfl | rfl | rfl | rfl | rfl | rfl | rfl | rfl | rfl | rfl | rfl | rfl | rfl | rfl | rfl
                · clear hafter
                  clear G1 G3
                  refine Inv.wpOp_at rfl rfl ?_
                  have d0 := (hW.cell (p := ⟨wr.heap.size, 0, none⟩) (Nat.lt_succ_self _)).trans y0
                  have d1 := (hW.cell (p := ⟨wr.heap.size, 1, none⟩) (Nat.lt_succ_self _)).trans y1
                  have d2 := (hW.cell (p := ⟨wr.heap.size, 2, none⟩) (Nat.lt_succ_self _)).trans y2
                  have d3 := (hW.cell (p := ⟨wr.heap.size, 3, none⟩) (Nat.lt_succ_self _)).trans y3
                  go_simp
                  exact SP _ hW
                · have ha := hafter _ rfl
                  clear hafter
                  simp [Region.binds] at ha
                  have f17 := HF.out _ (by left; rfl) (by simp_all)
                  clear ha
                  clear G1 G3 G4
                  refine Inv.wpOp_at rfl rfl ?_
                  go_simp
                  refine (VC.out _).mono ?_
                  rintro e wa ⟨rfl, hba⟩
                  exact SP _ (hW.trans (hba.mono (by simpa using hW.size)))
                · have ha := hafter _ rfl
                  clear hafter
                  simp [Region.binds] at ha
                  have f18 := HF.out _ (by right; left; rfl) (by simp_all)
                  clear ha
                  clear G1 G3 G4
                  refine Inv.wpOp_at rfl rfl ?_
                  go_simp
                  exact SP _ hW
                · have ha := hafter _ rfl
                  clear hafter
                  simp [Region.binds] at ha
                  have f19 := HF.out _ (by right; right; left; rfl) (by simp_all)
                  clear ha
                  clear G1 G3 G4
                  refine Inv.wpOp_at rfl rfl ?_
                  go_simp
                  exact SP _ hW
                · have ha := hafter _ rfl
                  clear hafter
                  simp [Region.binds] at ha
                  have f20 := HF.out _ (by right; right; right; left; rfl) (by simp_all)
                  clear ha
                  clear G1 G4
                  refine Inv.wpOp_want rfl rfl rfl f20 ?_
                  clear f20
                  go_simp
                  exact SP _ hW
                · have ha := hafter _ rfl
                  clear hafter
                  simp [Region.binds] at ha
                  have f21 := HF.out _ (by right; right; right; right; left; rfl) (by simp_all)
                  have f20 := HF.out _ (by right; right; right; left; rfl) (by simp_all)
                  clear ha
                  clear G1 G3 G4
                  refine Inv.wpOp_want rfl rfl rfl f20 ?_
                  clear f20
                  go_simp
                  exact SP _ hW
                · have ha := hafter _ rfl
                  clear hafter
                  simp [Region.binds] at ha
                  have f22 := HF.out _ (by right; right; right; right; right; left; rfl) (by simp_all)
                  have f20 := HF.out _ (by right; right; right; left; rfl) (by simp_all)
                  clear ha
                  clear G1 G3 G4
                  refine Inv.wpOp_want rfl rfl rfl f20 ?_
                  clear f20
                  go_simp
                  exact SP _ hW
                · have ha := hafter _ rfl
                  clear hafter
                  simp [Region.binds] at ha
                  have f23 := HF.out _ (by right; right; right; right; right; right; left; rfl) (by simp_all)
                  clear ha
                  clear G1 G3
                  refine Inv.wpOp_want rfl rfl rfl f23 ?_
                  clear f23
                  go_simp
                  exact SP _ hW
                · have ha := hafter _ rfl
                  clear hafter
                  simp [Region.binds] at ha
                  have f24 := HF.out _ (by right; right; right; right; right; right; right; left; rfl) (by simp_all)
                  have f23 := HF.out _ (by right; right; right; right; right; right; left; rfl) (by simp_all)
                  clear ha
                  clear G1 G3 G4
                  refine Inv.wpOp_want rfl rfl rfl f23 ?_
                  clear f23
                  have d0 := (hW.cell (p := ⟨wr.heap.size, 0, none⟩) (Nat.lt_succ_self _)).trans y0
                  go_simp
                  exact SP _ hW
                · have ha := hafter _ rfl
                  clear hafter
                  simp [Region.binds] at ha
                  have f23 := HF.out _ (by right; right; right; right; right; right; left; rfl) (by simp_all)
                  clear ha
                  clear G3 G4
                  refine Inv.wpOp_want rfl rfl rfl f23 ?_
                  clear f23
                  go_simp
                  exact SP _ hW
                · have ha := hafter _ rfl
                  clear hafter
                  simp [Region.binds] at ha
                  have f26 := HF.out _ (by right; right; right; right; right; right; right; right; right; left; rfl) (by simp_all)
                  have f23 := HF.out _ (by right; right; right; right; right; right; left; rfl) (by simp_all)
                  clear ha
                  clear G1 G3 G4
                  refine Inv.wpOp_want rfl rfl rfl f23 ?_
                  clear f23
                  have d0 := (hW.cell (p := ⟨w.heap.size, 0, none⟩) (Nat.lt_succ_of_lt hwl.out)).trans xA
                  go_simp
                  exact SP _ hW
                · have ha := hafter _ rfl
                  clear hafter
                  simp [Region.binds] at ha
                  have f23 := HF.out _ (by right; right; right; right; right; right; left; rfl) (by simp_all)
                  clear ha
                  clear G1 G4
                  refine Inv.wpOp_want rfl rfl rfl f23 ?_
                  clear f23
                  go_simp
                  exact SP _ hW
                · have ha := hafter _ rfl
                  clear hafter
                  simp [Region.binds] at ha
                  have f28 := HF.out _ (by right; right; right; right; right; right; right; right; right; right; right; left; rfl) (by simp_all)
                  have f23 := HF.out _ (by right; right; right; right; right; right; left; rfl) (by simp_all)
                  clear ha
                  clear G1 G3 G4
                  refine Inv.wpOp_want rfl rfl rfl f23 ?_
                  clear f23
                  go_simp
                  exact SP _ hW
                · have ha := hafter _ rfl
                  clear hafter
                  simp [Region.binds] at ha
                  have f27 := HF.out _ (by right; right; right; right; right; right; right; right; right; right; left; rfl) (by simp_all)
                  have f29 := HF.out _ (by right; right; right; right; right; right; right; right; right; right; right; right; left; rfl) (by simp_all)
                  have f23 := HF.out _ (by right; right; right; right; right; right; left; rfl) (by simp_all)
                  clear ha
                  clear G1 G3 G4
                  refine Inv.wpOp_want rfl rfl rfl f23 ?_
                  clear f23
                  go_simp
                  exact SP _ hW
                · have ha := hafter _ rfl
                  clear hafter
                  simp [Region.binds] at ha
                  have f30 := HF.out _ (by right; right; right; right; right; right; right; right; right; right; right; right; right; left; rfl) (by simp_all)
                  have f23 := HF.out _ (by right; right; right; right; right; right; left; rfl) (by simp_all)
                  clear ha
                  clear G1 G3 G4
                  refine Inv.wpOp_want rfl rfl rfl f23 ?_
                  clear f23
                  go_simp
                  exact SP _ hW
                · have ha := hafter _ rfl
                  clear hafter
                  simp [Region.binds] at ha
                  have f31 := HF.out _ (by right; right; right; right; right; right; right; right; right; right; right; right; right; right; left; rfl) (by simp_all)
                  have f23 := HF.out _ (by right; right; right; right; right; right; left; rfl) (by simp_all)
                  clear ha
                  clear G1 G3 G4
                  refine Inv.wpOp_want rfl rfl rfl f23 ?_
                  clear f23
                  have d0 := (hW.cell (p := ⟨g, off + kp * 4, none⟩) (Nat.lt_succ_of_lt hg)).trans dA
                  go_simp
                  exact SP _ hW
                · have ha := hafter _ rfl
                  clear hafter
                  simp [Region.binds] at ha
                  have f25 := HF.out _ (by right; right; right; right; right; right; right; right; left; rfl) (by simp_all)
                  have f32 := HF.out _ (by right; right; right; right; right; right; right; right; right; right; right; right; right; right; right; left; rfl) (by simp_all)
                  have f23 := HF.out _ (by right; right; right; right; right; right; left; rfl) (by simp_all)
                  clear ha
                  clear G1 G3 G4
                  refine Inv.wpOp_want rfl rfl rfl f23 ?_
                  clear f23
                  go_simp
                  exact SP _ hW
                · have ha := hafter _ rfl
                  clear hafter
                  simp [Region.binds] at ha
                  have f23 := HF.out _ (by right; right; right; right; right; right; left; rfl) (by simp_all)
                  have f33 := HF.out _ (by right; right; right; right; right; right; right; right; right; right; right; right; right; right; right; right; left; rfl) (by simp_all)
                  have f20 := HF.out _ (by right; right; right; left; rfl) (by simp_all)
                  clear ha
                  clear G1 G3 G4
                  refine Inv.wpOp_want rfl rfl rfl f20 ?_
                  clear f20
                  go_simp
                  exact SP _ hW
                · have ha := hafter _ rfl
                  clear hafter
                  simp [Region.binds] at ha
                  have f20 := HF.out _ (by right; right; right; left; rfl) (by simp_all)
                  have f34 := HF.out _ (by right; right; right; right; right; right; right; right; right; right; right; right; right; right; right; right; right; left; rfl) (by simp_all)
                  clear ha
                  clear G1 G3 G4
                  refine Inv.wpOp_at rfl rfl ?_
                  go_simp
                  exact SP _ hW
              · intro W hW
                have HW := Lib.hid hW
                simp only [List.range, List.range.loop, List.map_cons, List.map_nil, Inv.tabAt]
                simp
                clear hW
                go_wp2
                go_roundw
                case rel => exact ⟨k + 1, by omega, by go_num, HOK2, HLB.out.trans (HW.out.mono (by have := HLB.out.size; simp at this ⊢; omega))⟩
                case measure => simp [intOf]; omega
            · have ei : decide (p.i ≤ pi) = true := decide_eq_true (by omega)
              have HR2 := Lib.hid (show R = false from HNO.out (fun h => hlt2 (by have := h.2 (by have := HKP.out; omega); rw [HPI.out] at this; exact this)))
              go_wp2
              refine Inv.region_tab 19 37 [(0, 17, .agg #[.int .i64 p.i, .string (txt p.s), .int .i64 p.f, .int .i64 p.t]), (1, 18, .bool true), (2, 19, .bool false), (3, 20, .bool false), (4, 21, .int .i64 (k : Int)), (5, 22, .bool true), (6, 23, .bool true), (7, 24, .pointer (some ⟨wr.heap.size, 0, none⟩)), (8, 25, .int .i64 p.i), (9, 26, .pointer (some ⟨w.heap.size, 0, none⟩)), (10, 27, .slice (some ⟨g, off, none⟩) l.length cap), (11, 28, .int .i64 (k : Int)), (12, 29, .int .i64 (kp : Int)), (13, 30, .pointer (some ⟨g, off + kp * 4, none⟩)), (14, 31, .pointer (some ⟨g, off + kp * 4, none⟩)), (15, 32, .int .i64 pi), (16, 33, .bool true), (17, 34, .bool true), (18, 35, .bool true)] (fun W => Below (wr.heap.size + 1) (wr.alloc (.cells #[.int .i64 p.i, .string (txt p.s), .int .i64 p.f, .int .i64 p.t] 39)) W) (by kernel_rfl) rfl (by kernel_rfl) ⟨by simp, rfl⟩ (by rfl) (show ([17, 18, 19, 20, 21, 22, 23, 24, 25, 26, 27, 28, 29, 30, 31, 32, 33, 34, 35] : List Nat).Nodup by decide) (by simp) (by simpa using (Below.refl (wr.alloc (.cells #[.int .i64 p.i, .string (txt p.s), .int .i64 p.f, .int .i64 p.t] 39)).heap.size (wr.alloc (.cells #[.int .i64 p.i, .string (txt p.s), .int .i64 p.f, .int .i64 p.t] 39))).drew) ?_ ?_
              · intro a b t W hW ht htab hfr p hp hafter K SP
                have F := fun q hq hb => (ht q.2.1).trans (htab q hq hb)
                have G1 := (ht 1).trans (hfr 1 (by simp))
                have G3 := (ht 3).trans (hfr 3 (by simp))
                have G4 := (ht 4).trans (hfr 4 (by simp))
                simp only [List.mem_cons, List.not_mem_nil, or_false] at hp F
                have HF := Lib.hid F
                clear F ht htab hfr
                rcases hp with rfl | rfl | rfl | rfl | rfl | rfl | rfl | rfl | rfl | rfl | rfl | rfl | rfl | rfl | rfl | rfl | rfl | rfl | rfl
                · clear hafter
                  clear G1 G3
                  refine Inv.wpOp_at rfl rfl ?_
                  have d0 := (hW.cell (p := ⟨wr.heap.size, 0, none⟩) (Nat.lt_succ_self _)).trans y0
                  have d1 := (hW.cell (p := ⟨wr.heap.size, 1, none⟩) (Nat.lt_succ_self _)).trans y1
                  have d2 := (hW.cell (p := ⟨wr.heap.size, 2, none⟩) (Nat.lt_succ_self _)).trans y2
                  have d3 := (hW.cell (p := ⟨wr.heap.size, 3, none⟩) (Nat.lt_succ_self _)).trans y3
                  go_simp
                  exact SP _ hW
                · have ha := hafter _ rfl
                  clear hafter
                  simp [Region.binds] at ha
                  have f17 := HF.out _ (by left; rfl) (by simp_all)
                  clear ha
                  clear G1 G3 G4
                  refine Inv.wpOp_at rfl rfl ?_
                  go_simp
                  refine (VC.out _).mono ?_
                  rintro e wa ⟨rfl, hba⟩
                  exact SP _ (hW.trans (hba.mono (by simpa using hW.size)))
                · have ha := hafter _ rfl
                  clear hafter
                  simp [Region.binds] at ha
                  have f18 := HF.out _ (by right; left; rfl) (by simp_all)
                  clear ha
                  clear G1 G3 G4
                  refine Inv.wpOp_at rfl rfl ?_
                  go_simp
                  exact SP _ hW
                · have ha := hafter _ rfl
                  clear hafter
                  simp [Region.binds] at ha
                  have f19 := HF.out _ (by right; right; left; rfl) (by simp_all)
                  clear ha
                  clear G1 G3 G4
                  refine Inv.wpOp_at rfl rfl ?_
                  go_simp
                  exact SP _ hW
                · have ha := hafter _ rfl
                  clear hafter
                  simp [Region.binds] at ha
                  have f20 := HF.out _ (by right; right; right; left; rfl) (by simp_all)
                  clear ha
                  clear G1 G4
                  refine Inv.wpOp_want rfl rfl rfl f20 ?_
                  clear f20
                  go_simp
                  exact SP _ hW
                · have ha := hafter _ rfl
                  clear hafter
                  simp [Region.binds] at ha
                  have f21 := HF.out _ (by right; right; right; right; left; rfl) (by simp_all)
                  have f20 := HF.out _ (by right; right; right; left; rfl) (by simp_all)
                  clear ha
                  clear G1 G3 G4
                  refine Inv.wpOp_want rfl rfl rfl f20 ?_
                  clear f20
                  go_simp
                  exact SP _ hW
                · have ha := hafter _ rfl
                  clear hafter
                  simp [Region.binds] at ha
                  have f22 := HF.out _ (by right; right; right; right; right; left; rfl) (by simp_all)
                  have f20 := HF.out _ (by right; right; right; left; rfl) (by simp_all)
                  clear ha
                  clear G1 G3 G4
                  refine Inv.wpOp_want rfl rfl rfl f20 ?_
                  clear f20
                  go_simp
                  exact SP _ hW
                · have ha := hafter _ rfl
                  clear hafter
                  simp [Region.binds] at ha
                  have f23 := HF.out _ (by right; right; right; right; right; right; left; rfl) (by simp_all)
                  clear ha
                  clear G1 G3
                  refine Inv.wpOp_want rfl rfl rfl f23 ?_
                  clear f23
                  go_simp
                  exact SP _ hW
                · have ha := hafter _ rfl
                  clear hafter
                  simp [Region.binds] at ha
                  have f24 := HF.out _ (by right; right; right; right; right; right; right; left; rfl) (by simp_all)
                  have f23 := HF.out _ (by right; right; right; right; right; right; left; rfl) (by simp_all)
                  clear ha
                  clear G1 G3 G4
                  refine Inv.wpOp_want rfl rfl rfl f23 ?_
                  clear f23
                  have d0 := (hW.cell (p := ⟨wr.heap.size, 0, none⟩) (Nat.lt_succ_self _)).trans y0
                  go_simp
                  exact SP _ hW
                · have ha := hafter _ rfl
                  clear hafter
                  simp [Region.binds] at ha
                  have f23 := HF.out _ (by right; right; right; right; right; right; left; rfl) (by simp_all)
                  clear ha
                  clear G3 G4
                  refine Inv.wpOp_want rfl rfl rfl f23 ?_
                  clear f23
                  go_simp
                  exact SP _ hW
                · have ha := hafter _ rfl
                  clear hafter
                  simp [Region.binds] at ha
                  have f26 := HF.out _ (by right; right; right; right; right; right; right; right; right; left; rfl) (by simp_all)
                  have f23 := HF.out _ (by right; right; right; right; right; right; left; rfl) (by simp_all)
                  clear ha
                  clear G1 G3 G4
                  refine Inv.wpOp_want rfl rfl rfl f23 ?_
                  clear f23
                  have d0 := (hW.cell (p := ⟨w.heap.size, 0, none⟩) (Nat.lt_succ_of_lt hwl.out)).trans xA
                  go_simp
                  exact SP _ hW
                · have ha := hafter _ rfl
                  clear hafter
                  simp [Region.binds] at ha
                  have f23 := HF.out _ (by right; right; right; right; right; right; left; rfl) (by simp_all)
                  clear ha
                  clear G1 G4
                  refine Inv.wpOp_want rfl rfl rfl f23 ?_
                  clear f23
                  go_simp
                  exact SP _ hW
                · have ha := hafter _ rfl
                  clear hafter
                  simp [Region.binds] at ha
                  have f28 := HF.out _ (by right; right; right; right; right; right; right; right; right; right; right; left; rfl) (by simp_all)
                  have f23 := HF.out _ (by right; right; right; right; right; right; left; rfl) (by simp_all)
                  clear ha
                  clear G1 G3 G4
                  refine Inv.wpOp_want rfl rfl rfl f23 ?_
                  clear f23
                  go_simp
                  exact SP _ hW
                · have ha := hafter _ rfl
                  clear hafter
                  simp [Region.binds] at ha
                  have f27 := HF.out _ (by right; right; right; right; right; right; right; right; right; right; left; rfl) (by simp_all)
                  have f29 := HF.out _ (by right; right; right; right; right; right; right; right; right; right; right; right; left; rfl) (by simp_all)
                  have f23 := HF.out _ (by right; right; right; right; right; right; left; rfl) (by simp_all)
                  clear ha
                  clear G1 G3 G4
                  refine Inv.wpOp_want rfl rfl rfl f23 ?_
                  clear f23
                  go_simp
                  exact SP _ hW
                · have ha := hafter _ rfl
                  clear hafter
                  simp [Region.binds] at ha
                  have f30 := HF.out _ (by right; right; right; right; right; right; right; right; right; right; right; right; right; left; rfl) (by simp_all)
                  have f23 := HF.out _ (by right; right; right; right; right; right; left; rfl) (by simp_all)
                  clear ha
                  clear G1 G3 G4
                  refine Inv.wpOp_want rfl rfl rfl f23 ?_
                  clear f23
                  go_simp
                  exact SP _ hW
                · have ha := hafter _ rfl
                  clear hafter
                  simp [Region.binds] at ha
                  have f31 := HF.out _ (by right; right; right; right; right; right; right; right; right; right; right; right; right; right; left; rfl) (by simp_all)
                  have f23 := HF.out _ (by right; right; right; right; right; right; left; rfl) (by simp_all)
                  clear ha
                  clear G1 G3 G4
                  refine Inv.wpOp_want rfl rfl rfl f23 ?_
                  clear f23
                  have d0 := (hW.cell (p := ⟨g, off + kp * 4, none⟩) (Nat.lt_succ_of_lt hg)).trans dA
                  go_simp
                  exact SP _ hW
                · have ha := hafter _ rfl
                  clear hafter
                  simp [Region.binds] at ha
                  have f25 := HF.out _ (by right; right; right; right; right; right; right; right; left; rfl) (by simp_all)
                  have f32 := HF.out _ (by right; right; right; right; right; right; right; right; right; right; right; right; right; right; right; left; rfl) (by simp_all)
                  have f23 := HF.out _ (by right; right; right; right; right; right; left; rfl) (by simp_all)
                  clear ha
                  clear G1 G3 G4
                  refine Inv.wpOp_want rfl rfl rfl f23 ?_
                  clear f23
                  go_simp
                  exact SP _ hW
                · have ha := hafter _ rfl
                  clear hafter
                  simp [Region.binds] at ha
                  have f23 := HF.out _ (by right; right; right; right; right; right; left; rfl) (by simp_all)
                  have f33 := HF.out _ (by right; right; right; right; right; right; right; right; right; right; right; right; right; right; right; right; left; rfl) (by simp_all)
                  have f20 := HF.out _ (by right; right; right; left; rfl) (by simp_all)
                  clear ha
                  clear G1 G3 G4
                  refine Inv.wpOp_want rfl rfl rfl f20 ?_
                  clear f20
                  go_simp
                  exact SP _ hW
                · have ha := hafter _ rfl
                  clear hafter
                  simp [Region.binds] at ha
                  have f20 := HF.out _ (by right; right; right; left; rfl) (by simp_all)
                  have f34 := HF.out _ (by right; right; right; right; right; right; right; right; right; right; right; right; right; right; right; right; right; left; rfl) (by simp_all)
                  clear ha
                  clear G1 G3 G4
                  refine Inv.wpOp_at rfl rfl ?_
                  go_simp
                  exact SP _ hW
              · intro W hW
                have HW := Lib.hid hW
                simp only [List.range, List.range.loop, List.map_cons, List.map_nil, Inv.tabAt]
                simp
                clear hW
                go_wp2
                go_ret
                exact ⟨ret_bool HR2.out.symm, bstep HBA.out (by simpa using HW.out)⟩
      · have HR2 := Lib.hid (show R = true by rw [HR.out]; exact ring_yes hl (fun j hj => hok.out j (by omega)))
        go_wp2
        go_ret
        exact ⟨ret_bool HR2.out.symm, bstep BA.out (by simpa using hbel)⟩
  · have hl6 : (6 : Int) < (l.length : Int) := by omega
    have HR2 := Lib.hid (show R = false by rw [HR.out]; exact ringR_no (fun h => hl h.1))
    go_enter Tryz.func20, Tryz.ntmps20
    go_wp2
    go_ret
    exact ⟨ret_bool HR2.out.symm, BA.out⟩

end Ky
end Go.Proofs.YtonpalaopnfffaaGreatDoor
