/- CONTRACTS of the program's setPath, setDomain, setAge. -/
import Derived.Test.YtdgfiebehnfpgaaGreatDoorCkG
import Derived.Test.YtdgfiebehnfpgaaGreatDoorCkPI
namespace Go.Proofs.YtdgfiebehnfpgaaGreatDoor
set_option linter.unusedVariables false
set_option maxRecDepth 4000
open Go.ChangeShapes Go.WideShapes Go.ChangeAt Go.RowKit
open Go.ChangeMaps (open_string shut_string)

namespace Ck
open Ht

set_option maxHeartbeats 3200000 in
theorem setPath_call (c : CkL) (v : List UInt8) (now : Int) (w : World) (hv : v.length ≤ 1048576) :
    Calls Tryz.prog 144 #[ckV c, .string (txt v), .int .i64 now] w fun e w' => e = .returned (ckV (doAt now c kPath v)) ∧ Below w.heap.size w w' := by
  rw [doAt_path]
  have PA := Lib.hid (fun wx => pathOk_call (txt v) wx (by rw [txt_size]; omega))
  rw [txt_toList] at PA
  unfold ckV
  cases hp : pathL v with
  | false =>
    rw [hp] at PA
    clear hp
    obtain ⟨g0, g1⟩ := alloc2c w (.cells #[.string (txt c.n), .string (txt c.v), .string (txt c.d), .bool c.o, .string (txt c.p), .int .i64 c.u] 87) (.cells #[.string (txt c.n), .string (txt c.v), .string (txt c.d), .bool c.o, .string (txt c.p), .int .i64 c.u] 87)
    have G1 := Lib.hid g1
    have BA := Lib.hid (((Below.refl w.heap.size w).alloc (Nat.le_refl _) (.cells #[.string (txt c.n), .string (txt c.v), .string (txt c.d), .bool c.o, .string (txt c.p), .int .i64 c.u] 87)).alloc (by simp) (.cells #[.string (txt c.n), .string (txt c.v), .string (txt c.d), .bool c.o, .string (txt c.p), .int .i64 c.u] 87))
    clear g0 g1
    go_enter Tryz.func144, Tryz.ntmps144
    go_wp2_with fail
    refine (PA.out _).mono ?_
    rintro e w1 ⟨rfl, rfl⟩
    go_wp2
    refine bodyPost_ret (v := .agg #[.string (txt c.n), .string (txt c.v), .string (txt c.d), .bool c.o, .string (txt c.p), .int .i64 c.u]) ?_ rfl ⟨rfl, BA.out⟩
    rw [results_cell_one rfl]
    have hld := run_loadVar_row (P := Tryz.prog) _ (w.heap.size + 1) 87 87 _ (0, 0) _ G1.out Tryz.underlying87 rfl (by rw [ck_info]; rfl)
    simp [asAddr, Result.andThen, hld]
  | true =>
    rw [hp] at PA
    clear hp
    obtain ⟨g0, g1⟩ := alloc2c w (.cells #[.string (txt c.n), .string (txt c.v), .string (txt c.d), .bool c.o, .string (txt v), .int .i64 c.u] 87) (.cells #[.string (txt c.n), .string (txt c.v), .string (txt c.d), .bool c.o, .string (txt v), .int .i64 c.u] 87)
    have G1 := Lib.hid g1
    have BA := Lib.hid (((Below.refl w.heap.size w).alloc (Nat.le_refl _) (.cells #[.string (txt c.n), .string (txt c.v), .string (txt c.d), .bool c.o, .string (txt v), .int .i64 c.u] 87)).alloc (by simp) (.cells #[.string (txt c.n), .string (txt c.v), .string (txt c.d), .bool c.o, .string (txt v), .int .i64 c.u] 87))
    clear g0 g1
    go_enter Tryz.func144, Tryz.ntmps144
    go_wp2_with fail
    refine (PA.out _).mono ?_
    rintro e w1 ⟨rfl, rfl⟩
    go_wp2
    refine bodyPost_ret (v := .agg #[.string (txt c.n), .string (txt c.v), .string (txt c.d), .bool c.o, .string (txt v), .int .i64 c.u]) ?_ rfl ⟨rfl, BA.out⟩
    rw [results_cell_one rfl]
    have hld := run_loadVar_row (P := Tryz.prog) _ (w.heap.size + 1) 87 87 _ (0, 0) _ G1.out Tryz.underlying87 rfl (by rw [ck_info]; rfl)
    simp [asAddr, Result.andThen, hld]

set_option maxHeartbeats 3200000 in
theorem setDomain_call (c : CkL) (v : List UInt8) (now : Int) (w : World) (hv : v.length ≤ 1048576) :
    Calls Tryz.prog 145 #[ckV c, .string (txt v), .int .i64 now] w fun e w' => e = .returned (ckV (doAt now c kDom v)) ∧ Below w.heap.size w w' := by
  rw [doAt_dom]
  have TP := Lib.hid (fun wx => Tryz.strings_TrimPrefix (txt v) (txt [46]) wx)
  simp only [txt_toList, cut_rest] at TP
  change Hid (∀ wx, Calls Tryz.prog 164 #[.string (txt v), .string ⟨#[46]⟩] wx fun e w' => e = .returned (.string (txt (dropDot v))) ∧ w' = wx) at TP
  have hdl : (dropDot v).length ≤ 1048576 := by
    unfold dropDot
    split
    · rw [List.length_drop]; omega
    · exact hv
  have LO := Lib.hid (fun wx => lower_impl (txt (dropDot v)) wx (by rw [txt_size]; exact hdl))
  rw [txt_toList] at LO
  generalize lowL (dropDot v) = dd at LO ⊢
  generalize txt (dropDot v) = tv at LO TP
  unfold ckV
  obtain ⟨g0, g1⟩ := alloc2c w (.cells #[.string (txt c.n), .string (txt c.v), .string (txt c.d), .bool c.o, .string (txt c.p), .int .i64 c.u] 87) (.cells #[.string ⟨#[]⟩, .string ⟨#[]⟩, .string ⟨#[]⟩, .bool false, .string ⟨#[]⟩, .int .i64 0] 87)
  have BA := Lib.hid (((Below.refl w.heap.size w).alloc (Nat.le_refl _) (.cells #[.string (txt c.n), .string (txt c.v), .string (txt c.d), .bool c.o, .string (txt c.p), .int .i64 c.u] 87)).alloc (by simp) (.cells #[.string ⟨#[]⟩, .string ⟨#[]⟩, .string ⟨#[]⟩, .bool false, .string ⟨#[]⟩, .int .i64 0] 87))
  have G0 := Lib.hid g0
  have G1 := Lib.hid g1
  clear g0 g1
  go_enter Tryz.func145, Tryz.ntmps145
  go_wp2_with fail
  refine (TP.out _).mono ?_
  rintro e w0 ⟨rfl, rfl⟩
  go_wp2_with fail
  refine (LO.out _).mono ?_
  rintro e w1 ⟨rfl, b1⟩
  have c1 := BA.out.trans (b1.mono BA.out.size)
  have k0 := (b1.block w.heap.size (by simp; omega)).trans G0.out
  have k1 := (b1.block (w.heap.size + 1) (by simp)).trans G1.out
  have F1 := Lib.hid (set6_same ((Below.heap_setCell ((w1).setCell ⟨w.heap.size, 2, none⟩ (.string (txt dd))) ⟨w.heap.size, 3, none⟩ (.bool false) (w.heap.size + 1) (by simp)).trans ((Below.heap_setCell (w1) ⟨w.heap.size, 2, none⟩ (.string (txt dd)) (w.heap.size + 1) (by simp)).trans (k1))) (.string (txt c.n)) (.string (txt c.v)) (.string (txt dd)) (.bool false) (.string (txt c.p)) (.int .i64 c.u))
  have BB := Lib.hid (set6_below (b := w.heap.size + 1) ((c1.setCell (p := ⟨w.heap.size, 2, none⟩) (Nat.le_refl _) (.string (txt dd))).setCell (p := ⟨w.heap.size, 3, none⟩) (Nat.le_refl _) (.bool false)) (by omega) (.string (txt c.n)) (.string (txt c.v)) (.string (txt dd)) (.bool false) (.string (txt c.p)) (.int .i64 c.u))
  obtain ⟨x0, x1, x2, x3, x4, x5, f0, f1, f2, f3, f4, f5⟩ := box6 k0
  obtain ⟨y0, y1, y2, y3, y4, y5, q0, q1, q2, q3, q4, q5⟩ := box6 k1
  clear k0 k1 c1
  go_wp2
  refine bodyPost_ret (v := .agg #[.string (txt c.n), .string (txt c.v), .string (txt dd), .bool false, .string (txt c.p), .int .i64 c.u]) ?_ rfl ⟨rfl, BB.out⟩
  rw [results_cell_one rfl]
  have hld := run_loadVar_row (P := Tryz.prog) _ (w.heap.size + 1) 87 87 _ (0, 0) _ F1.out Tryz.underlying87 rfl (by rw [ck_info]; rfl)
  unfold set6 at hld
  simp [asAddr, Result.andThen, hld]

set_option maxHeartbeats 3200000 in
theorem setAge_call (c : CkL) (v : List UInt8) (now : Int) (w : World) (hv : v.length ≤ 1048576) (hn1 : 0 ≤ now) (hn2 : now ≤ 999999999999) :
    Calls Tryz.prog 146 #[ckV c, .string (txt v), .int .i64 now] w fun e w' => e = .returned (ckV (doAt now c kAge v)) ∧ Below w.heap.size w w' := by
  rw [doAt_age]
  have RD := Lib.hid (fun wx => readdec_impl (txt v) wx (by rw [txt_size]; omega))
  rw [txt_toList] at RD
  obtain ⟨r1, r2⟩ := rdV_le v
  have HP := Lib.hid (fun wx => Tryz.strings_HasPrefix (txt v) (txt [45]) wx)
  simp only [txt_toList, cut_head] at HP
  change Hid (∀ wx, Calls Tryz.prog 165 #[.string (txt v), .string ⟨#[45]⟩] wx fun e w' => e = .returned (.bool (decide (v.head? = some 45))) ∧ w' = wx) at HP
  have hno : v.head? = some 45 → rdV v = -1 := by
    intro h
    cases v with
    | nil => cases h
    | cons a r =>
      simp only [List.head?_cons, Option.some.injEq] at h
      rw [h, rdV_dash]
  unfold ckV
  by_cases h45 : v.head? = some 45
  · have hn := hno h45
    rw [if_pos h45]
    rw [decide_eq_true h45] at HP
    rw [hn] at RD
    clear hno hn h45 r1 r2
    obtain ⟨g0, g1⟩ := alloc2c w (.cells #[.string (txt c.n), .string (txt c.v), .string (txt c.d), .bool c.o, .string (txt c.p), .int .i64 c.u] 87) (.cells #[.string ⟨#[]⟩, .string ⟨#[]⟩, .string ⟨#[]⟩, .bool false, .string ⟨#[]⟩, .int .i64 0] 87)
    have BA := Lib.hid (((Below.refl w.heap.size w).alloc (Nat.le_refl _) (.cells #[.string (txt c.n), .string (txt c.v), .string (txt c.d), .bool c.o, .string (txt c.p), .int .i64 c.u] 87)).alloc (by simp) (.cells #[.string ⟨#[]⟩, .string ⟨#[]⟩, .string ⟨#[]⟩, .bool false, .string ⟨#[]⟩, .int .i64 0] 87))
    have G0 := Lib.hid g0
    have G1 := Lib.hid g1
    clear g0 g1
    go_enter Tryz.func146, Tryz.ntmps146
    go_wp2_with fail
    refine (RD.out _).mono ?_
    rintro e w1 ⟨rfl, b1⟩
    go_wp2_with fail
    refine (HP.out _).mono ?_
    rintro e w2 ⟨rfl, rfl⟩
    have c1 := BA.out.trans (b1.mono BA.out.size)
    have k0 := (b1.block w.heap.size (by simp; omega)).trans G0.out
    have k1 := (b1.block (w.heap.size + 1) (by simp)).trans G1.out
    have F1 := Lib.hid (set6_same ((Below.heap_setCell (w2) ⟨w.heap.size, 5, none⟩ (.int .i64 now) (w.heap.size + 1) (by simp)).trans (k1)) (.string (txt c.n)) (.string (txt c.v)) (.string (txt c.d)) (.bool c.o) (.string (txt c.p)) (.int .i64 now))
    have BB := Lib.hid (set6_below (b := w.heap.size + 1) (c1.setCell (p := ⟨w.heap.size, 5, none⟩) (Nat.le_refl _) (.int .i64 now)) (by omega) (.string (txt c.n)) (.string (txt c.v)) (.string (txt c.d)) (.bool c.o) (.string (txt c.p)) (.int .i64 now))
    obtain ⟨x0, x1, x2, x3, x4, x5, f0, f1, f2, f3, f4, f5⟩ := box6 k0
    obtain ⟨y0, y1, y2, y3, y4, y5, q0, q1, q2, q3, q4, q5⟩ := box6 k1
    clear k0 k1 c1
    go_wp2
    refine bodyPost_ret (v := .agg #[.string (txt c.n), .string (txt c.v), .string (txt c.d), .bool c.o, .string (txt c.p), .int .i64 now]) ?_ rfl ⟨rfl, BB.out⟩
    rw [results_cell_one rfl]
    have hld := run_loadVar_row (P := Tryz.prog) _ (w.heap.size + 1) 87 87 _ (0, 0) _ F1.out Tryz.underlying87 rfl (by rw [ck_info]; rfl)
    unfold set6 at hld
    simp [asAddr, Result.andThen, hld]
  · rw [if_neg h45]
    rw [decide_eq_false h45] at HP
    clear hno h45
    generalize rdV v = n at RD r1 r2 ⊢
    by_cases hn : 0 ≤ n
    · rw [if_pos hn]
      obtain ⟨g0, g1⟩ := alloc2c w (.cells #[.string (txt c.n), .string (txt c.v), .string (txt c.d), .bool c.o, .string (txt c.p), .int .i64 c.u] 87) (.cells #[.string ⟨#[]⟩, .string ⟨#[]⟩, .string ⟨#[]⟩, .bool false, .string ⟨#[]⟩, .int .i64 0] 87)
      have BA := Lib.hid (((Below.refl w.heap.size w).alloc (Nat.le_refl _) (.cells #[.string (txt c.n), .string (txt c.v), .string (txt c.d), .bool c.o, .string (txt c.p), .int .i64 c.u] 87)).alloc (by simp) (.cells #[.string ⟨#[]⟩, .string ⟨#[]⟩, .string ⟨#[]⟩, .bool false, .string ⟨#[]⟩, .int .i64 0] 87))
      have G0 := Lib.hid g0
      have G1 := Lib.hid g1
      clear g0 g1
      go_enter Tryz.func146, Tryz.ntmps146
      go_wp2_with fail
      refine (RD.out _).mono ?_
      rintro e w1 ⟨rfl, b1⟩
      have c1 := BA.out.trans (b1.mono BA.out.size)
      have k0 := (b1.block w.heap.size (by simp; omega)).trans G0.out
      have k1 := (b1.block (w.heap.size + 1) (by simp)).trans G1.out
      have F1 := Lib.hid (set6_same ((Below.heap_setCell (w1) ⟨w.heap.size, 5, none⟩ (.int .i64 (now + n)) (w.heap.size + 1) (by simp)).trans (k1)) (.string (txt c.n)) (.string (txt c.v)) (.string (txt c.d)) (.bool c.o) (.string (txt c.p)) (.int .i64 (now + n)))
      have BB := Lib.hid (set6_below (b := w.heap.size + 1) (c1.setCell (p := ⟨w.heap.size, 5, none⟩) (Nat.le_refl _) (.int .i64 (now + n))) (by omega) (.string (txt c.n)) (.string (txt c.v)) (.string (txt c.d)) (.bool c.o) (.string (txt c.p)) (.int .i64 (now + n)))
      obtain ⟨x0, x1, x2, x3, x4, x5, f0, f1, f2, f3, f4, f5⟩ := box6 k0
      obtain ⟨y0, y1, y2, y3, y4, y5, q0, q1, q2, q3, q4, q5⟩ := box6 k1
      clear k0 k1 c1
      go_wp2
      refine bodyPost_ret (v := .agg #[.string (txt c.n), .string (txt c.v), .string (txt c.d), .bool c.o, .string (txt c.p), .int .i64 (now + n)]) ?_ rfl ⟨rfl, BB.out⟩
      rw [results_cell_one rfl]
      have hld := run_loadVar_row (P := Tryz.prog) _ (w.heap.size + 1) 87 87 _ (0, 0) _ F1.out Tryz.underlying87 rfl (by rw [ck_info]; rfl)
      unfold set6 at hld
      simp [asAddr, Result.andThen, hld]
    · rw [if_neg hn]
      obtain rfl : n = -1 := by omega
      clear hn r1 r2
      obtain ⟨g0, g1⟩ := alloc2c w (.cells #[.string (txt c.n), .string (txt c.v), .string (txt c.d), .bool c.o, .string (txt c.p), .int .i64 c.u] 87) (.cells #[.string ⟨#[]⟩, .string ⟨#[]⟩, .string ⟨#[]⟩, .bool false, .string ⟨#[]⟩, .int .i64 0] 87)
      have BA := Lib.hid (((Below.refl w.heap.size w).alloc (Nat.le_refl _) (.cells #[.string (txt c.n), .string (txt c.v), .string (txt c.d), .bool c.o, .string (txt c.p), .int .i64 c.u] 87)).alloc (by simp) (.cells #[.string ⟨#[]⟩, .string ⟨#[]⟩, .string ⟨#[]⟩, .bool false, .string ⟨#[]⟩, .int .i64 0] 87))
      have G0 := Lib.hid g0
      have G1 := Lib.hid g1
      clear g0 g1
      go_enter Tryz.func146, Tryz.ntmps146
      go_wp2_with fail
      refine (RD.out _).mono ?_
      rintro e w1 ⟨rfl, b1⟩
      go_wp2_with fail
      refine (HP.out _).mono ?_
      rintro e w2 ⟨rfl, rfl⟩
      have c1 := BA.out.trans (b1.mono BA.out.size)
      have k0 := (b1.block w.heap.size (by simp; omega)).trans G0.out
      have k1 := (b1.block (w.heap.size + 1) (by simp)).trans G1.out
      have F1 := Lib.hid (set6_same (k1) (.string (txt c.n)) (.string (txt c.v)) (.string (txt c.d)) (.bool c.o) (.string (txt c.p)) (.int .i64 c.u))
      have BB := Lib.hid (set6_below (b := w.heap.size + 1) (c1) (by omega) (.string (txt c.n)) (.string (txt c.v)) (.string (txt c.d)) (.bool c.o) (.string (txt c.p)) (.int .i64 c.u))
      obtain ⟨x0, x1, x2, x3, x4, x5, f0, f1, f2, f3, f4, f5⟩ := box6 k0
      obtain ⟨y0, y1, y2, y3, y4, y5, q0, q1, q2, q3, q4, q5⟩ := box6 k1
      clear k0 k1 c1
      go_wp2
      refine bodyPost_ret (v := .agg #[.string (txt c.n), .string (txt c.v), .string (txt c.d), .bool c.o, .string (txt c.p), .int .i64 c.u]) ?_ rfl ⟨rfl, BB.out⟩
      rw [results_cell_one rfl]
      have hld := run_loadVar_row (P := Tryz.prog) _ (w.heap.size + 1) 87 87 _ (0, 0) _ F1.out Tryz.underlying87 rfl (by rw [ck_info]; rfl)
      unfold set6 at hld
      simp [asAddr, Result.andThen, hld]

end Ck
end Go.Proofs.YtdgfiebehnfpgaaGreatDoor
