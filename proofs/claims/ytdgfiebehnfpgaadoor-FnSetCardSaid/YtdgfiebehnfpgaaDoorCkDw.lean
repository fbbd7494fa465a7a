/- CONTRACTS of what draws cookies. -/
import Derived.Test.YtdgfiebehnfpgaaDoorCkD
import Derived.Test.YtdgfiebehnfpgaaDoorCkG
import Derived.Test.YtdgfiebehnfpgaaDoorCkS
import Derived.Test.YtdgfiebehnfpgaaDoorInv2
namespace Go.Proofs.YtdgfiebehnfpgaaDoor
set_option linter.unusedVariables false
set_option maxRecDepth 4000
open Go.ChangeShapes Go.WideShapes Go.ChangeAt Go.RowKit
open Go.ChangeMaps (open_string shut_string)

namespace Ck
open Ht

def mkNames : List (List UInt8) := [[115, 115, 111], [97, 112, 112], [65, 95, 98, 45, 49]]

theorem mkNames_len : ∀ x ∈ mkNames, x.length ≤ 100 := by decide

def mkVals : List (List UInt8) := [[], [118, 49], [97, 46, 98, 45, 99, 95, 126], [120, 61, 121]]

theorem mkVals_len : ∀ x ∈ mkVals, x.length ≤ 100 := by decide

def mkPaths : List (List UInt8) := [[47], [47, 97, 112, 112], [47, 97, 112, 112, 47]]

theorem mkPaths_len : ∀ x ∈ mkPaths, x.length ≤ 100 := by decide

def anyNames : List (List UInt8) := [[], [97, 32, 98], [97, 61], [97, 97, 97, 97, 97, 97, 97, 97, 97, 97, 97, 97, 97, 97, 97, 97, 97, 97, 97, 97, 97, 97, 97, 97, 97, 97, 97, 97, 97, 97, 97]]

theorem anyNames_len : ∀ x ∈ anyNames, x.length ≤ 100 := by decide

def anyVals : List (List UInt8) := [[97, 59, 98], [97, 32, 98], [34], [92], [44]]

theorem anyVals_len : ∀ x ∈ anyVals, x.length ≤ 100 := by decide

def anyDoms : List (List UInt8) := [[], [46], [65, 46, 98], [97, 46, 46, 98], [46, 97], [97, 46]]

theorem anyDoms_len : ∀ x ∈ anyDoms, x.length ≤ 100 := by decide

def getTexts : List (List UInt8) := [[], [97], [97, 61, 98], [32, 97, 32, 61, 32, 98, 32], [97, 61, 98, 59, 32, 112, 97, 116, 104, 61, 120], [97, 61, 98, 59, 32, 80, 65, 84, 72, 61, 47, 113, 59, 32, 100, 111, 109, 97, 105, 110, 61, 46, 79, 78, 69, 46, 101, 120, 97, 109, 112, 108, 101, 59, 32, 109, 97, 120, 45, 97, 103, 101, 61, 45, 53], [97, 61, 98, 59, 77, 97, 120, 45, 65, 103, 101, 61, 120], [97, 61, 98, 59, 32, 100, 111, 109, 97, 105, 110, 61, 116, 119, 111, 46, 101, 120, 97, 109, 112, 108, 101], [97, 61, 98, 59, 32, 100, 111, 109, 97, 105, 110, 61], [97, 61, 98, 59, 59, 59, 32, 115, 101, 99, 117, 114, 101], [61, 98], [97, 61, 98, 59, 32, 112, 97, 116, 104, 61, 47, 112, 59, 32, 112, 97, 116, 104, 61, 47, 113]]

theorem getTexts_len : ∀ x ∈ getTexts, x.length ≤ 100 := by decide

def mkUs : List Int := [-1, 0, 100, 200, 999999999999]

theorem mkUs_in : ∀ x ∈ mkUs, -2 ≤ x ∧ x ≤ 1000000000000 := by decide

def anyUs : List Int := [-2, 1000000000000]

theorem anyUs_in : ∀ x ∈ anyUs, -2 ≤ x ∧ x ≤ 1000000000000 := by decide

def putNows : List Int := [0, 50, 150, 999999999999, -1]

theorem putNows_in : ∀ x ∈ putNows, -2 ≤ x ∧ x ≤ 1000000000000 := by decide

def getNows : List Int := [50, 50, 50, 999999999999, -1]

theorem getNows_in : ∀ x ∈ getNows, -2 ≤ x ∧ x ≤ 1000000000000 := by decide

theorem hostWords_len : ∀ x ∈ hostWords, x.length ≤ 100 := by decide

/-- a cookie that is drawn: a short one -/
def SmallK (k : CkL) : Prop := k.n.length ≤ 100 ∧ k.v.length ≤ 100 ∧ k.d.length ≤ 100 ∧ k.p.length ≤ 100 ∧ -2 ≤ k.u ∧ k.u ≤ 1000000000000

theorem smallK_S {k : CkL} (h : SmallK k) : CkS k := by
  obtain ⟨h1, h2, h3, h4, _⟩ := h
  unfold CkS
  omega

theorem results_tmps3 {fn : Func} {p q r : Tmp} (h : fn.results = #[.tmp p, .tmp q, .tmp r]) (tmps : Array Value) (P : Program) (w : World) :
    (results fn tmps).run P w = .ok (.tuple #[tmps.getD p undef, tmps.getD q undef, tmps.getD r undef]) w := by
  simp only [results, h]
  simp [Sem.run_bind, Result.andThen]

theorem set6_grown (w : World) (g : Nat) (v0 v1 v2 v3 v4 v5 : Value) (hg : g < w.heap.size) : w.grownBy (set6 w g v0 v1 v2 v3 v4 v5) (some g) := by
  unfold set6
  exact grown_trans (grown_trans (grown_trans (grown_trans (grown_trans (box_grown w g 0 v0 hg) (box_grown _ g 1 v1 (by simpa using hg))) (box_grown _ g 2 v2 (by simpa using hg))) (box_grown _ g 3 v3 (by simpa using hg))) (box_grown _ g 4 v4 (by simpa using hg))) (box_grown _ g 5 v5 (by simpa using hg))

set_option maxRecDepth 100000 in
set_option maxHeartbeats 6400000 in
theorem l06Make_call (B g : Nat) (av : Option Addr) (n c : Nat) (w : World) (hC : CurE w B g av n c) :
    Calls Tryd.prog 38 #[.pointer (some ⟨g, 0, none⟩)] w fun e w' => ∃ k : CkL, SmallK k ∧ e = .returned (ckV k) ∧ CurE w' B g av n c ∧ w.grownBy w' (some g) := by
  have hgw := hC.lt
  have hCa := Lib.hid (hC.below ((Below.refl w.heap.size w).alloc (Nat.le_refl _) (.cells #[.string ⟨#[]⟩, .string ⟨#[]⟩, .string ⟨#[]⟩, .bool false, .string ⟨#[]⟩, .int .i64 0] 25)))
  have g0 := Lib.hid (heap_alloc_new w (.cells #[.string ⟨#[]⟩, .string ⟨#[]⟩, .string ⟨#[]⟩, .bool false, .string ⟨#[]⟩, .int .i64 0] 25))
  have ga := Lib.hid (World.grownBy_alloc w (.cells #[.string ⟨#[]⟩, .string ⟨#[]⟩, .string ⟨#[]⟩, .bool false, .string ⟨#[]⟩, .int .i64 0] 25) (some g))
  have sa := Lib.hid (show (w.alloc (.cells #[.string ⟨#[]⟩, .string ⟨#[]⟩, .string ⟨#[]⟩, .bool false, .string ⟨#[]⟩, .int .i64 0] 25)).heap.size = w.heap.size + 1 by simp)
  have P0 := pick_lit B g av n c mkNames #[.string ⟨#[115, 115, 111]⟩, .string ⟨#[97, 112, 112]⟩, .string ⟨#[65, 95, 98, 45, 49]⟩] _ rfl hCa.out (by decide) (by decide)
  rw [sa.out] at P0
  have HP0 := Lib.hid P0
  clear P0
  go_enter Tryd.func38, Tryd.ntmps38
  go_wp2_with fail
  refine HP0.out.mono ?_
  rintro e w1 ⟨a1, h1, rfl, hC1, hg1⟩
  go_wp2_with fail
  refine (pick_lit B g av n c mkVals _ _ rfl hC1 (by decide) (by decide)).mono ?_
  rintro e w2 ⟨a2, h2, rfl, hC2, hg2⟩
  go_wp2_with fail
  refine (l06Host_call B g av n c _ hC2).mono ?_
  rintro e w3 ⟨a3, h3, rfl, hC3, hg3⟩
  go_wp2_with fail
  refine (once_call B g av n c 2 _ hC3 (by omega) (by omega)).mono ?_
  rintro e w4 ⟨a4, rfl, hC4, hg4⟩
  go_wp2_with fail
  refine (pick_lit B g av n c mkPaths _ _ rfl hC4 (by decide) (by decide)).mono ?_
  rintro e w5 ⟨a5, h5, rfl, hC5, hg5⟩
  go_wp2_with fail
  refine (pickint_lit B g av n c mkUs _ _ rfl hC5 (by decide) (by decide)).mono ?_
  rintro e w6 ⟨a6, h6, rfl, hC6, hg6⟩
  have hgA := grown_trans (grown_trans (grown_trans (grown_trans (grown_trans hg1 hg2) hg3) hg4) hg5) hg6
  have s6 := hgA.size
  rw [sa.out] at s6
  have kR := (hgA.block w.heap.size (by rw [sa.out]; omega) (fun e => by simp only [Option.some.injEq] at e; omega)).trans g0.out
  have KR := Lib.hid kR
  have HG := Lib.hid (grown_trans ga.out hgA)
  have HC := Lib.hid hC6
  have hSm := Lib.hid (show SmallK ⟨a1, a2, a3, a4, a5, a6⟩ from ⟨mkNames_len _ h1, mkVals_len _ h2, hostWords_len _ h3, mkPaths_len _ h5, (mkUs_in _ h6).1, (mkUs_in _ h6).2⟩)
  have GR := Lib.hid (set6_grown w6 w.heap.size (.string (txt a1)) (.string (txt a2)) (.string (txt a3)) (.bool a4) (.string (txt a5)) (.int .i64 a6) (by omega))
  obtain ⟨x0, x1, x2, x3, x4, x5, f0, f1, f2, f3, f4, f5⟩ := box6 kR
  clear h1 h2 h3 h5 h6 hC1 hC2 hC3 hC4 hC5 hC6 hg1 hg2 hg3 hg4 hg5 hg6 hgA kR
  go_wp2
  refine bodyPost_ret (v := .agg #[.string (txt a1), .string (txt a2), .string (txt a3), .bool a4, .string (txt a5), .int .i64 a6]) ?_ rfl ⟨⟨a1, a2, a3, a4, a5, a6⟩, hSm.out, rfl, HC.out.other GR.out (fun j e => by simp only [Option.some.injEq] at e; omega), grown_new HG.out GR.out (fun j e => by simp only [Option.some.injEq] at e; omega)⟩
  rw [results_cell_one rfl]
  have hld := ck_load KR.out (.string (txt a1)) (.string (txt a2)) (.string (txt a3)) (.bool a4) (.string (txt a5)) (.int .i64 a6)
  unfold set6 at hld
  simp [asAddr, Result.andThen, hld]

set_option maxRecDepth 100000 in
set_option maxHeartbeats 6400000 in
theorem l06Any_call (B g : Nat) (av : Option Addr) (n c : Nat) (w : World) (hC : CurE w B g av n c) :
    Calls Tryd.prog 18 #[.pointer (some ⟨g, 0, none⟩)] w fun e w' => ∃ k : CkL, SmallK k ∧ e = .returned (ckV k) ∧ CurE w' B g av n c ∧ w.grownBy w' (some g) := by
  have hgw := hC.lt
  have hCa := Lib.hid (hC.below ((Below.refl w.heap.size w).alloc (Nat.le_refl _) (.cells #[.string ⟨#[]⟩, .string ⟨#[]⟩, .string ⟨#[]⟩, .bool false, .string ⟨#[]⟩, .int .i64 0] 25)))
  have g0 := Lib.hid (heap_alloc_new w (.cells #[.string ⟨#[]⟩, .string ⟨#[]⟩, .string ⟨#[]⟩, .bool false, .string ⟨#[]⟩, .int .i64 0] 25))
  have ga := Lib.hid (World.grownBy_alloc w (.cells #[.string ⟨#[]⟩, .string ⟨#[]⟩, .string ⟨#[]⟩, .bool false, .string ⟨#[]⟩, .int .i64 0] 25) (some g))
  have sa := Lib.hid (show (w.alloc (.cells #[.string ⟨#[]⟩, .string ⟨#[]⟩, .string ⟨#[]⟩, .bool false, .string ⟨#[]⟩, .int .i64 0] 25)).heap.size = w.heap.size + 1 by simp)
  have MK := Lib.hid (l06Make_call B g av n c _ hCa.out)
  go_enter Tryd.func18, Tryd.ntmps18
  go_wp2_with fail
  refine MK.out.mono ?_
  rintro e w1 ⟨k, hk0, rfl, hC1, hg1⟩
  have hk := Lib.hid hk0
  have s1 := hg1.size
  rw [sa.out] at s1
  have k1 := (hg1.block w.heap.size (by rw [sa.out]; omega) (fun e => by simp only [Option.some.injEq] at e; omega)).trans g0.out
  have da := (Below.refl w1.heap.size w1).alloc (Nat.le_refl _) (.cells #[.string (txt k.n), .string (txt k.v), .string (txt k.d), .bool k.o, .string (txt k.p), .int .i64 k.u] 25)
  have hCb := Lib.hid (hC1.below da)
  have KB := Lib.hid ((da.block w.heap.size (by omega)).trans k1)
  have QB := Lib.hid (heap_alloc_new w1 (.cells #[.string (txt k.n), .string (txt k.v), .string (txt k.d), .bool k.o, .string (txt k.p), .int .i64 k.u] 25))
  have SB := Lib.hid (show (w1.alloc (.cells #[.string (txt k.n), .string (txt k.v), .string (txt k.d), .bool k.o, .string (txt k.p), .int .i64 k.u] 25)).heap.size = w1.heap.size + 1 by simp)
  have HG1 := Lib.hid (grown_trans (grown_trans ga.out hg1) (World.grownBy_alloc w1 (.cells #[.string (txt k.n), .string (txt k.v), .string (txt k.d), .bool k.o, .string (txt k.p), .int .i64 k.u] 25) (some g)))
  have BE := below_any B g av n c 10 _ hCb.out (by omega) (by omega)
  have HBE := Lib.hid BE
  clear hk0 hC1 hg1 k1 da BE
  unfold ckV
  go_wp2_with fail
  refine HBE.out.mono ?_
  rintro e w2 ⟨r, rfl, r0', r1', hC2, hg2⟩
  have s2 := hg2.size
  rw [SB.out] at s2
  have K2 := Lib.hid ((hg2.block w.heap.size (by rw [SB.out]; omega) (fun e => by simp only [Option.some.injEq] at e; omega)).trans KB.out)
  have Q2 := Lib.hid ((hg2.block w1.heap.size (by rw [SB.out]; omega) (fun e => by simp only [Option.some.injEq] at e; omega)).trans QB.out)
  have HG2 := Lib.hid (grown_trans HG1.out hg2)
  clear hg2

  by_cases r0 : r = 0
  · subst r0
    go_wp2_with fail
    refine (pick_lit B g av n c anyNames _ _ rfl hC2 (by decide) (by decide)).mono ?_
    rintro e w3 ⟨y, hy, rfl, hC3, hg3⟩
    have s3 := hg3.size
    have k3 := (hg3.block w.heap.size (by omega) (fun e => by simp only [Option.some.injEq] at e; omega)).trans K2.out
    have q3 := (hg3.block w1.heap.size (by omega) (fun e => by simp only [Option.some.injEq] at e; omega)).trans Q2.out
    have HG3 := grown_trans HG2.out hg3
    have gS := box_grown w3 w1.heap.size 0 (.string (txt y)) (by omega)
    have sS : (w3.setCell ⟨w1.heap.size, 0, none⟩ (.string (txt y))).heap.size = w3.heap.size := by simp
    have k4 := (Below.heap_setCell w3 ⟨w1.heap.size, 0, none⟩ (.string (txt y)) w.heap.size (by show w.heap.size ≠ w1.heap.size; omega)).trans k3
    have hC4 := hC3.other gS (fun j e => by simp only [Option.some.injEq] at e; omega)
    have HG4 := grown_new HG3 gS (fun j e => by simp only [Option.some.injEq] at e; omega)
    have hSm := Lib.hid (show SmallK ⟨y, k.v, k.d, k.o, k.p, k.u⟩ from ⟨anyNames_len _ hy, hk.out.2.1, hk.out.2.2.1, hk.out.2.2.2.1, hk.out.2.2.2.2.1, hk.out.2.2.2.2.2⟩)
    have GR := Lib.hid (set6_grown (w3.setCell ⟨w1.heap.size, 0, none⟩ (.string (txt y))) w.heap.size (.string (txt y)) (.string (txt k.v)) (.string (txt k.d)) (.bool k.o) (.string (txt k.p)) (.int .i64 k.u) (by rw [sS]; omega))
    have K4 := Lib.hid k4
    have HC := Lib.hid (hC4.other GR.out (fun j e => by simp only [Option.some.injEq] at e; omega))
    have HGF := Lib.hid (grown_new HG4 GR.out (fun j e => by simp only [Option.some.injEq] at e; omega))
    obtain ⟨x0, x1, x2, x3, x4, x5, f0, f1, f2, f3, f4, f5⟩ := box6 k3
    obtain ⟨y0, y1, y2, y3, y4, y5, q0, q1, q2, q3', q4, q5⟩ := box6 q3
    clear hC2 hC3 hC4 hg3 HG3 HG4 gS k3 q3 k4 hy
    go_wp2
    refine bodyPost_ret (v := .agg #[.string (txt y), .string (txt k.v), .string (txt k.d), .bool k.o, .string (txt k.p), .int .i64 k.u]) ?_ rfl ⟨⟨y, k.v, k.d, k.o, k.p, k.u⟩, hSm.out, rfl, HC.out, HGF.out⟩
    rw [results_cell_one rfl]
    have hld := ck_load K4.out (.string (txt y)) (.string (txt k.v)) (.string (txt k.d)) (.bool k.o) (.string (txt k.p)) (.int .i64 k.u)
    unfold set6 at hld
    simp [asAddr, Result.andThen, hld]

  by_cases r1 : r = 1
  · subst r1
    go_wp2_with fail
    refine (pick_lit B g av n c anyVals _ _ rfl hC2 (by decide) (by decide)).mono ?_
    rintro e w3 ⟨y, hy, rfl, hC3, hg3⟩
    have s3 := hg3.size
    have k3 := (hg3.block w.heap.size (by omega) (fun e => by simp only [Option.some.injEq] at e; omega)).trans K2.out
    have q3 := (hg3.block w1.heap.size (by omega) (fun e => by simp only [Option.some.injEq] at e; omega)).trans Q2.out
    have HG3 := grown_trans HG2.out hg3
    have gS := box_grown w3 w1.heap.size 1 (.string (txt y)) (by omega)
    have sS : (w3.setCell ⟨w1.heap.size, 1, none⟩ (.string (txt y))).heap.size = w3.heap.size := by simp
    have k4 := (Below.heap_setCell w3 ⟨w1.heap.size, 1, none⟩ (.string (txt y)) w.heap.size (by show w.heap.size ≠ w1.heap.size; omega)).trans k3
    have hC4 := hC3.other gS (fun j e => by simp only [Option.some.injEq] at e; omega)
    have HG4 := grown_new HG3 gS (fun j e => by simp only [Option.some.injEq] at e; omega)
    have hSm := Lib.hid (show SmallK ⟨k.n, y, k.d, k.o, k.p, k.u⟩ from ⟨hk.out.1, anyVals_len _ hy, hk.out.2.2.1, hk.out.2.2.2.1, hk.out.2.2.2.2.1, hk.out.2.2.2.2.2⟩)
    have GR := Lib.hid (set6_grown (w3.setCell ⟨w1.heap.size, 1, none⟩ (.string (txt y))) w.heap.size (.string (txt k.n)) (.string (txt y)) (.string (txt k.d)) (.bool k.o) (.string (txt k.p)) (.int .i64 k.u) (by rw [sS]; omega))
    have K4 := Lib.hid k4
    have HC := Lib.hid (hC4.other GR.out (fun j e => by simp only [Option.some.injEq] at e; omega))
    have HGF := Lib.hid (grown_new HG4 GR.out (fun j e => by simp only [Option.some.injEq] at e; omega))
    obtain ⟨x0, x1, x2, x3, x4, x5, f0, f1, f2, f3, f4, f5⟩ := box6 k3
    obtain ⟨y0, y1, y2, y3, y4, y5, q0, q1, q2, q3', q4, q5⟩ := box6 q3
    clear hC2 hC3 hC4 hg3 HG3 HG4 gS k3 q3 k4 hy
    go_wp2
    refine bodyPost_ret (v := .agg #[.string (txt k.n), .string (txt y), .string (txt k.d), .bool k.o, .string (txt k.p), .int .i64 k.u]) ?_ rfl ⟨⟨k.n, y, k.d, k.o, k.p, k.u⟩, hSm.out, rfl, HC.out, HGF.out⟩
    rw [results_cell_one rfl]
    have hld := ck_load K4.out (.string (txt k.n)) (.string (txt y)) (.string (txt k.d)) (.bool k.o) (.string (txt k.p)) (.int .i64 k.u)
    unfold set6 at hld
    simp [asAddr, Result.andThen, hld]

  by_cases r2 : r = 2
  · subst r2
    go_wp2_with fail
    refine (pick_lit B g av n c anyDoms _ _ rfl hC2 (by decide) (by decide)).mono ?_
    rintro e w3 ⟨y, hy, rfl, hC3, hg3⟩
    have s3 := hg3.size
    have k3 := (hg3.block w.heap.size (by omega) (fun e => by simp only [Option.some.injEq] at e; omega)).trans K2.out
    have q3 := (hg3.block w1.heap.size (by omega) (fun e => by simp only [Option.some.injEq] at e; omega)).trans Q2.out
    have HG3 := grown_trans HG2.out hg3
    have gS := box_grown w3 w1.heap.size 2 (.string (txt y)) (by omega)
    have sS : (w3.setCell ⟨w1.heap.size, 2, none⟩ (.string (txt y))).heap.size = w3.heap.size := by simp
    have k4 := (Below.heap_setCell w3 ⟨w1.heap.size, 2, none⟩ (.string (txt y)) w.heap.size (by show w.heap.size ≠ w1.heap.size; omega)).trans k3
    have hC4 := hC3.other gS (fun j e => by simp only [Option.some.injEq] at e; omega)
    have HG4 := grown_new HG3 gS (fun j e => by simp only [Option.some.injEq] at e; omega)
    have hSm := Lib.hid (show SmallK ⟨k.n, k.v, y, k.o, k.p, k.u⟩ from ⟨hk.out.1, hk.out.2.1, anyDoms_len _ hy, hk.out.2.2.2.1, hk.out.2.2.2.2.1, hk.out.2.2.2.2.2⟩)
    have GR := Lib.hid (set6_grown (w3.setCell ⟨w1.heap.size, 2, none⟩ (.string (txt y))) w.heap.size (.string (txt k.n)) (.string (txt k.v)) (.string (txt y)) (.bool k.o) (.string (txt k.p)) (.int .i64 k.u) (by rw [sS]; omega))
    have K4 := Lib.hid k4
    have HC := Lib.hid (hC4.other GR.out (fun j e => by simp only [Option.some.injEq] at e; omega))
    have HGF := Lib.hid (grown_new HG4 GR.out (fun j e => by simp only [Option.some.injEq] at e; omega))
    obtain ⟨x0, x1, x2, x3, x4, x5, f0, f1, f2, f3, f4, f5⟩ := box6 k3
    obtain ⟨y0, y1, y2, y3, y4, y5, q0, q1, q2, q3', q4, q5⟩ := box6 q3
    clear hC2 hC3 hC4 hg3 HG3 HG4 gS k3 q3 k4 hy
    go_wp2
    refine bodyPost_ret (v := .agg #[.string (txt k.n), .string (txt k.v), .string (txt y), .bool k.o, .string (txt k.p), .int .i64 k.u]) ?_ rfl ⟨⟨k.n, k.v, y, k.o, k.p, k.u⟩, hSm.out, rfl, HC.out, HGF.out⟩
    rw [results_cell_one rfl]
    have hld := ck_load K4.out (.string (txt k.n)) (.string (txt k.v)) (.string (txt y)) (.bool k.o) (.string (txt k.p)) (.int .i64 k.u)
    unfold set6 at hld
    simp [asAddr, Result.andThen, hld]

  by_cases r3 : r = 3
  · subst r3
    go_wp2_with fail
    refine (pickint_lit B g av n c anyUs _ _ rfl hC2 (by decide) (by decide)).mono ?_
    rintro e w3 ⟨y, hy, rfl, hC3, hg3⟩
    have s3 := hg3.size
    have k3 := (hg3.block w.heap.size (by omega) (fun e => by simp only [Option.some.injEq] at e; omega)).trans K2.out
    have q3 := (hg3.block w1.heap.size (by omega) (fun e => by simp only [Option.some.injEq] at e; omega)).trans Q2.out
    have HG3 := grown_trans HG2.out hg3
    have gS := box_grown w3 w1.heap.size 5 (.int .i64 y) (by omega)
    have sS : (w3.setCell ⟨w1.heap.size, 5, none⟩ (.int .i64 y)).heap.size = w3.heap.size := by simp
    have k4 := (Below.heap_setCell w3 ⟨w1.heap.size, 5, none⟩ (.int .i64 y) w.heap.size (by show w.heap.size ≠ w1.heap.size; omega)).trans k3
    have hC4 := hC3.other gS (fun j e => by simp only [Option.some.injEq] at e; omega)
    have HG4 := grown_new HG3 gS (fun j e => by simp only [Option.some.injEq] at e; omega)
    have hSm := Lib.hid (show SmallK ⟨k.n, k.v, k.d, k.o, k.p, y⟩ from ⟨hk.out.1, hk.out.2.1, hk.out.2.2.1, hk.out.2.2.2.1, (anyUs_in _ hy).1, (anyUs_in _ hy).2⟩)
    have GR := Lib.hid (set6_grown (w3.setCell ⟨w1.heap.size, 5, none⟩ (.int .i64 y)) w.heap.size (.string (txt k.n)) (.string (txt k.v)) (.string (txt k.d)) (.bool k.o) (.string (txt k.p)) (.int .i64 y) (by rw [sS]; omega))
    have K4 := Lib.hid k4
    have HC := Lib.hid (hC4.other GR.out (fun j e => by simp only [Option.some.injEq] at e; omega))
    have HGF := Lib.hid (grown_new HG4 GR.out (fun j e => by simp only [Option.some.injEq] at e; omega))
    obtain ⟨x0, x1, x2, x3, x4, x5, f0, f1, f2, f3, f4, f5⟩ := box6 k3
    obtain ⟨y0, y1, y2, y3, y4, y5, q0, q1, q2, q3', q4, q5⟩ := box6 q3
    clear hC2 hC3 hC4 hg3 HG3 HG4 gS k3 q3 k4 hy
    go_wp2
    refine bodyPost_ret (v := .agg #[.string (txt k.n), .string (txt k.v), .string (txt k.d), .bool k.o, .string (txt k.p), .int .i64 y]) ?_ rfl ⟨⟨k.n, k.v, k.d, k.o, k.p, y⟩, hSm.out, rfl, HC.out, HGF.out⟩
    rw [results_cell_one rfl]
    have hld := ck_load K4.out (.string (txt k.n)) (.string (txt k.v)) (.string (txt k.d)) (.bool k.o) (.string (txt k.p)) (.int .i64 y)
    unfold set6 at hld
    simp [asAddr, Result.andThen, hld]

  have GR := Lib.hid (set6_grown w2 w.heap.size (.string (txt k.n)) (.string (txt k.v)) (.string (txt k.d)) (.bool k.o) (.string (txt k.p)) (.int .i64 k.u) (by omega))
  have HC := Lib.hid (hC2.other GR.out (fun j e => by simp only [Option.some.injEq] at e; omega))
  have HGF := Lib.hid (grown_new HG2.out GR.out (fun j e => by simp only [Option.some.injEq] at e; omega))
  obtain ⟨x0, x1, x2, x3, x4, x5, f0, f1, f2, f3, f4, f5⟩ := box6 K2.out
  obtain ⟨y0, y1, y2, y3, y4, y5, q0, q1, q2, q3', q4, q5⟩ := box6 Q2.out
  clear hC2
  go_wp2
  refine bodyPost_ret (v := .agg #[.string (txt k.n), .string (txt k.v), .string (txt k.d), .bool k.o, .string (txt k.p), .int .i64 k.u]) ?_ rfl ⟨k, hk.out, rfl, HC.out, HGF.out⟩
  rw [results_cell_one rfl]
  have hld := ck_load K2.out (.string (txt k.n)) (.string (txt k.v)) (.string (txt k.d)) (.bool k.o) (.string (txt k.p)) (.int .i64 k.u)
  unfold set6 at hld
  simp [asAddr, Result.andThen, hld]

/-- what holds inside DrawPutSet's last region -/
def PS (w : World) (B g q : Nat) (av : Option Addr) (n c : Nat) (k : CkL) (b : Nat → Bool) (t : Nat → Value) (w' : World) : Prop :=
  Below w.heap.size w w' ∧ (b 3 = false → CurE w' B g av n c) ∧ w'.heap[q]? = some (.cells #[.string (txt k.n), .string (txt k.v), .string (txt k.d), .bool k.o, .string (txt k.p), .int .i64 k.u] 25 (0, 0)) ∧ q < w'.heap.size ∧
  (t 2 = .pointer (some ⟨w.heap.size, 0, none⟩) ∧ t 4 = .pointer (some ⟨g, 0, none⟩) ∧ t 5 = .pointer (some ⟨q, 0, none⟩)) ∧
  (b 0 = true → t 10 = .agg #[.string (txt k.n), .string (txt k.v), .string (txt k.d), .bool k.o, .string (txt k.p), .int .i64 k.u]) ∧ (b 1 = true → t 11 = .pointer (some ⟨g, 0, none⟩)) ∧
  (b 2 = true → b 3 = false → ∃ vl, t 12 = vl ∧ w'.ownsRow (q + 1) 3 1 vl 5 (ints putNows)) ∧
  (b 3 = true → ∃ x, x ∈ putNows ∧ t 13 = .int .i64 x ∧ (b 5 = true → t 3 = .int .i64 x)) ∧
  (b 4 = false → ∃ a0 a1 a2 a3 a4 a5 : Value, w'.heap[w.heap.size]? = some (.cells #[a0, a1, a2, a3, a4, a5] 25 (0, 0))) ∧
  (b 4 = true → w'.heap[w.heap.size]? = some (.cells #[.string (txt k.n), .string (txt k.v), .string (txt k.d), .bool k.o, .string (txt k.p), .int .i64 k.u] 25 (0, 0))) ∧ (b 5 = true → b 3 = true)

set_option maxRecDepth 100000 in
set_option maxHeartbeats 6400000 in
theorem drawPutSet_call (B : Nat) (av : Option Addr) (n c : Nat) (w : World) (hcode : CodeIs w B av n) (hn : n ≤ 1048576) (hB : B ≤ w.heap.size) :
    Calls Tryd.prog 7 #[.slice av n c] w fun e w' => ∃ (k : CkL) (now : Int), SmallK k ∧ now ∈ putNows ∧ e = .returned (.tuple #[ckV k, .int .i64 now]) ∧ Below w.heap.size w w' := by
  have ba := Lib.hid ((Below.refl w.heap.size w).alloc (Nat.le_refl _) (.cells #[.string ⟨#[]⟩, .string ⟨#[]⟩, .string ⟨#[]⟩, .bool false, .string ⟨#[]⟩, .int .i64 0] 25))
  have g0 := Lib.hid (heap_alloc_new w (.cells #[.string ⟨#[]⟩, .string ⟨#[]⟩, .string ⟨#[]⟩, .bool false, .string ⟨#[]⟩, .int .i64 0] 25))
  have sa := Lib.hid (show (w.alloc (.cells #[.string ⟨#[]⟩, .string ⟨#[]⟩, .string ⟨#[]⟩, .bool false, .string ⟨#[]⟩, .int .i64 0] 25)).heap.size = w.heap.size + 1 by simp)
  have P0 := new_call B av n c (w.alloc (.cells #[.string ⟨#[]⟩, .string ⟨#[]⟩, .string ⟨#[]⟩, .bool false, .string ⟨#[]⟩, .int .i64 0] 25)) (hcode.keep fun k hk => ba.out.block k (by omega)) hn (by rw [sa.out]; omega)
  rw [sa.out] at P0
  have HP0 := Lib.hid P0
  clear P0
  go_enter Tryd.func7, Tryd.ntmps7
  go_wp2_with fail
  refine HP0.out.mono ?_
  rintro e w1 ⟨h, rfl, hC1, hb1⟩
  have hgl := lt_of_block hC1.box
  have k1 := (hb1.block w.heap.size (by omega)).trans g0.out
  have c1 := ba.out.trans (hb1.mono (by omega))
  have s1 := hb1.size
  go_wp2_with fail
  refine (l06Any_call B (w.heap.size + 1) av n c _ ⟨_, _, hC1⟩).mono ?_
  rintro e w2 ⟨k, hk, rfl, hC2, hg2⟩
  have HK := Lib.hid hk
  have s2 := hg2.size
  have k2 := (hg2.block w.heap.size (by omega) (fun e => by simp only [Option.some.injEq] at e; omega)).trans k1
  have c2 := c1.grown hg2 (by omega) (fun j e => by simp only [Option.some.injEq] at e; omega)
  have dA := (Below.refl w2.heap.size w2).alloc (Nat.le_refl _) (.cells #[.string (txt k.n), .string (txt k.v), .string (txt k.d), .bool k.o, .string (txt k.p), .int .i64 k.u] 25)
  have hC3 := Lib.hid (hC2.below dA)
  have K3 := Lib.hid ((dA.block w.heap.size (by omega)).trans k2)
  have Q3 := Lib.hid (heap_alloc_new w2 (.cells #[.string (txt k.n), .string (txt k.v), .string (txt k.d), .bool k.o, .string (txt k.p), .int .i64 k.u] 25))
  have C3 := Lib.hid (c2.trans (dA.mono c2.size))
  have S3 := Lib.hid (show (w2.alloc (.cells #[.string (txt k.n), .string (txt k.v), .string (txt k.d), .bool k.o, .string (txt k.p), .int .i64 k.u] 25)).heap.size = w2.heap.size + 1 by simp)
  have hqw : w.heap.size + 1 < w2.heap.size := by omega
  clear hk hC1 hC2 hg2 hb1 k1 k2 c1 c2 dA hgl s1 s2
  unfold ckV
  go_wp2
  refine Inv.region_jj 6 14 (PS w B (w.heap.size + 1) w2.heap.size av n c k) (by kernel_rfl) rfl (by kernel_rfl) ⟨by simp, rfl⟩ ?_ ?_ ?_
  · refine ⟨C3.out.trans ((Below.refl _ _).drew.mono C3.out.size), fun _ => hC3.out.below (Below.refl _ _).drew, Q3.out, by show w2.heap.size < (w2.alloc (.cells #[.string (txt k.n), .string (txt k.v), .string (txt k.d), .bool k.o, .string (txt k.p), .int .i64 k.u] 25)).heap.size; rw [S3.out]; omega, ⟨rfl, rfl, rfl⟩, ?_, ?_, ?_, ?_, fun _ => ⟨_, _, _, _, _, _, K3.out⟩, ?_, ?_⟩
    all_goals (intro h; cases h)
  · intro a b t W hS ht i hi hb hafter K SP SK
    have HS := Lib.hid hS
    have HT := Lib.hid ht
    obtain ⟨hbel, hcur, hq, hqs, ⟨t2, t4, t5⟩, h10, h11, h12, h13, hz, hy, h53⟩ := hS
    clear ht
    match i, hi, hb, hafter with
    | 0, _, hb, ha0 =>
      clear ha0
      refine Inv.wpOp_at rfl rfl ?_
      have f5 := (HT.out 5).trans t5
      obtain ⟨q0, q1, q2, q3, q4, q5, _⟩ := box6 hq
      clear h53 hq t2 t4 t5 h10 h11 h12 h13 hz hy hcur hbel
      go_simp
      refine SP _ _ _ (by omega) ?_
      obtain ⟨hbel, hcur, hq, hqs, ⟨t2, t4, t5⟩, h10, h11, h12, h13, hz, hy, h53⟩ := HS.out
      exact ⟨hbel, hcur, hq, hqs, ⟨t2, t4, t5⟩, fun _ => rfl, h11, h12, h13, hz, hy, h53⟩
    | 1, _, hb, ha0 =>
      clear ha0
      refine Inv.wpOp_at rfl rfl ?_
      have f4 := (HT.out 4).trans t4
      clear h53 hq t2 t4 t5 h10 h11 h12 h13 hz hy hcur hbel
      go_simp
      refine SP _ _ _ (by omega) ?_
      obtain ⟨hbel, hcur, hq, hqs, ⟨t2, t4, t5⟩, h10, h11, h12, h13, hz, hy, h53⟩ := HS.out
      exact ⟨hbel, hcur, hq, hqs, ⟨t2, t4, t5⟩, h10, fun _ => rfl, h12, h13, hz, hy, h53⟩
    | 2, _, hb, ha0 =>
      clear ha0
      refine Inv.wpOp_at rfl rfl ?_
      clear h53 hq t2 t4 t5 h10 h11 h12 h13 hz hy hcur hbel
      go_simp
      refine SP _ _ _ (by omega) ?_
      obtain ⟨hbel, hcur, hq, hqs, ⟨t2, t4, t5⟩, h10, h11, h12, h13, hz, hy, h53⟩ := HS.out
      have hw : w.heap.size < W.heap.size := by omega
      have dB := (Below.refl W.heap.size W).alloc (Nat.le_refl _) (.cells #[.int .i64 0, .int .i64 50, .int .i64 150, .int .i64 999999999999, .int .i64 (-1)] 3)
      refine ⟨hbel.trans (dB.mono hbel.size), fun h => (hcur h).below dB, (dB.block _ hqs).trans hq, Nat.lt_of_lt_of_le hqs dB.size, ⟨t2, t4, t5⟩, h10, h11, fun _ _ => ⟨_, rfl, World.ownsRow_lit (base := w2.heap.size + 1) (e := 3) (size := 1) W #[.int .i64 0, .int .i64 50, .int .i64 150, .int .i64 999999999999, .int .i64 (-1)] 5 hqs (by unfold maxLen; omega) rfl⟩, h13, fun h4 => ?_, fun h4 => (dB.block _ hw).trans (hy h4), h53⟩
      obtain ⟨a0, a1, a2, a3, a4, a5, hk⟩ := hz h4
      exact ⟨a0, a1, a2, a3, a4, a5, (dB.block _ hw).trans hk⟩
    | 3, _, hb, ha0 =>
      have ha := ha0 _ rfl
      clear ha0
      refine Inv.wpOp_at rfl rfl ?_
      simp [Region.binds] at ha
      obtain ⟨vl, e12, how⟩ := h12 ha.2 hb
      have f11 := (HT.out 11).trans (h11 ha.1)
      have f12 := (HT.out 12).trans e12
      clear h53 hq t2 t4 t5 h10 h11 h12 h13 hz hy hbel e12
      go_simp
      refine (pickint_call B (w.heap.size + 1) (w2.heap.size + 1) av n c _ putNows _ (hcur hb) how (by decide) (by decide) (by omega)).mono ?_
      rintro e w4 ⟨x, hx, rfl, hC4, hg4⟩
      refine SP _ _ _ (by omega) ?_
      obtain ⟨hbel, hcur, hq, hqs, ⟨t2, t4, t5⟩, h10, h11, h12, h13, hz, hy, h53⟩ := HS.out
      refine ⟨hbel.grown hg4 hbel.size (fun j e => by simp only [Option.some.injEq] at e; omega), fun _ => hC4, (hg4.block _ hqs (fun e => by simp only [Option.some.injEq] at e; omega)).trans hq, Nat.lt_of_lt_of_le hqs hg4.size, ⟨t2, t4, t5⟩, h10, h11, ?_, fun _ => ⟨x, hx, rfl, ?_⟩, fun h4 => ?_, fun h4 => ?_, fun _ => rfl⟩
      · intro _ h
        exact absurd (show true = false from h) (by decide)
      · intro h5
        have h6 := h53 h5
        rw [hb] at h6
        cases h6
      · obtain ⟨a0, a1, a2, a3, a4, a5, hk⟩ := hz h4
        exact ⟨a0, a1, a2, a3, a4, a5, (hg4.block _ (by omega) (fun e => by simp only [Option.some.injEq] at e; omega)).trans hk⟩
      · exact (hg4.block _ (by omega) (fun e => by simp only [Option.some.injEq] at e; omega)).trans (hy h4)
    | 4, _, hb, ha0 =>
      have ha := ha0 _ rfl
      clear ha0
      refine Inv.wpOp_at rfl rfl ?_
      simp [Region.binds] at ha
      have f2 := (HT.out 2).trans t2
      have f10 := (HT.out 10).trans (h10 (by simp_all))
      obtain ⟨a0, a1, a2, a3, a4, a5, hk⟩ := hz hb
      obtain ⟨x0, x1, x2, x3, x4, x5, e0, e1, e2, e3, e4, e5⟩ := box6 hk
      have HKK := Lib.hid hk
      clear h53 hq t2 t4 t5 h10 h11 h12 h13 hz hy hcur hbel hk
      go_simp
      refine SK _ ?_
      obtain ⟨hbel, hcur, hq, hqs, ⟨t2, t4, t5⟩, h10, h11, h12, h13, hz, hy, h53⟩ := HS.out
      have GR := set6_grown W w.heap.size (.string (txt k.n)) (.string (txt k.v)) (.string (txt k.d)) (.bool k.o) (.string (txt k.p)) (.int .i64 k.u) (by omega)
      have hsz := set6_size W w.heap.size (.string (txt k.n)) (.string (txt k.v)) (.string (txt k.d)) (.bool k.o) (.string (txt k.p)) (.int .i64 k.u)
      have R1 := set6_below (b := w.heap.size) hbel (Nat.le_refl _) (.string (txt k.n)) (.string (txt k.v)) (.string (txt k.d)) (.bool k.o) (.string (txt k.p)) (.int .i64 k.u)
      have R3 := (GR.block w2.heap.size hqs (fun e => by simp only [Option.some.injEq] at e; omega)).trans hq
      have R4 := set6_same HKK.out (.string (txt k.n)) (.string (txt k.v)) (.string (txt k.d)) (.bool k.o) (.string (txt k.p)) (.int .i64 k.u)
      have R5 : w2.heap.size < (set6 W w.heap.size (.string (txt k.n)) (.string (txt k.v)) (.string (txt k.d)) (.bool k.o) (.string (txt k.p)) (.int .i64 k.u)).heap.size := by rw [hsz]; exact hqs
      have hb3 : b 3 = true := by simp_all
      unfold set6 at R1 R3 R4 R5
      refine ⟨R1, ?_, R3, R5, ⟨t2, t4, t5⟩, h10, h11, ?_, h13, ?_, fun _ => R4, h53⟩
      · intro h
        have h' : b 3 = false := h
        rw [hb3] at h'
        cases h'
      · intro _ h
        have h' : b 3 = false := h
        rw [hb3] at h'
        cases h'
      · intro h
        exact absurd (show true = false from h) (by decide)
    | 5, _, hb, ha0 =>
      have ha := ha0 _ rfl
      clear ha0
      refine Inv.wpOp_at rfl rfl ?_
      simp [Region.binds] at ha
      have hb3 : b 3 = true := by simp_all
      have H3 := Lib.hid hb3
      obtain ⟨x, hx, e13, e3⟩ := h13 hb3
      have f13 := (HT.out 13).trans e13
      clear h53 hq t2 t4 t5 h10 h11 h12 h13 hz hy hcur hbel
      go_simp
      refine SP _ _ _ (by omega) ?_
      obtain ⟨hbel, hcur, hq, hqs, ⟨t2, t4, t5⟩, h10, h11, h12, h13, hz, hy, h53⟩ := HS.out
      exact ⟨hbel, hcur, hq, hqs, ⟨t2, t4, t5⟩, h10, h11, h12, fun _ => ⟨x, hx, e13, fun _ => rfl⟩, hz, hy, fun _ => H3.out⟩
  · intro a t W b hS hall ht hsz hdf
    rename_i hK
    obtain ⟨hbel, hcur, hq, hqs, ⟨t2, t4, t5⟩, h10, h11, h12, h13, hz, hy, h53⟩ := hS
    obtain ⟨x, hx, e13, e3⟩ := h13 (hall 3 (by omega))
    have r3 := (ht 3).trans (e3 (hall 5 (by omega)))
    have r2 := (ht 2).trans t2
    have hbx := hy (hall 4 (by omega))
    refine hK _ _ ?_
    refine Go.wp_ret ?_
    refine bodyPost_ret (v := .tuple #[.agg #[.string (txt k.n), .string (txt k.v), .string (txt k.d), .bool k.o, .string (txt k.p), .int .i64 k.u], .int .i64 x]) ?_ hdf ⟨k, x, HK.out, hx, rfl, hbel⟩
    have r2' : a.tmps.getD 2 undef = .pointer (some ⟨w.heap.size, 0, none⟩) := by rw [Array.getD_eq_getD_getElem?]; exact r2
    have r3' : a.tmps.getD 3 undef = .int .i64 x := by rw [Array.getD_eq_getD_getElem?]; exact r3
    have hld := run_loadVar_row (P := Tryd.prog) _ w.heap.size 25 25 #[.string (txt k.n), .string (txt k.v), .string (txt k.d), .bool k.o, .string (txt k.p), .int .i64 k.u] (0, 0) _ hbx Tryd.underlying25 rfl (by rw [ck_info]; rfl)
    rw [res_ct1 rfl, r2', r3']
    simp [asAddr, Result.andThen, hld]

theorem putSet_len (c : CkL) (now : Int) (h0 : 0 ≤ now) (h1 : now ≤ 999999999999) : (putSet c now).length ≤ 2000 := by
  unfold putSet
  cases hc : ckOk c with
  | false => simp
  | true =>
    obtain ⟨a1, a2, a3, a4⟩ := ck_small hc
    have hp := ck_parts hc
    have hil : (Lib.itoa (ageL c.u now)).length ≤ 21 := Lib.itoa_length_le (ageL c.u now) (by unfold ageL; split <;> omega) (by unfold ageL; split <;> omega)
    have hs : (setL c now).length ≤ 2000 := by
      unfold setL eqL atL pathT domT ageT
      split <;> split <;> simp <;> omega
    split
    · exact hs
    · simp

set_option maxRecDepth 100000 in
set_option maxHeartbeats 6400000 in
theorem drawGetSet_call (B : Nat) (av : Option Addr) (n c : Nat) (w : World) (hcode : CodeIs w B av n) (hn : n ≤ 1048576) (hB : B ≤ w.heap.size) :
    Calls Tryd.prog 13 #[.slice av n c] w fun e w' => ∃ (s h : List UInt8) (now : Int), s.length ≤ 3000 ∧ h.length ≤ 100 ∧ now ∈ getNows ∧ e = .returned (.tuple #[.string (txt s), .string (txt h), .int .i64 now]) ∧ Below w.heap.size w w' := by
  go_enter Tryd.func13, Tryd.ntmps13
  go_wp2_with fail
  refine (new_call B av n c _ hcode hn hB).mono ?_
  rintro e w1 ⟨h, rfl, hC1, hb1⟩
  go_wp2_with fail
  refine (l06Make_call B w.heap.size av n c _ ⟨_, _, hC1⟩).mono ?_
  rintro e w2 ⟨k, hk, rfl, hC2, hg2⟩
  have HP := Lib.hid (fun wx => putSet_spec k 50 wx (smallK_S hk) (by omega) (by omega))
  have hlen := putSet_len k 50 (by omega) (by omega)
  unfold ckV at HP ⊢
  generalize putSet k 50 = s0 at HP hlen
  go_wp2_with fail
  refine (HP.out _).mono ?_
  rintro e w3 ⟨rfl, b3⟩
  have hC3 := hC2.below b3
  have hg3 := grown_trans hg2 (grown_below b3 _)
  clear hC1 hC2 hg2 b3 HP hk
  go_wp2_with fail
  refine (once_call B w.heap.size av n c 3 _ hC3 (by omega) (by omega)).mono ?_
  rintro e w4 ⟨b, rfl, hC4, hg4⟩
  have hg34 := grown_trans hg3 hg4
  clear hC3 hg3 hg4
  cases b with
  | false =>
    go_wp2_with fail
    refine (bent_call B w.heap.size av n c s0 _ hC4 (by omega)).mono ?_
    rintro e w6 ⟨l, hll, rfl, hC6, hg6⟩
    go_wp2_with fail
    refine (l06Host_call B w.heap.size av n c _ hC6).mono ?_
    rintro e w7 ⟨x, hx, rfl, hC7, hg7⟩
    go_wp2_with fail
    refine (pickint_lit B w.heap.size av n c getNows _ _ rfl hC7 (by decide) (by decide)).mono ?_
    rintro e w8 ⟨y, hy, rfl, hC8, hg8⟩
    have hgF := Lib.hid (grown_below_new hb1 (grown_trans (grown_trans (grown_trans hg34 hg6) hg7) hg8))
    have hxl := hostWords_len _ hx
    have HY := Lib.hid hy
    clear hC6 hC7 hC8 hg6 hg7 hg8 hy hx
    go_wp2
    refine bodyPost_ret (v := .tuple #[.string (txt l), .string (txt x), .int .i64 y]) ?_ rfl ⟨l, x, y, by omega, hxl, HY.out, rfl, hgF.out⟩
    rw [results_tmps3 rfl]
    rfl
  | true =>
    go_wp2_with fail
    refine (pick_lit B w.heap.size av n c getTexts _ _ rfl hC4 (by decide) (by decide)).mono ?_
    rintro e w5 ⟨s1, hs1, rfl, hC5, hg5⟩
    have hl1 := getTexts_len _ hs1
    have hg35 := grown_trans hg34 hg5
    clear hC4 hg34 hg5 hs1
    go_wp2_with fail
    refine (bent_call B w.heap.size av n c s1 _ hC5 (by omega)).mono ?_
    rintro e w6 ⟨l, hll, rfl, hC6, hg6⟩
    go_wp2_with fail
    refine (l06Host_call B w.heap.size av n c _ hC6).mono ?_
    rintro e w7 ⟨x, hx, rfl, hC7, hg7⟩
    go_wp2_with fail
    refine (pickint_lit B w.heap.size av n c getNows _ _ rfl hC7 (by decide) (by decide)).mono ?_
    rintro e w8 ⟨y, hy, rfl, hC8, hg8⟩
    have hgF := Lib.hid (grown_below_new hb1 (grown_trans (grown_trans (grown_trans hg35 hg6) hg7) hg8))
    have hxl := hostWords_len _ hx
    have HY := Lib.hid hy
    clear hC6 hC7 hC8 hg6 hg7 hg8 hy hx
    go_wp2
    refine bodyPost_ret (v := .tuple #[.string (txt l), .string (txt x), .int .i64 y]) ?_ rfl ⟨l, x, y, by omega, hxl, HY.out, rfl, hgF.out⟩
    rw [results_tmps3 rfl]
    rfl

end Ck
end Go.Proofs.YtdgfiebehnfpgaaDoor
