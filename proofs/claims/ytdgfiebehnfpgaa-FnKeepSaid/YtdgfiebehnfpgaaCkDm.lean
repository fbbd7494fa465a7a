/- CONTRACTS of what draws jars. -/
import Derived.Test.YtdgfiebehnfpgaaCkD
import Derived.Test.YtdgfiebehnfpgaaCkJR
import Derived.Test.YtdgfiebehnfpgaaCkK
import Derived.Test.YtdgfiebehnfpgaaInv2
namespace Go.Proofs.Ytdgfiebehnfpgaa
set_option linter.unusedVariables false
set_option maxRecDepth 4000
open Go.ChangeShapes Go.WideShapes Go.ChangeAt Go.RowKit
open Go.ChangeMaps (open_string shut_string)

namespace Ck
open Ht

def set6 (W : World) (b : Nat) (v0 v1 v2 v3 v4 v5 : Value) : World := (((((W.setCell ⟨b, 0, none⟩ v0).setCell ⟨b, 1, none⟩ v1).setCell ⟨b, 2, none⟩ v2).setCell ⟨b, 3, none⟩ v3).setCell ⟨b, 4, none⟩ v4).setCell ⟨b, 5, none⟩ v5

theorem set6_heap (W : World) (b g : Nat) (v0 v1 v2 v3 v4 v5 : Value) (h : g ≠ b) : (set6 W b v0 v1 v2 v3 v4 v5).heap[g]? = W.heap[g]? := by
  unfold set6
  rw [Below.heap_setCell _ _ _ _ h, Below.heap_setCell _ _ _ _ h, Below.heap_setCell _ _ _ _ h, Below.heap_setCell _ _ _ _ h, Below.heap_setCell _ _ _ _ h, Below.heap_setCell _ _ _ _ h]

theorem set6_same {W : World} {b : Nat} {t : TypeId} {a0 a1 a2 a3 a4 a5 : Value} (h : W.heap[b]? = some (.cells #[a0, a1, a2, a3, a4, a5] t (0, 0))) (v0 v1 v2 v3 v4 v5 : Value) :
    (set6 W b v0 v1 v2 v3 v4 v5).heap[b]? = some (.cells #[v0, v1, v2, v3, v4, v5] t (0, 0)) := by
  have h0 := heap_setCell_same W b 0 _ _ v0 h
  have h1 := heap_setCell_same _ b 1 _ _ v1 h0
  have h2 := heap_setCell_same _ b 2 _ _ v2 h1
  have h3 := heap_setCell_same _ b 3 _ _ v3 h2
  have h4 := heap_setCell_same _ b 4 _ _ v4 h3
  have h5 := heap_setCell_same _ b 5 _ _ v5 h4
  unfold set6
  rw [h5]
  rfl

theorem set6_below {B b : Nat} {W0 W : World} (h : Below B W0 W) (hb : B ≤ b) (v0 v1 v2 v3 v4 v5 : Value) : Below B W0 (set6 W b v0 v1 v2 v3 v4 v5) :=
  (((((h.setCell (p := ⟨b, 0, none⟩) hb _).setCell (p := ⟨b, 1, none⟩) hb _).setCell (p := ⟨b, 2, none⟩) hb _).setCell (p := ⟨b, 3, none⟩) hb _).setCell (p := ⟨b, 4, none⟩) hb _).setCell (p := ⟨b, 5, none⟩) hb _

theorem set6_size (W : World) (b : Nat) (v0 v1 v2 v3 v4 v5 : Value) : (set6 W b v0 v1 v2 v3 v4 v5).heap.size = W.heap.size := by
  unfold set6
  simp

theorem ck_load {W : World} {b : Nat} {a0 a1 a2 a3 a4 a5 : Value} (h : W.heap[b]? = some (.cells #[a0, a1, a2, a3, a4, a5] 26 (0, 0))) (v0 v1 v2 v3 v4 v5 : Value) :
    (loadVar 26 ⟨b, 0, none⟩).run Try.prog (set6 W b v0 v1 v2 v3 v4 v5) = .ok (.agg #[v0, v1, v2, v3, v4, v5]) (set6 W b v0 v1 v2 v3 v4 v5) :=
  run_loadVar_row (P := Try.prog) _ b 26 26 #[v0, v1, v2, v3, v4, v5] (0, 0) _ (set6_same h v0 v1 v2 v3 v4 v5) Try.underlying26 rfl (by rw [ck_info]; rfl)

def mkNames : List (List UInt8) := [[115, 115, 111], [97, 112, 112], [65, 95, 98, 45, 49]]

theorem mkNames_len : ∀ x ∈ mkNames, x.length ≤ 100 := by decide

def mkVals : List (List UInt8) := [[], [118, 49], [97, 46, 98, 45, 99, 95, 126], [120, 61, 121]]

theorem mkVals_len : ∀ x ∈ mkVals, x.length ≤ 100 := by decide

def mkPaths : List (List UInt8) := [[47], [47, 97, 112, 112], [47, 97, 112, 112, 47]]

theorem mkPaths_len : ∀ x ∈ mkPaths, x.length ≤ 100 := by decide

def anyNames : List (List UInt8) := [[], [97, 32, 98], [97, 61], [97, 97, 97, 97, 97, 97, 97, 97, 97, 97, 97, 97, 97, 97, 97, 97, 97, 97, 97, 97, 97, 97, 97, 97, 97, 97, 97, 97, 97, 97, 97]]

theorem anyNames_len : ∀ x ∈ anyNames, x.length ≤ 100 := by decide

def anyVals : List (List UInt8) := [[97, 59, 98], [97, 32, 98], [34], [92], [44]]

theorem anyVals_len : ∀ x ∈ anyVals, x.length ≤ 100 := by decide

def anyDoms : List (List UInt8) := [[], [46], [65, 46, 98], [97, 46, 46, 98], [46, 97], [97, 46]]

theorem anyDoms_len : ∀ x ∈ anyDoms, x.length ≤ 100 := by decide

def getTexts : List (List UInt8) := [[], [97], [97, 61, 98], [32, 97, 32, 61, 32, 98, 32], [97, 61, 98, 59, 32, 112, 97, 116, 104, 61, 120], [97, 61, 98, 59, 32, 80, 65, 84, 72, 61, 47, 113, 59, 32, 100, 111, 109, 97, 105, 110, 61, 46, 79, 78, 69, 46, 101, 120, 97, 109, 112, 108, 101, 59, 32, 109, 97, 120, 45, 97, 103, 101, 61, 45, 53], [97, 61, 98, 59, 77, 97, 120, 45, 65, 103, 101, 61, 120], [97, 61, 98, 59, 32, 100, 111, 109, 97, 105, 110, 61, 116, 119, 111, 46, 101, 120, 97, 109, 112, 108, 101], [97, 61, 98, 59, 32, 100, 111, 109, 97, 105, 110, 61], [97, 61, 98, 59, 59, 59, 32, 115, 101, 99, 117, 114, 101], [61, 98], [97, 61, 98, 59, 32, 112, 97, 116, 104, 61, 47, 112, 59, 32, 112, 97, 116, 104, 61, 47, 113]]

theorem getTexts_len : ∀ x ∈ getTexts, x.length ≤ 100 := by decide

def mkUs : List Int := [-1, 0, 100, 200, 999999999999]

theorem mkUs_in : ∀ x ∈ mkUs, -2 ≤ x ∧ x ≤ 1000000000000 := by decide

def anyUs : List Int := [-2, 1000000000000]

theorem anyUs_in : ∀ x ∈ anyUs, -2 ≤ x ∧ x ≤ 1000000000000 := by decide

def putNows : List Int := [0, 50, 150, 999999999999, -1]

theorem putNows_in : ∀ x ∈ putNows, -2 ≤ x ∧ x ≤ 1000000000000 := by decide

def getNows : List Int := [50, 50, 50, 999999999999, -1]

theorem getNows_in : ∀ x ∈ getNows, -2 ≤ x ∧ x ≤ 1000000000000 := by decide

theorem hostWords_len : ∀ x ∈ hostWords, x.length ≤ 100 := by decide

/-- a cookie that is drawn: a short one -/
def SmallK (k : CkL) : Prop := k.n.length ≤ 100 ∧ k.v.length ≤ 100 ∧ k.d.length ≤ 100 ∧ k.p.length ≤ 100 ∧ -2 ≤ k.u ∧ k.u ≤ 1000000000000

theorem smallK_S {k : CkL} (h : SmallK k) : CkS k := by
  obtain ⟨h1, h2, h3, h4, _⟩ := h
  unfold CkS
  omega

theorem results_tmps3 {fn : Func} {p q r : Tmp} (h : fn.results = #[.tmp p, .tmp q, .tmp r]) (tmps : Array Value) (P : Program) (w : World) :
    (results fn tmps).run P w = .ok (.tuple #[tmps.getD p undef, tmps.getD q undef, tmps.getD r undef]) w := by
  simp only [results, h]
  simp [Sem.run_bind, Result.andThen]

theorem set6_grown (w : World) (g : Nat) (v0 v1 v2 v3 v4 v5 : Value) (hg : g < w.heap.size) : w.grownBy (set6 w g v0 v1 v2 v3 v4 v5) (some g) := by
  unfold set6
  exact grown_trans (grown_trans (grown_trans (grown_trans (grown_trans (box_grown w g 0 v0 hg) (box_grown _ g 1 v1 (by simpa using hg))) (box_grown _ g 2 v2 (by simpa using hg))) (box_grown _ g 3 v3 (by simpa using hg))) (box_grown _ g 4 v4 (by simpa using hg))) (box_grown _ g 5 v5 (by simpa using hg))

set_option maxRecDepth 100000 in
set_option maxHeartbeats 6400000 in
theorem l06Make_call (B g : Nat) (av : Option Addr) (n c : Nat) (w : World) (hC : CurE w B g av n c) :
    Calls Try.prog 52 #[.pointer (some ⟨g, 0, none⟩)] w fun e w' => ∃ k : CkL, SmallK k ∧ e = .returned (ckV k) ∧ CurE w' B g av n c ∧ w.grownBy w' (some g) := by
  have hgw := hC.lt
  have hCa := Lib.hid (hC.below ((Below.refl w.heap.size w).alloc (Nat.le_refl _) (.cells #[.string ⟨#[]⟩, .string ⟨#[]⟩, .string ⟨#[]⟩, .bool false, .string ⟨#[]⟩, .int .i64 0] 26)))
  have g0 := Lib.hid (heap_alloc_new w (.cells #[.string ⟨#[]⟩, .string ⟨#[]⟩, .string ⟨#[]⟩, .bool false, .string ⟨#[]⟩, .int .i64 0] 26))
  have ga := Lib.hid (World.grownBy_alloc w (.cells #[.string ⟨#[]⟩, .string ⟨#[]⟩, .string ⟨#[]⟩, .bool false, .string ⟨#[]⟩, .int .i64 0] 26) (some g))
  have sa := Lib.hid (show (w.alloc (.cells #[.string ⟨#[]⟩, .string ⟨#[]⟩, .string ⟨#[]⟩, .bool false, .string ⟨#[]⟩, .int .i64 0] 26)).heap.size = w.heap.size + 1 by simp)
  have P0 := pick_lit B g av n c mkNames #[.string ⟨#[115, 115, 111]⟩, .string ⟨#[97, 112, 112]⟩, .string ⟨#[65, 95, 98, 45, 49]⟩] _ rfl hCa.out (by decide) (by decide)
  rw [sa.out] at P0
  have HP0 := Lib.hid P0
  clear P0
  go_enter Try.func52, Try.ntmps52
  go_wp2_with fail
  refine HP0.out.mono ?_
  rintro e w1 ⟨a1, h1, rfl, hC1, hg1⟩
  go_wp2_with fail
  refine (pick_lit B g av n c mkVals _ _ rfl hC1 (by decide) (by decide)).mono ?_
  rintro e w2 ⟨a2, h2, rfl, hC2, hg2⟩
  go_wp2_with fail
  refine (l06Host_call B g av n c _ hC2).mono ?_
  rintro e w3 ⟨a3, h3, rfl, hC3, hg3⟩
  go_wp2_with fail
  refine (once_call B g av n c 2 _ hC3 (by omega) (by omega)).mono ?_
  rintro e w4 ⟨a4, rfl, hC4, hg4⟩
  go_wp2_with fail
  refine (pick_lit B g av n c mkPaths _ _ rfl hC4 (by decide) (by decide)).mono ?_
  rintro e w5 ⟨a5, h5, rfl, hC5, hg5⟩
  go_wp2_with fail
  refine (pickint_lit B g av n c mkUs _ _ rfl hC5 (by decide) (by decide)).mono ?_
  rintro e w6 ⟨a6, h6, rfl, hC6, hg6⟩
  have hgA := grown_trans (grown_trans (grown_trans (grown_trans (grown_trans hg1 hg2) hg3) hg4) hg5) hg6
  have s6 := hgA.size
  rw [sa.out] at s6
  have kR := (hgA.block w.heap.size (by rw [sa.out]; omega) (fun e => by simp only [Option.some.injEq] at e; omega)).trans g0.out
  have KR := Lib.hid kR
  have HG := Lib.hid (grown_trans ga.out hgA)
  have HC := Lib.hid hC6
  have hSm := Lib.hid (show SmallK ⟨a1, a2, a3, a4, a5, a6⟩ from ⟨mkNames_len _ h1, mkVals_len _ h2, hostWords_len _ h3, mkPaths_len _ h5, (mkUs_in _ h6).1, (mkUs_in _ h6).2⟩)
  have GR := Lib.hid (set6_grown w6 w.heap.size (.string (txt a1)) (.string (txt a2)) (.string (txt a3)) (.bool a4) (.string (txt a5)) (.int .i64 a6) (by omega))
  obtain ⟨x0, x1, x2, x3, x4, x5, f0, f1, f2, f3, f4, f5⟩ := box6 kR
  clear h1 h2 h3 h5 h6 hC1 hC2 hC3 hC4 hC5 hC6 hg1 hg2 hg3 hg4 hg5 hg6 hgA kR
  go_wp2
  refine bodyPost_ret (v := .agg #[.string (txt a1), .string (txt a2), .string (txt a3), .bool a4, .string (txt a5), .int .i64 a6]) ?_ rfl ⟨⟨a1, a2, a3, a4, a5, a6⟩, hSm.out, rfl, HC.out.other GR.out (fun j e => by simp only [Option.some.injEq] at e; omega), grown_new HG.out GR.out (fun j e => by simp only [Option.some.injEq] at e; omega)⟩
  rw [results_cell_one rfl]
  have hld := ck_load KR.out (.string (txt a1)) (.string (txt a2)) (.string (txt a3)) (.bool a4) (.string (txt a5)) (.int .i64 a6)
  unfold set6 at hld
  simp [asAddr, Result.andThen, hld]

set_option maxRecDepth 100000 in
set_option maxHeartbeats 6400000 in
theorem l06Any_call (B g : Nat) (av : Option Addr) (n c : Nat) (w : World) (hC : CurE w B g av n c) :
    Calls Try.prog 26 #[.pointer (some ⟨g, 0, none⟩)] w fun e w' => ∃ k : CkL, SmallK k ∧ e = .returned (ckV k) ∧ CurE w' B g av n c ∧ w.grownBy w' (some g) := by
  have hgw := hC.lt
  have hCa := Lib.hid (hC.below ((Below.refl w.heap.size w).alloc (Nat.le_refl _) (.cells #[.string ⟨#[]⟩, .string ⟨#[]⟩, .string ⟨#[]⟩, .bool false, .string ⟨#[]⟩, .int .i64 0] 26)))
  have g0 := Lib.hid (heap_alloc_new w (.cells #[.string ⟨#[]⟩, .string ⟨#[]⟩, .string ⟨#[]⟩, .bool false, .string ⟨#[]⟩, .int .i64 0] 26))
  have ga := Lib.hid (World.grownBy_alloc w (.cells #[.string ⟨#[]⟩, .string ⟨#[]⟩, .string ⟨#[]⟩, .bool false, .string ⟨#[]⟩, .int .i64 0] 26) (some g))
  have sa := Lib.hid (show (w.alloc (.cells #[.string ⟨#[]⟩, .string ⟨#[]⟩, .string ⟨#[]⟩, .bool false, .string ⟨#[]⟩, .int .i64 0] 26)).heap.size = w.heap.size + 1 by simp)
  have MK := Lib.hid (l06Make_call B g av n c _ hCa.out)
  go_enter Try.func26, Try.ntmps26
  go_wp2_with fail
  refine MK.out.mono ?_
  rintro e w1 ⟨k, hk0, rfl, hC1, hg1⟩
  have hk := Lib.hid hk0
  have s1 := hg1.size
  rw [sa.out] at s1
  have k1 := (hg1.block w.heap.size (by rw [sa.out]; omega) (fun e => by simp only [Option.some.injEq] at e; omega)).trans g0.out
  have da := (Below.refl w1.heap.size w1).alloc (Nat.le_refl _) (.cells #[.string (txt k.n), .string (txt k.v), .string (txt k.d), .bool k.o, .string (txt k.p), .int .i64 k.u] 26)
  have hCb := Lib.hid (hC1.below da)
  have KB := Lib.hid ((da.block w.heap.size (by omega)).trans k1)
  have QB := Lib.hid (heap_alloc_new w1 (.cells #[.string (txt k.n), .string (txt k.v), .string (txt k.d), .bool k.o, .string (txt k.p), .int .i64 k.u] 26))
  have SB := Lib.hid (show (w1.alloc (.cells #[.string (txt k.n), .string (txt k.v), .string (txt k.d), .bool k.o, .string (txt k.p), .int .i64 k.u] 26)).heap.size = w1.heap.size + 1 by simp)
  have HG1 := Lib.hid (grown_trans (grown_trans ga.out hg1) (World.grownBy_alloc w1 (.cells #[.string (txt k.n), .string (txt k.v), .string (txt k.d), .bool k.o, .string (txt k.p), .int .i64 k.u] 26) (some g)))
  have BE := below_any B g av n c 10 _ hCb.out (by omega) (by omega)
  have HBE := Lib.hid BE
  clear hk0 hC1 hg1 k1 da BE
  unfold ckV
  go_wp2_with fail
  refine HBE.out.mono ?_
  rintro e w2 ⟨r, rfl, r0', r1', hC2, hg2⟩
  have s2 := hg2.size
  rw [SB.out] at s2
  have K2 := Lib.hid ((hg2.block w.heap.size (by rw [SB.out]; omega) (fun e => by simp only [Option.some.injEq] at e; omega)).trans KB.out)
  have Q2 := Lib.hid ((hg2.block w1.heap.size (by rw [SB.out]; omega) (fun e => by simp only [Option.some.injEq] at e; omega)).trans QB.out)
  have HG2 := Lib.hid (grown_trans HG1.out hg2)
  clear hg2

  by_cases r0 : r = 0
  · subst r0
    go_wp2_with fail
    refine (pick_lit B g av n c anyNames _ _ rfl hC2 (by decide) (by decide)).mono ?_
    rintro e w3 ⟨y, hy, rfl, hC3, hg3⟩
    have s3 := hg3.size
    have k3 := (hg3.block w.heap.size (by omega) (fun e => by simp only [Option.some.injEq] at e; omega)).trans K2.out
    have q3 := (hg3.block w1.heap.size (by omega) (fun e => by simp only [Option.some.injEq] at e; omega)).trans Q2.out
    have HG3 := grown_trans HG2.out hg3
    have gS := box_grown w3 w1.heap.size 0 (.string (txt y)) (by omega)
    have sS : (w3.setCell ⟨w1.heap.size, 0, none⟩ (.string (txt y))).heap.size = w3.heap.size := by simp
    have k4 := (Below.heap_setCell w3 ⟨w1.heap.size, 0, none⟩ (.string (txt y)) w.heap.size (by show w.heap.size ≠ w1.heap.size; omega)).trans k3
    have hC4 := hC3.other gS (fun j e => by simp only [Option.some.injEq] at e; omega)
    have HG4 := grown_new HG3 gS (fun j e => by simp only [Option.some.injEq] at e; omega)
    have hSm := Lib.hid (show SmallK ⟨y, k.v, k.d, k.o, k.p, k.u⟩ from ⟨anyNames_len _ hy, hk.out.2.1, hk.out.2.2.1, hk.out.2.2.2.1, hk.out.2.2.2.2.1, hk.out.2.2.2.2.2⟩)
    have GR := Lib.hid (set6_grown (w3.setCell ⟨w1.heap.size, 0, none⟩ (.string (txt y))) w.heap.size (.string (txt y)) (.string (txt k.v)) (.string (txt k.d)) (.bool k.o) (.string (txt k.p)) (.int .i64 k.u) (by rw [sS]; omega))
    have K4 := Lib.hid k4
    have HC := Lib.hid (hC4.other GR.out (fun j e => by simp only [Option.some.injEq] at e; omega))
    have HGF := Lib.hid (grown_new HG4 GR.out (fun j e => by simp only [Option.some.injEq] at e; omega))
    obtain ⟨x0, x1, x2, x3, x4, x5, f0, f1, f2, f3, f4, f5⟩ := box6 k3
    obtain ⟨y0, y1, y2, y3, y4, y5, q0, q1, q2, q3', q4, q5⟩ := box6 q3
    clear hC2 hC3 hC4 hg3 HG3 HG4 gS k3 q3 k4 hy
    go_wp2
    refine bodyPost_ret (v := .agg #[.string (txt y), .string (txt k.v), .string (txt k.d), .bool k.o, .string (txt k.p), .int .i64 k.u]) ?_ rfl ⟨⟨y, k.v, k.d, k.o, k.p, k.u⟩, hSm.out, rfl, HC.out, HGF.out⟩
    rw [results_cell_one rfl]
    have hld := ck_load K4.out (.string (txt y)) (.string (txt k.v)) (.string (txt k.d)) (.bool k.o) (.string (txt k.p)) (.int .i64 k.u)
    unfold set6 at hld
    simp [asAddr, Result.andThen, hld]

  by_cases r1 : r = 1
  · subst r1
    go_wp2_with fail
    refine (pick_lit B g av n c anyVals _ _ rfl hC2 (by decide) (by decide)).mono ?_
    rintro e w3 ⟨y, hy, rfl, hC3, hg3⟩
    have s3 := hg3.size
    have k3 := (hg3.block w.heap.size (by omega) (fun e => by simp only [Option.some.injEq] at e; omega)).trans K2.out
    have q3 := (hg3.block w1.heap.size (by omega) (fun e => by simp only [Option.some.injEq] at e; omega)).trans Q2.out
    have HG3 := grown_trans HG2.out hg3
    have gS := box_grown w3 w1.heap.size 1 (.string (txt y)) (by omega)
    have sS : (w3.setCell ⟨w1.heap.size, 1, none⟩ (.string (txt y))).heap.size = w3.heap.size := by simp
    have k4 := (Below.heap_setCell w3 ⟨w1.heap.size, 1, none⟩ (.string (txt y)) w.heap.size (by show w.heap.size ≠ w1.heap.size; omega)).trans k3
    have hC4 := hC3.other gS (fun j e => by simp only [Option.some.injEq] at e; omega)
    have HG4 := grown_new HG3 gS (fun j e => by simp only [Option.some.injEq] at e; omega)
    have hSm := Lib.hid (show SmallK ⟨k.n, y, k.d, k.o, k.p, k.u⟩ from ⟨hk.out.1, anyVals_len _ hy, hk.out.2.2.1, hk.out.2.2.2.1, hk.out.2.2.2.2.1, hk.out.2.2.2.2.2⟩)
    have GR := Lib.hid (set6_grown (w3.setCell ⟨w1.heap.size, 1, none⟩ (.string (txt y))) w.heap.size (.string (txt k.n)) (.string (txt y)) (.string (txt k.d)) (.bool k.o) (.string (txt k.p)) (.int .i64 k.u) (by rw [sS]; omega))
    have K4 := Lib.hid k4
    have HC := Lib.hid (hC4.other GR.out (fun j e => by simp only [Option.some.injEq] at e; omega))
    have HGF := Lib.hid (grown_new HG4 GR.out (fun j e => by simp only [Option.some.injEq] at e; omega))
    obtain ⟨x0, x1, x2, x3, x4, x5, f0, f1, f2, f3, f4, f5⟩ := box6 k3
    obtain ⟨y0, y1, y2, y3, y4, y5, q0, q1, q2, q3', q4, q5⟩ := box6 q3
    clear hC2 hC3 hC4 hg3 HG3 HG4 gS k3 q3 k4 hy
    go_wp2
    refine bodyPost_ret (v := .agg #[.string (txt k.n), .string (txt y), .string (txt k.d), .bool k.o, .string (txt k.p), .int .i64 k.u]) ?_ rfl ⟨⟨k.n, y, k.d, k.o, k.p, k.u⟩, hSm.out, rfl, HC.out, HGF.out⟩
    rw [results_cell_one rfl]
    have hld := ck_load K4.out (.string (txt k.n)) (.string (txt y)) (.string (txt k.d)) (.bool k.o) (.string (txt k.p)) (.int .i64 k.u)
    unfold set6 at hld
    simp [asAddr, Result.andThen, hld]

  by_cases r2 : r = 2
  · subst r2
    go_wp2_with fail
    refine (pick_lit B g av n c anyDoms _ _ rfl hC2 (by decide) (by decide)).mono ?_
    rintro e w3 ⟨y, hy, rfl, hC3, hg3⟩
    have s3 := hg3.size
    have k3 := (hg3.block w.heap.size (by omega) (fun e => by simp only [Option.some.injEq] at e; omega)).trans K2.out
    have q3 := (hg3.block w1.heap.size (by omega) (fun e => by simp only [Option.some.injEq] at e; omega)).trans Q2.out
    have HG3 := grown_trans HG2.out hg3
    have gS := box_grown w3 w1.heap.size 2 (.string (txt y)) (by omega)
    have sS : (w3.setCell ⟨w1.heap.size, 2, none⟩ (.string (txt y))).heap.size = w3.heap.size := by simp
    have k4 := (Below.heap_setCell w3 ⟨w1.heap.size, 2, none⟩ (.string (txt y)) w.heap.size (by show w.heap.size ≠ w1.heap.size; omega)).trans k3
    have hC4 := hC3.other gS (fun j e => by simp only [Option.some.injEq] at e; omega)
    have HG4 := grown_new HG3 gS (fun j e => by simp only [Option.some.injEq] at e; omega)
    have hSm := Lib.hid (show SmallK ⟨k.n, k.v, y, k.o, k.p, k.u⟩ from ⟨hk.out.1, hk.out.2.1, anyDoms_len _ hy, hk.out.2.2.2.1, hk.out.2.2.2.2.1, hk.out.2.2.2.2.2⟩)
    have GR := Lib.hid (set6_grown (w3.setCell ⟨w1.heap.size, 2, none⟩ (.string (txt y))) w.heap.size (.string (txt k.n)) (.string (txt k.v)) (.string (txt y)) (.bool k.o) (.string (txt k.p)) (.int .i64 k.u) (by rw [sS]; omega))
    have K4 := Lib.hid k4
    have HC := Lib.hid (hC4.other GR.out (fun j e => by simp only [Option.some.injEq] at e; omega))
    have HGF := Lib.hid (grown_new HG4 GR.out (fun j e => by simp only [Option.some.injEq] at e; omega))
    obtain ⟨x0, x1, x2, x3, x4, x5, f0, f1, f2, f3, f4, f5⟩ := box6 k3
    obtain ⟨y0, y1, y2, y3, y4, y5, q0, q1, q2, q3', q4, q5⟩ := box6 q3
    clear hC2 hC3 hC4 hg3 HG3 HG4 gS k3 q3 k4 hy
    go_wp2
    refine bodyPost_ret (v := .agg #[.string (txt k.n), .string (txt k.v), .string (txt y), .bool k.o, .string (txt k.p), .int .i64 k.u]) ?_ rfl ⟨⟨k.n, k.v, y, k.o, k.p, k.u⟩, hSm.out, rfl, HC.out, HGF.out⟩
    rw [results_cell_one rfl]
    have hld := ck_load K4.out (.string (txt k.n)) (.string (txt k.v)) (.string (txt y)) (.bool k.o) (.string (txt k.p)) (.int .i64 k.u)
    unfold set6 at hld
    simp [asAddr, Result.andThen, hld]

  by_cases r3 : r = 3
  · subst r3
    go_wp2_with fail
    refine (pickint_lit B g av n c anyUs _ _ rfl hC2 (by decide) (by decide)).mono ?_
    rintro e w3 ⟨y, hy, rfl, hC3, hg3⟩
    have s3 := hg3.size
    have k3 := (hg3.block w.heap.size (by omega) (fun e => by simp only [Option.some.injEq] at e; omega)).trans K2.out
    have q3 := (hg3.block w1.heap.size (by omega) (fun e => by simp only [Option.some.injEq] at e; omega)).trans Q2.out
    have HG3 := grown_trans HG2.out hg3
    have gS := box_grown w3 w1.heap.size 5 (.int .i64 y) (by omega)
    have sS : (w3.setCell ⟨w1.heap.size, 5, none⟩ (.int .i64 y)).heap.size = w3.heap.size := by simp
    have k4 := (Below.heap_setCell w3 ⟨w1.heap.size, 5, none⟩ (.int .i64 y) w.heap.size (by show w.heap.size ≠ w1.heap.size; omega)).trans k3
    have hC4 := hC3.other gS (fun j e => by simp only [Option.some.injEq] at e; omega)
    have HG4 := grown_new HG3 gS (fun j e => by simp only [Option.some.injEq] at e; omega)
    have hSm := Lib.hid (show SmallK ⟨k.n, k.v, k.d, k.o, k.p, y⟩ from ⟨hk.out.1, hk.out.2.1, hk.out.2.2.1, hk.out.2.2.2.1, (anyUs_in _ hy).1, (anyUs_in _ hy).2⟩)
    have GR := Lib.hid (set6_grown (w3.setCell ⟨w1.heap.size, 5, none⟩ (.int .i64 y)) w.heap.size (.string (txt k.n)) (.string (txt k.v)) (.string (txt k.d)) (.bool k.o) (.string (txt k.p)) (.int .i64 y) (by rw [sS]; omega))
    have K4 := Lib.hid k4
    have HC := Lib.hid (hC4.other GR.out (fun j e => by simp only [Option.some.injEq] at e; omega))
    have HGF := Lib.hid (grown_new HG4 GR.out (fun j e => by simp only [Option.some.injEq] at e; omega))
    obtain ⟨x0, x1, x2, x3, x4, x5, f0, f1, f2, f3, f4, f5⟩ := box6 k3
    obtain ⟨y0, y1, y2, y3, y4, y5, q0, q1, q2, q3', q4, q5⟩ := box6 q3
    clear hC2 hC3 hC4 hg3 HG3 HG4 gS k3 q3 k4 hy
    go_wp2
    refine bodyPost_ret (v := .agg #[.string (txt k.n), .string (txt k.v), .string (txt k.d), .bool k.o, .string (txt k.p), .int .i64 y]) ?_ rfl ⟨⟨k.n, k.v, k.d, k.o, k.p, y⟩, hSm.out, rfl, HC.out, HGF.out⟩
    rw [results_cell_one rfl]
    have hld := ck_load K4.out (.string (txt k.n)) (.string (txt k.v)) (.string (txt k.d)) (.bool k.o) (.string (txt k.p)) (.int .i64 y)
    unfold set6 at hld
    simp [asAddr, Result.andThen, hld]

  have GR := Lib.hid (set6_grown w2 w.heap.size (.string (txt k.n)) (.string (txt k.v)) (.string (txt k.d)) (.bool k.o) (.string (txt k.p)) (.int .i64 k.u) (by omega))
  have HC := Lib.hid (hC2.other GR.out (fun j e => by simp only [Option.some.injEq] at e; omega))
  have HGF := Lib.hid (grown_new HG2.out GR.out (fun j e => by simp only [Option.some.injEq] at e; omega))
  obtain ⟨x0, x1, x2, x3, x4, x5, f0, f1, f2, f3, f4, f5⟩ := box6 K2.out
  obtain ⟨y0, y1, y2, y3, y4, y5, q0, q1, q2, q3', q4, q5⟩ := box6 Q2.out
  clear hC2
  go_wp2
  refine bodyPost_ret (v := .agg #[.string (txt k.n), .string (txt k.v), .string (txt k.d), .bool k.o, .string (txt k.p), .int .i64 k.u]) ?_ rfl ⟨k, hk.out, rfl, HC.out, HGF.out⟩
  rw [results_cell_one rfl]
  have hld := ck_load K2.out (.string (txt k.n)) (.string (txt k.v)) (.string (txt k.d)) (.bool k.o) (.string (txt k.p)) (.int .i64 k.u)
  unfold set6 at hld
  simp [asAddr, Result.andThen, hld]

theorem keepL_mem {l : List CkL} {c x : CkL} {now : Int} (h : x ∈ keepL l c now) : x ∈ l ∨ x = c := by
  unfold keepL at h
  split at h
  · split at h
    · exact raw_mem ((List.drop_sublist _ _).subset h)
    · exact .inl h
  · cases h

theorem keepL_len2 (l : List CkL) (c : CkL) (now : Int) : (keepL l c now).length ≤ l.length + 1 := by
  unfold keepL
  split
  · split
    · unfold keepV
      rw [List.length_drop]
      have := raw_len l c now
      omega
    · omega
  · simp

set_option maxRecDepth 100000 in
set_option maxHeartbeats 3200000 in
theorem l07Make_call (B g : Nat) (av : Option Addr) (n c : Nat) (w : World) (hC : CurE w B g av n c) :
    Calls Try.prog 49 #[.pointer (some ⟨g, 0, none⟩)] w fun e w' => ∃ (L : List CkL) (v : Value), L.length ≤ 6 ∧ (∀ x ∈ L, SmallK x) ∧ e = .returned v ∧ w'.ownsRow w.heap.size 26 6 v L.length (L.flatMap cc6) ∧ CurE w' B g av n c ∧ w.grownBy w' (some g) := by
  have hgw := hC.lt
  go_enter Try.func49, Try.ntmps49
  go_wp2_with fail
  refine (below_any B g av n c 6 _ (hC.below ((Below.refl _ w).alloc (Nat.le_refl _) _)) (by omega) (by omega)).mono ?_
  rintro e w1 ⟨r, rfl, r0, r1, hC1, hg1⟩
  obtain ⟨r, rfl⟩ := Int.eq_ofNat_of_zero_le r0
  go_wp2
  go_loopw [3, 5] (fun v i wr => ∃ (k : Nat) (L : List CkL), k ≤ r ∧ i = .int .i64 k ∧ Hid (L.length ≤ k) ∧ Hid (∀ x ∈ L, SmallK x) ∧ wr.ownsRow w.heap.size 26 6 v L.length (L.flatMap cc6) ∧ CurE wr B g av n c ∧ w.grownBy wr (some g)) (fun _ i _ => r - (intOf i).toNat)
  case atStart =>
    have hga := grown_trans (World.grownBy_alloc w (.cells #[] 26) (some g)) hg1
    have hm : (w.alloc (.cells #[] 26)).ownsRow w.heap.size 26 6 (.slice (some ⟨w.heap.size, 0, none⟩) 0 0) 0 [] := World.ownsRow_made w #[] 0 (Nat.le_refl _) (by simp) rfl
    exact ⟨0, [], by omega, rfl, Lib.hid (Nat.le_refl _), Lib.hid (fun p hp => by cases hp), hm.kept hg1 (.inr (by intro e; simp [Value.ownBlock] at e; omega)), hC1, hga⟩
  case round =>
    obtain ⟨k, L, hk, rfl, hl, hs, hown, hCr, hgr⟩ := hrel
    have hsz := hgr.size
    by_cases hlt : k < r
    · go_wp2_with fail
      refine (l06Make_call B g av n c _ hCr).mono ?_
      rintro e w2 ⟨x, hx, rfl, hC2, hg2⟩
      have hne : u3.ownBlock = none ∨ u3.ownBlock ≠ some g := by
        cases hb : u3.ownBlock with
        | none => exact .inl rfl
        | some j => right; intro e; have := (hown.lt j hb).1; injection e; omega
      have hown2 := hown.kept hg2 hne
      have hgr2 := grown_trans hgr hg2
      have hs2 := hgr2.size
      have hl6 : L.length ≤ 6 := by have := hl.out; omega
      have HS := Lib.hid (show ∀ y ∈ keepL L x 50, SmallK y from fun y hy => by
        rcases keepL_mem hy with h | h
        · exact hs.out y h
        · rw [h]; exact hx)
      have HL := Lib.hid (show (keepL L x 50).length ≤ k + 1 by have := keepL_len2 L x 50; have := hl.out; omega)
      have KP := Lib.hid (fun wx hj => keep_specR u3 L x 50 wx hj (by omega) (fun y hy => smallK_S (hs.out y hy)) (smallK_S hx) (by omega))
      generalize keepL L x 50 = L' at HS HL KP
      unfold ckV at KP ⊢
      clear hx
      go_wp2_with fail
      refine (KP.out _ (OwnC.of hown2).src).mono ?_
      rintro e w3 ⟨v3, rfl, o3, b3⟩
      have hC3 := hC2.below b3
      have hgr3 := grown_trans hgr2 (grown_below b3 _)
      go_wp2
      go_roundw
      case rel => exact ⟨k + 1, L', by omega, by go_num, HL, HS, Grid.own_lower o3 hs2, hC3, hgr3⟩
      case measure => simp [intOf]; omega
    · go_wp2
      go_ret
      exact ⟨L, _, by have := hl.out; omega, hs.out, rfl, hown, hCr, hgr⟩

/-- how long a row is -/
def lenOf : Value → Nat
  | .slice _ n _ => n
  | _ => 0

set_option maxRecDepth 100000 in
set_option maxHeartbeats 6400000 in
theorem l07Any_call (B g : Nat) (av : Option Addr) (n c : Nat) (w : World) (hC : CurE w B g av n c) :
    Calls Try.prog 25 #[.pointer (some ⟨g, 0, none⟩)] w fun e w' => ∃ (L : List CkL) (v : Value), L.length ≤ 41 ∧ (∀ x ∈ L, SmallK x) ∧ e = .returned v ∧ w'.ownsRow w.heap.size 26 6 v L.length (L.flatMap cc6) ∧ CurE w' B g av n c ∧ w.grownBy w' (some g) := by
  obtain ⟨i0, hi, hz0, hz1, hz2⟩ := info_parts info_cookie
  have hgw := hC.lt
  go_enter Try.func25, Try.ntmps25
  go_wp2_with fail
  refine (l07Make_call B g av n c _ hC).mono ?_
  rintro e w1 ⟨L, v, hl, hS, rfl, ho, hC1, hg1⟩
  have HS := Lib.hid hS
  go_wp2_with fail
  refine (below_any B g av n c 12 _ hC1 (by omega) (by omega)).mono ?_
  rintro e w2 ⟨r, rfl, r0', r1', hC2, hg2⟩
  have hne : v.ownBlock = none ∨ v.ownBlock ≠ some g := by
    cases hb : v.ownBlock with
    | none => exact .inl rfl
    | some j => right; intro e; have := (ho.lt j hb).1; injection e; omega
  have ho2 := ho.kept hg2 hne
  have HG2 := grown_trans hg1 hg2
  have hs2 := HG2.size
  obtain ⟨a1, cap1, rfl⟩ := Grid.own_val ho
  clear hS hC1 hg1 hg2 ho hC
  by_cases r0 : r = 0
  · subst r0
    go_wp2_with fail
    refine (l06Any_call B g av n c _ hC2).mono ?_
    rintro e w3 ⟨x, hx, rfl, hC3, hg3⟩
    have ho3 := ho2.kept hg3 hne
    have HG3 := grown_trans HG2 hg3
    have hs3 := HG3.size
    have hlo : ∀ j, (Value.slice a1 L.length cap1).ownBlock = some j → w.heap.size ≤ j := fun j e => (ho3.lt j e).1
    have HSx := Lib.hid (show ∀ y ∈ L ++ [x], SmallK y from fun y hy => by
      rcases List.mem_append.1 hy with h | h
      · exact HS.out y h
      · have : y = x := by simpa using h
        rw [this]; exact hx)
    unfold ckV
    clear hx hC2 hg3 ho2 HG2
    go_wp2_with (at_builtin; refine wpList_append_lies _ rfl _ _ _ rfl w.heap.size 26 i0 _ 6 80 Try.underlying24 hi hz0 hz1 hz2 rfl (by omega) _ L.length _ rfl (ho3.alloc _) ⟨w3.heap.size, 0, none⟩ 1 1 [.string (txt x.n), .string (txt x.v), .string (txt x.d), .bool x.o, .string (txt x.p), .int .i64 x.u] rfl rfl (World.news_of_block (cs := #[.string (txt x.n), .string (txt x.v), .string (txt x.d), .bool x.o, .string (txt x.p), .int .i64 x.u]) (t := 26) (fr := (0, 0)) (heap_alloc_new w3 _)) (by simp [Value.oneCell']) (by omega) (by unfold maxLen; omega) (by omega) (by simp; omega) (w3.heap.size + 1) (by simp) ?_; intro gg cap5 w5 hown5 hgrow hat hlt2)
    go_ret
    exact ⟨L ++ [x], _, by rw [List.length_append, List.length_singleton]; omega, HSx.out, rfl, by rw [← flat_snoc, List.length_append]; exact hown5, (hC3.below ((Below.refl _ w3).alloc (Nat.le_refl _) _)).other hgrow (fun j e => by have := hlo j e; omega), grown_new HG3 (grown_trans (World.grownBy_alloc w3 _ _) hgrow) (fun j e => hlo j e)⟩
  by_cases r1 : r = 1
  · subst r1
    have hC2a := hC2.below ((Below.refl _ w2).alloc (Nat.le_refl _) (.cells #[] 26))
    have HGa := grown_trans HG2 (World.grownBy_alloc w2 (.cells #[] 26) (some g))
    have hm := World.ownsRow_made w2 #[] 0 (Nat.le_refl _) (by simp) rfl (e := 26) (size := 6)
    have HM := Lib.hid (Grid.own_lower hm hs2)
    clear hm ho2
    go_wp2
    go_loopw [3] (fun v wr => ∃ (L : List CkL), L.length ≤ 41 ∧ lenOf v = L.length ∧ Hid (∀ x ∈ L, SmallK x) ∧ wr.ownsRow w.heap.size 26 6 v L.length (L.flatMap cc6) ∧ CurE wr B g av n c ∧ w.grownBy wr (some g)) (fun v _ => 42 - lenOf v)
    case atStart => exact ⟨[], by simp, rfl, Lib.hid (fun x hx => by cases hx), HM.out, hC2a, HGa⟩
    case round =>
      obtain ⟨L, hl, hlv, hs, hown, hCr, hgr⟩ := hrel
      have hsz := hgr.size
      obtain ⟨a9, cap9, rfl⟩ := Grid.own_val hown
      have hne : (Value.slice a9 L.length cap9).ownBlock = none ∨ (Value.slice a9 L.length cap9).ownBlock ≠ some g := by
        cases hb : (Value.slice a9 L.length cap9).ownBlock with
        | none => exact .inl rfl
        | some j => right; intro e; have := (hown.lt j hb).1; injection e; omega
      have HNE := Lib.hid hne
      clear hne
      go_wp2_with fail
      refine (below_any B g av n c 3 _ hCr (by omega) (by omega)).mono ?_
      rintro e w3 ⟨q, rfl, q0, q1, hC3, hg3⟩
      have ho3 := hown.kept hg3 HNE.out
      have HG3 := grown_trans hgr hg3
      have hs3 := HG3.size
      clear hCr hgr hg3 hown
      by_cases hlt : (L.length : Int) < 39 + q
      · have hd20 : (Lib.decDigits L.length).length ≤ 20 := by
          rw [Lib.decDigits_length]
          exact Lib.nDigits_le20 L.length (by omega)
        have DT := Lib.hid (fun wx => dec_nat L.length wx (by omega))
        have hSx := Lib.hid (show ∀ y ∈ L ++ [(⟨[110] ++ Lib.decDigits L.length, [], [111, 110, 101, 46, 101, 120, 97, 109, 112, 108, 101], false, [47], -1⟩ : CkL)], SmallK y from fun y hy => by
          rcases List.mem_append.1 hy with h | h
          · exact hs.out y h
          · have : y = ⟨[110] ++ Lib.decDigits L.length, [], [111, 110, 101, 46, 101, 120, 97, 109, 112, 108, 101], false, [47], -1⟩ := by simpa using h
            rw [this]
            exact ⟨by simp; omega, by simp, by simp, by simp, (by show (-2 : Int) ≤ -1; decide), (by show (-1 : Int) ≤ 1000000000000; decide)⟩)
        have hadd := add_txt (P := Try.prog) [110] (Lib.decDigits L.length) (by simp; omega)
        have hs1 : ({ data := #[110] } : ByteArray) = txt [110] := rfl
        generalize Lib.decDigits L.length = dd at hd20 DT hSx hadd
        have hlo : ∀ j, (Value.slice a9 L.length cap9).ownBlock = some j → w.heap.size ≤ j := fun j e => (ho3.lt j e).1
        have hl40 : L.length ≤ 40 := by omega
        go_wp2_with fail
        refine (DT.out _).mono ?_
        rintro e w4 ⟨rfl, b4⟩
        have ho4 := ownsRow_below ho3 b4
        have hC4 := hC3.below b4
        have HG4 := grown_trans HG3 (grown_below b4 _)
        have hs4 := HG4.size
        clear ho3 hC3 HG3 b4
        go_wp2_with (at_builtin; refine wpList_append_lies _ rfl _ _ _ rfl w.heap.size 26 i0 _ 6 80 Try.underlying24 hi hz0 hz1 hz2 rfl (by omega) _ L.length _ rfl (ho4.alloc _) ⟨w4.heap.size, 0, none⟩ 1 1 [.string (txt ([110] ++ dd)), .string ⟨#[]⟩, .string ⟨#[111, 110, 101, 46, 101, 120, 97, 109, 112, 108, 101]⟩, .bool false, .string ⟨#[47]⟩, .int .i64 (-1)] rfl rfl (World.news_of_block (cs := #[.string (txt ([110] ++ dd)), .string ⟨#[]⟩, .string ⟨#[111, 110, 101, 46, 101, 120, 97, 109, 112, 108, 101]⟩, .bool false, .string ⟨#[47]⟩, .int .i64 (-1)]) (t := 26) (fr := (0, 0)) (heap_alloc_new w4 _)) (by simp [Value.oneCell']) (by omega) (by unfold maxLen; omega) (by omega) (by simp; omega) (w4.heap.size + 1) (by simp) ?_; intro gg cap5 w5 hown5 hgrow hat hlt2)
        have hf := flat_snoc L ⟨[110] ++ dd, [], [111, 110, 101, 46, 101, 120, 97, 109, 112, 108, 101], false, [47], -1⟩
        go_roundw
        case rel => exact ⟨L ++ [⟨[110] ++ dd, [], [111, 110, 101, 46, 101, 120, 97, 109, 112, 108, 101], false, [47], -1⟩], by rw [List.length_append, List.length_singleton]; omega, by rw [List.length_append]; rfl, hSx, by rw [← hf, List.length_append]; exact hown5, (hC4.below ((Below.refl _ w4).alloc (Nat.le_refl _) _)).other hgrow (fun j e => by have := hlo j e; omega), grown_new HG4 (grown_trans (World.grownBy_alloc w4 _ _) hgrow) (fun j e => hlo j e)⟩
        case measure => simp [lenOf]; omega
      · go_wp2
        go_ret
        exact ⟨L, _, hl, hs.out, rfl, ho3, hC3, HG3⟩
  · go_wp2
    go_ret
    exact ⟨L, _, by omega, HS.out, rfl, ho2, hC2, HG2⟩

def keepNows : List Int := [50, 100, 150, 250]

/-- what holds inside DrawKeep's last region -/
def DK (w : World) (B g q : Nat) (av : Option Addr) (n c : Nat) (L : List CkL) (vj : Value) (k : CkL) (b : Nat → Bool) (t : Nat → Value) (w' : World) : Prop :=
  Below w.heap.size w w' ∧ (b 4 = false → CurE w' B g av n c) ∧ w'.heap[q]? = some (.cells #[.string (txt k.n), .string (txt k.v), .string (txt k.d), .bool k.o, .string (txt k.p), .int .i64 k.u] 26 (0, 0)) ∧ q < w'.heap.size ∧
  w'.ownsRow (w.heap.size + 2) 26 6 vj L.length (L.flatMap cc6) ∧
  (t 3 = .pointer (some ⟨w.heap.size, 0, none⟩) ∧ t 5 = .pointer (some ⟨g, 0, none⟩) ∧ t 6 = vj ∧ t 7 = .pointer (some ⟨q, 0, none⟩)) ∧
  (b 0 = true → t 14 = vj) ∧ (b 1 = true → t 15 = .agg #[.string (txt k.n), .string (txt k.v), .string (txt k.d), .bool k.o, .string (txt k.p), .int .i64 k.u]) ∧ (b 2 = true → t 16 = .pointer (some ⟨g, 0, none⟩)) ∧
  (b 3 = true → b 4 = false → ∃ vl, t 17 = vl ∧ w'.ownsRow (q + 1) 3 1 vl 4 (ints keepNows)) ∧
  (b 4 = true → ∃ x, x ∈ keepNows ∧ t 18 = .int .i64 x ∧ (b 7 = true → t 4 = .int .i64 x)) ∧
  (b 5 = true → t 2 = vj) ∧
  (b 6 = false → ∃ a0 a1 a2 a3 a4 a5 : Value, w'.heap[w.heap.size]? = some (.cells #[a0, a1, a2, a3, a4, a5] 26 (0, 0))) ∧
  (b 6 = true → w'.heap[w.heap.size]? = some (.cells #[.string (txt k.n), .string (txt k.v), .string (txt k.d), .bool k.o, .string (txt k.p), .int .i64 k.u] 26 (0, 0))) ∧ (b 6 = true → b 4 = true) ∧ ((b 7 = true ∨ b 5 = true) → b 4 = true)

theorem own_heapC {w w' : World} {b : Nat} {e : TypeId} {size : Nat} {v : Value} {n : Nat} {xs : List Value} (h : w.ownsRow b e size v n xs) (hk : ∀ j, v.ownBlock = some j → w'.heap[j]? = w.heap[j]?) : w'.ownsRow b e size v n xs := by
  rcases h.2 with ⟨rfl, rfl⟩ | ⟨g, cap, cur, rfl, hb, hh, hrest⟩
  · exact ⟨h.1, .inl ⟨rfl, rfl⟩⟩
  · exact ⟨h.1, .inr ⟨g, cap, cur, rfl, hb, (hk g rfl).trans hh, hrest⟩⟩

theorem res_tct {fn : Func} {p q u : Tmp} {ty : TypeId} (h : fn.results = #[.tmp p, .cell q ty, .tmp u]) (tmps : Array Value) (P : Program) (w : World) :
    (results fn tmps).run P w = ((asAddr (tmps.getD q undef)).run P w).andThen fun a w₁ => ((loadVar ty a).run P w₁).andThen fun x w₂ => .ok (.tuple #[tmps.getD p undef, x, tmps.getD u undef]) w₂ := by
  simp only [results, h]
  simp [Sem.run_bind, Result.andThen]

set_option maxRecDepth 100000 in
set_option maxHeartbeats 6400000 in
theorem drawKeep_call (B : Nat) (av : Option Addr) (n c : Nat) (w : World) (hcode : CodeIs w B av n) (hn : n ≤ 1048576) (hB : B ≤ w.heap.size) :
    Calls Try.prog 8 #[.slice av n c] w fun e w' => ∃ (L : List CkL) (vj : Value) (k : CkL) (now : Int), L.length ≤ 41 ∧ (∀ x ∈ L, SmallK x) ∧ SmallK k ∧ now ∈ keepNows ∧ e = .returned (.tuple #[vj, ckV k, .int .i64 now]) ∧ w'.ownsRow w.heap.size 26 6 vj L.length (L.flatMap cc6) ∧ Below w.heap.size w w' := by
  have ba := Lib.hid ((Below.refl w.heap.size w).alloc (Nat.le_refl _) (.cells #[.string ⟨#[]⟩, .string ⟨#[]⟩, .string ⟨#[]⟩, .bool false, .string ⟨#[]⟩, .int .i64 0] 26))
  have g0 := Lib.hid (heap_alloc_new w (.cells #[.string ⟨#[]⟩, .string ⟨#[]⟩, .string ⟨#[]⟩, .bool false, .string ⟨#[]⟩, .int .i64 0] 26))
  have sa := Lib.hid (show (w.alloc (.cells #[.string ⟨#[]⟩, .string ⟨#[]⟩, .string ⟨#[]⟩, .bool false, .string ⟨#[]⟩, .int .i64 0] 26)).heap.size = w.heap.size + 1 by simp)
  have P0 := new_call B av n c (w.alloc (.cells #[.string ⟨#[]⟩, .string ⟨#[]⟩, .string ⟨#[]⟩, .bool false, .string ⟨#[]⟩, .int .i64 0] 26)) (hcode.keep fun k hk => ba.out.block k (by omega)) hn (by rw [sa.out]; omega)
  rw [sa.out] at P0
  have HP0 := Lib.hid P0
  clear P0
  go_enter Try.func8, Try.ntmps8
  go_wp2_with fail
  refine HP0.out.mono ?_
  rintro e w1 ⟨h, rfl, hC1, hb1⟩
  have hgl := lt_of_block hC1.box
  have k1 := (hb1.block w.heap.size (by omega)).trans g0.out
  have c1 := ba.out.trans (hb1.mono (by omega))
  have s1 := hb1.size
  go_wp2_with fail
  refine (l07Any_call B (w.heap.size + 1) av n c _ ⟨_, _, hC1⟩).mono ?_
  rintro e w2 ⟨L, vj, hL, hLS, rfl, ho2, hC2, hg2⟩
  have HLS := Lib.hid hLS
  have s2 := hg2.size
  have k2 := (hg2.block w.heap.size (by omega) (fun e => by simp only [Option.some.injEq] at e; omega)).trans k1
  have c2 := c1.grown hg2 (by omega) (fun j e => by simp only [Option.some.injEq] at e; omega)
  have hlo : ∀ j, vj.ownBlock = some j → w.heap.size + 2 ≤ j := fun j e => by have := (ho2.lt j e).1; omega
  have HLO := Lib.hid hlo
  have hne : vj.ownBlock = none ∨ vj.ownBlock ≠ some (w.heap.size + 1) := by
    cases hb : vj.ownBlock with
    | none => exact .inl rfl
    | some j => right; intro e; have := hlo j hb; injection e; omega
  have HNE := Lib.hid hne
  go_wp2_with fail
  refine (l06Any_call B (w.heap.size + 1) av n c _ hC2).mono ?_
  rintro e w3 ⟨k, hk, rfl, hC3, hg3⟩
  have HK := Lib.hid hk
  have s3 := hg3.size
  have k3 := (hg3.block w.heap.size (by omega) (fun e => by simp only [Option.some.injEq] at e; omega)).trans k2
  have c3 := c2.grown hg3 (by omega) (fun j e => by simp only [Option.some.injEq] at e; omega)
  have ho3 := ho2.kept hg3 hne
  have dA := (Below.refl w3.heap.size w3).alloc (Nat.le_refl _) (.cells #[.string (txt k.n), .string (txt k.v), .string (txt k.d), .bool k.o, .string (txt k.p), .int .i64 k.u] 26)
  have hC4 := Lib.hid (hC3.below dA)
  have O4 := Lib.hid (Grid.own_lower (ownsRow_below ho3 dA) (show w.heap.size + 2 ≤ w1.heap.size by omega))
  have K4 := Lib.hid ((dA.block w.heap.size (by omega)).trans k3)
  have Q4 := Lib.hid (heap_alloc_new w3 (.cells #[.string (txt k.n), .string (txt k.v), .string (txt k.d), .bool k.o, .string (txt k.p), .int .i64 k.u] 26))
  have C4 := Lib.hid (c3.trans (dA.mono c3.size))
  have S4 := Lib.hid (show (w3.alloc (.cells #[.string (txt k.n), .string (txt k.v), .string (txt k.d), .bool k.o, .string (txt k.p), .int .i64 k.u] 26)).heap.size = w3.heap.size + 1 by simp)
  have hqw : w.heap.size + 1 < w3.heap.size := by omega
  obtain ⟨aj, cj, rfl⟩ := Grid.own_val ho2
  clear hk hC1 hC2 hC3 hg2 hg3 hb1 k1 k2 k3 c1 c2 c3 dA hgl s1 s2 s3 ho2 ho3 hne hlo hLS
  unfold ckV
  go_wp2
  refine Inv.region_jj 8 19 (DK w B (w.heap.size + 1) w3.heap.size av n c L (.slice aj L.length cj) k) (by kernel_rfl) rfl (by kernel_rfl) ⟨by simp, rfl⟩ ?_ ?_ ?_
  · refine ⟨C4.out.trans ((Below.refl _ _).drew.mono C4.out.size), fun _ => hC4.out.below (Below.refl _ _).drew, Q4.out, by show w3.heap.size < (w3.alloc (.cells #[.string (txt k.n), .string (txt k.v), .string (txt k.d), .bool k.o, .string (txt k.p), .int .i64 k.u] 26)).heap.size; rw [S4.out]; omega, ownsRow_below O4.out (Below.refl _ _).drew, ⟨rfl, rfl, rfl, rfl⟩, ?_, ?_, ?_, ?_, ?_, ?_, fun _ => ⟨_, _, _, _, _, _, K4.out⟩, ?_, ?_, ?_⟩
    all_goals (intro h; first | cases h; done | (rcases h with h | h <;> cases h))
  · intro a b t W hS ht i hi hb hafter K SP SK
    have HS := Lib.hid hS
    have HT := Lib.hid ht
    obtain ⟨hbel, hcur, hq, hqs, hrow, ⟨t3, t5, t6, t7⟩, h14, h15, h16, h17, h18, h2, hz, hy, h64, h74⟩ := hS
    clear ht
    match i, hi, hb, hafter with
    | 0, _, hb, ha0 =>
      clear ha0
      refine Inv.wpOp_at rfl rfl ?_
      have f6 := (HT.out 6).trans t6
      clear hbel hcur hq hrow t3 t5 t6 t7 h14 h15 h16 h17 h18 h2 hz hy h64 h74
      go_simp
      refine SP _ _ _ (by omega) ?_
      obtain ⟨hbel, hcur, hq, hqs, hrow, ht4, h14, h15, h16, h17, h18, h2, hz, hy, h64, h74⟩ := HS.out
      exact ⟨hbel, hcur, hq, hqs, hrow, ht4, fun _ => rfl, h15, h16, h17, h18, h2, hz, hy, h64, h74⟩
    | 1, _, hb, ha0 =>
      clear ha0
      refine Inv.wpOp_at rfl rfl ?_
      have f7 := (HT.out 7).trans t7
      obtain ⟨q0, q1, q2, q3, q4, q5, _⟩ := box6 hq
      clear hbel hcur hq hrow t3 t5 t6 t7 h14 h15 h16 h17 h18 h2 hz hy h64 h74
      go_simp
      refine SP _ _ _ (by omega) ?_
      obtain ⟨hbel, hcur, hq, hqs, hrow, ht4, h14, h15, h16, h17, h18, h2, hz, hy, h64, h74⟩ := HS.out
      exact ⟨hbel, hcur, hq, hqs, hrow, ht4, h14, fun _ => rfl, h16, h17, h18, h2, hz, hy, h64, h74⟩
    | 2, _, hb, ha0 =>
      clear ha0
      refine Inv.wpOp_at rfl rfl ?_
      have f5 := (HT.out 5).trans t5
      clear hbel hcur hq hrow t3 t5 t6 t7 h14 h15 h16 h17 h18 h2 hz hy h64 h74
      go_simp
      refine SP _ _ _ (by omega) ?_
      obtain ⟨hbel, hcur, hq, hqs, hrow, ht4, h14, h15, h16, h17, h18, h2, hz, hy, h64, h74⟩ := HS.out
      exact ⟨hbel, hcur, hq, hqs, hrow, ht4, h14, h15, fun _ => rfl, h17, h18, h2, hz, hy, h64, h74⟩
    | 3, _, hb, ha0 =>
      clear ha0
      refine Inv.wpOp_at rfl rfl ?_
      clear hbel hcur hq hrow t3 t5 t6 t7 h14 h15 h16 h17 h18 h2 hz hy h64 h74
      go_simp
      refine SP _ _ _ (by omega) ?_
      obtain ⟨hbel, hcur, hq, hqs, hrow, ht4, h14, h15, h16, h17, h18, h2, hz, hy, h64, h74⟩ := HS.out
      have hw : w.heap.size < W.heap.size := by omega
      have dB := (Below.refl W.heap.size W).alloc (Nat.le_refl _) (.cells #[.int .i64 50, .int .i64 100, .int .i64 150, .int .i64 250] 3)
      refine ⟨hbel.trans (dB.mono hbel.size), fun h => (hcur h).below dB, (dB.block _ hqs).trans hq, Nat.lt_of_lt_of_le hqs dB.size, ownsRow_below hrow dB, ht4, h14, h15, h16, fun _ _ => ⟨_, rfl, World.ownsRow_lit (base := w3.heap.size + 1) (e := 3) (size := 1) W #[.int .i64 50, .int .i64 100, .int .i64 150, .int .i64 250] 4 hqs (by unfold maxLen; omega) rfl⟩, h18, h2, fun h4 => ?_, fun h4 => (dB.block _ hw).trans (hy h4), h64, h74⟩
      obtain ⟨a0, a1, a2, a3, a4, a5, hk⟩ := hz h4
      exact ⟨a0, a1, a2, a3, a4, a5, (dB.block _ hw).trans hk⟩
    | 4, _, hb, ha0 =>
      have ha := ha0 _ rfl
      clear ha0
      refine Inv.wpOp_at rfl rfl ?_
      simp [Region.binds] at ha
      obtain ⟨vl, e17, how⟩ := h17 ha.2 hb
      have f16 := (HT.out 16).trans (h16 ha.1)
      have f17 := (HT.out 17).trans e17
      have hcb := hcur hb
      clear hbel hcur hq hrow t3 t5 t6 t7 h14 h15 h16 h17 h18 h2 hz hy h64 h74 e17
      go_simp
      refine (pickint_call B (w.heap.size + 1) (w3.heap.size + 1) av n c _ keepNows _ hcb how (by decide) (by decide) (by omega)).mono ?_
      rintro e w4 ⟨x, hx, rfl, hC4', hg4⟩
      refine SP _ _ _ (by omega) ?_
      obtain ⟨hbel, hcur, hq, hqs, hrow, ht4, h14, h15, h16, h17, h18, h2, hz, hy, h64, h74⟩ := HS.out
      refine ⟨hbel.grown hg4 hbel.size (fun j e => by simp only [Option.some.injEq] at e; omega), fun _ => hC4', (hg4.block _ hqs (fun e => by simp only [Option.some.injEq] at e; omega)).trans hq, Nat.lt_of_lt_of_le hqs hg4.size, hrow.kept hg4 HNE.out, ht4, h14, h15, h16, ?_, fun _ => ⟨x, hx, rfl, ?_⟩, h2, fun h4 => ?_, fun h4 => ?_, fun _ => rfl, fun _ => rfl⟩
      · intro _ h
        exact absurd (show true = false from h) (by decide)
      · intro h7
        have h8 := h74 (.inl h7)
        rw [hb] at h8
        cases h8
      · obtain ⟨a0, a1, a2, a3, a4, a5, hk⟩ := hz h4
        exact ⟨a0, a1, a2, a3, a4, a5, (hg4.block _ (by omega) (fun e => by simp only [Option.some.injEq] at e; omega)).trans hk⟩
      · exact (hg4.block _ (by omega) (fun e => by simp only [Option.some.injEq] at e; omega)).trans (hy h4)
    | 5, _, hb, ha0 =>
      have ha := ha0 _ rfl
      clear ha0
      refine Inv.wpOp_at rfl rfl ?_
      simp [Region.binds] at ha
      have f14 := (HT.out 14).trans (h14 (by simp_all))
      have hb4 : b 4 = true := by simp_all
      have H4 := Lib.hid hb4
      clear hb4
      clear hbel hcur hq hrow t3 t5 t6 t7 h14 h15 h16 h17 h18 h2 hz hy h64 h74 ha
      go_simp
      refine SP _ _ _ (by omega) ?_
      obtain ⟨hbel, hcur, hq, hqs, hrow, ht4, h14, h15, h16, h17, h18, h2, hz, hy, h64, h74⟩ := HS.out
      exact ⟨hbel, hcur, hq, hqs, hrow, ht4, h14, h15, h16, h17, h18, fun _ => rfl, hz, hy, h64, fun _ => H4.out⟩
    | 6, _, hb, ha0 =>
      have ha := ha0 _ rfl
      clear ha0
      refine Inv.wpOp_at rfl rfl ?_
      have ha2 := ha
      simp [Region.binds] at ha
      have hb5 : b 5 = true := by simp_all
      have hb4 : b 4 = true := h74 (.inr hb5)
      have f3 := (HT.out 3).trans t3
      have f15 := (HT.out 15).trans (h15 (by simp_all))
      obtain ⟨a0, a1, a2, a3, a4, a5, hk⟩ := hz hb
      obtain ⟨x0, x1, x2, x3, x4, x5, e0, e1, e2, e3, e4, e5⟩ := box6 hk
      have HKK := Lib.hid hk
      have HB4 := Lib.hid hb4
      clear hbel hcur hq hrow t3 t5 t6 t7 h14 h15 h16 h17 h18 h2 hz hy h64 h74 ha ha2 hk hb4 hb5
      go_simp
      refine SK _ ?_
      obtain ⟨hbel, hcur, hq, hqs, hrow, ht4, h14, h15, h16, h17, h18, h2, hz, hy, h64, h74⟩ := HS.out
      have GR := set6_grown W w.heap.size (.string (txt k.n)) (.string (txt k.v)) (.string (txt k.d)) (.bool k.o) (.string (txt k.p)) (.int .i64 k.u) (by omega)
      have hsz := set6_size W w.heap.size (.string (txt k.n)) (.string (txt k.v)) (.string (txt k.d)) (.bool k.o) (.string (txt k.p)) (.int .i64 k.u)
      have R1 := set6_below (b := w.heap.size) hbel (Nat.le_refl _) (.string (txt k.n)) (.string (txt k.v)) (.string (txt k.d)) (.bool k.o) (.string (txt k.p)) (.int .i64 k.u)
      have R3 := (GR.block w3.heap.size hqs (fun e => by simp only [Option.some.injEq] at e; omega)).trans hq
      have R4 := set6_same HKK.out (.string (txt k.n)) (.string (txt k.v)) (.string (txt k.d)) (.bool k.o) (.string (txt k.p)) (.int .i64 k.u)
      have R5 : w3.heap.size < (set6 W w.heap.size (.string (txt k.n)) (.string (txt k.v)) (.string (txt k.d)) (.bool k.o) (.string (txt k.p)) (.int .i64 k.u)).heap.size := by rw [hsz]; exact hqs
      have R6 := own_heapC (w' := set6 W w.heap.size (.string (txt k.n)) (.string (txt k.v)) (.string (txt k.d)) (.bool k.o) (.string (txt k.p)) (.int .i64 k.u)) hrow (fun j e => set6_heap W w.heap.size j (.string (txt k.n)) (.string (txt k.v)) (.string (txt k.d)) (.bool k.o) (.string (txt k.p)) (.int .i64 k.u) (by have := HLO.out j e; omega))
      unfold set6 at R1 R3 R4 R5 R6
      refine ⟨R1, ?_, R3, R5, R6, ht4, h14, h15, h16, ?_, h18, h2, ?_, fun _ => R4, fun _ => HB4.out, h74⟩
      · intro h
        have h' : b 4 = false := h
        rw [HB4.out] at h'
        cases h'
      · intro _ h
        have h' : b 4 = false := h
        rw [HB4.out] at h'
        cases h'
      · intro h
        exact absurd (show true = false from h) (by decide)
    | 7, _, hb, ha0 =>
      have ha := ha0 _ rfl
      clear ha0
      refine Inv.wpOp_at rfl rfl ?_
      simp [Region.binds] at ha
      have hb4 : b 4 = true := by simp_all
      have H4 := Lib.hid hb4
      obtain ⟨x, hx, e18, e4⟩ := h18 hb4
      have f18 := (HT.out 18).trans e18
      clear hbel hcur hq hrow t3 t5 t6 t7 h14 h15 h16 h17 h18 h2 hz hy h64 h74 ha hb4
      go_simp
      refine SP _ _ _ (by omega) ?_
      obtain ⟨hbel, hcur, hq, hqs, hrow, ht4, h14, h15, h16, h17, h18, h2, hz, hy, h64, h74⟩ := HS.out
      exact ⟨hbel, hcur, hq, hqs, hrow, ht4, h14, h15, h16, h17, fun _ => ⟨x, hx, e18, fun _ => rfl⟩, h2, hz, hy, h64, fun _ => H4.out⟩
  · intro a t W b hS hall ht hsz hdf
    rename_i hKK
    obtain ⟨hbel, hcur, hq, hqs, hrow, ht4, h14, h15, h16, h17, h18, h2, hz, hy, h64, h74⟩ := hS
    obtain ⟨x, hx, e18, e4⟩ := h18 (hall 4 (by omega))
    have r4 := (ht 4).trans (e4 (hall 7 (by omega)))
    have r2 := (ht 2).trans (h2 (hall 5 (by omega)))
    have r3 := (ht 3).trans ht4.1
    have hbx := hy (hall 6 (by omega))
    refine hKK _ _ ?_
    refine Go.wp_ret ?_
    refine bodyPost_ret (v := .tuple #[.slice aj L.length cj, .agg #[.string (txt k.n), .string (txt k.v), .string (txt k.d), .bool k.o, .string (txt k.p), .int .i64 k.u], .int .i64 x]) ?_ hdf ⟨L, _, k, x, hL, HLS.out, HK.out, hx, rfl, Grid.own_lower hrow (by omega), hbel⟩
    have r2' : a.tmps.getD 2 undef = .slice aj L.length cj := by rw [Array.getD_eq_getD_getElem?]; exact r2
    have r3' : a.tmps.getD 3 undef = .pointer (some ⟨w.heap.size, 0, none⟩) := by rw [Array.getD_eq_getD_getElem?]; exact r3
    have r4' : a.tmps.getD 4 undef = .int .i64 x := by rw [Array.getD_eq_getD_getElem?]; exact r4
    have hld := run_loadVar_row (P := Try.prog) _ w.heap.size 26 26 #[.string (txt k.n), .string (txt k.v), .string (txt k.d), .bool k.o, .string (txt k.p), .int .i64 k.u] (0, 0) _ hbx Try.underlying26 rfl (by rw [ck_info]; rfl)
    rw [res_tct rfl, r2', r3', r4']
    simp [asAddr, Result.andThen, hld]

end Ck
end Go.Proofs.Ytdgfiebehnfpgaa
