/- CONTRACTS of DrawPutResponse, DrawHead, sameAnswer. -/
import Derived.Test.YtfnignlfelambaaDoorHtE
import Derived.Test.YtfnignlfelambaaDoorSame
import Derived.Test.YtfnignlfelambaaDoorHtH
namespace Go.Proofs.YtfnignlfelambaaDoor
set_option linter.unusedVariables false
set_option maxRecDepth 4000
open Go.ChangeShapes Go.WideShapes Go.ChangeAt Go.RowKit
open Go.ChangeMaps (open_string shut_string)

namespace Ht

def badCodes : List Int := [199, 600]

def headAsk : List (List UInt8) := [[72, 111, 115, 116], [104, 111, 115, 116], [67, 79, 79, 75, 73, 69], [110, 111, 110, 101], []]

theorem headAsk_len : ∀ x ∈ headAsk, x.length ≤ 10 := by decide

theorem headV_low (key : List UInt8) (l : List PairL) : headV (lowL key) l = headV key l := by
  have h2 : lowL (lowL key) = lowL key := by
    unfold lowL
    rw [List.map_map]
    apply List.map_congr_left
    intro c _
    show lowB (lowB c) = lowB c
    unfold lowB
    split
    · rename_i h
      rw [if_neg]
      intro h3
      have e : (c + 32).toNat = c.toNat + 32 := by
        rw [UInt8.toNat_add]
        show (c.toNat + 32) % 256 = _
        omega
      omega
    · rfl
  induction l with
  | nil => rfl
  | cons p r ih =>
    unfold headV
    rw [h2, ih]

set_option maxRecDepth 100000 in
set_option maxHeartbeats 800000 in
theorem drawHead_call (B : Nat) (av : Option Addr) (n c : Nat) (w : World) (hcode : CodeIs w B av n) (hn : n ≤ 1048576) (hB : B ≤ w.heap.size) :
    Calls Tryd.prog 15 #[.slice av n c] w fun e w' => ∃ (L : List PairL) (v : Value) (key : List UInt8), L.length ≤ 3 ∧ (∀ p ∈ L, p.1.length ≤ 6 ∧ p.2.length ≤ 11) ∧ key.length ≤ 10 ∧ e = .returned (.tuple #[v, .string (txt key)]) ∧ PAt w' v L ∧ Below w.heap.size w w' := by
  go_enter Tryd.func15, Tryd.ntmps15
  go_wp2_with fail
  refine (new_call B av n c _ hcode hn hB).mono ?_
  rintro e w1 ⟨h, rfl, hC1, hb1⟩
  have hgl := lt_of_block hC1.box
  go_wp2_with fail
  refine (heads_call B w.heap.size av n c _ ⟨_, _, hC1⟩).mono ?_
  rintro e w2 ⟨L, v, hl, hL, rfl, ho, hC2, hg2⟩
  have hb2 := grown_below_new hb1 hg2
  have hne : v.ownBlock = none ∨ v.ownBlock ≠ some w.heap.size := by
    cases hb : v.ownBlock with
    | none => exact .inl rfl
    | some j => right; intro e; have := (ho.lt j hb).1; injection e; omega
  have HL := Lib.hid (show ∀ p ∈ L, p.1.length ≤ 6 ∧ p.2.length ≤ 11 from fun p hp => ⟨headKeys_len _ (hL p hp).1, headVals_len _ (hL p hp).2⟩)
  clear hL
  go_wp2_with fail
  refine (pick_lit B w.heap.size av n c headAsk _ _ rfl hC2 (by decide) (by decide)).mono ?_
  rintro e w3 ⟨x, hx, rfl, hC3, hg3⟩
  have hxl := headAsk_len x hx
  have ho3 := PAt.own (ho.kept hg3 hne)
  have hb3 := grown_below_new hb2 hg3
  clear hx hne
  go_wp2
  go_ret2
  exact ⟨L, _, x, hl, HL.out, hxl, rfl, ho3, hb3⟩

set_option maxRecDepth 100000 in
set_option maxHeartbeats 3200000 in
theorem drawPutResp_call (B : Nat) (av : Option Addr) (n c : Nat) (w : World) (hcode : CodeIs w B av n) (hn : n ≤ 1048576) (hB : B ≤ w.heap.size) :
    Calls Tryd.prog 10 #[.slice av n c] w fun e w' => ∃ (r : RespL) (vh : Value), SmallA r ∧ e = .returned (respV r vh) ∧ PAt w' vh r.h ∧ Below w.heap.size w w' := by
  have ba := Lib.hid ((Below.refl w.heap.size w).alloc (Nat.le_refl _) (.cells #[.int .i64 0, .slice none 0 0, .string ⟨#[]⟩] 26))
  have g0 := Lib.hid (heap_alloc_new w (.cells #[.int .i64 0, .slice none 0 0, .string ⟨#[]⟩] 26))
  have sa := Lib.hid (show (w.alloc (.cells #[.int .i64 0, .slice none 0 0, .string ⟨#[]⟩] 26)).heap.size = w.heap.size + 1 by simp)
  have P0 := new_call B av n c (w.alloc (.cells #[.int .i64 0, .slice none 0 0, .string ⟨#[]⟩] 26)) (hcode.keep fun k hk => ba.out.block k (by omega)) hn (by rw [sa.out]; omega)
  rw [sa.out] at P0
  have HP0 := Lib.hid P0
  clear P0
  go_enter Tryd.func10, Tryd.ntmps10
  go_wp2_with fail
  refine HP0.out.mono ?_
  rintro e w1 ⟨h, rfl, hC1, hb1⟩
  have hgl := lt_of_block hC1.box
  have k1 := (hb1.block w.heap.size (by omega)).trans g0.out
  have c1 := ba.out.trans (hb1.mono (by omega))
  have s1 := hb1.size
  go_wp2_with fail
  refine (answer_call B (w.heap.size + 1) av n c _ ⟨_, _, hC1⟩).mono ?_
  rintro e w2 ⟨r, vh, hS, rfl, ho, hC2, hg2⟩
  have HS := Lib.hid hS
  have k2 := (hg2.block w.heap.size (by omega) (fun e => by simp only [Option.some.injEq] at e; omega)).trans k1
  have c2 := c1.grown hg2 (by omega) (fun j e => by simp only [Option.some.injEq] at e; omega)
  have s2 := hg2.size
  obtain ⟨rc, rh, rb⟩ := r
  simp only at ho
  obtain ⟨ah, ch, rfl⟩ := own_val2 ho
  simp only [respV]
  have dA := (Below.refl w2.heap.size w2).alloc (Nat.le_refl _) (.cells #[.int .i64 rc, .slice ah rh.length ch, .string (txt rb)] 26)
  have gA := Lib.hid (heap_alloc_new w2 (.cells #[.int .i64 rc, .slice ah rh.length ch, .string (txt rb)] 26))
  have SA := Lib.hid (show (w2.alloc (.cells #[.int .i64 rc, .slice ah rh.length ch, .string (txt rb)] 26)).heap.size = w2.heap.size + 1 by simp)
  have hC3 := hC2.below dA
  have k3 := (dA.block w.heap.size (by omega)).trans k2
  have ho3 := ownsRow_below ho dA
  have c3 := c2.trans (dA.mono c2.size)
  have K3 := Lib.hid k3
  have C3 := Lib.hid c3
  have HO3 := Lib.hid ho3
  have hlo := Lib.hid (own_low ho)
  clear k1 k2 k3 c1 c2 c3 ho ho3 hC1 hC2 hg2 hb1 hS dA
  go_wp2_with fail
  refine (once_call B (w.heap.size + 1) av n c 8 _ hC3 (by omega) (by omega)).mono ?_
  rintro e w4 ⟨b, rfl, hC4, hg4⟩
  have s4 := hg4.size
  rw [SA.out] at s4
  have k4 := (hg4.block w.heap.size (by rw [SA.out]; omega) (fun e => by simp only [Option.some.injEq] at e; omega)).trans K3.out
  have kb4 := (hg4.block w2.heap.size (by rw [SA.out]; omega) (fun e => by simp only [Option.some.injEq] at e; omega)).trans gA.out
  have c4 := C3.out.grown hg4 C3.out.size (fun j e => by simp only [Option.some.injEq] at e; omega)
  have hne : (Value.slice ah rh.length ch).ownBlock = none ∨ (Value.slice ah rh.length ch).ownBlock ≠ some (w.heap.size + 1) := by
    cases hb : (Value.slice ah rh.length ch).ownBlock with
    | none => exact .inl rfl
    | some j => right; intro e; have := (hlo.out j hb).1; injection e; omega
  have ho4 := HO3.out.kept hg4 hne
  cases b with
  | false =>
    obtain ⟨x0, x1, x2, f0, f1, f2⟩ := box3 k4
    obtain ⟨y0, y1, y2, q0, q1, q2⟩ := box3 kb4
    have BB := Lib.hid (set3_below (b := w.heap.size) c4 (Nat.le_refl _) (.int .i64 rc) (.slice ah rh.length ch) (.string (txt rb)))
    have PP := Lib.hid (PAt.own (own_heap ho4 (fun j e => set3_heap w4 w.heap.size j (.int .i64 rc) (.slice ah rh.length ch) (.string (txt rb)) (by have := (hlo.out j e).1; omega))))
    have LD := Lib.hid (run_loadVar_row (P := Tryd.prog) _ w.heap.size 26 26 _ (0, 0) _ (set3_same k4 (.int .i64 rc) (.slice ah rh.length ch) (.string (txt rb))) Tryd.underlying26 rfl (by rw [resp_info]; rfl))
    clear k4 kb4 c4 ho4 hC3 hC4 hg4 hne
    go_wp2
    refine bodyPost_ret (v := .agg #[.int .i64 rc, .slice ah rh.length ch, .string (txt rb)]) ?_ rfl ⟨⟨rc, rh, rb⟩, .slice ah rh.length ch, HS.out, rfl, PP.out, BB.out⟩
    rw [results_cell_one rfl]
    have hld := LD.out
    unfold set3 at hld
    simp [asAddr, Result.andThen, hld]
  | true =>
    have K4 := Lib.hid k4
    have KB4 := Lib.hid kb4
    have C4 := Lib.hid c4
    have HO4 := Lib.hid ho4
    clear k4 kb4 c4 ho4
    go_wp2_with fail
    refine (pickint_lit B (w.heap.size + 1) av n c badCodes _ _ rfl hC4 (by decide) (by decide)).mono ?_
    rintro e w5 ⟨x, hx, rfl, hC5, hg5⟩
    have s5 := hg5.size
    have k5 := (hg5.block w.heap.size (by omega) (fun e => by simp only [Option.some.injEq] at e; omega)).trans K4.out
    have kb5 := (hg5.block w2.heap.size (by omega) (fun e => by simp only [Option.some.injEq] at e; omega)).trans KB4.out
    have c5 := C4.out.grown hg5 C4.out.size (fun j e => by simp only [Option.some.injEq] at e; omega)
    have ho5 := HO4.out.kept hg5 hne
    have k6 := (Below.heap_setCell w5 ⟨w2.heap.size, 0, none⟩ (.int .i64 x) w.heap.size (by show w.heap.size ≠ w2.heap.size; omega)).trans k5
    have c6 := c5.setCell (p := ⟨w2.heap.size, 0, none⟩) (by show w.heap.size ≤ w2.heap.size; omega) (.int .i64 x)
    have BB := Lib.hid (set3_below (b := w.heap.size) c6 (Nat.le_refl _) (.int .i64 x) (.slice ah rh.length ch) (.string (txt rb)))
    have PP := Lib.hid (PAt.own (own_heap ho5 (w' := set3 (w5.setCell ⟨w2.heap.size, 0, none⟩ (.int .i64 x)) w.heap.size (.int .i64 x) (.slice ah rh.length ch) (.string (txt rb))) (fun j e => (set3_heap _ w.heap.size j (.int .i64 x) (.slice ah rh.length ch) (.string (txt rb)) (by have := (hlo.out j e).1; omega)).trans (Below.heap_setCell w5 ⟨w2.heap.size, 0, none⟩ (.int .i64 x) j (by have := (hlo.out j e).2; show j ≠ w2.heap.size; omega)))))
    have LD := Lib.hid (run_loadVar_row (P := Tryd.prog) _ w.heap.size 26 26 _ (0, 0) _ (set3_same k6 (.int .i64 x) (.slice ah rh.length ch) (.string (txt rb))) Tryd.underlying26 rfl (by rw [resp_info]; rfl))
    obtain ⟨x0, x1, x2, f0, f1, f2⟩ := box3 k5
    obtain ⟨y0, y1, y2, q0, q1, q2⟩ := box3 kb5
    clear k5 kb5 c5 ho5 k6 c6 hC3 hC4 hC5 hg4 hg5 hne hx
    go_wp2
    refine bodyPost_ret (v := .agg #[.int .i64 x, .slice ah rh.length ch, .string (txt rb)]) ?_ rfl ⟨⟨x, rh, rb⟩, .slice ah rh.length ch, HS.out, rfl, PP.out, BB.out⟩
    rw [results_cell_one rfl]
    have hld := LD.out
    unfold set3 at hld
    simp [asAddr, Result.andThen, hld]

set_option maxHeartbeats 1600000 in
theorem sameAnswer_call (r : RespL) (vh vh' : Value) (w : World) (hh : PAt w vh r.h) (hh' : PAt w vh' r.h) (hn : r.h.length ≤ 1048576) :
    Calls Tryd.prog 20 #[respV r vh, respV r vh'] w fun e w' => e = .returned (.bool true) ∧ Below w.heap.size w w' := by
  obtain ⟨a1, c1, rfl⟩ := pat_form hh
  obtain ⟨a2, c2, rfl⟩ := pat_form hh'
  have ba := Lib.hid (((Below.refl w.heap.size w).alloc (Nat.le_refl _) (.cells #[.int .i64 r.c, .slice a1 r.h.length c1, .string (txt r.b)] 26)).alloc (by simp) (.cells #[.int .i64 r.c, .slice a2 r.h.length c2, .string (txt r.b)] 26))
  have HH := Lib.hid hh
  have HH' := Lib.hid hh'
  have S := Lib.hid (fun wx h1 h2 => samePairs_call (.slice a1 r.h.length c1) (.slice a2 r.h.length c2) r.h wx h1 h2 (by omega))
  have eB := txt_beq r.b r.b
  rw [decide_eq_true rfl] at eB
  clear hh hh'
  unfold respV
  go_enter Tryd.func20, Tryd.ntmps20
  go_wp2_with fail
  refine (S.out _ (HH.out.below ba.out) (HH'.out.below ba.out)).mono ?_
  rintro e w1 ⟨rfl, b1⟩
  go_wp2
  go_ret
  exact ⟨rfl, ba.out.trans (b1.mono ba.out.size)⟩

end Ht
end Go.Proofs.YtfnignlfelambaaDoor
