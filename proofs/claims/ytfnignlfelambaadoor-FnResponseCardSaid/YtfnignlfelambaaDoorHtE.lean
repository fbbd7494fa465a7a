/- CONTRACTS of what draws answers. -/
import Derived.Test.YtfnignlfelambaaDoorHtD
import Derived.Test.YtfnignlfelambaaDoorHtRS
import Derived.Test.YtfnignlfelambaaDoorHtPut
namespace Go.Proofs.YtfnignlfelambaaDoor
set_option linter.unusedVariables false
set_option maxRecDepth 4000
open Go.ChangeShapes Go.WideShapes Go.ChangeAt Go.RowKit
open Go.ChangeMaps (open_string shut_string)

namespace Ht

theorem headKeys_len : ∀ x ∈ headKeys, x.length ≤ 6 := by decide

theorem headVals_len : ∀ x ∈ headVals, x.length ≤ 11 := by decide

/-- an answer that is drawn: a short one -/
def SmallA (r : RespL) : Prop := r.h.length ≤ 3 ∧ (∀ p ∈ r.h, p.1.length ≤ 6 ∧ p.2.length ≤ 11) ∧ r.b.length ≤ 4

def ansCodes : List Int := [200, 302, 400, 599]

def ansBodies : List (List UInt8) := [[], [111, 107], [123, 125], [13, 10]]

theorem ansBodies_len : ∀ x ∈ ansBodies, x.length ≤ 4 := by decide

theorem bd_smallA {r : RespL} (h : SmallA r) : Bd r.h := ⟨by have := h.1; omega, fun p hp => by have := h.2.1 p hp; omega⟩

theorem set3_grown (w : World) (g : Nat) (v0 v1 v2 : Value) (hg : g < w.heap.size) : w.grownBy (set3 w g v0 v1 v2) (some g) := by
  unfold set3
  exact grown_trans (grown_trans (box_grown w g 0 v0 hg) (box_grown _ g 1 v1 (by simpa using hg))) (box_grown _ g 2 v2 (by simpa using hg))

set_option maxRecDepth 100000 in
set_option maxHeartbeats 3200000 in
theorem answer_call (B g : Nat) (av : Option Addr) (n c : Nat) (w : World) (hC : CurE w B g av n c) :
    Calls Tryd.prog 43 #[.pointer (some ⟨g, 0, none⟩)] w fun e w' => ∃ (r : RespL) (vh : Value), SmallA r ∧ e = .returned (respV r vh) ∧ w'.ownsRow (w.heap.size + 1) 71 2 vh r.h.length (pcells r.h) ∧ CurE w' B g av n c ∧ w.grownBy w' (some g) := by
  have hgw := hC.lt
  have hCa := Lib.hid (hC.below ((Below.refl w.heap.size w).alloc (Nat.le_refl _) (.cells #[.int .i64 0, .slice none 0 0, .string ⟨#[]⟩] 26)))
  have g0 := Lib.hid (heap_alloc_new w (.cells #[.int .i64 0, .slice none 0 0, .string ⟨#[]⟩] 26))
  have ga := Lib.hid (World.grownBy_alloc w (.cells #[.int .i64 0, .slice none 0 0, .string ⟨#[]⟩] 26) (some g))
  have sa := Lib.hid (show (w.alloc (.cells #[.int .i64 0, .slice none 0 0, .string ⟨#[]⟩] 26)).heap.size = w.heap.size + 1 by simp)
  have P0 := pickint_lit B g av n c ansCodes #[.int .i64 200, .int .i64 302, .int .i64 400, .int .i64 599] _ rfl hCa.out (by decide) (by decide)
  rw [sa.out] at P0
  have HP0 := Lib.hid P0
  clear P0
  go_enter Tryd.func43, Tryd.ntmps43
  go_wp2_with fail
  refine HP0.out.mono ?_
  rintro e w1 ⟨x, hx, rfl, hC1, hg1⟩
  go_wp2_with fail
  refine (heads_call B g av n c _ hC1).mono ?_
  rintro e w2 ⟨L, v, hl, hL, rfl, ho, hC2, hg2⟩
  go_wp2_with fail
  refine (pick_lit B g av n c ansBodies _ _ rfl hC2 (by decide) (by decide)).mono ?_
  rintro e w3 ⟨y, hy, rfl, hC3, hg3⟩
  have hyl := ansBodies_len y hy
  have s1 := hg1.size
  rw [sa.out] at s1
  have hne : v.ownBlock = none ∨ v.ownBlock ≠ some g := by
    cases hb : v.ownBlock with
    | none => exact .inl rfl
    | some j => right; intro e; have := (ho.lt j hb).1; injection e; omega
  have ho3 := ho.kept hg3 hne
  have hg := grown_trans (grown_trans (grown_trans ga.out hg1) hg2) hg3
  have kR := (hg3.block w.heap.size (Nat.lt_of_lt_of_le (by omega) hg2.size) (fun e => by simp only [Option.some.injEq] at e; omega)).trans ((hg2.block w.heap.size (by omega) (fun e => by simp only [Option.some.injEq] at e; omega)).trans ((hg1.block w.heap.size (by rw [sa.out]; omega) (fun e => by simp only [Option.some.injEq] at e; omega)).trans g0.out))
  have s3 : w.heap.size + 1 ≤ w3.heap.size := Nat.le_trans s1 (Nat.le_trans hg2.size hg3.size)
  have hlo := Lib.hid (own_low ho3)
  have HO3 := Lib.hid ho3
  have HC3 := Lib.hid hC3
  have HG := Lib.hid hg
  have KR := Lib.hid kR
  obtain ⟨a, cap, rfl⟩ := own_val2 ho
  obtain ⟨x0, x1, x2, f0, f1, f2⟩ := box3 kR
  have hSm := Lib.hid (show SmallA ⟨x, L, y⟩ from ⟨hl, fun p hp => ⟨headKeys_len _ (hL p hp).1, headVals_len _ (hL p hp).2⟩, hyl⟩)
  clear hx hy hL ho3 hC3 hg kR ho hC1 hC2 hg1 hg2 hg3 hne
  go_wp2
  refine bodyPost_ret (v := .agg #[.int .i64 x, .slice a L.length cap, .string (txt y)]) ?_ rfl ⟨⟨x, L, y⟩, .slice a L.length cap, hSm.out, rfl, own_base (own_heap HO3.out (fun j e => set3_heap w3 w.heap.size j (.int .i64 x) (.slice a L.length cap) (.string (txt y)) (by have := (hlo.out j e).1; omega))) (by omega), HC3.out.other (set3_grown w3 w.heap.size (.int .i64 x) (.slice a L.length cap) (.string (txt y)) (by omega)) (fun j e => by simp only [Option.some.injEq] at e; omega), grown_new HG.out (set3_grown w3 w.heap.size (.int .i64 x) (.slice a L.length cap) (.string (txt y)) (by omega)) (fun j e => by simp only [Option.some.injEq] at e; omega)⟩
  rw [results_cell_one rfl]
  have hld := run_loadVar_row (P := Tryd.prog) _ w.heap.size 26 26 _ (0, 0) _ (set3_same KR.out (.int .i64 x) (.slice a L.length cap) (.string (txt y))) Tryd.underlying26 rfl (by rw [resp_info]; rfl)
  unfold set3 at hld
  simp [asAddr, Result.andThen, hld]

theorem putResp_len (r : RespL) (h : SmallA r) : (putResp r).length ≤ 30000 := by
  unfold putResp
  split
  · rename_i hk
    obtain ⟨h1, h2, h3, h4⟩ := resp_parts hk
    have a := (firstA_code r h1 h2).2.1
    have b := rest_le h3 h4
    simp only [List.length_append, List.length_cons]
    omega
  · simp

set_option maxRecDepth 100000 in
set_option maxHeartbeats 800000 in
theorem drawGetResp_call (B : Nat) (av : Option Addr) (n c : Nat) (w : World) (hcode : CodeIs w B av n) (hn : n ≤ 1048576) (hB : B ≤ w.heap.size) :
    Calls Tryd.prog 21 #[.slice av n c] w fun e w' => ∃ l : List UInt8, l.length ≤ 40000 ∧ e = .returned (.string (txt l)) ∧ Below w.heap.size w w' := by
  go_enter Tryd.func21, Tryd.ntmps21
  go_wp2_with fail
  refine (new_call B av n c _ hcode hn hB).mono ?_
  rintro e w1 ⟨h, rfl, hC1, hb1⟩
  go_wp2_with fail
  refine (answer_call B w.heap.size av n c _ ⟨_, _, hC1⟩).mono ?_
  rintro e w2 ⟨r, vh, hS, rfl, ho, hC2, hg2⟩
  have hb2 := grown_below_new hb1 hg2
  have hpl := putResp_len r hS
  have hPA := PAt.own ho
  have hBd := bd_smallA hS
  have hbb := hS.2.2
  go_wp2_with fail
  refine (putResp_spec r vh _ hPA hBd (by omega)).mono ?_
  rintro e w3 ⟨rfl, b3⟩
  generalize putResp r = pl at hpl ⊢
  go_wp2_with fail
  refine (bent_call B w.heap.size av n c pl _ (hC2.below b3) (by omega)).mono ?_
  rintro e w4 ⟨x, hx, rfl, hC4, hg4⟩
  go_wp2
  go_ret
  exact ⟨x, by omega, rfl, grown_below_new (bstep hb2 b3) hg4⟩

end Ht
end Go.Proofs.YtfnignlfelambaaDoor
