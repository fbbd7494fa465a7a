/- CONTRACTS of the laws' own: an answer's weight from any rest, an answer made anew with its heads owned, marks from any number. -/
import Derived.Test.YtdgfiebehnfpgaaGreatDoorHtL
import Derived.Test.YtdgfiebehnfpgaaGreatDoorPairsM
import Derived.Test.YtdgfiebehnfpgaaGreatDoorGrid
import Derived.Test.YtdgfiebehnfpgaaGreatDoorGridA
namespace Go.Proofs.YtdgfiebehnfpgaaGreatDoor
set_option linter.unusedVariables false
set_option maxRecDepth 4000
open Go.ChangeShapes Go.WideShapes Go.ChangeAt Go.RowKit
open Go.ChangeMaps (open_string shut_string)

namespace Ht

set_option maxHeartbeats 1600000 in
theorem szResponse_left (r : RespL) (vh : Value) (M : Nat) (w : World) (hM : M ≤ 1048576) (hh : PAt w vh r.h) (hw : Wa r) :
    Calls Tryz.prog 17 #[respV r vh, .int .i64 (M : Int)] w fun e w' => (∃ x : Int, e = .returned (.int .i64 x) ∧ (0 ≤ x → r.h.length + wtL r.h + r.b.length ≤ M)) ∧ Below w.heap.size w w' := by
  obtain ⟨w4, w5⟩ := hw
  have HH := Lib.hid hh
  have W4 := Lib.hid w4
  obtain ⟨ah, ch, rfl⟩ := pat_form hh
  clear hh w4
  have z3 := txt_size r.b
  unfold respV
  have ba := (Below.refl w.heap.size w).alloc (Nat.le_refl _) (.cells #[.int .i64 r.c, .slice ah r.h.length ch, .string (txt r.b)] 37)
  go_enter Tryz.func17, Tryz.ntmps17
  go_wp2_with fail
  refine (szPairS_left _ r.h M _ hM (HH.out.below ba) W4.out).mono ?_
  rintro e u2 ⟨⟨x2, rfl, hx2⟩, b2⟩
  have bc := ba.trans (b2.mono ba.size)
  by_cases g2 : x2 < 0
  · clear hx2
    go_wp2
    go_ret
    exact ⟨⟨_, rfl, fun h => by omega⟩, bc⟩
  · obtain ⟨L4, rfl, hL4⟩ := hx2 (by omega)
    have c4 := (b2.cell (p := ⟨w.heap.size, 2, none⟩) (by simp)).trans (by simp : (w.alloc (.cells #[.int .i64 r.c, .slice ah r.h.length ch, .string (txt r.b)] 37)).cell? ⟨w.heap.size, 2, none⟩ = some (.string (txt r.b)))
    by_cases h5 : r.b.length ≤ L4
    · obtain ⟨L5, hL5⟩ : ∃ L5, L4 - r.b.length = L5 := ⟨_, rfl⟩
      have e5 : ((L4 : Int) - (r.b.length : Int)) = (L5 : Int) := by omega
      have HF := Lib.hid (show r.h.length + wtL r.h + r.b.length ≤ M by omega)
      have k5 : L5 ≤ 1048576 := by omega
      clear hx2 hL4 hL5
      go_wp2
      go_ret
      exact ⟨⟨_, rfl, fun _ => HF.out⟩, bc⟩
    · have j5 := sub_neg h5
      clear hx2 hL4
      go_wp2
      go_ret
      exact ⟨⟨_, rfl, fun h => by omega⟩, bc⟩

set_option maxHeartbeats 1600000 in
theorem toResponse_own (r : RespL) (vh : Value) (w : World) (hh : PAt w vh r.h) (h2 : r.h.length ≤ 2097152) :
    Calls Tryz.prog 20 #[respV r vh] w fun e w' => ∃ vh', e = .returned (respV r vh') ∧ w'.ownsRow w.heap.size 86 2 vh' r.h.length (pcells r.h) ∧ Below w.heap.size w w' := by
  have HH := Lib.hid hh
  obtain ⟨ah, ch, rfl⟩ := pat_form hh
  clear hh
  unfold respV
  have hba := (((Below.refl w.heap.size w).alloc (Nat.le_refl _) (.cells #[.int .i64 r.c, .slice ah r.h.length ch, .string (txt r.b)] 37)).alloc (by simp) (.cells #[.int .i64 0, .slice none 0 0, .string ⟨#[]⟩] 44)).alloc (by simp; omega) (.cells #[.int .i64 r.c, .slice none 0 0, .string ⟨#[]⟩] 44)
  obtain ⟨g0, g1, g2⟩ := alloc3 w (.cells #[.int .i64 r.c, .slice ah r.h.length ch, .string (txt r.b)] 37) (.cells #[.int .i64 0, .slice none 0 0, .string ⟨#[]⟩] 44) (.cells #[.int .i64 r.c, .slice none 0 0, .string ⟨#[]⟩] 44)
  have sz := alloc3_size w (.cells #[.int .i64 r.c, .slice ah r.h.length ch, .string (txt r.b)] 37) (.cells #[.int .i64 0, .slice none 0 0, .string ⟨#[]⟩] 44) (.cells #[.int .i64 r.c, .slice none 0 0, .string ⟨#[]⟩] 44)
  have BA := Lib.hid hba
  have G0 := Lib.hid g0
  have G1 := Lib.hid g1
  have G2 := Lib.hid g2
  have SZ := Lib.hid sz
  clear hba g0 g1 g2 sz
  go_enter Tryz.func20, Tryz.ntmps20
  go_wp2_with fail
  refine (toPairS_call _ r.h _ (HH.out.below BA.out) h2).mono ?_
  rintro e u1 ⟨vh', rfl, o1, b1⟩
  have k0 := (b1.block w.heap.size (by rw [SZ.out]; omega)).trans G0.out
  have k1 := (b1.block (w.heap.size + 1) (by rw [SZ.out]; omega)).trans G1.out
  have k2 := (b1.block (w.heap.size + 1 + 1) (by rw [SZ.out]; omega)).trans G2.out
  have c1 := BA.out.trans (b1.mono BA.out.size)
  have s1 := b1.size
  rw [SZ.out] at s1 o1
  have LL1 := Lib.hid (own_low o1)
  have PP1 := Lib.hid (Grid.own_lower o1 (show w.heap.size ≤ w.heap.size + 1 + 1 + 1 by omega))
  obtain ⟨ah', ch', rfl⟩ := own_val2 o1
  clear o1 b1
  have m2a := heap_setCell_same u1 (w.heap.size + 1 + 1) 1 _ _ (.slice ah' r.h.length ch') k2
  have m1 := (Below.heap_setCell _ ⟨w.heap.size + 1 + 1, 2, none⟩ (.string (txt r.b)) (w.heap.size + 1) (by simp)).trans ((Below.heap_setCell u1 ⟨w.heap.size + 1 + 1, 1, none⟩ (.slice ah' r.h.length ch') (w.heap.size + 1) (by simp)).trans k1)
  have F1 := Lib.hid (set3_same m1 (.int .i64 r.c) (.slice ah' r.h.length ch') (.string (txt r.b)))
  obtain ⟨x0, x1, x2, y0, y1, y2⟩ := box3 k2
  obtain ⟨X0, X1, X2, Y0, Y1, Y2⟩ := box3 k1
  have z2 := (box3 k0).2.2.1
  clear k0 k1 k2 m2a m1
  go_wp2
  have hk : ∀ g, w.heap.size + 1 + 1 < g → (set3 ((u1.setCell ⟨w.heap.size + 1 + 1, 1, none⟩ (.slice ah' r.h.length ch')).setCell ⟨w.heap.size + 1 + 1, 2, none⟩ (.string (txt r.b))) (w.heap.size + 1) (.int .i64 r.c) (.slice ah' r.h.length ch') (.string (txt r.b))).heap[g]? = u1.heap[g]? := fun g hg =>
    (set3_heap _ _ g _ _ _ (by omega)).trans ((Below.heap_setCell _ ⟨w.heap.size + 1 + 1, 2, none⟩ _ g (by show g ≠ w.heap.size + 1 + 1; omega)).trans (Below.heap_setCell _ ⟨w.heap.size + 1 + 1, 1, none⟩ _ g (by show g ≠ w.heap.size + 1 + 1; omega)))
  have hs : u1.heap.size ≤ (set3 ((u1.setCell ⟨w.heap.size + 1 + 1, 1, none⟩ (.slice ah' r.h.length ch')).setCell ⟨w.heap.size + 1 + 1, 2, none⟩ (.string (txt r.b))) (w.heap.size + 1) (.int .i64 r.c) (.slice ah' r.h.length ch') (.string (txt r.b))).heap.size := by rw [set3_size]; simp
  refine bodyPost_ret (v := .agg #[.int .i64 r.c, .slice ah' r.h.length ch', .string (txt r.b)]) ?_ rfl ⟨_, rfl, own_heap PP1.out (fun g e => hk g (by have := (LL1.out g e).1; omega)), ?_⟩
  · rw [results_cell_one rfl]
    have hld := run_loadVar_row (P := Tryz.prog) _ (w.heap.size + 1) 44 44 _ (0, 0) _ F1.out Tryz.underlying44 rfl (by rw [resp_info]; rfl)
    unfold set3 at hld
    simp [asAddr, Result.andThen, hld]
  · exact set3_below ((c1.setCell (p := ⟨w.heap.size + 1 + 1, 1, none⟩) (by show w.heap.size ≤ w.heap.size + 1 + 1; omega) _).setCell (p := ⟨w.heap.size + 1 + 1, 2, none⟩) (by show w.heap.size ≤ w.heap.size + 1 + 1; omega) _) (by omega) _ _ _

set_option maxHeartbeats 1600000 in
theorem markPairS_big (base k0 : Nat) (e : TypeId) (a : Option Addr) (cap cap' : Nat) (l : List PairL) (w : World) (h : w.ownsRow base e 2 (.slice a l.length cap') l.length (pcells l)) (hn : l.length ≤ 1048576) (hk0 : 1 ≤ k0) (hk1 : k0 ≤ 8388608) :
    Calls Tryz.prog 69 #[.slice a l.length cap, .int .i64 k0] w fun r w' => r = .returned (.int .i64 ((k0 + 2 * l.length : Nat) : Int)) ∧ w'.ownsRow base e 2 (.slice a l.length cap') l.length (pcells (marksP k0 l.length)) ∧ w.grownBy w' (Value.slice a l.length cap').ownBlock := by
  go_enter Tryz.func69, Tryz.ntmps69
  go_wp2
  go_loopw [1, 5] (fun q i wr => ∃ k : Nat, k ≤ l.length ∧ i = .int .i64 k ∧ q = .int .i64 ((k0 : Int) + 2 * (k : Int)) ∧ wr.ownsRow base e 2 (.slice a l.length cap') l.length (pcells (marksP k0 k ++ l.drop k)) ∧ w.grownBy wr (Value.slice a l.length cap').ownBlock) (fun _ i _ => l.length - (intOf i).toNat)
  case atStart => exact ⟨0, by omega, rfl, by simp, by simpa [marksP] using h, World.grownBy.refl _ _⟩
  case round =>
    obtain ⟨k, hk, rfl, rfl, hown, hgr⟩ := hrel
    by_cases hlt : k < l.length
    · obtain ⟨g, rfl, hb, hg⟩ := own_at2 hown (by omega)
      have hlen : (marksP k0 k ++ l.drop k).length = l.length := by rw [List.length_append, marksP_len, List.length_drop]; omega
      have hmt := markText_call (k0 + 2 * k)
      have hmt2 := markText_call (k0 + 2 * k + 1)
      have ecast : ((k0 + 2 * k : Nat) : Int) = (k0 : Int) + 2 * (k : Int) := by omega
      have ecast2 : ((k0 + 2 * k + 1 : Nat) : Int) = (k0 : Int) + 2 * (k : Int) + 1 := by omega
      rw [ecast] at hmt
      rw [ecast2] at hmt2
      clear ecast ecast2
      have HMT := Lib.hid hmt
      have HMT2 := Lib.hid hmt2
      have HL := Lib.hid hlen
      clear hmt hmt2 hlen
      have hi0 : (0 : Int) ≤ (k : Int) := by omega
      have hi1 : (k : Int) < (l.length : Int) := by omega
      go_wp2_with fail
      refine (HMT.out _ (by omega) (by omega)).mono ?_
      rintro r w1 ⟨rfl, hb1⟩
      have hown1 := ownsRow_below hown hb1
      have hxl : (pcells (marksP k0 k ++ l.drop k)).length = l.length * 2 := by rw [pcells_len, HL.out]
      obtain ⟨u, hc1⟩ : ∃ u, w1.cell? ⟨g, k * 2, none⟩ = some u := ⟨_, (hown1.cellAt (k * 2) (by omega)).trans (List.getElem?_eq_getElem (by omega))⟩
      have hf1 := hown1.frozenAt (k * 2)
      have hst := hown1.stored (k * 2) (.string (txt (markL (k0 + 2 * k))))
      have hgr1 := grown_trans (grown_trans hgr (grown_below hb1 _)) hst.2
      have hownA := hst.1
      clear hst hxl
      have HSET := Lib.hid (marksP_set k0 k l hlt)
      generalize txt (markL (k0 + 2 * k)) = ta at hownA hgr1 HSET ⊢
      generalize txt (markL (k0 + 2 * k + 1)) = tb at HMT2 HSET
      go_wp2_with fail
      refine (HMT2.out _ (by omega) (by omega)).mono ?_
      rintro r w2 ⟨rfl, hb2⟩
      have hownB := ownsRow_below hownA hb2
      have hxl : ((pcells (marksP k0 k ++ l.drop k)).set (k * 2) (.string ta)).length = l.length * 2 := by rw [List.length_set, pcells_len, HL.out]
      obtain ⟨u2, hc2⟩ : ∃ u, w2.cell? ⟨g, k * 2 + 1, none⟩ = some u := ⟨_, (hownB.cellAt (k * 2 + 1) (by omega)).trans (List.getElem?_eq_getElem (by omega))⟩
      have hf2 := hownB.frozenAt (k * 2 + 1)
      have hst := hownB.stored (k * 2 + 1) (.string tb)
      have hgr2 := grown_trans (grown_trans hgr1 (grown_below hb2 _)) hst.2
      have hownC := hst.1
      rw [HSET.out] at hownC
      clear hst hxl
      go_wp2
      go_roundw
      case rel => exact ⟨k + 1, by omega, by go_num, by go_num, hownC, hgr2⟩
      case measure => simp [intOf]; omega
    · have he : l.drop k = [] := List.drop_eq_nil_of_le (by omega)
      obtain rfl : k = l.length := by omega
      rw [he, List.append_nil] at hown
      clear he
      go_wp2
      go_ret
      exact ⟨ret_int (by simp), hown, hgr⟩

set_option maxHeartbeats 3200000 in
theorem markResponse_at (base K : Nat) (hK1 : 1 ≤ K) (hK2 : K ≤ 8388608) (c : Int) (b : ByteArray) (h : List PairL) (ah : Option Addr) (ch ch' : Nat) (eq : TypeId) (w : World) (ht : w.ownsRow base eq 2 (.slice ah h.length ch') h.length (pcells h)) (hh : h.length ≤ 1048576) :
    Calls Tryz.prog 25 #[.agg #[.int .i64 c, .slice ah h.length ch, .string b], .int .i64 (K : Int)] w fun e w' => e = .returned (.int .i64 ((K + 2 * h.length : Nat) : Int)) ∧
      w.grownBy w' (Value.slice ah h.length ch').ownBlock := by
  have l1 := own_low ht
  have ba := (Below.refl w.heap.size w).alloc (Nat.le_refl _) (.cells #[.int .i64 c, .slice ah h.length ch, .string b] 44)
  have sa : (w.alloc (.cells #[.int .i64 c, .slice ah h.length ch, .string b] 44)).heap.size = w.heap.size + 1 := by simp
  have M1 := Lib.hid (markPairS_big base K eq ah ch ch' h _ (ht.alloc (.cells #[.int .i64 c, .slice ah h.length ch, .string b] 44)) (by omega) (by omega) (by omega))
  have L1 := Lib.hid l1
  have BA := Lib.hid ba
  have SA := Lib.hid sa
  clear ht l1 ba sa
  go_enter Tryz.func25, Tryz.ntmps25
  go_wp2_with fail
  refine M1.out.mono ?_
  rintro e w1 ⟨rfl, o1, g1⟩
  have O1 := Lib.hid o1
  have G1 := Lib.hid g1
  clear o1 g1 M1
  go_wp2
  go_ret
  exact ⟨rfl, grown_trans (grown_below BA.out _) G1.out⟩

end Ht
end Go.Proofs.YtdgfiebehnfpgaaGreatDoor
