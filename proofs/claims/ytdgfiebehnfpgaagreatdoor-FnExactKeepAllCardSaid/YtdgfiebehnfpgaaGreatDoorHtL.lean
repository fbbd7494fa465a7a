/- CONTRACTS of the laws' own helpers over requests and answers: sz, to, eq. -/
import Derived.Test.YtdgfiebehnfpgaaGreatDoorHtOk3
namespace Go.Proofs.YtdgfiebehnfpgaaGreatDoor
set_option linter.unusedVariables false
set_option maxRecDepth 4000
open Go.ChangeShapes Go.WideShapes Go.ChangeAt Go.RowKit
open Go.ChangeMaps (open_string shut_string)

namespace Ht

def bigN : Nat := 9223372036854775807

/-- pairs whose texts a machine can hold -/
def Wd (l : List PairL) : Prop := l.length ≤ 9223372036854775807 ∧ ∀ p ∈ l, p.1.length ≤ 9223372036854775807 ∧ p.2.length ≤ 9223372036854775807

set_option maxHeartbeats 800000 in
theorem szPairS_left (v : Value) (l : List PairL) (left : Nat) (w : World) (hL : left ≤ 1048576) (h : PAt w v l) (hw : Wd l) :
    Calls Tryz.prog 54 #[v, .int .i64 left] w fun e w' => (∃ r : Int, e = .returned (.int .i64 r) ∧ (0 ≤ r → ∃ k : Nat, r = k ∧ k + l.length + wtL l = left)) ∧ Below w.heap.size w w' := by
  obtain ⟨a, cap, rfl, hc⟩ := h
  obtain ⟨hn, hm⟩ := hw
  have HM := Lib.hid hm
  have HC := Lib.hid hc
  clear hm hc
  by_cases hl : l.length ≤ left
  · have e0 : ((left : Int) - (l.length : Int)) = ((left - l.length : Nat) : Int) := by omega
    have i0 : ¬ ((left : Int) < (l.length : Int)) := by omega
    go_enter Tryz.func54, Tryz.ntmps54
    go_wp2
    go_loopw [1, 5] (fun r i wr => ∃ k m : Nat, k ≤ l.length ∧ i = .int .i64 k ∧ r = .int .i64 m ∧ Hid (m + l.length + wtL (l.take k) = left) ∧ Below w.heap.size w wr) (fun _ i _ => l.length - (intOf i).toNat)
    case atStart => exact ⟨0, left - l.length, by omega, rfl, by go_num, Lib.hid (by simp [wtL]; omega), Below.refl _ _⟩
    case round =>
      obtain ⟨k, m, hk, rfl, rfl, hw, hbel⟩ := hrel
      have hm2 : m ≤ 1048576 := by have := hw.out; omega
      by_cases hlt : k < l.length
      · rcases HC.out with h0 | ⟨g, off, rfl, hg, hcell⟩
        · omega
        · obtain ⟨c1, c2⟩ := hcell k hlt
          have c1 := (hbel.cell (p := ⟨g, _, none⟩) hg).trans c1
          have c2 := (hbel.cell (p := ⟨g, _, none⟩) hg).trans c2
          have hpm := HM.out l[k] (List.getElem_mem hlt)
          have hw2 := wt_take l k hlt
          have HW2 := Lib.hid hw2
          clear hw2 hcell
          generalize l[k] = p at c1 c2 hpm HW2
          obtain ⟨pk, pv⟩ := p
          simp only at c1 c2 hpm
          have hi0 : (0 : Int) ≤ (k : Int) := by omega
          have hi1 : (k : Int) < (l.length : Int) := by omega
          go_wp2_with fail
          refine (szPair_call pk pv m _ hm2 hpm.1 hpm.2).mono ?_
          rintro e w1 ⟨rfl, hb1⟩
          by_cases hq : pk.length + pv.length ≤ m
          · rw [if_pos hq]
            have HQ := Lib.hid hq
            clear hq hpm
            go_wp2
            exact ⟨⟨k + 1, m - pk.length - pv.length, by omega, by go_num, rfl, Lib.hid (by have h9 : wtL (l.take (k + 1)) = wtL (l.take k) + pk.length + pv.length := HW2.out; have := hw.out; have := HQ.out; omega), hbel.trans (hb1.mono hbel.size)⟩, by simp [intOf]; omega⟩
          · rw [if_neg hq]
            clear hq hpm
            go_wp2
            go_ret
            exact ⟨⟨_, rfl, fun h => by omega⟩, hbel.trans (hb1.mono hbel.size)⟩
      · have he : l.take k = l := List.take_of_length_le (by omega)
        have hw2 := hw.out
        rw [he] at hw2
        have HW2 := Lib.hid hw2
        clear hw2 he
        go_wp2
        go_ret
        exact ⟨⟨_, rfl, fun _ => ⟨m, rfl, HW2.out⟩⟩, hbel⟩
  · have i0 : ((left : Int) - (l.length : Int)) < 0 := by omega
    go_enter Tryz.func54, Tryz.ntmps54
    go_wp2
    go_ret
    exact ⟨⟨_, rfl, fun h => by omega⟩, Below.refl _ _⟩

/-- texts a machine can hold -/
def Wr (r : ReqL) : Prop := r.m.length ≤ 9223372036854775807 ∧ r.p.length ≤ 9223372036854775807 ∧ Wd r.q ∧ Wd r.h ∧ r.b.length ≤ 9223372036854775807

def Wa (r : RespL) : Prop := Wd r.h ∧ r.b.length ≤ 9223372036854775807

/-- what a request weighs -/
def wtR (r : ReqL) : Nat := r.m.length + r.p.length + (r.q.length + wtL r.q) + (r.h.length + wtL r.h) + r.b.length

theorem sub_neg {a : Nat} {b : Nat} (h : ¬ b ≤ a) : ((a : Int) - (b : Int)) < 0 := by omega

theorem sub_cast {a b : Nat} (h : b ≤ a) : ((a : Int) - (b : Int)) = ((a - b : Nat) : Int) := by omega

set_option maxHeartbeats 1600000 in
theorem szResponse_call (r : RespL) (vh : Value) (w : World) (hh : PAt w vh r.h) (hw : Wa r) :
    Calls Tryz.prog 17 #[respV r vh, .int .i64 1048576] w fun e w' => (∃ x : Int, e = .returned (.int .i64 x) ∧ (0 ≤ x → r.h.length + wtL r.h + r.b.length ≤ 1048576)) ∧ Below w.heap.size w w' := by
  obtain ⟨w4, w5⟩ := hw
  have HH := Lib.hid hh
  have W4 := Lib.hid w4
  obtain ⟨ah, ch, rfl⟩ := pat_form hh
  clear hh w4
  have z3 := txt_size r.b
  unfold respV
  have ba := (Below.refl w.heap.size w).alloc (Nat.le_refl _) (.cells #[.int .i64 r.c, .slice ah r.h.length ch, .string (txt r.b)] 37)
  go_enter Tryz.func17, Tryz.ntmps17
  go_wp2_with fail
  refine (szPairS_left _ r.h 1048576 _ (by omega) (HH.out.below ba) W4.out).mono ?_
  rintro e u2 ⟨⟨x2, rfl, hx2⟩, b2⟩
  have bc := ba.trans (b2.mono ba.size)
  by_cases g2 : x2 < 0
  · clear hx2
    go_wp2
    go_ret
    exact ⟨⟨_, rfl, fun h => by omega⟩, bc⟩
  · obtain ⟨L4, rfl, hL4⟩ := hx2 (by omega)
    have c4 := (b2.cell (p := ⟨w.heap.size, 2, none⟩) (by simp)).trans (by simp : (w.alloc (.cells #[.int .i64 r.c, .slice ah r.h.length ch, .string (txt r.b)] 37)).cell? ⟨w.heap.size, 2, none⟩ = some (.string (txt r.b)))
    by_cases h5 : r.b.length ≤ L4
    · obtain ⟨L5, hL5⟩ : ∃ L5, L4 - r.b.length = L5 := ⟨_, rfl⟩
      have e5 : ((L4 : Int) - (r.b.length : Int)) = (L5 : Int) := by omega
      have HF := Lib.hid (show r.h.length + wtL r.h + r.b.length ≤ 1048576 by omega)
      have k5 : L5 ≤ 1048576 := by omega
      clear hx2 hL4 hL5
      go_wp2
      go_ret
      exact ⟨⟨_, rfl, fun _ => HF.out⟩, bc⟩
    · have j5 := sub_neg h5
      clear hx2 hL4
      go_wp2
      go_ret
      exact ⟨⟨_, rfl, fun h => by omega⟩, bc⟩

/-- a box of five cells, of three -/
theorem box5 {W : World} {b : Nat} {t : TypeId} {a0 a1 a2 a3 a4 : Value} (h : W.heap[b]? = some (.cells #[a0, a1, a2, a3, a4] t (0, 0))) :
    W.cell? ⟨b, 0, none⟩ = some a0 ∧ W.cell? ⟨b, 1, none⟩ = some a1 ∧ W.cell? ⟨b, 2, none⟩ = some a2 ∧ W.cell? ⟨b, 3, none⟩ = some a3 ∧ W.cell? ⟨b, 4, none⟩ = some a4 ∧
    W.frozen? ⟨b, 0, none⟩ = false ∧ W.frozen? ⟨b, 1, none⟩ = false ∧ W.frozen? ⟨b, 2, none⟩ = false ∧ W.frozen? ⟨b, 3, none⟩ = false ∧ W.frozen? ⟨b, 4, none⟩ = false :=
  ⟨cell_of_row W b 0 _ _ _ h, cell_of_row W b 1 _ _ _ h, cell_of_row W b 2 _ _ _ h, cell_of_row W b 3 _ _ _ h, cell_of_row W b 4 _ _ _ h,
    frozen_of_row W b 0 _ _ h, frozen_of_row W b 1 _ _ h, frozen_of_row W b 2 _ _ h, frozen_of_row W b 3 _ _ h, frozen_of_row W b 4 _ _ h⟩

theorem box3 {W : World} {b : Nat} {t : TypeId} {a0 a1 a2 : Value} (h : W.heap[b]? = some (.cells #[a0, a1, a2] t (0, 0))) :
    W.cell? ⟨b, 0, none⟩ = some a0 ∧ W.cell? ⟨b, 1, none⟩ = some a1 ∧ W.cell? ⟨b, 2, none⟩ = some a2 ∧
    W.frozen? ⟨b, 0, none⟩ = false ∧ W.frozen? ⟨b, 1, none⟩ = false ∧ W.frozen? ⟨b, 2, none⟩ = false :=
  ⟨cell_of_row W b 0 _ _ _ h, cell_of_row W b 1 _ _ _ h, cell_of_row W b 2 _ _ _ h, frozen_of_row W b 0 _ _ h, frozen_of_row W b 1 _ _ h, frozen_of_row W b 2 _ _ h⟩

theorem cell_congr {w w' : World} {g : Nat} (h : w'.heap[g]? = w.heap[g]?) (k : Nat) : w'.cell? ⟨g, k, none⟩ = w.cell? ⟨g, k, none⟩ := by
  unfold World.cell?
  simp only [h]

theorem pat_heap {w w' : World} {v : Value} {l : List PairL} (h : PAt w v l) (hk : ∀ g, v.ownBlock = some g → w'.heap[g]? = w.heap[g]?) (hs : w.heap.size ≤ w'.heap.size) : PAt w' v l := by
  obtain ⟨a, cap, rfl, h0 | ⟨g, off, rfl, hg, hc⟩⟩ := h
  · exact ⟨a, cap, rfl, .inl h0⟩
  · have e := hk g rfl
    exact ⟨_, cap, rfl, .inr ⟨g, off, rfl, by omega, fun i hi => ⟨(cell_congr e _).trans (hc i hi).1, (cell_congr e _).trans (hc i hi).2⟩⟩⟩

theorem own_heap {w w' : World} {base : Nat} {e : TypeId} {s n : Nat} {v : Value} {xs : List Value} (h : w.ownsRow base e s v n xs) (hk : ∀ g, v.ownBlock = some g → w'.heap[g]? = w.heap[g]?) : w'.ownsRow base e s v n xs := by
  refine ⟨h.1, ?_⟩
  rcases h.2 with h0 | ⟨g, cap, cur, rfl, hb, hg, rest⟩
  · exact .inl h0
  · exact .inr ⟨g, cap, cur, rfl, hb, (hk g rfl).trans hg, rest⟩

theorem own_low {w : World} {base : Nat} {e : TypeId} {s n : Nat} {v : Value} {xs : List Value} (h : w.ownsRow base e s v n xs) : ∀ g, v.ownBlock = some g → base ≤ g ∧ g < w.heap.size := fun g e => h.lt g e

/-- five cells stored, three -/
def set5 (W : World) (b : Nat) (v0 v1 v2 v3 v4 : Value) : World := ((((W.setCell ⟨b, 0, none⟩ v0).setCell ⟨b, 1, none⟩ v1).setCell ⟨b, 2, none⟩ v2).setCell ⟨b, 3, none⟩ v3).setCell ⟨b, 4, none⟩ v4

theorem set5_heap (W : World) (b g : Nat) (v0 v1 v2 v3 v4 : Value) (h : g ≠ b) : (set5 W b v0 v1 v2 v3 v4).heap[g]? = W.heap[g]? := by
  unfold set5
  rw [Below.heap_setCell _ _ _ _ h, Below.heap_setCell _ _ _ _ h, Below.heap_setCell _ _ _ _ h, Below.heap_setCell _ _ _ _ h, Below.heap_setCell _ _ _ _ h]

theorem set5_same {W : World} {b : Nat} {t : TypeId} {a0 a1 a2 a3 a4 : Value} (h : W.heap[b]? = some (.cells #[a0, a1, a2, a3, a4] t (0, 0))) (v0 v1 v2 v3 v4 : Value) :
    (set5 W b v0 v1 v2 v3 v4).heap[b]? = some (.cells #[v0, v1, v2, v3, v4] t (0, 0)) := by
  have h0 := heap_setCell_same W b 0 _ _ v0 h
  have h1 := heap_setCell_same _ b 1 _ _ v1 h0
  have h2 := heap_setCell_same _ b 2 _ _ v2 h1
  have h3 := heap_setCell_same _ b 3 _ _ v3 h2
  have h4 := heap_setCell_same _ b 4 _ _ v4 h3
  unfold set5
  rw [h4]
  rfl

theorem set5_below {B b : Nat} {W0 W : World} (h : Below B W0 W) (hb : B ≤ b) (v0 v1 v2 v3 v4 : Value) : Below B W0 (set5 W b v0 v1 v2 v3 v4) :=
  ((((h.setCell (p := ⟨b, 0, none⟩) hb _).setCell (p := ⟨b, 1, none⟩) hb _).setCell (p := ⟨b, 2, none⟩) hb _).setCell (p := ⟨b, 3, none⟩) hb _).setCell (p := ⟨b, 4, none⟩) hb _

theorem set5_size (W : World) (b : Nat) (v0 v1 v2 v3 v4 : Value) : (set5 W b v0 v1 v2 v3 v4).heap.size = W.heap.size := by
  unfold set5
  simp

theorem alloc3 (w : World) (A B C : Obj) : (((w.alloc A).alloc B).alloc C).heap[w.heap.size]? = some A ∧ (((w.alloc A).alloc B).alloc C).heap[w.heap.size + 1]? = some B ∧ (((w.alloc A).alloc B).alloc C).heap[w.heap.size + 1 + 1]? = some C := by
  refine ⟨?_, ?_, ?_⟩
  · show (((w.heap.push A).push B).push C)[w.heap.size]? = _
    rw [Array.getElem?_push, if_neg (by simp; omega), Array.getElem?_push, if_neg (by simp), Array.getElem?_push, if_pos rfl]
  · show (((w.heap.push A).push B).push C)[w.heap.size + 1]? = _
    rw [Array.getElem?_push, if_neg (by simp), Array.getElem?_push, if_pos (by simp)]
  · show (((w.heap.push A).push B).push C)[w.heap.size + 1 + 1]? = _
    rw [Array.getElem?_push, if_pos (by simp)]

theorem alloc3_size (w : World) (A B C : Obj) : (((w.alloc A).alloc B).alloc C).heap.size = w.heap.size + 1 + 1 + 1 := by simp

theorem req_info : (Tryz.prog.info? 26).map (·.size) = some 5 := by kernel_rfl

theorem alloc2 (w : World) (A B : Obj) : ((w.alloc A).alloc B).heap[w.heap.size]? = some A ∧ ((w.alloc A).alloc B).heap[w.heap.size + 1]? = some B := by
  refine ⟨?_, ?_⟩
  · show ((w.heap.push A).push B)[w.heap.size]? = _
    rw [Array.getElem?_push, if_neg (by simp), Array.getElem?_push, if_pos rfl]
  · show ((w.heap.push A).push B)[w.heap.size + 1]? = _
    rw [Array.getElem?_push, if_pos (by simp)]

def set3 (W : World) (b : Nat) (v0 v1 v2 : Value) : World := ((W.setCell ⟨b, 0, none⟩ v0).setCell ⟨b, 1, none⟩ v1).setCell ⟨b, 2, none⟩ v2

theorem set3_heap (W : World) (b g : Nat) (v0 v1 v2 : Value) (h : g ≠ b) : (set3 W b v0 v1 v2).heap[g]? = W.heap[g]? := by
  unfold set3
  rw [Below.heap_setCell _ _ _ _ h, Below.heap_setCell _ _ _ _ h, Below.heap_setCell _ _ _ _ h]

theorem set3_same {W : World} {b : Nat} {t : TypeId} {a0 a1 a2 : Value} (h : W.heap[b]? = some (.cells #[a0, a1, a2] t (0, 0))) (v0 v1 v2 : Value) :
    (set3 W b v0 v1 v2).heap[b]? = some (.cells #[v0, v1, v2] t (0, 0)) := by
  have h0 := heap_setCell_same W b 0 _ _ v0 h
  have h1 := heap_setCell_same _ b 1 _ _ v1 h0
  have h2 := heap_setCell_same _ b 2 _ _ v2 h1
  unfold set3
  rw [h2]
  rfl

theorem set3_below {B b : Nat} {W0 W : World} (h : Below B W0 W) (hb : B ≤ b) (v0 v1 v2 : Value) : Below B W0 (set3 W b v0 v1 v2) :=
  ((h.setCell (p := ⟨b, 0, none⟩) hb _).setCell (p := ⟨b, 1, none⟩) hb _).setCell (p := ⟨b, 2, none⟩) hb _

theorem set3_size (W : World) (b : Nat) (v0 v1 v2 : Value) : (set3 W b v0 v1 v2).heap.size = W.heap.size := by
  unfold set3
  simp

theorem resp_info : (Tryz.prog.info? 44).map (·.size) = some 3 := by kernel_rfl

set_option maxHeartbeats 1600000 in
theorem toResponse_call (r : RespL) (vh : Value) (w : World) (hh : PAt w vh r.h) (h2 : r.h.length ≤ 2097152) :
    Calls Tryz.prog 20 #[respV r vh] w fun e w' => ∃ vh', e = .returned (respV r vh') ∧ PAt w' vh' r.h ∧ Below w.heap.size w w' := by
  have HH := Lib.hid hh
  obtain ⟨ah, ch, rfl⟩ := pat_form hh
  clear hh
  unfold respV
  have hba := (((Below.refl w.heap.size w).alloc (Nat.le_refl _) (.cells #[.int .i64 r.c, .slice ah r.h.length ch, .string (txt r.b)] 37)).alloc (by simp) (.cells #[.int .i64 0, .slice none 0 0, .string ⟨#[]⟩] 44)).alloc (by simp; omega) (.cells #[.int .i64 r.c, .slice none 0 0, .string ⟨#[]⟩] 44)
  obtain ⟨g0, g1, g2⟩ := alloc3 w (.cells #[.int .i64 r.c, .slice ah r.h.length ch, .string (txt r.b)] 37) (.cells #[.int .i64 0, .slice none 0 0, .string ⟨#[]⟩] 44) (.cells #[.int .i64 r.c, .slice none 0 0, .string ⟨#[]⟩] 44)
  have sz := alloc3_size w (.cells #[.int .i64 r.c, .slice ah r.h.length ch, .string (txt r.b)] 37) (.cells #[.int .i64 0, .slice none 0 0, .string ⟨#[]⟩] 44) (.cells #[.int .i64 r.c, .slice none 0 0, .string ⟨#[]⟩] 44)
  have BA := Lib.hid hba
  have G0 := Lib.hid g0
  have G1 := Lib.hid g1
  have G2 := Lib.hid g2
  have SZ := Lib.hid sz
  clear hba g0 g1 g2 sz
  go_enter Tryz.func20, Tryz.ntmps20
  go_wp2_with fail
  refine (toPairS_call _ r.h _ (HH.out.below BA.out) h2).mono ?_
  rintro e u1 ⟨vh', rfl, o1, b1⟩
  have k0 := (b1.block w.heap.size (by rw [SZ.out]; omega)).trans G0.out
  have k1 := (b1.block (w.heap.size + 1) (by rw [SZ.out]; omega)).trans G1.out
  have k2 := (b1.block (w.heap.size + 1 + 1) (by rw [SZ.out]; omega)).trans G2.out
  have c1 := BA.out.trans (b1.mono BA.out.size)
  have s1 := b1.size
  rw [SZ.out] at s1 o1
  have LL1 := Lib.hid (own_low o1)
  have PP1 := Lib.hid (PAt.own o1)
  obtain ⟨ah', ch', rfl⟩ := own_val2 o1
  clear o1 b1
  have m2a := heap_setCell_same u1 (w.heap.size + 1 + 1) 1 _ _ (.slice ah' r.h.length ch') k2
  have m1 := (Below.heap_setCell _ ⟨w.heap.size + 1 + 1, 2, none⟩ (.string (txt r.b)) (w.heap.size + 1) (by simp)).trans ((Below.heap_setCell u1 ⟨w.heap.size + 1 + 1, 1, none⟩ (.slice ah' r.h.length ch') (w.heap.size + 1) (by simp)).trans k1)
  have F1 := Lib.hid (set3_same m1 (.int .i64 r.c) (.slice ah' r.h.length ch') (.string (txt r.b)))
  obtain ⟨x0, x1, x2, y0, y1, y2⟩ := box3 k2
  obtain ⟨X0, X1, X2, Y0, Y1, Y2⟩ := box3 k1
  have z2 := (box3 k0).2.2.1
  clear k0 k1 k2 m2a m1
  go_wp2
  have hk : ∀ g, w.heap.size + 1 + 1 < g → (set3 ((u1.setCell ⟨w.heap.size + 1 + 1, 1, none⟩ (.slice ah' r.h.length ch')).setCell ⟨w.heap.size + 1 + 1, 2, none⟩ (.string (txt r.b))) (w.heap.size + 1) (.int .i64 r.c) (.slice ah' r.h.length ch') (.string (txt r.b))).heap[g]? = u1.heap[g]? := fun g hg =>
    (set3_heap _ _ g _ _ _ (by omega)).trans ((Below.heap_setCell _ ⟨w.heap.size + 1 + 1, 2, none⟩ _ g (by show g ≠ w.heap.size + 1 + 1; omega)).trans (Below.heap_setCell _ ⟨w.heap.size + 1 + 1, 1, none⟩ _ g (by show g ≠ w.heap.size + 1 + 1; omega)))
  have hs : u1.heap.size ≤ (set3 ((u1.setCell ⟨w.heap.size + 1 + 1, 1, none⟩ (.slice ah' r.h.length ch')).setCell ⟨w.heap.size + 1 + 1, 2, none⟩ (.string (txt r.b))) (w.heap.size + 1) (.int .i64 r.c) (.slice ah' r.h.length ch') (.string (txt r.b))).heap.size := by rw [set3_size]; simp
  refine bodyPost_ret (v := .agg #[.int .i64 r.c, .slice ah' r.h.length ch', .string (txt r.b)]) ?_ rfl ⟨_, rfl, pat_heap PP1.out (fun g e => hk g (by have := (LL1.out g e).1; omega)) hs, ?_⟩
  · rw [results_cell_one rfl]
    have hld := run_loadVar_row (P := Tryz.prog) _ (w.heap.size + 1) 44 44 _ (0, 0) _ F1.out Tryz.underlying44 rfl (by rw [resp_info]; rfl)
    unfold set3 at hld
    simp [asAddr, Result.andThen, hld]
  · exact set3_below ((c1.setCell (p := ⟨w.heap.size + 1 + 1, 1, none⟩) (by show w.heap.size ≤ w.heap.size + 1 + 1; omega) _).setCell (p := ⟨w.heap.size + 1 + 1, 2, none⟩) (by show w.heap.size ≤ w.heap.size + 1 + 1; omega) _) (by omega) _ _ _

set_option maxHeartbeats 1600000 in
theorem eqResponse_call (r : RespL) (vh vh' : Value) (w : World) (hh : PAt w vh r.h) (hh' : PAt w vh' r.h) (h2 : r.h.length ≤ 2097152) :
    Calls Tryz.prog 23 #[respV r vh, respV r vh'] w fun e w' => e = .returned (.bool true) ∧ Below w.heap.size w w' := by
  have HH := Lib.hid hh
  have HH' := Lib.hid hh'
  obtain ⟨ah, ch, rfl⟩ := pat_form hh
  obtain ⟨ah', ch', rfl⟩ := pat_form hh'
  clear hh hh'
  have eb := txt_beq r.b r.b
  rw [decide_eq_true rfl] at eb
  unfold respV
  have hba := ((Below.refl w.heap.size w).alloc (Nat.le_refl _) (.cells #[.int .i64 r.c, .slice ah r.h.length ch, .string (txt r.b)] 44)).alloc (by simp) (.cells #[.int .i64 r.c, .slice ah' r.h.length ch', .string (txt r.b)] 44)
  obtain ⟨g0, g1⟩ := alloc2 w (.cells #[.int .i64 r.c, .slice ah r.h.length ch, .string (txt r.b)] 44) (.cells #[.int .i64 r.c, .slice ah' r.h.length ch', .string (txt r.b)] 44)
  have BA := Lib.hid hba
  have G0 := Lib.hid g0
  have G1 := Lib.hid g1
  clear hba g0 g1
  go_enter Tryz.func23, Tryz.ntmps23
  go_wp2_with fail
  refine (eqPairS_call _ _ r.h _ (HH.out.below BA.out) (HH'.out.below BA.out) h2).mono ?_
  rintro e u1 ⟨rfl, b1⟩
  have c1 := BA.out.trans (b1.mono BA.out.size)
  have k0 := (b1.block w.heap.size (by simp; omega)).trans G0.out
  have k1 := (b1.block (w.heap.size + 1) (by simp)).trans G1.out
  have x2 := (box3 k0).2.2.1
  have x2' := (box3 k1).2.2.1
  clear k0 k1
  go_wp2
  go_ret
  exact ⟨rfl, c1⟩

end Ht
end Go.Proofs.YtdgfiebehnfpgaaGreatDoor
