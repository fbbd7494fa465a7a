/- CONTRACT of the model's l06Part: one attribute. -/
import Derived.Test.YtdgfiebehnfpgaaGreatDoorCkT
import Derived.Test.YtdgfiebehnfpgaaGreatDoorCkL
namespace Go.Proofs.YtdgfiebehnfpgaaGreatDoor
set_option linter.unusedVariables false
set_option maxRecDepth 4000
open Go.ChangeShapes Go.WideShapes Go.ChangeAt Go.RowKit
open Go.ChangeMaps (open_string shut_string)

namespace Ck
open Ht

def set6 (W : World) (b : Nat) (v0 v1 v2 v3 v4 v5 : Value) : World := (((((W.setCell ⟨b, 0, none⟩ v0).setCell ⟨b, 1, none⟩ v1).setCell ⟨b, 2, none⟩ v2).setCell ⟨b, 3, none⟩ v3).setCell ⟨b, 4, none⟩ v4).setCell ⟨b, 5, none⟩ v5

theorem set6_heap (W : World) (b g : Nat) (v0 v1 v2 v3 v4 v5 : Value) (h : g ≠ b) : (set6 W b v0 v1 v2 v3 v4 v5).heap[g]? = W.heap[g]? := by
  unfold set6
  rw [Below.heap_setCell _ _ _ _ h, Below.heap_setCell _ _ _ _ h, Below.heap_setCell _ _ _ _ h, Below.heap_setCell _ _ _ _ h, Below.heap_setCell _ _ _ _ h, Below.heap_setCell _ _ _ _ h]

theorem set6_same {W : World} {b : Nat} {t : TypeId} {a0 a1 a2 a3 a4 a5 : Value} (h : W.heap[b]? = some (.cells #[a0, a1, a2, a3, a4, a5] t (0, 0))) (v0 v1 v2 v3 v4 v5 : Value) :
    (set6 W b v0 v1 v2 v3 v4 v5).heap[b]? = some (.cells #[v0, v1, v2, v3, v4, v5] t (0, 0)) := by
  have h0 := heap_setCell_same W b 0 _ _ v0 h
  have h1 := heap_setCell_same _ b 1 _ _ v1 h0
  have h2 := heap_setCell_same _ b 2 _ _ v2 h1
  have h3 := heap_setCell_same _ b 3 _ _ v3 h2
  have h4 := heap_setCell_same _ b 4 _ _ v4 h3
  have h5 := heap_setCell_same _ b 5 _ _ v5 h4
  unfold set6
  rw [h5]
  rfl

theorem set6_below {B b : Nat} {W0 W : World} (h : Below B W0 W) (hb : B ≤ b) (v0 v1 v2 v3 v4 v5 : Value) : Below B W0 (set6 W b v0 v1 v2 v3 v4 v5) :=
  (((((h.setCell (p := ⟨b, 0, none⟩) hb _).setCell (p := ⟨b, 1, none⟩) hb _).setCell (p := ⟨b, 2, none⟩) hb _).setCell (p := ⟨b, 3, none⟩) hb _).setCell (p := ⟨b, 4, none⟩) hb _).setCell (p := ⟨b, 5, none⟩) hb _

theorem set6_size (W : World) (b : Nat) (v0 v1 v2 v3 v4 v5 : Value) : (set6 W b v0 v1 v2 v3 v4 v5).heap.size = W.heap.size := by
  unfold set6
  simp

theorem alloc2c (w : World) (A B : Obj) : ((w.alloc A).alloc B).heap[w.heap.size]? = some A ∧ ((w.alloc A).alloc B).heap[w.heap.size + 1]? = some B := by
  refine ⟨?_, ?_⟩
  · show ((w.heap.push A).push B)[w.heap.size]? = _
    rw [Array.getElem?_push, if_neg (by simp), Array.getElem?_push, if_pos rfl]
  · show ((w.heap.push A).push B)[w.heap.size + 1]? = _
    rw [Array.getElem?_push, if_pos (by simp)]

def kPath : List UInt8 := [112, 97, 116, 104]
def kDom : List UInt8 := [100, 111, 109, 97, 105, 110]
def kAge : List UInt8 := [109, 97, 120, 45, 97, 103, 101]

theorem key_lit (k : List UInt8) (l : List UInt8) : ((txt k).toList == l) = (k == l) := by
  rw [Lib.toList_data, txt_toList]

theorem doAt_path (now : Int) (c : CkL) (v : List UInt8) : doAt now c kPath v = if pathL v then { c with p := v } else c := by
  unfold doAt
  rw [if_pos (by decide)]

theorem doAt_dom (now : Int) (c : CkL) (v : List UInt8) : doAt now c kDom v = { c with d := lowL (dropDot v), o := false } := by
  unfold doAt
  rw [if_neg (by decide), if_pos (by decide)]

theorem doAt_age (now : Int) (c : CkL) (v : List UInt8) : doAt now c kAge v = if v.head? = some 45 then { c with u := now } else if 0 ≤ rdV v then { c with u := now + rdV v } else c := by
  unfold doAt
  rw [if_neg (by decide), if_neg (by decide), if_pos (by decide)]

theorem doAt_other (now : Int) (c : CkL) (k v : List UInt8) (h1 : k ≠ kPath) (h2 : k ≠ kDom) (h3 : k ≠ kAge) : doAt now c k v = c := by
  unfold kPath at h1
  unfold kDom at h2
  unfold kAge at h3
  unfold doAt
  rw [if_neg h1, if_neg h2, if_neg h3]

theorem rdV_le (l : List UInt8) : -1 ≤ rdV l ∧ rdV l ≤ 999999999999 := by
  unfold rdV
  split
  · rename_i h
    obtain ⟨h1, _, h3, _⟩ := h
    have := val_lt l h3
    have h2 : (10 : Nat) ^ l.length ≤ 10 ^ 12 := Nat.pow_le_pow_right (by omega) h1
    omega
  · omega

theorem rdV_dash (r : List UInt8) : rdV (45 :: r) = -1 := by
  refine rd_no _ ?_
  rintro ⟨_, _, h3, _⟩
  have := h3 45 List.mem_cons_self
  revert this
  decide

theorem int_byte46 (b : UInt8) (h : ((b.toNat : Nat) : Int) = 46) : some b = some (46 : UInt8) := by
  congr 1
  exact UInt8.toNat_inj.1 (by show b.toNat = 46; omega)

theorem int_byte45 (b : UInt8) (h : ((b.toNat : Nat) : Int) = 45) : some b = some (45 : UInt8) := by
  congr 1
  exact UInt8.toNat_inj.1 (by show b.toNat = 45; omega)

set_option maxHeartbeats 3200000 in
theorem l06Part_path (c : CkL) (k v : List UInt8) (now : Int) (w : World) (hv : v.length ≤ 1048576) (hn1 : 0 ≤ now) (hn2 : now ≤ 999999999999) (h1 : k = kPath) :
    Calls Tryz.prog 102 #[ckV c, .string (txt k), .string (txt v), .int .i64 now] w fun e w' => e = .returned (ckV (doAt now c k v)) ∧ Below w.heap.size w w' := by
  have e1 := key_lit k kPath
  have e2 := key_lit k kDom
  have e3 := key_lit k kAge
  unfold kPath at e1
  unfold kDom at e2
  unfold kAge at e3
  unfold ckV
  · subst h1
    rw [doAt_path]
    have PA := Lib.hid (fun wx => path_spec (txt v) wx (by rw [txt_size]; omega))
    rw [txt_toList] at PA
    unfold kPath at e1 ⊢
    simp only [beq_self_eq_true] at e1
    clear e2 e3
    generalize txt [112, 97, 116, 104] = kt at e1 ⊢
    cases hp : pathL v with
    | false =>
      rw [hp] at PA
      clear hp
      obtain ⟨g0, g1⟩ := alloc2c w (.cells #[.string (txt c.n), .string (txt c.v), .string (txt c.d), .bool c.o, .string (txt c.p), .int .i64 c.u] 87) (.cells #[.string (txt c.n), .string (txt c.v), .string (txt c.d), .bool c.o, .string (txt c.p), .int .i64 c.u] 87)
      have G1 := Lib.hid g1
      have BA := Lib.hid (((Below.refl w.heap.size w).alloc (Nat.le_refl _) (.cells #[.string (txt c.n), .string (txt c.v), .string (txt c.d), .bool c.o, .string (txt c.p), .int .i64 c.u] 87)).alloc (by simp) (.cells #[.string (txt c.n), .string (txt c.v), .string (txt c.d), .bool c.o, .string (txt c.p), .int .i64 c.u] 87))
      clear g0 g1
      go_enter Tryz.func102, Tryz.ntmps102
      go_wp2_with fail
      refine (PA.out _).mono ?_
      rintro e w1 ⟨rfl, rfl⟩
      go_wp2
      refine bodyPost_ret (v := .agg #[.string (txt c.n), .string (txt c.v), .string (txt c.d), .bool c.o, .string (txt c.p), .int .i64 c.u]) ?_ rfl ⟨rfl, BA.out⟩
      rw [results_cell_one rfl]
      have hld := run_loadVar_row (P := Tryz.prog) _ (w.heap.size + 1) 87 87 _ (0, 0) _ G1.out Tryz.underlying87 rfl (by rw [ck_info]; rfl)
      simp [asAddr, Result.andThen, hld]
    | true =>
      rw [hp] at PA
      clear hp
      obtain ⟨g0, g1⟩ := alloc2c w (.cells #[.string (txt c.n), .string (txt c.v), .string (txt c.d), .bool c.o, .string (txt v), .int .i64 c.u] 87) (.cells #[.string (txt c.n), .string (txt c.v), .string (txt c.d), .bool c.o, .string (txt v), .int .i64 c.u] 87)
      have G1 := Lib.hid g1
      have BA := Lib.hid (((Below.refl w.heap.size w).alloc (Nat.le_refl _) (.cells #[.string (txt c.n), .string (txt c.v), .string (txt c.d), .bool c.o, .string (txt v), .int .i64 c.u] 87)).alloc (by simp) (.cells #[.string (txt c.n), .string (txt c.v), .string (txt c.d), .bool c.o, .string (txt v), .int .i64 c.u] 87))
      clear g0 g1
      go_enter Tryz.func102, Tryz.ntmps102
      go_wp2_with fail
      refine (PA.out _).mono ?_
      rintro e w1 ⟨rfl, rfl⟩
      go_wp2
      refine bodyPost_ret (v := .agg #[.string (txt c.n), .string (txt c.v), .string (txt c.d), .bool c.o, .string (txt v), .int .i64 c.u]) ?_ rfl ⟨rfl, BA.out⟩
      rw [results_cell_one rfl]
      have hld := run_loadVar_row (P := Tryz.prog) _ (w.heap.size + 1) 87 87 _ (0, 0) _ G1.out Tryz.underlying87 rfl (by rw [ck_info]; rfl)
      simp [asAddr, Result.andThen, hld]

set_option maxHeartbeats 3200000 in
theorem l06Part_dom (c : CkL) (k v : List UInt8) (now : Int) (w : World) (hv : v.length ≤ 1048576) (hn1 : 0 ≤ now) (hn2 : now ≤ 999999999999) (h1 : k ≠ kPath) (h2 : k = kDom) :
    Calls Tryz.prog 102 #[ckV c, .string (txt k), .string (txt v), .int .i64 now] w fun e w' => e = .returned (ckV (doAt now c k v)) ∧ Below w.heap.size w w' := by
  have e1 := key_lit k kPath
  have e2 := key_lit k kDom
  have e3 := key_lit k kAge
  unfold kPath at e1
  unfold kDom at e2
  unfold kAge at e3
  unfold ckV
  have f1 : (k == [112, 97, 116, 104]) = false := by unfold kPath at h1; simpa using h1
  rw [f1] at e1
  clear f1
  · subst h2
    rw [doAt_dom]
    unfold kDom at e1 e2 h1 ⊢
    simp only [beq_self_eq_true] at e2
    clear e3 h1
    generalize txt [100, 111, 109, 97, 105, 110] = kt at e1 e2 ⊢
    by_cases h0 : v = []
    · subst h0
      have LO := Lib.hid (fun wx => lower_spec (txt []) wx (by rw [txt_size]; simp))
      rw [txt_toList] at LO
      rw [show dropDot [] = [] from rfl]
      rw [show (txt [] : ByteArray) = ⟨#[]⟩ from rfl] at LO ⊢
      generalize lowL [] = dd at LO ⊢
      obtain ⟨g0, g1⟩ := alloc2c w (.cells #[.string (txt c.n), .string (txt c.v), .string (txt c.d), .bool c.o, .string (txt c.p), .int .i64 c.u] 87) (.cells #[.string ⟨#[]⟩, .string ⟨#[]⟩, .string ⟨#[]⟩, .bool false, .string ⟨#[]⟩, .int .i64 0] 87)
      have BA := Lib.hid (((Below.refl w.heap.size w).alloc (Nat.le_refl _) (.cells #[.string (txt c.n), .string (txt c.v), .string (txt c.d), .bool c.o, .string (txt c.p), .int .i64 c.u] 87)).alloc (by simp) (.cells #[.string ⟨#[]⟩, .string ⟨#[]⟩, .string ⟨#[]⟩, .bool false, .string ⟨#[]⟩, .int .i64 0] 87))
      have G0 := Lib.hid g0
      have G1 := Lib.hid g1
      clear g0 g1
      go_enter Tryz.func102, Tryz.ntmps102
      go_wp2_with fail
      refine (LO.out _).mono ?_
      rintro e w1 ⟨rfl, b1⟩
      have c1 := BA.out.trans (b1.mono BA.out.size)
      have k0 := (b1.block w.heap.size (by simp; omega)).trans G0.out
      have k1 := (b1.block (w.heap.size + 1) (by simp)).trans G1.out
      have F1 := Lib.hid (set6_same ((Below.heap_setCell ((w1).setCell ⟨w.heap.size, 2, none⟩ (.string (txt dd))) ⟨w.heap.size, 3, none⟩ (.bool false) (w.heap.size + 1) (by simp)).trans ((Below.heap_setCell (w1) ⟨w.heap.size, 2, none⟩ (.string (txt dd)) (w.heap.size + 1) (by simp)).trans (k1))) (.string (txt c.n)) (.string (txt c.v)) (.string (txt dd)) (.bool false) (.string (txt c.p)) (.int .i64 c.u))
      have BB := Lib.hid (set6_below (b := w.heap.size + 1) ((c1.setCell (p := ⟨w.heap.size, 2, none⟩) (Nat.le_refl _) (.string (txt dd))).setCell (p := ⟨w.heap.size, 3, none⟩) (Nat.le_refl _) (.bool false)) (by omega) (.string (txt c.n)) (.string (txt c.v)) (.string (txt dd)) (.bool false) (.string (txt c.p)) (.int .i64 c.u))
      obtain ⟨x0, x1, x2, x3, x4, x5, f0, f1, f2, f3, f4, f5⟩ := box6 k0
      obtain ⟨y0, y1, y2, y3, y4, y5, q0, q1, q2, q3, q4, q5⟩ := box6 k1
      clear k0 k1 c1
      go_wp2
      refine bodyPost_ret (v := .agg #[.string (txt c.n), .string (txt c.v), .string (txt dd), .bool false, .string (txt c.p), .int .i64 c.u]) ?_ rfl ⟨rfl, BB.out⟩
      rw [results_cell_one rfl]
      have hld := run_loadVar_row (P := Tryz.prog) _ (w.heap.size + 1) 87 87 _ (0, 0) _ F1.out Tryz.underlying87 rfl (by rw [ck_info]; rfl)
      unfold set6 at hld
      simp [asAddr, Result.andThen, hld]
    · have hne := txt_ne v h0
      have hz := txt_size v
      have hpos : 0 < v.length := List.length_pos_iff.2 h0
      have i0 : (0 : Int) < (v.length : Int) := by omega
      have hsz : 0 < (txt v).size := by omega
      have hhd := head_at (txt v) hsz
      rw [txt_toList] at hhd
      by_cases h46 : (((txt v)[0].toNat : Nat) : Int) = 46
      · have hdd : dropDot v = v.drop 1 := by
          unfold dropDot
          rw [if_pos]
          rw [hhd, int_byte46 _ h46]
        have hsl : ∀ wx, (Instr.slice 9 (.string (txt v)) (some (.int .i64 1)) none none).run Tryz.prog wx = .ok (.string (txt (v.drop 1))) wx := fun wx => by
          rw [run_slice_string_l wx 9 (txt v) Tryz.underlying9 .i64 1 (by omega) (by omega)]
          have e1 : (1 : Int).toNat = 1 := rfl
          rw [e1, Lib.extract_from]
          rfl
        have LO := Lib.hid (fun wx => lower_spec (txt (v.drop 1)) wx (by rw [txt_size]; simp; omega))
        rw [txt_toList] at LO
        rw [hdd]
        generalize lowL (v.drop 1) = dd at LO ⊢
        generalize txt (v.drop 1) = tv at LO hsl
        clear hdd hhd h0
        obtain ⟨g0, g1⟩ := alloc2c w (.cells #[.string (txt c.n), .string (txt c.v), .string (txt c.d), .bool c.o, .string (txt c.p), .int .i64 c.u] 87) (.cells #[.string ⟨#[]⟩, .string ⟨#[]⟩, .string ⟨#[]⟩, .bool false, .string ⟨#[]⟩, .int .i64 0] 87)
        have BA := Lib.hid (((Below.refl w.heap.size w).alloc (Nat.le_refl _) (.cells #[.string (txt c.n), .string (txt c.v), .string (txt c.d), .bool c.o, .string (txt c.p), .int .i64 c.u] 87)).alloc (by simp) (.cells #[.string ⟨#[]⟩, .string ⟨#[]⟩, .string ⟨#[]⟩, .bool false, .string ⟨#[]⟩, .int .i64 0] 87))
        have G0 := Lib.hid g0
        have G1 := Lib.hid g1
        clear g0 g1
        go_enter Tryz.func102, Tryz.ntmps102
        go_wp2_with fail
        refine (LO.out _).mono ?_
        rintro e w1 ⟨rfl, b1⟩
        have c1 := BA.out.trans (b1.mono BA.out.size)
        have k0 := (b1.block w.heap.size (by simp; omega)).trans G0.out
        have k1 := (b1.block (w.heap.size + 1) (by simp)).trans G1.out
        have F1 := Lib.hid (set6_same ((Below.heap_setCell ((w1).setCell ⟨w.heap.size, 2, none⟩ (.string (txt dd))) ⟨w.heap.size, 3, none⟩ (.bool false) (w.heap.size + 1) (by simp)).trans ((Below.heap_setCell (w1) ⟨w.heap.size, 2, none⟩ (.string (txt dd)) (w.heap.size + 1) (by simp)).trans (k1))) (.string (txt c.n)) (.string (txt c.v)) (.string (txt dd)) (.bool false) (.string (txt c.p)) (.int .i64 c.u))
        have BB := Lib.hid (set6_below (b := w.heap.size + 1) ((c1.setCell (p := ⟨w.heap.size, 2, none⟩) (Nat.le_refl _) (.string (txt dd))).setCell (p := ⟨w.heap.size, 3, none⟩) (Nat.le_refl _) (.bool false)) (by omega) (.string (txt c.n)) (.string (txt c.v)) (.string (txt dd)) (.bool false) (.string (txt c.p)) (.int .i64 c.u))
        obtain ⟨x0, x1, x2, x3, x4, x5, f0, f1, f2, f3, f4, f5⟩ := box6 k0
        obtain ⟨y0, y1, y2, y3, y4, y5, q0, q1, q2, q3, q4, q5⟩ := box6 k1
        clear k0 k1 c1
        go_wp2
        refine bodyPost_ret (v := .agg #[.string (txt c.n), .string (txt c.v), .string (txt dd), .bool false, .string (txt c.p), .int .i64 c.u]) ?_ rfl ⟨rfl, BB.out⟩
        rw [results_cell_one rfl]
        have hld := run_loadVar_row (P := Tryz.prog) _ (w.heap.size + 1) 87 87 _ (0, 0) _ F1.out Tryz.underlying87 rfl (by rw [ck_info]; rfl)
        unfold set6 at hld
        simp [asAddr, Result.andThen, hld]
      · have hdd : dropDot v = v := by
          unfold dropDot
          rw [if_neg]
          intro e
          rw [hhd] at e
          injection e with e
          apply h46
          rw [e]
          rfl
        have e46 : ((((txt v)[0].toNat : Nat) : Int) == 46) = false := by simpa using h46
        have LO := Lib.hid (fun wx => lower_spec (txt v) wx (by rw [txt_size]; omega))
        rw [txt_toList] at LO
        rw [hdd]
        generalize lowL v = dd at LO ⊢
        clear hdd hhd h0 h46
        obtain ⟨g0, g1⟩ := alloc2c w (.cells #[.string (txt c.n), .string (txt c.v), .string (txt c.d), .bool c.o, .string (txt c.p), .int .i64 c.u] 87) (.cells #[.string ⟨#[]⟩, .string ⟨#[]⟩, .string ⟨#[]⟩, .bool false, .string ⟨#[]⟩, .int .i64 0] 87)
        have BA := Lib.hid (((Below.refl w.heap.size w).alloc (Nat.le_refl _) (.cells #[.string (txt c.n), .string (txt c.v), .string (txt c.d), .bool c.o, .string (txt c.p), .int .i64 c.u] 87)).alloc (by simp) (.cells #[.string ⟨#[]⟩, .string ⟨#[]⟩, .string ⟨#[]⟩, .bool false, .string ⟨#[]⟩, .int .i64 0] 87))
        have G0 := Lib.hid g0
        have G1 := Lib.hid g1
        clear g0 g1
        go_enter Tryz.func102, Tryz.ntmps102
        go_wp2_with fail
        refine (LO.out _).mono ?_
        rintro e w1 ⟨rfl, b1⟩
        have c1 := BA.out.trans (b1.mono BA.out.size)
        have k0 := (b1.block w.heap.size (by simp; omega)).trans G0.out
        have k1 := (b1.block (w.heap.size + 1) (by simp)).trans G1.out
        have F1 := Lib.hid (set6_same ((Below.heap_setCell ((w1).setCell ⟨w.heap.size, 2, none⟩ (.string (txt dd))) ⟨w.heap.size, 3, none⟩ (.bool false) (w.heap.size + 1) (by simp)).trans ((Below.heap_setCell (w1) ⟨w.heap.size, 2, none⟩ (.string (txt dd)) (w.heap.size + 1) (by simp)).trans (k1))) (.string (txt c.n)) (.string (txt c.v)) (.string (txt dd)) (.bool false) (.string (txt c.p)) (.int .i64 c.u))
        have BB := Lib.hid (set6_below (b := w.heap.size + 1) ((c1.setCell (p := ⟨w.heap.size, 2, none⟩) (Nat.le_refl _) (.string (txt dd))).setCell (p := ⟨w.heap.size, 3, none⟩) (Nat.le_refl _) (.bool false)) (by omega) (.string (txt c.n)) (.string (txt c.v)) (.string (txt dd)) (.bool false) (.string (txt c.p)) (.int .i64 c.u))
        obtain ⟨x0, x1, x2, x3, x4, x5, f0, f1, f2, f3, f4, f5⟩ := box6 k0
        obtain ⟨y0, y1, y2, y3, y4, y5, q0, q1, q2, q3, q4, q5⟩ := box6 k1
        clear k0 k1 c1
        go_wp2
        refine bodyPost_ret (v := .agg #[.string (txt c.n), .string (txt c.v), .string (txt dd), .bool false, .string (txt c.p), .int .i64 c.u]) ?_ rfl ⟨rfl, BB.out⟩
        rw [results_cell_one rfl]
        have hld := run_loadVar_row (P := Tryz.prog) _ (w.heap.size + 1) 87 87 _ (0, 0) _ F1.out Tryz.underlying87 rfl (by rw [ck_info]; rfl)
        unfold set6 at hld
        simp [asAddr, Result.andThen, hld]

set_option maxHeartbeats 3200000 in
theorem l06Part_age (c : CkL) (k v : List UInt8) (now : Int) (w : World) (hv : v.length ≤ 1048576) (hn1 : 0 ≤ now) (hn2 : now ≤ 999999999999) (h1 : k ≠ kPath) (h2 : k ≠ kDom) (h3 : k = kAge) :
    Calls Tryz.prog 102 #[ckV c, .string (txt k), .string (txt v), .int .i64 now] w fun e w' => e = .returned (ckV (doAt now c k v)) ∧ Below w.heap.size w w' := by
  have e1 := key_lit k kPath
  have e2 := key_lit k kDom
  have e3 := key_lit k kAge
  unfold kPath at e1
  unfold kDom at e2
  unfold kAge at e3
  unfold ckV
  have f1 : (k == [112, 97, 116, 104]) = false := by unfold kPath at h1; simpa using h1
  rw [f1] at e1
  clear f1
  have f2 : (k == [100, 111, 109, 97, 105, 110]) = false := by unfold kDom at h2; simpa using h2
  rw [f2] at e2
  clear f2
  · subst h3
    rw [doAt_age]
    unfold kAge at e1 e2 e3 h1 h2 ⊢
    simp only [beq_self_eq_true] at e3
    clear h1 h2
    generalize txt [109, 97, 120, 45, 97, 103, 101] = kt at e1 e2 e3 ⊢
    have RD := Lib.hid (fun wx => readdec_spec (txt v) wx (by rw [txt_size]; omega))
    rw [txt_toList] at RD
    obtain ⟨r1, r2⟩ := rdV_le v
    by_cases h0 : v = []
    · subst h0
      rw [show rdV [] = -1 from by decide] at RD ⊢
      rw [if_neg (by simp), if_neg (by omega)]
      rw [show (txt [] : ByteArray) = ⟨#[]⟩ from rfl] at RD ⊢
      obtain ⟨g0, g1⟩ := alloc2c w (.cells #[.string (txt c.n), .string (txt c.v), .string (txt c.d), .bool c.o, .string (txt c.p), .int .i64 c.u] 87) (.cells #[.string ⟨#[]⟩, .string ⟨#[]⟩, .string ⟨#[]⟩, .bool false, .string ⟨#[]⟩, .int .i64 0] 87)
      have BA := Lib.hid (((Below.refl w.heap.size w).alloc (Nat.le_refl _) (.cells #[.string (txt c.n), .string (txt c.v), .string (txt c.d), .bool c.o, .string (txt c.p), .int .i64 c.u] 87)).alloc (by simp) (.cells #[.string ⟨#[]⟩, .string ⟨#[]⟩, .string ⟨#[]⟩, .bool false, .string ⟨#[]⟩, .int .i64 0] 87))
      have G0 := Lib.hid g0
      have G1 := Lib.hid g1
      clear g0 g1
      go_enter Tryz.func102, Tryz.ntmps102
      go_wp2_with fail
      refine (RD.out _).mono ?_
      rintro e w1 ⟨rfl, b1⟩
      have c1 := BA.out.trans (b1.mono BA.out.size)
      have k0 := (b1.block w.heap.size (by simp; omega)).trans G0.out
      have k1 := (b1.block (w.heap.size + 1) (by simp)).trans G1.out
      have F1 := Lib.hid (set6_same (k1) (.string (txt c.n)) (.string (txt c.v)) (.string (txt c.d)) (.bool c.o) (.string (txt c.p)) (.int .i64 c.u))
      have BB := Lib.hid (set6_below (b := w.heap.size + 1) (c1) (by omega) (.string (txt c.n)) (.string (txt c.v)) (.string (txt c.d)) (.bool c.o) (.string (txt c.p)) (.int .i64 c.u))
      obtain ⟨x0, x1, x2, x3, x4, x5, f0, f1, f2, f3, f4, f5⟩ := box6 k0
      obtain ⟨y0, y1, y2, y3, y4, y5, q0, q1, q2, q3, q4, q5⟩ := box6 k1
      clear k0 k1 c1
      go_wp2
      refine bodyPost_ret (v := .agg #[.string (txt c.n), .string (txt c.v), .string (txt c.d), .bool c.o, .string (txt c.p), .int .i64 c.u]) ?_ rfl ⟨rfl, BB.out⟩
      rw [results_cell_one rfl]
      have hld := run_loadVar_row (P := Tryz.prog) _ (w.heap.size + 1) 87 87 _ (0, 0) _ F1.out Tryz.underlying87 rfl (by rw [ck_info]; rfl)
      unfold set6 at hld
      simp [asAddr, Result.andThen, hld]
    · have hne := txt_ne v h0
      have hz := txt_size v
      have hpos : 0 < v.length := List.length_pos_iff.2 h0
      have i0 : (0 : Int) < (v.length : Int) := by omega
      have hsz : 0 < (txt v).size := by omega
      have hhd := head_at (txt v) hsz
      rw [txt_toList] at hhd
      by_cases h45 : (((txt v)[0].toNat : Nat) : Int) = 45
      · rw [if_pos (by rw [hhd, int_byte45 _ h45])]
        generalize rdV v = n at RD r1 r2
        clear hhd h0
        obtain ⟨g0, g1⟩ := alloc2c w (.cells #[.string (txt c.n), .string (txt c.v), .string (txt c.d), .bool c.o, .string (txt c.p), .int .i64 c.u] 87) (.cells #[.string ⟨#[]⟩, .string ⟨#[]⟩, .string ⟨#[]⟩, .bool false, .string ⟨#[]⟩, .int .i64 0] 87)
        have BA := Lib.hid (((Below.refl w.heap.size w).alloc (Nat.le_refl _) (.cells #[.string (txt c.n), .string (txt c.v), .string (txt c.d), .bool c.o, .string (txt c.p), .int .i64 c.u] 87)).alloc (by simp) (.cells #[.string ⟨#[]⟩, .string ⟨#[]⟩, .string ⟨#[]⟩, .bool false, .string ⟨#[]⟩, .int .i64 0] 87))
        have G0 := Lib.hid g0
        have G1 := Lib.hid g1
        clear g0 g1
        go_enter Tryz.func102, Tryz.ntmps102
        go_wp2_with fail
        refine (RD.out _).mono ?_
        rintro e w1 ⟨rfl, b1⟩
        have c1 := BA.out.trans (b1.mono BA.out.size)
        have k0 := (b1.block w.heap.size (by simp; omega)).trans G0.out
        have k1 := (b1.block (w.heap.size + 1) (by simp)).trans G1.out
        have F1 := Lib.hid (set6_same ((Below.heap_setCell (w1) ⟨w.heap.size, 5, none⟩ (.int .i64 now) (w.heap.size + 1) (by simp)).trans (k1)) (.string (txt c.n)) (.string (txt c.v)) (.string (txt c.d)) (.bool c.o) (.string (txt c.p)) (.int .i64 now))
        have BB := Lib.hid (set6_below (b := w.heap.size + 1) (c1.setCell (p := ⟨w.heap.size, 5, none⟩) (Nat.le_refl _) (.int .i64 now)) (by omega) (.string (txt c.n)) (.string (txt c.v)) (.string (txt c.d)) (.bool c.o) (.string (txt c.p)) (.int .i64 now))
        obtain ⟨x0, x1, x2, x3, x4, x5, f0, f1, f2, f3, f4, f5⟩ := box6 k0
        obtain ⟨y0, y1, y2, y3, y4, y5, q0, q1, q2, q3, q4, q5⟩ := box6 k1
        clear k0 k1 c1
        go_wp2
        refine bodyPost_ret (v := .agg #[.string (txt c.n), .string (txt c.v), .string (txt c.d), .bool c.o, .string (txt c.p), .int .i64 now]) ?_ rfl ⟨rfl, BB.out⟩
        rw [results_cell_one rfl]
        have hld := run_loadVar_row (P := Tryz.prog) _ (w.heap.size + 1) 87 87 _ (0, 0) _ F1.out Tryz.underlying87 rfl (by rw [ck_info]; rfl)
        unfold set6 at hld
        simp [asAddr, Result.andThen, hld]
      · rw [if_neg (by
          intro e
          rw [hhd] at e
          injection e with e
          apply h45
          rw [e]
          rfl)]
        have e45 : ((((txt v)[0].toNat : Nat) : Int) == 45) = false := by simpa using h45
        generalize rdV v = n at RD r1 r2 ⊢
        clear hhd h0 h45
        by_cases hn : 0 ≤ n
        · rw [if_pos hn]
          obtain ⟨g0, g1⟩ := alloc2c w (.cells #[.string (txt c.n), .string (txt c.v), .string (txt c.d), .bool c.o, .string (txt c.p), .int .i64 c.u] 87) (.cells #[.string ⟨#[]⟩, .string ⟨#[]⟩, .string ⟨#[]⟩, .bool false, .string ⟨#[]⟩, .int .i64 0] 87)
          have BA := Lib.hid (((Below.refl w.heap.size w).alloc (Nat.le_refl _) (.cells #[.string (txt c.n), .string (txt c.v), .string (txt c.d), .bool c.o, .string (txt c.p), .int .i64 c.u] 87)).alloc (by simp) (.cells #[.string ⟨#[]⟩, .string ⟨#[]⟩, .string ⟨#[]⟩, .bool false, .string ⟨#[]⟩, .int .i64 0] 87))
          have G0 := Lib.hid g0
          have G1 := Lib.hid g1
          clear g0 g1
          go_enter Tryz.func102, Tryz.ntmps102
          go_wp2_with fail
          refine (RD.out _).mono ?_
          rintro e w1 ⟨rfl, b1⟩
          have c1 := BA.out.trans (b1.mono BA.out.size)
          have k0 := (b1.block w.heap.size (by simp; omega)).trans G0.out
          have k1 := (b1.block (w.heap.size + 1) (by simp)).trans G1.out
          have F1 := Lib.hid (set6_same ((Below.heap_setCell (w1) ⟨w.heap.size, 5, none⟩ (.int .i64 (now + n)) (w.heap.size + 1) (by simp)).trans (k1)) (.string (txt c.n)) (.string (txt c.v)) (.string (txt c.d)) (.bool c.o) (.string (txt c.p)) (.int .i64 (now + n)))
          have BB := Lib.hid (set6_below (b := w.heap.size + 1) (c1.setCell (p := ⟨w.heap.size, 5, none⟩) (Nat.le_refl _) (.int .i64 (now + n))) (by omega) (.string (txt c.n)) (.string (txt c.v)) (.string (txt c.d)) (.bool c.o) (.string (txt c.p)) (.int .i64 (now + n)))
          obtain ⟨x0, x1, x2, x3, x4, x5, f0, f1, f2, f3, f4, f5⟩ := box6 k0
          obtain ⟨y0, y1, y2, y3, y4, y5, q0, q1, q2, q3, q4, q5⟩ := box6 k1
          clear k0 k1 c1
          go_wp2
          refine bodyPost_ret (v := .agg #[.string (txt c.n), .string (txt c.v), .string (txt c.d), .bool c.o, .string (txt c.p), .int .i64 (now + n)]) ?_ rfl ⟨rfl, BB.out⟩
          rw [results_cell_one rfl]
          have hld := run_loadVar_row (P := Tryz.prog) _ (w.heap.size + 1) 87 87 _ (0, 0) _ F1.out Tryz.underlying87 rfl (by rw [ck_info]; rfl)
          unfold set6 at hld
          simp [asAddr, Result.andThen, hld]
        · rw [if_neg hn]
          obtain rfl : n = -1 := by omega
          clear hn r1 r2
          obtain ⟨g0, g1⟩ := alloc2c w (.cells #[.string (txt c.n), .string (txt c.v), .string (txt c.d), .bool c.o, .string (txt c.p), .int .i64 c.u] 87) (.cells #[.string ⟨#[]⟩, .string ⟨#[]⟩, .string ⟨#[]⟩, .bool false, .string ⟨#[]⟩, .int .i64 0] 87)
          have BA := Lib.hid (((Below.refl w.heap.size w).alloc (Nat.le_refl _) (.cells #[.string (txt c.n), .string (txt c.v), .string (txt c.d), .bool c.o, .string (txt c.p), .int .i64 c.u] 87)).alloc (by simp) (.cells #[.string ⟨#[]⟩, .string ⟨#[]⟩, .string ⟨#[]⟩, .bool false, .string ⟨#[]⟩, .int .i64 0] 87))
          have G0 := Lib.hid g0
          have G1 := Lib.hid g1
          clear g0 g1
          go_enter Tryz.func102, Tryz.ntmps102
          go_wp2_with fail
          refine (RD.out _).mono ?_
          rintro e w1 ⟨rfl, b1⟩
          have c1 := BA.out.trans (b1.mono BA.out.size)
          have k0 := (b1.block w.heap.size (by simp; omega)).trans G0.out
          have k1 := (b1.block (w.heap.size + 1) (by simp)).trans G1.out
          have F1 := Lib.hid (set6_same (k1) (.string (txt c.n)) (.string (txt c.v)) (.string (txt c.d)) (.bool c.o) (.string (txt c.p)) (.int .i64 c.u))
          have BB := Lib.hid (set6_below (b := w.heap.size + 1) (c1) (by omega) (.string (txt c.n)) (.string (txt c.v)) (.string (txt c.d)) (.bool c.o) (.string (txt c.p)) (.int .i64 c.u))
          obtain ⟨x0, x1, x2, x3, x4, x5, f0, f1, f2, f3, f4, f5⟩ := box6 k0
          obtain ⟨y0, y1, y2, y3, y4, y5, q0, q1, q2, q3, q4, q5⟩ := box6 k1
          clear k0 k1 c1
          go_wp2
          refine bodyPost_ret (v := .agg #[.string (txt c.n), .string (txt c.v), .string (txt c.d), .bool c.o, .string (txt c.p), .int .i64 c.u]) ?_ rfl ⟨rfl, BB.out⟩
          rw [results_cell_one rfl]
          have hld := run_loadVar_row (P := Tryz.prog) _ (w.heap.size + 1) 87 87 _ (0, 0) _ F1.out Tryz.underlying87 rfl (by rw [ck_info]; rfl)
          unfold set6 at hld
          simp [asAddr, Result.andThen, hld]

set_option maxHeartbeats 3200000 in
theorem l06Part_other (c : CkL) (k v : List UInt8) (now : Int) (w : World) (hv : v.length ≤ 1048576) (hn1 : 0 ≤ now) (hn2 : now ≤ 999999999999) (h1 : k ≠ kPath) (h2 : k ≠ kDom) (h3 : k ≠ kAge) :
    Calls Tryz.prog 102 #[ckV c, .string (txt k), .string (txt v), .int .i64 now] w fun e w' => e = .returned (ckV (doAt now c k v)) ∧ Below w.heap.size w w' := by
  have e1 := key_lit k kPath
  have e2 := key_lit k kDom
  have e3 := key_lit k kAge
  unfold kPath at e1
  unfold kDom at e2
  unfold kAge at e3
  unfold ckV
  have f1 : (k == [112, 97, 116, 104]) = false := by unfold kPath at h1; simpa using h1
  rw [f1] at e1
  clear f1
  have f2 : (k == [100, 111, 109, 97, 105, 110]) = false := by unfold kDom at h2; simpa using h2
  rw [f2] at e2
  clear f2
  · have f3 : (k == [109, 97, 120, 45, 97, 103, 101]) = false := by unfold kAge at h3; simpa using h3
    rw [f3] at e3
    rw [doAt_other now c k v h1 h2 h3]
    clear f3 h1 h2 h3
    generalize txt k = kt at e1 e2 e3 ⊢
    obtain ⟨g0, g1⟩ := alloc2c w (.cells #[.string (txt c.n), .string (txt c.v), .string (txt c.d), .bool c.o, .string (txt c.p), .int .i64 c.u] 87) (.cells #[.string (txt c.n), .string (txt c.v), .string (txt c.d), .bool c.o, .string (txt c.p), .int .i64 c.u] 87)
    have G1 := Lib.hid g1
    have BA := Lib.hid (((Below.refl w.heap.size w).alloc (Nat.le_refl _) (.cells #[.string (txt c.n), .string (txt c.v), .string (txt c.d), .bool c.o, .string (txt c.p), .int .i64 c.u] 87)).alloc (by simp) (.cells #[.string (txt c.n), .string (txt c.v), .string (txt c.d), .bool c.o, .string (txt c.p), .int .i64 c.u] 87))
    clear g0 g1
    go_enter Tryz.func102, Tryz.ntmps102
    go_wp2
    refine bodyPost_ret (v := .agg #[.string (txt c.n), .string (txt c.v), .string (txt c.d), .bool c.o, .string (txt c.p), .int .i64 c.u]) ?_ rfl ⟨rfl, BA.out⟩
    rw [results_cell_one rfl]
    have hld := run_loadVar_row (P := Tryz.prog) _ (w.heap.size + 1) 87 87 _ (0, 0) _ G1.out Tryz.underlying87 rfl (by rw [ck_info]; rfl)
    simp [asAddr, Result.andThen, hld]

theorem l06Part_call (c : CkL) (k v : List UInt8) (now : Int) (w : World) (hv : v.length ≤ 1048576) (hn1 : 0 ≤ now) (hn2 : now ≤ 999999999999) :
    Calls Tryz.prog 102 #[ckV c, .string (txt k), .string (txt v), .int .i64 now] w fun e w' => e = .returned (ckV (doAt now c k v)) ∧ Below w.heap.size w w' := by
  by_cases h1 : k = kPath
  · exact l06Part_path c k v now w hv hn1 hn2 h1
  by_cases h2 : k = kDom
  · exact l06Part_dom c k v now w hv hn1 hn2 h1 h2
  by_cases h3 : k = kAge
  · exact l06Part_age c k v now w hv hn1 hn2 h1 h2 h3
  exact l06Part_other c k v now w hv hn1 hn2 h1 h2 h3

end Ck
end Go.Proofs.YtdgfiebehnfpgaaGreatDoor
