/- CONTRACTS of the program's keyState, macUnder, Mac. -/
import Derived.Test.YtonpalaopnfffaaGreatDoorMacS
import Derived.Test.YtonpalaopnfffaaGreatDoorEndI
import Derived.Lib.BufferWrite
namespace Go.Proofs.YtonpalaopnfffaaGreatDoor
set_option linter.unusedVariables false
set_option maxRecDepth 4000
open Go.ChangeShapes Go.WideShapes Go.ChangeAt Go.RowKit
open Go.ChangeMaps (open_string shut_string)
open Sh

namespace Mk

/-- the first k bytes turned by the mask, the rest as it was -/
def turnT (K : List UInt8) (m : UInt8) (k : Nat) : List UInt8 := mixK K m k ((filL K).drop k)

theorem turnT_len (K : List UInt8) (m : UInt8) (k : Nat) (h : K.length ≤ 64) : (turnT K m k).length = 64 := by
  have := filL_len K h
  simp [turnT, mixK]; omega

theorem turnT_get (K : List UInt8) (m : UInt8) (k : Nat) (h : K.length ≤ 64) (hk : k < 64) : (cells8 (turnT K m k))[k]? = some (.int .u8 ((((filL K).getD k 0).toNat : Nat) : Int)) := by
  have hl := filL_len K h
  have e2 : (((filL K).take k).map (· ^^^ m)).length = k := by simp; omega
  have e4 : (filL K).getD k 0 = (filL K)[k]'(by omega) := by rw [List.getD_eq_getElem?_getD, List.getElem?_eq_getElem (by omega)]; rfl
  unfold turnT mixK
  rw [cells8_append, List.getElem?_append_right (by rw [cells8_len]; omega), cells8_len, e2, Nat.sub_self, List.drop_eq_getElem_cons (l := filL K) (i := k) (by omega), e4]
  rfl

theorem turnT_set (K : List UInt8) (m : UInt8) (k : Nat) (h : K.length ≤ 64) (hk : k < 64) : (turnT K m k).set k ((filL K).getD k 0 ^^^ m) = turnT K m (k + 1) := by
  have hl := filL_len K h
  have e2 : (((filL K).take k).map (· ^^^ m)).length = k := by simp; omega
  have e3 : (filL K).take (k + 1) = (filL K).take k ++ [(filL K)[k]] := by rw [List.take_succ_eq_append_getElem (by omega)]
  have e4 : (filL K).getD k 0 = (filL K)[k]'(by omega) := by rw [List.getD_eq_getElem?_getD, List.getElem?_eq_getElem (by omega)]; rfl
  unfold turnT mixK
  rw [List.set_append_right _ _ (by omega), e2, Nat.sub_self, List.drop_eq_getElem_cons (l := filL K) (i := k) (by omega), List.set_cons_zero, e3, e4, List.map_append]
  simp only [List.map_cons, List.map_nil, List.append_assoc, List.singleton_append]

theorem turnT_end (K : List UInt8) (m : UInt8) (h : K.length ≤ 64) : turnT K m 64 = (filL K).map (· ^^^ m) := by
  have hl := filL_len K h
  unfold turnT mixK
  rw [List.take_of_length_le (by omega), List.drop_eq_nil_of_le (by omega), List.append_nil]

/-- the array of sixty-four bytes -/
def arr64 (l : List UInt8) : Array Value := (cells8 l).toArray

theorem turnT_zero (K : List UInt8) (m : UInt8) : turnT K m 0 = filL K := by simp [turnT, mixK]

theorem fil_cells (S : ByteArray) (m : UInt8) (h : S.size ≤ 64) : ((arr64 (List.replicate 64 0)).toList.take 0 ++ Lib.byteCells S.data.toList ++ (arr64 (List.replicate 64 0)).toList.drop (0 + S.size)).toArray = arr64 (turnT S.data.toList m 0) := by
  have hb : Lib.byteCells S.data.toList = cells8 S.data.toList := rfl
  have hd := data_length S
  have hr : cells8 (List.replicate 64 0) = List.replicate 64 (.int .u8 0) := by simp only [cells8, List.map_replicate]; rfl
  have hr2 : cells8 (List.replicate (64 - S.size) 0) = List.replicate (64 - S.size) (.int .u8 0) := by simp only [cells8, List.map_replicate]; rfl
  rw [turnT_zero]
  unfold arr64 filL
  rw [hb, Nat.zero_add, hd, cells8_append, hr2, hr, List.take_zero, List.nil_append, List.drop_replicate]

theorem wpList_copy_of {P : Program} {w w' : World} {ops : Array Oper} {rest : List Oper} {o : Oper} {a : Act} {Q : Exit → Act → World → Prop} (hgd : o.guard = none) (d s : Operand) (dT sT : TypeId)
    (ho : o.op = .call { callee := .builtin .copy, args := #[d, s], argTypes := #[dT, sT] }) (dv sv v : Value) (hd : a.eval d = dv) (hs : a.eval s = sv)
    (hrun : (Builtin.copy_ #[dT, sT] o.type #[dv, sv]).run P w = .ok v w') (h : wpList P ops Q rest (a.put o.dst v) w') : wpList P ops Q (o :: rest) a w := by
  refine wpList_plain hgd fun K hK => ?_
  unfold Oper.wp
  simp [execOp, ho, resolve, invoke, builtin, hd, hs, hrun, Result.andThen]
  exact hK _ _ h

theorem key_block (k : List UInt8) (S : ByteArray) (m : UInt8) (h : S.data.toList = keyL k) : (filL S.data.toList).map (· ^^^ m) = padK k m := by
  rw [h]; rfl

/-- the state that so filled and turned a block leads to -/
def stK (K : List UInt8) (m : UInt8) : St := cmp 1 H0 (w16 ((filL K).map (· ^^^ m)) 16)

theorem size64 : (Tryz.prog.info? 152).map (·.size) = some 64 := by kernel_rfl

theorem zero64b : (Tryz.prog.info? 152).map (fun i => (i.zero, i.size)) = some (some (.agg (arr64 (List.replicate 64 0))), 64) := by kernel_rfl

theorem conv64 (W : World) (g : Nat) (F : List UInt8) (hF : F.length = 64) (hG : W.heap[g]? = some (.cells (arr64 F) 152 (0, 0))) : (convert 34 9 (.slice (some ⟨g, 0, none⟩) 64 64)).run Tryz.prog W = .ok (.string (txt F)) W := by
  refine bytes_back (P := Tryz.prog) W 34 9 5 g 64 64 F hF.symm Tryz.underlying34 Tryz.underlying5 Tryz.underlying9 ⟨fun j hj => ?_, fun j hj => frozen_of_row W g j _ _ hG, heap_lt hG⟩
  rw [cell_of_row _ _ _ _ _ _ hG]
  show (cells8 F).toArray[j]? = _
  rw [List.getElem?_toArray]
  simp [cells8, List.getElem?_eq_getElem hj]

theorem keepK (w : World) (F : List UInt8) (CS : Array Value) (P : Program) {W W' : World} (HCV : Hid (∀ W : World, W.heap[w.heap.size + 1]? = some (.cells (arr64 F) 152 (0, 0)) → (convert 34 9 (.slice (some ⟨w.heap.size + 1, 0, none⟩) 64 64)).run P W = .ok (.string (txt F)) W))
    (HSC : Hid (∀ W : World, (∃ c : Array Value, c.size = 8 ∧ W.heap[w.heap.size]? = some (.cells c 143 (0, 0))) → (storeCells ⟨w.heap.size, 0, none⟩ CS.toList 0).run P W = .ok () (W.setRow w.heap.size CS)))
    (hbc : Below W.heap.size W W') (h1 : W.heap[w.heap.size + 1]? = some (.cells (arr64 F) 152 (0, 0))) (h2 : ∃ c : Array Value, c.size = 8 ∧ W.heap[w.heap.size]? = some (.cells c 143 (0, 0))) (h3 : Below w.heap.size w W) :
    W'.heap[w.heap.size + 1]? = some (.cells (arr64 F) 152 (0, 0)) ∧ (∃ c : Array Value, c.size = 8 ∧ W'.heap[w.heap.size]? = some (.cells c 143 (0, 0))) ∧ Below w.heap.size w W' ∧ (convert 34 9 (.slice (some ⟨w.heap.size + 1, 0, none⟩) 64 64)).run P W' = .ok (.string (txt F)) W' ∧ (storeCells ⟨w.heap.size, 0, none⟩ CS.toList 0).run P W' = .ok () (W'.setRow w.heap.size CS) := by
  have g1 := (hbc.block _ (heap_lt h1)).trans h1
  have g2 : ∃ c : Array Value, c.size = 8 ∧ W'.heap[w.heap.size]? = some (.cells c 143 (0, 0)) := by
    obtain ⟨c, hc, hh⟩ := h2
    exact ⟨c, hc, (hbc.block _ (heap_lt hh)).trans hh⟩
  exact ⟨g1, g2, bstep h3 hbc, HCV.out _ g1, HSC.out _ g2⟩

theorem keepS (w : World) (F : List UInt8) (CS : Array Value) (P : Program) {W : World} (HCV : Hid (∀ W : World, W.heap[w.heap.size + 1]? = some (.cells (arr64 F) 152 (0, 0)) → (convert 34 9 (.slice (some ⟨w.heap.size + 1, 0, none⟩) 64 64)).run P W = .ok (.string (txt F)) W))
    (HSC : Hid (∀ W : World, (∃ c : Array Value, c.size = 8 ∧ W.heap[w.heap.size]? = some (.cells c 143 (0, 0))) → (storeCells ⟨w.heap.size, 0, none⟩ CS.toList 0).run P W = .ok () (W.setRow w.heap.size CS))) (h8 : CS.size = 8)
    (h1 : W.heap[w.heap.size + 1]? = some (.cells (arr64 F) 152 (0, 0))) (h2 : ∃ c : Array Value, c.size = 8 ∧ W.heap[w.heap.size]? = some (.cells c 143 (0, 0))) (h3 : Below w.heap.size w W) :
    (W.setRow w.heap.size CS).heap[w.heap.size + 1]? = some (.cells (arr64 F) 152 (0, 0)) ∧ (∃ c : Array Value, c.size = 8 ∧ (W.setRow w.heap.size CS).heap[w.heap.size]? = some (.cells c 143 (0, 0))) ∧ Below w.heap.size w (W.setRow w.heap.size CS) ∧ (convert 34 9 (.slice (some ⟨w.heap.size + 1, 0, none⟩) 64 64)).run P (W.setRow w.heap.size CS) = .ok (.string (txt F)) (W.setRow w.heap.size CS) ∧ (storeCells ⟨w.heap.size, 0, none⟩ CS.toList 0).run P (W.setRow w.heap.size CS) = .ok () ((W.setRow w.heap.size CS).setRow w.heap.size CS) := by
  obtain ⟨c, hc, hh⟩ := h2
  have g1 : (W.setRow w.heap.size CS).heap[w.heap.size + 1]? = some (.cells (arr64 F) 152 (0, 0)) := (setRow_other _ _ _ _ (by omega)).trans h1
  have g2 : ∃ c : Array Value, c.size = 8 ∧ (W.setRow w.heap.size CS).heap[w.heap.size]? = some (.cells c 143 (0, 0)) := ⟨CS, h8, setRow_heap W _ c CS _ _ hh⟩
  exact ⟨g1, g2, below_setRow h3 (Nat.le_refl _) _, HCV.out _ g1, HSC.out _ g2⟩

theorem setRow_has (W : World) (b : Nat) (CS : Array Value) (t : TypeId) (h : ∃ c : Array Value, c.size = 8 ∧ (W.setRow b CS).heap[b]? = some (.cells c t (0, 0))) : (W.setRow b CS).heap[b]? = some (.cells CS t (0, 0)) := by
  obtain ⟨c, hc, hh⟩ := h
  have hlt : b < W.heap.size := by
    have := heap_lt hh
    simpa [World.setRow] using this
  cases hq : W.heap[b] with
  | cells old e fr =>
    have h1 := setRow_heap W b old CS e fr (by rw [Array.getElem?_eq_getElem hlt, hq])
    rw [h1] at hh
    simp only [Option.some.injEq, Obj.cells.injEq] at hh
    obtain ⟨_, rfl, rfl⟩ := hh
    exact h1
  | _ =>
    unfold World.setRow at hh
    simp [Array.getElem?_modify, Array.getElem?_eq_getElem hlt, hq] at hh

theorem store8 (W : World) (b : Nat) (c CS : Array Value) (hc : c.size = 8) (hb : W.heap[b]? = some (.cells c 143 (0, 0))) (hs : CS.size = 8) (h1 : CS.all (·.oneCell') = true) : (storeCells ⟨b, 0, none⟩ CS.toList 0).run Tryz.prog W = .ok () (W.setRow b CS) :=
  run_storeCells_row (P := Tryz.prog) W b 143 c CS hb (by rw [hs]; exact size8) (by omega) h1

set_option maxHeartbeats 1600000 in
theorem keyState_call (S : ByteArray) (m : UInt8) (hm : m = 54 ∨ m = 92) (hS : S.size ≤ 64) (w : World) (hK : W32At w 1 K) :
    Calls Tryz.prog 89 #[.string S, .int .u8 ((m.toNat : Nat) : Int)] w fun e w' => e = .returned (aggS (stK S.data.toList m)) ∧ Below w.heap.size w w' := by
  obtain ⟨i0, hi, hz0, hz1, hz2⟩ := info_parts Tryz.info5
  have hm256 : m.toNat < 256 := m.toNat_lt
  have HKK := Lib.hid hK
  clear hK
  obtain ⟨RV, hRV⟩ : ∃ RV : Value, RV = aggS (stK S.data.toList m) := ⟨_, rfl⟩
  have HRV := Lib.hid hRV
  rw [← hRV]
  clear hRV
  have hcp := fun (wx : World) (ty : TypeId) (hg : wx.heap[w.heap.size + 1]? = some (.cells (arr64 (List.replicate 64 0)) 152 (0, 0))) => Lib.run_copy_row_string (P := Tryz.prog) wx 34 9 ty 5 (w.heap.size + 1) 0 64 64 S (arr64 (List.replicate 64 0)) 152 Tryz.underlying34 (by rw [hi]; simp [hz1]) hg hS (by show 0 + S.size ≤ 64; omega)
  rw [fil_cells S m hS] at hcp
  have hcp2 : ∀ (o : Obj) (ty : TypeId), (Builtin.copy_ #[34, 9] ty #[.slice (some ⟨w.heap.size + 1, 0, none⟩) 64 64, .string S]).run Tryz.prog ((w.alloc o).alloc (.cells #[.int .u8 0, .int .u8 0, .int .u8 0, .int .u8 0, .int .u8 0, .int .u8 0, .int .u8 0, .int .u8 0, .int .u8 0, .int .u8 0, .int .u8 0, .int .u8 0, .int .u8 0, .int .u8 0, .int .u8 0, .int .u8 0, .int .u8 0, .int .u8 0, .int .u8 0, .int .u8 0, .int .u8 0, .int .u8 0, .int .u8 0, .int .u8 0, .int .u8 0, .int .u8 0, .int .u8 0, .int .u8 0, .int .u8 0, .int .u8 0, .int .u8 0, .int .u8 0, .int .u8 0, .int .u8 0, .int .u8 0, .int .u8 0, .int .u8 0, .int .u8 0, .int .u8 0, .int .u8 0, .int .u8 0, .int .u8 0, .int .u8 0, .int .u8 0, .int .u8 0, .int .u8 0, .int .u8 0, .int .u8 0, .int .u8 0, .int .u8 0, .int .u8 0, .int .u8 0, .int .u8 0, .int .u8 0, .int .u8 0, .int .u8 0, .int .u8 0, .int .u8 0, .int .u8 0, .int .u8 0, .int .u8 0, .int .u8 0, .int .u8 0, .int .u8 0] 152)) = .ok (goInt S.size) (((w.alloc o).alloc (.cells (arr64 (List.replicate 64 0)) 152)).setRow (w.heap.size + 1) (arr64 (turnT S.data.toList m 0))) := fun o ty => hcp _ ty (by have hx := heap_alloc_new (w.alloc o) (.cells (arr64 (List.replicate 64 0)) 152); rw [show (w.alloc o).heap.size = w.heap.size + 1 by simp] at hx; exact hx)
  clear hcp
  generalize arr64 (List.replicate 64 0) = z64 at hcp2
  go_enter Tryz.func89, Tryz.ntmps89
  go_wp2
  have G1 : (((w.alloc (.cells (cells32 (List.replicate 8 0)).toArray 143)).alloc (.cells z64 152)).setRow (w.heap.size + 1) (arr64 (turnT S.data.toList m 0))).heap[w.heap.size + 1]? = some (.cells (arr64 (turnT S.data.toList m 0)) 152 (0, 0)) :=
    setRow_heap _ _ z64 _ _ _ (by have hx := heap_alloc_new (w.alloc (.cells (cells32 (List.replicate 8 0)).toArray 143)) (.cells z64 152); rw [show (w.alloc (.cells (cells32 (List.replicate 8 0)).toArray 143)).heap.size = w.heap.size + 1 by simp] at hx; exact hx)
  have G0 : (((w.alloc (.cells (cells32 (List.replicate 8 0)).toArray 143)).alloc (.cells z64 152)).setRow (w.heap.size + 1) (arr64 (turnT S.data.toList m 0))).heap[w.heap.size]? = some (.cells (cells32 (List.replicate 8 0)).toArray 143 (0, 0)) :=
    (setRow_other _ _ _ _ (by omega)).trans ((heap_alloc_old _ _ (by simp)).trans (heap_alloc_new w _))
  have B0 : Below w.heap.size w (((w.alloc (.cells (cells32 (List.replicate 8 0)).toArray 143)).alloc (.cells z64 152)).setRow (w.heap.size + 1) (arr64 (turnT S.data.toList m 0))) :=
    below_setRow (((Below.refl _ w).alloc (Nat.le_refl _) _).alloc (by simp) _) (by omega) _
  go_loopw [10] (fun i wr => ∃ k : Nat, k ≤ 64 ∧ i = .int .i64 k ∧ Hid (wr.heap[w.heap.size + 1]? = some (.cells (arr64 (turnT S.data.toList m k)) 152 (0, 0))) ∧ Hid (wr.heap[w.heap.size]? = some (.cells (cells32 (List.replicate 8 0)).toArray 143 (0, 0))) ∧ Below w.heap.size w wr) (fun i _ => 64 - (intOf i).toNat)
  case atStart => exact ⟨0, by omega, rfl, Lib.hid G1, Lib.hid G0, B0⟩
  case round =>
    clear G1 G0 B0 hcp2
    obtain ⟨k, hk, rfl, G1, G0, hbel⟩ := hrel
    have hdl := data_length S
    by_cases hlt : k < 64
    · have hi0 : (0 : Int) ≤ (k : Int) := by omega
      have hi1 : (k : Int) < 64 := by omega
      have c1 : wr.cell? ⟨w.heap.size + 1, k, none⟩ = some (.int .u8 ((((filL S.data.toList).getD k 0).toNat : Nat) : Int)) := by
        rw [cell_of_row _ _ _ _ _ _ G1.out]
        show (cells8 _).toArray[k]? = _
        rw [List.getElem?_toArray]
        exact turnT_get _ _ _ (by omega) hlt
      have f1 := frozen_of_row wr (w.heap.size + 1) k _ _ G1.out
      have hx := xor_u8 ((filL S.data.toList).getD k 0) m hm
      have HT := Lib.hid (turnT_set S.data.toList m k (by omega) hlt)
      have hh := heap_setCell_same wr (w.heap.size + 1) k (arr64 (turnT S.data.toList m k)) _ (.int .u8 ((((filL S.data.toList).getD k 0 ^^^ m).toNat : Nat) : Int)) G1.out
      have harr : (arr64 (turnT S.data.toList m k)).setIfInBounds k (.int .u8 ((((filL S.data.toList).getD k 0 ^^^ m).toNat : Nat) : Int)) = arr64 (turnT S.data.toList m (k + 1)) := by
        unfold arr64
        rw [List.setIfInBounds_toArray, cells8_set, HT.out]
      rw [harr] at hh
      have HH := Lib.hid hh
      have HO := fun v => (heap_setCell_other wr ⟨w.heap.size + 1, k, none⟩ w.heap.size v (by simp)).trans G0.out
      have HOO := Lib.hid HO
      clear hh harr HT HO
      generalize ((((filL S.data.toList).getD k 0 ^^^ m).toNat : Nat) : Int) = xv at hx HH
      generalize ((((filL S.data.toList).getD k 0).toNat : Nat) : Int) = yv at hx c1
      go_wp2
      exact ⟨⟨k + 1, by omega, by go_num, HH, Lib.hid (HOO.out _), hbel.setCell (p := ⟨w.heap.size + 1, k, none⟩) (by simp) _⟩, by simp [intOf]; omega⟩
    · obtain rfl : k = 64 := by omega
      have hE := turnT_end S.data.toList m (by omega)
      rw [hE] at G1
      have hfl : ((filL S.data.toList).map (· ^^^ m)).length = 64 := by rw [List.length_map]; exact filL_len _ (by omega)
      have SC := Lib.hid (fun wx hk => step_call H0 H0_ok (txt ((filL S.data.toList).map (· ^^^ m))) (by rw [txt_size]; exact hfl) wx hk)
      simp only [txt_toList] at SC
      have HST := Lib.hid (show cmp 1 H0 (w16 ((filL S.data.toList).map (· ^^^ m)) 16) = stK S.data.toList m from rfl)
      rw [HST.out] at SC
      generalize (filL S.data.toList).map (· ^^^ m) = F at G1 hfl SC
      have HAG := Lib.hid (show aggS (stK S.data.toList m) = .agg (cells32 (stL (stK S.data.toList m))).toArray from rfl)
      have hcs1 := cells32_one (stL (stK S.data.toList m))
      have hcs8 : (cells32 (stL (stK S.data.toList m))).toArray.size = 8 := rfl
      rw [HAG.out] at SC HRV
      generalize (cells32 (stL (stK S.data.toList m))).toArray = CS at SC hcs1 hcs8 HRV
      have HC1 := Lib.hid hcs1
      have HC8 := Lib.hid hcs8
      have HZ : (cells32 (List.replicate 8 0)).toArray.size = 8 := rfl
      have HG0 : ∃ c : Array Value, c.size = 8 ∧ wr.heap[w.heap.size]? = some (.cells c 143 (0, 0)) := ⟨_, HZ, G0.out⟩
      have HCV := Lib.hid (fun W (hG : W.heap[w.heap.size + 1]? = some (.cells (arr64 F) 152 (0, 0))) => conv64 W (w.heap.size + 1) F hfl hG)
      have HSC := Lib.hid (fun (W : World) (hG : ∃ c : Array Value, c.size = 8 ∧ W.heap[w.heap.size]? = some (.cells c 143 (0, 0))) => show (storeCells ⟨w.heap.size, 0, none⟩ CS.toList 0).run Tryz.prog W = .ok () (W.setRow w.heap.size CS) by obtain ⟨c, h1, h2⟩ := hG; exact store8 W _ c CS h1 h2 HC8.out HC1.out)
      have G1o := G1.out
      clear hcs1 hcs8 HST hE G0 HZ
      go_wp2
      go_region_held3 (fun W => W.heap[w.heap.size + 1]? = some (.cells (arr64 F) 152 (0, 0)) ∧ (∃ c : Array Value, c.size = 8 ∧ W.heap[w.heap.size]? = some (.cells c 143 (0, 0))) ∧ Below w.heap.size w W ∧ (convert 34 9 (.slice (some ⟨w.heap.size + 1, 0, none⟩) 64 64)).run Tryz.prog W = .ok (.string (txt F)) W ∧ (storeCells ⟨w.heap.size, 0, none⟩ CS.toList 0).run Tryz.prog W = .ok () (W.setRow w.heap.size CS))
        (first
          | exact ⟨G1o, HG0, hbel.drew, HCV.out _ G1o, HSC.out _ HG0⟩
          | (go_split_ands; exact ⟨by assumption, by assumption, by assumption, by assumption, by assumption⟩)
          | (go_split_ands; rename_i hs1 hs2 hs3 hs4 hs5; exact keepK w F CS Tryz.prog HCV HSC hbc hs1 hs2 hs3)
          | (go_split_ands; rename_i hs1 hs2 hs3 hs4 hs5; exact keepS w F CS Tryz.prog HCV HSC HC8.out hs1 hs2 hs3))
        (first
          | (go_simp; go_at_call 98; refine (start_call _).mono ?_; rintro e wc ⟨rfl, hbc⟩)
          | (go_simp; go_at_call 99; refine (SC.out _ (HKK.out.below (by go_split_ands; assumption))).mono ?_; rintro e wc ⟨rfl, hbc⟩))
      all_goals
        have hfin : (wc.setRow w.heap.size CS).heap[w.heap.size]? = some (.cells CS 143 (0, 0)) := setRow_has wc _ CS _ (by go_split_ands; assumption)
        have hb5 : Below w.heap.size w (wc.setRow w.heap.size CS) := by
          go_split_ands
          assumption
        generalize wc.setRow w.heap.size CS = wf at hfin hb5 ⊢
        go_wp2
        refine bodyPost_ret (v := .agg CS) ?_ rfl ⟨by rw [HRV.out], hb5⟩
        rw [results_cell_one rfl]
        exact run_loadVar_row (P := Tryz.prog) _ w.heap.size 143 143 CS (0, 0) _ hfin Tryz.underlying143 rfl (by rw [HC8.out]; exact size8)

end Mk

end Go.Proofs.YtonpalaopnfffaaGreatDoor
