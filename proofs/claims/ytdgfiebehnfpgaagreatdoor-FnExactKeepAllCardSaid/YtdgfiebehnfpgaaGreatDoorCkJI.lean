/- CONTRACTS: the program's slotOf, expired, JarOk: a map with a struct as its key. -/
import Derived.Test.YtdgfiebehnfpgaaGreatDoorCkJO
import Derived.DeepKeys4
import Derived.Maps.OwnSet
namespace Go.Proofs.YtdgfiebehnfpgaaGreatDoor
set_option linter.unusedVariables false
set_option maxRecDepth 4000
open Go.ChangeShapes Go.WideShapes Go.ChangeAt Go.RowKit
open Go.ChangeMaps (open_string shut_string)
open Go.Maps Go.WideMaps

namespace Ck
open Ht

instance instInhabitedCkL : Inhabited CkL := ⟨zeroC⟩

theorem laidJ : laidOutB Tryz.prog = true := by kernel_rfl
theorem rowSlot : (122 : TypeId) < Tryz.prog.types.size := of_decide_eq_true (by kernel_rfl)
theorem wideSlot : (match Tryz.prog.underlying 122 with | some (.array _ _) | some (.struct _) => true | _ => false) = true := by kernel_rfl
theorem lawSlot : KeyLaw Tryz.prog 122 := deep_law_laid laidJ (m := 2) (by omega) rowSlot (by kernel_rfl) wideSlot
theorem keySlot : Keyed Tryz.prog 122 := Keyed.of_law lawSlot

def slotV (s : Slot) : Value := .agg #[.string (txt s.1), .string (txt s.2.1), .string (txt s.2.2)]

def smallS (s : Slot) : Prop := s.1.length ≤ 1048576 ∧ s.2.1.length ≤ 1048576 ∧ s.2.2.length ≤ 1048576

def klS (s : Slot) : Lit := .string (keyBytes [.string s.1, .string s.2.1, .string s.2.2])

theorem slot_formed (s : Slot) : (slotV s).formed Tryz.prog 122 = true := by
  have hc : Tryz.prog.cellsOf 122 = 3 := by kernel_rfl
  unfold slotV
  simp [Value.formed, Tryz.underlying122, hc]

theorem slot_key (s : Slot) (h : smallS s) : keyOf Tryz.prog 122 (slotV s) = some (klS s) := by
  obtain ⟨h1, h2, h3⟩ := h
  have hk : Tryz.prog.keyType 122 = true := by kernel_rfl
  have hf := slot_formed s
  have hs : Tryz.prog.cellsOf 9 = 1 := by kernel_rfl
  have hc : Tryz.prog.cellsOf 122 = 3 := by kernel_rfl
  obtain ⟨n, hn⟩ : ∃ n, Tryz.prog.types.size = n + 1 := Nat.exists_eq_succ_of_ne_zero (Nat.ne_of_gt (Nat.lt_of_le_of_lt (Nat.zero_le _) rowSlot))
  have z1 := txt_size s.1
  have z2 := txt_size s.2.1
  have z3 := txt_size s.2.2
  have m1 : s.1.length ≤ maxLen := by unfold maxLen; omega
  have m2 : s.2.1.length ≤ maxLen := by unfold maxLen; omega
  have m3 : s.2.2.length ≤ maxLen := by unfold maxLen; omega
  unfold keyOf
  rw [Tryz.underlying122]
  simp only [hk, hf, Bool.and_self, if_true, hn]
  have hl : Tryz.prog.keyLits (n + 1 + 1) 122 (slotV s).cells.toList = some [.string s.1, .string s.2.1, .string s.2.2] := by
    simp [Program.keyLits, Tryz.underlying122, Tryz.underlying9, slotV, Value.cells, hc, hs, z1, z2, z3, m1, m2, m3, txt_toList]
  rw [hl]
  rfl

theorem txt_inj {a b : List UInt8} (h : txt a = txt b) : a = b := by
  have := congrArg (fun x : ByteArray => x.data.toList) h
  simpa [txt_toList] using this

theorem slot_inj {s s' : Slot} (h : smallS s) (h' : smallS s') (e : klS s = klS s') : s = s' := by
  have h1 := slot_key s h
  have h2 := slot_key s' h'
  rw [← e] at h2
  have h3 := keySlot.inj h1 h2
  unfold slotV at h3
  simp only [Value.agg.injEq, Array.mk.injEq, List.cons.injEq, Value.string.injEq, and_true] at h3
  obtain ⟨a, b, c⟩ := s
  obtain ⟨a', b', c'⟩ := s'
  simp only at h3
  rw [txt_inj h3.1, txt_inj h3.2.1, txt_inj h3.2.2]

theorem small_slot {c : CkL} (h : CkS c) : smallS (slotL c) := ⟨h.1, h.2.2.1, h.2.2.2⟩

theorem alloc2j (w : World) (A B : Obj) : ((w.alloc A).alloc B).heap[w.heap.size]? = some A ∧ ((w.alloc A).alloc B).heap[w.heap.size + 1]? = some B := by
  refine ⟨?_, ?_⟩
  · show ((w.heap.push A).push B)[w.heap.size]? = _
    rw [Array.getElem?_push, if_neg (by simp), Array.getElem?_push, if_pos rfl]
  · show ((w.heap.push A).push B)[w.heap.size + 1]? = _
    rw [Array.getElem?_push, if_pos (by simp)]

theorem slot_info : (Tryz.prog.info? 122).map (·.size) = some 3 := by kernel_rfl

set_option maxHeartbeats 1600000 in
theorem slotOf_call (c : CkL) (w : World) :
    Calls Tryz.prog 107 #[ckV c] w fun e w' => e = .returned (slotV (slotL c)) ∧ Below w.heap.size w w' := by
  unfold ckV slotV slotL
  obtain ⟨_, g1⟩ := alloc2j w (.cells #[.string (txt c.n), .string (txt c.v), .string (txt c.d), .bool c.o, .string (txt c.p), .int .i64 c.u] 87) (.cells #[.string (txt c.n), .string (txt c.d), .string (txt c.p)] 122)
  have hba := Lib.hid (((Below.refl w.heap.size w).alloc (Nat.le_refl _) (.cells #[.string (txt c.n), .string (txt c.v), .string (txt c.d), .bool c.o, .string (txt c.p), .int .i64 c.u] 87)).alloc (by simp) (.cells #[.string (txt c.n), .string (txt c.d), .string (txt c.p)] 122))
  have G1 := Lib.hid g1
  clear g1
  go_enter Tryz.func107, Tryz.ntmps107
  go_wp2
  refine bodyPost_ret (v := .agg #[.string (txt c.n), .string (txt c.d), .string (txt c.p)]) ?_ rfl ⟨rfl, hba.out⟩
  rw [results_cell_one rfl]
  have hld := run_loadVar_row (P := Tryz.prog) _ (w.heap.size + 1) 122 122 _ (0, 0) _ G1.out Tryz.underlying122 rfl (by rw [slot_info]; rfl)
  simp [asAddr, Result.andThen, hld]

set_option maxHeartbeats 1600000 in
theorem expired_call (c : CkL) (now : Int) (w : World) :
    Calls Tryz.prog 113 #[ckV c, .int .i64 now] w fun e w' => e = .returned (.bool (!liveC now c)) ∧ Below w.heap.size w w' := by
  unfold ckV
  have ba := Lib.hid ((Below.refl w.heap.size w).alloc (Nat.le_refl _) (.cells #[.string (txt c.n), .string (txt c.v), .string (txt c.d), .bool c.o, .string (txt c.p), .int .i64 c.u] 87))
  obtain ⟨R, HR⟩ : ∃ R, Hid (R = !liveC now c) := ⟨_, Lib.hid rfl⟩
  rw [← HR.out]
  by_cases h1 : c.u = -1
  · have hR := Lib.hid (show R = false by rw [HR.out]; unfold liveC; rw [h1]; rfl)
    have e1 : (c.u != -1) = false := by rw [h1]; rfl
    clear h1
    go_enter Tryz.func113, Tryz.ntmps113
    go_wp2
    go_ret
    exact ⟨by rw [hR.out]; rfl, ba.out⟩
  · have e1 : (c.u == -1) = false := by rw [Bool.eq_false_iff]; intro h; exact h1 (eq_of_beq h)
    have e2 : (c.u != -1) = true := by unfold bne; rw [e1]; rfl
    by_cases h2 : now < c.u
    · have hR := Lib.hid (show R = false by rw [HR.out]; unfold liveC; rw [e1, decide_eq_true h2]; rfl)
      have h3 : ¬ c.u ≤ now := by omega
      go_enter Tryz.func113, Tryz.ntmps113
      go_wp2
      go_ret
      exact ⟨by rw [hR.out]; rfl, ba.out⟩
    · have hR := Lib.hid (show R = true by rw [HR.out]; unfold liveC; rw [e1, decide_eq_false h2]; rfl)
      have h3 : c.u ≤ now := by omega
      go_enter Tryz.func113, Tryz.ntmps113
      go_wp2
      go_ret
      exact ⟨by rw [hR.out]; rfl, ba.out⟩

/-- how a truth value in a map reads -/
def bR : Value → Option (DataW Unit × List MemPlace)
  | .bool b => some (.lit (.bool b), [])
  | _ => none

theorem bR_inv {v : Value} {b : Bool} {ps : List MemPlace} (h : bR v = some (.lit (.bool b), ps)) : v = .bool b := by
  unfold bR at h
  split at h
  · simp only [Option.some.injEq, Prod.mk.injEq, DataW.lit.injEq, Lit.bool.injEq] at h
    rw [h.1]
  · cases h

/-- a map that holds just the slots of a list -/
def TK (D : DataW Unit) (L : List Slot) : Prop := IsMap D ∧ ∀ s, smallS s → D.atKey (klS s) (.lit (.bool false)) = .lit (.bool (decide (s ∈ L)))

theorem tk_start : TK (.map []) [] := ⟨isMap_empty, fun s _ => rfl⟩

theorem klS_key (s : Slot) : WideAt.IsKeyLit (klS s) := trivial

theorem tk_put {D : DataW Unit} {L : List Slot} {x : Slot} (h : TK D L) (hx : smallS x) : TK (D.put (klS x) (.lit (.bool true))) (L ++ [x]) := by
  refine ⟨h.1.put _ _, fun s hs => ?_⟩
  by_cases e : s = x
  · subst e
    rw [atKey_put_same h.1 (klS_key s), decide_eq_true (by simp)]
  · rw [atKey_put_other (fun he => e (slot_inj hs hx he)), h.2 s hs]
    have : (s ∈ L ++ [x]) ↔ s ∈ L := by simp [e]
    rw [decide_eq_decide.2 this]

theorem look_bool {W : World} {B n : Nat} {D : DataW Unit} {L : List Slot} (ho : W.ownsMap Tryz.prog 122 bR B n D) (hT : TK D L) (s : Slot) (hs : smallS s) :
    (Instr.lookup 120 (.map (some B)) (slotV s) false).run Tryz.prog W = .ok (.bool (decide (s ∈ L))) W := by
  obtain ⟨v, ps, hr, hv⟩ := ho.lookup keySlot Tryz.underlying120 (z := .bool false) (by kernel_rfl) (zd := .lit (.bool false)) (zp := []) rfl (slot_key s hs)
  rw [hT.2 s hs] at hv
  rw [bR_inv hv] at hr
  exact hr

theorem makeMap_j (w : World) : (Instr.makeMap 120 none).run Tryz.prog w = .ok (.map (some w.heap.size)) (w.alloc (.map #[] 0)) := by
  simp [Instr.makeMap, go_sem, Result.andThen]

theorem mem_slots {l : List CkL} {k : Nat} (hk : k < l.length) (h : slotL l[k] ∈ (l.take k).map slotL) : ¬ (l.map slotL).Nodup := by
  obtain ⟨x, hx, e⟩ := List.mem_map.1 h
  obtain ⟨i, hi, rfl⟩ := List.getElem_of_mem hx
  rw [List.length_take] at hi
  rw [List.getElem_take] at e
  exact slots_twice l i k hk (by omega) e

theorem slots_snoc2 {l : List CkL} {k : Nat} (hk : k < l.length) (h : ((l.take k).map slotL).Nodup) (hn : slotL l[k] ∉ (l.take k).map slotL) : ((l.take (k + 1)).map slotL).Nodup :=
  slots_snoc l k hk h (fun j hj hjk e => hn (List.mem_map.2 ⟨l[j], by rw [List.mem_take_iff_getElem]; exact ⟨j, by omega, rfl⟩, e⟩))

theorem take_slots {l : List CkL} {k : Nat} (hk : k < l.length) : (l.take (k + 1)).map slotL = (l.take k).map slotL ++ [slotL l[k]] := by
  rw [List.take_succ_eq_append_getElem hk, List.map_append]
  rfl

set_option maxHeartbeats 6400000 in
theorem jarOk_impl (v : Value) (l : List CkL) (w : World) (h : JAt w v l) (hn : l.length ≤ 2097152) (hS : ∀ c ∈ l, CkS c) :
    Calls Tryz.prog 61 #[v] w fun e w' => e = .returned (.bool (jarR l)) ∧ Below w.heap.size w w' := by
  have HF := Lib.hid h
  have HM := Lib.hid hS
  clear hS
  obtain ⟨a, cap, rfl, _⟩ := h
  obtain ⟨R, hR⟩ : ∃ R, R = jarR l := ⟨_, rfl⟩
  have HR := Lib.hid hR
  rw [← hR]
  clear hR
  by_cases hl : l.length ≤ 40
  · have hmm := makeMap_j
    go_enter Tryz.func61, Tryz.ntmps61
    go_wp2
    go_loopw [12] (fun i wr => ∃ (k n : Nat) (D : DataW Unit), k ≤ l.length ∧ i = .int .i64 k ∧ Hid ((l.take k).all ckOk = true) ∧ Hid (((l.take k).map slotL).Nodup) ∧ wr.ownsMap Tryz.prog 122 bR w.heap.size n D ∧ n ≤ k ∧ Hid (TK D ((l.take k).map slotL)) ∧ Below w.heap.size w wr) (fun i _ => l.length - (intOf i).toNat)
    case atStart => exact ⟨0, 0, _, by omega, rfl, Lib.hid rfl, Lib.hid (by simp), World.ownsMap_made _ _ _ _, by omega, Lib.hid tk_start, (Below.refl _ _).alloc (Nat.le_refl _) _⟩
    case round =>
      clear hmm
      obtain ⟨k, n, D, hk, rfl, hal, hnd, hown, hnk, hT, hbel⟩ := hrel
      have hbs := hbel.size
      by_cases hlt : k < l.length
      · obtain ⟨g, off, rfl, hg, c0, c1, c2, c3, c4, c5⟩ := JAt.cells (Grid.GAt.below HF.out hbel) k hlt
        have hi0 : (0 : Int) ≤ (k : Int) := by omega
        have hi1 : (k : Int) < (l.length : Int) := by omega
        have hSk := HM.out l[k] (List.getElem_mem hlt)
        have HOK := Lib.hid (fun h => ok_not l k hlt h)
        have HSN := Lib.hid (fun h => ok_snoc l k hlt hal.out h)
        have HDUP := Lib.hid (fun h => jar_not l (mem_slots hlt h))
        have HNEW := Lib.hid (fun h => slots_snoc2 hlt hnd.out h)
        have HTS := Lib.hid (take_slots hlt)
        generalize l[k] = c at c0 c1 c2 c3 c4 c5 hSk HOK HSN HDUP HNEW HTS
        have C := Lib.hid (fun wx => ckOk_impl c wx hSk)
        have SO := Lib.hid (fun wx => slotOf_call c wx)
        have hsm := Lib.hid (small_slot hSk)
        have BX := Lib.hid (heap_alloc_new wr (.cells #[.string (txt c.n), .string (txt c.v), .string (txt c.d), .bool c.o, .string (txt c.p), .int .i64 c.u] 87))
        have BB := Lib.hid (hbel.alloc hbs (.cells #[.string (txt c.n), .string (txt c.v), .string (txt c.d), .bool c.o, .string (txt c.p), .int .i64 c.u] 87))
        have OM := Lib.hid (hown.alloc (.cells #[.string (txt c.n), .string (txt c.v), .string (txt c.d), .bool c.o, .string (txt c.p), .int .i64 c.u] 87))
        unfold ckV at C SO
        clear hal hnd hSk hown
        cases hq : ckOk c with
        | false =>
          have HR2 := Lib.hid (show R = false by rw [HR.out]; exact HOK.out hq)
          rw [hq] at C
          clear hq
          go_wp2_with fail
          refine (C.out _).mono ?_
          rintro e w1 ⟨rfl, hb1⟩
          go_wp2
          go_ret
          exact ⟨by rw [HR2.out]; rfl, bstep BB.out hb1⟩
        | true =>
          have HAL := Lib.hid (HSN.out hq)
          rw [hq] at C
          clear hq
          go_wp2_with fail
          refine (C.out _).mono ?_
          rintro e w1 ⟨rfl, hb1⟩
          have s1 := hb1.size
          have hq1 : wr.heap.size < w1.heap.size := Nat.lt_of_lt_of_le (by simp) s1
          have k1 := (hb1.block wr.heap.size (by simp)).trans BX.out
          have K1 := Lib.hid k1
          have M1 := Lib.hid (OM.out.kept (grown_below hb1 none) (by simp))
          have B1 := Lib.hid (bstep BB.out hb1)
          obtain ⟨x0, x1, x2, x3, x4, x5, _⟩ := box6 k1
          clear k1 hb1 c0 c1 c2 c3 c4 c5
          go_wp2_with fail
          refine (SO.out _).mono ?_
          rintro e w2 ⟨rfl, hb2⟩
          have hq2 : wr.heap.size < w2.heap.size := Nat.lt_of_lt_of_le hq1 hb2.size
          have k2 := (hb2.block wr.heap.size hq1).trans K1.out
          have M2 := M1.out.kept (grown_below hb2 none) (by simp)
          have B2 := Lib.hid (bstep B1.out hb2)
          have hlk := look_bool M2 hT.out (slotL c) hsm.out
          have M2 := Lib.hid M2
          have K2 := Lib.hid k2
          clear x0 x1 x2 x3 x4 x5
          obtain ⟨x0, x1, x2, x3, x4, x5, _⟩ := box6 k2
          clear k2 hb2
          by_cases hd : slotL c ∈ (l.take k).map slotL
          · have HR2 := Lib.hid (show R = false by rw [HR.out]; exact HDUP.out hd)
            rw [decide_eq_true hd] at hlk
            clear hd
            go_wp2
            go_ret
            exact ⟨by rw [HR2.out]; rfl, B2.out⟩
          · have HND := Lib.hid (HNEW.out hd)
            rw [decide_eq_false hd] at hlk
            clear hd
            go_wp2_with fail
            refine (SO.out _).mono ?_
            rintro e w3 ⟨rfl, hb3⟩
            have M3 := M2.out.kept (grown_below hb3 none) (by simp)
            have B3 := bstep B2.out hb3
            clear hlk
            go_wp2_with (at_mapUpdate; refine wpList_mapUpdate_own _ rfl _ _ _ 120 rfl 122 4 keySlot Tryz.underlying120 bR w.heap.size n D rfl M3 (by unfold maxLen; omega) _ _ _ rfl rfl (slot_key (slotL c) hsm.out) (.lit (.bool true)) [] rfl ?_; intro w4 hown4 hgrow4)
            go_roundw
            case rel => exact ⟨k + 1, n + 1, _, by omega, by go_num, HAL, HND, hown4, by omega, Lib.hid (by rw [HTS.out]; exact tk_put hT.out hsm.out), B3.grown hgrow4 B3.size (fun j hj => by cases hj; exact Nat.le_refl _)⟩
            case measure => simp [intOf]; omega
      · have he : l.take k = l := List.take_of_length_le (by omega)
        have h1 := hal.out
        have h2 := hnd.out
        rw [he] at h1 h2
        have HR2 := Lib.hid (show R = true by rw [HR.out]; exact jar_yes l hl h1 h2)
        clear h1 h2 he
        go_wp2
        go_ret
        exact ⟨by rw [HR2.out]; rfl, hbel⟩
  · have HR2 := Lib.hid (show R = false by rw [HR.out]; unfold jarR; rw [decide_eq_false hl]; rfl)
    go_enter Tryz.func61, Tryz.ntmps61
    go_wp2
    go_ret
    exact ⟨by rw [HR2.out]; rfl, Below.refl _ _⟩

end Ck
end Go.Proofs.YtdgfiebehnfpgaaGreatDoor
