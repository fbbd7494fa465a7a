/- CONTRACTS: TextOf, NumOf, of the model and of the program; fieldAt. -/
import Derived.Test.YtljifooeokhgeaaFldC
namespace Go.Proofs.Ytljifooeokhgeaa
set_option linter.unusedVariables false
set_option maxRecDepth 4000
open Go.ChangeShapes Go.WideShapes Go.ChangeAt Go.RowKit
open Go.ChangeMaps (open_string shut_string)

namespace Fld

/-- the first place at which a field has this key; the list's length, if there is none -/
def fidx (key : List UInt8) (l : List FieldL) : Nat := l.findIdx (fun p => decide (p.1 = key))

theorem fidx_here (key : List UInt8) (l : List FieldL) (k : Nat) (hk : k < l.length) (h : ∀ j (hj : j < l.length), j < k → l[j].1 ≠ key) (he : l[k].1 = key) : fidx key l = k := by
  unfold fidx
  rw [List.findIdx_eq hk]
  exact ⟨by simpa using he, fun j hj => by simpa using h j (by omega) hj⟩

theorem fidx_none (key : List UInt8) (l : List FieldL) (h : ∀ j (hj : j < l.length), l[j].1 ≠ key) : fidx key l = l.length := by
  unfold fidx
  rw [List.findIdx_eq_length]
  intro p hp
  obtain ⟨j, hj, rfl⟩ := List.getElem_of_mem hp
  simpa using h j hj

def textV (l : List FieldL) (i : Nat) : Value := match l[i]? with
  | some p => .tuple #[.string (txt p.2.1), .bool (!p.2.2.2)]
  | none => .tuple #[.string ⟨#[]⟩, .bool false]

def numV (l : List FieldL) (i : Nat) : Int := match l[i]? with
  | some p => if p.2.2.2 = true then p.2.2.1 else -1
  | none => -1

set_option maxHeartbeats 400000 in
theorem keyIs_call (p : FieldL) (key : List UInt8) (b : Nat) (w : World) (hc : w.cell? ⟨b, 0, none⟩ = some (.string (txt key))) :
    Calls Try.prog 43 #[.agg (fc p).toArray, .pointer (some ⟨b, 0, none⟩)] w fun e w' => e = .returned (.bool (decide (p.1 = key))) ∧ Below w.heap.size w w' := by
  obtain ⟨pk, pv, pn, pb⟩ := p
  have hlt : b < w.heap.size := World.block_lt_of_cell? w _ hc
  have hb := txt_beq pk key
  simp only [fc]
  rw [← hb]
  clear hb
  go_enter Try.func43, Try.ntmps43
  go_wp2
  go_ret
  exact ⟨rfl, (Below.refl _ w).alloc (Nat.le_refl _) _⟩

set_option maxHeartbeats 400000 in
theorem indexFunc_call (v : Value) (l : List FieldL) (key : List UInt8) (b : Nat) (w : World) (hc : w.cell? ⟨b, 0, none⟩ = some (.string (txt key))) (h : FAt w v l) (hn : l.length ≤ 2097152) :
    Calls Try.prog 42 #[v, .func (.func 43) #[] #[.pointer (some ⟨b, 0, none⟩)]] w fun e w' => e = .returned (.int .i64 (if fidx key l < l.length then (fidx key l : Int) else -1)) ∧ Below w.heap.size w w' := by
  have HF := Lib.hid h
  have hbw : b < w.heap.size := World.block_lt_of_cell? w _ hc
  obtain ⟨a, cap, rfl, _⟩ := h
  obtain ⟨R, hR⟩ : ∃ R : Int, R = (if fidx key l < l.length then (fidx key l : Int) else -1) := ⟨_, rfl⟩
  have HR := Lib.hid hR
  rw [← hR]
  clear hR
  go_enter Try.func42, Try.ntmps42
  go_wp2
  go_loopw [8] (fun i wr => ∃ k : Nat, k ≤ l.length ∧ i = .int .i64 k ∧ Hid (∀ j (hj : j < l.length), j < k → l[j].1 ≠ key) ∧ Below w.heap.size w wr) (fun i _ => l.length - (intOf i).toNat)
  case atStart => exact ⟨0, by omega, rfl, Lib.hid (fun j _ hj => by omega), Below.refl _ _⟩
  case round =>
    obtain ⟨k, hk, rfl, hf, hbel⟩ := hrel
    by_cases hlt : k < l.length
    · obtain ⟨g, off, rfl, hg, c1, c2, c3, c4⟩ := FAt.cells (Grid.GAt.below HF.out hbel) k hlt
      have hi0 : (0 : Int) ≤ (k : Int) := by omega
      have hi1 : (k : Int) < (l.length : Int) := by omega
      have C := Lib.hid (fun wx hcx => keyIs_call l[k] key b wx hcx)
      simp only [fc] at C
      by_cases he : l[k].1 = key
      · have HE := Lib.hid (fidx_here key l k hlt hf.out he)
        rw [decide_eq_true he] at C
        clear he
        go_wp2_with fail
        refine (C.out _ ((hbel.cell (p := ⟨b, 0, none⟩) hbw).trans hc)).mono ?_
        rintro e w1 ⟨rfl, hb1⟩
        go_wp2
        go_ret
        exact ⟨by rw [HR.out, HE.out, if_pos hlt]; rfl, bstep hbel hb1⟩
      · have HN := Lib.hid (show ∀ j (hj : j < l.length), j < k + 1 → l[j].1 ≠ key from fun j hj hjk => by
          by_cases hjk2 : j = k
          · subst hjk2; exact he
          · exact hf.out j hj (by omega))
        rw [decide_eq_false he] at C
        clear he
        go_wp2_with fail
        refine (C.out _ ((hbel.cell (p := ⟨b, 0, none⟩) hbw).trans hc)).mono ?_
        rintro e w1 ⟨rfl, hb1⟩
        go_wp2
        exact ⟨⟨k + 1, by omega, by go_num, HN, bstep hbel hb1⟩, by simp [intOf]; omega⟩
    · have HE := Lib.hid (fidx_none key l (fun j hj => hf.out j hj (by omega)))
      go_wp2
      go_ret
      exact ⟨by rw [HR.out, HE.out, if_neg (by omega)]; rfl, hbel⟩

set_option maxHeartbeats 400000 in
theorem fieldAt_call (v : Value) (l : List FieldL) (key : List UInt8) (w : World) (h : FAt w v l) (hn : l.length ≤ 2097152) :
    Calls Try.prog 27 #[v, .string (txt key)] w fun e w' => e = .returned (.int .i64 (if fidx key l < l.length then (fidx key l : Int) else -1)) ∧ Below w.heap.size w w' := by
  have HF := Lib.hid h
  obtain ⟨a, cap, rfl, _⟩ := h
  have hmf : ∀ (fn : Fn) (first cap : Array Value) (w : World), (Instr.makeFunc fn first cap).run Try.prog w = .ok (.func fn first cap) w := fun _ _ _ _ => rfl
  obtain ⟨R, hR⟩ : ∃ R : Int, R = (if fidx key l < l.length then (fidx key l : Int) else -1) := ⟨_, rfl⟩
  have C := Lib.hid (fun b wx hcx hx => indexFunc_call (.slice a l.length cap) l key b wx hcx hx hn)
  rw [← hR] at C ⊢
  clear hR
  go_enter Try.func27, Try.ntmps27
  go_wp2_with fail
  refine (C.out _ _ (by simp) (Grid.GAt.below HF.out ((Below.refl _ w).alloc (Nat.le_refl _) _))).mono ?_
  rintro e w1 ⟨rfl, hb1⟩
  go_wp2
  go_ret
  exact ⟨rfl, bstep ((Below.refl _ w).alloc (Nat.le_refl _) _) hb1⟩

set_option maxHeartbeats 400000 in
theorem textOf_impl (v : Value) (l : List FieldL) (key : List UInt8) (w : World) (h : FAt w v l) (hn : l.length ≤ 2097152) :
    Calls Try.prog 12 #[v, .string (txt key)] w fun e w' => e = .returned (textV l (fidx key l)) ∧ Below w.heap.size w w' := by
  have HF := Lib.hid h
  obtain ⟨a, cap, rfl, _⟩ := h
  have C := Lib.hid (fun wx hx => fieldAt_call (.slice a l.length cap) l key wx hx hn)
  generalize fidx key l = i at C ⊢
  obtain ⟨R, hR⟩ : ∃ R, R = textV l i := ⟨_, rfl⟩
  have HR := Lib.hid hR
  rw [← hR]
  clear hR
  go_enter Try.func12, Try.ntmps12
  go_wp2_with fail
  refine (C.out _ HF.out).mono ?_
  rintro e w1 ⟨rfl, hb1⟩
  by_cases hlt : i < l.length
  · rw [if_pos hlt]
    obtain ⟨g, off, rfl, hg, c1, c2, c3, c4⟩ := FAt.cells (Grid.GAt.below HF.out hb1) i hlt
    have hi0 : (0 : Int) ≤ (i : Int) := by omega
    have hi1 : (i : Int) < (l.length : Int) := by omega
    have HV := Lib.hid (show textV l i = .tuple #[.string (txt l[i].2.1), .bool (!l[i].2.2.2)] by unfold textV; rw [List.getElem?_eq_getElem hlt])
    go_wp2
    go_quiet (fail)
    go_wp2
    go_ret2
    exact ⟨by rw [HR.out, HV.out]; rfl, below_drewN hb1 _⟩
  · rw [if_neg hlt]
    have HV := Lib.hid (show textV l i = .tuple #[.string ⟨#[]⟩, .bool false] by unfold textV; rw [List.getElem?_eq_none (by omega)])
    go_wp2
    go_ret2
    exact ⟨by rw [HR.out, HV.out]; rfl, hb1⟩

set_option maxHeartbeats 400000 in
theorem numOf_impl (v : Value) (l : List FieldL) (key : List UInt8) (w : World) (h : FAt w v l) (hn : l.length ≤ 2097152) :
    Calls Try.prog 13 #[v, .string (txt key)] w fun e w' => e = .returned (.int .i64 (numV l (fidx key l))) ∧ Below w.heap.size w w' := by
  have HF := Lib.hid h
  obtain ⟨a, cap, rfl, _⟩ := h
  have C := Lib.hid (fun wx hx => fieldAt_call (.slice a l.length cap) l key wx hx hn)
  generalize fidx key l = i at C ⊢
  obtain ⟨R, hR⟩ : ∃ R : Int, R = numV l i := ⟨_, rfl⟩
  have HR := Lib.hid hR
  rw [← hR]
  clear hR
  go_enter Try.func13, Try.ntmps13
  go_wp2_with fail
  refine (C.out _ HF.out).mono ?_
  rintro e w1 ⟨rfl, hb1⟩
  by_cases hlt : i < l.length
  · rw [if_pos hlt]
    obtain ⟨g, off, rfl, hg, c1, c2, c3, c4⟩ := FAt.cells (Grid.GAt.below HF.out hb1) i hlt
    have hi0 : (0 : Int) ≤ (i : Int) := by omega
    have hi1 : (i : Int) < (l.length : Int) := by omega
    have hi2 : ¬ (i : Int) < 0 := by omega
    have HV := Lib.hid (show numV l i = if l[i].2.2.2 = true then l[i].2.2.1 else -1 by unfold numV; rw [List.getElem?_eq_getElem hlt])
    by_cases hq : l[i].2.2.2 = true
    · rw [hq] at c4
      have HQ := Lib.hid hq
      clear hq
      go_wp2
      go_ret
      exact ⟨by rw [HR.out, HV.out, if_pos HQ.out]; rfl, hb1⟩
    · have HQ := Lib.hid hq
      rw [Bool.not_eq_true] at hq
      rw [hq] at c4
      clear hq
      go_wp2
      go_ret
      exact ⟨by rw [HR.out, HV.out, if_neg HQ.out]; rfl, hb1⟩
  · rw [if_neg hlt]
    have HV := Lib.hid (show numV l i = -1 by unfold numV; rw [List.getElem?_eq_none (by omega)])
    go_wp2
    go_ret
    exact ⟨by rw [HR.out, HV.out]; rfl, hb1⟩

end Fld

end Go.Proofs.Ytljifooeokhgeaa
