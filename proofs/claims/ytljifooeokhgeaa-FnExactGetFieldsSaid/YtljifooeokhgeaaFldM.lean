/- CONTRACTS of the laws' own helpers over rows of fields: markFieldS, heldFieldS. -/
import Derived.Test.YtljifooeokhgeaaFldC
import Derived.Test.YtljifooeokhgeaaGridA
namespace Go.Proofs.Ytljifooeokhgeaa
set_option linter.unusedVariables false
set_option maxRecDepth 4000
open Go.ChangeShapes Go.WideShapes Go.ChangeAt Go.RowKit
open Go.ChangeMaps (open_string shut_string)

namespace Fld

/-- the field that marking writes at a place -/
def markF (k0 i : Nat) : FieldL := (markL (k0 + 4 * i), markL (k0 + 4 * i + 1), (k0 : Int) + 4 * (i : Int) + 1 + 1, ((k0 : Int) + 4 * (i : Int) + 1 + 1 + 1) % 3 == 0)

def marksF (k0 n : Nat) : List FieldL := (List.range n).map (markF k0)

theorem marksF_len (k0 n : Nat) : (marksF k0 n).length = n := by simp [marksF]

theorem marksF_at (k0 n i : Nat) (h : i < (marksF k0 n).length) : (marksF k0 n)[i] = markF k0 i := by simp [marksF]

theorem marksF_set (k0 i : Nat) (l : List FieldL) (hi : i < l.length) :
    (((((marksF k0 i ++ l.drop i).flatMap fc).set (i * 4) (.string (txt (markF k0 i).1))).set (i * 4 + 1) (.string (txt (markF k0 i).2.1))).set (i * 4 + 2) (.int .i64 (markF k0 i).2.2.1)).set (i * 4 + 3) (.bool (markF k0 i).2.2.2) = (marksF k0 (i + 1) ++ l.drop (i + 1)).flatMap fc := by
  have hd : l.drop i = l[i] :: l.drop (i + 1) := List.drop_eq_getElem_cons hi
  have hs : marksF k0 (i + 1) = marksF k0 i ++ [markF k0 i] := by simp [marksF, List.range_succ]
  have h := Grid.put_elem (f := fc) fc_len (marksF k0 i) l[i] (markF k0 i) ((l.drop (i + 1)).flatMap fc) i (marksF_len k0 i)
  rw [hd, hs, List.flatMap_append, List.flatMap_cons, ← List.append_assoc, List.flatMap_append (xs := marksF k0 i ++ [markF k0 i])]
  exact h

set_option maxHeartbeats 1600000 in
theorem markFieldS_call (base k0 : Nat) (e : TypeId) (a : Option Addr) (cap : Nat) (l : List FieldL) (w : World) (h : w.ownsRow base e 4 (.slice a l.length cap) l.length (l.flatMap fc)) (hn : l.length ≤ 1048576) (hk0 : 1 ≤ k0) (hk1 : k0 + 4 * l.length ≤ 4194305) :
    Calls Try.prog 21 #[.slice a l.length cap, .int .i64 k0] w fun r w' => r = .returned (.int .i64 ((k0 + 4 * l.length : Nat) : Int)) ∧ w'.ownsRow base e 4 (.slice a l.length cap) l.length ((marksF k0 l.length).flatMap fc) ∧ w.grownBy w' (Value.slice a l.length cap).ownBlock := by
  go_enter Try.func21, Try.ntmps21
  go_wp2
  go_loopw [1, 5] (fun q i wr => ∃ k : Nat, k ≤ l.length ∧ i = .int .i64 k ∧ q = .int .i64 ((k0 : Int) + 4 * (k : Int)) ∧ wr.ownsRow base e 4 (.slice a l.length cap) l.length ((marksF k0 k ++ l.drop k).flatMap fc) ∧ w.grownBy wr (Value.slice a l.length cap).ownBlock) (fun _ i _ => l.length - (intOf i).toNat)
  case atStart => exact ⟨0, by omega, rfl, by simp, by simpa [marksF] using h, World.grownBy.refl _ _⟩
  case round =>
    obtain ⟨k, hk, rfl, rfl, hown, hgr⟩ := hrel
    by_cases hlt : k < l.length
    · obtain ⟨g, rfl, hb, hg⟩ := Grid.own_at hown (by omega)
      have hlen : (marksF k0 k ++ l.drop k).length = l.length := by rw [List.length_append, marksF_len, List.length_drop]; omega
      have hmt := markText_call (k0 + 4 * k)
      have hmt2 := markText_call (k0 + 4 * k + 1)
      have ecast : ((k0 + 4 * k : Nat) : Int) = (k0 : Int) + 4 * (k : Int) := by omega
      have ecast2 : ((k0 + 4 * k + 1 : Nat) : Int) = (k0 : Int) + 4 * (k : Int) + 1 := by omega
      rw [ecast] at hmt
      rw [ecast2] at hmt2
      clear ecast ecast2
      have HMT := Lib.hid hmt
      have HMT2 := Lib.hid hmt2
      have HL := Lib.hid (show ((marksF k0 k ++ l.drop k).flatMap fc).length = l.length * 4 by rw [Grid.flat_len fc_len, hlen])
      clear hmt hmt2 hlen
      have hi0 : (0 : Int) ≤ (k : Int) := by omega
      have hi1 : (k : Int) < (l.length : Int) := by omega
      have HSET := Lib.hid (marksF_set k0 k l hlt)
      have HM : markF k0 k = (markL (k0 + 4 * k), markL (k0 + 4 * k + 1), (k0 : Int) + 4 * (k : Int) + 1 + 1, ((k0 : Int) + 4 * (k : Int) + 1 + 1 + 1) % 3 == 0) := rfl
      rw [HM] at HSET
      clear HM
      generalize hX : (marksF k0 k ++ l.drop k).flatMap fc = X at hown HSET HL
      clear hX
      go_wp2_with fail
      refine (HMT.out _ (by omega) (by omega)).mono ?_
      rintro r w1 ⟨rfl, hb1⟩
      have hown1 := ownsRow_below hown hb1
      obtain ⟨u, hc1⟩ : ∃ u, w1.cell? ⟨g, k * 4, none⟩ = some u := ⟨_, (hown1.cellAt (k * 4) (by omega)).trans (List.getElem?_eq_getElem (by have := HL.out; omega))⟩
      have hf1 := hown1.frozenAt (k * 4)
      have hst := hown1.stored (k * 4) (.string (txt (markL (k0 + 4 * k))))
      have hgr1 := grown_trans (grown_trans hgr (grown_below hb1 _)) hst.2
      have hownA := hst.1
      clear hst
      generalize txt (markL (k0 + 4 * k)) = ta at hownA hgr1 HSET ⊢
      go_wp2_with fail
      refine (HMT2.out _ (by omega) (by omega)).mono ?_
      rintro r w2 ⟨rfl, hb2⟩
      have hownB := ownsRow_below hownA hb2
      obtain ⟨u2, hc2⟩ : ∃ u, w2.cell? ⟨g, k * 4 + 1, none⟩ = some u := ⟨_, (hownB.cellAt (k * 4 + 1) (by omega)).trans (List.getElem?_eq_getElem (by rw [List.length_set]; have := HL.out; omega))⟩
      have hf2 := hownB.frozenAt (k * 4 + 1)
      have hst := hownB.stored (k * 4 + 1) (.string (txt (markL (k0 + 4 * k + 1))))
      have hgr2 := grown_trans (grown_trans hgr1 (grown_below hb2 _)) hst.2
      have hownC := hst.1
      clear hst
      generalize txt (markL (k0 + 4 * k + 1)) = tb at hownC hgr2 HSET ⊢
      obtain ⟨u3, hc3⟩ : ∃ u, w2.cell? ⟨g, k * 4 + 2, none⟩ = some u := ⟨_, (hownB.cellAt (k * 4 + 2) (by omega)).trans (List.getElem?_eq_getElem (by rw [List.length_set]; have := HL.out; omega))⟩
      have hf3 := hownB.frozenAt (k * 4 + 2)
      obtain ⟨u4, hc4⟩ : ∃ u, w2.cell? ⟨g, k * 4 + 3, none⟩ = some u := ⟨_, (hownB.cellAt (k * 4 + 3) (by omega)).trans (List.getElem?_eq_getElem (by rw [List.length_set]; have := HL.out; omega))⟩
      have hf4 := hownB.frozenAt (k * 4 + 3)
      have hst := hownC.stored (k * 4 + 2) (.int .i64 ((k0 : Int) + 4 * (k : Int) + 1 + 1))
      have hgr3 := grown_trans hgr2 hst.2
      have hownD := hst.1
      clear hst
      have hst := hownD.stored (k * 4 + 3) (.bool (((k0 : Int) + 4 * (k : Int) + 1 + 1 + 1) % 3 == 0))
      have hgr4 := grown_trans hgr3 hst.2
      have hownE := hst.1
      rw [HSET.out] at hownE
      clear hst
      go_wp2
      go_roundw
      case rel => exact ⟨k + 1, by omega, by go_num, by go_num, hownE, hgr4⟩
      case measure => simp [intOf]; omega
    · have he : l.drop k = [] := List.drop_eq_nil_of_le (by omega)
      obtain rfl : k = l.length := by omega
      rw [he, List.append_nil] at hown
      clear he
      go_wp2
      go_ret
      exact ⟨ret_int (by simp), hown, hgr⟩

set_option maxHeartbeats 1600000 in
theorem heldFieldS_call (base k0 n : Nat) (e : TypeId) (a : Option Addr) (cap : Nat) (w : World) (h : w.ownsRow base e 4 (.slice a n cap) n ((marksF k0 n).flatMap fc)) (hn : n ≤ 1048576) (hk0 : 1 ≤ k0) (hk1 : k0 + 4 * n ≤ 4194305) :
    Calls Try.prog 22 #[.slice a n cap, .int .i64 k0] w fun r w' => r = .returned (.int .i64 ((k0 + 4 * n : Nat) : Int)) ∧ Below w.heap.size w w' := by
  go_enter Try.func22, Try.ntmps22
  go_wp2
  go_loopw [1, 5] (fun q i wr => ∃ k : Nat, k ≤ n ∧ i = .int .i64 k ∧ q = .int .i64 ((k0 : Int) + 4 * (k : Int)) ∧ Below w.heap.size w wr) (fun _ i _ => n - (intOf i).toNat)
  case atStart => exact ⟨0, by omega, rfl, by simp, Below.refl _ _⟩
  case round =>
    obtain ⟨k, hk, rfl, rfl, hbel⟩ := hrel
    by_cases hlt : k < n
    · obtain ⟨g, rfl, hb, hg⟩ := Grid.own_at h (by omega)
      have hmt := markText_call (k0 + 4 * k)
      have hmt2 := markText_call (k0 + 4 * k + 1)
      have ecast : ((k0 + 4 * k : Nat) : Int) = (k0 : Int) + 4 * (k : Int) := by omega
      have ecast2 : ((k0 + 4 * k + 1 : Nat) : Int) = (k0 : Int) + 4 * (k : Int) + 1 := by omega
      rw [ecast] at hmt
      rw [ecast2] at hmt2
      clear ecast ecast2
      have hkl : k < (marksF k0 n).length := by rw [marksF_len]; exact hlt
      have hcl := fun j hj => Grid.own_cell fc_len h k hkl (marksF_len _ _) j hj
      rw [marksF_at k0 n k hkl] at hcl
      have c1 : w.cell? ⟨g, k * 4, none⟩ = some (.string (txt (markL (k0 + 4 * k)))) := hcl 0 (by omega)
      have c2 : w.cell? ⟨g, k * 4 + 1, none⟩ = some (.string (txt (markL (k0 + 4 * k + 1)))) := hcl 1 (by omega)
      have c3 : w.cell? ⟨g, k * 4 + 2, none⟩ = some (.int .i64 ((k0 : Int) + 4 * (k : Int) + 1 + 1)) := hcl 2 (by omega)
      have c4 : w.cell? ⟨g, k * 4 + 3, none⟩ = some (.bool (((k0 : Int) + 4 * (k : Int) + 1 + 1 + 1) % 3 == 0)) := hcl 3 (by omega)
      clear hcl
      have c1 := (hbel.cell (p := ⟨g, k * 4, none⟩) hg).trans c1
      have c2 := (hbel.cell (p := ⟨g, k * 4 + 1, none⟩) hg).trans c2
      have c3 := (hbel.cell (p := ⟨g, k * 4 + 2, none⟩) hg).trans c3
      have c4 := (hbel.cell (p := ⟨g, k * 4 + 3, none⟩) hg).trans c4
      generalize txt (markL (k0 + 4 * k)) = ta at c1 hmt
      generalize txt (markL (k0 + 4 * k + 1)) = tb at c2 hmt2
      have HMT := Lib.hid hmt
      have HMT2 := Lib.hid hmt2
      clear hmt hmt2 hkl
      have i0 : (0 : Int) ≤ (k : Int) := by omega
      have i1 : (k : Int) < (n : Int) := by omega
      have hgw : g < wr.heap.size := Nat.lt_of_lt_of_le hg hbel.size
      go_wp2
      go_region_held3 (fun w' => w'.cell? ⟨g, k * 4, none⟩ = some (.string ta)) (first | go_keep | exact (hb1.cell (p := ⟨g, k * 4, none⟩) (by simpa using hgw)).trans c1) ((go_at_call 36; refine (HMT.out _ (by omega) (by omega)).mono ?_; rintro r w1 ⟨rfl, hb1⟩))
      all_goals
        have hbel1 := hbel.trans ((below_of_drew hb1).mono hbel.size)
        have c2 := ((below_of_drew hb1).cell (p := ⟨g, k * 4 + 1, none⟩) hgw).trans c2
        have c3 := ((below_of_drew hb1).cell (p := ⟨g, k * 4 + 2, none⟩) hgw).trans c3
        have c4 := ((below_of_drew hb1).cell (p := ⟨g, k * 4 + 3, none⟩) hgw).trans c4
        have hgw1 : g < w1.heap.size := Nat.lt_of_lt_of_le hg hbel1.size
        clear c1
        go_wp2
        go_region_held3 (fun w' => w'.cell? ⟨g, k * 4 + 1, none⟩ = some (.string tb)) (first | go_keep | exact (hb2.cell (p := ⟨g, k * 4 + 1, none⟩) (by simpa using hgw1)).trans c2) ((go_at_call 36; refine (HMT2.out _ (by omega) (by omega)).mono ?_; rintro r w2 ⟨rfl, hb2⟩))
        all_goals
          have c3 := ((below_of_drew hb2).cell (p := ⟨g, k * 4 + 2, none⟩) hgw1).trans c3
          have c4 := ((below_of_drew hb2).cell (p := ⟨g, k * 4 + 3, none⟩) hgw1).trans c4
          have hbel2 := hbel1.trans ((below_of_drew hb2).mono hbel1.size)
          clear c2 hbel1 hb2 hb1
          go_wp2
          go_roundw
          case rel => exact ⟨k + 1, by omega, by go_num, by go_num, hbel2⟩
          case measure => simp [intOf]; omega
    · have hkn : k = n := by omega
      have HK := Lib.hid hkn
      clear hkn
      go_wp2
      go_ret
      exact ⟨ret_int (by rw [HK.out]; simp), hbel⟩

end Fld

end Go.Proofs.Ytljifooeokhgeaa
