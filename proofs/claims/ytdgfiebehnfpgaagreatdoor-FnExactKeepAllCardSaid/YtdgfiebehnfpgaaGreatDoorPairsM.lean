/- CONTRACTS of the laws' own helpers over rows of pairs: markPairS, heldPairS. -/
import Derived.Test.YtdgfiebehnfpgaaGreatDoorPairs
namespace Go.Proofs.YtdgfiebehnfpgaaGreatDoor
set_option linter.unusedVariables false
set_option maxRecDepth 4000
open Go.ChangeShapes Go.WideShapes Go.ChangeAt Go.RowKit
open Go.ChangeMaps (open_string shut_string)

/-- the pairs that marking writes -/
def marksP (k0 n : Nat) : List PairL := (List.range n).map fun i => (markL (k0 + 2 * i), markL (k0 + 2 * i + 1))

theorem marksP_len (k0 n : Nat) : (marksP k0 n).length = n := by simp [marksP]

theorem marksP_at (k0 n i : Nat) (h : i < (marksP k0 n).length) : (marksP k0 n)[i] = (markL (k0 + 2 * i), markL (k0 + 2 * i + 1)) := by simp [marksP]

theorem marksP_set (k0 i : Nat) (l : List PairL) (hi : i < l.length) :
    ((pcells (marksP k0 i ++ l.drop i)).set (i * 2) (.string (txt (markL (k0 + 2 * i))))).set (i * 2 + 1) (.string (txt (markL (k0 + 2 * i + 1)))) = pcells (marksP k0 (i + 1) ++ l.drop (i + 1)) := by
  have hl : (pcells (marksP k0 i)).length = i * 2 := by rw [pcells_len, marksP_len]
  have hd : l.drop i = l[i] :: l.drop (i + 1) := List.drop_eq_getElem_cons hi
  have hs : marksP k0 (i + 1) = marksP k0 i ++ [(markL (k0 + 2 * i), markL (k0 + 2 * i + 1))] := by simp [marksP, List.range_succ]
  rw [hd, hs, pcells_append, List.set_append, if_neg (by omega), hl, Nat.sub_self, List.set_append, if_neg (by omega), hl, show i * 2 + 1 - i * 2 = 1 by omega, List.append_assoc, pcells_append]
  clear hd
  generalize l[i] = p
  generalize l.drop (i + 1) = r
  simp [pcells]

set_option maxHeartbeats 1600000 in
theorem markPairS_call (base k0 : Nat) (e : TypeId) (a : Option Addr) (cap cap' : Nat) (l : List PairL) (w : World) (h : w.ownsRow base e 2 (.slice a l.length cap') l.length (pcells l)) (hn : l.length ≤ 1000000) (hk0 : 1 ≤ k0) (hk1 : k0 ≤ 1000000) :
    Calls Tryz.prog 69 #[.slice a l.length cap, .int .i64 k0] w fun r w' => r = .returned (.int .i64 ((k0 + 2 * l.length : Nat) : Int)) ∧ w'.ownsRow base e 2 (.slice a l.length cap') l.length (pcells (marksP k0 l.length)) ∧ w.grownBy w' (Value.slice a l.length cap').ownBlock := by
  go_enter Tryz.func69, Tryz.ntmps69
  go_wp2
  go_loopw [1, 5] (fun q i wr => ∃ k : Nat, k ≤ l.length ∧ i = .int .i64 k ∧ q = .int .i64 ((k0 : Int) + 2 * (k : Int)) ∧ wr.ownsRow base e 2 (.slice a l.length cap') l.length (pcells (marksP k0 k ++ l.drop k)) ∧ w.grownBy wr (Value.slice a l.length cap').ownBlock) (fun _ i _ => l.length - (intOf i).toNat)
  case atStart => exact ⟨0, by omega, rfl, by simp, by simpa [marksP] using h, World.grownBy.refl _ _⟩
  case round =>
    obtain ⟨k, hk, rfl, rfl, hown, hgr⟩ := hrel
    by_cases hlt : k < l.length
    · obtain ⟨g, rfl, hb, hg⟩ := own_at2 hown (by omega)
      have hlen : (marksP k0 k ++ l.drop k).length = l.length := by rw [List.length_append, marksP_len, List.length_drop]; omega
      have hmt := markText_call (k0 + 2 * k)
      have hmt2 := markText_call (k0 + 2 * k + 1)
      have ecast : ((k0 + 2 * k : Nat) : Int) = (k0 : Int) + 2 * (k : Int) := by omega
      have ecast2 : ((k0 + 2 * k + 1 : Nat) : Int) = (k0 : Int) + 2 * (k : Int) + 1 := by omega
      rw [ecast] at hmt
      rw [ecast2] at hmt2
      clear ecast ecast2
      have HMT := Lib.hid hmt
      have HMT2 := Lib.hid hmt2
      have HL := Lib.hid hlen
      clear hmt hmt2 hlen
      have hi0 : (0 : Int) ≤ (k : Int) := by omega
      have hi1 : (k : Int) < (l.length : Int) := by omega
      go_wp2_with fail
      refine (HMT.out _ (by omega) (by omega)).mono ?_
      rintro r w1 ⟨rfl, hb1⟩
      have hown1 := ownsRow_below hown hb1
      have hxl : (pcells (marksP k0 k ++ l.drop k)).length = l.length * 2 := by rw [pcells_len, HL.out]
      obtain ⟨u, hc1⟩ : ∃ u, w1.cell? ⟨g, k * 2, none⟩ = some u := ⟨_, (hown1.cellAt (k * 2) (by omega)).trans (List.getElem?_eq_getElem (by omega))⟩
      have hf1 := hown1.frozenAt (k * 2)
      have hst := hown1.stored (k * 2) (.string (txt (markL (k0 + 2 * k))))
      have hgr1 := grown_trans (grown_trans hgr (grown_below hb1 _)) hst.2
      have hownA := hst.1
      clear hst hxl
      have HSET := Lib.hid (marksP_set k0 k l hlt)
      generalize txt (markL (k0 + 2 * k)) = ta at hownA hgr1 HSET ⊢
      generalize txt (markL (k0 + 2 * k + 1)) = tb at HMT2 HSET
      go_wp2_with fail
      refine (HMT2.out _ (by omega) (by omega)).mono ?_
      rintro r w2 ⟨rfl, hb2⟩
      have hownB := ownsRow_below hownA hb2
      have hxl : ((pcells (marksP k0 k ++ l.drop k)).set (k * 2) (.string ta)).length = l.length * 2 := by rw [List.length_set, pcells_len, HL.out]
      obtain ⟨u2, hc2⟩ : ∃ u, w2.cell? ⟨g, k * 2 + 1, none⟩ = some u := ⟨_, (hownB.cellAt (k * 2 + 1) (by omega)).trans (List.getElem?_eq_getElem (by omega))⟩
      have hf2 := hownB.frozenAt (k * 2 + 1)
      have hst := hownB.stored (k * 2 + 1) (.string tb)
      have hgr2 := grown_trans (grown_trans hgr1 (grown_below hb2 _)) hst.2
      have hownC := hst.1
      rw [HSET.out] at hownC
      clear hst hxl
      go_wp2
      go_roundw
      case rel => exact ⟨k + 1, by omega, by go_num, by go_num, hownC, hgr2⟩
      case measure => simp [intOf]; omega
    · have he : l.drop k = [] := List.drop_eq_nil_of_le (by omega)
      obtain rfl : k = l.length := by omega
      rw [he, List.append_nil] at hown
      clear he
      go_wp2
      go_ret
      exact ⟨ret_int (by simp), hown, hgr⟩

end Go.Proofs.YtdgfiebehnfpgaaGreatDoor
