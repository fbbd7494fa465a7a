/- CONTRACTS of readFormText, readPair, GetForm: the program's. -/
import Derived.Test.YtfnignlfelambaaGreatDoorFormI
import Derived.Test.YtfnignlfelambaaGreatDoorSplitI
import Derived.Test.YtfnignlfelambaaGreatDoorFormP
import Derived.Laws.ResultCell
import Derived.Lib.Replace
import Derived.Test.YtfnignlfelambaaGreatDoorB64U
import Derived.Test.YtfnignlfelambaaGreatDoorPairsM
import Derived.Test.YtfnignlfelambaaGreatDoorStep
import Derived.Lib.IndexBytes
import Derived.Lib.CountLaws
import Derived.Lib.SplitLaws
namespace Go.Proofs.YtfnignlfelambaaGreatDoor
set_option linter.unusedVariables false
set_option maxRecDepth 4000
open Go.RowKit Go.Shelf
open Go.ChangeShapes Go.WideShapes Go.ChangeAt

theorem repK_plus (k : Nat) : ∀ s : List UInt8, Lib.count s [43] = k → Lib.replaceK [43] [32] k s = s.map plusB := by
  induction k with
  | zero =>
    intro s h
    rw [Lib.replaceK]
    by_cases hm : (43 : UInt8) ∈ s
    · obtain ⟨p, q, rfl, hp⟩ := List.eq_append_cons_of_mem hm
      have hi : Lib.index (p ++ 43 :: q) [43] = (p.length : Nat) := by
        rw [Lib.index_one]; exact idxB_yes p q 43 (fun x hx e => hp (e ▸ hx))
      rw [Lib.count_hit (by simp) hi] at h
      omega
    · exact (plus_none s (fun c hc e => hm (e ▸ hc))).symm
  | succ k ih =>
    intro s h
    by_cases hm : (43 : UInt8) ∈ s
    · obtain ⟨p, q, rfl, hp⟩ := List.eq_append_cons_of_mem hm
      have hi : Lib.index (p ++ 43 :: q) [43] = (p.length : Nat) := by
        rw [Lib.index_one]; exact idxB_yes p q 43 (fun x hx e => hp (e ▸ hx))
      have hd : (p ++ 43 :: q).drop (p.length + [(43 : UInt8)].length) = q := by simp
      rw [Lib.count_hit (by simp) hi, hd] at h
      rw [Lib.replaceK_hit _ _ _ _ _ hi, hd, ih q (by omega), List.map_append, List.map_cons, plus_none p (fun c hc e => hp (e ▸ hc))]
      simp [plusB]
    · have hi : Lib.index s [43] = -1 := by
        rw [Lib.index_one]; exact idxB_no s 43 (fun x hx e => hm (e ▸ hx))
      rw [Lib.count_miss hi] at h
      omega

theorem rep_plus (s : List UInt8) : Lib.replaceAll s [43] [32] = s.map plusB := by
  unfold Lib.replaceAll Lib.replace
  rw [if_neg (by decide)]
  have : Lib.replaceNum s [43] (-1) = Lib.count s [43] := by unfold Lib.replaceNum; rw [if_pos (.inl (by decide))]
  rw [this]
  exact repK_plus _ s rfl

/-- the library's number of how long a pattern may be: some number lies there -/
def HM (w : World) : Prop := ∃ m : Int, w.cell? ⟨0, 0, none⟩ = some (.int .i64 m)

theorem HM.below {w w' : World} (h : HM w) (hb : Below w.heap.size w w') : HM w' := by
  obtain ⟨m, hm⟩ := h
  exact ⟨m, (hb.cell (p := ⟨_, 0, none⟩) (World.block_lt_of_cell? w _ hm)).trans hm⟩

theorem rep_call (l : List UInt8) (w : World) (hl : l.length ≤ 1048576) (hm : HM w) :
    Calls Tryz.prog 125 #[.string (txt l), .string { data := #[43] }, .string { data := #[32] }] w fun e w' => e = .returned (.string (txt (l.map plusB))) ∧ Below w.heap.size w w' := by
  obtain ⟨m, hm⟩ := hm
  have hc : Lib.countB (txt l) (ByteArray.mk #[43]) ≤ (txt l).size := Lib.countB_le _ (by decide) _ _ (Nat.le_refl _)
  have h := Tryz.strings_ReplaceAll (txt l) { data := #[43] } { data := #[32] } m w (by rw [txt_size]; omega) hm (by decide) (by
    have e : (ByteArray.mk #[32]).size = 1 := rfl
    rw [e, txt_size] at *
    omega)
  rw [txt_toList] at h
  refine h.mono ?_
  rintro e w' ⟨rfl, hb⟩
  refine ⟨?_, hb⟩
  rw [show (ByteArray.mk #[43]).data.toList = [43] from rfl, show (ByteArray.mk #[32]).data.toList = [32] from rfl, rep_plus]
  rfl

theorem unpct_impl_l (l : List UInt8) (w : World) (hs : l.length ≤ 1048576) :
    Calls Tryz.prog 124 #[.string (txt l)] w fun e w' => e = .returned (unR (unpA [] l)) ∧ Below w.heap.size w w' := by
  have := unpct_impl (txt l) w (by rw [txt_size]; exact hs)
  rwa [txt_toList] at this

theorem formText_call (l : List UInt8) (w : World) (hl : l.length ≤ 1048576) (hm : HM w) :
    Calls Tryz.prog 111 #[.string (txt l)] w fun e w' => e = .returned (unR (formL l)) ∧ Below w.heap.size w w' := by
  obtain ⟨x, ok, hR, _⟩ := unR_form (formL l)
  have C := Lib.hid (fun wx => unpct_impl_l (l.map plusB) wx (by rw [List.length_map]; exact hl))
  rw [show unpA [] (l.map plusB) = formL l from rfl, hR] at C
  rw [hR]
  clear hR
  go_enter Tryz.func111, Tryz.ntmps111
  go_wp2_with fail
  refine (rep_call l _ hl hm).mono ?_
  rintro e w1 ⟨rfl, hb1⟩
  go_wp2_with fail
  refine (C.out _).mono ?_
  rintro e w2 ⟨rfl, hb2⟩
  go_wp2
  go_ret2
  exact ⟨rfl, bstep hb1 hb2⟩

theorem cut_impl_l (l : List UInt8) (c : UInt8) (w : World) (hs : l.length ≤ 1048576) :
    Calls Tryz.prog 65 #[.string (txt l), .int .u8 c.toNat] w fun e w' => e = .returned (cutR l (cutL c l)) ∧ Below w.heap.size w w' := by
  by_cases hc : c ∈ l
  · obtain ⟨p, q, rfl, hp⟩ := List.eq_append_cons_of_mem hc
    rw [cutL_yes c q p hp]
    exact cut_l_yes p q c w hp hs
  · rw [cutL_no c l hc]
    exact cut_l_no l c w hc

/-- what readPair gives back -/
def pairR : Option PairL → Value
  | some p => .tuple #[.agg #[.string (txt p.1), .string (txt p.2)], .bool true]
  | none => .tuple #[.agg #[.string ⟨#[]⟩, .string ⟨#[]⟩], .bool false]

set_option maxHeartbeats 1600000 in
theorem readPair_call (l : List UInt8) (w : World) (hl : l.length ≤ 1048576) (hm : HM w) :
    Calls Tryz.prog 93 #[.string (txt l)] w fun e w' => e = .returned (pairR (partL l)) ∧ Below w.heap.size w w' := by
  obtain ⟨a, b, ok, hC, ha, hb, h1⟩ := cutR_form 61 l
  obtain ⟨k, fine, hK, h2⟩ := unR_form (formL a)
  obtain ⟨v, good, hV, h3⟩ := unR_form (formL b)
  have hp := Lib.hid (partL_of l ok fine good a b k v h1 h2 h3)
  have C := Lib.hid (fun wx => cut_impl_l l 61 wx hl)
  have K := Lib.hid (fun wx h => formText_call a wx (by omega) h)
  have V := Lib.hid (fun wx h => formText_call b wx (by omega) h)
  rw [hC] at C
  rw [hK] at K
  rw [hV] at V
  clear hC hK hV h1 h2 h3 ha hb
  go_enter Tryz.func93, Tryz.ntmps93
  go_wp2_with fail
  refine (C.out _).mono ?_
  rintro e w1 ⟨rfl, b1⟩
  have b1' : Below w.heap.size w w1 := ((Below.refl _ w).alloc (Nat.le_refl _) _).trans (b1.mono (by simp))
  go_wp2_with fail
  refine (K.out _ (hm.below b1')).mono ?_
  rintro e w2 ⟨rfl, b2⟩
  go_wp2_with fail
  refine (V.out _ (hm.below (bstep b1' b2))).mono ?_
  rintro e w3 ⟨rfl, b3⟩
  have b3' := bstep (bstep b1' b2) b3
  have hg : w3.heap[w.heap.size]? = some (.cells #[.string ⟨#[]⟩, .string ⟨#[]⟩] 67 (0, 0)) := ((bstep (bstep b1 b2) b3).block w.heap.size (by simp)).trans (heap_alloc_last w _)
  obtain ⟨i0, hi, _, hs, _⟩ := info_parts pair_info
  have c0 := box_cell hg 0
  have c1 := box_cell hg 1
  have f0 := box_free hg 0
  have f1 := box_free hg 1
  clear b1 b1' b2 b3
  generalize hgd : w.heap.size = g at hg c0 c1 f0 f1 b3' ⊢
  have HGD := Lib.hid hgd
  clear hgd
  by_cases hall : ok = true ∧ fine = true ∧ good = true
  · obtain ⟨rfl, rfl, rfl⟩ := hall
    have HP := Lib.hid (show partL l = some (k, v) by rw [hp.out]; simp)
    have hg2 := box_set (box_set hg 0 (.string (txt k))) 1 (.string (txt v))
    have hld := run_loadVar_row (P := Tryz.prog) _ g 67 67 #[.string (txt k), .string (txt v)] (0, 0) _ hg2 Tryz.underlying67 rfl (by rw [hi]; simp [hs])
    have hb9 := (b3'.setCell (p := ⟨g, 0, none⟩) (Nat.le_refl _) (.string (txt k))).setCell (p := ⟨g, 1, none⟩) (Nat.le_refl _) (.string (txt v))
    clear hp
    go_wp2
    refine bodyPost_ret (v := .tuple #[.agg #[.string (txt k), .string (txt v)], .bool true]) ?_ rfl ⟨by rw [HP.out]; rfl, by rw [HGD.out]; exact hb9⟩
    rw [results_cell_tmp rfl]
    simp [asAddr, Result.andThen, hld]
  · have HP := Lib.hid (show partL l = none by rw [hp.out, if_neg hall])
    have hg2 := box_set (box_set hg 0 (.string ⟨#[]⟩)) 1 (.string ⟨#[]⟩)
    have hld := run_loadVar_row (P := Tryz.prog) _ g 67 67 #[.string ⟨#[]⟩, .string ⟨#[]⟩] (0, 0) _ hg2 Tryz.underlying67 rfl (by rw [hi]; simp [hs])
    have hb9 := (b3'.setCell (p := ⟨g, 0, none⟩) (Nat.le_refl _) (.string ⟨#[]⟩)).setCell (p := ⟨g, 1, none⟩) (Nat.le_refl _) (.string ⟨#[]⟩)
    clear hp
    have hcases : ok = false ∨ (ok = true ∧ fine = false) ∨ (ok = true ∧ fine = true ∧ good = false) := by
      cases ok <;> cases fine <;> cases good <;> simp_all
    rcases hcases with rfl | ⟨rfl, rfl⟩ | ⟨rfl, rfl, rfl⟩
    all_goals
      go_wp2
      refine bodyPost_ret (v := .tuple #[.agg #[.string ⟨#[]⟩, .string ⟨#[]⟩], .bool false]) ?_ rfl ⟨by rw [HP.out]; rfl, by rw [HGD.out]; exact hb9⟩
      rw [results_cell_tmp rfl]
      simp [asAddr, Result.andThen, hld]

end Go.Proofs.YtfnignlfelambaaGreatDoor
