/- CONTRACTS of GetCookies, the model's and the program's; the trimmed parts of a text. -/
import Derived.Test.YtdgfiebehnfpgaaGreatDoorFormI
import Derived.Test.YtdgfiebehnfpgaaGreatDoorSplitI
import Derived.Test.YtdgfiebehnfpgaaGreatDoorFormP
import Derived.Laws.ResultCell
import Derived.Lib.Replace
import Derived.Test.YtdgfiebehnfpgaaGreatDoorB64U
import Derived.Test.YtdgfiebehnfpgaaGreatDoorPairsM
import Derived.Test.YtdgfiebehnfpgaaGreatDoorStep
import Derived.Lib.IndexBytes
import Derived.Lib.CountLaws
import Derived.Lib.SplitLaws
import Derived.Test.YtdgfiebehnfpgaaGreatDoorHtB
import Derived.Test.YtdgfiebehnfpgaaGreatDoorFormK
import Derived.Test.YtdgfiebehnfpgaaGreatDoorCkN
import Derived.Test.YtdgfiebehnfpgaaGreatDoorCkB
import Derived.Test.YtdgfiebehnfpgaaGreatDoorHtTk
import Derived.Shelf.Strings.SlTrimAscii
namespace Go.Proofs.YtdgfiebehnfpgaaGreatDoor
set_option linter.unusedVariables false
set_option maxRecDepth 4000
open Go.RowKit Go.Shelf
open Go.ChangeShapes Go.WideShapes Go.ChangeAt

theorem repK_plus (k : Nat) : ∀ s : List UInt8, Lib.count s [43] = k → Lib.replaceK [43] [32] k s = s.map plusB := by
  induction k with
  | zero =>
    intro s h
    rw [Lib.replaceK]
    by_cases hm : (43 : UInt8) ∈ s
    · obtain ⟨p, q, rfl, hp⟩ := List.eq_append_cons_of_mem hm
      have hi : Lib.index (p ++ 43 :: q) [43] = (p.length : Nat) := by
        rw [Lib.index_one]; exact idxB_yes p q 43 (fun x hx e => hp (e ▸ hx))
      rw [Lib.count_hit (by simp) hi] at h
      omega
    · exact (plus_none s (fun c hc e => hm (e ▸ hc))).symm
  | succ k ih =>
    intro s h
    by_cases hm : (43 : UInt8) ∈ s
    · obtain ⟨p, q, rfl, hp⟩ := List.eq_append_cons_of_mem hm
      have hi : Lib.index (p ++ 43 :: q) [43] = (p.length : Nat) := by
        rw [Lib.index_one]; exact idxB_yes p q 43 (fun x hx e => hp (e ▸ hx))
      have hd : (p ++ 43 :: q).drop (p.length + [(43 : UInt8)].length) = q := by simp
      rw [Lib.count_hit (by simp) hi, hd] at h
      rw [Lib.replaceK_hit _ _ _ _ _ hi, hd, ih q (by omega), List.map_append, List.map_cons, plus_none p (fun c hc e => hp (e ▸ hc))]
      simp [plusB]
    · have hi : Lib.index s [43] = -1 := by
        rw [Lib.index_one]; exact idxB_no s 43 (fun x hx e => hm (e ▸ hx))
      rw [Lib.count_miss hi] at h
      omega

theorem rep_plus (s : List UInt8) : Lib.replaceAll s [43] [32] = s.map plusB := by
  unfold Lib.replaceAll Lib.replace
  rw [if_neg (by decide)]
  have : Lib.replaceNum s [43] (-1) = Lib.count s [43] := by unfold Lib.replaceNum; rw [if_pos (.inl (by decide))]
  rw [this]
  exact repK_plus _ s rfl

/-- the library's number of how long a pattern may be: some number lies there -/
def HM (w : World) : Prop := ∃ m : Int, w.cell? ⟨1, 0, none⟩ = some (.int .i64 m)

theorem HM.below {w w' : World} (h : HM w) (hb : Below w.heap.size w w') : HM w' := by
  obtain ⟨m, hm⟩ := h
  exact ⟨m, (hb.cell (p := ⟨_, 0, none⟩) (World.block_lt_of_cell? w _ hm)).trans hm⟩

theorem rep_call (l : List UInt8) (w : World) (hl : l.length ≤ 1048576) (hm : HM w) :
    Calls Tryz.prog 175 #[.string (txt l), .string { data := #[43] }, .string { data := #[32] }] w fun e w' => e = .returned (.string (txt (l.map plusB))) ∧ Below w.heap.size w w' := by
  obtain ⟨m, hm⟩ := hm
  have hc : Lib.countB (txt l) (ByteArray.mk #[43]) ≤ (txt l).size := Lib.countB_le _ (by decide) _ _ (Nat.le_refl _)
  have h := Tryz.strings_ReplaceAll (txt l) { data := #[43] } { data := #[32] } m w (by rw [txt_size]; omega) hm (by decide) (by
    have e : (ByteArray.mk #[32]).size = 1 := rfl
    rw [e, txt_size] at *
    omega)
  rw [txt_toList] at h
  refine h.mono ?_
  rintro e w' ⟨rfl, hb⟩
  refine ⟨?_, hb⟩
  rw [show (ByteArray.mk #[43]).data.toList = [43] from rfl, show (ByteArray.mk #[32]).data.toList = [32] from rfl, rep_plus]
  rfl

theorem unpct_impl_l (l : List UInt8) (w : World) (hs : l.length ≤ 1048576) :
    Calls Tryz.prog 174 #[.string (txt l)] w fun e w' => e = .returned (unR (unpA [] l)) ∧ Below w.heap.size w w' := by
  have := unpct_impl (txt l) w (by rw [txt_size]; exact hs)
  rwa [txt_toList] at this

theorem formText_call (l : List UInt8) (w : World) (hl : l.length ≤ 1048576) (hm : HM w) :
    Calls Tryz.prog 155 #[.string (txt l)] w fun e w' => e = .returned (unR (formL l)) ∧ Below w.heap.size w w' := by
  obtain ⟨x, ok, hR, _⟩ := unR_form (formL l)
  have C := Lib.hid (fun wx => unpct_impl_l (l.map plusB) wx (by rw [List.length_map]; exact hl))
  rw [show unpA [] (l.map plusB) = formL l from rfl, hR] at C
  rw [hR]
  clear hR
  go_enter Tryz.func155, Tryz.ntmps155
  go_wp2_with fail
  refine (rep_call l _ hl hm).mono ?_
  rintro e w1 ⟨rfl, hb1⟩
  go_wp2_with fail
  refine (C.out _).mono ?_
  rintro e w2 ⟨rfl, hb2⟩
  go_wp2
  go_ret2
  exact ⟨rfl, bstep hb1 hb2⟩

theorem cut_impl_l (l : List UInt8) (c : UInt8) (w : World) (hs : l.length ≤ 1048576) :
    Calls Tryz.prog 87 #[.string (txt l), .int .u8 c.toNat] w fun e w' => e = .returned (cutR l (cutL c l)) ∧ Below w.heap.size w w' := by
  by_cases hc : c ∈ l
  · obtain ⟨p, q, rfl, hp⟩ := List.eq_append_cons_of_mem hc
    rw [cutL_yes c q p hp]
    exact cut_l_yes p q c w hp hs
  · rw [cutL_no c l hc]
    exact cut_l_no l c w hc

/-- what readPair gives back -/
def pairR : Option PairL → Value
  | some p => .tuple #[.agg #[.string (txt p.1), .string (txt p.2)], .bool true]
  | none => .tuple #[.agg #[.string ⟨#[]⟩, .string ⟨#[]⟩], .bool false]

set_option maxHeartbeats 1600000 in
theorem readPair_call (l : List UInt8) (w : World) (hl : l.length ≤ 1048576) (hm : HM w) :
    Calls Tryz.prog 128 #[.string (txt l)] w fun e w' => e = .returned (pairR (partL l)) ∧ Below w.heap.size w w' := by
  obtain ⟨a, b, ok, hC, ha, hb, h1⟩ := cutR_form 61 l
  obtain ⟨k, fine, hK, h2⟩ := unR_form (formL a)
  obtain ⟨v, good, hV, h3⟩ := unR_form (formL b)
  have hp := Lib.hid (partL_of l ok fine good a b k v h1 h2 h3)
  have C := Lib.hid (fun wx => cut_impl_l l 61 wx hl)
  have K := Lib.hid (fun wx h => formText_call a wx (by omega) h)
  have V := Lib.hid (fun wx h => formText_call b wx (by omega) h)
  rw [hC] at C
  rw [hK] at K
  rw [hV] at V
  clear hC hK hV h1 h2 h3 ha hb
  go_enter Tryz.func128, Tryz.ntmps128
  go_wp2_with fail
  refine (C.out _).mono ?_
  rintro e w1 ⟨rfl, b1⟩
  have b1' : Below w.heap.size w w1 := ((Below.refl _ w).alloc (Nat.le_refl _) _).trans (b1.mono (by simp))
  go_wp2_with fail
  refine (K.out _ (hm.below b1')).mono ?_
  rintro e w2 ⟨rfl, b2⟩
  go_wp2_with fail
  refine (V.out _ (hm.below (bstep b1' b2))).mono ?_
  rintro e w3 ⟨rfl, b3⟩
  have b3' := bstep (bstep b1' b2) b3
  have hg : w3.heap[w.heap.size]? = some (.cells #[.string ⟨#[]⟩, .string ⟨#[]⟩] 86 (0, 0)) := ((bstep (bstep b1 b2) b3).block w.heap.size (by simp)).trans (heap_alloc_last w _)
  obtain ⟨i0, hi, _, hs, _⟩ := info_parts pair_info
  have c0 := box_cell hg 0
  have c1 := box_cell hg 1
  have f0 := box_free hg 0
  have f1 := box_free hg 1
  clear b1 b1' b2 b3
  generalize hgd : w.heap.size = g at hg c0 c1 f0 f1 b3' ⊢
  have HGD := Lib.hid hgd
  clear hgd
  by_cases hall : ok = true ∧ fine = true ∧ good = true
  · obtain ⟨rfl, rfl, rfl⟩ := hall
    have HP := Lib.hid (show partL l = some (k, v) by rw [hp.out]; simp)
    have hg2 := box_set (box_set hg 0 (.string (txt k))) 1 (.string (txt v))
    have hld := run_loadVar_row (P := Tryz.prog) _ g 86 86 #[.string (txt k), .string (txt v)] (0, 0) _ hg2 Tryz.underlying86 rfl (by rw [hi]; simp [hs])
    have hb9 := (b3'.setCell (p := ⟨g, 0, none⟩) (Nat.le_refl _) (.string (txt k))).setCell (p := ⟨g, 1, none⟩) (Nat.le_refl _) (.string (txt v))
    clear hp
    go_wp2
    refine bodyPost_ret (v := .tuple #[.agg #[.string (txt k), .string (txt v)], .bool true]) ?_ rfl ⟨by rw [HP.out]; rfl, by rw [HGD.out]; exact hb9⟩
    rw [results_cell_tmp rfl]
    simp [asAddr, Result.andThen, hld]
  · have HP := Lib.hid (show partL l = none by rw [hp.out, if_neg hall])
    have hg2 := box_set (box_set hg 0 (.string ⟨#[]⟩)) 1 (.string ⟨#[]⟩)
    have hld := run_loadVar_row (P := Tryz.prog) _ g 86 86 #[.string ⟨#[]⟩, .string ⟨#[]⟩] (0, 0) _ hg2 Tryz.underlying86 rfl (by rw [hi]; simp [hs])
    have hb9 := (b3'.setCell (p := ⟨g, 0, none⟩) (Nat.le_refl _) (.string ⟨#[]⟩)).setCell (p := ⟨g, 1, none⟩) (Nat.le_refl _) (.string ⟨#[]⟩)
    clear hp
    have hcases : ok = false ∨ (ok = true ∧ fine = false) ∨ (ok = true ∧ fine = true ∧ good = false) := by
      cases ok <;> cases fine <;> cases good <;> simp_all
    rcases hcases with rfl | ⟨rfl, rfl⟩ | ⟨rfl, rfl, rfl⟩
    all_goals
      go_wp2
      refine bodyPost_ret (v := .tuple #[.agg #[.string ⟨#[]⟩, .string ⟨#[]⟩], .bool false]) ?_ rfl ⟨by rw [HP.out]; rfl, by rw [HGD.out]; exact hb9⟩
      rw [results_cell_tmp rfl]
      simp [asAddr, Result.andThen, hld]

end Go.Proofs.YtdgfiebehnfpgaaGreatDoor

namespace Go.Proofs.YtdgfiebehnfpgaaGreatDoor
set_option linter.unusedVariables false
set_option maxRecDepth 4000
open Go.ChangeShapes Go.WideShapes Go.ChangeAt Go.RowKit

namespace Ht

theorem scan_parts (M : Nat) (acc : List (List UInt8)) (s : List UInt8) : ∀ cur ls b, scanA acc cur s = some (ls, b) → (∀ x ∈ acc, x.length ≤ M) → cur.length + s.length ≤ M → (∀ x ∈ ls, x.length ≤ M) ∧ b.length ≤ M := by
  induction hn : s.length using Nat.strongRecOn generalizing s acc with
  | ind n ih =>
    intro cur ls b h hacc hM
    match s, hn with
    | [], _ => simp [scanA] at h
    | [_], _ => simp [scanA] at h
    | a :: c :: r, hn =>
      unfold scanA at h
      simp only [List.length_cons] at hn hM
      split at h
      · split at h
        · simp only [Option.some.injEq, Prod.mk.injEq] at h
          obtain ⟨rfl, rfl⟩ := h
          exact ⟨hacc, by omega⟩
        · exact ih r.length (by omega) (acc ++ [cur]) r rfl [] ls b h (fun x hx => by
            rw [List.mem_append] at hx
            rcases hx with hx | hx
            · exact hacc x hx
            · rw [List.mem_singleton] at hx
              subst hx
              omega) (by simp; omega)
      · exact ih (r.length + 1) (by omega) acc (c :: r) rfl (cur ++ [a]) ls b h hacc (by simp; omega)

theorem scanL_parts {s : List UInt8} {ls : List (List UInt8)} {b : List UInt8} (h : scanL s = some (ls, b)) : (∀ x ∈ ls, x.length ≤ s.length) ∧ b.length ≤ s.length ∧ ls.length ≤ s.length := by
  obtain ⟨h1, h2⟩ := scan_parts s.length [] s [] ls b h (fun x hx => by cases hx) (by simp)
  have h3 := scan_len [] s [] ls b h
  simp at h3
  exact ⟨h1, h2, h3.1⟩

theorem trimL_len (v : List UInt8) : (trimL v).length ≤ v.length := by
  unfold trimL Lib.trimS Lib.trimLeftS Lib.trimRightS
  have h1 := (List.dropWhile_sublist (fun x => ([32, 9] : List UInt8).contains x) (l := (v.reverse.dropWhile fun x => ([32, 9] : List UInt8).contains x).reverse)).length_le
  have h2 := (List.dropWhile_sublist (fun x => ([32, 9] : List UInt8).contains x) (l := v.reverse)).length_le
  rw [List.length_reverse] at h1 h2
  exact Nat.le_trans h1 h2

/-- the length of a text that may be there -/
def tolL : Option (List UInt8) → Nat
  | none => 0
  | some u => u.length

theorem take_parts (M : Nat) (ls : List (List UInt8)) : ∀ hs t, (∀ x ∈ ls, x.length ≤ M) → (∀ p ∈ hs, p.1.length ≤ M ∧ p.2.length ≤ M) → (tolL t ≤ M) →
    (∀ p ∈ (takeA hs t ls).1, p.1.length ≤ M ∧ p.2.length ≤ M) ∧ tolL (takeA hs t ls).2.1 ≤ M := by
  induction ls with
  | nil => intro hs t _ h1 h2; exact ⟨h1, h2⟩
  | cons x r ih =>
    intro hs t hx h1 h2
    have hx1 := hx x List.mem_cons_self
    have hx2 := fun y hy => hx y (List.mem_cons_of_mem _ hy)
    unfold takeA
    cases hc : cutL 58 x with
    | none => exact ⟨h1, h2⟩
    | some y =>
      obtain ⟨k, v⟩ := y
      obtain ⟨l1, l2⟩ := cutL_len 58 x k v hc
      have l3 := trimL_len v
      simp only
      split
      · refine ih hs _ hx2 h1 ?_
        cases t with
        | none => show (trimL v).length ≤ M; omega
        | some u => exact h2
      · refine ih _ t hx2 (fun p hp => ?_) h2
        rw [List.mem_append] at hp
        rcases hp with hp | hp
        · exact h1 p hp
        · rw [List.mem_singleton] at hp
          subst hp
          exact ⟨by show k.length ≤ M; omega, by show (trimL v).length ≤ M; omega⟩

theorem readR_f {f : List UInt8} {hs : List (List UInt8)} {b : List UInt8} (h : readF f = none) : readR (f :: hs) b = (zeroR, 1) := by
  unfold readR
  simp only [h]

theorem readR_t {f m t : List UInt8} {hs : List (List UInt8)} {b : List UInt8} (h : readF f = some (m, t)) (h2 : readT t = none) : readR (f :: hs) b = (zeroR, 2) := by
  unfold readR
  simp only [h, h2]

theorem readR_h {f m t p : List UInt8} {q : List PairL} {hs : List (List UInt8)} {b : List UInt8} (h : readF f = some (m, t)) (h2 : readT t = some (p, q)) (h3 : readH hs = none) : readR (f :: hs) b = (zeroR, 3) := by
  unfold readR
  simp only [h, h2, h3]

theorem readR_b {f m t p : List UInt8} {q l : List PairL} {n : Option (List UInt8)} {hs : List (List UInt8)} {b : List UInt8} (h : readF f = some (m, t)) (h2 : readT t = some (p, q)) (h3 : readH hs = some (l, n)) :
    readR (f :: hs) b = if bodyOk b n = true then (⟨m, p, q, l, b⟩, 0) else (zeroR, 4) := by
  unfold readR
  simp only [h, h2, h3]

theorem readF_three {f m t p : List UInt8} (h : splitL 32 f = [m, t, p]) : readF f = if methodL m = true ∧ p = protoT then some (m, t) else none := by
  unfold readF
  rw [h]

theorem readF_not {f : List UInt8} (h : (splitL 32 f).length ≠ 3) : readF f = none := by
  unfold readF
  split
  · rename_i m t p hs
    rw [hs] at h
    simp at h
  · rfl

theorem getReq_mid {s : List UInt8} (h : ¬ 8000 < s.length) : getReq s = match scanL s with
  | none => (zeroR, 1)
  | some (ls, b) => readR ls b := by
  unfold getReq
  rw [if_neg h]
  rfl

theorem body_model (b : List UInt8) (n : Option (List UInt8)) : bodyOk b n = if n.isSome = true then decide (rdV (n.getD []) = (b.length : Int)) && decide (b.length ≤ 4000) else decide (b = []) := by
  unfold bodyOk lenOf
  cases n with
  | none =>
    simp only
    rw [if_neg (by simp)]
    cases b with
    | nil => rfl
    | cons x y =>
      rw [decide_eq_false (by simp; omega)]
      simp
  | some u =>
    simp only
    rw [if_pos (by rfl)]
    congr 1
    rw [Bool.eq_iff_iff, decide_eq_true_eq, decide_eq_true_eq]
    exact eq_comm

end Ht
end Go.Proofs.YtdgfiebehnfpgaaGreatDoor

namespace Go.Proofs.YtdgfiebehnfpgaaGreatDoor
set_option linter.unusedVariables false
set_option maxRecDepth 4000
open Go.ChangeShapes Go.WideShapes Go.ChangeAt Go.RowKit
open Go.ChangeMaps (open_string shut_string)

namespace Ck
open Ht

theorem cutA_R (c : UInt8) (l : List UInt8) : cutR l (cutL c l) = .tuple #[.string (txt (cutA c l).1), .string (txt (cutA c l).2.1), .bool (cutA c l).2.2] := by
  unfold cutA
  cases cutL c l with
  | none => rfl
  | some p => rfl

theorem cutA_len (c : UInt8) (l : List UInt8) : (cutA c l).1.length ≤ l.length ∧ (cutA c l).2.1.length ≤ l.length := by
  unfold cutA
  cases h : cutL c l with
  | none => exact ⟨Nat.le_refl _, Nat.zero_le _⟩
  | some p => exact cutL_len c l p.1 p.2 h

theorem cutS (c : UInt8) (l : List UInt8) (w : World) (hs : l.length ≤ 1048576) :
    Calls Tryz.prog 49 #[.string (txt l), .int .u8 c.toNat] w fun e w' => e = .returned (.tuple #[.string (txt (cutA c l).1), .string (txt (cutA c l).2.1), .bool (cutA c l).2.2]) ∧ Below w.heap.size w w' := by
  have := cut_spec_l l c w hs
  rwa [cutA_R] at this

theorem cutI (c : UInt8) (l : List UInt8) (w : World) (hs : l.length ≤ 1048576) :
    Calls Tryz.prog 87 #[.string (txt l), .int .u8 c.toNat] w fun e w' => e = .returned (.tuple #[.string (txt (cutA c l).1), .string (txt (cutA c l).2.1), .bool (cutA c l).2.2]) ∧ Below w.heap.size w w' := by
  have := cut_impl_l l c w hs
  rwa [cutA_R] at this

theorem trimI (s : List UInt8) (w : World) (hs : s.length ≤ 1048576) :
    Calls Tryz.prog 89 #[.string (txt s), .string ⟨#[32, 9]⟩] w fun e w' => e = .returned (.string (txt (trimL s))) ∧ Below w.heap.size w w' := by
  have h := Any.strings_Trim_laid Tryz.lays160 (by kernel_rfl) (txt s) ⟨#[32, 9]⟩ w (by rw [txt_size]; omega) (by decide) (ascii_of_all (by decide))
  rw [txt_toList] at h
  exact h

theorem trimS (s : List UInt8) (w : World) (hs : s.length ≤ 1048576) :
    Calls Tryz.prog 96 #[.string (txt s)] w fun e w' => e = .returned (.string (txt (trimL s))) ∧ w = w' := by
  have h := trim_spec (txt s) w (by rw [txt_size]; exact hs)
  rwa [txt_toList] at h

theorem trim_set (L : List (List UInt8)) (k : Nat) (hk : k < L.length) : ((L.take k).map trimL ++ L.drop k).set k (trimL L[k]) = (L.take (k + 1)).map trimL ++ L.drop (k + 1) := by
  have h1 : ((L.take k).map trimL).length = k := by rw [List.length_map, List.length_take]; omega
  rw [List.set_append, if_neg (by omega), h1, Nat.sub_self, List.drop_eq_getElem_cons hk, List.set_cons_zero, List.take_succ_eq_append_getElem hk, List.map_append]
  simp

theorem trim_get (L : List (List UInt8)) (k : Nat) (hk : k < L.length) (h : k < ((L.take k).map trimL ++ L.drop k).length) : ((L.take k).map trimL ++ L.drop k)[k] = L[k] := by
  have h1 : ((L.take k).map trimL).length = k := by rw [List.length_map, List.length_take]; omega
  rw [List.getElem_append_right (by omega)]
  have e : k - ((L.take k).map trimL).length = 0 := by omega
  simp only [e, List.getElem_drop, Nat.add_zero]

set_option maxHeartbeats 1600000 in
theorem parts_impl (s : ByteArray) (w : World) (hs : s.size ≤ 1048576) :
    Calls Tryz.prog 109 #[.string s] w fun e w' => ∃ v, e = .returned v ∧ w'.ownsRow w.heap.size 9 1 v (partsOf s.data.toList).length (strs (partsOf s.data.toList)) ∧ Below w.heap.size w w' := by
  have C := Lib.hid (fun wx => split_impl s 59 wx hs)
  have hlen := splitL_len 59 s.data.toList
  rw [data_length] at hlen
  have HM := Lib.hid (show ∀ x ∈ splitL 59 s.data.toList, x.length ≤ 1048576 from fun x hx => by have := splitL_part 59 s.data.toList x hx; rw [data_length] at this; omega)
  change Hid (∀ wx, Calls Tryz.prog 86 #[.string s, .int .u8 59] wx _) at C
  unfold partsOf
  generalize splitL 59 s.data.toList = L at C hlen HM ⊢
  go_enter Tryz.func109, Tryz.ntmps109
  go_wp2_with fail
  refine (C.out _).mono ?_
  rintro e w1 ⟨v, rfl, o1, b1⟩
  obtain ⟨a, cap, rfl⟩ := own_val o1
  go_wp2
  go_loopw [10] (fun i wr => ∃ k : Nat, k ≤ L.length ∧ i = .int .i64 k ∧ wr.ownsRow w.heap.size 9 1 (.slice a L.length cap) L.length (strs ((L.take k).map trimL ++ L.drop k)) ∧ Below w.heap.size w wr) (fun i _ => L.length - (intOf i).toNat)
  case atStart => exact ⟨0, by omega, rfl, by simpa using o1, b1⟩
  case round =>
    obtain ⟨k, hk, rfl, hown, hbel⟩ := hrel
    have hll : ((L.take k).map trimL ++ L.drop k).length = L.length := by rw [List.length_append, List.length_map, List.length_take, List.length_drop]; omega
    by_cases hlt : k < L.length
    · obtain ⟨g, rfl, hg1, hg2⟩ := own_at hown (by omega)
      have c1 := own_cell hown k (by rw [hll]; exact hlt) hll
      rw [trim_get L k hlt] at c1
      have T := Lib.hid (fun wx => trimI L[k] wx (HM.out L[k] (List.getElem_mem hlt)))
      have hi0 : (0 : Int) ≤ (k : Int) := by omega
      have hi1 : (k : Int) < (L.length : Int) := by omega
      clear o1
      go_wp2_with fail
      refine (T.out _).mono ?_
      rintro e w2 ⟨rfl, hb2⟩
      have hown2 := ownsRow_below hown (hb2.mono (Nat.le_refl _))
      obtain ⟨u, hc2⟩ : ∃ u, w2.cell? ⟨g, k, none⟩ = some u := ⟨_, own_cell hown2 k (by rw [hll]; exact hlt) hll⟩
      have hf2 := hown2.frozenAt k
      have hst := hown2.stored k (.string (txt (trimL L[k])))
      rw [strs_set, trim_set L k hlt] at hst
      have hbel2 := (hbel.trans (hb2.mono hbel.size)).setCell (p := ⟨g, k, none⟩) hg1 (.string (txt (trimL L[k])))
      have hown3 := hst.1
      clear hst hll c1
      generalize txt (trimL L[k]) = t at hown3 hbel2 ⊢
      go_wp2
      go_roundw
      case rel => exact ⟨k + 1, by omega, by go_num, hown3, hbel2⟩
      case measure => simp [intOf]; omega
    · have he : L.drop k = [] := List.drop_eq_nil_of_le (by omega)
      have he2 : L.take k = L := List.take_of_length_le (by omega)
      rw [he, he2, List.append_nil] at hown
      clear he he2 hll
      go_wp2
      go_ret
      exact ⟨_, rfl, by rw [List.length_map]; exact hown, hbel⟩

/- the rows of pairs -/

def pk (L : List (List UInt8)) : List PairL := (L.map trimL).filterMap onePair

theorem pk_snoc (L : List (List UInt8)) (k : Nat) (hk : k < L.length) : pk (L.take (k + 1)) = pk (L.take k) ++ (match onePair (trimL L[k]) with | some p => [p] | none => []) := by
  unfold pk
  rw [List.take_succ_eq_append_getElem hk, List.map_append, List.filterMap_append]
  congr 1
  simp only [List.map_cons, List.map_nil, List.filterMap_cons, List.filterMap_nil]
  cases onePair (trimL L[k]) <;> rfl

theorem pk_pre (L : List (List UInt8)) (k : Nat) : ∃ r, pk L = pk (L.take k) ++ r := by
  refine ⟨pk (L.drop k), ?_⟩
  unfold pk
  rw [← List.filterMap_append, ← List.map_append, List.take_append_drop]

theorem getCk_pk (s : List UInt8) : getCk s = (pk (splitL 59 s)).take 30 := rfl

theorem pk_len (L : List (List UInt8)) : (pk L).length ≤ L.length := by
  unfold pk
  have := List.length_filterMap_le onePair (L.map trimL)
  rw [List.length_map] at this
  exact this

end Ck
end Go.Proofs.YtdgfiebehnfpgaaGreatDoor
