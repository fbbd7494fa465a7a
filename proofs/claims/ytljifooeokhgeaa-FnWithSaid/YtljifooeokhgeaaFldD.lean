/- CONTRACT of the laws' sameFields; what a list with a text put in holds. -/
import Derived.Test.YtljifooeokhgeaaFldW
namespace Go.Proofs.Ytljifooeokhgeaa
set_option linter.unusedVariables false
set_option maxRecDepth 4000
open Go.ChangeShapes Go.WideShapes Go.ChangeAt Go.RowKit
open Go.ChangeMaps (open_string shut_string)

namespace Fld

theorem same_snoc (l1 l2 : List FieldL) (k : Nat) (h1 : k < l1.length) (h2 : k < l2.length) (h : l1.take k = l2.take k) (he : l1[k] = l2[k]) : l1.take (k + 1) = l2.take (k + 1) := by
  rw [List.take_succ_eq_append_getElem h1, List.take_succ_eq_append_getElem h2, h, he]

set_option maxHeartbeats 800000 in
theorem sameFields_call (v1 v2 : Value) (l1 l2 : List FieldL) (w : World) (h1 : FAt w v1 l1) (h2 : FAt w v2 l2) (hn1 : l1.length ≤ 2097152) (hn2 : l2.length ≤ 2097152) :
    Calls Try.prog 10 #[v1, v2] w fun e w' => e = .returned (.bool (decide (l1 = l2))) ∧ Below w.heap.size w w' := by
  have H1 := Lib.hid h1
  have H2 := Lib.hid h2
  obtain ⟨a1, cap1, rfl, _⟩ := h1
  obtain ⟨a2, cap2, rfl, _⟩ := h2
  obtain ⟨R, hR⟩ : ∃ R, R = decide (l1 = l2) := ⟨_, rfl⟩
  have HR := Lib.hid hR
  rw [← hR]
  clear hR
  by_cases hl : l1.length = l2.length
  · have HL := Lib.hid hl
    have hli : (l1.length : Int) = (l2.length : Int) := by omega
    clear hl
    go_enter Try.func10, Try.ntmps10
    go_wp2
    go_loopw [5] (fun i wr => ∃ k : Nat, k ≤ l1.length ∧ i = .int .i64 k ∧ Hid (l1.take k = l2.take k) ∧ Below w.heap.size w wr) (fun i _ => l1.length - (intOf i).toNat)
    case atStart => exact ⟨0, by omega, rfl, Lib.hid rfl, Below.refl _ _⟩
    case round =>
      obtain ⟨k, hk, rfl, hs, hbel⟩ := hrel
      by_cases hlt : k < l1.length
      · have hlt2 : k < l2.length := by have := HL.out; omega
        obtain ⟨g1, off1, rfl, hg1, c1, c2, c3, c4⟩ := FAt.cells (Grid.GAt.below H1.out hbel) k hlt
        obtain ⟨g2, off2, rfl, hg2, d1, d2, d3, d4⟩ := FAt.cells (Grid.GAt.below H2.out hbel) k hlt2
        have hi0 : (0 : Int) ≤ (k : Int) := by omega
        have hi1 : (k : Int) < (l1.length : Int) := by omega
        have hi2 : (k : Int) < (l2.length : Int) := by omega
        have hE := field_eql l1[k] l2[k]
        have HE := Lib.hid (fun he => same_snoc l1 l2 k hlt hlt2 hs.out he)
        have HN := Lib.hid (show l1[k] ≠ l2[k] → R = false from fun hne => by
          rw [HR.out, decide_eq_false]
          rintro rfl
          exact hne rfl)
        simp only [fc] at hE
        obtain ⟨E, hEd⟩ : ∃ E, E = decide (l1[k] = l2[k]) := ⟨_, rfl⟩
        rw [← hEd] at hE
        have HED := Lib.hid hEd
        clear hEd hs
        cases E with
        | true =>
          have HK := Lib.hid (HE.out (of_decide_eq_true HED.out.symm))
          go_wp2
          go_quiet (fail)
          go_wp2
          go_roundw
          case rel => exact ⟨k + 1, by omega, by go_num, HK, below_drewN hbel _⟩
          case measure => simp [intOf]; omega
        | false =>
          have HK := Lib.hid (HN.out (of_decide_eq_false HED.out.symm))
          go_wp2
          go_quiet (fail)
          go_wp2
          go_ret
          exact ⟨by rw [HK.out]; rfl, below_drewN hbel _⟩
      · have HK := Lib.hid (show R = true by
          rw [HR.out, decide_eq_true]
          have h := hs.out
          rwa [List.take_of_length_le (by omega), List.take_of_length_le (by have := HL.out; omega)] at h)
        go_wp2
        go_ret
        exact ⟨by rw [HK.out]; rfl, hbel⟩
  · have HK := Lib.hid (show R = false by
      rw [HR.out, decide_eq_false]
      rintro rfl
      exact hl rfl)
    have hli : (((l1.length : Int)) != (l2.length : Int)) = true := by rw [bne_iff_ne]; omega
    clear hl
    go_enter Try.func10, Try.ntmps10
    go_wp2
    go_ret
    exact ⟨by rw [HK.out]; rfl, Below.refl _ _⟩

/-- the list with a text put in: the text is found under its name -/
theorem newL_at (l : List FieldL) (key text : List UInt8) : ∃ h : fidx key (newL l key text) < (newL l key text).length, (newL l key text)[fidx key (newL l key text)] = txtF key text := by
  unfold newL
  by_cases hlt : fidx key l < l.length
  · rw [if_pos hlt]
    have e : fidx key (l.set (fidx key l) (txtF key text)) = fidx key l := by
      refine fidx_here key _ _ (by simpa using hlt) (fun j hj hjk => ?_) (by simp [txtF])
      rw [List.getElem_set_ne (by omega)]
      exact fidx_before key l j (by simpa using hj) hjk
    refine ⟨by rw [e]; simpa using hlt, ?_⟩
    simp [e]
  · rw [if_neg hlt]
    have hall : ∀ j (hj : j < l.length), l[j].1 ≠ key := fun j hj => fidx_before key l j hj (by omega)
    have e : fidx key (l ++ [txtF key text]) = l.length := by
      refine fidx_here key _ _ (by simp) (fun j hj hjk => ?_) (by simp [txtF])
      rw [List.getElem_append_left hjk]
      exact hall j hjk
    refine ⟨by rw [e]; simp, ?_⟩
    simp [e]

theorem newL_text (l : List FieldL) (key text : List UInt8) : textV (newL l key text) (fidx key (newL l key text)) = .tuple #[.string (txt text), .bool true] := by
  obtain ⟨h, he⟩ := newL_at l key text
  unfold textV
  rw [List.getElem?_eq_getElem h, he]
  rfl

theorem newL_num (l : List FieldL) (key text : List UInt8) : numV (newL l key text) (fidx key (newL l key text)) = -1 := by
  obtain ⟨h, he⟩ := newL_at l key text
  unfold numV
  rw [List.getElem?_eq_getElem h, he]
  rfl

theorem nodup_at {l : List FieldL} (h : (l.map (·.1)).Nodup) (i j : Nat) (hi : i < l.length) (hj : j < l.length) (he : l[i].1 = l[j].1) : i = j := by
  have h2 := List.pairwise_iff_getElem.1 h
  rcases Nat.lt_trichotomy i j with hlt | heq | hlt
  · exact absurd (by rw [List.getElem_map, List.getElem_map]; exact he) (h2 i j (by simpa using hi) (by simpa using hj) hlt)
  · exact heq
  · exact absurd (by rw [List.getElem_map, List.getElem_map]; exact he.symm) (h2 j i (by simpa using hj) (by simpa using hi) hlt)

/-- other names keep their number -/
theorem newL_other (l : List FieldL) (key text : List UInt8) (hd : (l.map (·.1)).Nodup) (k : Nat) (hk : k < l.length) (hne : l[k].1 ≠ key) (hb : l[k].2.2.2 = true) : numV (newL l key text) (fidx l[k].1 (newL l key text)) = l[k].2.2.1 := by
  have hx : ∃ h : k < (newL l key text).length, (newL l key text)[k] = l[k] ∧ ∀ j (hj : j < (newL l key text).length), j < k → (newL l key text)[j].1 ≠ l[k].1 := by
    unfold newL
    by_cases hlt : fidx key l < l.length
    · rw [if_pos hlt]
      have hka := fidx_at key l hlt
      have hkne : fidx key l ≠ k := by
        intro h
        have : l[fidx key l].1 = l[k].1 := by simp [h]
        rw [hka] at this
        exact hne this.symm
      refine ⟨by simpa using hk, by rw [List.getElem_set_ne hkne], fun j hj hjk => ?_⟩
      by_cases hj2 : fidx key l = j
      · subst hj2
        rw [List.getElem_set_self]
        exact fun h => hne h.symm
      · rw [List.getElem_set_ne hj2]
        intro h
        have := nodup_at hd j k (by simpa using hj) hk h
        omega
    · rw [if_neg hlt]
      refine ⟨by simp; omega, by rw [List.getElem_append_left hk], fun j hj hjk => ?_⟩
      rw [List.getElem_append_left (by omega)]
      intro h
      have := nodup_at hd j k (by omega) hk h
      omega
  obtain ⟨h, he, hbef⟩ := hx
  have hf := fidx_here l[k].1 (newL l key text) k h hbef (by rw [he])
  rw [hf]
  unfold numV
  rw [List.getElem?_eq_getElem h, he]
  simp [hb]

theorem fieldsR_nodup {l : List FieldL} (h : fieldsR l = true) : (l.map (·.1)).Nodup := by
  unfold fieldsR at h
  simp only [Bool.and_eq_true, decide_eq_true_eq] at h
  exact h.2.2

theorem withL_is (l : List FieldL) (key text : List UInt8) (h : withL l key text ≠ l) : withL l key text = newL l key text ∧ fieldsR l = true ∧ fieldsR (newL l key text) = true := by
  unfold withL at h ⊢
  split
  · rename_i hc
    rw [Bool.and_eq_true] at hc
    exact ⟨rfl, hc⟩
  · rename_i hc
    rw [if_neg hc] at h
    exact absurd rfl h

end Fld

end Go.Proofs.Ytljifooeokhgeaa
