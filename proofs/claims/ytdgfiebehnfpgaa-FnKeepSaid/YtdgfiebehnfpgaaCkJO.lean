/- CONTRACTS: the model's l07Same, l07Live, JarOk. -/
import Derived.Test.YtdgfiebehnfpgaaCkR
import Derived.Test.YtdgfiebehnfpgaaCkJ
namespace Go.Proofs.Ytdgfiebehnfpgaa
set_option linter.unusedVariables false
set_option maxRecDepth 4000
open Go.ChangeShapes Go.WideShapes Go.ChangeAt Go.RowKit
open Go.ChangeMaps (open_string shut_string)

namespace Ck
open Ht

theorem slots_twice (l : List CkL) (j k : Nat) (hk : k < l.length) (hjk : j < k) (h : slotL (l[j]'(by omega)) = slotL l[k]) : ¬ (l.map slotL).Nodup := by
  intro hn
  have h1 : (l.map slotL)[j]'(by simp; omega) = (l.map slotL)[k]'(by simp; omega) := by simpa using h
  have := (List.getElem_inj hn).1 h1
  omega

theorem slots_snoc (l : List CkL) (k : Nat) (hk : k < l.length) (h : ((l.take k).map slotL).Nodup) (hne : ∀ j (hj : j < l.length), j < k → slotL l[j] ≠ slotL l[k]) : ((l.take (k + 1)).map slotL).Nodup := by
  rw [List.take_succ_eq_append_getElem hk, List.map_append, List.nodup_append]
  refine ⟨h, by simp, ?_⟩
  intro a ha b hb
  have hb2 : b = slotL l[k] := by simpa using hb
  obtain ⟨x, hx, rfl⟩ := List.mem_map.1 ha
  obtain ⟨i, hi, rfl⟩ := List.getElem_of_mem hx
  rw [List.length_take] at hi
  rw [hb2, List.getElem_take]
  exact hne i (by omega) (by omega)

theorem ok_snoc (l : List CkL) (k : Nat) (hk : k < l.length) (h : (l.take k).all ckOk = true) (h2 : ckOk l[k] = true) : (l.take (k + 1)).all ckOk = true := by
  rw [List.take_succ_eq_append_getElem hk, List.all_append, h]
  simpa using h2

theorem ok_not (l : List CkL) (k : Nat) (hk : k < l.length) (h2 : ckOk l[k] = false) : jarR l = false := by
  have : l.all ckOk = false := by
    rw [Bool.eq_false_iff]
    intro h
    have := List.all_eq_true.1 h l[k] (List.getElem_mem hk)
    rw [h2] at this
    cases this
  unfold jarR
  rw [this]
  simp

theorem jar_not (l : List CkL) (h : ¬ (l.map slotL).Nodup) : jarR l = false := by
  unfold jarR
  rw [decide_eq_false h]
  simp

theorem jar_yes (l : List CkL) (hl : l.length ≤ 40) (h1 : l.all ckOk = true) (h2 : (l.map slotL).Nodup) : jarR l = true := by
  unfold jarR
  rw [decide_eq_true hl, h1, decide_eq_true h2]
  rfl

set_option maxHeartbeats 1600000 in
theorem same_call (a b : CkL) (w : World) :
    Calls Try.prog 31 #[ckV a, ckV b] w fun e w' => e = .returned (.bool (decide (slotL a = slotL b))) ∧ Below w.heap.size w w' := by
  unfold ckV
  have ba := Lib.hid (((Below.refl w.heap.size w).alloc (Nat.le_refl _) (.cells #[.string (txt a.n), .string (txt a.v), .string (txt a.d), .bool a.o, .string (txt a.p), .int .i64 a.u] 26)).alloc (by simp) (.cells #[.string (txt b.n), .string (txt b.v), .string (txt b.d), .bool b.o, .string (txt b.p), .int .i64 b.u] 26))
  obtain ⟨R, HR⟩ : ∃ R, Hid (R = decide (slotL a = slotL b)) := ⟨_, Lib.hid rfl⟩
  rw [← HR.out]
  have HS := Lib.hid (show (slotL a = slotL b) ↔ (a.n = b.n ∧ a.d = b.d ∧ a.p = b.p) by unfold slotL; simp)
  have e1 := txt_beq a.n b.n
  have e2 := txt_beq a.d b.d
  have e3 := txt_beq a.p b.p
  by_cases h1 : a.n = b.n
  · rw [decide_eq_true h1] at e1
    by_cases h2 : a.d = b.d
    · rw [decide_eq_true h2] at e2
      by_cases h3 : a.p = b.p
      · rw [decide_eq_true h3] at e3
        have hR := Lib.hid (show R = true by rw [HR.out, decide_eq_true (HS.out.2 ⟨h1, h2, h3⟩)])
        clear h1 h2 h3
        go_enter Try.func31, Try.ntmps31
        go_wp2
        go_ret
        exact ⟨by rw [hR.out]; rfl, ba.out⟩
      · rw [decide_eq_false h3] at e3
        have hR := Lib.hid (show R = false by rw [HR.out, decide_eq_false (fun h => h3 (HS.out.1 h).2.2)])
        clear h1 h2 h3
        go_enter Try.func31, Try.ntmps31
        go_wp2
        go_ret
        exact ⟨by rw [hR.out]; rfl, ba.out⟩
    · rw [decide_eq_false h2] at e2
      have hR := Lib.hid (show R = false by rw [HR.out, decide_eq_false (fun h => h2 (HS.out.1 h).2.1)])
      clear h1 h2
      go_enter Try.func31, Try.ntmps31
      go_wp2
      go_ret
      exact ⟨by rw [hR.out]; rfl, ba.out⟩
  · rw [decide_eq_false h1] at e1
    have hR := Lib.hid (show R = false by rw [HR.out, decide_eq_false (fun h => h1 (HS.out.1 h).1)])
    clear h1
    go_enter Try.func31, Try.ntmps31
    go_wp2
    go_ret
    exact ⟨by rw [hR.out]; rfl, ba.out⟩

set_option maxHeartbeats 1600000 in
theorem live_call (c : CkL) (now : Int) (w : World) :
    Calls Try.prog 32 #[ckV c, .int .i64 now] w fun e w' => e = .returned (.bool (liveC now c)) ∧ Below w.heap.size w w' := by
  unfold ckV
  have ba := Lib.hid ((Below.refl w.heap.size w).alloc (Nat.le_refl _) (.cells #[.string (txt c.n), .string (txt c.v), .string (txt c.d), .bool c.o, .string (txt c.p), .int .i64 c.u] 26))
  obtain ⟨R, HR⟩ : ∃ R, Hid (R = liveC now c) := ⟨_, Lib.hid rfl⟩
  rw [← HR.out]
  by_cases h1 : c.u = -1
  · have hR := Lib.hid (show R = true by rw [HR.out]; unfold liveC; rw [h1]; rfl)
    have e1 : (c.u == -1) = true := by rw [h1]; rfl
    clear h1
    go_enter Try.func32, Try.ntmps32
    go_wp2
    go_ret
    exact ⟨by rw [hR.out]; rfl, ba.out⟩
  · have e1 : (c.u == -1) = false := by rw [Bool.eq_false_iff]; intro h; exact h1 (eq_of_beq h)
    by_cases h2 : now < c.u
    · have hR := Lib.hid (show R = true by rw [HR.out]; unfold liveC; rw [e1, decide_eq_true h2]; rfl)
      go_enter Try.func32, Try.ntmps32
      go_wp2
      go_ret
      exact ⟨by rw [hR.out]; rfl, ba.out⟩
    · have hR := Lib.hid (show R = false by rw [HR.out]; unfold liveC; rw [e1, decide_eq_false h2]; rfl)
      go_enter Try.func32, Try.ntmps32
      go_wp2
      go_ret
      exact ⟨by rw [hR.out]; rfl, ba.out⟩

set_option maxHeartbeats 6400000 in
theorem jarOk_spec (v : Value) (l : List CkL) (w : World) (h : JAt w v l) (hn : l.length ≤ 2097152) (hS : ∀ c ∈ l, CkS c) :
    Calls Try.prog 12 #[v] w fun e w' => e = .returned (.bool (jarR l)) ∧ Below w.heap.size w w' := by
  have HF := Lib.hid h
  have HM := Lib.hid hS
  clear hS
  obtain ⟨a, cap, rfl, _⟩ := h
  obtain ⟨R, hR⟩ : ∃ R, R = jarR l := ⟨_, rfl⟩
  have HR := Lib.hid hR
  rw [← hR]
  clear hR
  by_cases hl : l.length ≤ 40
  · go_enter Try.func12, Try.ntmps12
    go_wp2
    go_loopw [3] (fun i wr => ∃ k : Nat, k ≤ l.length ∧ i = .int .i64 k ∧ Hid ((l.take k).all ckOk = true) ∧ Hid (((l.take k).map slotL).Nodup) ∧ Below w.heap.size w wr) (fun i _ => l.length - (intOf i).toNat)
    case atStart => exact ⟨0, by omega, rfl, Lib.hid rfl, Lib.hid (by simp), Below.refl _ _⟩
    case round =>
      obtain ⟨k, hk, rfl, hal, hnd, hbel⟩ := hrel
      by_cases hlt : k < l.length
      · obtain ⟨g, off, rfl, hg, c0, c1, c2, c3, c4, c5⟩ := JAt.cells (Grid.GAt.below HF.out hbel) k hlt
        have hi0 : (0 : Int) ≤ (k : Int) := by omega
        have hi1 : (k : Int) < (l.length : Int) := by omega
        have C := Lib.hid (fun wx => ckOk_spec l[k] wx (HM.out l[k] (List.getElem_mem hlt)))
        unfold ckV at C
        cases hq : ckOk l[k] with
        | false =>
          have HR2 := Lib.hid (show R = false by rw [HR.out]; exact ok_not l k hlt hq)
          rw [hq] at C
          clear hq
          go_wp2_with fail
          refine (C.out _).mono ?_
          rintro e w1 ⟨rfl, hb1⟩
          go_wp2
          go_ret
          exact ⟨by rw [HR2.out]; rfl, bstep hbel hb1⟩
        | true =>
          have HAL := Lib.hid (ok_snoc l k hlt hal.out hq)
          rw [hq] at C
          clear hq
          go_wp2_with fail
          refine (C.out _).mono ?_
          rintro e w1 ⟨rfl, hb1⟩
          have hbel1 := bstep hbel hb1
          clear hb1 hbel c0 c1 c2 c3 c4 c5
          go_wp2
          go_loopw [4] (fun i wr => ∃ j : Nat, j ≤ k ∧ i = .int .i64 j ∧ Hid (∀ j' (hj' : j' < l.length), j' < j → slotL l[j'] ≠ slotL l[k]) ∧ Below w.heap.size w wr) (fun i _ => k - (intOf i).toNat)
          case atStart => exact ⟨0, by omega, rfl, Lib.hid (fun j' _ hj => by omega), hbel1⟩
          case round =>
            obtain ⟨j, hj, rfl, hne, hbel2⟩ := hrel
            by_cases hjk : j < k
            · have hjl : j < l.length := by omega
              obtain ⟨g1, off1, hv1, hg1, d0, d1, d2, d3, d4, d5⟩ := JAt.cells (Grid.GAt.below HF.out hbel2) j hjl
              obtain ⟨g2, off2, hv2, hg2, c0, c1, c2, c3, c4, c5⟩ := JAt.cells (Grid.GAt.below HF.out hbel2) k hlt
              simp only [Option.some.injEq, Addr.mk.injEq, and_true] at hv1 hv2
              obtain ⟨rfl, rfl⟩ := hv1
              obtain ⟨rfl, rfl⟩ := hv2
              obtain ⟨g3, off3, hv3, hgx, _⟩ := JAt.cells HF.out k hlt
              simp only [Option.some.injEq, Addr.mk.injEq, and_true] at hv3
              obtain ⟨rfl, rfl⟩ := hv3
              have hj0 : (0 : Int) ≤ (j : Int) := by omega
              have hj1 : (j : Int) < (l.length : Int) := by omega
              have hj2 : (j : Int) < (k : Int) := by omega
              have HT := Lib.hid (fun h => slots_twice l j k hlt hjk h)
              have HN := Lib.hid (fun (he : slotL l[j] ≠ slotL l[k]) => (show ∀ j' (hj' : j' < l.length), j' < j + 1 → slotL l[j'] ≠ slotL l[k] from fun j' hj' hjj => by
                  by_cases h2 : j' = j
                  · subst h2; exact he
                  · exact hne.out j' hj' (by omega)))
              have S := Lib.hid (fun wx => same_call l[j] l[k] wx)
              unfold ckV at S
              generalize hc : decide (slotL l[j] = slotL l[k]) = q at S
              have HQ := Lib.hid hc
              clear hc
              go_wp2
              go_region_held3 (fun W => W.cell? ⟨g, off + j * 6, none⟩ = some (.string (txt l[j].n)) ∧ W.cell? ⟨g, off + j * 6 + 1, none⟩ = some (.string (txt l[j].v)) ∧ W.cell? ⟨g, off + j * 6 + 2, none⟩ = some (.string (txt l[j].d)) ∧ W.cell? ⟨g, off + j * 6 + 3, none⟩ = some (.bool l[j].o) ∧ W.cell? ⟨g, off + j * 6 + 4, none⟩ = some (.string (txt l[j].p)) ∧ W.cell? ⟨g, off + j * 6 + 5, none⟩ = some (.int .i64 l[j].u) ∧ W.cell? ⟨g, off + k * 6, none⟩ = some (.string (txt l[k].n)) ∧ W.cell? ⟨g, off + k * 6 + 1, none⟩ = some (.string (txt l[k].v)) ∧ W.cell? ⟨g, off + k * 6 + 2, none⟩ = some (.string (txt l[k].d)) ∧ W.cell? ⟨g, off + k * 6 + 3, none⟩ = some (.bool l[k].o) ∧ W.cell? ⟨g, off + k * 6 + 4, none⟩ = some (.string (txt l[k].p)) ∧ W.cell? ⟨g, off + k * 6 + 5, none⟩ = some (.int .i64 l[k].u) ∧ Below w.heap.size w W)
                (first
                  | exact ⟨d0, d1, d2, d3, d4, d5, c0, c1, c2, c3, c4, c5, hbel2.drew⟩
                  | (go_split_ands; exact ⟨(hbc.cell (p := ⟨g, _, none⟩) (Nat.lt_of_lt_of_le hgx (Below.size (by assumption)))).trans (by assumption), (hbc.cell (p := ⟨g, _, none⟩) (Nat.lt_of_lt_of_le hgx (Below.size (by assumption)))).trans (by assumption), (hbc.cell (p := ⟨g, _, none⟩) (Nat.lt_of_lt_of_le hgx (Below.size (by assumption)))).trans (by assumption), (hbc.cell (p := ⟨g, _, none⟩) (Nat.lt_of_lt_of_le hgx (Below.size (by assumption)))).trans (by assumption), (hbc.cell (p := ⟨g, _, none⟩) (Nat.lt_of_lt_of_le hgx (Below.size (by assumption)))).trans (by assumption), (hbc.cell (p := ⟨g, _, none⟩) (Nat.lt_of_lt_of_le hgx (Below.size (by assumption)))).trans (by assumption), (hbc.cell (p := ⟨g, _, none⟩) (Nat.lt_of_lt_of_le hgx (Below.size (by assumption)))).trans (by assumption), (hbc.cell (p := ⟨g, _, none⟩) (Nat.lt_of_lt_of_le hgx (Below.size (by assumption)))).trans (by assumption), (hbc.cell (p := ⟨g, _, none⟩) (Nat.lt_of_lt_of_le hgx (Below.size (by assumption)))).trans (by assumption), (hbc.cell (p := ⟨g, _, none⟩) (Nat.lt_of_lt_of_le hgx (Below.size (by assumption)))).trans (by assumption), (hbc.cell (p := ⟨g, _, none⟩) (Nat.lt_of_lt_of_le hgx (Below.size (by assumption)))).trans (by assumption), (hbc.cell (p := ⟨g, _, none⟩) (Nat.lt_of_lt_of_le hgx (Below.size (by assumption)))).trans (by assumption), Below.trans (by assumption) (hbc.mono (Below.size (by assumption)))⟩)
                  | fail)
                (first
                  | (go_simp; go_at_call 31; refine (S.out _).mono ?_; rintro e wc ⟨rfl, hbc⟩)
                  | fail)
              all_goals
                have hb5 : Below w.heap.size w wc := by
                  go_split_ands
                  assumption
                cases q with
                | true =>
                  have HR2 := Lib.hid (show R = false by rw [HR.out]; exact jar_not l (HT.out (of_decide_eq_true HQ.out)))
                  go_wp2
                  go_ret
                  exact ⟨by rw [HR2.out]; rfl, hb5⟩
                | false =>
                  have HN2 := Lib.hid (HN.out (of_decide_eq_false HQ.out))
                  go_wp2
                  go_roundw
                  case rel => exact ⟨j + 1, by omega, by go_num, HN2, hb5⟩
                  case measure => simp [intOf]; omega
            · have HND := Lib.hid (slots_snoc l k hlt hnd.out (fun j' hj' h => hne.out j' hj' (by omega)))
              go_wp2
              go_roundw
              case rel => exact ⟨k + 1, by omega, by go_num, HAL, HND, hbel2⟩
              case measure => simp [intOf]; omega
      · have he : l.take k = l := List.take_of_length_le (by omega)
        have h1 := hal.out
        have h2 := hnd.out
        rw [he] at h1 h2
        have HR2 := Lib.hid (show R = true by rw [HR.out]; exact jar_yes l hl h1 h2)
        clear h1 h2 he
        go_wp2
        go_ret
        exact ⟨by rw [HR2.out]; rfl, hbel⟩
  · have HR2 := Lib.hid (show R = false by rw [HR.out]; unfold jarR; rw [decide_eq_false hl]; rfl)
    go_enter Try.func12, Try.ntmps12
    go_wp2
    go_ret
    exact ⟨by rw [HR2.out]; rfl, Below.refl _ _⟩

end Ck
end Go.Proofs.Ytdgfiebehnfpgaa
