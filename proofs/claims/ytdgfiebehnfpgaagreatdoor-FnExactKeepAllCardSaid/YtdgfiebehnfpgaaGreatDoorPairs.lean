/- CONTRACTS of the laws' own helpers over rows of pairs: szPairS, toPairS, eqPairS. -/
import Derived.Test.YtdgfiebehnfpgaaGreatDoorForm
import Derived.Test.YtdgfiebehnfpgaaGreatDoorB64U
import Derived.Deep.SlicePairs
namespace Go.Proofs.YtdgfiebehnfpgaaGreatDoor
set_option linter.unusedVariables false
set_option maxRecDepth 4000
open Go.ChangeShapes Go.WideShapes Go.ChangeAt Go.RowKit
open Go.ChangeMaps (open_string shut_string)

/-- a row of pairs to be read, wherever it lies -/
def PAt (w : World) (v : Value) (l : List PairL) : Prop := ∃ a cap, v = .slice a l.length cap ∧
  (l.length = 0 ∨ ∃ g off, a = some ⟨g, off, none⟩ ∧ g < w.heap.size ∧ ∀ i (h : i < l.length), w.cell? ⟨g, off + i * 2, none⟩ = some (.string (txt l[i].1)) ∧ w.cell? ⟨g, off + i * 2 + 1, none⟩ = some (.string (txt l[i].2)))

theorem PAt.below {w w' : World} {v : Value} {l : List PairL} (h : PAt w v l) (hb : Below w.heap.size w w') : PAt w' v l := by
  obtain ⟨a, cap, rfl, h | ⟨g, off, rfl, hg, hc⟩⟩ := h
  · exact ⟨a, cap, rfl, .inl h⟩
  · exact ⟨_, cap, rfl, .inr ⟨g, off, rfl, Nat.lt_of_lt_of_le hg hb.size, fun i hi => ⟨(hb.cell (p := ⟨g, _, none⟩) hg).trans (hc i hi).1, (hb.cell (p := ⟨g, _, none⟩) hg).trans (hc i hi).2⟩⟩⟩

theorem PAt.own {w : World} {base : Nat} {e : TypeId} {v : Value} {l : List PairL} (h : w.ownsRow base e 2 v l.length (pcells l)) : PAt w v l := by
  obtain ⟨a, cap, rfl⟩ := own_val2 h
  by_cases h0 : l.length = 0
  · exact ⟨a, cap, rfl, .inl h0⟩
  · obtain ⟨g, rfl, hg1, hg2⟩ := own_at2 h (by omega)
    exact ⟨_, cap, rfl, .inr ⟨g, 0, rfl, hg2, fun i hi => by
      have := own_cell2 h i hi rfl
      rw [Nat.zero_add]
      exact this⟩⟩

/-- what the texts of pairs weigh -/
def wtL (l : List PairL) : Nat := (l.map fun p => p.1.length + p.2.length).sum

theorem wt_append (a b : List PairL) : wtL (a ++ b) = wtL a + wtL b := by simp [wtL]

theorem wt_take (l : List PairL) (k : Nat) (hk : k < l.length) : wtL (l.take (k + 1)) = wtL (l.take k) + l[k].1.length + l[k].2.length := by
  rw [List.take_succ_eq_append_getElem hk, wt_append]
  have : wtL [l[k]] = l[k].1.length + l[k].2.length := by simp [wtL]
  omega

theorem wt_le (l : List PairL) (k : Nat) : wtL (l.take k) ≤ wtL l := by
  have h := wt_append (l.take k) (l.drop k)
  rw [List.take_append_drop] at h
  omega

theorem wt_mem (l : List PairL) (p : PairL) (h : p ∈ l) : p.1.length + p.2.length ≤ wtL l := by
  obtain ⟨i, hi, rfl⟩ := List.getElem_of_mem h
  have h1 := wt_take l i hi
  have h2 := wt_le l (i + 1)
  omega

theorem szPair_call (pk pv : List UInt8) (left : Nat) (w : World) (hl : left ≤ 1048576) (h1 : pk.length ≤ 9223372036854775807) (h2 : pv.length ≤ 9223372036854775807) :
    Calls Tryz.prog 98 #[.agg #[.string (txt pk), .string (txt pv)], .int .i64 left] w fun e w' => e = .returned (.int .i64 (if pk.length + pv.length ≤ left then ((left - pk.length - pv.length : Nat) : Int) else -1)) ∧ Below w.heap.size w w' := by
  have z1 := txt_size pk
  have z2 := txt_size pv
  obtain ⟨R, HR⟩ : ∃ R : Int, Hid (R = if pk.length + pv.length ≤ left then ((left - pk.length - pv.length : Nat) : Int) else -1) := ⟨_, Lib.hid rfl⟩
  rw [← HR.out]
  by_cases ha : pk.length ≤ left
  · obtain ⟨m, rfl⟩ : ∃ m, left = pk.length + m := ⟨left - pk.length, by omega⟩
    have e1 : (((pk.length + m : Nat) : Int) - (pk.length : Int)) = (m : Int) := by omega
    by_cases hb : pv.length ≤ m
    · have e2 : ((m : Int) - (pv.length : Int)) = ((m - pv.length : Nat) : Int) := by omega
      go_enter Tryz.func98, Tryz.ntmps98
      go_wp2
      go_ret
      exact ⟨ret_int (by rw [HR.out, if_pos (by omega)]; omega), (Below.refl _ w).alloc (Nat.le_refl _) _⟩
    · go_enter Tryz.func98, Tryz.ntmps98
      go_wp2
      go_ret
      exact ⟨ret_int (by rw [HR.out, if_neg (by omega)]), (Below.refl _ w).alloc (Nat.le_refl _) _⟩
  · go_enter Tryz.func98, Tryz.ntmps98
    go_wp2
    go_ret
    exact ⟨ret_int (by rw [HR.out, if_neg (by omega)]), (Below.refl _ w).alloc (Nat.le_refl _) _⟩

set_option maxHeartbeats 800000 in
theorem szPairS_call (v : Value) (l : List PairL) (w : World) (h : PAt w v l) (hn : l.length ≤ 9223372036854775807) (hm : ∀ p ∈ l, p.1.length ≤ 9223372036854775807 ∧ p.2.length ≤ 9223372036854775807) :
    Calls Tryz.prog 54 #[v, .int .i64 1048576] w fun e w' => (∃ r : Int, e = .returned (.int .i64 r) ∧ (0 ≤ r → l.length + wtL l ≤ 1048576)) ∧ Below w.heap.size w w' := by
  obtain ⟨a, cap, rfl, hc⟩ := h
  have HM := Lib.hid hm
  have HC := Lib.hid hc
  clear hm hc
  by_cases hl : l.length ≤ 1048576
  · go_enter Tryz.func54, Tryz.ntmps54
    go_wp2
    go_loopw [1, 5] (fun r i wr => ∃ k m : Nat, k ≤ l.length ∧ i = .int .i64 k ∧ r = .int .i64 m ∧ Hid (m + l.length + wtL (l.take k) = 1048576) ∧ Below w.heap.size w wr) (fun _ i _ => l.length - (intOf i).toNat)
    case atStart => exact ⟨0, 1048576 - l.length, by omega, rfl, by go_num, Lib.hid (by simp [wtL]; omega), Below.refl _ _⟩
    case round =>
      obtain ⟨k, m, hk, rfl, rfl, hw, hbel⟩ := hrel
      have hm2 : m ≤ 1048576 := by have := hw.out; omega
      by_cases hlt : k < l.length
      · rcases HC.out with h0 | ⟨g, off, rfl, hg, hcell⟩
        · omega
        · obtain ⟨c1, c2⟩ := hcell k hlt
          have c1 := (hbel.cell (p := ⟨g, _, none⟩) hg).trans c1
          have c2 := (hbel.cell (p := ⟨g, _, none⟩) hg).trans c2
          have hpm := HM.out l[k] (List.getElem_mem hlt)
          have hw2 := wt_take l k hlt
          have HW2 := Lib.hid hw2
          clear hw2 hcell
          generalize l[k] = p at c1 c2 hpm HW2
          obtain ⟨pk, pv⟩ := p
          simp only at c1 c2 hpm
          have hi0 : (0 : Int) ≤ (k : Int) := by omega
          have hi1 : (k : Int) < (l.length : Int) := by omega
          go_wp2_with fail
          refine (szPair_call pk pv m _ hm2 hpm.1 hpm.2).mono ?_
          rintro e w1 ⟨rfl, hb1⟩
          by_cases hq : pk.length + pv.length ≤ m
          · rw [if_pos hq]
            have HQ := Lib.hid hq
            clear hq hpm
            go_wp2
            exact ⟨⟨k + 1, m - pk.length - pv.length, by omega, by go_num, rfl, Lib.hid (by have h9 : wtL (l.take (k + 1)) = wtL (l.take k) + pk.length + pv.length := HW2.out; have := hw.out; have := HQ.out; omega), hbel.trans (hb1.mono hbel.size)⟩, by simp [intOf]; omega⟩
          · rw [if_neg hq]
            clear hq hpm
            go_wp2
            go_ret
            exact ⟨⟨_, rfl, fun h => by omega⟩, hbel.trans (hb1.mono hbel.size)⟩
      · have he : l.take k = l := List.take_of_length_le (by omega)
        have hw2 := hw.out
        rw [he] at hw2
        have HW2 := Lib.hid hw2
        clear hw2 he
        go_wp2
        go_ret
        exact ⟨⟨_, rfl, fun _ => by have := HW2.out; omega⟩, hbel⟩
  · go_enter Tryz.func54, Tryz.ntmps54
    go_wp2
    go_ret
    exact ⟨⟨_, rfl, fun h => by omega⟩, Below.refl _ _⟩

theorem toPair_call (pk pv : List UInt8) (w : World) :
    Calls Tryz.prog 105 #[.agg #[.string (txt pk), .string (txt pv)]] w fun e w' => e = .returned (.agg #[.string (txt pk), .string (txt pv)]) ∧ Below w.heap.size w w' := by
  go_enter Tryz.func105, Tryz.ntmps105
  go_wp2
  refine bodyPost_ret (v := .agg #[.string (txt pk), .string (txt pv)]) ?_ rfl ⟨rfl, ?_⟩
  · rw [results_cell_one rfl]
    have hg : (((w.alloc (.cells #[.string (txt pk), .string (txt pv)] 114)).alloc (.cells #[.string (txt pk), .string (txt pv)] 86)).alloc (.cells #[.string (txt pk), .string (txt pv)] 86)).heap[w.heap.size + 1]? = some (.cells #[.string (txt pk), .string (txt pv)] 86 (0, 0)) := by
      show (((w.heap.push _).push _).push _)[w.heap.size + 1]? = _
      rw [Array.getElem?_push, if_neg (by simp), Array.getElem?_push]
      simp
    obtain ⟨i0, hi, _, hs, _⟩ := info_parts pair_info
    have hld := run_loadVar_row (P := Tryz.prog) _ (w.heap.size + 1) 86 86 #[.string (txt pk), .string (txt pv)] (0, 0) _ hg Tryz.underlying86 rfl (by rw [hi]; simp [hs])
    simp [asAddr, Result.andThen, hld]
  · exact (((Below.refl _ w).alloc (Nat.le_refl _) _).alloc (by simp) _).alloc (by simp; omega) _

theorem eqPair_call (pk pv : List UInt8) (w : World) :
    Calls Tryz.prog 114 #[.agg #[.string (txt pk), .string (txt pv)], .agg #[.string (txt pk), .string (txt pv)]] w fun e w' => e = .returned (.bool true) ∧ Below w.heap.size w w' := by
  have h1 := txt_beq pk pk
  have h2 := txt_beq pv pv
  rw [decide_eq_true rfl] at h1 h2
  go_enter Tryz.func114, Tryz.ntmps114
  go_wp2
  go_ret
  exact ⟨rfl, ((Below.refl _ w).alloc (Nat.le_refl _) _).alloc (by simp) _⟩

set_option maxHeartbeats 800000 in
theorem eqPairS_call (v1 v2 : Value) (l : List PairL) (w : World) (h1 : PAt w v1 l) (h2 : PAt w v2 l) (hn : l.length ≤ 2097152) :
    Calls Tryz.prog 67 #[v1, v2] w fun e w' => e = .returned (.bool true) ∧ Below w.heap.size w w' := by
  obtain ⟨a1, cap1, rfl, hc1⟩ := h1
  obtain ⟨a2, cap2, rfl, hc2⟩ := h2
  have HC1 := Lib.hid hc1
  have HC2 := Lib.hid hc2
  clear hc1 hc2
  go_enter Tryz.func67, Tryz.ntmps67
  go_wp2
  go_loopw [5] (fun i wr => ∃ k : Nat, k ≤ l.length ∧ i = .int .i64 k ∧ Below w.heap.size w wr) (fun i _ => l.length - (intOf i).toNat)
  case atStart => exact ⟨0, by omega, rfl, Below.refl _ _⟩
  case round =>
    obtain ⟨k, hk, rfl, hbel⟩ := hrel
    by_cases hlt : k < l.length
    · rcases HC1.out with h0 | ⟨g1, o1, rfl, hg1, hcell1⟩
      · omega
      rcases HC2.out with h0 | ⟨g2, o2, rfl, hg2, hcell2⟩
      · omega
      obtain ⟨c1, c2⟩ := hcell1 k hlt
      obtain ⟨d1, d2⟩ := hcell2 k hlt
      have c1 := (hbel.cell (p := ⟨g1, _, none⟩) hg1).trans c1
      have c2 := (hbel.cell (p := ⟨g1, _, none⟩) hg1).trans c2
      have d1 := (hbel.cell (p := ⟨g2, _, none⟩) hg2).trans d1
      have d2 := (hbel.cell (p := ⟨g2, _, none⟩) hg2).trans d2
      clear hcell1 hcell2
      generalize l[k] = p at c1 c2 d1 d2
      obtain ⟨pk, pv⟩ := p
      simp only at c1 c2 d1 d2
      have hi0 : (0 : Int) ≤ (k : Int) := by omega
      have hi1 : (k : Int) < (l.length : Int) := by omega
      go_wp2
      go_region_held3 (fun W => W.cell? ⟨g1, o1 + k * 2, none⟩ = some (.string (txt pk)) ∧ W.cell? ⟨g1, o1 + k * 2 + 1, none⟩ = some (.string (txt pv)) ∧ W.cell? ⟨g2, o2 + k * 2, none⟩ = some (.string (txt pk)) ∧ W.cell? ⟨g2, o2 + k * 2 + 1, none⟩ = some (.string (txt pv)) ∧ Below w.heap.size w W)
        (first
          | exact ⟨c1, c2, d1, d2, hbel.drew⟩
          | (go_split_ands; exact ⟨(hbc.cell (p := ⟨g1, _, none⟩) (Nat.lt_of_lt_of_le hg1 (Below.size (by assumption)))).trans (by assumption), (hbc.cell (p := ⟨g1, _, none⟩) (Nat.lt_of_lt_of_le hg1 (Below.size (by assumption)))).trans (by assumption), (hbc.cell (p := ⟨g2, _, none⟩) (Nat.lt_of_lt_of_le hg2 (Below.size (by assumption)))).trans (by assumption), (hbc.cell (p := ⟨g2, _, none⟩) (Nat.lt_of_lt_of_le hg2 (Below.size (by assumption)))).trans (by assumption), Below.trans (by assumption) (hbc.mono (Below.size (by assumption)))⟩))
        (first
          | (go_simp; go_at_call 114; refine (eqPair_call _ _ _).mono ?_; rintro e wc ⟨rfl, hbc⟩))
      all_goals
        have hb5 : Below w.heap.size w wc := by
          go_split_ands
          assumption
        go_wp2
        go_roundw
        case rel => exact ⟨k + 1, by omega, by go_num, hb5⟩
        case measure => simp [intOf]; omega
    · go_wp2
      go_ret
      exact ⟨rfl, hbel⟩

/-- cells of pairs that are still empty -/
def zcells (n : Nat) : List Value := pcells (List.replicate n ([], []))

theorem zcells_eq (n : Nat) : zcells n = List.replicate (n * 2) (.string ⟨#[]⟩) := by
  unfold zcells
  induction n with
  | zero => rfl
  | succ n ih =>
    rw [List.replicate_succ, show pcells (([], []) :: List.replicate n ([], [])) = [.string (txt []), .string (txt [])] ++ pcells (List.replicate n ([], [])) from rfl, ih, show (n + 1) * 2 = n * 2 + 1 + 1 by omega, List.replicate_succ, List.replicate_succ]
    rfl

theorem madeCells_pair (n : Nat) : (madeCells (Value.agg #[.string ⟨#[]⟩, .string ⟨#[]⟩]).cells (n * 2)).toList = zcells n := by
  rw [zcells_eq]
  apply List.ext_getElem
  · simp [madeCells]
  · intro i h1 h2
    simp only [madeCells, Array.toList_map, List.getElem_map, List.getElem_replicate, Array.toList_range, List.getElem_range, Value.cells]
    rcases Nat.mod_two_eq_zero_or_one i with h | h
    · show (#[Value.string ⟨#[]⟩, Value.string ⟨#[]⟩])[i % 2]! = _
      rw [h]; rfl
    · show (#[Value.string ⟨#[]⟩, Value.string ⟨#[]⟩])[i % 2]! = _
      rw [h]; rfl

theorem zcells_succ (m : Nat) : zcells (m + 1) = .string ⟨#[]⟩ :: .string ⟨#[]⟩ :: zcells m := by
  rw [zcells_eq, zcells_eq, show (m + 1) * 2 = m * 2 + 1 + 1 by omega, List.replicate_succ, List.replicate_succ]

theorem row_put (A : List PairL) (p : PairL) (m k : Nat) (hk : A.length = k) :
    ((pcells A ++ zcells (m + 1)).set (k * 2) (.string (txt p.1))).set (k * 2 + 1) (.string (txt p.2)) = pcells (A ++ [p]) ++ zcells m := by
  have hl : (pcells A).length = k * 2 := by rw [pcells_len, hk]
  rw [List.set_append, if_neg (by omega), hl, Nat.sub_self, List.set_append, if_neg (by omega), hl, show k * 2 + 1 - k * 2 = 1 by omega, zcells_succ, pcells_append]
  simp [pcells]

theorem row_old (A : List PairL) (m k : Nat) (hk : A.length = k) : (pcells A ++ zcells (m + 1))[k * 2]? = some (.string ⟨#[]⟩) ∧ (pcells A ++ zcells (m + 1))[k * 2 + 1]? = some (.string ⟨#[]⟩) := by
  have hl : (pcells A).length = k * 2 := by rw [pcells_len, hk]
  rw [List.getElem?_append_right (by omega), List.getElem?_append_right (by omega), hl, zcells_succ]
  simp

set_option maxHeartbeats 800000 in
theorem toPairS_call (v : Value) (l : List PairL) (w : World) (h : PAt w v l) (hn : l.length ≤ 2097152) :
    Calls Tryz.prog 60 #[v] w fun e w' => ∃ v', e = .returned v' ∧ w'.ownsRow w.heap.size 86 2 v' l.length (pcells l) ∧ Below w.heap.size w w' := by
  obtain ⟨i0, hi, hz0, hz1, hz2⟩ := info_parts pair_info
  obtain ⟨a, cap, rfl, hc⟩ := h
  have HC := Lib.hid hc
  clear hc
  obtain ⟨w2, hmk, hrow, hgr⟩ := run_make_full (P := Tryz.prog) w w.heap.size 24 86 i0 _ 2 Tryz.underlying24 hi hz0 hz1 .i64 .i64 l.length (by rw [hz2]; omega) (by unfold maxLen; omega) (Nat.le_refl _)
  rw [madeCells_pair] at hrow
  go_enter Tryz.func60, Tryz.ntmps60
  go_wp2
  go_loopw [4] (fun i wr => ∃ k : Nat, k ≤ l.length ∧ i = .int .i64 k ∧ wr.ownsRow w.heap.size 86 2 (.slice (some ⟨w.heap.size, 0, none⟩) l.length l.length) l.length (pcells (l.take k) ++ zcells (l.length - k)) ∧ Below w.heap.size w wr) (fun i _ => l.length - (intOf i).toNat)
  case atStart => exact ⟨0, by omega, rfl, by simpa [pcells] using hrow, (Below.refl _ w).grown hgr (Nat.le_refl _) (fun j e => by cases e)⟩
  case round =>
    clear hmk hrow hgr
    obtain ⟨k, hk, rfl, hown, hbel⟩ := hrel
    by_cases hlt : k < l.length
    · rcases HC.out with h0 | ⟨g1, o1, rfl, hg1, hcell1⟩
      · omega
      obtain ⟨c1, c2⟩ := hcell1 k hlt
      have c1 := (hbel.cell (p := ⟨g1, _, none⟩) hg1).trans c1
      have c2 := (hbel.cell (p := ⟨g1, _, none⟩) hg1).trans c2
      clear hcell1
      have hi0 : (0 : Int) ≤ (k : Int) := by omega
      have hi1 : (k : Int) < (l.length : Int) := by omega
      go_wp2_with fail
      refine (toPair_call _ _ _).mono ?_
      rintro e w1 ⟨rfl, hb1⟩
      have hown1 := ownsRow_below hown hb1
      have hbel1 := hbel.trans (hb1.mono hbel.size)
      obtain ⟨m, hm⟩ : ∃ m, l.length - k = m + 1 := ⟨l.length - k - 1, by omega⟩
      have hm2 : l.length - (k + 1) = m := by omega
      have HM := Lib.hid hm2
      have hAl : (l.take k).length = k := by rw [List.length_take]; omega
      rw [hm] at hown1
      have d1 := (hown1.cellAt (k * 2) (by omega)).trans (row_old _ m k hAl).1
      have d2 := (hown1.cellAt (k * 2 + 1) (by omega)).trans (row_old _ m k hAl).2
      have f1 := hown1.frozenAt (k * 2)
      have f2 := hown1.frozenAt (k * 2 + 1)
      have hst := hown1.stored (k * 2) (.string (txt l[k].1))
      have hst2 := hst.1.stored (k * 2 + 1) (.string (txt l[k].2))
      have hgr := grown_trans hst.2 hst2.2
      have htk : l.take (k + 1) = l.take k ++ [l[k]] := by rw [List.take_succ_eq_append_getElem hlt]
      have hrow2 := hst2.1
      rw [row_put _ _ m k hAl, ← htk] at hrow2
      have hbel2 := hbel1.grown hgr hbel1.size (fun j e => (hown1.lt j e).1)
      clear hm hm2 hAl htk hst hst2 hgr
      go_wp2
      exact ⟨⟨k + 1, by omega, by go_num, by rw [HM.out]; exact hrow2, hbel2⟩, by simp [intOf]; omega⟩
    · obtain rfl : k = l.length := by omega
      have he : pcells (l.take l.length) ++ zcells (l.length - l.length) = pcells l := by rw [List.take_length, Nat.sub_self]; simp [zcells, pcells]
      rw [he] at hown
      clear he
      go_wp2
      go_ret
      exact ⟨_, rfl, hown, hbel⟩

theorem open_pairs {H : Type} {enc : TypeId × Value → H} {P : Program} {w : World} {base : Nat} {spare : Nat → Bool} {held : Bool} {t e : TypeId} {f0 f1 : Field} {fuel : Nat} {a : Option Addr} {len cap : Nat} {x : DataW H × List MemPlace} (ht : P.underlying t = some (.slice e)) (he : P.underlying e = some (.struct #[f0, f1]))
    (ce : P.cellsOf e = 2) (o0 : f0.offset = 0) (o1 : f1.offset = 1) (c0 : P.cellsOf f0.type = 1) (c1 : P.cellsOf f1.type = 1) (s0 : P.underlying f0.type = some .string) (s1 : P.underlying f1.type = some .string)
    (h : DataW.trod enc P w base spare held fuel t [.slice a len cap] = some x) :
    ∃ l : List PairL, PAt w (.slice a len cap) l ∧ l.length ≤ maxLen ∧ ∀ p ∈ l, p.1.length ≤ maxLen ∧ p.2.length ≤ maxLen := by
  rcases Deep.open_slice_pairs ht he ce o0 o1 c0 c1 h with ⟨hcs, _⟩ | ⟨ad, len', cap', m, n, V0, V1, D0, D1, P0, P1, hcs, _, hl, hm, hmm, _, hx⟩
  · simp only [List.cons.injEq, and_true, Value.slice.injEq] at hcs
    obtain ⟨rfl, rfl, rfl⟩ := hcs
    exact ⟨[], ⟨none, 0, rfl, .inl rfl⟩, by simp, fun p hp => by cases hp⟩
  · simp only [List.cons.injEq, and_true, Value.slice.injEq] at hcs
    obtain ⟨rfl, rfl, rfl⟩ := hcs
    have hlm : len ≤ m := by rw [hmm]; split <;> omega
    have each : ∀ i, i < len → ∃ p : PairL, w.cell? (ad.add (i * 2)) = some (.string (txt p.1)) ∧ w.cell? (ad.add (i * 2 + 1)) = some (.string (txt p.2)) ∧ p.1.length ≤ maxLen ∧ p.2.length ≤ maxLen := by
      intro i hi
      obtain ⟨h1, h2, h3, h4⟩ := hx i (by omega)
      obtain ⟨sa, ha, _, ha2⟩ := DataW.trod_string s0 h3
      obtain ⟨sb, hb, _, hb2⟩ := DataW.trod_string s1 h4
      simp only [List.cons.injEq, and_true] at ha hb
      refine ⟨(sa.data.toList, sb.data.toList), ?_, ?_, ?_, ?_⟩
      · rw [h1, ha, txt_of]
      · rw [h2, hb, txt_of]
      · rw [data_length]; exact ha2
      · rw [data_length]; exact hb2
    obtain ⟨q, hq⟩ := Deep.choose_lt each
    refine ⟨(List.range len).map q, ⟨some ad, cap, by simp, ?_⟩, by simp; omega, fun p hp => ?_⟩
    · by_cases h0 : len = 0
      · exact .inl (by simpa using h0)
      · right
        obtain ⟨b, off, spot⟩ := ad
        have hc0 := (hq 0 (by omega)).1
        have hspot : spot = none := by simpa [Addr.add] using World.cell?_spot hc0
        subst hspot
        have hadd : ∀ j, (⟨b, off, none⟩ : Addr).add j = ⟨b, off + j, none⟩ := fun j => by unfold Addr.add; split <;> simp_all
        refine ⟨b, off, rfl, World.block_lt_of_cell? w _ hc0, fun i hi => ?_⟩
        have hi2 : i < len := by simpa using hi
        have := hq i hi2
        rw [hadd, hadd] at this
        simp only [List.getElem_map, List.getElem_range]
        exact ⟨this.1, by rw [Nat.add_assoc]; exact this.2.1⟩
    · obtain ⟨i, hi, rfl⟩ := List.mem_map.1 hp
      exact (hq i (by simpa using hi)).2.2

end Go.Proofs.YtdgfiebehnfpgaaGreatDoor
