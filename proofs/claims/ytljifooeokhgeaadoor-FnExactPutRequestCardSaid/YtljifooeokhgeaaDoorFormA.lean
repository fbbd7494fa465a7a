/- CONTRACT of the model's PutForm over a row that lies anywhere. -/
import Derived.Test.YtljifooeokhgeaaDoorPairs
import Derived.Deep.RegionHeld3
namespace Go.Proofs.YtljifooeokhgeaaDoor
set_option linter.unusedVariables false
set_option maxRecDepth 4000
open Go.ChangeShapes Go.WideShapes Go.ChangeAt Go.RowKit
open Go.ChangeMaps (open_string shut_string)

set_option maxHeartbeats 1600000 in
theorem putform_spec_at (v : Value) (l : List PairL) (w : World) (hat : PAt w v l) (hn : l.length ≤ 2097152)
    (hp : ∀ p ∈ l, p.1.length ≤ 1048576 ∧ p.2.length ≤ 1048576) (ht : ∀ k, (putL (l.take k)).length ≤ 16777216) :
    Calls Tryd.prog 61 #[v] w fun e w' => e = .returned (.string (txt (putL l))) ∧ Below w.heap.size w w' := by
  obtain ⟨i0, hi, hz0, hz1, hz2⟩ := info_parts Tryd.info5
  obtain ⟨a, cap, rfl, hat⟩ := hat
  have HA := Lib.hid hat
  clear hat
  have HPP := Lib.hid hp
  have HTT := Lib.hid ht
  clear hp ht
  go_enter Tryd.func61, Tryd.ntmps61
  go_wp2
  go_loopw [3, 4] (fun v i wr => ∃ (k : Nat) (o : List UInt8), k ≤ l.length ∧ i = .int .i64 k ∧ Hid (o = putL (l.take k)) ∧ wr.ownsRow w.heap.size 5 1 v o.length (cells8 o) ∧ Below w.heap.size w wr) (fun _ i _ => l.length - (intOf i).toNat)
  case atStart => exact ⟨0, [], by omega, rfl, rfl, World.ownsRow_made w #[] 0 (Nat.le_refl _) (by simp) rfl, (Below.refl _ w).alloc (Nat.le_refl _) _⟩
  case round =>
    obtain ⟨k, o, hk, rfl, ho, hrow, hbel⟩ := hrel
    have hbs := hbel.size
    have hol := HTT.out k
    rw [← ho.out] at hol
    by_cases hlt : k < l.length
    · rcases HA.out with h0 | ⟨g, off, rfl, hg2, hcell⟩
      · omega
      obtain ⟨c1, c2⟩ := hcell k hlt
      have c1 := (hbel.cell (p := ⟨g, _, none⟩) hg2).trans c1
      have c2 := (hbel.cell (p := ⟨g, _, none⟩) hg2).trans c2
      clear hcell
      have hpl := HPP.out l[k] (List.getElem_mem hlt)
      have hnx := HTT.out (k + 1)
      have htk : l.take (k + 1) = l.take k ++ [l[k]] := by rw [List.take_succ_eq_append_getElem hlt]
      have hnew : putL (l.take (k + 1)) = (if k = 0 then o else o ++ [38]) ++ oneL l[k] := by
        rw [htk]
        by_cases hk0 : k = 0
        · have e : l.take k = [] := by rw [List.take_eq_nil_iff]; exact .inl hk0
          rw [if_pos hk0, ho.out, e]; simp [putL]
        · rw [if_neg hk0, putL_snoc _ _ (by intro e; have := congrArg List.length e; rw [List.length_take] at this; simp only [List.length_nil] at this; omega), ho.out]
      have hone : (oneL l[k]).length = (pctL l[k].1).length + 1 + (pctL l[k].2).length := by simp [oneL]; omega
      have hol2 : oneL l[k] = pctL l[k].1 ++ [61] ++ pctL l[k].2 := by simp [oneL]
      rw [hnew] at hnx
      generalize l[k] = p at c1 c2 hpl hnew hone hol2 hnx
      obtain ⟨pk, pv⟩ := p
      simp only at c1 c2 hpl hone hol2
      have q1 := pctL_len pk
      have q2 := pctL_len pv
      have hp1 := hpl.1
      have hp2 := hpl.2
      clear hpl
      have E1 : ∃ ek, ek = pctL pk := ⟨_, rfl⟩
      have E2 : ∃ ev, ev = pctL pv := ⟨_, rfl⟩
      obtain ⟨ek, hek⟩ := E1
      obtain ⟨ev, hev⟩ := E2
      rw [← hek] at q1 hone hol2
      rw [← hev] at q2 hone hol2
      have E1 := Lib.hid hek.symm
      have E2 := Lib.hid hev.symm
      clear hek hev
      have HN := Lib.hid hnew
      have HO := Lib.hid hol2
      clear hnew htk hone hol2 hnx ho
      have hadd1 : ∀ w : World, (Op.stringOp .add (txt ek) { data := #[61] }).run Tryd.prog w = .ok (.string (txt (ek ++ [61]))) w := add_txt (P := Tryd.prog) ek [61] (by simp; omega)
      have hadd2 : ∀ w : World, (Op.stringOp .add (txt (ek ++ [61])) (txt ev)).run Tryd.prog w = .ok (.string (txt (ek ++ 61 :: ev))) w := by
        intro wx
        have := add_txt (P := Tryd.prog) (ek ++ [61]) ev (by simp; omega) wx
        rwa [List.append_assoc, List.singleton_append] at this
      have hi0 : (0 : Int) ≤ (k : Int) := by omega
      have hi1 : (k : Int) < (l.length : Int) := by omega
      by_cases hk0 : k = 0
      · have hgt : ¬ ((0 : Int) < (k : Int)) := by omega
        have HK0 := Lib.hid hk0
        clear hk0
        go_wp2
        go_region_held3 (fun W => W.cell? ⟨g, off + k * 2, none⟩ = some (.string (txt pk)) ∧ W.cell? ⟨g, off + k * 2 + 1, none⟩ = some (.string (txt pv)) ∧ Below w.heap.size w W) (first | exact ⟨c1, c2, hbel.drew⟩ | (go_split_ands; exact ⟨(World.cell?_of_block (a := ⟨g, off + k * 2, none⟩) (hgrow5.block g (Nat.lt_of_lt_of_le hg2 (Below.size (by assumption))) (fun e => by have := (hrow.lt g e.symm).1; omega))).trans (by assumption), (World.cell?_of_block (a := ⟨g, off + k * 2 + 1, none⟩) (hgrow5.block g (Nat.lt_of_lt_of_le hg2 (Below.size (by assumption))) (fun e => by have := (hrow.lt g e.symm).1; omega))).trans (by assumption), Below.grown (by assumption) hgrow5 (Below.size (by assumption)) (fun j e => (hrow.lt j e).1)⟩) | (go_split_ands; exact ⟨(hbc.cell (p := ⟨g, off + k * 2, none⟩) (Nat.lt_of_lt_of_le hg2 (Below.size (by assumption)))).trans (by assumption), (hbc.cell (p := ⟨g, off + k * 2 + 1, none⟩) (Nat.lt_of_lt_of_le hg2 (Below.size (by assumption)))).trans (by assumption), Below.trans (by assumption) (hbc.mono (Below.size (by assumption)))⟩)) (first | (go_split_ands; refine step_append_str (by rfl) _ _ _ _ (by rfl) w.heap.size 5 i0 Tryd.underlying22 Tryd.underlying9 hi hz0 hz1 hz2 u3 o.length _ (by rfl) (ownsRow_below (ownsRow_below hrow.drew (by assumption)) (by assumption)) (txt (ek ++ 61 :: ev)) (by rfl) (by rw [txt_size]; unfold maxLen; simp; omega) (by rw [txt_size]; simp; omega) (Below.size (by assumption)) ?_; intro v5 w5 hrow5 hgrow5) | (go_simp; go_at_call 85; refine (pct_spec_l _ _ (by first | exact hp1 | exact hp2)).mono ?_; rintro e wc ⟨rfl, hbc⟩; first | rw [E1.out] | rw [E2.out]))
        all_goals
          have hb5 : Below w.heap.size w w5 := by
            go_split_ands
            assumption
          rw [strCells_txt, ← cells8_append, txt_size, ← List.length_append] at hrow5
          clear hadd1 hadd2
          go_wp2
          go_roundw
          case rel => exact ⟨k + 1, o ++ (ek ++ 61 :: ev), by omega, by go_num, Lib.hid (by rw [HN.out, if_pos HK0.out, HO.out]; simp), hrow5, hb5⟩
          case measure => simp [intOf]; omega
      · have hgt : (0 : Int) < (k : Int) := by omega
        have HK0 := Lib.hid hk0
        clear hk0
        go_wp2_with (at_builtin; refine wpList_append_lies _ rfl _ _ _ rfl w.heap.size 5 i0 _ 1 1 Tryd.underlying22 hi hz0 hz1 hz2 rfl (by omega) _ o.length _ rfl (hrow.alloc _) ⟨wr.heap.size, 0, none⟩ 1 1 [.int .u8 38] rfl rfl (World.news_of_block (cs := #[.int .u8 38]) (t := 5) (fr := (0, 0)) (heap_alloc_new wr _)) (by simp [Value.oneCell']) (by omega) (by unfold maxLen; omega) (by omega) (by simp; omega) (wr.heap.size + 1) (by simp) ?_; intro gg cap2 w2 hrow2 hgrow2 hat2 hlt2)
        have hbel2 : Below w.heap.size w w2 := (hbel.alloc hbs _).grown hgrow2 (by simp; omega) (fun j e => (hrow.lt j e).1)
        have hfar : ∀ off, w2.cell? ⟨g, off, none⟩ = wr.cell? ⟨g, off, none⟩ := fun off => (hbel2.cell (p := ⟨g, off, none⟩) hg2).trans (hbel.cell (p := ⟨g, off, none⟩) hg2).symm
        rw [← hfar] at c1 c2
        have hrow3 : w2.ownsRow w.heap.size 5 1 (.slice (some ⟨gg, 0, none⟩) (o.length + 1) cap2) (o ++ [38]).length (cells8 (o ++ [38])) := by
          rw [cells8_append, List.length_append]
          exact hrow2
        have hol3 : (o ++ [38]).length ≤ 16777217 := by simp; omega
        have hbs2 := hbel2.size
        generalize ho3 : o ++ [38] = o3 at hrow3 hol3
        have HO3 := Lib.hid ho3
        clear ho3 hrow hbel hrow2 hgrow2 hat2 hfar
        go_region_held3 (fun W => W.cell? ⟨g, off + k * 2, none⟩ = some (.string (txt pk)) ∧ W.cell? ⟨g, off + k * 2 + 1, none⟩ = some (.string (txt pv)) ∧ Below w.heap.size w W) (first | exact ⟨c1, c2, hbel2.drew⟩ | (go_split_ands; exact ⟨(World.cell?_of_block (a := ⟨g, off + k * 2, none⟩) (hgrow5.block g (Nat.lt_of_lt_of_le hg2 (Below.size (by assumption))) (fun e => by have := (hrow3.lt g e.symm).1; omega))).trans (by assumption), (World.cell?_of_block (a := ⟨g, off + k * 2 + 1, none⟩) (hgrow5.block g (Nat.lt_of_lt_of_le hg2 (Below.size (by assumption))) (fun e => by have := (hrow3.lt g e.symm).1; omega))).trans (by assumption), Below.grown (by assumption) hgrow5 (Below.size (by assumption)) (fun j e => (hrow3.lt j e).1)⟩) | (go_split_ands; exact ⟨(hbc.cell (p := ⟨g, off + k * 2, none⟩) (Nat.lt_of_lt_of_le hg2 (Below.size (by assumption)))).trans (by assumption), (hbc.cell (p := ⟨g, off + k * 2 + 1, none⟩) (Nat.lt_of_lt_of_le hg2 (Below.size (by assumption)))).trans (by assumption), Below.trans (by assumption) (hbc.mono (Below.size (by assumption)))⟩)) (first | (go_split_ands; refine step_append_str (by rfl) _ _ _ _ (by rfl) w.heap.size 5 i0 Tryd.underlying22 Tryd.underlying9 hi hz0 hz1 hz2 (.slice (some ⟨gg, 0, none⟩) (o.length + 1) cap2) o3.length _ (by rfl) (ownsRow_below (ownsRow_below hrow3.drew (by assumption)) (by assumption)) (txt (ek ++ 61 :: ev)) (by rfl) (by rw [txt_size]; unfold maxLen; simp; omega) (by rw [txt_size]; simp; omega) (Below.size (by assumption)) ?_; intro v5 w5 hrow5 hgrow5) | (go_simp; go_at_call 85; refine (pct_spec_l _ _ (by first | exact hp1 | exact hp2)).mono ?_; rintro e wc ⟨rfl, hbc⟩; first | rw [E1.out] | rw [E2.out]))
        all_goals
          have hb5 : Below w.heap.size w w5 := by
            go_split_ands
            assumption
          rw [strCells_txt, ← cells8_append, txt_size, ← List.length_append] at hrow5
          clear hadd1 hadd2
          go_wp2
          go_roundw
          case rel => exact ⟨k + 1, o3 ++ (ek ++ 61 :: ev), by omega, by go_num, Lib.hid (by rw [HN.out, if_neg HK0.out, HO3.out, HO.out]; simp), hrow5, hb5⟩
          case measure => simp [intOf]; omega
    · have he : l.take k = l := List.take_of_length_le (by omega)
      have ho2 := ho.out
      rw [he] at ho2
      have HO := Lib.hid ho2
      have hcv := bytes_back_own (P := Tryd.prog) wr 22 9 5 w.heap.size u3 o.length o rfl Tryd.underlying22 Tryd.underlying5 Tryd.underlying9 hrow
      clear he ho2 ho
      go_wp2
      go_ret
      exact ⟨ret_str (by rw [HO.out]), hbel⟩

end Go.Proofs.YtljifooeokhgeaaDoor
