/- CONTRACTS of Value and PutForm: the program's. -/
import Derived.Test.YtdgfiebehnfpgaaGreatDoorForm
import Derived.Test.YtdgfiebehnfpgaaGreatDoorShelf
import Derived.Test.YtdgfiebehnfpgaaGreatDoorPctI
import Derived.Lib.Join

namespace Go.Proofs.YtdgfiebehnfpgaaGreatDoor
set_option linter.unusedVariables false
set_option maxRecDepth 4000
open Go.ChangeShapes Go.WideShapes Go.ChangeAt Go.RowKit
open Go.ChangeMaps (open_string shut_string)

theorem putL_join (l : List PairL) : Lib.join (l.map oneL) [38] = putL l := by
  match l with
  | [] => rfl
  | p :: r =>
    rw [List.map_cons, Lib.join_cons, putL, Lib.joinTail]
    congr 1
    rw [List.map_map, List.flatMap_def]
    rfl

theorem pct_impl_l (l : List UInt8) (w : World) (hs : l.length ≤ 1048576) :
    Calls Tryz.prog 70 #[.string (txt l)] w fun e w' => e = .returned (.string (txt (pctL l))) ∧ Below w.heap.size w w' := by
  have := pct_impl (txt l) w (by rw [txt_size]; exact hs)
  rwa [txt_toList] at this

theorem join_call (base : Nat) (v : Value) (xs : List (List UInt8)) (sep : List UInt8) (w : World) (hown : w.ownsRow base 9 1 v xs.length (strs xs)) (hn : xs.length ≤ 2097152) (hlen : (Lib.join xs sep).length ≤ 140737488355328) :
    Calls Tryz.prog 71 #[v, .string (txt sep)] w fun e w' => e = .returned (.string (txt (Lib.join xs sep))) ∧ Below w.heap.size w w' := by
  have hown2 := hown
  obtain ⟨a, cap, rfl⟩ := own_val hown
  match xs with
  | [] =>
    refine (Tryz.strings_Join_none a cap (txt sep) w).mono ?_
    rintro e w1 ⟨rfl, rfl⟩
    exact ⟨rfl, Below.refl _ _⟩
  | x :: r =>
    obtain ⟨g, rfl, hg1, hg2⟩ := own_at hown (by simp)
    have hcap : (x :: r).length ≤ cap := by
      rcases hown2.2 with ⟨h, _⟩ | ⟨g', cap', cur, h, _, _, hnc, _⟩
      · cases h
      · cases h; exact hnc
    have hm : (((x :: r).map txt).map (·.data.toList)) = x :: r := by
      rw [List.map_map]
      conv => rhs; rw [← List.map_id (x :: r)]
      apply List.map_congr_left
      intro y _
      exact txt_toList y
    have hJ := Tryz.strings_Join g 0 cap ((x :: r).map txt) (txt sep) w (fun j y hy => by
      rw [List.getElem?_map] at hy
      cases hx : (x :: r)[j]? with
      | none => rw [hx] at hy; cases hy
      | some z =>
        rw [hx] at hy
        obtain ⟨hj, hz⟩ := List.getElem?_eq_some_iff.1 hx
        have := own_cell hown j hj rfl
        rw [Nat.zero_add, this, hz]
        cases hy
        rfl) hg2 (by rw [List.length_map]; omega) (by rw [List.length_map]; exact hcap) (by rw [hm, txt_toList]; exact hlen)
    rw [List.length_map, hm, txt_toList] at hJ
    exact hJ

theorem Tryz.infoS : (Tryz.prog.info? 9).map (fun i => (i.zero, i.size, i.bytes)) = some (some (.string ⟨#[]⟩), 1, 16) := by kernel_rfl

theorem cell_alloc_keep {w : World} {a : Addr} {v : Value} {o : Obj} (h : w.cell? a = some v) : (w.alloc o).cell? a = some v := by
  rw [World.cell?_alloc_some w a o (by rw [h]; rfl), h]

set_option maxHeartbeats 1600000 in
theorem putform_impl (base : Nat) (v : Value) (l : List PairL) (w : World) (hown : w.ownsRow base 86 2 v l.length (pcells l)) (hn : l.length ≤ 2097152) (hb : base ≤ w.heap.size)
    (hp : ∀ p ∈ l, p.1.length ≤ 1048576 ∧ p.2.length ≤ 1048576) (ht : (putL l).length ≤ 16777216) :
    Calls Tryz.prog 29 #[v] w fun e w' => e = .returned (.string (txt (putL l))) ∧ Below w.heap.size w w' := by
  obtain ⟨i0, hi, hz0, hz1, hz2⟩ := info_parts Tryz.infoS
  obtain ⟨a, cap, rfl⟩ := own_val2 hown
  have HPP := Lib.hid hp
  have HTT := Lib.hid ht
  clear hp ht
  have hmk := make_row (P := Tryz.prog) 59 9 i0 (.string ⟨#[]⟩) Tryz.underlying59 hi hz0 (l.length : Int) l.length (by omega) (by rw [hz2]; omega) (by omega)
  go_enter Tryz.func29, Tryz.ntmps29
  go_wp2
  go_loopw [3, 11] (fun v i wr => ∃ (k : Nat) (xs : List (List UInt8)), k ≤ l.length ∧ i = .int .i64 k ∧ Hid (xs = (l.take k).map oneL) ∧ Hid (xs.length = k) ∧ wr.ownsRow w.heap.size 9 1 v k (strs xs) ∧ Below w.heap.size w wr) (fun _ i _ => l.length - (intOf i).toNat)
  case atStart => exact ⟨0, [], by omega, rfl, rfl, rfl, World.ownsRow_made w _ l.length (Nat.le_refl _) (by unfold maxLen; omega) (by rw [size_madeCells, Nat.mul_one]), (Below.refl _ w).alloc (Nat.le_refl _) _⟩
  case round =>
    clear hmk
    obtain ⟨k, xs, hk, rfl, ho, hxl, hrow, hbel⟩ := hrel
    have hbs := hbel.size
    by_cases hlt : k < l.length
    · obtain ⟨g, rfl, hg1, hg2⟩ := own_at2 hown (by omega)
      obtain ⟨c1, c2⟩ := own_cell2 hown k hlt rfl
      have c1 := (hbel.cell (p := ⟨g, k * 2, none⟩) hg2).trans c1
      have c2 := (hbel.cell (p := ⟨g, k * 2 + 1, none⟩) hg2).trans c2
      have hpl := HPP.out l[k] (List.getElem_mem hlt)
      have htk : l.take (k + 1) = l.take k ++ [l[k]] := by rw [List.take_succ_eq_append_getElem hlt]
      have HN := Lib.hid (show xs ++ [oneL l[k]] = (l.take (k + 1)).map oneL by rw [htk, List.map_append, ← ho.out]; rfl)
      have hol2 : oneL l[k] = pctL l[k].1 ++ [61] ++ pctL l[k].2 := by simp [oneL]
      generalize l[k] = p at c1 c2 hpl HN hol2
      obtain ⟨pk, pv⟩ := p
      simp only at c1 c2 hpl hol2
      have q1 := pctL_len pk
      have q2 := pctL_len pv
      have hp1 := hpl.1
      have hp2 := hpl.2
      clear hpl htk ho
      generalize hek : pctL pk = ek at q1 hol2
      generalize hev : pctL pv = ev at q2 hol2
      have E1 := Lib.hid hek
      have E2 := Lib.hid hev
      clear hek hev
      rw [hol2, List.append_assoc, List.singleton_append] at HN
      clear hol2
      have hadd1 : ∀ w : World, (Op.stringOp .add (txt ek) { data := #[61] }).run Tryz.prog w = .ok (.string (txt (ek ++ [61]))) w := add_txt (P := Tryz.prog) ek [61] (by simp; omega)
      have hadd2 : ∀ w : World, (Op.stringOp .add (txt (ek ++ [61])) (txt ev)).run Tryz.prog w = .ok (.string (txt (ek ++ [61] ++ ev))) w := add_txt (P := Tryz.prog) (ek ++ [61]) ev (by simp; omega)
      have hi0 : (0 : Int) ≤ (k : Int) := by omega
      have hi1 : (k : Int) < (l.length : Int) := by omega
      have hrowA := hrow.alloc (.cells #[.string (txt pk), .string (txt pv)] 86)
      have hbelA := hbel.alloc hbs (.cells #[.string (txt pk), .string (txt pv)] 86)
      have hbx : (wr.alloc (.cells #[.string (txt pk), .string (txt pv)] 86)).heap[wr.heap.size]? = some (.cells #[.string (txt pk), .string (txt pv)] 86 (0, 0)) := heap_alloc_new wr _
      have cA1 := box_cell hbx 0
      have cA2 := box_cell hbx 1
      have hszA : (wr.alloc (.cells #[.string (txt pk), .string (txt pv)] 86)).heap.size = wr.heap.size + 1 := by simp
      have hltA : ∀ j, u3.ownBlock = some j → j < wr.heap.size := fun j e => (hrow.lt j e).2
      go_wp2
      clear c1 c2 hbx
      generalize (wr.alloc (.cells #[.string (txt pk), .string (txt pv)] 86)) = wa at hrowA hbelA cA1 cA2 hszA ⊢
      generalize wr.heap.size = bx at cA1 cA2 hszA hltA ⊢
      have hsz1 := hbelA.size
      go_region_held3 (fun W => W.cell? ⟨bx, 0, none⟩ = some (.string (txt pk)) ∧ W.cell? ⟨bx, 1, none⟩ = some (.string (txt pv)) ∧ bx < W.heap.size ∧ Below w.heap.size w W)
        (first
          | exact ⟨cA1, cA2, by show bx < wa.heap.size; omega, hbelA.drew⟩
          | (go_split_ands; exact ⟨(World.cell?_of_block (a := ⟨bx, 0, none⟩) (hgrow5.block bx (by assumption) (fun e => by have := hltA bx e.symm; omega))).trans (by assumption), (World.cell?_of_block (a := ⟨bx, 1, none⟩) (hgrow5.block bx (by assumption) (fun e => by have := hltA bx e.symm; omega))).trans (by assumption), Nat.lt_of_lt_of_le (by assumption) hgrow5.size, Below.grown (by assumption) hgrow5 (Below.size (by assumption)) (fun j e => (hrow.lt j e).1)⟩)
          | (go_split_ands; exact ⟨(hbc.cell (p := ⟨bx, 0, none⟩) (by assumption)).trans (by assumption), (hbc.cell (p := ⟨bx, 1, none⟩) (by assumption)).trans (by assumption), Nat.lt_of_lt_of_le (by assumption) hbc.size, Below.trans (by assumption) (hbc.mono (Below.size (by assumption)))⟩)
          | (go_split_ands; exact ⟨cell_alloc_keep (by assumption), cell_alloc_keep (by assumption), by simp; omega, Below.alloc (by assumption) (Below.size (by assumption)) _⟩))
        (first
          | (go_simp; go_at_call 70; refine (pct_impl_l _ _ (by first | exact hp1 | exact hp2)).mono ?_; rintro e wc ⟨rfl, hbc⟩; first | rw [E1.out] | rw [E2.out])
          | (go_split_ands; refine step_append_lies _ (by rfl) _ _ _ (by rfl) w.heap.size 9 i0 _ 1 16 Tryz.underlying59 hi hz0 hz1 hz2 rfl (by omega) u3 k _ (by rfl) (World.ownsRow.alloc (ownsRow_below (ownsRow_below hrowA.drew (by assumption)) (by assumption)) _) ⟨_, 0, none⟩ 1 1 [.string (txt (ek ++ 61 :: ev))] (by rfl) (by rfl) (World.news_of_block (cs := #[.string (txt (ek ++ 61 :: ev))]) (t := 9) (fr := (0, 0)) (heap_alloc_new _ _)) (by simp [Value.oneCell']) (by omega) (by unfold maxLen; omega) (by omega) (Below.size (by assumption)) _ (by rfl) ?_; intro gg5 cap5 w5 hrow5 hgrow5 hat5 hlt5))
      all_goals
        have hb5 : Below w.heap.size w w5 := by
          go_split_ands
          assumption
        clear hadd1 hadd2
        go_wp2
        go_roundw
        case rel => exact ⟨k + 1, xs ++ [ek ++ 61 :: ev], by omega, by go_num, HN, Lib.hid (by rw [List.length_append, hxl.out]; rfl), by rw [strs_append]; exact hrow5, hb5⟩
        case measure => simp [intOf]; omega
    · have he : l.take k = l := List.take_of_length_le (by omega)
      have ho2 := ho.out
      rw [he] at ho2
      have hxk := hxl.out
      rw [← hxk] at hrow
      subst ho2
      have hj := HTT.out
      rw [← putL_join] at hj
      go_wp2_with fail
      refine (join_call _ _ _ [38] _ hrow (by rw [List.length_map]; exact hn) (by omega)).mono ?_
      rintro e w1 ⟨rfl, hb1⟩
      rw [putL_join]
      go_wp2
      go_ret
      exact ⟨rfl, hbel.trans (hb1.mono hbs)⟩

end Go.Proofs.YtdgfiebehnfpgaaGreatDoor
