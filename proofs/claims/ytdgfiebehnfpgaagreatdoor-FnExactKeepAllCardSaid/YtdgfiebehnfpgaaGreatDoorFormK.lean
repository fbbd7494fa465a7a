/- CONTRACT of PutForm over a row that lies anywhere: the program's; and how long what GetForm reads may be. -/
import Derived.Test.YtdgfiebehnfpgaaGreatDoorFormI
import Derived.Test.YtdgfiebehnfpgaaGreatDoorPairs
namespace Go.Proofs.YtdgfiebehnfpgaaGreatDoor
set_option linter.unusedVariables false
set_option maxRecDepth 4000
open Go.ChangeShapes Go.WideShapes Go.ChangeAt Go.RowKit
open Go.ChangeMaps (open_string shut_string)

set_option maxHeartbeats 1600000 in
theorem putform_impl_at (v : Value) (l : List PairL) (w : World) (hat : PAt w v l) (hn : l.length ≤ 2097152)
    (hp : ∀ p ∈ l, p.1.length ≤ 1048576 ∧ p.2.length ≤ 1048576) (ht : (putL l).length ≤ 16777216) :
    Calls Tryz.prog 29 #[v] w fun e w' => e = .returned (.string (txt (putL l))) ∧ Below w.heap.size w w' := by
  obtain ⟨i0, hi, hz0, hz1, hz2⟩ := info_parts Tryz.infoS
  obtain ⟨a, cap, rfl, hat⟩ := hat
  have HA := Lib.hid hat
  clear hat
  have HPP := Lib.hid hp
  have HTT := Lib.hid ht
  clear hp ht
  have hmk := make_row (P := Tryz.prog) 59 9 i0 (.string ⟨#[]⟩) Tryz.underlying59 hi hz0 (l.length : Int) l.length (by omega) (by rw [hz2]; omega) (by omega)
  go_enter Tryz.func29, Tryz.ntmps29
  go_wp2
  go_loopw [3, 11] (fun v i wr => ∃ (k : Nat) (xs : List (List UInt8)), k ≤ l.length ∧ i = .int .i64 k ∧ Hid (xs = (l.take k).map oneL) ∧ Hid (xs.length = k) ∧ wr.ownsRow w.heap.size 9 1 v k (strs xs) ∧ Below w.heap.size w wr) (fun _ i _ => l.length - (intOf i).toNat)
  case atStart => exact ⟨0, [], by omega, rfl, rfl, rfl, World.ownsRow_made w _ l.length (Nat.le_refl _) (by unfold maxLen; omega) (by rw [size_madeCells, Nat.mul_one]), (Below.refl _ w).alloc (Nat.le_refl _) _⟩
  case round =>
    clear hmk
    obtain ⟨k, xs, hk, rfl, ho, hxl, hrow, hbel⟩ := hrel
    have hbs := hbel.size
    by_cases hlt : k < l.length
    · rcases HA.out with h0 | ⟨g, off, rfl, hg2, hcell⟩
      · omega
      obtain ⟨c1, c2⟩ := hcell k hlt
      have c1 := (hbel.cell (p := ⟨g, _, none⟩) hg2).trans c1
      have c2 := (hbel.cell (p := ⟨g, _, none⟩) hg2).trans c2
      clear hcell
      have hpl := HPP.out l[k] (List.getElem_mem hlt)
      have htk : l.take (k + 1) = l.take k ++ [l[k]] := by rw [List.take_succ_eq_append_getElem hlt]
      have HN := Lib.hid (show xs ++ [oneL l[k]] = (l.take (k + 1)).map oneL by rw [htk, List.map_append, ← ho.out]; rfl)
      have hol2 : oneL l[k] = pctL l[k].1 ++ [61] ++ pctL l[k].2 := by simp [oneL]
      generalize l[k] = p at c1 c2 hpl HN hol2
      obtain ⟨pk, pv⟩ := p
      simp only at c1 c2 hpl hol2
      have q1 := pctL_len pk
      have q2 := pctL_len pv
      have hp1 := hpl.1
      have hp2 := hpl.2
      clear hpl htk ho
      generalize hek : pctL pk = ek at q1 hol2
      generalize hev : pctL pv = ev at q2 hol2
      have E1 := Lib.hid hek
      have E2 := Lib.hid hev
      clear hek hev
      rw [hol2, List.append_assoc, List.singleton_append] at HN
      clear hol2
      have hadd1 : ∀ w : World, (Op.stringOp .add (txt ek) { data := #[61] }).run Tryz.prog w = .ok (.string (txt (ek ++ [61]))) w := add_txt (P := Tryz.prog) ek [61] (by simp; omega)
      have hadd2 : ∀ w : World, (Op.stringOp .add (txt (ek ++ [61])) (txt ev)).run Tryz.prog w = .ok (.string (txt (ek ++ [61] ++ ev))) w := add_txt (P := Tryz.prog) (ek ++ [61]) ev (by simp; omega)
      have hi0 : (0 : Int) ≤ (k : Int) := by omega
      have hi1 : (k : Int) < (l.length : Int) := by omega
      have hrowA := hrow.alloc (.cells #[.string (txt pk), .string (txt pv)] 86)
      have hbelA := hbel.alloc hbs (.cells #[.string (txt pk), .string (txt pv)] 86)
      have hbx : (wr.alloc (.cells #[.string (txt pk), .string (txt pv)] 86)).heap[wr.heap.size]? = some (.cells #[.string (txt pk), .string (txt pv)] 86 (0, 0)) := heap_alloc_new wr _
      have cA1 := box_cell hbx 0
      have cA2 := box_cell hbx 1
      have hszA : (wr.alloc (.cells #[.string (txt pk), .string (txt pv)] 86)).heap.size = wr.heap.size + 1 := by simp
      have hltA : ∀ j, u3.ownBlock = some j → j < wr.heap.size := fun j e => (hrow.lt j e).2
      go_wp2
      clear c1 c2 hbx
      generalize (wr.alloc (.cells #[.string (txt pk), .string (txt pv)] 86)) = wa at hrowA hbelA cA1 cA2 hszA ⊢
      generalize wr.heap.size = bx at cA1 cA2 hszA hltA ⊢
      have hsz1 := hbelA.size
      go_region_held3 (fun W => W.cell? ⟨bx, 0, none⟩ = some (.string (txt pk)) ∧ W.cell? ⟨bx, 1, none⟩ = some (.string (txt pv)) ∧ bx < W.heap.size ∧ Below w.heap.size w W)
        (first
          | exact ⟨cA1, cA2, by show bx < wa.heap.size; omega, hbelA.drew⟩
          | (go_split_ands; exact ⟨(World.cell?_of_block (a := ⟨bx, 0, none⟩) (hgrow5.block bx (by assumption) (fun e => by have := hltA bx e.symm; omega))).trans (by assumption), (World.cell?_of_block (a := ⟨bx, 1, none⟩) (hgrow5.block bx (by assumption) (fun e => by have := hltA bx e.symm; omega))).trans (by assumption), Nat.lt_of_lt_of_le (by assumption) hgrow5.size, Below.grown (by assumption) hgrow5 (Below.size (by assumption)) (fun j e => (hrow.lt j e).1)⟩)
          | (go_split_ands; exact ⟨(hbc.cell (p := ⟨bx, 0, none⟩) (by assumption)).trans (by assumption), (hbc.cell (p := ⟨bx, 1, none⟩) (by assumption)).trans (by assumption), Nat.lt_of_lt_of_le (by assumption) hbc.size, Below.trans (by assumption) (hbc.mono (Below.size (by assumption)))⟩)
          | (go_split_ands; exact ⟨cell_alloc_keep (by assumption), cell_alloc_keep (by assumption), by simp; omega, Below.alloc (by assumption) (Below.size (by assumption)) _⟩))
        (first
          | (go_simp; go_at_call 70; refine (pct_impl_l _ _ (by first | exact hp1 | exact hp2)).mono ?_; rintro e wc ⟨rfl, hbc⟩; first | rw [E1.out] | rw [E2.out])
          | (go_split_ands; refine step_append_lies _ (by rfl) _ _ _ (by rfl) w.heap.size 9 i0 _ 1 16 Tryz.underlying59 hi hz0 hz1 hz2 rfl (by omega) u3 k _ (by rfl) (World.ownsRow.alloc (ownsRow_below (ownsRow_below hrowA.drew (by assumption)) (by assumption)) _) ⟨_, 0, none⟩ 1 1 [.string (txt (ek ++ 61 :: ev))] (by rfl) (by rfl) (World.news_of_block (cs := #[.string (txt (ek ++ 61 :: ev))]) (t := 9) (fr := (0, 0)) (heap_alloc_new _ _)) (by simp [Value.oneCell']) (by omega) (by unfold maxLen; omega) (by omega) (Below.size (by assumption)) _ (by rfl) ?_; intro gg5 cap5 w5 hrow5 hgrow5 hat5 hlt5))
      all_goals
        have hb5 : Below w.heap.size w w5 := by
          go_split_ands
          assumption
        clear hadd1 hadd2
        go_wp2
        go_roundw
        case rel => exact ⟨k + 1, xs ++ [ek ++ 61 :: ev], by omega, by go_num, HN, Lib.hid (by rw [List.length_append, hxl.out]; rfl), by rw [strs_append]; exact hrow5, hb5⟩
        case measure => simp [intOf]; omega
    · have he : l.take k = l := List.take_of_length_le (by omega)
      have ho2 := ho.out
      rw [he] at ho2
      have hxk := hxl.out
      rw [← hxk] at hrow
      subst ho2
      have hj := HTT.out
      rw [← putL_join] at hj
      go_wp2_with fail
      refine (join_call _ _ _ [38] _ hrow (by rw [List.length_map]; exact hn) (by omega)).mono ?_
      rintro e w1 ⟨rfl, hb1⟩
      rw [putL_join]
      go_wp2
      go_ret
      exact ⟨rfl, hbel.trans (hb1.mono hbs)⟩

theorem unp_len (n : Nat) : ∀ (l acc o : List UInt8), l.length ≤ n → unpA acc l = some o → o.length ≤ acc.length + l.length := by
  induction n with
  | zero =>
    intro l acc o hl h
    have : l = [] := List.eq_nil_of_length_eq_zero (by omega)
    subst this
    simp only [unpA, Option.some.injEq] at h
    subst h; simp
  | succ n ih =>
    intro l acc o hl h
    match l with
    | [] => simp only [unpA, Option.some.injEq] at h; subst h; simp
    | c :: r =>
      by_cases hc : c = 37
      · subst hc
        match r with
        | [] => rw [unp_short acc [] (by simp)] at h; cases h
        | [d] => rw [unp_short acc [d] (by simp)] at h; cases h
        | a :: b :: q =>
          rw [unp_code] at h
          by_cases hv : hexV a < 0 ∨ hexV b < 0
          · rw [if_pos hv] at h; cases h
          · rw [if_neg hv] at h
            have := ih q _ o (by simp at hl; omega) h
            simp at this ⊢; omega
      · rw [unp_plain _ _ _ hc] at h
        have := ih r _ o (by simp at hl; omega) h
        simp at this ⊢; omega

theorem form_len (l o : List UInt8) (h : formL l = some o) : o.length ≤ l.length := by
  have := unp_len _ _ [] o (Nat.le_refl _) h
  simpa using this

theorem part_len (p : List UInt8) (x : PairL) (h : partL p = some x) : x.1.length ≤ p.length ∧ x.2.length ≤ p.length := by
  unfold partL at h
  cases hc : cutL 61 p with
  | none => rw [hc] at h; simp at h
  | some ab =>
    obtain ⟨a, b⟩ := ab
    have hl := cutL_len 61 p a b hc
    rw [hc] at h
    simp only at h
    cases h1 : formL a with
    | none => rw [h1] at h; simp at h
    | some k =>
      cases h2 : formL b with
      | none => rw [h1, h2] at h; simp at h
      | some v =>
        rw [h1, h2] at h
        simp only [Option.some.injEq] at h
        subst h
        have := form_len a k h1
        have := form_len b v h2
        simp only
        omega

theorem getA_small (M : Nat) (ps : List (List UInt8)) : ∀ acc L, (∀ p ∈ ps, p.length ≤ M) → (∀ q ∈ acc, q.1.length ≤ M ∧ q.2.length ≤ M) → getA acc ps = some L → ∀ q ∈ L, q.1.length ≤ M ∧ q.2.length ≤ M := by
  induction ps with
  | nil => intro acc L _ ha h; simp only [getA, Option.some.injEq] at h; subst h; exact ha
  | cons p r ih =>
    intro acc L hp ha h
    rw [getA] at h
    cases hx : partL p with
    | none => rw [hx] at h; cases h
    | some x =>
      rw [hx] at h
      have hxl := part_len p x hx
      have hpl := hp p (by simp)
      refine ih _ L (fun y hy => hp y (by simp [hy])) (fun q hq => ?_) h
      rcases List.mem_append.1 hq with h1 | h1
      · exact ha q h1
      · simp only [List.mem_singleton] at h1; subst h1; omega

theorem getL_small (s : List UInt8) (L : List PairL) (h : getL s = some L) : ∀ q ∈ L, q.1.length ≤ s.length ∧ q.2.length ≤ s.length := by
  unfold getL at h
  by_cases hl : (splitL 38 s).length > 30
  · rw [if_pos hl] at h; cases h
  · rw [if_neg hl] at h
    exact getA_small s.length _ [] L (fun p hp => splitL_part 38 s p hp) (fun q hq => by cases hq) h

theorem one_len_M (M : Nat) (p : PairL) (h : p.1.length ≤ M ∧ p.2.length ≤ M) : (oneL p).length ≤ 6 * M + 1 := by
  have h1 := pctL_len p.1
  have h2 := pctL_len p.2
  simp [oneL]; omega

theorem tail_len_M (M : Nat) (l : List PairL) (h : ∀ p ∈ l, p.1.length ≤ M ∧ p.2.length ≤ M) : (l.flatMap fun q => 38 :: oneL q).length ≤ (6 * M + 2) * l.length := by
  induction l with
  | nil => simp
  | cons p r ih =>
    have := one_len_M M p (h p (by simp))
    have := ih (fun q hq => h q (by simp [hq]))
    rw [List.flatMap_cons, List.length_append, List.length_cons, List.length_cons, Nat.mul_succ]
    omega

theorem put_len_M (M : Nat) (L : List PairL) (h : ∀ p ∈ L, p.1.length ≤ M ∧ p.2.length ≤ M) : (putL L).length ≤ (6 * M + 2) * L.length := by
  match L, h with
  | [], _ => simp [putL]
  | p :: r, h =>
    have h1 := one_len_M M p (h p (by simp))
    have h2 := tail_len_M M r (fun q hq => h q (by simp [hq]))
    rw [putL, List.length_append, List.length_cons, Nat.mul_succ]
    omega

end Go.Proofs.YtdgfiebehnfpgaaGreatDoor
