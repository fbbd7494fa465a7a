/- CONTRACTS of PutCookies, the model's and the program's. -/
import Derived.Test.YtfnignlfelambaaDoorCk
import Derived.Test.YtfnignlfelambaaDoorFormI
namespace Go.Proofs.YtfnignlfelambaaDoor
set_option linter.unusedVariables false
set_option maxRecDepth 4000
open Go.ChangeShapes Go.WideShapes Go.ChangeAt Go.RowKit
open Go.ChangeMaps (open_string shut_string)

namespace Ck
open Ht

theorem putCk_snoc (a : List PairL) (p : PairL) (h : a ≠ []) : putCk (a ++ [p]) = putCk a ++ [59, 32] ++ p.1 ++ [61] ++ p.2 := by
  cases a with
  | nil => exact absurd rfl h
  | cons q r => simp [putCk, eqL]

theorem eqL_len (p : PairL) : (eqL p).length = p.1.length + 1 + p.2.length := by
  unfold eqL
  simp only [List.length_append, List.length_cons]
  omega

theorem putCk_len (l : List PairL) : (putCk l).length ≤ wtL l + 3 * l.length := by
  cases l with
  | nil => simp [putCk]
  | cons p r =>
    have ht : ∀ r : List PairL, (r.flatMap fun q => 59 :: 32 :: eqL q).length ≤ wtL r + 3 * r.length := by
      intro r
      induction r with
      | nil => simp
      | cons q r ih =>
        have hw : wtL (q :: r) = q.1.length + q.2.length + wtL r := by simp [wtL]
        have := eqL_len q
        rw [List.flatMap_cons, List.length_append, hw]
        simp only [List.length_cons]
        omega
    have hw : wtL (p :: r) = p.1.length + p.2.length + wtL r := by simp [wtL]
    have := ht r
    have := eqL_len p
    rw [putCk, List.length_append, hw]
    simp only [List.length_cons]
    omega

theorem putCk_join (l : List PairL) : Lib.join (l.map eqL) [59, 32] = putCk l := by
  match l with
  | [] => rfl
  | p :: r =>
    rw [List.map_cons, Lib.join_cons, putCk, Lib.joinTail]
    congr 1
    rw [List.map_map, List.flatMap_def]
    rfl

set_option maxHeartbeats 1600000 in
theorem putCk_spec (base : Nat) (v : Value) (l : List PairL) (w : World) (hown : w.ownsRow base 71 2 v l.length (pcells l)) (hn : l.length ≤ 2097152)
    (hp : ∀ p ∈ l, p.1.length ≤ 1048576 ∧ p.2.length ≤ 1048576) (ht : ∀ k, (putCk (l.take k)).length ≤ 16777216) :
    Calls Tryd.prog 36 #[v] w fun e w' => e = .returned (.string (txt (putCk l))) ∧ Below w.heap.size w w' := by
  obtain ⟨a, cap, rfl⟩ := own_val2 hown
  have HPP := Lib.hid hp
  have HTT := Lib.hid ht
  clear hp ht
  go_enter Tryd.func36, Tryd.ntmps36
  go_wp2
  go_loopw [3, 4] (fun v i wr => ∃ (k : Nat) (o : List UInt8), k ≤ l.length ∧ i = .int .i64 k ∧ v = .string (txt o) ∧ Hid (o = putCk (l.take k)) ∧ Below w.heap.size w wr) (fun _ i _ => l.length - (intOf i).toNat)
  case atStart => exact ⟨0, [], by omega, rfl, rfl, rfl, Below.refl _ _⟩
  case round =>
    obtain ⟨k, o, hk, rfl, rfl, ho, hbel⟩ := hrel
    have hol := HTT.out k
    rw [← ho.out] at hol
    by_cases hlt : k < l.length
    · obtain ⟨g, rfl, hg1, hg2⟩ := own_at2 hown (by omega)
      obtain ⟨c1, c2⟩ := own_cell2 hown k hlt rfl
      have c1 := (hbel.cell (p := ⟨g, k * 2, none⟩) hg2).trans c1
      have c2 := (hbel.cell (p := ⟨g, k * 2 + 1, none⟩) hg2).trans c2
      have hpl := HPP.out l[k] (List.getElem_mem hlt)
      have htk : l.take (k + 1) = l.take k ++ [l[k]] := by rw [List.take_succ_eq_append_getElem hlt]
      have HN := Lib.hid (show putCk (l.take (k + 1)) = (if k = 0 then o else o ++ [59, 32]) ++ l[k].1 ++ [61] ++ l[k].2 by
        rw [htk]
        by_cases hk0 : k = 0
        · have e : l.take k = [] := by rw [List.take_eq_nil_iff]; exact .inl hk0
          rw [if_pos hk0, ho.out, e]; simp [putCk, eqL]
        · rw [if_neg hk0, putCk_snoc _ _ (by intro e; have := congrArg List.length e; rw [List.length_take] at this; simp only [List.length_nil] at this; omega), ho.out])
      generalize l[k] = p at c1 c2 hpl HN
      obtain ⟨pk, pv⟩ := p
      simp only at c1 c2 hpl HN
      have hp1 := hpl.1
      have hp2 := hpl.2
      clear hpl htk ho
      have hi0 : (0 : Int) ≤ (k : Int) := by omega
      have hi1 : (k : Int) < (l.length : Int) := by omega
      by_cases hk0 : k = 0
      · have hgt : ¬ ((0 : Int) < (k : Int)) := by omega
        rw [if_pos hk0] at HN
        clear hk0
        have hadd1 : ∀ wx : World, (Op.stringOp .add (txt o) (txt pk)).run Tryd.prog wx = .ok (.string (txt (o ++ pk))) wx := add_txt (P := Tryd.prog) o pk (by omega)
        have hadd2 : ∀ wx : World, (Op.stringOp .add (txt (o ++ pk)) { data := #[61] }).run Tryd.prog wx = .ok (.string (txt (o ++ pk ++ [61]))) wx := add_txt (P := Tryd.prog) (o ++ pk) [61] (by simp; omega)
        have hadd3 : ∀ wx : World, (Op.stringOp .add (txt (o ++ pk ++ [61])) (txt pv)).run Tryd.prog wx = .ok (.string (txt (o ++ pk ++ [61] ++ pv))) wx := add_txt (P := Tryd.prog) (o ++ pk ++ [61]) pv (by simp; omega)
        generalize hO3 : o ++ pk ++ [61] ++ pv = O3 at hadd3 HN
        generalize o ++ pk ++ [61] = O2 at hadd2 hadd3
        generalize o ++ pk = O1 at hadd1 hadd2
        clear hO3
        go_wp2
        go_quiet (fail)
        go_wp2
        go_roundw
        case rel => exact ⟨k + 1, O3, by omega, by go_num, rfl, Lib.hid HN.out.symm, below_drewN hbel _⟩
        case measure => simp [intOf]; omega
      · have hgt : ((0 : Int) < (k : Int)) := by omega
        rw [if_neg hk0] at HN
        clear hk0
        have hadd0 : ∀ wx : World, (Op.stringOp .add (txt o) { data := #[59, 32] }).run Tryd.prog wx = .ok (.string (txt (o ++ [59, 32]))) wx := add_txt (P := Tryd.prog) o [59, 32] (by simp; omega)
        have hol2 : (o ++ [59, 32]).length ≤ 20000000 := by simp; omega
        generalize o ++ [59, 32] = o' at hadd0 HN hol2
        have hadd1 : ∀ wx : World, (Op.stringOp .add (txt o') (txt pk)).run Tryd.prog wx = .ok (.string (txt (o' ++ pk))) wx := add_txt (P := Tryd.prog) o' pk (by omega)
        have hadd2 : ∀ wx : World, (Op.stringOp .add (txt (o' ++ pk)) { data := #[61] }).run Tryd.prog wx = .ok (.string (txt (o' ++ pk ++ [61]))) wx := add_txt (P := Tryd.prog) (o' ++ pk) [61] (by simp; omega)
        have hadd3 : ∀ wx : World, (Op.stringOp .add (txt (o' ++ pk ++ [61])) (txt pv)).run Tryd.prog wx = .ok (.string (txt (o' ++ pk ++ [61] ++ pv))) wx := add_txt (P := Tryd.prog) (o' ++ pk ++ [61]) pv (by simp; omega)
        generalize hO3 : o' ++ pk ++ [61] ++ pv = O3 at hadd3 HN
        generalize o' ++ pk ++ [61] = O2 at hadd2 hadd3
        generalize o' ++ pk = O1 at hadd1 hadd2
        clear hO3
        go_wp2
        go_quiet (fail)
        go_wp2
        go_roundw
        case rel => exact ⟨k + 1, O3, by omega, by go_num, rfl, Lib.hid HN.out.symm, below_drewN hbel _⟩
        case measure => simp [intOf]; omega
    · have he : l.take k = l := List.take_of_length_le (by omega)
      have ho2 := ho.out
      rw [he] at ho2
      have HO := Lib.hid ho2
      clear ho2 ho he hol
      go_wp2
      go_ret
      exact ⟨by rw [← HO.out]; rfl, hbel⟩

set_option maxHeartbeats 1600000 in
theorem putCk_impl (base : Nat) (v : Value) (l : List PairL) (w : World) (hown : w.ownsRow base 71 2 v l.length (pcells l)) (hn : l.length ≤ 2097152) (hb : base ≤ w.heap.size)
    (hp : ∀ p ∈ l, p.1.length ≤ 1048576 ∧ p.2.length ≤ 1048576) (ht : (putCk l).length ≤ 16777216) :
    Calls Tryd.prog 33 #[v] w fun e w' => e = .returned (.string (txt (putCk l))) ∧ Below w.heap.size w w' := by
  obtain ⟨i0, hi, hz0, hz1, hz2⟩ := info_parts Tryd.infoS
  obtain ⟨a, cap, rfl⟩ := own_val2 hown
  have HPP := Lib.hid hp
  have HTT := Lib.hid ht
  clear hp ht
  have hmk := make_row (P := Tryd.prog) 69 9 i0 (.string ⟨#[]⟩) Tryd.underlying69 hi hz0 (l.length : Int) l.length (by omega) (by rw [hz2]; omega) (by omega)
  go_enter Tryd.func33, Tryd.ntmps33
  go_wp2
  go_loopw [3, 11] (fun v i wr => ∃ (k : Nat) (xs : List (List UInt8)), k ≤ l.length ∧ i = .int .i64 k ∧ Hid (xs = (l.take k).map eqL) ∧ Hid (xs.length = k) ∧ wr.ownsRow w.heap.size 9 1 v k (strs xs) ∧ Below w.heap.size w wr) (fun _ i _ => l.length - (intOf i).toNat)
  case atStart => exact ⟨0, [], by omega, rfl, rfl, rfl, World.ownsRow_made w _ l.length (Nat.le_refl _) (by unfold maxLen; omega) (by rw [size_madeCells, Nat.mul_one]), (Below.refl _ w).alloc (Nat.le_refl _) _⟩
  case round =>
    clear hmk
    obtain ⟨k, xs, hk, rfl, ho, hxl, hrow, hbel⟩ := hrel
    have hbs := hbel.size
    by_cases hlt : k < l.length
    · obtain ⟨g, rfl, hg1, hg2⟩ := own_at2 hown (by omega)
      obtain ⟨c1, c2⟩ := own_cell2 hown k hlt rfl
      have c1 := (hbel.cell (p := ⟨g, k * 2, none⟩) hg2).trans c1
      have c2 := (hbel.cell (p := ⟨g, k * 2 + 1, none⟩) hg2).trans c2
      have hpl := HPP.out l[k] (List.getElem_mem hlt)
      have htk : l.take (k + 1) = l.take k ++ [l[k]] := by rw [List.take_succ_eq_append_getElem hlt]
      have HN := Lib.hid (show xs ++ [eqL l[k]] = (l.take (k + 1)).map eqL by rw [htk, List.map_append, ← ho.out]; rfl)
      have HE := Lib.hid (show eqL l[k] = l[k].1 ++ [61] ++ l[k].2 by simp [eqL])
      rw [HE.out] at HN
      generalize l[k] = p at c1 c2 hpl HN
      obtain ⟨pk, pv⟩ := p
      simp only at c1 c2 hpl HN
      have hp1 := hpl.1
      have hp2 := hpl.2
      clear hpl htk ho HE
      have hadd1 : ∀ w : World, (Op.stringOp .add (txt pk) { data := #[61] }).run Tryd.prog w = .ok (.string (txt (pk ++ [61]))) w := add_txt (P := Tryd.prog) pk [61] (by simp; omega)
      have hadd2 : ∀ w : World, (Op.stringOp .add (txt (pk ++ [61])) (txt pv)).run Tryd.prog w = .ok (.string (txt (pk ++ [61] ++ pv))) w := add_txt (P := Tryd.prog) (pk ++ [61]) pv (by simp; omega)
      generalize pk ++ [61] ++ pv = x at hadd2 HN
      generalize pk ++ [61] = x1 at hadd1 hadd2
      have hi0 : (0 : Int) ≤ (k : Int) := by omega
      have hi1 : (k : Int) < (l.length : Int) := by omega
      have hszA : (wr.alloc (.cells #[.string (txt pk), .string (txt pv)] 71)).heap.size = wr.heap.size + 1 := by simp
      go_wp2_with (at_builtin; refine wpList_append_lies _ rfl _ _ _ rfl w.heap.size 9 i0 _ 1 16 Tryd.underlying69 hi hz0 hz1 hz2 rfl (by omega) u3 k _ rfl ((hrow.alloc _).alloc _) ⟨wr.heap.size + 1, 0, none⟩ 1 1 [.string (txt x)] rfl rfl (by rw [← hszA]; exact World.news_of_block (cs := #[.string (txt x)]) (t := 9) (fr := (0, 0)) (heap_alloc_new (wr.alloc (.cells #[.string (txt pk), .string (txt pv)] 71)) _)) (by simp [Value.oneCell']) (by omega) (by unfold maxLen; omega) (by omega) (by simp; omega) (wr.heap.size + 1 + 1) (by simp) ?_; intro gg cap5 w5 hrow5 hgrow5 hat5 hlt5)
      have hb5 : Below w.heap.size w w5 := ((hbel.alloc hbs _).alloc (by simp; omega) _).grown hgrow5 (by simp; omega) (fun j e => (hrow.lt j e).1)
      clear hadd1 hadd2
      exact ⟨⟨k + 1, xs ++ [x], by omega, by go_num, HN, Lib.hid (by rw [List.length_append, hxl.out]; rfl), by rw [strs_append]; exact hrow5, hb5⟩, by simp [intOf]; omega⟩
    · have he : l.take k = l := List.take_of_length_le (by omega)
      have ho2 := ho.out
      rw [he] at ho2
      have hxk := hxl.out
      rw [← hxk] at hrow
      subst ho2
      have hj := HTT.out
      rw [← putCk_join] at hj
      go_wp2_with fail
      refine (join_call _ _ _ [59, 32] _ hrow (by rw [List.length_map]; exact hn) (by omega)).mono ?_
      rintro e w1 ⟨rfl, hb1⟩
      rw [putCk_join]
      go_wp2
      go_ret
      exact ⟨rfl, hbel.trans (hb1.mono hbs)⟩

end Ck
end Go.Proofs.YtfnignlfelambaaDoor
