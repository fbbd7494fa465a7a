/- CONTRACTS of the program's reading: readContent, readField. -/
import Derived.Test.YtljifooeokhgeaaFldQ
namespace Go.Proofs.Ytljifooeokhgeaa
set_option linter.unusedVariables false
set_option maxRecDepth 4000
open Go.ChangeShapes Go.WideShapes Go.ChangeAt Go.RowKit
open Go.ChangeMaps (open_string shut_string)

namespace Fld

theorem rdC_key (k c : List UInt8) : rdC k c = (rdC [] c).map fun x => ((k, x.1.2), x.2) := by
  unfold rdC
  by_cases h : c.head? = some 34
  · rw [if_pos h, if_pos h]
    cases readQ c with
    | none => rfl
    | some x => obtain ⟨t, r⟩ := x; rfl
  · rw [if_neg h, if_neg h]
    by_cases h2 : 0 ≤ rdV (c.takeWhile (· != 44))
    · rw [if_pos h2, if_pos h2]; rfl
    · rw [if_neg h2, if_neg h2]; rfl

theorem rdC_again (k c : List UInt8) (p : FieldL) (r : List UInt8) (h : rdC k c = some (p, r)) (k2 : List UInt8) : again (k2, p.2) = (k2, p.2) := by
  unfold rdC at h
  split at h
  · cases hq : readQ c with
    | none => rw [hq] at h; cases h
    | some y =>
      obtain ⟨t, r2⟩ := y
      rw [hq] at h
      simp only [Option.some.injEq, Prod.mk.injEq] at h
      obtain ⟨rfl, rfl⟩ := h
      rfl
  · split at h
    · simp only [Option.some.injEq, Prod.mk.injEq] at h
      obtain ⟨rfl, rfl⟩ := h
      rfl
    · cases h

theorem tw_all (l : List UInt8) (h : ∀ x ∈ l, x ≠ 44) : l.takeWhile (· != 44) = l := by
  have := List.takeWhile_append_of_pos (p := (· != (44 : UInt8))) (l₁ := l) (l₂ := []) (fun a ha => by simpa using h a ha)
  simpa using this

theorem tw_at (s : ByteArray) (n : Nat) (hn : n < s.size) (hc : s[n] = 44) (h : ∀ j (hj : j < n), s[j] ≠ 44) : s.data.toList.takeWhile (· != 44) = (s.extract 0 n).data.toList := by
  have hd := data_length s
  have e : (s.extract 0 n).data.toList = s.data.toList.take n := by
    simp only [ByteArray.data_extract, Array.toList_extract]
    show (s.data.toList.drop 0).take (n - 0) = _
    simp
  have e2 : s.data.toList = s.data.toList.take n ++ 44 :: s.data.toList.drop (n + 1) := by
    conv => lhs; rw [← List.take_append_drop n s.data.toList]
    congr 1
    rw [drop_cons s n hn, hc]
  rw [e]
  conv => lhs; rw [e2]
  rw [List.takeWhile_append_of_pos ?_]
  · simp
  · intro a ha
    obtain ⟨i, hi, rfl⟩ := List.getElem_of_mem ha
    rw [List.length_take] at hi
    rw [List.getElem_take]
    have := h i (by omega)
    simpa using (show s.data[i]'(by show i < s.size; omega) ≠ 44 from this)

set_option maxHeartbeats 800000 in
theorem readContent_call (s : ByteArray) (hs : s.size ≤ 1048576) (w : World) :
    Calls Try.prog 63 #[.string s] w fun e w' => (match rdC [] s.data.toList with
      | some (p, r) => e = .returned (.tuple #[content p, .string (txt r), .bool true])
      | none => ∃ v x, e = .returned (.tuple #[v, .string x, .bool false])) ∧ Below w.heap.size w w' := by
  have HP := Lib.hid (fun wx => Try.strings_HasPrefix s (txt [34]) wx)
  simp only [txt_toList, cut_head] at HP
  have e34 : txt [34] = ⟨#[34]⟩ := rfl
  rw [e34] at HP
  by_cases hh : s.data.toList.head? = some 34
  · rw [decide_eq_true hh] at HP
    have Q := Lib.hid (fun wx => readQuoted_call s hs wx)
    unfold rdC
    rw [if_pos hh]
    cases hq : readQ s.data.toList with
    | none =>
      rw [hq] at Q
      simp only [quoV] at Q
      clear hq hh e34
      go_enter Try.func63, Try.ntmps63
      go_wp2_with fail
      refine (HP.out _).mono ?_
      rintro e w1 ⟨rfl, rfl⟩
      go_wp2_with fail
      refine (Q.out _).mono ?_
      rintro e w2 ⟨rfl, b2⟩
      go_wp2
      go_ret3
      exact ⟨⟨_, _, rfl⟩, b2⟩
    | some x =>
      obtain ⟨t, r⟩ := x
      rw [hq] at Q
      simp only [quoV] at Q
      clear hq hh e34
      go_enter Try.func63, Try.ntmps63
      go_wp2_with fail
      refine (HP.out _).mono ?_
      rintro e w1 ⟨rfl, rfl⟩
      go_wp2_with fail
      refine (Q.out _).mono ?_
      rintro e w2 ⟨rfl, b2⟩
      go_wp2
      go_ret3
      exact ⟨rfl, b2⟩
  · rw [decide_eq_false hh] at HP
    obtain ⟨D, hD, hDs, C⟩ : ∃ D : ByteArray, D.data.toList = s.data.toList.takeWhile (· != 44) ∧ D.size ≤ s.size ∧ Hid (∀ wx, Calls Try.prog 69 #[.string s, .int .u8 44] wx fun e w' => (∃ y b, e = .returned (.tuple #[.string D, y, b])) ∧ Below wx.heap.size wx w') := by
      rcases first_or s 44 with h | ⟨n, hn, hc, h⟩
      · refine ⟨s, (tw_all _ (fun x hx => ?_)).symm, Nat.le_refl _, Lib.hid (fun wx => (cut_impl_no s 44 wx h).mono fun e w' ⟨he, hb⟩ => ⟨⟨_, _, he⟩, hb⟩)⟩
        obtain ⟨i, hi, rfl⟩ := List.getElem_of_mem hx
        exact h i (by rw [data_length] at hi; exact hi)
      · exact ⟨s.extract 0 n, (tw_at s n hn hc h).symm, by rw [ByteArray.size_extract]; omega, Lib.hid (fun wx => (cut_impl_yes s 44 wx hs n hn hc h).mono fun e w' ⟨he, hb⟩ => ⟨⟨_, _, he⟩, hb⟩)⟩
    have RD := Lib.hid (fun wx => readdec_impl D wx (by omega))
    have hsl := ext_drop s D.size
    have hDl : D.size = (s.data.toList.takeWhile (· != 44)).length := by rw [← hD, data_length]
    unfold rdC
    rw [if_neg hh, ← hD]
    have hDl2 : D.data.toList.length = D.size := data_length D
    rw [hDl2]
    generalize rdV D.data.toList = n at RD ⊢
    have hb1 : (0 : Int) ≤ (D.size : Int) := by omega
    have hb2 : (D.size : Int) ≤ (s.size : Int) := by omega
    clear hD hDl hDl2 hh e34
    by_cases hn : 0 ≤ n
    · rw [if_pos hn]
      go_enter Try.func63, Try.ntmps63
      go_wp2_with fail
      refine (HP.out _).mono ?_
      rintro e w1 ⟨rfl, rfl⟩
      go_wp2_with fail
      refine (C.out _).mono ?_
      rintro e w2 ⟨⟨y, b, rfl⟩, b2⟩
      go_wp2_with fail
      refine (RD.out _).mono ?_
      rintro e w3 ⟨rfl, b3⟩
      go_wp2
      go_quiet (fail)
      go_wp2
      go_ret3
      exact ⟨rfl, below_drewN (bstep b2 b3) _⟩
    · rw [if_neg hn]
      go_enter Try.func63, Try.ntmps63
      go_wp2_with fail
      refine (HP.out _).mono ?_
      rintro e w1 ⟨rfl, rfl⟩
      go_wp2_with fail
      refine (C.out _).mono ?_
      rintro e w2 ⟨⟨y, b, rfl⟩, b2⟩
      go_wp2_with fail
      refine (RD.out _).mono ?_
      rintro e w3 ⟨rfl, b3⟩
      go_wp2
      go_quiet (fail)
      go_wp2
      go_ret3
      refine ⟨⟨.iface 83 (.int .i64 n), txt (List.drop D.size s.data.toList), ?_⟩, below_drewN (bstep b2 b3) _⟩
      show Ending.returned (.tuple #[.iface 83 (.int .i64 n), .string (txt (List.drop D.size s.data.toList)), .bool (decide (0 ≤ n))]) = _
      rw [decide_eq_false (by omega)]

theorem results_cell_tmps2 {fn : Func} {p u v : Tmp} {ty : TypeId} (h : fn.results = #[.cell p ty, .tmp u, .tmp v]) (tmps : Array Value) (P : Program) (w : World) :
    (results fn tmps).run P w = ((asAddr (tmps.getD p undef)).run P w).andThen fun a w₁ => ((loadVar ty a).run P w₁).andThen fun x w₂ => .ok (.tuple #[x, tmps.getD u undef, tmps.getD v undef]) w₂ := by
  simp only [results, h]
  simp [Sem.run_bind, Result.andThen]

def fldV (r : Option (FieldL × List UInt8)) : Value := match r with
  | some (p, tail) => .tuple #[.agg (fc p).toArray, .string (txt tail), .bool true]
  | none => .tuple #[.agg (fc z0).toArray, .string ⟨#[]⟩, .bool false]

theorem put4 {W : World} {b : Nat} {t : TypeId} {a0 a1 a2 a3 : Value} (h : W.heap[b]? = some (.cells #[a0, a1, a2, a3] t (0, 0))) (v0 v1 v2 v3 : Value) :
    ((((W.setCell ⟨b, 0, none⟩ v0).setCell ⟨b, 1, none⟩ v1).setCell ⟨b, 2, none⟩ v2).setCell ⟨b, 3, none⟩ v3).heap[b]? = some (.cells #[v0, v1, v2, v3] t (0, 0)) := by
  have h0 := heap_setCell_same W b 0 _ _ v0 h
  have h1 := heap_setCell_same _ b 1 _ _ v1 h0
  have h2 := heap_setCell_same _ b 2 _ _ v2 h1
  have h3 := heap_setCell_same _ b 3 _ _ v3 h2
  rw [h3]
  rfl

theorem box4 {W : World} {b : Nat} {t : TypeId} {a0 a1 a2 a3 : Value} (h : W.heap[b]? = some (.cells #[a0, a1, a2, a3] t (0, 0))) :
    W.cell? ⟨b, 0, none⟩ = some a0 ∧ W.cell? ⟨b, 1, none⟩ = some a1 ∧ W.cell? ⟨b, 2, none⟩ = some a2 ∧ W.cell? ⟨b, 3, none⟩ = some a3 ∧ W.frozen? ⟨b, 0, none⟩ = false ∧ W.frozen? ⟨b, 1, none⟩ = false ∧ W.frozen? ⟨b, 2, none⟩ = false ∧ W.frozen? ⟨b, 3, none⟩ = false :=
  ⟨cell_of_row W b 0 _ _ _ h, cell_of_row W b 1 _ _ _ h, cell_of_row W b 2 _ _ _ h, cell_of_row W b 3 _ _ _ h, frozen_of_row W b 0 _ _ h, frozen_of_row W b 1 _ _ h, frozen_of_row W b 2 _ _ h, frozen_of_row W b 3 _ _ h⟩

theorem below4 {B b : Nat} {W0 W : World} (h : Below B W0 W) (hb : B ≤ b) (v0 v1 v2 v3 : Value) : Below B W0 ((((W.setCell ⟨b, 0, none⟩ v0).setCell ⟨b, 1, none⟩ v1).setCell ⟨b, 2, none⟩ v2).setCell ⟨b, 3, none⟩ v3) :=
  (((h.setCell (p := ⟨b, 0, none⟩) hb _).setCell (p := ⟨b, 1, none⟩) hb _).setCell (p := ⟨b, 2, none⟩) hb _).setCell (p := ⟨b, 3, none⟩) hb _

set_option maxHeartbeats 800000 in
theorem readField_call (s : ByteArray) (hs : s.size ≤ 1048576) (w : World) :
    Calls Try.prog 56 #[.string s] w fun e w' => e = .returned (fldV (rdF s.data.toList)) ∧ Below w.heap.size w w' := by
  obtain ⟨RV, hRV⟩ : ∃ RV, RV = fldV (rdF s.data.toList) := ⟨_, rfl⟩
  have HRV := Lib.hid hRV
  rw [← hRV]
  clear hRV
  obtain ⟨i0, hi, _, hz1, _⟩ := info_parts Try.info32
  have hi8 : (Try.prog.info? 32).map (·.size) = some 4 := by rw [hi]; simp [hz1]
  have Q := Lib.hid (fun wx => readQuoted_call s hs wx)
  have HLD := Lib.hid (fun (wx : World) (g : Nat) (cs : Array Value) (h4 : cs.size = 4) (hg : wx.heap[g]? = some (.cells cs 32 (0, 0))) => run_loadVar_row (P := Try.prog) wx g 32 32 cs (0, 0) _ hg Try.underlying32 rfl (by rw [hi8, h4]))
  have CP := Lib.hid (fun (r : ByteArray) wx => Try.strings_CutPrefix r (txt [58]) wx)
  simp only [txt_toList, cut_head, cut_rest] at CP
  have e58 : txt [58] = ⟨#[58]⟩ := rfl
  rw [e58] at CP
  clear e58 hi8
  cases hq : readQ s.data.toList with
  | none =>
    have HR2 := Lib.hid (show RV = .tuple #[.agg (fc z0).toArray, .string ⟨#[]⟩, .bool false] by rw [HRV.out]; unfold rdF; rw [hq]; rfl)
    rw [hq] at Q
    simp only [quoV] at Q
    have C := Lib.hid (fun wx => CP.out ⟨#[]⟩ wx)
    clear hq CP
    go_enter Try.func56, Try.ntmps56
    go_wp2_with fail
    refine (Q.out _).mono ?_
    rintro e w1 ⟨rfl, b1⟩
    have G1 := (b1.block w.heap.size (by simp)).trans (heap_alloc_new w (.cells #[.string ⟨#[]⟩, .string ⟨#[]⟩, .int .i64 0, .bool false] 32))
    have B1 := bstep ((Below.refl _ w).alloc (Nat.le_refl _) (.cells #[.string ⟨#[]⟩, .string ⟨#[]⟩, .int .i64 0, .bool false] 32)) b1
    go_wp2_with fail
    refine (C.out _).mono ?_
    rintro e wf ⟨rfl, rfl⟩
    have GF := G1
    have BF := B1
    clear G1 B1 b1
    obtain ⟨x0, x1, x2, x3, y0, y1, y2, y3⟩ := box4 GF
    go_wp2
    refine bodyPost_ret (v := .tuple #[.agg #[.string ⟨#[]⟩, .string ⟨#[]⟩, .int .i64 0, .bool false], .string ⟨#[]⟩, .bool false]) ?_ rfl ⟨by rw [HR2.out]; rfl, below4 BF (Nat.le_refl _) _ _ _ _⟩
    rw [results_cell_tmps2 rfl]
    have hfin := HLD.out _ _ _ rfl (put4 GF (.string ⟨#[]⟩) (.string ⟨#[]⟩) (.int .i64 0) (.bool false))
    simp [asAddr, Result.andThen, hfin]
  | some x =>
    obtain ⟨k, rest⟩ := x
    rw [hq] at Q
    simp only [quoV] at Q
    have hrs := readQ_sound _ _ _ hq
    have hlen := congrArg List.length hrs
    rw [data_length, List.length_append] at hlen
    have C := Lib.hid (fun wx => CP.out (txt rest) wx)
    simp only [txt_toList] at C
    by_cases h58 : rest.head? = some 58
    · have HF := Lib.hid (show RV = fldV (rdC k (rest.drop 1)) by rw [HRV.out]; unfold rdF; rw [hq]; simp only; rw [if_pos h58])
      rw [if_pos h58, decide_eq_true h58] at C
      have K := Lib.hid (fun wx => readContent_call (txt (rest.drop 1)) (by rw [txt_size, List.length_drop]; omega) wx)
      simp only [txt_toList] at K
      rw [rdC_key] at HF
      change Hid (∀ wx, Calls Try.prog 54 #[.string (txt rest), .string ⟨#[58]⟩] wx fun e w' => e = .returned (.tuple #[.string (txt (rest.drop 1)), .bool true]) ∧ w' = wx) at C
      generalize rest.drop 1 = c at C K HF
      clear hq CP hrs hlen h58 HRV
      cases hc : rdC [] c with
      | none =>
        rw [hc] at HF K
        simp only at K
        have HR2 := Lib.hid (show RV = .tuple #[.agg (fc z0).toArray, .string ⟨#[]⟩, .bool false] from HF.out)
        clear HF
        go_enter Try.func56, Try.ntmps56
        go_wp2_with fail
        refine (Q.out _).mono ?_
        rintro e w1 ⟨rfl, b1⟩
        have G1 := (b1.block w.heap.size (by simp)).trans (heap_alloc_new w (.cells #[.string ⟨#[]⟩, .string ⟨#[]⟩, .int .i64 0, .bool false] 32))
        have B1 := bstep ((Below.refl _ w).alloc (Nat.le_refl _) (.cells #[.string ⟨#[]⟩, .string ⟨#[]⟩, .int .i64 0, .bool false] 32)) b1
        go_wp2_with fail
        refine (C.out _).mono ?_
        rintro e w2 ⟨rfl, rfl⟩
        go_wp2_with fail
        refine (K.out _).mono ?_
        rintro e wf ⟨⟨hv, hx, rfl⟩, b2⟩
        have GF := (b2.block _ (by have := (Array.getElem?_eq_some_iff.1 G1).1; exact this)).trans G1
        have BF := bstep B1 b2
        clear G1 B1 b1 b2
        obtain ⟨x0, x1, x2, x3, y0, y1, y2, y3⟩ := box4 GF
        go_wp2
        refine bodyPost_ret (v := .tuple #[.agg #[.string ⟨#[]⟩, .string ⟨#[]⟩, .int .i64 0, .bool false], .string ⟨#[]⟩, .bool false]) ?_ rfl ⟨by rw [HR2.out]; rfl, below4 BF (Nat.le_refl _) _ _ _ _⟩
        rw [results_cell_tmps2 rfl]
        have hfin := HLD.out _ _ _ rfl (put4 GF (.string ⟨#[]⟩) (.string ⟨#[]⟩) (.int .i64 0) (.bool false))
        simp [asAddr, Result.andThen, hfin]
      | some y =>
        obtain ⟨p, r⟩ := y
        rw [hc] at HF K
        simp only at K
        have FW := Lib.hid (fun wx => fieldWith_call (k, p.2) wx)
        obtain ⟨pk, pt, pn, pb⟩ := p
        have hag : again (k, pt, pn, pb) = (k, pt, pn, pb) := rdC_again [] c _ _ hc k
        rw [hag] at FW
        have hct : content (k, pt, pn, pb) = content (pk, pt, pn, pb) := rfl
        simp only [hct, fc] at FW
        have HR2 := Lib.hid (show RV = .tuple #[.agg (fc (k, pt, pn, pb)).toArray, .string (txt r), .bool true] from HF.out)
        generalize content (pk, pt, pn, pb) = held at K FW
        clear HF hag hct hc
        go_enter Try.func56, Try.ntmps56
        go_wp2_with fail
        refine (Q.out _).mono ?_
        rintro e w1 ⟨rfl, b1⟩
        have G1 := (b1.block w.heap.size (by simp)).trans (heap_alloc_new w (.cells #[.string ⟨#[]⟩, .string ⟨#[]⟩, .int .i64 0, .bool false] 32))
        have B1 := bstep ((Below.refl _ w).alloc (Nat.le_refl _) (.cells #[.string ⟨#[]⟩, .string ⟨#[]⟩, .int .i64 0, .bool false] 32)) b1
        go_wp2_with fail
        refine (C.out _).mono ?_
        rintro e w2 ⟨rfl, rfl⟩
        go_wp2_with fail
        refine (K.out _).mono ?_
        rintro e w3 ⟨rfl, b2⟩
        have G2 := (b2.block _ (by have := (Array.getElem?_eq_some_iff.1 G1).1; exact this)).trans G1
        have B2 := bstep B1 b2
        clear G1 B1 b1 b2
        go_wp2_with fail
        refine (FW.out _).mono ?_
        rintro e wf ⟨rfl, b3⟩
        have GF := (b3.block _ (by have := (Array.getElem?_eq_some_iff.1 G2).1; exact this)).trans G2
        have BF := bstep B2 b3
        clear G2 B2 b3
        obtain ⟨x0, x1, x2, x3, y0, y1, y2, y3⟩ := box4 GF
        go_wp2
        refine bodyPost_ret (v := .tuple #[.agg #[.string (txt k), .string (txt pt), .int .i64 pn, .bool pb], .string (txt r), .bool true]) ?_ rfl ⟨by rw [HR2.out]; rfl, below4 BF (Nat.le_refl _) _ _ _ _⟩
        rw [results_cell_tmps2 rfl]
        have hfin := HLD.out _ _ _ rfl (put4 GF (.string (txt k)) (.string (txt pt)) (.int .i64 pn) (.bool pb))
        simp [asAddr, Result.andThen, hfin]
    · have HR2 := Lib.hid (show RV = .tuple #[.agg (fc z0).toArray, .string ⟨#[]⟩, .bool false] by rw [HRV.out]; unfold rdF; rw [hq]; simp only; rw [if_neg h58]; rfl)
      rw [if_neg h58, decide_eq_false h58] at C
      change Hid (∀ wx, Calls Try.prog 54 #[.string (txt rest), .string ⟨#[58]⟩] wx fun e w' => e = .returned (.tuple #[.string (txt rest), .bool false]) ∧ w' = wx) at C
      clear hq CP hrs hlen h58 HRV
      go_enter Try.func56, Try.ntmps56
      go_wp2_with fail
      refine (Q.out _).mono ?_
      rintro e w1 ⟨rfl, b1⟩
      have G1 := (b1.block w.heap.size (by simp)).trans (heap_alloc_new w (.cells #[.string ⟨#[]⟩, .string ⟨#[]⟩, .int .i64 0, .bool false] 32))
      have B1 := bstep ((Below.refl _ w).alloc (Nat.le_refl _) (.cells #[.string ⟨#[]⟩, .string ⟨#[]⟩, .int .i64 0, .bool false] 32)) b1
      go_wp2_with fail
      refine (C.out _).mono ?_
      rintro e wf ⟨rfl, rfl⟩
      have GF := G1
      have BF := B1
      clear G1 B1 b1
      obtain ⟨x0, x1, x2, x3, y0, y1, y2, y3⟩ := box4 GF
      go_wp2
      refine bodyPost_ret (v := .tuple #[.agg #[.string ⟨#[]⟩, .string ⟨#[]⟩, .int .i64 0, .bool false], .string ⟨#[]⟩, .bool false]) ?_ rfl ⟨by rw [HR2.out]; rfl, below4 BF (Nat.le_refl _) _ _ _ _⟩
      rw [results_cell_tmps2 rfl]
      have hfin := HLD.out _ _ _ rfl (put4 GF (.string ⟨#[]⟩) (.string ⟨#[]⟩) (.int .i64 0) (.bool false))
      simp [asAddr, Result.andThen, hfin]

end Fld

end Go.Proofs.Ytljifooeokhgeaa
