/- CONTRACTS: the program's readSealing, liveKeyOf, unseal. -/
import Derived.Test.YtonpalaopnfffaaGreatDoorSlO
import Derived.Test.YtonpalaopnfffaaGreatDoorShelf
namespace Go.Proofs.YtonpalaopnfffaaGreatDoor
set_option linter.unusedVariables false
set_option maxRecDepth 4000
open Go.ChangeShapes Go.WideShapes Go.ChangeAt Go.RowKit

namespace Sl
open Ht Ck Ky Mk

theorem seal_info : (Tryz.prog.info? 76).map (·.size) = some 3 := by kernel_rfl

theorem results_ct {fn : Func} {p u : Tmp} {ty : TypeId} (h : fn.results = #[.cell p ty, .tmp u]) (tmps : Array Value) (P : Program) (w : World) :
    (results fn tmps).run P w = ((asAddr (tmps.getD p undef)).run P w).andThen fun a w₁ => ((loadVar ty a).run P w₁).andThen fun x w₂ => .ok (.tuple #[x, tmps.getD u undef]) w₂ := by
  simp only [results, h]
  simp [Sem.run_bind, Result.andThen]

/-- a refusal with its code -/
def errV (n : Int) : Value := .iface 60 (.int .i64 n)

def readV : Option (Int × List UInt8 × List UInt8) → Value
  | some (id, t, m) => .tuple #[.agg #[.int .i64 id, .string (txt t), .string (txt m)], .nilIface]
  | none => .tuple #[.agg #[.int .i64 0, .string ⟨#[]⟩, .string ⟨#[]⟩], errV 1]

theorem cut_yes (r : List UInt8) : Lib.trimPrefix (116 :: r) [116] = r ∧ Lib.hasPrefix (116 :: r) [116] = true := by
  have h : Lib.hasPrefix (116 :: r) [116] = true := by simp [Lib.hasPrefix, List.isPrefixOf]
  exact ⟨by unfold Lib.trimPrefix; rw [if_pos h]; rfl, h⟩

theorem cut_no {p : List UInt8} (h : ¬ p.head? = some 116) : Lib.trimPrefix p [116] = p ∧ Lib.hasPrefix p [116] = false := by
  have h2 : Lib.hasPrefix p [116] = false := by
    cases p with
    | nil => rfl
    | cons x r =>
      have hx : ¬ x = 116 := fun e => h (by rw [e]; rfl)
      simp [Lib.hasPrefix, List.isPrefixOf]
      exact fun e => hx e.symm
  exact ⟨by unfold Lib.trimPrefix; rw [h2]; rfl, h2⟩

set_option maxHeartbeats 6400000 in
theorem readSealing_call (s : List UInt8) (w : World) (hs : s.length ≤ 1048576) :
    Calls Tryz.prog 57 #[.string (txt s)] w fun e w' => e = .returned (readV (readS s)) ∧ Below w.heap.size w w' := by
  have BA := Lib.hid ((Below.refl w.heap.size w).alloc (Nat.le_refl _) (.cells #[.int .i64 0, .string ⟨#[]⟩, .string ⟨#[]⟩] 76))
  have G0 := Lib.hid (heap_alloc_new w (.cells #[.int .i64 0, .string ⟨#[]⟩, .string ⟨#[]⟩] 76))
  have SP := Lib.hid (fun wx => split_impl_l s 46 wx hs)
  have HPL := Lib.hid (fun x (hx : x ∈ splitL 46 s) => Nat.le_trans (splitL_part 46 s x hx) hs)
  by_cases h3 : (splitL 46 s).length = 3
  · obtain ⟨p0, p1, p2, hp⟩ := three_of h3
    rw [hp] at SP HPL
    have l0 := HPL.out p0 (by simp)
    have l1 := HPL.out p1 (by simp)
    have HRD := Lib.hid (read_three hp)
    have U := Lib.hid (fun wx => unb64_impl (txt p1) wx (by rw [txt_size]; exact l1))
    rw [txt_toList] at U
    clear h3 hp
    by_cases hx : p0.head? = some 116
    · have hp0 := head_cons hx
      have HP0 := Lib.hid (show (p0.drop 1).length ≤ 1048576 by simp; omega)
      generalize p0.drop 1 = r at HRD hp0 HP0
      subst hp0
      have CP := Lib.hid (fun wx => Tryz.strings_CutPrefix (txt (116 :: r)) (txt [116]) wx)
      rw [txt_toList, txt_toList, (cut_yes r).1, (cut_yes r).2] at CP
      have RD := Lib.hid (fun wx => readdec_impl (txt r) wx (by rw [txt_size]; exact HP0.out))
      rw [txt_toList] at RD
      have rng := rd_range r
      by_cases hid : 0 ≤ rdV r
      · have HRD2 := Lib.hid (show readS s = _ from HRD.out.trans (if_pos ⟨hx, hid⟩))
        have e1 : ¬ ((rdV r) < 0) := by omega
        clear hid rng HRD hx
        generalize rdV r = id at RD e1 HRD2
        cases hu : unb64 p1 with
        | none =>
          have HR2 := Lib.hid (show readS s = none from HRD2.out.trans (by rw [hu]))
          rw [hu] at U
          unfold unR at U
          clear hu
          go_enter Tryz.func57, Tryz.ntmps57
          go_wp2_with fail
          refine (SP.out _).mono ?_
          rintro e w1 ⟨v1, rfl, o1, b1⟩
          obtain ⟨a1, cap1, rfl⟩ := Grid.own_val o1
          obtain ⟨g, rfl, hg1, hg2⟩ := Grid.own_at o1 (by simp)
          have r0 := o1.cellAt 0 (by simp)
          have r1 := o1.cellAt 1 (by simp)
          have r2 := o1.cellAt 2 (by simp)
          simp only [strs, List.map_cons, List.map_nil, List.getElem?_cons_zero, List.getElem?_cons_succ] at r0 r1 r2
          have R1 := Lib.hid r1
          have R2 := Lib.hid r2
          go_wp2_with fail
          refine (CP.out _).mono ?_
          rintro e w2 ⟨rfl, rfl⟩
          go_wp2_with fail
          refine (RD.out _).mono ?_
          rintro e w3 ⟨rfl, b3⟩
          have q1 := (b3.cell (p := ⟨g, 1, none⟩) hg2).trans R1.out
          go_wp2_with fail
          refine (U.out _).mono ?_
          rintro e w4 ⟨rfl, b4⟩
          have q2 := ((bstep b3 b4).cell (p := ⟨g, 2, none⟩) hg2).trans R2.out
          have B4 := bstep b1 (bstep b3 b4)
          have kb := (B4.block w.heap.size (by simp)).trans G0.out
          obtain ⟨y0, y1, y2, f0, f1, f2⟩ := box3 kb
          have LD := Lib.hid (run_loadVar_row (P := Tryz.prog) _ w.heap.size 76 76 _ (0, 0) _ (set3_same kb (.int .i64 0) (.string ⟨#[]⟩) (.string ⟨#[]⟩)) Tryz.underlying76 rfl (by rw [seal_info]; rfl))
          have CE := Lib.hid (set3_below (b := w.heap.size) (bstep BA.out B4) (Nat.le_refl _) (.int .i64 0) (.string ⟨#[]⟩) (.string ⟨#[]⟩))
          clear kb
          unfold set3 at LD CE
          go_wp2
          refine bodyPost_ret (v := .tuple #[.agg #[.int .i64 0, .string ⟨#[]⟩, .string ⟨#[]⟩], errV 1]) ?_ rfl ⟨by rw [HR2.out]; rfl, CE.out⟩
          rw [results_ct rfl]
          have hld := LD.out
          simp [asAddr, Result.andThen, hld]
          all_goals rfl
        | some t =>
          rw [hu] at HRD2 U
          unfold unR at U
          have zt := txt_size t
          clear hu
          by_cases ht : t.length ≤ 300
          · have HR2 := Lib.hid (show readS s = some (id, t, p2) from HRD2.out.trans (if_pos ht))
            have e4 : ¬ ((300 : Int) < (t.length : Int)) := by omega
            clear ht HRD2
            go_enter Tryz.func57, Tryz.ntmps57
            go_wp2_with fail
            refine (SP.out _).mono ?_
            rintro e w1 ⟨v1, rfl, o1, b1⟩
            obtain ⟨a1, cap1, rfl⟩ := Grid.own_val o1
            obtain ⟨g, rfl, hg1, hg2⟩ := Grid.own_at o1 (by simp)
            have r0 := o1.cellAt 0 (by simp)
            have r1 := o1.cellAt 1 (by simp)
            have r2 := o1.cellAt 2 (by simp)
            simp only [strs, List.map_cons, List.map_nil, List.getElem?_cons_zero, List.getElem?_cons_succ] at r0 r1 r2
            have R1 := Lib.hid r1
            have R2 := Lib.hid r2
            go_wp2_with fail
            refine (CP.out _).mono ?_
            rintro e w2 ⟨rfl, rfl⟩
            go_wp2_with fail
            refine (RD.out _).mono ?_
            rintro e w3 ⟨rfl, b3⟩
            have q1 := (b3.cell (p := ⟨g, 1, none⟩) hg2).trans R1.out
            go_wp2_with fail
            refine (U.out _).mono ?_
            rintro e w4 ⟨rfl, b4⟩
            have q2 := ((bstep b3 b4).cell (p := ⟨g, 2, none⟩) hg2).trans R2.out
            have B4 := bstep b1 (bstep b3 b4)
            have kb := (B4.block w.heap.size (by simp)).trans G0.out
            obtain ⟨y0, y1, y2, f0, f1, f2⟩ := box3 kb
            have LD := Lib.hid (run_loadVar_row (P := Tryz.prog) _ w.heap.size 76 76 _ (0, 0) _ (set3_same kb (.int .i64 id) (.string (txt t)) (.string (txt p2))) Tryz.underlying76 rfl (by rw [seal_info]; rfl))
            have CE := Lib.hid (set3_below (b := w.heap.size) (bstep BA.out B4) (Nat.le_refl _) (.int .i64 id) (.string (txt t)) (.string (txt p2)))
            clear kb
            unfold set3 at LD CE
            go_wp2
            refine bodyPost_ret (v := .tuple #[.agg #[.int .i64 id, .string (txt t), .string (txt p2)], .nilIface]) ?_ rfl ⟨by rw [HR2.out]; rfl, CE.out⟩
            rw [results_ct rfl]
            have hld := LD.out
            simp [asAddr, Result.andThen, hld]
            all_goals rfl
          · have HR2 := Lib.hid (show readS s = none from HRD2.out.trans (if_neg ht))
            have e4 : (300 : Int) < (t.length : Int) := by omega
            clear ht HRD2
            go_enter Tryz.func57, Tryz.ntmps57
            go_wp2_with fail
            refine (SP.out _).mono ?_
            rintro e w1 ⟨v1, rfl, o1, b1⟩
            obtain ⟨a1, cap1, rfl⟩ := Grid.own_val o1
            obtain ⟨g, rfl, hg1, hg2⟩ := Grid.own_at o1 (by simp)
            have r0 := o1.cellAt 0 (by simp)
            have r1 := o1.cellAt 1 (by simp)
            have r2 := o1.cellAt 2 (by simp)
            simp only [strs, List.map_cons, List.map_nil, List.getElem?_cons_zero, List.getElem?_cons_succ] at r0 r1 r2
            have R1 := Lib.hid r1
            have R2 := Lib.hid r2
            go_wp2_with fail
            refine (CP.out _).mono ?_
            rintro e w2 ⟨rfl, rfl⟩
            go_wp2_with fail
            refine (RD.out _).mono ?_
            rintro e w3 ⟨rfl, b3⟩
            have q1 := (b3.cell (p := ⟨g, 1, none⟩) hg2).trans R1.out
            go_wp2_with fail
            refine (U.out _).mono ?_
            rintro e w4 ⟨rfl, b4⟩
            have q2 := ((bstep b3 b4).cell (p := ⟨g, 2, none⟩) hg2).trans R2.out
            have B4 := bstep b1 (bstep b3 b4)
            have kb := (B4.block w.heap.size (by simp)).trans G0.out
            obtain ⟨y0, y1, y2, f0, f1, f2⟩ := box3 kb
            have LD := Lib.hid (run_loadVar_row (P := Tryz.prog) _ w.heap.size 76 76 _ (0, 0) _ (set3_same kb (.int .i64 0) (.string ⟨#[]⟩) (.string ⟨#[]⟩)) Tryz.underlying76 rfl (by rw [seal_info]; rfl))
            have CE := Lib.hid (set3_below (b := w.heap.size) (bstep BA.out B4) (Nat.le_refl _) (.int .i64 0) (.string ⟨#[]⟩) (.string ⟨#[]⟩))
            clear kb
            unfold set3 at LD CE
            go_wp2
            refine bodyPost_ret (v := .tuple #[.agg #[.int .i64 0, .string ⟨#[]⟩, .string ⟨#[]⟩], errV 1]) ?_ rfl ⟨by rw [HR2.out]; rfl, CE.out⟩
            rw [results_ct rfl]
            have hld := LD.out
            simp [asAddr, Result.andThen, hld]
            all_goals rfl
      · have HR2 := Lib.hid (show readS s = none from HRD.out.trans (if_neg (fun h => hid h.2)))
        have e1 : (rdV r) < 0 := by omega
        clear hid HRD hx
        generalize rdV r = id at RD e1
        generalize unb64 p1 = ub at U
        obtain ⟨ut, ub2, hub⟩ : ∃ ut ub2, unR ub = .tuple #[.string ut, .bool ub2] := by cases ub <;> exact ⟨_, _, rfl⟩
        rw [hub] at U
        clear hub
        go_enter Tryz.func57, Tryz.ntmps57
        go_wp2_with fail
        refine (SP.out _).mono ?_
        rintro e w1 ⟨v1, rfl, o1, b1⟩
        obtain ⟨a1, cap1, rfl⟩ := Grid.own_val o1
        obtain ⟨g, rfl, hg1, hg2⟩ := Grid.own_at o1 (by simp)
        have r0 := o1.cellAt 0 (by simp)
        have r1 := o1.cellAt 1 (by simp)
        have r2 := o1.cellAt 2 (by simp)
        simp only [strs, List.map_cons, List.map_nil, List.getElem?_cons_zero, List.getElem?_cons_succ] at r0 r1 r2
        have R1 := Lib.hid r1
        have R2 := Lib.hid r2
        go_wp2_with fail
        refine (CP.out _).mono ?_
        rintro e w2 ⟨rfl, rfl⟩
        go_wp2_with fail
        refine (RD.out _).mono ?_
        rintro e w3 ⟨rfl, b3⟩
        have q1 := (b3.cell (p := ⟨g, 1, none⟩) hg2).trans R1.out
        go_wp2_with fail
        refine (U.out _).mono ?_
        rintro e w4 ⟨rfl, b4⟩
        have q2 := ((bstep b3 b4).cell (p := ⟨g, 2, none⟩) hg2).trans R2.out
        have B4 := bstep b1 (bstep b3 b4)
        have kb := (B4.block w.heap.size (by simp)).trans G0.out
        obtain ⟨y0, y1, y2, f0, f1, f2⟩ := box3 kb
        have LD := Lib.hid (run_loadVar_row (P := Tryz.prog) _ w.heap.size 76 76 _ (0, 0) _ (set3_same kb (.int .i64 0) (.string ⟨#[]⟩) (.string ⟨#[]⟩)) Tryz.underlying76 rfl (by rw [seal_info]; rfl))
        have CE := Lib.hid (set3_below (b := w.heap.size) (bstep BA.out B4) (Nat.le_refl _) (.int .i64 0) (.string ⟨#[]⟩) (.string ⟨#[]⟩))
        clear kb
        unfold set3 at LD CE
        go_wp2
        refine bodyPost_ret (v := .tuple #[.agg #[.int .i64 0, .string ⟨#[]⟩, .string ⟨#[]⟩], errV 1]) ?_ rfl ⟨by rw [HR2.out]; rfl, CE.out⟩
        rw [results_ct rfl]
        have hld := LD.out
        simp [asAddr, Result.andThen, hld]
        all_goals rfl
    · have HR2 := Lib.hid (show readS s = none from HRD.out.trans (if_neg (fun h => hx h.1)))
      have CP := Lib.hid (fun wx => Tryz.strings_CutPrefix (txt p0) (txt [116]) wx)
      rw [txt_toList, txt_toList, (cut_no hx).1, (cut_no hx).2] at CP
      have RD := Lib.hid (fun wx => readdec_impl (txt p0) wx (by rw [txt_size]; exact l0))
      rw [txt_toList] at RD
      clear hx HRD
      generalize rdV p0 = id at RD
      generalize unb64 p1 = ub at U
      obtain ⟨ut, ub2, hub⟩ : ∃ ut ub2, unR ub = .tuple #[.string ut, .bool ub2] := by cases ub <;> exact ⟨_, _, rfl⟩
      rw [hub] at U
      clear hub
      go_enter Tryz.func57, Tryz.ntmps57
      go_wp2_with fail
      refine (SP.out _).mono ?_
      rintro e w1 ⟨v1, rfl, o1, b1⟩
      obtain ⟨a1, cap1, rfl⟩ := Grid.own_val o1
      obtain ⟨g, rfl, hg1, hg2⟩ := Grid.own_at o1 (by simp)
      have r0 := o1.cellAt 0 (by simp)
      have r1 := o1.cellAt 1 (by simp)
      have r2 := o1.cellAt 2 (by simp)
      simp only [strs, List.map_cons, List.map_nil, List.getElem?_cons_zero, List.getElem?_cons_succ] at r0 r1 r2
      have R1 := Lib.hid r1
      have R2 := Lib.hid r2
      go_wp2_with fail
      refine (CP.out _).mono ?_
      rintro e w2 ⟨rfl, rfl⟩
      go_wp2_with fail
      refine (RD.out _).mono ?_
      rintro e w3 ⟨rfl, b3⟩
      have q1 := (b3.cell (p := ⟨g, 1, none⟩) hg2).trans R1.out
      go_wp2_with fail
      refine (U.out _).mono ?_
      rintro e w4 ⟨rfl, b4⟩
      have q2 := ((bstep b3 b4).cell (p := ⟨g, 2, none⟩) hg2).trans R2.out
      have B4 := bstep b1 (bstep b3 b4)
      have kb := (B4.block w.heap.size (by simp)).trans G0.out
      obtain ⟨y0, y1, y2, f0, f1, f2⟩ := box3 kb
      have LD := Lib.hid (run_loadVar_row (P := Tryz.prog) _ w.heap.size 76 76 _ (0, 0) _ (set3_same kb (.int .i64 0) (.string ⟨#[]⟩) (.string ⟨#[]⟩)) Tryz.underlying76 rfl (by rw [seal_info]; rfl))
      have CE := Lib.hid (set3_below (b := w.heap.size) (bstep BA.out B4) (Nat.le_refl _) (.int .i64 0) (.string ⟨#[]⟩) (.string ⟨#[]⟩))
      clear kb
      unfold set3 at LD CE
      go_wp2
      refine bodyPost_ret (v := .tuple #[.agg #[.int .i64 0, .string ⟨#[]⟩, .string ⟨#[]⟩], errV 1]) ?_ rfl ⟨by rw [HR2.out]; rfl, CE.out⟩
      rw [results_ct rfl]
      have hld := LD.out
      simp [asAddr, Result.andThen, hld]
      all_goals rfl
  · have HR2 := Lib.hid (show readS s = none from read_len h3)
    have e3 : ((((splitL 46 s).length : Nat) : Int) != 3) = true := by simpa using fun e => h3 (by exact_mod_cast e)
    generalize (splitL 46 s).length = n at SP e3
    clear h3
    go_enter Tryz.func57, Tryz.ntmps57
    go_wp2_with fail
    refine (SP.out _).mono ?_
    rintro e w1 ⟨v1, rfl, o1, b1⟩
    obtain ⟨a1, cap1, rfl⟩ := Grid.own_val o1
    have kb := (b1.block w.heap.size (by simp)).trans G0.out
    obtain ⟨y0, y1, y2, f0, f1, f2⟩ := box3 kb
    have LD := Lib.hid (run_loadVar_row (P := Tryz.prog) _ w.heap.size 76 76 _ (0, 0) _ (set3_same kb (.int .i64 0) (.string ⟨#[]⟩) (.string ⟨#[]⟩)) Tryz.underlying76 rfl (by rw [seal_info]; rfl))
    have CE := Lib.hid (set3_below (b := w.heap.size) (bstep BA.out b1) (Nat.le_refl _) (.int .i64 0) (.string ⟨#[]⟩) (.string ⟨#[]⟩))
    clear kb
    unfold set3 at LD CE
    go_wp2
    refine bodyPost_ret (v := .tuple #[.agg #[.int .i64 0, .string ⟨#[]⟩, .string ⟨#[]⟩], errV 1]) ?_ rfl ⟨by rw [HR2.out]; rfl, CE.out⟩
    rw [results_ct rfl]
    have hld := LD.out
    simp [asAddr, Result.andThen, hld]
    all_goals rfl

noncomputable def foundK (l : List KeyL) (id now : Int) : Option KeyL := if ringR l then l.find? (fun c => decide (c.i = id) && liveB now c) else none

def keyV : Option KeyL → Value
  | some c => .tuple #[V c, .nilIface]
  | none => .tuple #[V zeroL, errV 2]

def set4 (W : World) (b : Nat) (v0 v1 v2 v3 : Value) : World := (((W.setCell ⟨b, 0, none⟩ v0).setCell ⟨b, 1, none⟩ v1).setCell ⟨b, 2, none⟩ v2).setCell ⟨b, 3, none⟩ v3

theorem set4_same {W : World} {b : Nat} {t : TypeId} {a0 a1 a2 a3 : Value} (h : W.heap[b]? = some (.cells #[a0, a1, a2, a3] t (0, 0))) (v0 v1 v2 v3 : Value) :
    (set4 W b v0 v1 v2 v3).heap[b]? = some (.cells #[v0, v1, v2, v3] t (0, 0)) := by
  have h0 := heap_setCell_same W b 0 _ _ v0 h
  have h1 := heap_setCell_same _ b 1 _ _ v1 h0
  have h2 := heap_setCell_same _ b 2 _ _ v2 h1
  have h3 := heap_setCell_same _ b 3 _ _ v3 h2
  unfold set4
  rw [h3]
  rfl

theorem set4_below {B b : Nat} {W0 W : World} (h : Below B W0 W) (hb : B ≤ b) (v0 v1 v2 v3 : Value) : Below B W0 (set4 W b v0 v1 v2 v3) :=
  (((h.setCell (p := ⟨b, 0, none⟩) hb _).setCell (p := ⟨b, 1, none⟩) hb _).setCell (p := ⟨b, 2, none⟩) hb _).setCell (p := ⟨b, 3, none⟩) hb _

theorem box4F {W : World} {b : Nat} {t : TypeId} {a0 a1 a2 a3 : Value} (h : W.heap[b]? = some (.cells #[a0, a1, a2, a3] t (0, 0))) :
    W.cell? ⟨b, 0, none⟩ = some a0 ∧ W.cell? ⟨b, 1, none⟩ = some a1 ∧ W.cell? ⟨b, 2, none⟩ = some a2 ∧ W.cell? ⟨b, 3, none⟩ = some a3 ∧ W.frozen? ⟨b, 0, none⟩ = false ∧ W.frozen? ⟨b, 1, none⟩ = false ∧ W.frozen? ⟨b, 2, none⟩ = false ∧ W.frozen? ⟨b, 3, none⟩ = false :=
  ⟨cell_of_row W b 0 _ _ _ h, cell_of_row W b 1 _ _ _ h, cell_of_row W b 2 _ _ _ h, cell_of_row W b 3 _ _ _ h, frozen_of_row W b 0 _ _ h, frozen_of_row W b 1 _ _ h, frozen_of_row W b 2 _ _ h, frozen_of_row W b 3 _ _ h⟩

set_option maxHeartbeats 6400000 in
theorem liveKeyOf_call (v : Value) (l : List KeyL) (id now : Int) (w : World) (h : At w v l) (hn : l.length ≤ 1048576) (hS : ∀ c ∈ l, Sm c) :
    Calls Tryz.prog 58 #[.agg #[v], .int .i64 id, .int .i64 now] w fun e w' => e = .returned (keyV (foundK l id now)) ∧ Below w.heap.size w w' := by
  obtain ⟨a, cap, rfl⟩ := h.form
  have hba := ((Below.refl w.heap.size w).alloc (Nat.le_refl _) (.cells #[.slice a l.length cap] 30)).alloc (by simp) (.cells #[.int .i64 0, .string ⟨#[]⟩, .int .i64 0, .int .i64 0] 39)
  have g0 := (Below.heap_alloc (w.alloc (.cells #[.slice a l.length cap] 30)) (.cells #[.int .i64 0, .string ⟨#[]⟩, .int .i64 0, .int .i64 0] 39) w.heap.size (by simp)).trans (heap_alloc_new w (.cells #[.slice a l.length cap] 30))
  have g1 := heap_alloc_new (w.alloc (.cells #[.slice a l.length cap] 30)) (.cells #[.int .i64 0, .string ⟨#[]⟩, .int .i64 0, .int .i64 0] 39)
  rw [show (w.alloc (.cells #[.slice a l.length cap] 30)).heap.size = w.heap.size + 1 by simp] at g1
  have SZ := Lib.hid (show ((w.alloc (.cells #[.slice a l.length cap] 30)).alloc (.cells #[.int .i64 0, .string ⟨#[]⟩, .int .i64 0, .int .i64 0] 39)).heap.size = w.heap.size + 1 + 1 by simp)
  have HJ := Lib.hid (Grid.GAt.below h hba)
  have BA := Lib.hid hba
  have G0 := Lib.hid g0
  have G1 := Lib.hid g1
  clear hba g0 g1 h
  have RO := Lib.hid (fun wx hx => ringOk_impl (.slice a l.length cap) l wx hx (by omega) hS)
  cases hr : ringR l with
  | false =>
    rw [hr] at RO
    have HR2 := Lib.hid (show foundK l id now = none by unfold foundK; rw [hr]; rfl)
    clear hr
    go_enter Tryz.func58, Tryz.ntmps58
    go_wp2_with fail
    refine (RO.out _ HJ.out).mono ?_
    rintro e w1 ⟨rfl, b1⟩
    have kb := (b1.block (w.heap.size + 1) (by rw [SZ.out]; omega)).trans G1.out
    obtain ⟨t0, t1, t2, t3, f0, f1, f2, f3⟩ := box4F kb
    have LD := Lib.hid (run_loadVar_row (P := Tryz.prog) _ (w.heap.size + 1) 39 39 _ (0, 0) _ (set4_same kb (.int .i64 0) (.string ⟨#[]⟩) (.int .i64 0) (.int .i64 0)) Tryz.underlying39 rfl (by rw [info1]; rfl))
    have CE := Lib.hid (set4_below (b := w.heap.size + 1) (bstep BA.out b1) (by omega) (.int .i64 0) (.string ⟨#[]⟩) (.int .i64 0) (.int .i64 0))
    clear kb
    unfold set4 at LD CE
    go_wp2
    refine bodyPost_ret (v := .tuple #[.agg #[.int .i64 0, .string ⟨#[]⟩, .int .i64 0, .int .i64 0], errV 2]) ?_ rfl ⟨by rw [HR2.out]; rfl, CE.out⟩
    rw [results_ct rfl]
    have hld := LD.out
    simp [asAddr, Result.andThen, hld]
    all_goals rfl
  | true =>
    rw [hr] at RO
    have HFD := Lib.hid (show foundK l id now = l.find? (fun c => decide (c.i = id) && liveB now c) by unfold foundK; rw [hr]; rfl)
    clear hr
    go_enter Tryz.func58, Tryz.ntmps58
    go_wp2_with fail
    refine (RO.out _ HJ.out).mono ?_
    rintro e w1 ⟨rfl, b1⟩
    obtain ⟨x0, _⟩ := box1 ((b1.block w.heap.size (by rw [SZ.out]; omega)).trans G0.out)
    have J1 := Lib.hid (Grid.GAt.below HJ.out b1)
    have B1 := Lib.hid b1
    clear b1
    go_wp2
    go_loopw [15] (fun i wr => ∃ k : Nat, k ≤ l.length ∧ i = .int .i64 k ∧ Hid (∀ j (hj : j < l.length), j < k → (decide (l[j].i = id) && liveB now l[j]) = false) ∧ Below w1.heap.size w1 wr) (fun i _ => l.length - (intOf i).toNat)
    case atStart => exact ⟨0, by omega, rfl, Lib.hid (fun j hj h0 => by omega), Below.refl _ _⟩
    case round =>
      obtain ⟨k, hk, rfl, hno, hbel⟩ := hrel
      by_cases hlt : k < l.length
      · have hi0 : (0 : Int) ≤ (k : Int) := by omega
        have hi1 : (k : Int) < (l.length : Int) := by omega
        obtain ⟨g, off, rfl, hg, c0, c1, c2, c3⟩ := At.cells (Grid.GAt.below J1.out hbel) k hlt
        have HFA := Lib.hid (fun h => find_at (q := fun c => decide (c.i = id) && liveB now c) k hlt hno.out h)
        have HNX := Lib.hid (fun (h : (decide (l[k].i = id) && liveB now l[k]) = false) => (show ∀ j (hj : j < l.length), j < k + 1 → (decide (l[j].i = id) && liveB now l[j]) = false from fun j hj hjk => by
          by_cases h2 : j = k
          · subst h2; exact h
          · exact hno.out j hj (by omega)))
        generalize l[k] = p at c0 c1 c2 c3 HFA HNX
        have dK := (Below.refl wr.heap.size wr).alloc (Nat.le_refl _) (.cells #[.int .i64 p.i, .string (txt p.s), .int .i64 p.f, .int .i64 p.t] 39)
        have HB5 := Lib.hid (hbel.trans (dK.mono hbel.size))
        have LV := Lib.hid (fun wx => live_call p now wx)
        unfold V at LV
        have gK := Lib.hid (heap_alloc_new wr (.cells #[.int .i64 p.i, .string (txt p.s), .int .i64 p.f, .int .i64 p.t] 39))
        clear dK hbel
        by_cases hid : p.i = id
        · have hne : (p.i == id) = true := by simpa using hid
          cases hlv : liveB now p with
          | false =>
            have HNO2 := Lib.hid (HNX.out (by rw [hlv]; simp))
            rw [hlv] at LV
            clear hid hlv
            go_wp2_with fail
            refine (LV.out _).mono ?_
            rintro e w5 ⟨rfl, b5⟩
            have HB6 := HB5.out.trans (b5.mono HB5.out.size)
            go_wp2
            go_roundw
            case rel => exact ⟨k + 1, by omega, by go_num, HNO2, HB6⟩
            case measure => simp [intOf]; omega
          | true =>
            have HF5 := Lib.hid (HFA.out (by rw [hlv, decide_eq_true hid]; rfl))
            have HR2 := Lib.hid (HFD.out.trans HF5.out)
            rw [hlv] at LV
            clear hid hlv
            go_wp2_with fail
            refine (LV.out _).mono ?_
            rintro e w5 ⟨rfl, b5⟩
            have HB6 := bstep B1.out (HB5.out.trans (b5.mono HB5.out.size))
            obtain ⟨y0, y1, y2, y3⟩ := box4K ((b5.block wr.heap.size (by simp)).trans gK.out)
            have kb := (HB6.block (w.heap.size + 1) (by rw [SZ.out]; omega)).trans G1.out
            obtain ⟨t0, t1, t2, t3, f0, f1, f2, f3⟩ := box4F kb
            have LD := Lib.hid (run_loadVar_row (P := Tryz.prog) _ (w.heap.size + 1) 39 39 _ (0, 0) _ (set4_same kb (.int .i64 p.i) (.string (txt p.s)) (.int .i64 p.f) (.int .i64 p.t)) Tryz.underlying39 rfl (by rw [info1]; rfl))
            have CE := Lib.hid (set4_below (b := w.heap.size + 1) (bstep BA.out HB6) (by omega) (.int .i64 p.i) (.string (txt p.s)) (.int .i64 p.f) (.int .i64 p.t))
            clear kb
            unfold set4 at LD CE
            go_wp2
            refine bodyPost_ret (v := .tuple #[.agg #[.int .i64 p.i, .string (txt p.s), .int .i64 p.f, .int .i64 p.t], .nilIface]) ?_ rfl ⟨by rw [HR2.out]; rfl, CE.out⟩
            rw [results_ct rfl]
            have hld := LD.out
            simp [asAddr, Result.andThen, hld]
            all_goals rfl
        · have hne : (p.i == id) = false := by simpa using hid
          have HNO2 := Lib.hid (HNX.out (by rw [decide_eq_false hid]; rfl))
          clear hid
          go_wp2
          go_roundw
          case rel => exact ⟨k + 1, by omega, by go_num, HNO2, HB5.out⟩
          case measure => simp [intOf]; omega
      · have hi1 : ¬ (k : Int) < (l.length : Int) := by omega
        have HR2 := Lib.hid (HFD.out.trans (find_none (fun j hj => hno.out j hj (by omega))))
        have HB6 := bstep B1.out hbel
        clear hno
        have kb := (HB6.block (w.heap.size + 1) (by rw [SZ.out]; omega)).trans G1.out
        obtain ⟨t0, t1, t2, t3, f0, f1, f2, f3⟩ := box4F kb
        have LD := Lib.hid (run_loadVar_row (P := Tryz.prog) _ (w.heap.size + 1) 39 39 _ (0, 0) _ (set4_same kb (.int .i64 0) (.string ⟨#[]⟩) (.int .i64 0) (.int .i64 0)) Tryz.underlying39 rfl (by rw [info1]; rfl))
        have CE := Lib.hid (set4_below (b := w.heap.size + 1) (bstep BA.out HB6) (by omega) (.int .i64 0) (.string ⟨#[]⟩) (.int .i64 0) (.int .i64 0))
        clear kb
        unfold set4 at LD CE
        go_wp2
        refine bodyPost_ret (v := .tuple #[.agg #[.int .i64 0, .string ⟨#[]⟩, .int .i64 0, .int .i64 0], errV 2]) ?_ rfl ⟨by rw [HR2.out]; rfl, CE.out⟩
        rw [results_ct rfl]
        have hld := LD.out
        simp [asAddr, Result.andThen, hld]
        all_goals rfl

end Sl
end Go.Proofs.YtonpalaopnfffaaGreatDoor
