/- CONTRACT of the program's shaEnd and Sha. -/
import Derived.Test.YtonpalaopnfffaaGreatDoorStepI

namespace Go.Proofs.YtonpalaopnfffaaGreatDoor
set_option linter.unusedVariables false
set_option maxRecDepth 4000
open Go.ChangeShapes Go.WideShapes Go.ChangeAt Go.RowKit
open Go.ChangeMaps (open_string shut_string)
open Sh

theorem cut_list (R : List UInt8) (i j : Nat) (hj : j ≤ R.length) : ((txt R).extract i j).data.toList = (R.drop i).take (j - i) := by
  simp only [txt, ByteArray.data_extract, Array.toList_extract]

theorem cut_txt (R : List UInt8) (i j : Nat) (hj : j ≤ R.length) : (txt R).extract i j = txt ((R.drop i).take (j - i)) := by
  rw [← txt_of ((txt R).extract i j), cut_list R i j hj]

theorem outB_snoc (l : List Nat) (x : Nat) : outB (l ++ [x]) = outB l ++ wB x := by simp [outB]

theorem wpStill_load_of {P : Program} {ops : Array Oper} {rest : List Oper} {w : World} {o : Oper} {a : Act} {Q : Act → Prop} (hgd : o.guard = none) (t : TypeId) (x : Operand) (ho : o.op = .load t x) (p v : Value) (hx : a.eval x = p)
    (h : (Instr.loadAt t p).run P w = .ok v w) (hk : wpStill P ops w Q rest (a.put o.dst v)) : wpStill P ops w Q (o :: rest) a :=
  wpStill_step fun K hK => by
    have hw : Region.wanted o (yielded ops a.tmps) = true := by simp [Region.wanted, hgd]
    rw [if_pos hw]
    unfold Oper.still execOp
    simp only [ho, hx, Sem.run_bind, h, Result.andThen, Sem.run_pure]
    rw [Oper.stillUpon_value]
    exact hK _ hk

set_option maxHeartbeats 3200000 in
theorem end_call (st : St) (hst : okS st) (n : Nat) (hn : n ≤ 64) (hn64 : n % 64 = 0) (s : ByteArray) (hs : s.size ≤ 16777216) (w : World) (hK : W32At w 1 K) :
    Calls Tryz.prog 91 #[aggS st, .int .i64 (n : Int), .string s] w fun e w' => e = .returned (.string (txt (endL st n s.data.toList))) ∧ Below w.heap.size w w' := by
  obtain ⟨l, hl⟩ : ∃ l, l = s.data.toList ++ padL (n + s.data.toList.length) := ⟨_, rfl⟩
  have hdl := data_length s
  have HE := Lib.hid (show endL st n s.data.toList = outB (stL (blkN (l.length / 64) st l)) by rw [hl]; rfl)
  have HL := Lib.hid hl
  have hll : l.length = s.size + (padL (n + s.size)).length := by rw [hl, List.length_append, hdl]
  have hpl := padL_len (n + s.size)
  have HKK := Lib.hid hK
  have PC := Lib.hid (fun wx => padding_call (n + s.size) (by omega) wx)
  simp only [Int.natCast_add] at PC
  have HST := Lib.hid hst
  clear hl hst hK
  rw [hdl] at HL
  have hadd := fun wx => add_txt (P := Tryz.prog) s.data.toList (padL (n + s.size)) (by rw [hdl]; omega) wx
  rw [txt_of, ← HL.out] at hadd
  have hal : (cells32 (stL st)).toArray.size = 8 := rfl
  change Calls Tryz.prog 91 #[.agg (cells32 (stL st)).toArray, .int .i64 (n : Int), .string s] w _
  generalize hag : (cells32 (stL st)).toArray = AS at hal
  have HAG := Lib.hid hag
  clear hag
  go_enter Tryz.func91, Tryz.ntmps91
  go_wp2_with fail
  refine (PC.out _).mono ?_
  rintro e w1 ⟨rfl, b1⟩
  have B1 := ((Below.refl w.heap.size w).alloc (Nat.le_refl _) (.cells AS 143)).trans (b1.mono (by simp))
  have G0 := Lib.hid (show w1.heap[w.heap.size]? = some (.cells AS 143 (0, 0)) from (b1.block _ (by simp)).trans (heap_alloc_new w _))
  have HN := Lib.hid (show l.length = 64 * (l.length / 64) by have := pad_mod (n + s.size); omega)
  clear b1 hpl hll hdl PC
  go_wp2
  go_loopg [7] (l.length / 64) (fun g v wx => ∃ (j : Nat) (S : St), j + g = l.length / 64 ∧ v = .string (txt (l.drop (64 * j))) ∧ Hid (S = blkN j st l) ∧ Hid (okS S) ∧ Hid (wx.heap[w.heap.size]? = some (.cells (cells32 (stL S)).toArray 143 (0, 0))) ∧ Below w.heap.size w wx)
  case atStart => exact ⟨0, st, by omega, by simp, rfl, HST, by rw [HAG.out]; exact G0, B1⟩
  case round =>
    clear G0 B1
    obtain ⟨j, S, hj, rfl, HS, HOK, G0, hbel⟩ := hrel
    cases gk with
    | zero =>
      have hjN : j = l.length / 64 := by omega
      have hd : l.drop (64 * j) = [] := List.drop_eq_nil_of_le (by have := HN.out; omega)
      rw [hd]
      have hemp : txt ([] : List UInt8) = ⟨#[]⟩ := rfl
      rw [hemp]
      have HS2 := Lib.hid (show S = blkN (l.length / 64) st l by rw [HS.out, hjN])
      have HLT := Lib.hid (stL_lt S HOK.out)
      obtain ⟨i0, hi, hz0, hz1, hz2⟩ := info_parts Tryz.info5
      have hmk := make_row (P := Tryz.prog) 34 5 i0 (.int .u8 0) Tryz.underlying34 hi hz0 32 32 (by omega) (by rw [hz2]; omega) (by omega)
      have HLD := Lib.hid (fun wx hg => run_loadAt_row (P := Tryz.prog) wx w.heap.size 143 (cells32 (stL S)).toArray 8 132 hg Tryz.underlying143 size8)
      clear hd hjN hj HS
      go_wp2_with (refine wpList_load_of rfl _ _ rfl _ _ rfl (HLD.out _ ((heap_alloc_old _ _ (heap_lt G0.out)).trans G0.out)) ?_)
      have hbs := hbel.size
      generalize hcs : (cells32 (stL S)).toArray = CS
      have HCS := Lib.hid hcs
      clear hcs
      go_loopg [8, 10, 28] 8 (fun g v _ i wx => ∃ k : Nat, k + g = 8 ∧ i = .int .i64 (k : Int) ∧ wx.ownsRow w.heap.size 5 1 v (outB ((stL S).take k)).length (cells8 (outB ((stL S).take k))) ∧ Below w.heap.size w wx)
      case atStart => exact ⟨0, by omega, rfl, World.ownsRow_made wr _ 32 hbs (by unfold maxLen; omega) (by rw [size_madeCells]), hbel.alloc hbs _⟩
      case round =>
        clear hbel hbs hmk HLD G0
        obtain ⟨k, hk, rfl, hown, hbel⟩ := hrel
        have hbs := hbel.size
        have hst8 : (stL S).length = 8 := rfl
        have hol : (outB ((stL S).take k)).length ≤ 4194304 := by rw [outB_len, List.length_take]; omega
        cases gk with
        | zero =>
          have hk8 : ¬ ((k : Int) < 8) := by omega
          have HF := Lib.hid (show outB ((stL S).take k) = endL st n s.data.toList by rw [HE.out, ← HS2.out, List.take_of_length_le (by omega)])
          rw [HF.out] at hown
          have hcv := bytes_back_own (P := Tryz.prog) wr 34 9 5 w.heap.size u8 _ _ rfl Tryz.underlying34 Tryz.underlying5 Tryz.underlying9 hown
          clear HF hol hown hk
          generalize (endL st n s.data.toList).length = el at hcv
          go_wp2
          go_ret
          exact ⟨rfl, hbel⟩
        | succ gg =>
          have hk8 : k < 8 := by omega
          have hk8i : (k : Int) < 8 := by omega
          obtain ⟨i1, hi1, hy0, hy1, hy2⟩ := info_parts Tryz.info132
          have hix : (cells32 (stL S)).toArray[k]? = some (.int .u32 (((stL S).getD k 0 : Nat) : Int)) := by
            rw [List.getElem?_toArray]; exact cells32_get (stL S) k hk8
          rw [HCS.out] at hix
          have hrix := fun wx => run_index_arr (P := Tryz.prog) wx 143 132 8 i1 _ k _ Tryz.underlying143 hi1 hy1 (by kernel_rfl) (by kernel_rfl) hk8 hix
          have HO := Lib.hid (show outB ((stL S).take k) ++ wB ((stL S).getD k 0) = outB ((stL S).take (k + 1)) by
            rw [List.take_succ_eq_append_getElem (by omega), List.getD_eq_getElem?_getD, List.getElem?_eq_getElem (by omega), outB_snoc]
            rfl)
          have hx := HLT.out k
          clear hix hi1 hy0 hy1 hy2
          have HAW := Lib.hid (fun wx ho hb => appendWord_call w.heap.size u8 (outB ((stL S).take k)) ((stL S).getD k 0) hx wx ho hb hol)
          rw [HO.out] at HAW
          generalize (stL S).getD k 0 = x at hrix HAW
          go_wp2_with fail
          refine (HAW.out _ hown hbs).mono ?_
          rintro e w2 ⟨v2, rfl, hown2, hg2⟩
          go_wp2
          go_roundg gg
          case measure => omega
          case rel => exact ⟨k + 1, by omega, by go_num, hown2, hbel.grown hg2 hbs (fun j e => (hown.lt j e).1)⟩
    | succ gg =>
      have hlj : 64 * (j + 1) ≤ l.length := by have := HN.out; omega
      have hRl : (l.drop (64 * j)).length = l.length - 64 * j := List.length_drop
      have HS2 := Lib.hid (show cmp 1 S (w16 ((l.drop (64 * j)).take 64) 16) = blkN (j + 1) st l by rw [blkN_snoc, HS.out])
      have HD2 := Lib.hid (show (l.drop (64 * j)).drop 64 = l.drop (64 * (j + 1)) by rw [List.drop_drop]; congr 1)
      generalize l.drop (64 * j) = R at hRl HS2 HD2
      have hR64 : 64 ≤ R.length := by omega
      clear hRl
      have hne := not_empty (txt R) (by rw [txt_size]; omega)
      have hb1 : (64 : Int) ≤ ((txt R).size : Int) := by rw [txt_size]; omega
      go_wp2
      refine wp_region_still_tail 3 (by kernel_rfl) (by kernel_rfl) ?_
      simp only [List.take_succ_cons, List.take_zero, List.drop_succ_cons, List.drop_zero]
      change wpStill _ _ wr.drew (fun a' => wpList _ _ _ _ a' wr.drew) _ _
      have G0' := Lib.hid (show wr.drew.heap[w.heap.size]? = some (.cells (cells32 (stL S)).toArray 143 (0, 0)) from G0.out)
      have hbel' : Below w.heap.size w wr.drew := hbel.drew
      generalize wr.drew = wd at G0' hbel' ⊢
      have hld := run_loadAt_row (P := Tryz.prog) wd w.heap.size 143 (cells32 (stL S)).toArray 8 132 G0'.out Tryz.underlying143 size8
      refine wpStill_load_of rfl _ _ rfl _ _ rfl hld ?_
      repeat still_step
      refine wpStill_nil ?_
      have hC := cut_txt R 0 64 hR64
      rw [List.drop_zero] at hC
      have hSC := Lib.hid (fun wx hk => step_call S HOK.out (txt (R.take 64)) (by rw [txt_size, List.length_take]; omega) wx hk)
      rw [txt_toList, HS2.out] at hSC
      simp only [hC]
      go_wp2_with fail
      refine (hSC.out _ (HKK.out.below hbel')).mono ?_
      rintro e w2 ⟨rfl, b2⟩
      have G2 := Lib.hid ((b2.block _ (heap_lt G0'.out)).trans G0'.out)
      have hbel2 := hbel'.trans (b2.mono hbel'.size)
      have HOK2 := Lib.hid (blkN_okS (j + 1) st l HST.out)
      have HAG2 := Lib.hid (show aggS (blkN (j + 1) st l) = .agg (cells32 (stL (blkN (j + 1) st l))).toArray from rfl)
      rw [HAG2.out]
      have HBK := Lib.hid (show blkN (j + 1) st l = blkN (j + 1) st l from rfl)
      have hl1 : (cells32 (stL (blkN (j + 1) st l))).toArray.size = 8 := rfl
      have hst := run_storeAt_row (P := Tryz.prog) w2 w.heap.size 143 (cells32 (stL S)).toArray (cells32 (stL (blkN (j + 1) st l))).toArray G2.out size8 rfl (cells32_one _)
      have hg3 := Lib.hid (setRow_heap w2 w.heap.size (cells32 (stL S)).toArray (cells32 (stL (blkN (j + 1) st l))).toArray _ _ G2.out)
      have hC2 := cut_txt R 64 R.length (Nat.le_refl _)
      have e64 : (R.drop 64).take (R.length - 64) = R.drop 64 := List.take_of_length_le (by rw [List.length_drop]; omega)
      rw [e64, HD2.out] at hC2
      have hsz := txt_size R
      clear hld b2
      go_wp2_with (first | refine wpList_store_of rfl _ _ _ rfl _ _ rfl rfl hst ?_)
      go_roundg gg
      case measure => omega
      case rel => exact ⟨j + 1, blkN (j + 1) st l, by omega, rfl, rfl, HOK2, hg3, below_setRow hbel2 (Nat.le_refl _) _⟩

theorem sha_impl (s : ByteArray) (hs : s.size ≤ 16777216) (w : World) (hK : W32At w 1 K) :
    Calls Tryz.prog 88 #[.string s] w fun e w' => e = .returned (.string (txt (shaL s.data.toList))) ∧ Below w.heap.size w w' := by
  have HE := Lib.hid (fun wx hk => end_call H0 H0_ok 0 (by omega) (by omega) s hs wx hk)
  have HS := Lib.hid (show endL H0 0 s.data.toList = shaL s.data.toList from rfl)
  have HK := Lib.hid hK
  clear hK
  go_enter Tryz.func88, Tryz.ntmps88
  go_wp2_with fail
  refine (start_call _).mono ?_
  rintro e w1 ⟨rfl, b1⟩
  go_wp2_with fail
  refine (HE.out _ (HK.out.below b1)).mono ?_
  rintro e w2 ⟨rfl, b2⟩
  go_wp2
  go_ret
  exact ⟨by rw [HS.out]; rfl, bstep b1 b2⟩

end Go.Proofs.YtonpalaopnfffaaGreatDoor
