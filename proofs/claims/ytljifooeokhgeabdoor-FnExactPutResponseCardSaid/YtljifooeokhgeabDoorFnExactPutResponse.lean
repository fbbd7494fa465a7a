/- Whatever answer comes in, the law on PutResponse answers true and leaves it as it was; the tables of the library hold what the text lays in them. -/
import Derived.Test.YtljifooeokhgeabDoorTabH
import Derived.Test.YtljifooeokhgeabDoorHtO
import Derived.Test.YtljifooeokhgeabDoorHtMsg
import Derived.Test.YtljifooeokhgeabDoorPost
namespace Go.Proofs.YtljifooeokhgeabDoor.fnExactPutResponse
set_option linter.unusedVariables false
set_option maxRecDepth 4000
open Go.ChangeShapes Go.WideShapes Go.ChangeAt Go.RowKit
open Go.ChangeMaps (open_string shut_string)
open Ht

theorem own : ownKnob Tryd.prog.godebug = none := by kernel_rfl
theorem laidOut : laidOutB Tryd.prog = true := by kernel_rfl

set_option maxRecDepth 100000 in
set_option maxHeartbeats 3200000 in
theorem walk (r : RespL) (vh : Value) (w : World) (hh : PAt w vh r.h) (hw : Wa r) (hP : Pw w) :
    Calls Tryd.prog 3 #[respV r vh] w fun e w' => e = .returned (.bool true) ∧ Below w.heap.size w w' := by
  have HH := Lib.hid hh
  have HW := Lib.hid hw
  obtain ⟨ah, ch, rfl⟩ := pat_form hh
  clear hh hw
  have HP := Lib.hid hP
  clear hP
  have SZ := Lib.hid (fun wx h2 => szResponse_call r (.slice ah r.h.length ch) wx h2 HW.out)
  have ba := Lib.hid ((Below.refl w.heap.size w).alloc (Nat.le_refl _) (.cells #[.int .i64 r.c, .slice ah r.h.length ch, .string (txt r.b)] 24))
  have g0 := Lib.hid (heap_alloc_new w (.cells #[.int .i64 r.c, .slice ah r.h.length ch, .string (txt r.b)] 24))
  unfold respV at SZ ⊢
  go_enter Tryd.func3, Tryd.ntmps3
  go_wp2_with fail
  refine (SZ.out _ (HH.out.below ba.out)).mono ?_
  rintro e w1 ⟨⟨x, rfl, hx⟩, b1⟩
  have c1 := ba.out.trans (b1.mono ba.out.size)
  by_cases hneg : x < 0
  · clear hx
    go_wp2
    go_ret
    exact ⟨rfl, c1⟩
  · have hwt := hx (by omega)
    have hW := HW.out
    have hbig : r.h.length ≤ 2097152 ∧ r.b.length ≤ 1048576 ∧ wtL r.h ≤ 1048576 := by omega
    have hBd : Bd r.h := ⟨hbig.1, fun p hp => by have := wt_mem r.h p hp; omega⟩
    have T := Lib.hid (fun wx h2 => toResponse_call r (.slice ah r.h.length ch) wx h2 hbig.1)
    have E := Lib.hid (fun h1 h2 wx b d => eqResponse_call r h1 h2 wx b d hbig.1)
    have S1 := Lib.hid (fun h1 wx b => putResp_spec r h1 wx b hBd hW.2)
    have I1 := Lib.hid (fun h1 wx b t => putResp_impl r h1 wx b hBd hW.2 t)
    unfold respV at T E S1 I1
    generalize putResp r = RR at S1 I1
    have eR := txt_beq RR RR
    rw [decide_eq_true rfl] at eR
    clear hx hwt hW hbig hBd
    have k1 := (b1.block w.heap.size (by simp)).trans g0.out
    have K1 := Lib.hid k1
    have n1 : w.heap.size < w1.heap.size := Nat.lt_of_lt_of_le (by simp) b1.size
    obtain ⟨x0, x1, x2, _⟩ := box3 k1
    clear k1
    go_wp2_with fail
    refine (T.out _ (HH.out.below c1)).mono ?_
    rintro e w2 ⟨h2, rfl, ph2, b2⟩
    have c2 := bstep c1 b2
    go_wp2_with fail
    refine (S1.out _ _ ph2).mono ?_
    rintro e w3 ⟨rfl, b3⟩
    have c3 := bstep c2 b3
    clear x0 x1 x2 ph2
    have k3 := (b3.block w.heap.size (Nat.lt_of_lt_of_le n1 b2.size)).trans ((b2.block w.heap.size n1).trans K1.out)
    have n3 : w.heap.size < w3.heap.size := Nat.lt_of_lt_of_le (Nat.lt_of_lt_of_le n1 b2.size) b3.size
    have K3 := Lib.hid k3
    obtain ⟨x0, x1, x2, _⟩ := box3 k3
    clear k3
    go_wp2_with fail
    refine (T.out _ (HH.out.below c3)).mono ?_
    rintro e w4 ⟨h4, rfl, ph4, b4⟩
    have c4 := bstep c3 b4
    obtain ⟨ah4, ch4, rfl⟩ := pat_form ph4
    have D4 := Lib.hid ((Below.refl w4.heap.size w4).alloc (Nat.le_refl _) (.cells #[.int .i64 r.c, .slice ah4 r.h.length ch4, .string (txt r.b)] 29))
    have PH4 := Lib.hid ph4
    have G4 := Lib.hid (heap_alloc_new w4 (.cells #[.int .i64 r.c, .slice ah4 r.h.length ch4, .string (txt r.b)] 29))
    clear ph4
    go_wp2_with fail
    refine (I1.out _ _ (PH4.out.below D4.out) (pw_below HP.out (c4.trans (D4.out.mono c4.size)))).mono ?_
    rintro e w5 ⟨rfl, b5⟩
    have c5 := (c4.trans (D4.out.mono c4.size)).trans (b5.mono (by have := c4.size; simp; omega))
    clear x0 x1 x2
    have n4 : w.heap.size < w4.heap.size := Nat.lt_of_lt_of_le n3 b4.size
    have k5 := (b5.block w.heap.size (by simp; omega)).trans ((D4.out.block w.heap.size n4).trans ((b4.block w.heap.size n3).trans K3.out))
    have m5 := (b5.block w4.heap.size (by simp)).trans G4.out
    have s5 : w4.heap.size < w5.heap.size := Nat.lt_of_lt_of_le (by simp) b5.size
    have n5 : w.heap.size < w5.heap.size := Nat.lt_trans n4 s5
    have R5 := Lib.hid ((PH4.out.below D4.out).below b5)
    have C5 := Lib.hid c5
    obtain ⟨x0, x1, x2, _⟩ := box3 k5
    obtain ⟨y0, y1, y2, _⟩ := box3 m5
    clear k5 m5 c5
    go_wp2
    go_region_held3 (fun W => W.cell? ⟨w.heap.size, 0, none⟩ = some (.int .i64 r.c) ∧ W.cell? ⟨w.heap.size, 1, none⟩ = some (.slice ah r.h.length ch) ∧ W.cell? ⟨w.heap.size, 2, none⟩ = some (.string (txt r.b)) ∧
        W.cell? ⟨w4.heap.size, 0, none⟩ = some (.int .i64 r.c) ∧ W.cell? ⟨w4.heap.size, 1, none⟩ = some (.slice ah4 r.h.length ch4) ∧ W.cell? ⟨w4.heap.size, 2, none⟩ = some (.string (txt r.b)) ∧ Below w5.heap.size w5 W)
      (first
        | exact ⟨x0, x1, x2, y0, y1, y2, (Below.refl _ _).drew⟩
        | (go_split_ands; exact ⟨(b7.cell (p := ⟨w.heap.size, _, none⟩) (Nat.lt_of_lt_of_le n5 (Below.size (by assumption)))).trans (by assumption), (b7.cell (p := ⟨w.heap.size, _, none⟩) (Nat.lt_of_lt_of_le n5 (Below.size (by assumption)))).trans (by assumption), (b7.cell (p := ⟨w.heap.size, _, none⟩) (Nat.lt_of_lt_of_le n5 (Below.size (by assumption)))).trans (by assumption), (b7.cell (p := ⟨w4.heap.size, _, none⟩) (Nat.lt_of_lt_of_le s5 (Below.size (by assumption)))).trans (by assumption), (b7.cell (p := ⟨w4.heap.size, _, none⟩) (Nat.lt_of_lt_of_le s5 (Below.size (by assumption)))).trans (by assumption), (b7.cell (p := ⟨w4.heap.size, _, none⟩) (Nat.lt_of_lt_of_le s5 (Below.size (by assumption)))).trans (by assumption), Below.trans (by assumption) (b7.mono (Below.size (by assumption)))⟩)
        | (go_split_ands; exact ⟨(b6.cell (p := ⟨w.heap.size, _, none⟩) (Nat.lt_of_lt_of_le n5 (Below.size (by assumption)))).trans (by assumption), (b6.cell (p := ⟨w.heap.size, _, none⟩) (Nat.lt_of_lt_of_le n5 (Below.size (by assumption)))).trans (by assumption), (b6.cell (p := ⟨w.heap.size, _, none⟩) (Nat.lt_of_lt_of_le n5 (Below.size (by assumption)))).trans (by assumption), (b6.cell (p := ⟨w4.heap.size, _, none⟩) (Nat.lt_of_lt_of_le s5 (Below.size (by assumption)))).trans (by assumption), (b6.cell (p := ⟨w4.heap.size, _, none⟩) (Nat.lt_of_lt_of_le s5 (Below.size (by assumption)))).trans (by assumption), (b6.cell (p := ⟨w4.heap.size, _, none⟩) (Nat.lt_of_lt_of_le s5 (Below.size (by assumption)))).trans (by assumption), Below.trans (by assumption) (b6.mono (Below.size (by assumption)))⟩))
      (first
        | (go_simp; go_at_call 7; go_split_ands; refine (T.out _ (HH.out.below (C5.out.trans (Below.mono (by assumption) C5.out.size)))).mono ?_; rintro e w6 ⟨h6, rfl, ph6, b6⟩)
        | (go_simp; go_at_call 9; go_split_ands; refine (E.out _ _ _ (R5.out.below (by assumption)) ph6).mono ?_; rintro e w7 ⟨rfl, b7⟩))
    have hfin : Below w5.heap.size w5 w7 := by
      go_split_ands
      assumption
    go_wp2
    go_ret
    exact ⟨rfl, C5.out.trans (hfin.mono C5.out.size)⟩


theorem table {W : World} (h : laidMetH Tryd.prog Rows.fnExactPutResponseRow.laid W) : Lib.TabIs Tryd.prog W "internal/strconv.uint64pow10" .u64 Lib.pow10Tab :=
  pow_of (h.tail.tail)

/-- a world for the witness: the settled one, its tables laid -/
noncomputable def laidWorld (os : Os) : World :=
  { World.holding Tryd.prog os ⟨#[], #[], []⟩ with heap := layFlat (World.holding Tryd.prog os ⟨#[], #[], []⟩).heap [(4, Rows.laid_math_bits_deBruijn32tab), (5, Rows.laid_math_bits_deBruijn64tab), (1, Rows.laid_internal_strconv_uint64pow10), (3, Rows.laid_unicode_utf8_acceptRanges), (2, Rows.laid_unicode_utf8_first)] }
theorem laid_met (os : Os) : laidMet Tryd.prog Rows.fnExactPutResponseRow.laid ((laidWorld os).forCall (fun _ _ => 0) ⟨#[], #[.agg #[.int .i64 0, .slice none 0 0, .string ByteArray.empty]], []⟩).memory :=
  laidMet_of_run' 8 (by kernel_rfl) (by kernel_rfl)
theorem reads (os : Os) {H : Type} (enc : TypeId × Value → H) : ∃ places, DataW.whole enc Tryd.prog ((laidWorld os).forCall (fun _ _ => 0) ⟨#[], #[.agg #[.int .i64 0, .slice none 0 0, .string ByteArray.empty]], []⟩).memory Tryd.f3.params.toList Rows.fnExactPutResponseSpec.vars false #[.agg #[.int .i64 0, .slice none 0 0, .string ByteArray.empty]].toList 8 = some ([.agg [.lit (.int .i64 0), .nil, .lit (.string [])]], [], places) :=
  ⟨[], by kernel_rfl⟩

theorem contract (H : Type) (enc : TypeId × Value → H) (W : World) (base : Nat) (args : Array Value) (ds gs : List (DataW H)) (before : List MemPlace)
    (hval : ∀ (j : Nat) t v, Tryd.f3.params[j]? = some t → args[j]? = some v → Value.okWide Tryd.prog W .any base t v)
    (hW : DataW.Whole enc Tryd.prog Tryd.f3.params.toList Rows.fnExactPutResponseSpec.vars false W args.toList ds gs before) (hL : laidMetH Tryd.prog Rows.fnExactPutResponseRow.laid W) (hS : W.ShapedOpen Tryd.prog) :
    Calls Tryd.prog 3 args W fun e W' => ∃ v, e = .returned v ∧ Rows.fnExactPutResponseSpec.post enc Tryd.prog Tryd.f3 false true false false W args v W' := by
  have hW' := hW
  obtain ⟨p, q, hA0, hV, rfl, hfz, hnd⟩ := hW
  have hA : DataW.TrodAll enc Tryd.prog W 0 (fun _ => true) true Tryd.f3.params.toList args.toList ds p := hA0
  rw [Tryd.params3] at hA hval
  obtain ⟨v0, vs0, d0, ds0, p0, q0, hargs, rfl, rfl, h0, r0⟩ := trodAll_cons hA
  obtain ⟨rfl, rfl, rfl⟩ := trodAll_nil r0
  obtain rfl : args = #[v0] := by cases args; simp_all
  obtain ⟨rfl, rfl⟩ := trodVars_none hV
  have hs0 := okWide_struct Tryd.underlying24 (hval 0 24 v0 rfl rfl)
  have k0 := h0
  have lt0 : ∀ x ∈ p0, x.block < W.heap.size := by obtain ⟨m, hm⟩ := k0; exact DataW.trod_lt m _ _ _ hm
  obtain ⟨r, vh, rfl, hh, hw⟩ : ∃ (r : RespL) (vh : Value), v0 = respV r vh ∧ PAt W vh r.h ∧ Wa r := by
    obtain ⟨fuel, hf⟩ := h0
    exact open_resp Tryd.underlying24 (by kernel_rfl) ⟨rfl, rfl, rfl⟩ ⟨by kernel_rfl, by kernel_rfl, by kernel_rfl⟩ Tryd.underlying3 Tryd.underlying22 Tryd.underlying9
      Tryd.underlying56 (by kernel_rfl) rfl rfl (by kernel_rfl) (by kernel_rfl) Tryd.underlying9 Tryd.underlying9 hs0 hf
  clear hA0
  simp only [List.append_nil] at hW'
  refine (walk r vh W hh hw (pw_of (table hL))).mono fun e W' ⟨he, hg⟩ => ?_
  subst he
  exact ⟨_, rfl, _, _, _, [], _, [], hW', (trodAll_cons_mk (shut_bool Tryd.underlying4 _) trodAll_mk0), (trodAll_cons_mk (Below.trod laidOut (by kernel_rfl) (of_decide_eq_true (by kernel_rfl)) k0 hg lt0) trodAll_mk0), rfl, hg.frame _, fun h => by cases h⟩

set_option maxRecDepth 100000 in
theorem lifted (os : Os) (started : os.Started) (H : Type) (enc : TypeId × Value → H) (F : Stop.Interp) :
    ReturnsInHanded {} Tryd.checked os 3 .any ((OpenSpec.ofChange Rows.fnExactPutResponseSpec).preRow enc Tryd.prog Tryd.f3 Rows.fnExactPutResponseRow.domain false Rows.fnExactPutResponseRow.laid) (((OpenSpec.ofChange Rows.fnExactPutResponseSpec).at F).post enc Tryd.prog Tryd.f3 false true false false) := by
  obtain ⟨places, hx⟩ := reads os enc
  refine returnsInHanded_of_row (C := Tryd.checked) (s := OpenSpec.ofChange Rows.fnExactPutResponseSpec) own started (by kernel_rfl) Tryd.func3
    (witness_row_at (enc := enc) (C := Tryd.checked) false (laidWorld os) #[.agg #[.int .i64 0, .slice none 0 0, .string ByteArray.empty]] rfl (by kernel_rfl) (by kernel_rfl) (by kernel_rfl)
      (OpenSpec.preRow_of_cond 8 hx (by kernel_rfl) (fun k hk => by cases hk) (by kernel_rfl) (laid_met os))) ?_
  intro W base args ds gs before hval hW _ _ _ hL hS _
  exact contract H enc W base args ds gs before hval hW hL hS

theorem said : Rows.FnExactPutResponseSaid :=
  OpenClaim.holds_of_cond 3 Tryd.f3 rfl rfl rfl rfl rfl rfl rfl ⟨rfl, rfl, rfl, rfl, rfl⟩ rfl rfl rfl rfl rfl (by kernel_rfl) Tryd.func3 (by kernel_rfl)
    (of_decide_eq_true (by kernel_rfl)) (by unfold Func.isWrapper; first | (rw [if_pos (by decide +kernel)]; kernel_rfl) | (rw [if_neg (by decide +kernel)]; exact ⟨rfl, rfl⟩))
    (fun os started H enc _ F => by rw [OpenClaim.pre_eq_preRow]; exact lifted os started H enc F)

theorem plain (f : FuncId) (fn : Func) (hf : Tryd.pinned.checked.prog.funcNamed "loop.example/g00716/laws.FnExactPutResponse" = some f) (hfn : Tryd.pinned.checked.prog.funcs[f]? = some fn) :
    false = Tryd.pinned.checked.prog.looks [] ∧ ∀ (j : Nat) t, fn.params[j]? = some t → Tryd.pinned.checked.prog.wantsStandIn t = false := by
  obtain rfl : f = 3 := Option.some.inj ((show Tryd.prog.funcNamed "loop.example/g00716/laws.FnExactPutResponse" = some 3 by kernel_rfl).symm.trans hf) |>.symm
  obtain rfl : fn = Tryd.f3 := (Option.some.inj (Tryd.func3.symm.trans hfn)).symm
  refine ⟨by kernel_rfl, fun j t ht => ?_⟩
  rw [Tryd.params3] at ht
  have ht2 := Array.mem_of_getElem? ht
  have hts : t = 24 := by simpa using ht2
  subst hts
  exact (show Tryd.prog.wantsStandIn 24 = false by kernel_rfl)

theorem card : Rows.FnExactPutResponseCardSaid :=
  Claim7.holds_tied_plain_at .later [] _ _ _ _ said (fun _ h => by cases h) (by kernel_rfl) (fun _ h => by cases h) fnExactPutResponse_row_tie rfl ⟨rfl, rfl⟩ (by kernel_rfl) rfl plain (by kernel_rfl)

end Go.Proofs.YtljifooeokhgeabDoor.fnExactPutResponse
