/- Whatever request comes in, the law on PutRequest answers true and leaves it as it was; the tables of the library hold what the text lays in them. -/
import Derived.Test.YtljifooeokhgeaaDoorTabH
import Derived.Test.YtljifooeokhgeaaDoorHtO
import Derived.Test.YtljifooeokhgeaaDoorHtMsg
import Derived.Test.YtljifooeokhgeaaDoorPost
namespace Go.Proofs.YtljifooeokhgeaaDoor.fnExactPutRequest
set_option linter.unusedVariables false
set_option maxRecDepth 4000
open Go.ChangeShapes Go.WideShapes Go.ChangeAt Go.RowKit
open Go.ChangeMaps (open_string shut_string)
open Ht

theorem own : ownKnob Tryd.prog.godebug = none := by kernel_rfl
theorem laidOut : laidOutB Tryd.prog = true := by kernel_rfl

set_option maxRecDepth 100000 in
set_option maxHeartbeats 3200000 in
theorem walk (r : ReqL) (vq vh : Value) (w : World) (hq : PAt w vq r.q) (hh : PAt w vh r.h) (hw : Wr r) (hP : Pw w) :
    Calls Tryd.prog 7 #[reqV r vq vh] w fun e w' => e = .returned (.bool true) ∧ Below w.heap.size w w' := by
  have HQ := Lib.hid hq
  have HH := Lib.hid hh
  have HW := Lib.hid hw
  obtain ⟨aq, cq, rfl⟩ := pat_form hq
  obtain ⟨ah, ch, rfl⟩ := pat_form hh
  clear hq hh hw
  have HP := Lib.hid hP
  clear hP
  have SZ := Lib.hid (fun wx h1 h2 => szRequest_call r (.slice aq r.q.length cq) (.slice ah r.h.length ch) wx h1 h2 HW.out)
  have ba := Lib.hid ((Below.refl w.heap.size w).alloc (Nat.le_refl _) (.cells #[.string (txt r.m), .string (txt r.p), .slice aq r.q.length cq, .slice ah r.h.length ch, .string (txt r.b)] 41))
  have g0 := Lib.hid (heap_alloc_new w (.cells #[.string (txt r.m), .string (txt r.p), .slice aq r.q.length cq, .slice ah r.h.length ch, .string (txt r.b)] 41))
  unfold reqV at SZ ⊢
  go_enter Tryd.func7, Tryd.ntmps7
  go_wp2_with fail
  refine (SZ.out _ (HQ.out.below ba.out) (HH.out.below ba.out)).mono ?_
  rintro e w1 ⟨⟨x, rfl, hx⟩, b1⟩
  have c1 := ba.out.trans (b1.mono ba.out.size)
  by_cases hneg : x < 0
  · clear hx
    go_wp2
    go_ret
    exact ⟨rfl, c1⟩
  · have hwt := hx (by omega)
    have hW := HW.out
    have hbig : r.q.length ≤ 2097152 ∧ r.h.length ≤ 2097152 ∧ r.m.length ≤ 1048576 ∧ r.p.length ≤ 1048576 ∧ r.b.length ≤ 1048576 ∧ wtL r.q ≤ 1048576 ∧ wtL r.h ≤ 1048576 := by unfold wtR at hwt; omega
    have hBd : Bd r.h := ⟨hbig.2.1, fun p hp => by have := wt_mem r.h p hp; omega⟩
    have T := Lib.hid (fun wx h1 h2 => toRequest_call r (.slice aq r.q.length cq) (.slice ah r.h.length ch) wx h1 h2 hbig.1 hbig.2.1)
    have E := Lib.hid (fun q1 h1 q2 h2 wx a b c d => eqRequest_call r q1 h1 q2 h2 wx a b c d hbig.1 hbig.2.1)
    have S1 := Lib.hid (fun q1 h1 wx a b => putReq_spec r q1 h1 wx a b hBd (qd_of hbig.1 hbig.2.2.2.2.2.1) hW.2.1 hW.2.2.2.2)
    have I1 := Lib.hid (fun q1 h1 wx a b t => putReq_impl r q1 h1 wx a b hBd (qd_of hbig.1 hbig.2.2.2.2.2.1) hW.2.1 hW.2.2.2.2 t)
    unfold reqV at T E S1 I1
    generalize putReq r = RR at S1 I1
    have eR := txt_beq RR RR
    rw [decide_eq_true rfl] at eR
    clear hx hwt hW hbig hBd
    have k1 := (b1.block w.heap.size (by simp)).trans g0.out
    have K1 := Lib.hid k1
    have n1 : w.heap.size < w1.heap.size := Nat.lt_of_lt_of_le (by simp) b1.size
    obtain ⟨x0, x1, x2, x3, x4, _⟩ := box5 k1
    clear k1
    go_wp2_with fail
    refine (T.out _ (HQ.out.below c1) (HH.out.below c1)).mono ?_
    rintro e w2 ⟨q2, h2, rfl, pq2, ph2, b2⟩
    have c2 := bstep c1 b2
    go_wp2_with fail
    refine (S1.out _ _ _ pq2 ph2).mono ?_
    rintro e w3 ⟨rfl, b3⟩
    have c3 := bstep c2 b3
    clear x0 x1 x2 x3 x4 pq2 ph2
    have k3 := (b3.block w.heap.size (Nat.lt_of_lt_of_le n1 b2.size)).trans ((b2.block w.heap.size n1).trans K1.out)
    have n3 : w.heap.size < w3.heap.size := Nat.lt_of_lt_of_le (Nat.lt_of_lt_of_le n1 b2.size) b3.size
    have K3 := Lib.hid k3
    obtain ⟨x0, x1, x2, x3, x4, _⟩ := box5 k3
    clear k3
    go_wp2_with fail
    refine (T.out _ (HQ.out.below c3) (HH.out.below c3)).mono ?_
    rintro e w4 ⟨q4, h4, rfl, pq4, ph4, b4⟩
    have c4 := bstep c3 b4
    obtain ⟨aq4, cq4, rfl⟩ := pat_form pq4
    obtain ⟨ah4, ch4, rfl⟩ := pat_form ph4
    have d4 := (Below.refl w4.heap.size w4).alloc (Nat.le_refl _) (.cells #[.string (txt r.m), .string (txt r.p), .slice aq4 r.q.length cq4, .slice ah4 r.h.length ch4, .string (txt r.b)] 45)
    have D4 := Lib.hid d4
    have PQ4 := Lib.hid pq4
    have PH4 := Lib.hid ph4
    have G4 := Lib.hid (heap_alloc_new w4 (.cells #[.string (txt r.m), .string (txt r.p), .slice aq4 r.q.length cq4, .slice ah4 r.h.length ch4, .string (txt r.b)] 45))
    clear d4 pq4 ph4
    go_wp2_with fail
    refine (I1.out _ _ _ (PQ4.out.below D4.out) (PH4.out.below D4.out) (pw_below HP.out (c4.trans (D4.out.mono c4.size)))).mono ?_
    rintro e w5 ⟨rfl, b5⟩
    have c5 := (c4.trans (D4.out.mono c4.size)).trans (b5.mono (by have := c4.size; simp; omega))
    clear x0 x1 x2 x3 x4
    have n4 : w.heap.size < w4.heap.size := Nat.lt_of_lt_of_le n3 b4.size
    have k5 := (b5.block w.heap.size (by simp; omega)).trans ((D4.out.block w.heap.size n4).trans ((b4.block w.heap.size n3).trans K3.out))
    have m5 := (b5.block w4.heap.size (by simp)).trans G4.out
    have s5 : w4.heap.size < w5.heap.size := Nat.lt_of_lt_of_le (by simp) b5.size
    have n5 : w.heap.size < w5.heap.size := Nat.lt_trans n4 s5
    have p5 := (PQ4.out.below D4.out).below b5
    have r5 := (PH4.out.below D4.out).below b5
    have P5 := Lib.hid p5
    have R5 := Lib.hid r5
    have C5 := Lib.hid c5
    obtain ⟨x0, x1, x2, x3, x4, _⟩ := box5 k5
    obtain ⟨y0, y1, y2, y3, y4, _⟩ := box5 m5
    clear k5 m5 p5 r5 c5
    go_wp2
    go_region_held3 (fun W => W.cell? ⟨w.heap.size, 0, none⟩ = some (.string (txt r.m)) ∧ W.cell? ⟨w.heap.size, 1, none⟩ = some (.string (txt r.p)) ∧ W.cell? ⟨w.heap.size, 2, none⟩ = some (.slice aq r.q.length cq) ∧ W.cell? ⟨w.heap.size, 3, none⟩ = some (.slice ah r.h.length ch) ∧ W.cell? ⟨w.heap.size, 4, none⟩ = some (.string (txt r.b)) ∧
        W.cell? ⟨w4.heap.size, 0, none⟩ = some (.string (txt r.m)) ∧ W.cell? ⟨w4.heap.size, 1, none⟩ = some (.string (txt r.p)) ∧ W.cell? ⟨w4.heap.size, 2, none⟩ = some (.slice aq4 r.q.length cq4) ∧ W.cell? ⟨w4.heap.size, 3, none⟩ = some (.slice ah4 r.h.length ch4) ∧ W.cell? ⟨w4.heap.size, 4, none⟩ = some (.string (txt r.b)) ∧ Below w5.heap.size w5 W)
      (first
        | exact ⟨x0, x1, x2, x3, x4, y0, y1, y2, y3, y4, (Below.refl _ _).drew⟩
        | (go_split_ands; exact ⟨(b7.cell (p := ⟨w.heap.size, _, none⟩) (Nat.lt_of_lt_of_le n5 (Below.size (by assumption)))).trans (by assumption), (b7.cell (p := ⟨w.heap.size, _, none⟩) (Nat.lt_of_lt_of_le n5 (Below.size (by assumption)))).trans (by assumption), (b7.cell (p := ⟨w.heap.size, _, none⟩) (Nat.lt_of_lt_of_le n5 (Below.size (by assumption)))).trans (by assumption), (b7.cell (p := ⟨w.heap.size, _, none⟩) (Nat.lt_of_lt_of_le n5 (Below.size (by assumption)))).trans (by assumption), (b7.cell (p := ⟨w.heap.size, _, none⟩) (Nat.lt_of_lt_of_le n5 (Below.size (by assumption)))).trans (by assumption),
            (b7.cell (p := ⟨w4.heap.size, _, none⟩) (Nat.lt_of_lt_of_le s5 (Below.size (by assumption)))).trans (by assumption), (b7.cell (p := ⟨w4.heap.size, _, none⟩) (Nat.lt_of_lt_of_le s5 (Below.size (by assumption)))).trans (by assumption), (b7.cell (p := ⟨w4.heap.size, _, none⟩) (Nat.lt_of_lt_of_le s5 (Below.size (by assumption)))).trans (by assumption), (b7.cell (p := ⟨w4.heap.size, _, none⟩) (Nat.lt_of_lt_of_le s5 (Below.size (by assumption)))).trans (by assumption), (b7.cell (p := ⟨w4.heap.size, _, none⟩) (Nat.lt_of_lt_of_le s5 (Below.size (by assumption)))).trans (by assumption), Below.trans (by assumption) (b7.mono (Below.size (by assumption)))⟩)
        | (go_split_ands; exact ⟨(b6.cell (p := ⟨w.heap.size, _, none⟩) (Nat.lt_of_lt_of_le n5 (Below.size (by assumption)))).trans (by assumption), (b6.cell (p := ⟨w.heap.size, _, none⟩) (Nat.lt_of_lt_of_le n5 (Below.size (by assumption)))).trans (by assumption), (b6.cell (p := ⟨w.heap.size, _, none⟩) (Nat.lt_of_lt_of_le n5 (Below.size (by assumption)))).trans (by assumption), (b6.cell (p := ⟨w.heap.size, _, none⟩) (Nat.lt_of_lt_of_le n5 (Below.size (by assumption)))).trans (by assumption), (b6.cell (p := ⟨w.heap.size, _, none⟩) (Nat.lt_of_lt_of_le n5 (Below.size (by assumption)))).trans (by assumption),
            (b6.cell (p := ⟨w4.heap.size, _, none⟩) (Nat.lt_of_lt_of_le s5 (Below.size (by assumption)))).trans (by assumption), (b6.cell (p := ⟨w4.heap.size, _, none⟩) (Nat.lt_of_lt_of_le s5 (Below.size (by assumption)))).trans (by assumption), (b6.cell (p := ⟨w4.heap.size, _, none⟩) (Nat.lt_of_lt_of_le s5 (Below.size (by assumption)))).trans (by assumption), (b6.cell (p := ⟨w4.heap.size, _, none⟩) (Nat.lt_of_lt_of_le s5 (Below.size (by assumption)))).trans (by assumption), (b6.cell (p := ⟨w4.heap.size, _, none⟩) (Nat.lt_of_lt_of_le s5 (Below.size (by assumption)))).trans (by assumption), Below.trans (by assumption) (b6.mono (Below.size (by assumption)))⟩))
      (first
        | (go_simp; go_at_call 24; go_split_ands; refine (T.out _ (HQ.out.below (C5.out.trans (Below.mono (by assumption) C5.out.size))) (HH.out.below (C5.out.trans (Below.mono (by assumption) C5.out.size)))).mono ?_; rintro e w6 ⟨q6, h6, rfl, pq6, ph6, b6⟩)
        | (go_simp; go_at_call 26; go_split_ands; refine (E.out _ _ _ _ _ (P5.out.below (by assumption)) (R5.out.below (by assumption)) pq6 ph6).mono ?_; rintro e w7 ⟨rfl, b7⟩))
    have hfin : Below w5.heap.size w5 w7 := by
      go_split_ands
      assumption
    go_wp2
    go_ret
    exact ⟨rfl, C5.out.trans (hfin.mono C5.out.size)⟩


theorem table {W : World} (h : laidMetH Tryd.prog Rows.fnExactPutRequestRow.laid W) : Lib.TabIs Tryd.prog W "internal/strconv.uint64pow10" .u64 Lib.pow10Tab :=
  pow_of (h.tail.tail)

/-- a world for the witness: the settled one, its tables laid -/
noncomputable def laidWorld (os : Os) : World :=
  { World.holding Tryd.prog os ⟨#[], #[], []⟩ with heap := layFlat (World.holding Tryd.prog os ⟨#[], #[], []⟩).heap [(4, Rows.laid_math_bits_deBruijn32tab), (5, Rows.laid_math_bits_deBruijn64tab), (1, Rows.laid_internal_strconv_uint64pow10), (3, Rows.laid_unicode_utf8_acceptRanges), (2, Rows.laid_unicode_utf8_first)] }
theorem laid_met (os : Os) : laidMet Tryd.prog Rows.fnExactPutRequestRow.laid ((laidWorld os).forCall (fun _ _ => 0) ⟨#[], #[.agg #[.string ByteArray.empty, .string ByteArray.empty, .slice none 0 0, .slice none 0 0, .string ByteArray.empty]], []⟩).memory :=
  laidMet_of_run' 8 (by kernel_rfl) (by kernel_rfl)
theorem reads (os : Os) {H : Type} (enc : TypeId × Value → H) : ∃ places, DataW.whole enc Tryd.prog ((laidWorld os).forCall (fun _ _ => 0) ⟨#[], #[.agg #[.string ByteArray.empty, .string ByteArray.empty, .slice none 0 0, .slice none 0 0, .string ByteArray.empty]], []⟩).memory Tryd.f7.params.toList Rows.fnExactPutRequestSpec.vars false #[.agg #[.string ByteArray.empty, .string ByteArray.empty, .slice none 0 0, .slice none 0 0, .string ByteArray.empty]].toList 8 = some ([.agg [.lit (.string []), .lit (.string []), .nil, .nil, .lit (.string [])]], [], places) :=
  ⟨[], by kernel_rfl⟩

theorem contract (H : Type) (enc : TypeId × Value → H) (W : World) (base : Nat) (args : Array Value) (ds gs : List (DataW H)) (before : List MemPlace)
    (hval : ∀ (j : Nat) t v, Tryd.f7.params[j]? = some t → args[j]? = some v → Value.okWide Tryd.prog W .any base t v)
    (hW : DataW.Whole enc Tryd.prog Tryd.f7.params.toList Rows.fnExactPutRequestSpec.vars false W args.toList ds gs before) (hL : laidMetH Tryd.prog Rows.fnExactPutRequestRow.laid W) (hS : W.ShapedOpen Tryd.prog) :
    Calls Tryd.prog 7 args W fun e W' => ∃ v, e = .returned v ∧ Rows.fnExactPutRequestSpec.post enc Tryd.prog Tryd.f7 false true false false W args v W' := by
  have hW' := hW
  obtain ⟨p, q, hA0, hV, rfl, hfz, hnd⟩ := hW
  have hA : DataW.TrodAll enc Tryd.prog W 0 (fun _ => true) true Tryd.f7.params.toList args.toList ds p := hA0
  rw [Tryd.params7] at hA hval
  obtain ⟨v0, vs0, d0, ds0, p0, q0, hargs, rfl, rfl, h0, r0⟩ := trodAll_cons hA
  obtain ⟨rfl, rfl, rfl⟩ := trodAll_nil r0
  obtain rfl : args = #[v0] := by cases args; simp_all
  obtain ⟨rfl, rfl⟩ := trodVars_none hV
  have hs0 := okWide_struct Tryd.underlying41 (hval 0 41 v0 rfl rfl)
  have k0 := h0
  have lt0 : ∀ x ∈ p0, x.block < W.heap.size := by obtain ⟨m, hm⟩ := k0; exact DataW.trod_lt m _ _ _ hm
  obtain ⟨r, vq, vh, rfl, hq, hh, hw⟩ : ∃ (r : ReqL) (vq vh : Value), v0 = reqV r vq vh ∧ PAt W vq r.q ∧ PAt W vh r.h ∧ Wr r := by
    obtain ⟨fuel, hf⟩ := h0
    exact open_req Tryd.underlying41 (by kernel_rfl) ⟨rfl, rfl, rfl, rfl, rfl⟩ ⟨by kernel_rfl, by kernel_rfl, by kernel_rfl, by kernel_rfl, by kernel_rfl⟩ Tryd.underlying9 Tryd.underlying9 Tryd.underlying39 Tryd.underlying39 Tryd.underlying9
      Tryd.underlying95 (by kernel_rfl) rfl rfl (by kernel_rfl) (by kernel_rfl) Tryd.underlying9 Tryd.underlying9 hs0 hf
  clear hA0
  simp only [List.append_nil] at hW'
  refine (walk r vq vh W hq hh hw (pw_of (table hL))).mono fun e W' ⟨he, hg⟩ => ?_
  subst he
  exact ⟨_, rfl, _, _, _, [], _, [], hW', (trodAll_cons_mk (shut_bool Tryd.underlying4 _) trodAll_mk0), (trodAll_cons_mk (Below.trod laidOut (by kernel_rfl) (of_decide_eq_true (by kernel_rfl)) k0 hg lt0) trodAll_mk0), rfl, hg.frame _, fun h => by cases h⟩

set_option maxRecDepth 100000 in
theorem lifted (os : Os) (started : os.Started) (H : Type) (enc : TypeId × Value → H) (F : Stop.Interp) :
    ReturnsInHanded {} Tryd.checked os 7 .any ((OpenSpec.ofChange Rows.fnExactPutRequestSpec).preRow enc Tryd.prog Tryd.f7 Rows.fnExactPutRequestRow.domain false Rows.fnExactPutRequestRow.laid) (((OpenSpec.ofChange Rows.fnExactPutRequestSpec).at F).post enc Tryd.prog Tryd.f7 false true false false) := by
  obtain ⟨places, hx⟩ := reads os enc
  refine returnsInHanded_of_row (C := Tryd.checked) (s := OpenSpec.ofChange Rows.fnExactPutRequestSpec) own started (by kernel_rfl) Tryd.func7
    (witness_row_at (enc := enc) (C := Tryd.checked) false (laidWorld os) #[.agg #[.string ByteArray.empty, .string ByteArray.empty, .slice none 0 0, .slice none 0 0, .string ByteArray.empty]] rfl (by kernel_rfl) (by kernel_rfl) (by kernel_rfl)
      (OpenSpec.preRow_of_cond 8 hx (by kernel_rfl) (fun k hk => by cases hk) (by kernel_rfl) (laid_met os))) ?_
  intro W base args ds gs before hval hW _ _ _ hL hS _
  exact contract H enc W base args ds gs before hval hW hL hS

theorem said : Rows.FnExactPutRequestSaid :=
  OpenClaim.holds_of_cond 7 Tryd.f7 rfl rfl rfl rfl rfl rfl rfl ⟨rfl, rfl, rfl, rfl, rfl⟩ rfl rfl rfl rfl rfl (by kernel_rfl) Tryd.func7 (by kernel_rfl)
    (of_decide_eq_true (by kernel_rfl)) (by unfold Func.isWrapper; first | (rw [if_pos (by decide +kernel)]; kernel_rfl) | (rw [if_neg (by decide +kernel)]; exact ⟨rfl, rfl⟩))
    (fun os started H enc _ F => by rw [OpenClaim.pre_eq_preRow]; exact lifted os started H enc F)

theorem plain (f : FuncId) (fn : Func) (hf : Tryd.pinned.checked.prog.funcNamed "loop.example/g00716/laws.FnExactPutRequest" = some f) (hfn : Tryd.pinned.checked.prog.funcs[f]? = some fn) :
    false = Tryd.pinned.checked.prog.looks [] ∧ ∀ (j : Nat) t, fn.params[j]? = some t → Tryd.pinned.checked.prog.wantsStandIn t = false := by
  obtain rfl : f = 7 := Option.some.inj ((show Tryd.prog.funcNamed "loop.example/g00716/laws.FnExactPutRequest" = some 7 by kernel_rfl).symm.trans hf) |>.symm
  obtain rfl : fn = Tryd.f7 := (Option.some.inj (Tryd.func7.symm.trans hfn)).symm
  refine ⟨by kernel_rfl, fun j t ht => ?_⟩
  rw [Tryd.params7] at ht
  have ht2 := Array.mem_of_getElem? ht
  have hts : t = 41 := by simpa using ht2
  subst hts
  exact (show Tryd.prog.wantsStandIn 41 = false by kernel_rfl)

theorem card : Rows.FnExactPutRequestCardSaid :=
  Claim7.holds_tied_plain_at .later [] _ _ _ _ said (fun _ h => by cases h) (by kernel_rfl) (fun _ h => by cases h) fnExactPutRequest_row_tie rfl ⟨rfl, rfl⟩ (by kernel_rfl) rfl plain (by kernel_rfl)

end Go.Proofs.YtljifooeokhgeaaDoor.fnExactPutRequest
