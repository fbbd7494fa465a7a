/- Whatever bytes come in, the law FnResponse answers true and leaves them as they were; the tables hold what the text lays in them. -/
import Derived.Test.YtfnignlfelambaaDoorTabH
import Derived.Test.YtfnignlfelambaaDoorHtF
import Derived.Test.YtfnignlfelambaaDoorHtRI
import Derived.Test.YtfnignlfelambaaDoorHtMsg
import Derived.Test.YtfnignlfelambaaDoorPost
namespace Go.Proofs.YtfnignlfelambaaDoor.fnResponse
set_option linter.unusedVariables false
set_option maxRecDepth 4000
open Go.ChangeShapes Go.WideShapes Go.ChangeAt Go.RowKit
open Go.ChangeMaps (open_string shut_string)
open Ht

theorem own : ownKnob Tryd.prog.godebug = none := by kernel_rfl
theorem laidOut : laidOutB Tryd.prog = true := by kernel_rfl

set_option maxRecDepth 100000 in
set_option maxHeartbeats 3200000 in
theorem walk (av : Option Addr) (n c : Nat) (w : World) (hcode : CodeIs w w.heap.size av n) (hm : HM w) (hP : Pw w) :
    Calls Tryd.prog 3 #[.slice av n c] w fun e w' => e = .returned (.bool true) ∧ Below w.heap.size w w' := by
  by_cases hn : n ≤ 1048576
  · have hnb : decide (1048576 < n) = false := by simp; omega
    go_enter Tryd.func3, Tryd.ntmps3
    go_wp2_with fail
    refine (big_call av n c _).mono ?_
    rintro e w0 ⟨rfl, rfl⟩
    rw [hnb]
    go_wp2_with fail
    refine (drawPutResp_call w0.heap.size av n c _ hcode hn (Nat.le_refl _)).mono ?_
    rintro e w1 ⟨r, vh, hS, rfl, ph1, b1⟩
    have hBd := bd_smallA hS
    have hbb := hS.2.2
    have hh3 := hS.1
    have hpl := putResp_len r hS
    have HMM := Lib.hid hm
    have HPW := Lib.hid hP
    have PO := Lib.hid (fun vh wx hx hy => putResp_impl r vh wx hx hBd (by omega) hy)
    have PS := Lib.hid (fun vh wx hx => putResp_spec r vh wx hx hBd (by omega))
    have RO := Lib.hid (fun vh wx hx => respOk_impl r vh wx hx hBd (by omega))
    have RS := Lib.hid (fun vh wx hx => respOk_spec r vh wx hx hBd (by omega))
    have SA := Lib.hid (fun v1 v2 wx h1 h2 => sameAnswer_call r v1 v2 wx h1 h2 (by omega))
    have GI := Lib.hid (fun wx h h' => getResp_impl (putResp r) wx (by omega) h h')
    have HG := Lib.hid (show (respOk r = true ∧ getResp (putResp r) = some r) ∨ (respOk r = false ∧ getResp (putResp r) = none) by
      cases hq : respOk r with
      | true => exact .inl ⟨rfl, resp_put r hq⟩
      | false => exact .inr ⟨rfl, by unfold putResp; rw [hq]; rfl⟩)
    have eS := txt_beq (putResp r) (putResp r)
    rw [decide_eq_true rfl] at eS
    generalize getResp (putResp r) = G at GI HG
    generalize putResp r = s at hpl PO PS GI eS
    generalize respOk r = K at RO RS HG
    clear hm hP hS hBd hbb
    obtain ⟨rc, rh, rb⟩ := r
    simp only at ph1 hh3
    obtain ⟨ah, ch, rfl⟩ := pat_form ph1
    have PH := Lib.hid ph1
    simp only [respV] at PO PS RO RS SA ⊢
    have D1 := Lib.hid ((Below.refl w1.heap.size w1).alloc (Nat.le_refl _) (.cells #[.int .i64 rc, .slice ah rh.length ch, .string (txt rb)] 26))
    have G1 := Lib.hid (heap_alloc_new w1 (.cells #[.int .i64 rc, .slice ah rh.length ch, .string (txt rb)] 26))
    have S1 := Lib.hid (show (w1.alloc (.cells #[.int .i64 rc, .slice ah rh.length ch, .string (txt rb)] 26)).heap.size = w1.heap.size + 1 by simp)
    have B1 := Lib.hid (b1.trans (D1.out.mono b1.size))
    clear ph1
    go_wp2_with fail
    refine (PO.out _ _ (PH.out.below D1.out) (pw_below HPW.out B1.out)).mono ?_
    rintro e w2 ⟨rfl, b2⟩
    have k2 := (b2.block w1.heap.size (by rw [S1.out]; omega)).trans G1.out
    have n2 : w1.heap.size < w2.heap.size := Nat.lt_of_lt_of_le (by rw [S1.out]; omega) b2.size
    have B2 := Lib.hid (B1.out.trans (b2.mono B1.out.size))
    have PB := Lib.hid ((PH.out.below D1.out).below b2)
    have K2 := Lib.hid k2
    obtain ⟨x0, x1, x2, _⟩ := box3 k2
    clear k2 b2
    go_wp2
    go_region_held3 (fun W => W.cell? ⟨w1.heap.size, 0, none⟩ = some (.int .i64 rc) ∧ W.cell? ⟨w1.heap.size, 1, none⟩ = some (.slice ah rh.length ch) ∧ W.cell? ⟨w1.heap.size, 2, none⟩ = some (.string (txt rb)) ∧ Below w2.heap.size w2 W)
      (first
        | exact ⟨x0, x1, x2, (Below.refl _ _).drew⟩
        | (go_split_ands; exact ⟨(b8.cell (p := ⟨w1.heap.size, 0, none⟩) (Nat.lt_of_lt_of_le n2 (Below.size (by assumption)))).trans (by assumption), (b8.cell (p := ⟨w1.heap.size, 1, none⟩) (Nat.lt_of_lt_of_le n2 (Below.size (by assumption)))).trans (by assumption), (b8.cell (p := ⟨w1.heap.size, 2, none⟩) (Nat.lt_of_lt_of_le n2 (Below.size (by assumption)))).trans (by assumption), Below.trans (by assumption) (b8.mono (Below.size (by assumption)))⟩)
        | (go_split_ands; exact ⟨(b7.cell (p := ⟨w1.heap.size, 0, none⟩) (Nat.lt_of_lt_of_le n2 (Below.size (by assumption)))).trans (by assumption), (b7.cell (p := ⟨w1.heap.size, 1, none⟩) (Nat.lt_of_lt_of_le n2 (Below.size (by assumption)))).trans (by assumption), (b7.cell (p := ⟨w1.heap.size, 2, none⟩) (Nat.lt_of_lt_of_le n2 (Below.size (by assumption)))).trans (by assumption), Below.trans (by assumption) (b7.mono (Below.size (by assumption)))⟩)
        | (go_split_ands; exact ⟨(b6.cell (p := ⟨w1.heap.size, 0, none⟩) (Nat.lt_of_lt_of_le n2 (Below.size (by assumption)))).trans (by assumption), (b6.cell (p := ⟨w1.heap.size, 1, none⟩) (Nat.lt_of_lt_of_le n2 (Below.size (by assumption)))).trans (by assumption), (b6.cell (p := ⟨w1.heap.size, 2, none⟩) (Nat.lt_of_lt_of_le n2 (Below.size (by assumption)))).trans (by assumption), Below.trans (by assumption) (b6.mono (Below.size (by assumption)))⟩))
      (first
        | (go_simp; go_at_call 12; go_split_ands; refine (PS.out _ _ (PB.out.below (by assumption))).mono ?_; rintro e w6 ⟨rfl, b6⟩)
        | (go_simp; go_at_call 13; go_split_ands; refine (RO.out _ _ (PB.out.below (by assumption))).mono ?_; rintro e w7 ⟨rfl, b7⟩)
        | (go_simp; go_at_call 14; go_split_ands; refine (RS.out _ _ (PB.out.below (by assumption))).mono ?_; rintro e w8 ⟨rfl, b8⟩))
    have hfin : Below w2.heap.size w2 w8 := by
      go_split_ands
      assumption
    have B8 := Lib.hid (B2.out.trans (hfin.mono B2.out.size))
    have K8 := Lib.hid ((hfin.block w1.heap.size n2).trans K2.out)
    have PH8 := Lib.hid (PB.out.below hfin)
    have N8 := Lib.hid (Nat.lt_of_lt_of_le n2 hfin.size)
    clear x0 x1 x2
    go_wp2_with fail
    refine (drawHead_call w0.heap.size av n c _ (hcode.below B8.out) hn B8.out.size).mono ?_
    rintro e w9 ⟨L, v9, key, hl9, hL9, hk9, rfl, p9, b9⟩
    have HI := Lib.hid (fun wx hx => head_impl v9 L key wx hx (by omega) (fun p hp => by have := hL9 p hp; omega) (by omega))
    have HSp := Lib.hid (fun wx hx => head_spec v9 L (lowL key) wx hx (by omega) (fun p hp => by have := hL9 p hp; omega) (by rw [show (lowL key).length = key.length by simp [lowL]]; omega))
    rw [headV_low] at HSp
    obtain ⟨hv, hok, hform, _⟩ := unR_form (headV key L)
    rw [hform] at HI HSp
    have LO := Lib.hid (fun wx => lower_spec (txt key) wx (by rw [txt_size]; omega))
    rw [txt_toList] at LO
    have eV := txt_beq hv hv
    rw [decide_eq_true rfl] at eV
    generalize lowL key = lk at HSp LO
    obtain ⟨a9, c9, rfl⟩ := pat_form p9
    have P9 := Lib.hid p9
    have B9 := Lib.hid (bstep B8.out b9)
    have K9 := Lib.hid ((b9.block w1.heap.size N8.out).trans K8.out)
    have PH9 := Lib.hid (PH8.out.below b9)
    have N9 := Lib.hid (Nat.lt_of_lt_of_le N8.out b9.size)
    clear hform hL9 p9 b9
    go_wp2_with fail
    refine (HI.out _ P9.out).mono ?_
    rintro e w10 ⟨rfl, b10⟩
    go_wp2_with fail
    refine (LO.out _).mono ?_
    rintro e w11 ⟨rfl, b11⟩
    have b911 := bstep b10 b11
    go_wp2_with fail
    refine (HSp.out _ (P9.out.below b911)).mono ?_
    rintro e w12 ⟨rfl, b12⟩
    have b912 := bstep b911 b12
    have B12 := Lib.hid (bstep B9.out b912)
    have K12 := Lib.hid ((b912.block w1.heap.size N9.out).trans K9.out)
    have PH12 := Lib.hid (PH9.out.below b912)
    have N12 := Lib.hid (Nat.lt_of_lt_of_le N9.out b912.size)
    clear b10 b11 b12 b911 b912
    rcases HG.out with ⟨rfl, rfl⟩ | ⟨rfl, rfl⟩
    · have GI2 := Lib.hid (fun wx h h' => (GI.out wx h h').mono (fun e w' x => (show (∃ vh, e = .returned (.tuple #[.agg #[.int .i64 rc, vh, .string (txt rb)], .bool true]) ∧ w'.ownsRow wx.heap.size 71 2 vh rh.length (pcells rh)) ∧ Below wx.heap.size wx w' from x)))
      clear GI HG
      go_wp2_with fail
      refine (GI2.out _ (HMM.out.below B12.out) (pw_below HPW.out B12.out)).mono ?_
      rintro e w13 ⟨⟨v13, rfl, o13⟩, b13⟩
      obtain ⟨a13, c13, rfl⟩ := own_val2 o13
      have B13 := bstep B12.out b13
      have dA := (Below.refl w13.heap.size w13).alloc (Nat.le_refl _) (.cells #[.int .i64 rc, .slice a13 rh.length c13, .string (txt rb)] 26)
      have G13 := Lib.hid (heap_alloc_new w13 (.cells #[.int .i64 rc, .slice a13 rh.length c13, .string (txt rb)] 26))
      have S13 := Lib.hid (show (w13.alloc (.cells #[.int .i64 rc, .slice a13 rh.length c13, .string (txt rb)] 26)).heap.size = w13.heap.size + 1 by simp)
      have k13 := (dA.block w1.heap.size (Nat.lt_of_lt_of_le N12.out b13.size)).trans ((b13.block w1.heap.size N12.out).trans K12.out)
      have PHa := Lib.hid ((PH12.out.below b13).below dA)
      have POa := Lib.hid ((PAt.own o13).below dA)
      have Ba := Lib.hid (B13.trans (dA.mono B13.size))
      have K13 := Lib.hid k13
      have N13 := Lib.hid (Nat.lt_of_lt_of_le N12.out b13.size)
      obtain ⟨x0, x1, x2, _⟩ := box3 k13
      clear k13 dA o13 b13 B13
      go_wp2_with fail
      refine (RS.out _ _ PHa.out).mono ?_
      rintro e w14 ⟨rfl, b14⟩
      have k14 := (b14.block w1.heap.size (by rw [S13.out]; have := N13.out; omega)).trans K13.out
      have kb14 := (b14.block w13.heap.size (by rw [S13.out]; omega)).trans G13.out
      have B14 := Ba.out.trans (b14.mono Ba.out.size)
      obtain ⟨y0, y1, y2, _⟩ := box3 k14
      obtain ⟨z0, z1, z2, _⟩ := box3 kb14
      clear x0 x1 x2 k14 kb14
      go_wp2_with fail
      refine (SA.out _ _ _ (POa.out.below b14) (PHa.out.below b14)).mono ?_
      rintro e w15 ⟨rfl, b15⟩
      go_wp2
      go_ret
      exact ⟨rfl, bstep B14 b15⟩
    · have GI2 := Lib.hid (fun wx h h' => (GI.out wx h h').mono (fun e w' x => (show e = .returned (.tuple #[.agg #[.int .i64 0, .slice none 0 0, .string ⟨#[]⟩], .bool false]) ∧ Below wx.heap.size wx w' from x)))
      clear GI HG
      go_wp2_with fail
      refine (GI2.out _ (HMM.out.below B12.out) (pw_below HPW.out B12.out)).mono ?_
      rintro e w13 ⟨rfl, b13⟩
      have B13 := bstep B12.out b13
      have dA := (Below.refl w13.heap.size w13).alloc (Nat.le_refl _) (.cells #[.int .i64 0, .slice none 0 0, .string ⟨#[]⟩] 26)
      have k13 := (dA.block w1.heap.size (Nat.lt_of_lt_of_le N12.out b13.size)).trans ((b13.block w1.heap.size N12.out).trans K12.out)
      have PHa := Lib.hid ((PH12.out.below b13).below dA)
      have Ba := Lib.hid (B13.trans (dA.mono B13.size))
      obtain ⟨x0, x1, x2, _⟩ := box3 k13
      clear k13 dA b13 B13
      go_wp2_with fail
      refine (RS.out _ _ PHa.out).mono ?_
      rintro e w14 ⟨rfl, b14⟩
      have B14 := Ba.out.trans (b14.mono Ba.out.size)
      go_wp2
      go_ret
      exact ⟨rfl, B14⟩
  · have hnb : decide (1048576 < n) = true := by simp; omega
    go_enter Tryd.func3, Tryd.ntmps3
    go_wp2_with fail
    refine (big_call av n c _).mono ?_
    rintro e w0 ⟨rfl, rfl⟩
    rw [hnb]
    go_wp2
    go_ret
    exact ⟨rfl, Below.refl _ _⟩

theorem hm_of {W : World} (h : W.ShapedOpen Tryd.prog) : HM W := Tryd.laysM219.s1_3 W h

theorem tableP {W : World} (h : laidMetH Tryd.prog Rows.fnResponseRow.laid W) : Lib.TabIs Tryd.prog W "internal/strconv.uint64pow10" .u64 Lib.pow10Tab :=
  pow_of (h.tail.tail)

/-- a world for the witness: the settled one, its tables laid -/
noncomputable def laidWorld (os : Os) : World :=
  { World.holding Tryd.prog os ⟨#[], #[], []⟩ with heap := layFlat (World.holding Tryd.prog os ⟨#[], #[], []⟩).heap [(5, Rows.laid_math_bits_deBruijn32tab), (6, Rows.laid_math_bits_deBruijn64tab), (2, Rows.laid_internal_strconv_uint64pow10), (4, Rows.laid_unicode_utf8_acceptRanges), (3, Rows.laid_unicode_utf8_first)] }
theorem laid_met (os : Os) : laidMet Tryd.prog Rows.fnResponseRow.laid ((laidWorld os).forCall (fun _ _ => 0) ⟨#[], #[.slice none 0 0], []⟩).memory :=
  laidMet_of_run' 8 (by kernel_rfl) (by kernel_rfl)
theorem reads (os : Os) {H : Type} (enc : TypeId × Value → H) : ∃ places, DataW.whole enc Tryd.prog ((laidWorld os).forCall (fun _ _ => 0) ⟨#[], #[.slice none 0 0], []⟩).memory Tryd.f3.params.toList Rows.fnResponseSpec.vars false (#[.slice none 0 0] : Array Value).toList 8 = some ([.nil], [], places) :=
  ⟨[], by kernel_rfl⟩

theorem contract (H : Type) (enc : TypeId × Value → H) (W : World) (base : Nat) (args : Array Value) (ds gs : List (DataW H)) (before : List MemPlace)
    (hval : ∀ (j : Nat) t v, Tryd.f3.params[j]? = some t → args[j]? = some v → Value.okWide Tryd.prog W .any base t v)
    (hW : DataW.Whole enc Tryd.prog Tryd.f3.params.toList Rows.fnResponseSpec.vars false W args.toList ds gs before) (hL : laidMetH Tryd.prog Rows.fnResponseRow.laid W) (hS : W.ShapedOpen Tryd.prog) :
    Calls Tryd.prog 3 args W fun e W' => ∃ v, e = .returned v ∧ Rows.fnResponseSpec.post enc Tryd.prog Tryd.f3 false true false false W args v W' := by
  have hW' := hW
  obtain ⟨p, q, hA0, hV, rfl, hfz, hnd⟩ := hW
  have hA : DataW.TrodAll enc Tryd.prog W 0 (fun _ => true) true Tryd.f3.params.toList args.toList ds p := hA0
  rw [Tryd.params3] at hA hval
  obtain ⟨v0, vs0, d0, ds0, p0, q0, hargs, rfl, rfl, h0, r0⟩ := trodAll_cons hA
  obtain ⟨rfl, rfl, rfl⟩ := trodAll_nil r0
  obtain rfl : args = #[v0] := by cases args; simp_all
  obtain ⟨rfl, rfl⟩ := trodVars_none hV
  obtain ⟨a0, len0, cap0, rfl⟩ := okWide_slice Tryd.underlying22 (hval 0 22 v0 rfl rfl)
  have k0 := h0
  have lt0 : ∀ x ∈ p0, x.block < W.heap.size := by obtain ⟨m, hm⟩ := k0; exact DataW.trod_lt m _ _ _ hm
  obtain ⟨z0, w0⟩ : ∃ zs, IsRow .u8 W a0 len0 cap0 zs := by
    obtain ⟨fuel, hf⟩ := h0
    rcases open_ints Tryd.underlying22 Tryd.underlying5 (by kernel_rfl) hf with ⟨hcs, _⟩ | ⟨x, l, c, zs, hcs, _, hl, hm, hz, _, hcell, hwz⟩
    · simp [Value.cells] at hcs
      obtain ⟨rfl, rfl, rfl⟩ := hcs
      exact ⟨[], .inl ⟨rfl, rfl, rfl, rfl⟩⟩
    · simp [Value.cells] at hcs
      obtain ⟨rfl, rfl, rfl⟩ := hcs
      exact ⟨zs, .inr ⟨_, rfl, hl, hm, by simpa using hz, hcell, hwz⟩⟩
  obtain ⟨z, hZ, hI⟩ := code_of_row w0
  clear hA0
  simp only [List.append_nil] at hW'
  refine (walk a0 len0 cap0 W hI (hm_of hS) (pw_of (tableP hL))).mono fun e W' ⟨he, hg⟩ => ?_
  subst he
  exact ⟨_, rfl, _, _, _, [], _, [], hW', (trodAll_cons_mk (shut_bool Tryd.underlying4 _) trodAll_mk0), (trodAll_cons_mk (Below.trod laidOut (by kernel_rfl) (of_decide_eq_true (by kernel_rfl)) k0 hg lt0) trodAll_mk0), rfl, hg.frame _, fun h => by cases h⟩

set_option maxRecDepth 100000 in
theorem lifted (os : Os) (started : os.Started) (H : Type) (enc : TypeId × Value → H) (F : Stop.Interp) :
    ReturnsInHanded {} Tryd.checked os 3 .any ((OpenSpec.ofChange Rows.fnResponseSpec).preRow enc Tryd.prog Tryd.f3 Rows.fnResponseRow.domain false Rows.fnResponseRow.laid) (((OpenSpec.ofChange Rows.fnResponseSpec).at F).post enc Tryd.prog Tryd.f3 false true false false) := by
  obtain ⟨places, hx⟩ := reads os enc
  refine returnsInHanded_of_row (C := Tryd.checked) (s := OpenSpec.ofChange Rows.fnResponseSpec) own started (by kernel_rfl) Tryd.func3
    (witness_row_at (enc := enc) (C := Tryd.checked) false (laidWorld os) #[.slice none 0 0] rfl (by kernel_rfl) (by kernel_rfl) (by kernel_rfl)
      (OpenSpec.preRow_of_cond 8 hx (by kernel_rfl) (fun k hk => by cases hk) (by kernel_rfl) (laid_met os))) ?_
  intro W base args ds gs before hval hW _ _ _ hL hS _
  exact contract H enc W base args ds gs before hval hW hL hS

theorem said : Rows.FnResponseSaid :=
  OpenClaim.holds_of_cond 3 Tryd.f3 rfl rfl rfl rfl rfl rfl rfl ⟨rfl, rfl, rfl, rfl, rfl⟩ rfl rfl rfl rfl rfl (by kernel_rfl) Tryd.func3 (by kernel_rfl)
    (of_decide_eq_true (by kernel_rfl)) (by unfold Func.isWrapper; first | (rw [if_pos (by decide +kernel)]; kernel_rfl) | (rw [if_neg (by decide +kernel)]; exact ⟨rfl, rfl⟩))
    (fun os started H enc _ F => by rw [OpenClaim.pre_eq_preRow]; exact lifted os started H enc F)

theorem plain (f : FuncId) (fn : Func) (hf : Tryd.pinned.checked.prog.funcNamed "loop.example/g00716/laws.FnResponse" = some f) (hfn : Tryd.pinned.checked.prog.funcs[f]? = some fn) :
    false = Tryd.pinned.checked.prog.looks [] ∧ ∀ (j : Nat) t, fn.params[j]? = some t → Tryd.pinned.checked.prog.wantsStandIn t = false := by
  obtain rfl : f = 3 := Option.some.inj ((show Tryd.prog.funcNamed "loop.example/g00716/laws.FnResponse" = some 3 by kernel_rfl).symm.trans hf) |>.symm
  obtain rfl : fn = Tryd.f3 := (Option.some.inj (Tryd.func3.symm.trans hfn)).symm
  refine ⟨by kernel_rfl, fun j t ht => ?_⟩
  rw [Tryd.params3] at ht
  have ht2 := Array.mem_of_getElem? ht
  have hts : t ∈ ([22] : List TypeId) := by simpa using ht2
  simp only [List.mem_cons, List.not_mem_nil, or_false] at hts
  subst hts
  exact (show Tryd.prog.wantsStandIn 22 = false by kernel_rfl)

theorem card : Rows.FnResponseCardSaid :=
  Claim7.holds_tied_plain_at .later [] _ _ _ _ said (fun _ h => by cases h) (by kernel_rfl) (fun _ h => by cases h) fnResponse_row_tie rfl ⟨rfl, rfl⟩ (by kernel_rfl) rfl plain (by kernel_rfl)

end Go.Proofs.YtfnignlfelambaaDoor.fnResponse
