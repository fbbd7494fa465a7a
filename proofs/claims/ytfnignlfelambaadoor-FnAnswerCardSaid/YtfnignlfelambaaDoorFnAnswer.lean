/- Whatever bytes come in, the law FnAnswer answers true and leaves them as they were; the tables hold what the text lays in them. -/
import Derived.Test.YtfnignlfelambaaDoorTabH
import Derived.Test.YtfnignlfelambaaDoorHtE
import Derived.Test.YtfnignlfelambaaDoorHtRI
import Derived.Test.YtfnignlfelambaaDoorHtMsg
import Derived.Test.YtfnignlfelambaaDoorPost
namespace Go.Proofs.YtfnignlfelambaaDoor.fnAnswer
set_option linter.unusedVariables false
set_option maxRecDepth 4000
open Go.ChangeShapes Go.WideShapes Go.ChangeAt Go.RowKit
open Go.ChangeMaps (open_string shut_string)
open Ht

theorem own : ownKnob Tryd.prog.godebug = none := by kernel_rfl
theorem laidOut : laidOutB Tryd.prog = true := by kernel_rfl

set_option maxRecDepth 100000 in
set_option maxHeartbeats 3200000 in
theorem walk (av : Option Addr) (n c : Nat) (w : World) (hcode : CodeIs w w.heap.size av n) (hm : HM w) (hP : Pw w) :
    Calls Tryd.prog 4 #[.slice av n c] w fun e w' => e = .returned (.bool true) ∧ Below w.heap.size w w' := by
  by_cases hn : n ≤ 1048576
  · have hnb : decide (1048576 < n) = false := by simp; omega
    go_enter Tryd.func4, Tryd.ntmps4
    go_wp2_with fail
    refine (big_call av n c _).mono ?_
    rintro e w0 ⟨rfl, rfl⟩
    rw [hnb]
    go_wp2_with fail
    refine (drawGetResp_call w0.heap.size av n c _ hcode hn (Nat.le_refl _)).mono ?_
    rintro e w1 ⟨s, hsl, rfl, b1⟩
    have HI := Lib.hid (resp_is s)
    have GI := Lib.hid (fun wx h h' => getResp_impl s wx (by omega) h h')
    have GS := Lib.hid (fun wx => getResp_spec s wx (by omega))
    have eS := txt_beq s s
    rw [decide_eq_true rfl] at eS
    have HMM := Lib.hid hm
    have HPW := Lib.hid hP
    clear hm hP
    generalize getResp s = R at HI GI GS
    cases R with
    | none =>
      have GI2 := Lib.hid (fun wx h h' => (GI.out wx h h').mono (fun e w' x => (show e = .returned (.tuple #[.agg #[.int .i64 0, .slice none 0 0, .string ⟨#[]⟩], .bool false]) ∧ Below wx.heap.size wx w' from x)))
      have GS2 := Lib.hid (fun wx => (GS.out wx).mono (fun e w' x => (show e = .returned (.tuple #[.agg #[.int .i64 0, .slice none 0 0, .string ⟨#[]⟩], .bool false]) ∧ Below wx.heap.size wx w' from x)))
      clear GI GS HI
      go_wp2_with fail
      refine (GI2.out _ (HMM.out.below b1) (pw_below HPW.out b1)).mono ?_
      rintro e w2 ⟨rfl, b2⟩
      have b12 := bstep b1 b2
      have B12 := Lib.hid (b12.alloc b12.size (.cells #[.int .i64 0, .slice none 0 0, .string ⟨#[]⟩] 26))
      have S12 := Lib.hid b12.size
      go_wp2_with fail
      refine (GS2.out _).mono ?_
      rintro e w3 ⟨rfl, b3⟩
      have b13 := B12.out.trans (b3.mono B12.out.size)
      have B13 := Lib.hid (b13.alloc b13.size (.cells #[.int .i64 0, .slice none 0 0, .string ⟨#[]⟩] 26))
      go_wp2
      go_ret
      exact ⟨rfl, B13.out⟩
    | some r =>
      obtain ⟨hok, hput⟩ := HI.out r rfl
      obtain ⟨h1, h2, h3, h4⟩ := resp_parts hok
      have hB : Bd r.h := ⟨by have := (heads_all h3).2; omega, fun p hp => by
        have := head_parts (List.all_eq_true.1 (heads_all h3).1 p hp)
        omega⟩
      have RO := Lib.hid (fun vh wx hx => respOk_impl r vh wx hx hB (by omega))
      have PO := Lib.hid (fun vh wx hx hy => putResp_impl r vh wx hx hB (by omega) hy)
      rw [hok] at RO
      rw [hput] at PO
      have hhl : r.h.length ≤ 20 := (heads_all h3).2
      have GI2 := Lib.hid (fun wx h h' => (GI.out wx h h').mono (fun e w' x => (show (∃ vh, e = .returned (.tuple #[respV r vh, .bool true]) ∧ w'.ownsRow wx.heap.size 71 2 vh r.h.length (pcells r.h)) ∧ Below wx.heap.size wx w' from x)))
      have GS2 := Lib.hid (fun wx => (GS.out wx).mono (fun e w' x => (show (∃ vh, e = .returned (.tuple #[respV r vh, .bool true]) ∧ PAt w' vh r.h) ∧ Below wx.heap.size wx w' from x)))
      clear GI GS HI hok hput h1 h2 h3 h4 hB
      obtain ⟨rc, rh, rb⟩ := r
      simp only at hhl
      simp only [respV] at GI2 GS2 RO PO
      go_wp2_with fail
      refine (GI2.out _ (HMM.out.below b1) (pw_below HPW.out b1)).mono ?_
      rintro e w2 ⟨⟨vh, rfl, o2⟩, b2⟩
      obtain ⟨ah, ch, rfl⟩ := own_val2 o2
      have b12 := bstep b1 b2
      have B12 := Lib.hid (b12.alloc b12.size (.cells #[.int .i64 rc, .slice ah rh.length ch, .string (txt rb)] 26))
      have G2 := Lib.hid (heap_alloc_new w2 (.cells #[.int .i64 rc, .slice ah rh.length ch, .string (txt rb)] 26))
      have O2 := Lib.hid ((PAt.own o2).below ((Below.refl w2.heap.size w2).alloc (Nat.le_refl _) (.cells #[.int .i64 rc, .slice ah rh.length ch, .string (txt rb)] 26)))
      have SA := Lib.hid (show (w2.alloc (.cells #[.int .i64 rc, .slice ah rh.length ch, .string (txt rb)] 26)).heap.size = w2.heap.size + 1 by simp)
      clear o2 b12
      go_wp2_with fail
      refine (GS2.out _).mono ?_
      rintro e w3 ⟨⟨vh3, rfl, p3⟩, b3⟩
      obtain ⟨ah3, ch3, rfl⟩ := pat_form p3
      have b13 := B12.out.trans (b3.mono B12.out.size)
      have k3 := (b3.block w2.heap.size (by rw [SA.out]; omega)).trans G2.out
      have s3 := b3.size
      rw [SA.out] at s3
      have dA := (Below.refl w3.heap.size w3).alloc (Nat.le_refl _) (.cells #[.int .i64 rc, .slice ah3 rh.length ch3, .string (txt rb)] 26)
      have B13 := Lib.hid (b13.alloc b13.size (.cells #[.int .i64 rc, .slice ah3 rh.length ch3, .string (txt rb)] 26))
      have k3a := (dA.block w2.heap.size (by omega)).trans k3
      have O3 := Lib.hid ((O2.out.below b3).below dA)
      have S3a := Lib.hid (show (w3.alloc (.cells #[.int .i64 rc, .slice ah3 rh.length ch3, .string (txt rb)] 26)).heap.size = w3.heap.size + 1 by simp)
      have K3 := Lib.hid k3a
      obtain ⟨x0, x1, x2, _⟩ := box3 k3a
      clear k3 k3a dA p3 b13
      go_wp2_with fail
      refine (RO.out _ _ O3.out).mono ?_
      rintro e w4 ⟨rfl, b4⟩
      have b14 := B13.out.trans (b4.mono B13.out.size)
      have k4 := (b4.block w2.heap.size (by rw [S3a.out]; omega)).trans K3.out
      obtain ⟨y0, y1, y2, _⟩ := box3 k4
      clear x0 x1 x2 k4
      go_wp2_with fail
      refine (PO.out _ _ (O3.out.below b4) (pw_below HPW.out b14)).mono ?_
      rintro e w5 ⟨rfl, b5⟩
      go_wp2
      go_ret
      exact ⟨rfl, bstep b14 b5⟩
  · have hnb : decide (1048576 < n) = true := by simp; omega
    go_enter Tryd.func4, Tryd.ntmps4
    go_wp2_with fail
    refine (big_call av n c _).mono ?_
    rintro e w0 ⟨rfl, rfl⟩
    rw [hnb]
    go_wp2
    go_ret
    exact ⟨rfl, Below.refl _ _⟩

theorem hm_of {W : World} (h : W.ShapedOpen Tryd.prog) : HM W := Tryd.laysM219.s1_3 W h

theorem tableP {W : World} (h : laidMetH Tryd.prog Rows.fnAnswerRow.laid W) : Lib.TabIs Tryd.prog W "internal/strconv.uint64pow10" .u64 Lib.pow10Tab :=
  pow_of (h.tail.tail)

/-- a world for the witness: the settled one, its tables laid -/
noncomputable def laidWorld (os : Os) : World :=
  { World.holding Tryd.prog os ⟨#[], #[], []⟩ with heap := layFlat (World.holding Tryd.prog os ⟨#[], #[], []⟩).heap [(5, Rows.laid_math_bits_deBruijn32tab), (6, Rows.laid_math_bits_deBruijn64tab), (2, Rows.laid_internal_strconv_uint64pow10), (4, Rows.laid_unicode_utf8_acceptRanges), (3, Rows.laid_unicode_utf8_first)] }
theorem laid_met (os : Os) : laidMet Tryd.prog Rows.fnAnswerRow.laid ((laidWorld os).forCall (fun _ _ => 0) ⟨#[], #[.slice none 0 0], []⟩).memory :=
  laidMet_of_run' 8 (by kernel_rfl) (by kernel_rfl)
theorem reads (os : Os) {H : Type} (enc : TypeId × Value → H) : ∃ places, DataW.whole enc Tryd.prog ((laidWorld os).forCall (fun _ _ => 0) ⟨#[], #[.slice none 0 0], []⟩).memory Tryd.f4.params.toList Rows.fnAnswerSpec.vars false (#[.slice none 0 0] : Array Value).toList 8 = some ([.nil], [], places) :=
  ⟨[], by kernel_rfl⟩

theorem contract (H : Type) (enc : TypeId × Value → H) (W : World) (base : Nat) (args : Array Value) (ds gs : List (DataW H)) (before : List MemPlace)
    (hval : ∀ (j : Nat) t v, Tryd.f4.params[j]? = some t → args[j]? = some v → Value.okWide Tryd.prog W .any base t v)
    (hW : DataW.Whole enc Tryd.prog Tryd.f4.params.toList Rows.fnAnswerSpec.vars false W args.toList ds gs before) (hL : laidMetH Tryd.prog Rows.fnAnswerRow.laid W) (hS : W.ShapedOpen Tryd.prog) :
    Calls Tryd.prog 4 args W fun e W' => ∃ v, e = .returned v ∧ Rows.fnAnswerSpec.post enc Tryd.prog Tryd.f4 false true false false W args v W' := by
  have hW' := hW
  obtain ⟨p, q, hA0, hV, rfl, hfz, hnd⟩ := hW
  have hA : DataW.TrodAll enc Tryd.prog W 0 (fun _ => true) true Tryd.f4.params.toList args.toList ds p := hA0
  rw [Tryd.params4] at hA hval
  obtain ⟨v0, vs0, d0, ds0, p0, q0, hargs, rfl, rfl, h0, r0⟩ := trodAll_cons hA
  obtain ⟨rfl, rfl, rfl⟩ := trodAll_nil r0
  obtain rfl : args = #[v0] := by cases args; simp_all
  obtain ⟨rfl, rfl⟩ := trodVars_none hV
  obtain ⟨a0, len0, cap0, rfl⟩ := okWide_slice Tryd.underlying22 (hval 0 22 v0 rfl rfl)
  have k0 := h0
  have lt0 : ∀ x ∈ p0, x.block < W.heap.size := by obtain ⟨m, hm⟩ := k0; exact DataW.trod_lt m _ _ _ hm
  obtain ⟨z0, w0⟩ : ∃ zs, IsRow .u8 W a0 len0 cap0 zs := by
    obtain ⟨fuel, hf⟩ := h0
    rcases open_ints Tryd.underlying22 Tryd.underlying5 (by kernel_rfl) hf with ⟨hcs, _⟩ | ⟨x, l, c, zs, hcs, _, hl, hm, hz, _, hcell, hwz⟩
    · simp [Value.cells] at hcs
      obtain ⟨rfl, rfl, rfl⟩ := hcs
      exact ⟨[], .inl ⟨rfl, rfl, rfl, rfl⟩⟩
    · simp [Value.cells] at hcs
      obtain ⟨rfl, rfl, rfl⟩ := hcs
      exact ⟨zs, .inr ⟨_, rfl, hl, hm, by simpa using hz, hcell, hwz⟩⟩
  obtain ⟨z, hZ, hI⟩ := code_of_row w0
  clear hA0
  simp only [List.append_nil] at hW'
  refine (walk a0 len0 cap0 W hI (hm_of hS) (pw_of (tableP hL))).mono fun e W' ⟨he, hg⟩ => ?_
  subst he
  exact ⟨_, rfl, _, _, _, [], _, [], hW', (trodAll_cons_mk (shut_bool Tryd.underlying4 _) trodAll_mk0), (trodAll_cons_mk (Below.trod laidOut (by kernel_rfl) (of_decide_eq_true (by kernel_rfl)) k0 hg lt0) trodAll_mk0), rfl, hg.frame _, fun h => by cases h⟩

set_option maxRecDepth 100000 in
theorem lifted (os : Os) (started : os.Started) (H : Type) (enc : TypeId × Value → H) (F : Stop.Interp) :
    ReturnsInHanded {} Tryd.checked os 4 .any ((OpenSpec.ofChange Rows.fnAnswerSpec).preRow enc Tryd.prog Tryd.f4 Rows.fnAnswerRow.domain false Rows.fnAnswerRow.laid) (((OpenSpec.ofChange Rows.fnAnswerSpec).at F).post enc Tryd.prog Tryd.f4 false true false false) := by
  obtain ⟨places, hx⟩ := reads os enc
  refine returnsInHanded_of_row (C := Tryd.checked) (s := OpenSpec.ofChange Rows.fnAnswerSpec) own started (by kernel_rfl) Tryd.func4
    (witness_row_at (enc := enc) (C := Tryd.checked) false (laidWorld os) #[.slice none 0 0] rfl (by kernel_rfl) (by kernel_rfl) (by kernel_rfl)
      (OpenSpec.preRow_of_cond 8 hx (by kernel_rfl) (fun k hk => by cases hk) (by kernel_rfl) (laid_met os))) ?_
  intro W base args ds gs before hval hW _ _ _ hL hS _
  exact contract H enc W base args ds gs before hval hW hL hS

theorem said : Rows.FnAnswerSaid :=
  OpenClaim.holds_of_cond 4 Tryd.f4 rfl rfl rfl rfl rfl rfl rfl ⟨rfl, rfl, rfl, rfl, rfl⟩ rfl rfl rfl rfl rfl (by kernel_rfl) Tryd.func4 (by kernel_rfl)
    (of_decide_eq_true (by kernel_rfl)) (by unfold Func.isWrapper; first | (rw [if_pos (by decide +kernel)]; kernel_rfl) | (rw [if_neg (by decide +kernel)]; exact ⟨rfl, rfl⟩))
    (fun os started H enc _ F => by rw [OpenClaim.pre_eq_preRow]; exact lifted os started H enc F)

theorem plain (f : FuncId) (fn : Func) (hf : Tryd.pinned.checked.prog.funcNamed "loop.example/g00716/laws.FnAnswer" = some f) (hfn : Tryd.pinned.checked.prog.funcs[f]? = some fn) :
    false = Tryd.pinned.checked.prog.looks [] ∧ ∀ (j : Nat) t, fn.params[j]? = some t → Tryd.pinned.checked.prog.wantsStandIn t = false := by
  obtain rfl : f = 4 := Option.some.inj ((show Tryd.prog.funcNamed "loop.example/g00716/laws.FnAnswer" = some 4 by kernel_rfl).symm.trans hf) |>.symm
  obtain rfl : fn = Tryd.f4 := (Option.some.inj (Tryd.func4.symm.trans hfn)).symm
  refine ⟨by kernel_rfl, fun j t ht => ?_⟩
  rw [Tryd.params4] at ht
  have ht2 := Array.mem_of_getElem? ht
  have hts : t ∈ ([22] : List TypeId) := by simpa using ht2
  simp only [List.mem_cons, List.not_mem_nil, or_false] at hts
  subst hts
  exact (show Tryd.prog.wantsStandIn 22 = false by kernel_rfl)

theorem card : Rows.FnAnswerCardSaid :=
  Claim7.holds_tied_plain_at .later [] _ _ _ _ said (fun _ h => by cases h) (by kernel_rfl) (fun _ h => by cases h) fnAnswer_row_tie rfl ⟨rfl, rfl⟩ (by kernel_rfl) rfl plain (by kernel_rfl)

end Go.Proofs.YtfnignlfelambaaDoor.fnAnswer
