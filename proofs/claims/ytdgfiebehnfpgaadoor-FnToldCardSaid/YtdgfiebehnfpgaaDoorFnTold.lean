/- Whatever bytes come in, the law FnTold answers true and leaves them as they were; the tables hold what the text lays in them. -/
import Derived.Test.YtdgfiebehnfpgaaDoorTabC
import Derived.Test.YtdgfiebehnfpgaaDoorCkGS
import Derived.Test.YtdgfiebehnfpgaaDoorCkDw
import Derived.Test.YtdgfiebehnfpgaaDoorCkEq
import Derived.Test.YtdgfiebehnfpgaaDoorPost
namespace Go.Proofs.YtdgfiebehnfpgaaDoor.fnTold
set_option linter.unusedVariables false
set_option maxRecDepth 4000
open Go.ChangeShapes Go.WideShapes Go.ChangeAt Go.RowKit
open Go.ChangeMaps (open_string shut_string)
open Ht Ck

theorem own : ownKnob Tryd.prog.godebug = none := by kernel_rfl
theorem laidOut : laidOutB Tryd.prog = true := by kernel_rfl

set_option maxRecDepth 100000 in
set_option maxHeartbeats 3200000 in
theorem walk (av : Option Addr) (n c : Nat) (w : World) (hcode : CodeIs w w.heap.size av n) (hN : Nm w) :
    Calls Tryd.prog 4 #[.slice av n c] w fun e w' => e = .returned (.bool true) ∧ Below w.heap.size w w' := by
  by_cases hn : n ≤ 1048576
  · have hnb : decide (1048576 < n) = false := by simp; omega
    have HN := Lib.hid hN
    clear hN
    go_enter Tryd.func4, Tryd.ntmps4
    go_wp2_with fail
    refine (big_call av n c _).mono ?_
    rintro e w0 ⟨rfl, rfl⟩
    rw [hnb]
    go_wp2_with fail
    refine (drawGetSet_call w0.heap.size av n c _ hcode hn (Nat.le_refl _)).mono ?_
    rintro e w1 ⟨s, h, now, hs, hh, hnow, rfl, b1⟩
    have G1 := Lib.hid (fun wx hx => getSet_impl (txt s) (txt h) now wx (by rw [txt_size]; omega) (by rw [txt_size]; omega) hx)
    have G2 := Lib.hid (fun wx => getSet_spec (txt s) (txt h) now wx (by rw [txt_size]; omega) (by rw [txt_size]; omega))
    rw [txt_toList, txt_toList] at G1 G2
    have TI := Lib.hid (fun k hk => told_is s h now k hk)
    generalize getSet s h now = R at G1 G2 TI
    cases R with
    | none =>
      clear TI
      have EQ := cookie_eql zeroC zeroC
      rw [eqC_self] at EQ
      unfold ckR at G1 G2
      unfold ckV zeroC at G1 G2 EQ
      rw [show (txt [] : ByteArray) = ⟨#[]⟩ from rfl] at G1 G2 EQ
      have c1 := Lib.hid b1
      go_wp2_with fail
      refine (G1.out _ (nm_below HN.out b1)).mono ?_
      rintro e w2 ⟨rfl, b2⟩
      have c2 := bstep c1.out b2
      have g2 := Lib.hid (heap_alloc_new w2 (.cells #[.string ⟨#[]⟩, .string ⟨#[]⟩, .string ⟨#[]⟩, .bool false, .string ⟨#[]⟩, .int .i64 0] 25))
      have d2 := Lib.hid (c2.alloc c2.size (.cells #[.string ⟨#[]⟩, .string ⟨#[]⟩, .string ⟨#[]⟩, .bool false, .string ⟨#[]⟩, .int .i64 0] 25))
      clear b1 b2 c2
      go_wp2_with fail
      refine (G2.out _).mono ?_
      rintro e w3 ⟨rfl, b3⟩
      have c3 := bstep d2.out b3
      have k3 := (b3.block w2.heap.size (by simp)).trans g2.out
      have l3 : w2.heap.size < w3.heap.size := Nat.lt_of_lt_of_le (by simp) b3.size
      have d3 := Lib.hid (c3.alloc c3.size (.cells #[.string ⟨#[]⟩, .string ⟨#[]⟩, .string ⟨#[]⟩, .bool false, .string ⟨#[]⟩, .int .i64 0] 25))
      have k3' := (((Below.refl w3.heap.size w3).alloc (Nat.le_refl _) (.cells #[.string ⟨#[]⟩, .string ⟨#[]⟩, .string ⟨#[]⟩, .bool false, .string ⟨#[]⟩, .int .i64 0] 25)).block w2.heap.size l3).trans k3
      obtain ⟨x0, x1, x2, x3, x4, x5, _⟩ := box6 k3'
      clear b3 c3 k3 k3'
      go_wp2
      go_ret
      exact ⟨rfl, d3.out⟩
    | some k =>
      obtain ⟨t1, t2, t3⟩ := TI.out k rfl
      have hks := ck_small t1
      have hkS : CkS k := by unfold CkS; omega
      have CO := Lib.hid (fun wx => ckOk_impl k wx hkS)
      have DM := Lib.hid (fun wx => domain_impl (txt h) (txt k.d) wx (by rw [txt_size]; omega) (by rw [txt_size]; omega))
      rw [txt_toList, txt_toList] at DM
      rw [t1] at CO
      rw [t2] at DM
      clear TI t1 t2 hks hkS
      unfold ckR at G1 G2
      unfold ckV at G1 G2 CO
      have c1 := Lib.hid b1
      go_wp2_with fail
      refine (G1.out _ (nm_below HN.out b1)).mono ?_
      rintro e w2 ⟨rfl, b2⟩
      have c2 := bstep c1.out b2
      have g2 := Lib.hid (heap_alloc_new w2 (.cells #[.string (txt k.n), .string (txt k.v), .string (txt k.d), .bool k.o, .string (txt k.p), .int .i64 k.u] 25))
      have d2 := Lib.hid (c2.alloc c2.size (.cells #[.string (txt k.n), .string (txt k.v), .string (txt k.d), .bool k.o, .string (txt k.p), .int .i64 k.u] 25))
      clear b1 b2 c2
      go_wp2_with fail
      refine (G2.out _).mono ?_
      rintro e w3 ⟨rfl, b3⟩
      have c3 := bstep d2.out b3
      have k3 := (b3.block w2.heap.size (by simp)).trans g2.out
      have l3 : w2.heap.size < w3.heap.size := Nat.lt_of_lt_of_le (by simp) b3.size
      have d3 := Lib.hid (c3.alloc c3.size (.cells #[.string (txt k.n), .string (txt k.v), .string (txt k.d), .bool k.o, .string (txt k.p), .int .i64 k.u] 25))
      have k3' := (((Below.refl w3.heap.size w3).alloc (Nat.le_refl _) (.cells #[.string (txt k.n), .string (txt k.v), .string (txt k.d), .bool k.o, .string (txt k.p), .int .i64 k.u] 25)).block w2.heap.size l3).trans k3
      have l3' : w2.heap.size < (w3.alloc (.cells #[.string (txt k.n), .string (txt k.v), .string (txt k.d), .bool k.o, .string (txt k.p), .int .i64 k.u] 25)).heap.size := by simp; omega
      have K3 := Lib.hid k3'
      obtain ⟨x0, x1, x2, x3, x4, x5, _⟩ := box6 k3'
      clear b3 c3 k3 k3'
      go_wp2_with fail
      refine (CO.out _).mono ?_
      rintro e w4 ⟨rfl, b4⟩
      have c4 := bstep d3.out b4
      have k4 := (b4.block w2.heap.size l3').trans K3.out
      have l4 : w2.heap.size < w4.heap.size := Nat.lt_of_lt_of_le l3' b4.size
      have K4 := Lib.hid k4
      clear x0 x1 x2 x3 x4 x5
      obtain ⟨x0, x1, x2, x3, x4, x5, _⟩ := box6 k4
      clear k4
      go_wp2_with fail
      refine (DM.out _).mono ?_
      rintro e w5 ⟨rfl, b5⟩
      have c5 := bstep c4 b5
      have k5 := (b5.block w2.heap.size l4).trans K4.out
      clear x0 x1 x2 x3 x4 x5
      obtain ⟨x0, x1, x2, x3, x4, x5, _⟩ := box6 k5
      clear k5
      by_cases hu : k.u = -1
      · have eu : (k.u == -1) = true := by rw [hu]; rfl
        clear hu t3
        go_wp2
        go_ret
        exact ⟨rfl, c5⟩
      · have eu : (k.u == -1) = false := by rw [Bool.eq_false_iff]; intro e; exact hu (eq_of_beq e)
        have hge : now ≤ k.u := by rcases t3 with h | h; exact absurd h hu; exact h
        have hge2 : k.u ≥ now := hge
        clear hu t3
        go_wp2
        go_ret
        exact ⟨rfl, c5⟩
  · have hnb : decide (1048576 < n) = true := by simp; omega
    go_enter Tryd.func4, Tryd.ntmps4
    go_wp2_with fail
    refine (big_call av n c _).mono ?_
    rintro e w0 ⟨rfl, rfl⟩
    rw [hnb]
    go_wp2
    go_ret
    exact ⟨rfl, Below.refl _ _⟩

theorem tableN {W : World} (h : laidMetH Tryd.prog Rows.fnToldRow.laid W) : Ck.Nm W :=
  Tc.nm_of (h.tail)

/-- a world for the witness: the settled one, its tables laid -/
noncomputable def laidWorld (os : Os) : World :=
  { World.holding Tryd.prog os ⟨#[], #[], []⟩ with heap := Tc.layIt (World.holding Tryd.prog os ⟨#[], #[], []⟩).heap [(4, Rows.laid_unicode_utf8_acceptRanges), (0, Rows.laid_loop_example_g00716_impl_attributeNames), (3, Rows.laid_unicode_utf8_first)] }
theorem laid_met (os : Os) : laidMet Tryd.prog Rows.fnToldRow.laid ((laidWorld os).forCall (fun _ _ => 0) ⟨#[], #[.slice none 0 0], []⟩).memory :=
  laidMet_of_run' 8 (by kernel_rfl) (by kernel_rfl)
theorem reads (os : Os) {H : Type} (enc : TypeId × Value → H) : ∃ places, DataW.whole enc Tryd.prog ((laidWorld os).forCall (fun _ _ => 0) ⟨#[], #[.slice none 0 0], []⟩).memory Tryd.f4.params.toList Rows.fnToldSpec.vars false (#[.slice none 0 0] : Array Value).toList 8 = some ([.nil], [Rows.laid_loop_example_g00716_impl_attributeNames], places) :=
  ⟨MemPlace.row ⟨0, 0, none⟩ 3 ++ [], by kernel_rfl⟩

theorem contract (H : Type) (enc : TypeId × Value → H) (W : World) (base : Nat) (args : Array Value) (ds gs : List (DataW H)) (before : List MemPlace)
    (hval : ∀ (j : Nat) t v, Tryd.f4.params[j]? = some t → args[j]? = some v → Value.okWide Tryd.prog W .any base t v)
    (hW : DataW.Whole enc Tryd.prog Tryd.f4.params.toList Rows.fnToldSpec.vars false W args.toList ds gs before) (hL : laidMetH Tryd.prog Rows.fnToldRow.laid W) (hS : W.ShapedOpen Tryd.prog) :
    Calls Tryd.prog 4 args W fun e W' => ∃ v, e = .returned v ∧ Rows.fnToldSpec.post enc Tryd.prog Tryd.f4 false true false false W args v W' := by
  have hW' := hW
  obtain ⟨p, q, hA0, hV, rfl, hfz, hnd⟩ := hW
  have hA : DataW.TrodAll enc Tryd.prog W 0 (fun _ => true) true Tryd.f4.params.toList args.toList ds p := hA0
  rw [Tryd.params4] at hA hval
  obtain ⟨v0, vs0, d0, ds0, p0, q0, hargs, rfl, rfl, h0, r0⟩ := trodAll_cons hA
  obtain ⟨rfl, rfl, rfl⟩ := trodAll_nil r0
  obtain rfl : args = #[v0] := by cases args; simp_all
  obtain ⟨gv, tv, cs, fuelv, dv, pv, rfl, hgl, hty, hvar, hd, rfl⟩ := trodVars_one hV
  obtain ⟨a0, len0, cap0, rfl⟩ := okWide_slice Tryd.underlying22 (hval 0 22 v0 rfl rfl)
  have k0 := h0
  have lt0 : ∀ x ∈ p0, x.block < W.heap.size := by obtain ⟨m, hm⟩ := k0; exact DataW.trod_lt m _ _ _ hm
  obtain ⟨z0, w0⟩ : ∃ zs, IsRow .u8 W a0 len0 cap0 zs := by
    obtain ⟨fuel, hf⟩ := h0
    rcases open_ints Tryd.underlying22 Tryd.underlying5 (by kernel_rfl) hf with ⟨hcs, _⟩ | ⟨x, l, c, zs, hcs, _, hl, hm, hz, _, hcell, hwz⟩
    · simp [Value.cells] at hcs
      obtain ⟨rfl, rfl, rfl⟩ := hcs
      exact ⟨[], .inl ⟨rfl, rfl, rfl, rfl⟩⟩
    · simp [Value.cells] at hcs
      obtain ⟨rfl, rfl, rfl⟩ := hcs
      exact ⟨zs, .inr ⟨_, rfl, hl, hm, by simpa using hz, hcell, hwz⟩⟩
  obtain ⟨z, hZ, hI⟩ := code_of_row w0
  clear hA0
  have hN := tableN hL
  refine (walk a0 len0 cap0 W hI hN).mono fun e W' ⟨he, hg⟩ => ?_
  subst he
  obtain rfl : gv = 0 := Option.some.inj (hgl.symm.trans Tc.gNm)
  obtain rfl : tv = 65 := Option.some.inj (hty.symm.trans Tc.gNmType)
  have hT : DataW.Trod enc Tryd.prog W 0 (fun _ => true) true 65 (.agg cs) dv pv := ⟨fuelv, by simpa [Value.cells] using hd⟩
  obtain ⟨fuel', hd'⟩ := Below.trod laidOut (by kernel_rfl) (of_decide_eq_true (by kernel_rfl)) hT hg (fun x hx => by obtain ⟨m, hm⟩ := hT; exact DataW.trod_lt m _ _ _ hm x hx)
  have hv' := trodVars_mk1 (enc := enc) (spare := fun b => decide (b < W.heap.size)) hgl hty (Tc.varBelow hg hgl hN.1 hvar) (by simpa [Value.cells] using hd')
  exact ⟨_, rfl, _, _, _, [], _, _, hW', (trodAll_cons_mk (shut_bool Tryd.underlying4 _) trodAll_mk0), (trodAll_cons_mk (Below.trod laidOut (by kernel_rfl) (of_decide_eq_true (by kernel_rfl)) k0 hg lt0) trodAll_mk0), hv', hg.frame _, fun h => by cases h⟩

set_option maxRecDepth 100000 in
theorem lifted (os : Os) (started : os.Started) (H : Type) (enc : TypeId × Value → H) (F : Stop.Interp) :
    ReturnsInHanded {} Tryd.checked os 4 .any ((OpenSpec.ofChange Rows.fnToldSpec).preRow enc Tryd.prog Tryd.f4 Rows.fnToldRow.domain false Rows.fnToldRow.laid) (((OpenSpec.ofChange Rows.fnToldSpec).at F).post enc Tryd.prog Tryd.f4 false true false false) := by
  obtain ⟨places, hx⟩ := reads os enc
  refine returnsInHanded_of_row (C := Tryd.checked) (s := OpenSpec.ofChange Rows.fnToldSpec) own started (by kernel_rfl) Tryd.func4
    (witness_row_at (enc := enc) (C := Tryd.checked) false (laidWorld os) #[.slice none 0 0] rfl (by kernel_rfl) (by kernel_rfl) (by kernel_rfl)
      (OpenSpec.preRow_of_cond 8 hx (by kernel_rfl) (fun k hk => by cases hk) (by kernel_rfl) (laid_met os))) ?_
  intro W base args ds gs before hval hW _ _ _ hL hS _
  exact contract H enc W base args ds gs before hval hW hL hS

theorem said : Rows.FnToldSaid :=
  OpenClaim.holds_of_cond 4 Tryd.f4 rfl rfl rfl rfl rfl rfl rfl ⟨rfl, rfl, rfl, rfl, rfl⟩ rfl rfl rfl rfl rfl (by kernel_rfl) Tryd.func4 (by kernel_rfl)
    (of_decide_eq_true (by kernel_rfl)) (by unfold Func.isWrapper; first | (rw [if_pos (by decide +kernel)]; kernel_rfl) | (rw [if_neg (by decide +kernel)]; exact ⟨rfl, rfl⟩))
    (fun os started H enc _ F => by rw [OpenClaim.pre_eq_preRow]; exact lifted os started H enc F)

theorem plain (f : FuncId) (fn : Func) (hf : Tryd.pinned.checked.prog.funcNamed "loop.example/g00716/laws.FnTold" = some f) (hfn : Tryd.pinned.checked.prog.funcs[f]? = some fn) :
    false = Tryd.pinned.checked.prog.looks [] ∧ ∀ (j : Nat) t, fn.params[j]? = some t → Tryd.pinned.checked.prog.wantsStandIn t = false := by
  obtain rfl : f = 4 := Option.some.inj ((show Tryd.prog.funcNamed "loop.example/g00716/laws.FnTold" = some 4 by kernel_rfl).symm.trans hf) |>.symm
  obtain rfl : fn = Tryd.f4 := (Option.some.inj (Tryd.func4.symm.trans hfn)).symm
  refine ⟨by kernel_rfl, fun j t ht => ?_⟩
  rw [Tryd.params4] at ht
  have ht2 := Array.mem_of_getElem? ht
  have hts : t ∈ ([22] : List TypeId) := by simpa using ht2
  simp only [List.mem_cons, List.not_mem_nil, or_false] at hts
  subst hts
  exact (show Tryd.prog.wantsStandIn 22 = false by kernel_rfl)

theorem card : Rows.FnToldCardSaid :=
  Claim7.holds_tied_plain_at .later [] _ _ _ _ said (fun _ h => by cases h) (by kernel_rfl) (fun _ h => by cases h) fnTold_row_tie rfl ⟨rfl, rfl⟩ (by kernel_rfl) rfl plain (by kernel_rfl)

end Go.Proofs.YtdgfiebehnfpgaaDoor.fnTold
