/- Whatever bytes come in, the law FnStretch answers true and leaves them as they were; the tables of the library and of the program hold what their texts lay in them. -/
import Derived.Test.YtabehlipgfihkaaDoorTabK
import Derived.Test.YtabehlipgfihkaaDoorMacP
import Derived.Test.YtabehlipgfihkaaDoorSameT
import Derived.Test.YtabehlipgfihkaaDoorDrawS
import Derived.Test.YtabehlipgfihkaaDoorTabP
import Derived.Test.YtabehlipgfihkaaDoorPost
namespace Go.Proofs.YtabehlipgfihkaaDoor.fnStretch
set_option linter.unusedVariables false
set_option maxRecDepth 4000
open Go.ChangeShapes Go.WideShapes Go.ChangeAt Go.RowKit
open Go.ChangeMaps (open_string shut_string)
open Mk

theorem own : ownKnob Tryd.prog.godebug = none := by kernel_rfl

theorem laidOut : laidOutB Tryd.prog = true := by kernel_rfl

theorem beqT (a b : List UInt8) : ((txt a).toList == (txt b).toList) = decide (a = b) := by
  rw [Lib.toList_data, Lib.toList_data]
  show (a == b) = decide (a = b)
  rw [Bool.eq_iff_iff]
  simp

theorem txt_inj {a b : List UInt8} (h : txt a = txt b) : a = b := by
  have := congrArg (fun x : ByteArray => x.data.toList) h
  simpa only [txt_toList] using this

theorem pass_len : ∀ x ∈ stretchPass, x.length ≤ 10 := by decide

theorem salt_len : ∀ x ∈ stretchSalt, x.length ≤ 10 := by decide

theorem seed_len : ∀ x ∈ nameSeeds, x.length ≤ 10 := by decide

theorem int_range (r k : Int) (r0 : 0 ≤ r) (r1 : r < 100000) (h : k ∈ nameInts r) : -9223372036854775808 ≤ k ∧ k ≤ 9223372036854775807 := by
  simp only [nameInts, List.mem_cons, List.not_mem_nil, or_false] at h
  omega

theorem half_range (k : Int) (h1 : -9223372036854775808 ≤ k) (h2 : k ≤ 9223372036854775807) : -9223372036854775808 ≤ k.tdiv 2 ∧ k.tdiv 2 + 1 ≤ 9223372036854775807 := by
  have e := Int.tmod_add_mul_tdiv k 2
  have l1 := Int.tmod_lt_of_pos k (show (0 : Int) < 2 by decide)
  have l2 : -2 < k.tmod 2 := by
    have := Int.lt_tmod_of_pos k (show (0 : Int) < 2 by decide)
    omega
  omega

theorem times_is (m : Nat) (h : m ≤ 20) : timesN (1 + (m : Int)) = m + 1 := by
  unfold timesN
  by_cases h0 : m = 0
  · subst h0; rfl
  · rw [if_neg (by omega), if_neg (by omega)]
    omega

set_option maxRecDepth 100000 in
set_option maxHeartbeats 3200000 in
theorem walk (av : Option Addr) (n c : Nat) (w : World) (hcode : CodeIs w w.heap.size av n) (hK : W32At w 0 Sh.K) (htab : Lib.TabIs Tryd.prog w "internal/strconv.uint64pow10" .u64 Lib.pow10Tab) :
    Calls Tryd.prog 3 #[.slice av n c] w fun e w' => e = .returned (.bool true) ∧ Below w.heap.size w w' := by
  have HK := Lib.hid hK
  have HT := Lib.hid (Lib.tabBelow_of_tabIs htab)
  clear hK htab
  by_cases hn : n ≤ 1048576
  · have hnb : decide (1048576 < n) = false := by simp; omega
    go_enter Tryd.func3, Tryd.ntmps3
    go_wp2_with fail
    refine (big_call av n c _).mono ?_
    rintro e w0 ⟨rfl, rfl⟩
    rw [hnb]
    go_wp2_with fail
    refine (drawStretch_call w0.heap.size av n c _ hcode hn (Nat.le_refl _)).mono ?_
    rintro e w1 ⟨p, s, x, hp, hs, rfl, b1⟩
    have hcode1 : CodeIs w1 w0.heap.size av n := hcode.below b1
    go_wp2_with fail
    refine (at_call w0.heap.size av n c _ hcode1 hn).mono ?_
    rintro e w2 ⟨y, rfl, y0, y1, rfl⟩
    obtain ⟨m, hm⟩ := Int.eq_ofNat_of_zero_le (show 0 ≤ y.tmod 20 from Int.tmod_nonneg _ y0)
    have hm19 : m ≤ 19 := by
      have := Int.tmod_lt_of_pos y (show (0 : Int) < 20 by decide)
      omega
    have hpl := pass_len p hp.out
    have hsl := salt_len s hs.out
    have HNE := Lib.hid (str_sep p s (m + 1) hp.out hs.out (by omega) (by omega))
    have T1 := times_is m (by omega)
    have T2 := times_is (m + 1) (by omega)
    have ec : 1 + ((m + 1 : Nat) : Int) = 1 + (m : Int) + 1 := by omega
    rw [ec] at T2
    have C1 := Lib.hid (fun wx hk => stretch_impl (txt p) (txt s) (1 + (m : Int)) (by omega) (by omega) (by rw [txt_size]; omega) (by rw [txt_size]; omega) wx hk)
    have C2 := Lib.hid (fun wx hk => stretch_impl (txt p) (txt s) (1 + (m : Int) + 1) (by omega) (by omega) (by rw [txt_size]; omega) (by rw [txt_size]; omega) wx hk)
    have C3 := Lib.hid (fun wx => stretch_spec (txt p) (txt s) (1 + (m : Int)) (by omega) (by omega) (by rw [txt_size]; omega) (by rw [txt_size]; omega) wx)
    simp only [txt_toList, strL] at C1 C2 C3
    rw [T1] at C1 C3
    rw [T2, strN_snoc] at C2
    rw [strN_snoc] at HNE
    have hAl : (strN (m + 1) p s).length ≤ 1048576 := by rw [strN_snoc, mac_len]; omega
    generalize strN (m + 1) p s = A at C1 C2 C3 HNE hAl
    have C4 := Lib.hid (fun wx hk => mac_impl (txt p) (txt A) (by rw [txt_size]; omega) (by rw [txt_size]; omega) wx hk)
    simp only [txt_toList] at C4
    have hMl := mac_len p A
    generalize macL p A = M at C2 C4 HNE hMl
    clear ec T1 T2 hp hs
    go_wp2_with fail
    refine (C1.out _ (HK.out.below b1)).mono ?_
    rintro e w3 ⟨rfl, b3⟩
    have b03 := bstep b1 b3
    go_wp2_with fail
    refine (C2.out _ (HK.out.below b03)).mono ?_
    rintro e w4 ⟨rfl, b4⟩
    have b04 := bstep b03 b4
    have hcode4 : CodeIs w4 w0.heap.size av n := hcode.below b04
    clear b1 b3 b03 b4 hcode1 C1 C2
    go_wp2_with fail
    refine (drawName_call w0.heap.size av n c _ hcode4 hn b04.size).mono ?_
    rintro e w5 ⟨sd, r, k, hsd, r0, r1, hk, rfl, b5⟩
    have b05 := bstep b04 b5
    obtain ⟨k1, k2⟩ := int_range r k r0 r1 hk.out
    obtain ⟨q1, q2⟩ := half_range k k1 k2
    have hdl := seed_len sd hsd.out
    have HS := Lib.hid (name_sep sd r k hsd.out r0 r1 hk.out)
    have D1 := Lib.hid (fun wx hk ht => name_impl (txt sd) k k1 k2 (by rw [txt_size]; omega) wx hk ht)
    have D2 := Lib.hid (fun wx hk ht => name_impl (txt sd) (k.tdiv 2 + 1) (by omega) (by omega) (by rw [txt_size]; omega) wx hk ht)
    have D3 := Lib.hid (fun wx => name_spec (txt sd) k k1 k2 (by rw [txt_size]; omega) wx)
    simp only [txt_toList] at D1 D2 D3
    have hX : (nameL sd (Lib.itoa k)).length = 16 := by unfold nameL; rw [hexL_len, List.length_take, mac_len]; rfl
    generalize nameL sd (Lib.itoa k) = X at D1 D3 HS hX
    generalize nameL sd (Lib.itoa (k.tdiv 2 + 1)) = Y at D2 HS
    clear b04 b5 hcode4 hsd hk
    go_wp2_with fail
    refine (D1.out _ (HK.out.below b05) (fun w9 b9 => HT.out _ (bstep b05 b9))).mono ?_
    rintro e w6 ⟨rfl, b6⟩
    have b06 := bstep b05 b6
    go_wp2_with fail
    refine (D2.out _ (HK.out.below b06) (fun w9 b9 => HT.out _ (bstep b06 b9))).mono ?_
    rintro e w7 ⟨rfl, b7⟩
    have b07 := bstep b06 b7
    clear b05 b06 b6 b7
    have hAA := beqT A A
    rw [decide_eq_true rfl] at hAA
    have hMM := beqT M M
    rw [decide_eq_true rfl] at hMM
    have hXX := beqT X X
    rw [decide_eq_true rfl] at hXX
    have hXs : (txt X).size = 16 := by rw [txt_size, hX]
    have SA := Lib.hid (fun wx => sametext_impl (txt A) (txt A) wx (by rw [txt_size]; omega) (by rw [txt_size]; omega))
    have SB := Lib.hid (fun wx => sametext_impl (txt A) (txt M) wx (by rw [txt_size]; omega) (by rw [txt_size]; omega))
    rw [decide_eq_true rfl] at SA
    rw [decide_eq_false (fun h => HNE.out (txt_inj h).symm)] at SB
    have hXY := beqT X Y
    go_wp2_with fail
    refine (C3.out _).mono ?_
    rintro e w8 ⟨rfl, b8⟩
    have b08 := bstep b07 b8
    go_wp2_with fail
    refine (C4.out _ (HK.out.below b08)).mono ?_
    rintro e w9 ⟨rfl, b9⟩
    have b09 := bstep b08 b9
    go_wp2_with fail
    refine (D3.out _).mono ?_
    rintro e w10 ⟨rfl, b10⟩
    have b010 := bstep b09 b10
    clear b07 b8 b08 b9 b09 b10 C3 C4 D1 D2 D3
    by_cases hkk : k = k.tdiv 2 + 1
    · rw [decide_eq_true (HS.out.2 hkk)] at hXY
      have hkb : (k == k.tdiv 2 + 1) = true := beq_iff_eq.2 hkk
      clear hkk HS
      go_wp2_with fail
      refine (SA.out _).mono ?_
      rintro e w11 ⟨rfl, b11⟩
      go_wp2_with fail
      refine (SB.out _).mono ?_
      rintro e w12 ⟨rfl, b12⟩
      go_wp2
      go_ret
      exact ⟨rfl, bstep (bstep b010 b11) b12⟩
    · rw [decide_eq_false (fun h => hkk (HS.out.1 h))] at hXY
      have hkb : (k == k.tdiv 2 + 1) = false := beq_eq_false_iff_ne.2 hkk
      clear hkk HS
      go_wp2_with fail
      refine (SA.out _).mono ?_
      rintro e w11 ⟨rfl, b11⟩
      go_wp2_with fail
      refine (SB.out _).mono ?_
      rintro e w12 ⟨rfl, b12⟩
      go_wp2
      go_ret
      exact ⟨rfl, bstep (bstep b010 b11) b12⟩
  · have hnb : decide (1048576 < n) = true := by simp; omega
    go_enter Tryd.func3, Tryd.ntmps3
    go_wp2_with fail
    refine (big_call av n c _).mono ?_
    rintro e w0 ⟨rfl, rfl⟩
    rw [hnb]
    go_wp2
    go_ret
    exact ⟨rfl, Below.refl _ _⟩

theorem table {W : World} (h : laidMetH Tryd.prog Rows.fnStretchRow.laid W) : W32At W 0 Sh.K :=
  tabK_of (show laidMet Tryd.prog Rows.fnStretchRow.laid W from h).tail.tail.tail
theorem tableP {W : World} (h : laidMetH Tryd.prog Rows.fnStretchRow.laid W) : Lib.TabIs Tryd.prog W "internal/strconv.uint64pow10" .u64 Lib.pow10Tab :=
  pow_of (show laidMet Tryd.prog Rows.fnStretchRow.laid W from h).tail.tail

/-- a world for the witness: the settled one, its tables laid -/
noncomputable def laidWorld (os : Os) : World :=
  { World.holding Tryd.prog os ⟨#[], #[], []⟩ with heap := layAll (World.holding Tryd.prog os ⟨#[], #[], []⟩).heap [(2, Rows.laid_math_bits_deBruijn32tab), (3, Rows.laid_math_bits_deBruijn64tab), (1, Rows.laid_internal_strconv_uint64pow10), (0, Rows.laid_loop_example_g00716_impl_shaRounds)] }
theorem laid_met (os : Os) : laidMet Tryd.prog Rows.fnStretchRow.laid ((laidWorld os).forCall (fun _ _ => 0) ⟨#[], #[.slice none 0 0], []⟩).memory :=
  laidMet_of_run' 8 (by kernel_rfl) (by kernel_rfl)
theorem reads (os : Os) {H : Type} (enc : TypeId × Value → H) : ∃ places, DataW.whole enc Tryd.prog ((laidWorld os).forCall (fun _ _ => 0) ⟨#[], #[.slice none 0 0], []⟩).memory Tryd.f3.params.toList Rows.fnStretchSpec.vars false #[Value.slice none 0 0].toList 8 = some ([.nil], [Rows.laid_loop_example_g00716_impl_shaRounds], places) :=
  ⟨MemPlace.row ⟨0, 0, none⟩ 64 ++ [], by kernel_rfl⟩

theorem contract (H : Type) (enc : TypeId × Value → H) (W : World) (base : Nat) (args : Array Value) (ds gs : List (DataW H)) (before : List MemPlace)
    (hval : ∀ (j : Nat) t v, Tryd.f3.params[j]? = some t → args[j]? = some v → Value.okWide Tryd.prog W .any base t v)
    (hW : DataW.Whole enc Tryd.prog Tryd.f3.params.toList Rows.fnStretchSpec.vars false W args.toList ds gs before) (hL : laidMetH Tryd.prog Rows.fnStretchRow.laid W) :
    Calls Tryd.prog 3 args W fun e W' => ∃ v, e = .returned v ∧ Rows.fnStretchSpec.post enc Tryd.prog Tryd.f3 false true false false W args v W' := by
  have hW' := hW
  obtain ⟨p, q, hA0, hV, rfl, hfz, hnd⟩ := hW
  have hA : DataW.TrodAll enc Tryd.prog W 0 (fun _ => true) true Tryd.f3.params.toList args.toList ds p := hA0
  rw [Tryd.params3] at hA hval
  obtain ⟨v0, vs0, d0, ds0, p0, q0, hargs, rfl, rfl, h0, r0⟩ := trodAll_cons hA
  obtain ⟨rfl, rfl, rfl⟩ := trodAll_nil r0
  obtain rfl : args = #[v0] := by cases args; simp_all
  obtain ⟨gv, tv, cs, fuel, dv, pv, rfl, hgl, hty, hvar, hd, rfl⟩ := trodVars_one hV
  obtain ⟨a0, len0, cap0, rfl⟩ := okWide_slice Tryd.underlying22 (hval 0 22 v0 rfl rfl)
  have k0 := h0
  have lt0 : ∀ x ∈ p0, x.block < W.heap.size := by obtain ⟨m, hm⟩ := k0; exact DataW.trod_lt m _ _ _ hm
  obtain ⟨z0, w0⟩ : ∃ zs, IsRow .u8 W a0 len0 cap0 zs := by
    obtain ⟨fuel, hf⟩ := h0
    rcases open_ints Tryd.underlying22 Tryd.underlying5 (by kernel_rfl) hf with ⟨hcs, _⟩ | ⟨x, l, c, zs, hcs, _, hl, hm, hz, _, hcell, hwz⟩
    · simp [Value.cells] at hcs
      obtain ⟨rfl, rfl, rfl⟩ := hcs
      exact ⟨[], .inl ⟨rfl, rfl, rfl, rfl⟩⟩
    · simp [Value.cells] at hcs
      obtain ⟨rfl, rfl, rfl⟩ := hcs
      exact ⟨zs, .inr ⟨_, rfl, hl, hm, by simpa using hz, hcell, hwz⟩⟩
  obtain ⟨z, hZ, hI⟩ := code_of_row w0
  clear hA0
  have hK := table hL
  refine (walk a0 len0 cap0 W hI hK (tableP hL)).mono fun e W' ⟨he, hg⟩ => ?_
  subst he
  obtain rfl : gv = 0 := Option.some.inj (hgl.symm.trans gK)
  obtain rfl : tv = 64 := Option.some.inj (hty.symm.trans gKType)
  have hT : DataW.Trod enc Tryd.prog W 0 (fun _ => true) true 64 (.agg cs) dv pv := ⟨fuel, by simpa [Value.cells] using hd⟩
  obtain ⟨fuel', hd'⟩ := Below.trod laidOut (by kernel_rfl) (of_decide_eq_true (by kernel_rfl)) hT hg (fun x hx => by obtain ⟨m, hm⟩ := hT; exact DataW.trod_lt m _ _ _ hm x hx)
  have hv' := trodVars_mk1 (enc := enc) (spare := fun b => decide (b < W.heap.size)) hgl hty (varBelow hg hgl hK.1 hvar) (by simpa [Value.cells] using hd')
  exact ⟨_, rfl, _, _, _, [], _, _, hW', (trodAll_cons_mk (shut_bool Tryd.underlying4 _) trodAll_mk0), (trodAll_cons_mk (Below.trod laidOut (by kernel_rfl) (of_decide_eq_true (by kernel_rfl)) k0 hg lt0) trodAll_mk0), hv', hg.frame _, fun h => by cases h⟩

set_option maxRecDepth 100000 in
theorem lifted (os : Os) (started : os.Started) (H : Type) (enc : TypeId × Value → H) (F : Stop.Interp) :
    ReturnsInHanded {} Tryd.checked os 3 .any ((OpenSpec.ofChange Rows.fnStretchSpec).preRow enc Tryd.prog Tryd.f3 Rows.fnStretchRow.domain false Rows.fnStretchRow.laid) (((OpenSpec.ofChange Rows.fnStretchSpec).at F).post enc Tryd.prog Tryd.f3 false true false false) := by
  obtain ⟨places, hx⟩ := reads os enc
  refine returnsInHanded_of_row (C := Tryd.checked) (s := OpenSpec.ofChange Rows.fnStretchSpec) own started (by kernel_rfl) Tryd.func3
    (witness_row_at (enc := enc) (C := Tryd.checked) false (laidWorld os) #[Value.slice none 0 0] rfl (by kernel_rfl) (by kernel_rfl) (by kernel_rfl)
      (OpenSpec.preRow_of_cond 8 hx (by kernel_rfl) (fun k hk => by cases hk) (by kernel_rfl) (laid_met os))) ?_
  intro W base args ds gs before hval hW _ _ _ hL _ _
  exact contract H enc W base args ds gs before hval hW hL

theorem said : Rows.FnStretchSaid :=
  OpenClaim.holds_of_cond 3 Tryd.f3 rfl rfl rfl rfl rfl rfl rfl ⟨rfl, rfl, rfl, rfl, rfl⟩ rfl rfl rfl rfl rfl (by kernel_rfl) Tryd.func3 (by kernel_rfl)
    (of_decide_eq_true (by kernel_rfl)) (by unfold Func.isWrapper; first | (rw [if_pos (by decide +kernel)]; kernel_rfl) | (rw [if_neg (by decide +kernel)]; exact ⟨rfl, rfl⟩))
    (fun os started H enc _ F => by rw [OpenClaim.pre_eq_preRow]; exact lifted os started H enc F)

theorem plain (f : FuncId) (fn : Func) (hf : Tryd.pinned.checked.prog.funcNamed "loop.example/g00716/laws.FnStretch" = some f) (hfn : Tryd.pinned.checked.prog.funcs[f]? = some fn) :
    false = Tryd.pinned.checked.prog.looks [] ∧ ∀ (j : Nat) t, fn.params[j]? = some t → Tryd.pinned.checked.prog.wantsStandIn t = false := by
  obtain rfl : f = 3 := Option.some.inj ((show Tryd.prog.funcNamed "loop.example/g00716/laws.FnStretch" = some 3 by kernel_rfl).symm.trans hf) |>.symm
  obtain rfl : fn = Tryd.f3 := (Option.some.inj (Tryd.func3.symm.trans hfn)).symm
  refine ⟨by kernel_rfl, fun j t ht => ?_⟩
  rw [Tryd.params3] at ht
  have hall : ((#[22] : Array TypeId).all fun t => !Tryd.prog.wantsStandIn t) = true := by kernel_rfl
  have h2 := (Array.all_eq_true_iff_forall_mem.1 hall) t (Array.mem_of_getElem? ht)
  exact (Bool.not_eq_true' _).mp h2

theorem card : Rows.FnStretchCardSaid :=
  Claim7.holds_tied_plain_at .later [] _ _ _ _ said (fun _ h => by cases h) (by kernel_rfl) (fun _ h => by cases h) fnStretch_row_tie rfl ⟨rfl, rfl⟩ (by kernel_rfl) rfl plain (by kernel_rfl)

end Go.Proofs.YtabehlipgfihkaaDoor.fnStretch
