/- Whatever bytes come in, the law FnDec answers true and leaves them as they were; the tables of the library hold what the text lays in them. -/
import Derived.Test.YtlbjahnihphckaaDoorTab
import Derived.Test.YtlbjahnihphckaaDoorDrawD
import Derived.Test.YtlbjahnihphckaaDoorPost
namespace Go.Proofs.YtlbjahnihphckaaDoor.fnDec
set_option linter.unusedVariables false
open Go.ChangeShapes Go.WideShapes Go.ChangeAt Go.RowKit
open Go.ChangeMaps (open_string shut_string)

theorem own : ownKnob Tryd.prog.godebug = none := by kernel_rfl
theorem laidOut : laidOutB Tryd.prog = true := by kernel_rfl

set_option maxRecDepth 100000 in
set_option maxHeartbeats 1600000 in
theorem walkD (av : Option Addr) (n c : Nat) (w : World) (hcode : CodeIs w w.heap.size av n) (htab : Lib.TabIs Tryd.prog w "internal/strconv.uint64pow10" .u64 Lib.pow10Tab) :
    Calls Tryd.prog 3 #[.slice av n c] w fun e w' => e = .returned (.bool true) ∧ Below w.heap.size w w' := by
  by_cases hn : n ≤ 1048576
  · have hnb : decide (1048576 < n) = false := by simp; omega
    have HT := Lib.hid (Lib.tabBelow_of_tabIs htab)
    clear htab
    go_enter Tryd.func3, Tryd.ntmps3
    go_wp2_with fail
    refine (big_call av n c _).mono ?_
    rintro e w0 ⟨rfl, rfl⟩
    rw [hnb]
    go_wp2_with fail
    refine (drawDec_call w0.heap.size av n c _ hcode hn (Nat.le_refl _)).mono ?_
    rintro e w1 ⟨x, rfl, x0, x1, b1⟩
    go_wp2_with fail
    refine (dectext_impl x x0 x1 _ (HT.out _ b1)).mono ?_
    rintro e w2 ⟨rfl, b2⟩
    have b2' : Below w0.heap.size w0 w2 := b1.trans (b2.mono b1.size)
    go_wp2_with fail
    refine (drawHex_call w0.heap.size av n c _ (hcode.below b2') hn b2'.size).mono ?_
    rintro e w3 ⟨l, hl, rfl, b3⟩
    have b3' : Below w0.heap.size w0 w3 := b2'.trans (b3.mono b2'.size)
    have hxl := hexL_len l
    have C1 := Lib.hid (fun wx => hex_impl (txt l) wx (by rw [txt_size]; omega))
    have C2 := Lib.hid (fun wx => readhex_impl_yes (txt (hexL l)) l wx (by rw [txt_size]; omega) rfl)
    have C3 := Lib.hid (fun wx => hex_spec (txt l) wx (by rw [txt_size]; omega))
    have hil : (Lib.itoa x).length ≤ 100 := by
      unfold Lib.itoa
      split
      · simp [Lib.decDigits_length]
        have := Lib.nDigits_le20 x.natAbs (by omega)
        omega
      · simp [Lib.decDigits_length]
        have := Lib.nDigits_le20 x.toNat (by omega)
        omega
    have C4 := Lib.hid (fun wx => readdec_impl (txt (Lib.itoa x)) wx (by rw [txt_size]; omega))
    rw [txt_toList] at C1 C3 C4
    clear hxl hil
    go_wp2_with fail
    refine (C1.out _).mono ?_
    rintro e w4 ⟨rfl, b4⟩
    have b4' : Below w0.heap.size w0 w4 := b3'.trans (b4.mono b3'.size)
    go_wp2_with fail
    refine (C2.out _).mono ?_
    rintro e w5 ⟨rfl, b5⟩
    have b5' : Below w0.heap.size w0 w5 := b4'.trans (b5.mono b4'.size)
    go_wp2_with fail
    refine (dec_all x _ x0 x1).mono ?_
    rintro e w6 ⟨rfl, b6⟩
    have b6' : Below w0.heap.size w0 w6 := b5'.trans (b6.mono b5'.size)
    go_wp2_with fail
    refine (C3.out _).mono ?_
    rintro e w7 ⟨rfl, b7⟩
    have b7' : Below w0.heap.size w0 w7 := b6'.trans (b7.mono b6'.size)
    by_cases hx0 : 0 ≤ x
    · by_cases hx1 : x ≤ 999999999999
      · rw [rd_itoa_in x hx0 hx1] at C4
        go_wp2_with fail
        refine (C4.out _).mono ?_
        rintro e w8 ⟨rfl, b8⟩
        go_wp2
        go_ret
        exact ⟨rfl, b7'.trans (b8.mono b7'.size)⟩
      · rw [rd_itoa_out x (.inr (by omega))] at C4
        go_wp2_with fail
        refine (C4.out _).mono ?_
        rintro e w8 ⟨rfl, b8⟩
        go_wp2
        go_ret
        exact ⟨rfl, b7'.trans (b8.mono b7'.size)⟩
    · rw [rd_itoa_out x (.inl (by omega))] at C4
      go_wp2_with fail
      refine (C4.out _).mono ?_
      rintro e w8 ⟨rfl, b8⟩
      go_wp2
      go_ret
      exact ⟨rfl, b7'.trans (b8.mono b7'.size)⟩
  · have hnb : decide (1048576 < n) = true := by simp; omega
    go_enter Tryd.func3, Tryd.ntmps3
    go_wp2_with fail
    refine (big_call av n c _).mono ?_
    rintro e w0 ⟨rfl, rfl⟩
    rw [hnb]
    go_wp2
    go_ret
    exact ⟨rfl, Below.refl _ _⟩

theorem table {W : World} (h : laidMetH Tryd.prog Rows.fnDecRow.laid W) : Lib.TabIs Tryd.prog W "internal/strconv.uint64pow10" .u64 Lib.pow10Tab :=
  pow_of (show laidMet Tryd.prog Rows.fnDecRow.laid W from h).tail.tail

/-- a world for the witness: the settled one, its tables laid -/
noncomputable def laidWorld (os : Os) : World :=
  { World.holding Tryd.prog os ⟨#[], #[], []⟩ with heap := layAll (World.holding Tryd.prog os ⟨#[], #[], []⟩).heap [(2, Rows.laid_math_bits_deBruijn32tab), (3, Rows.laid_math_bits_deBruijn64tab), (1, Rows.laid_internal_strconv_uint64pow10)] }
theorem laid_met (os : Os) : laidMet Tryd.prog Rows.fnDecRow.laid ((laidWorld os).forCall (fun _ _ => 0) ⟨#[], #[.slice none 0 0], []⟩).memory :=
  laidMet_of_run' 8 (by kernel_rfl) (by kernel_rfl)
theorem reads (os : Os) {H : Type} (enc : TypeId × Value → H) : ∃ places, DataW.whole enc Tryd.prog ((laidWorld os).forCall (fun _ _ => 0) ⟨#[], #[.slice none 0 0], []⟩).memory Tryd.f3.params.toList Rows.fnDecSpec.vars false #[Value.slice none 0 0].toList 8 = some ([.nil], [], places) :=
  ⟨[], by kernel_rfl⟩

theorem contract (H : Type) (enc : TypeId × Value → H) (W : World) (base : Nat) (args : Array Value) (ds gs : List (DataW H)) (before : List MemPlace)
    (hval : ∀ (j : Nat) t v, Tryd.f3.params[j]? = some t → args[j]? = some v → Value.okWide Tryd.prog W .any base t v)
    (hW : DataW.Whole enc Tryd.prog Tryd.f3.params.toList Rows.fnDecSpec.vars false W args.toList ds gs before) (hL : laidMetH Tryd.prog Rows.fnDecRow.laid W) :
    Calls Tryd.prog 3 args W fun e W' => ∃ v, e = .returned v ∧ Rows.fnDecSpec.post enc Tryd.prog Tryd.f3 false true false false W args v W' := by
  have hW' := hW
  obtain ⟨p, q, hA0, hV, rfl, hfz, hnd⟩ := hW
  have hA : DataW.TrodAll enc Tryd.prog W 0 (fun _ => true) true Tryd.f3.params.toList args.toList ds p := hA0
  rw [Tryd.params3] at hA hval
  obtain ⟨v0, vs0, d0, ds0, p0, q0, hargs, rfl, rfl, h0, r0⟩ := trodAll_cons hA
  obtain ⟨rfl, rfl, rfl⟩ := trodAll_nil r0
  obtain rfl : args = #[v0] := by cases args; simp_all
  obtain ⟨rfl, rfl⟩ := trodVars_none hV
  obtain ⟨a0, len0, cap0, rfl⟩ := okWide_slice Tryd.underlying22 (hval 0 22 v0 rfl rfl)
  have k0 := h0
  have lt0 : ∀ x ∈ p0, x.block < W.heap.size := by obtain ⟨m, hm⟩ := k0; exact DataW.trod_lt m _ _ _ hm
  obtain ⟨z0, w0⟩ : ∃ zs, IsRow .u8 W a0 len0 cap0 zs := by
    obtain ⟨fuel, hf⟩ := h0
    rcases open_ints Tryd.underlying22 Tryd.underlying5 (by kernel_rfl) hf with ⟨hcs, _⟩ | ⟨x, l, c, zs, hcs, _, hl, hm, hz, _, hcell, hwz⟩
    · simp [Value.cells] at hcs
      obtain ⟨rfl, rfl, rfl⟩ := hcs
      exact ⟨[], .inl ⟨rfl, rfl, rfl, rfl⟩⟩
    · simp [Value.cells] at hcs
      obtain ⟨rfl, rfl, rfl⟩ := hcs
      exact ⟨zs, .inr ⟨_, rfl, hl, hm, by simpa using hz, hcell, hwz⟩⟩
  obtain ⟨z, hZ, hI⟩ := code_of_row w0
  clear hA0
  simp only [List.append_nil] at hW'
  refine (walkD a0 len0 cap0 W hI (table hL)).mono fun e W' ⟨he, hg⟩ => ?_
  subst he
  exact ⟨_, rfl, _, _, _, [], _, [], hW', (trodAll_cons_mk (shut_bool Tryd.underlying4 _) trodAll_mk0), (trodAll_cons_mk (Below.trod laidOut (by kernel_rfl) (of_decide_eq_true (by kernel_rfl)) k0 hg lt0) trodAll_mk0), rfl, hg.frame _, fun h => by cases h⟩

set_option maxRecDepth 100000 in
theorem lifted (os : Os) (started : os.Started) (H : Type) (enc : TypeId × Value → H) (F : Stop.Interp) :
    ReturnsInHanded {} Tryd.checked os 3 .any ((OpenSpec.ofChange Rows.fnDecSpec).preRow enc Tryd.prog Tryd.f3 Rows.fnDecRow.domain false Rows.fnDecRow.laid) (((OpenSpec.ofChange Rows.fnDecSpec).at F).post enc Tryd.prog Tryd.f3 false true false false) := by
  obtain ⟨places, hx⟩ := reads os enc
  refine returnsInHanded_of_row (C := Tryd.checked) (s := OpenSpec.ofChange Rows.fnDecSpec) own started (by kernel_rfl) Tryd.func3
    (witness_row_at (enc := enc) (C := Tryd.checked) false (laidWorld os) #[.slice none 0 0] rfl (by kernel_rfl) (by kernel_rfl) (by kernel_rfl)
      (OpenSpec.preRow_of_cond 8 hx (by kernel_rfl) (fun k hk => by cases hk) (by kernel_rfl) (laid_met os))) ?_
  intro W base args ds gs before hval hW _ _ _ hL _ _
  exact contract H enc W base args ds gs before hval hW hL

theorem said : Rows.FnDecSaid :=
  OpenClaim.holds_of_cond 3 Tryd.f3 rfl rfl rfl rfl rfl rfl rfl ⟨rfl, rfl, rfl, rfl, rfl⟩ rfl rfl rfl rfl rfl (by kernel_rfl) Tryd.func3 (by kernel_rfl)
    (of_decide_eq_true (by kernel_rfl)) (by unfold Func.isWrapper; first | (rw [if_pos (by decide +kernel)]; kernel_rfl) | (rw [if_neg (by decide +kernel)]; exact ⟨rfl, rfl⟩))
    (fun os started H enc _ F => by rw [OpenClaim.pre_eq_preRow]; exact lifted os started H enc F)

theorem plain (f : FuncId) (fn : Func) (hf : Tryd.pinned.checked.prog.funcNamed "loop.example/g00716/laws.FnDec" = some f) (hfn : Tryd.pinned.checked.prog.funcs[f]? = some fn) :
    false = Tryd.pinned.checked.prog.looks [] ∧ ∀ (j : Nat) t, fn.params[j]? = some t → Tryd.pinned.checked.prog.wantsStandIn t = false := by
  obtain rfl : f = 3 := Option.some.inj ((show Tryd.prog.funcNamed "loop.example/g00716/laws.FnDec" = some 3 by kernel_rfl).symm.trans hf) |>.symm
  obtain rfl : fn = Tryd.f3 := (Option.some.inj (Tryd.func3.symm.trans hfn)).symm
  refine ⟨by kernel_rfl, fun j t ht => ?_⟩
  rw [Tryd.params3] at ht
  have ht2 := Array.mem_of_getElem? ht
  have hts : t = 22 := by simpa using ht2
  subst hts
  exact (show Tryd.prog.wantsStandIn 22 = false by kernel_rfl)

theorem card : Rows.FnDecCardSaid :=
  Claim7.holds_tied_plain_at .later [] _ _ _ _ said (fun _ h => by cases h) (by kernel_rfl) (fun _ h => by cases h) fnDec_row_tie rfl ⟨rfl, rfl⟩ (by kernel_rfl) rfl plain (by kernel_rfl)

end Go.Proofs.YtlbjahnihphckaaDoor.fnDec
