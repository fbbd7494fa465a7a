/- Whatever bytes come in, the law FnForm answers true and leaves them as they were; the tables of the library hold what the text lays in them. -/
import Derived.Test.YtmihhfabaihjoaaDoorTabU
import Derived.Test.YtmihhfabaihjoaaDoorGetI
import Derived.Test.YtmihhfabaihjoaaDoorDrawQ
import Derived.Test.YtmihhfabaihjoaaDoorSame
import Derived.Test.YtmihhfabaihjoaaDoorPost
namespace Go.Proofs.YtmihhfabaihjoaaDoor.fnForm
set_option linter.unusedVariables false
set_option maxRecDepth 4000
open Go.ChangeShapes Go.WideShapes Go.ChangeAt Go.RowKit
open Go.ChangeMaps (open_string shut_string)

theorem own : ownKnob Tryd.prog.godebug = none := by kernel_rfl
theorem laidOut : laidOutB Tryd.prog = true := by kernel_rfl

theorem find_none_drop (key : List UInt8) (l : List PairL) : findL key l = none → ∀ p ∈ l, p.1 ≠ key := by
  induction l with
  | nil => intro _ p hp; cases hp
  | cons q r ih =>
    intro h p hp
    rw [findL] at h
    by_cases he : q.1 = key
    · rw [if_pos he] at h; cases h
    · rw [if_neg he] at h
      rcases List.mem_cons.1 hp with rfl | hp
      · exact he
      · exact ih h p hp

set_option maxRecDepth 100000 in
set_option maxHeartbeats 3200000 in
theorem walkD (av : Option Addr) (n c : Nat) (w : World) (hcode : CodeIs w w.heap.size av n) (hm : HM w) :
    Calls Tryd.prog 3 #[.slice av n c] w fun e w' => e = .returned (.bool true) ∧ Below w.heap.size w w' := by
  by_cases hn : n ≤ 1048576
  · have hnb : decide (1048576 < n) = false := by simp; omega
    go_enter Tryd.func3, Tryd.ntmps3
    go_wp2_with fail
    refine (big_call av n c _).mono ?_
    rintro e w0 ⟨rfl, rfl⟩
    rw [hnb]
    go_wp2_with fail
    refine (drawPutForm_call w0.heap.size av n c _ hcode hn (Nat.le_refl _)).mono ?_
    rintro e w1 ⟨L, v, hS, rfl, o1, b1⟩
    have hn5 := hS.1
    have hpl := small_put hS
    have C1 := Lib.hid (fun base v wx ho hb => putform_impl base v L wx ho (by omega) hb (small_mem hS) (by omega))
    have C2 := Lib.hid (fun base v wx ho hb => putform_spec base v L wx ho (by omega) hb (small_mem hS) (fun k => by have := small_put (small_take hS k); omega))
    have G := Lib.hid (fun wx h => getform_impl (putL L) wx (by omega) h)
    rw [put_back L (by omega)] at G
    simp only [Option.getD_some, getV] at G
    generalize putL L = pl at hpl C1 C2 G
    go_wp2_with fail
    refine (C1.out _ _ _ o1 b1.size).mono ?_
    rintro e w2 ⟨rfl, b2⟩
    have b12 := bstep b1 b2
    go_wp2_with fail
    refine (G.out _ (hm.below b12)).mono ?_
    rintro e w3 ⟨a3, c3, c3', e3, rfl, o3, b3⟩
    have b13 := bstep b12 b3
    have o1c := ownsRow_below (ownsRow_below o1 b2) b3
    go_wp2_with fail
    refine (C2.out _ _ _ o1c b13.size).mono ?_
    rintro e w4 ⟨rfl, b4⟩
    have b14 := bstep b13 b4
    go_wp2_with fail
    refine (samePairs_call _ _ L _ (by obtain ⟨a, c, he, h⟩ := PAt.own (ownsRow_below o3 b4); cases he; exact ⟨_, _, rfl, h⟩) (PAt.own (ownsRow_below o1c b4)) (by omega)).mono ?_
    rintro e w5 ⟨rfl, b5⟩
    have b15 := bstep b14 b5
    go_wp2_with fail
    refine (drawValue_call w0.heap.size av n c _ (hcode.keep (fun k hk => b15.block k hk)) hn b15.size).mono ?_
    rintro e w6 ⟨M, v6, key, hS6, hkl, rfl, o6, b6⟩
    have b16 := bstep b15 b6
    have hm5 := hS6.1
    have V := Lib.hid (fun base v wx ho => value_impl base v M key wx ho (by omega))
    obtain ⟨a6, cap6, rfl⟩ := own_val2 o6
    cases hR : findL key M with
    | none =>
      have HN := Lib.hid (find_none_drop key M hR)
      rw [hR, unR] at V
      clear hR
      go_wp2_with fail
      refine (V.out _ _ _ o6).mono ?_
      rintro e w7 ⟨rfl, b7⟩
      have b17 := bstep b16 b7
      have o7 := ownsRow_below o6 b7
      go_wp2
      go_loopw [11] (fun i wr => ∃ k : Nat, k ≤ M.length ∧ i = .int .i64 k ∧ wr = w7) (fun i _ => M.length - (intOf i).toNat)
      case atStart => exact ⟨0, by omega, rfl, rfl⟩
      case round =>
        obtain ⟨k, hk, rfl, rfl⟩ := hrel
        by_cases hlt : k < M.length
        · obtain ⟨g, rfl, hg1, hg2⟩ := own_at2 o7 (by omega)
          obtain ⟨c1, c2⟩ := own_cell2 o7 k hlt rfl
          have hi0 : (0 : Int) ≤ (k : Int) := by omega
          have hi1 : (k : Int) < (M.length : Int) := by omega
          have hne := HN.out _ (List.getElem_mem hlt)
          generalize M[k] = p at c1 c2 hne
          obtain ⟨pk, pv⟩ := p
          simp only at c1 c2 hne
          have hb := txt_beq pk key
          rw [decide_eq_false hne] at hb
          clear hne
          go_wp2
          exact ⟨⟨k + 1, by omega, by go_num, trivial⟩, by simp [intOf]; omega⟩
        · go_wp2
          go_ret
          exact ⟨rfl, b17⟩
    | some vv =>
      rw [hR, unR] at V
      go_wp2_with fail
      refine (V.out _ _ _ o6).mono ?_
      rintro e w7 ⟨rfl, b7⟩
      have b17 := bstep b16 b7
      have o7 := ownsRow_below o6 b7
      go_wp2
      go_loopw [11] (fun i wr => ∃ k : Nat, k ≤ M.length ∧ i = .int .i64 k ∧ Hid (findL key (M.drop k) = some vv) ∧ wr = w7) (fun i _ => M.length - (intOf i).toNat)
      case atStart => exact ⟨0, by omega, rfl, Lib.hid hR, rfl⟩
      case round =>
        obtain ⟨k, hk, rfl, hF, rfl⟩ := hrel
        by_cases hlt : k < M.length
        · obtain ⟨g, rfl, hg1, hg2⟩ := own_at2 o7 (by omega)
          obtain ⟨c1, c2⟩ := own_cell2 o7 k hlt rfl
          have hi0 : (0 : Int) ≤ (k : Int) := by omega
          have hi1 : (k : Int) < (M.length : Int) := by omega
          have hd : M.drop k = M[k] :: M.drop (k + 1) := List.drop_eq_getElem_cons hlt
          have hf2 := hF.out
          rw [hd, findL] at hf2
          clear hd
          generalize M[k] = p at c1 c2 hf2
          obtain ⟨pk, pv⟩ := p
          simp only at c1 c2 hf2
          by_cases he : pk = key
          · have hb := txt_beq pk key
            rw [decide_eq_true he] at hb
            rw [if_pos he] at hf2
            obtain rfl : pv = vv := Option.some.inj hf2
            have hv := txt_beq pv pv
            rw [decide_eq_true rfl] at hv
            clear he hf2 hF
            go_wp2
            go_ret
            exact ⟨rfl, b17⟩
          · have hb := txt_beq pk key
            rw [decide_eq_false he] at hb
            rw [if_neg he] at hf2
            have HF2 := Lib.hid hf2
            clear he hf2 hF
            go_wp2
            exact ⟨⟨k + 1, by omega, by go_num, HF2, trivial⟩, by simp [intOf]; omega⟩
        · have he : M.drop k = [] := List.drop_eq_nil_of_le (by omega)
          have hf2 := hF.out
          rw [he, findL] at hf2
          cases hf2
  · have hnb : decide (1048576 < n) = true := by simp; omega
    go_enter Tryd.func3, Tryd.ntmps3
    go_wp2_with fail
    refine (big_call av n c _).mono ?_
    rintro e w0 ⟨rfl, rfl⟩
    rw [hnb]
    go_wp2
    go_ret
    exact ⟨rfl, Below.refl _ _⟩

/-- a world for the witness: the settled one, its tables laid -/
noncomputable def laidWorld (os : Os) : World :=
  { World.holding Tryd.prog os ⟨#[], #[], []⟩ with heap := layFlat (World.holding Tryd.prog os ⟨#[], #[], []⟩).heap [(2, Rows.laid_unicode_utf8_acceptRanges), (1, Rows.laid_unicode_utf8_first)] }
theorem laid_met (os : Os) : laidMet Tryd.prog Rows.fnFormRow.laid ((laidWorld os).forCall (fun _ _ => 0) ⟨#[], #[.slice none 0 0], []⟩).memory :=
  laidMet_of_run' 8 (by kernel_rfl) (by kernel_rfl)
theorem reads (os : Os) {H : Type} (enc : TypeId × Value → H) : ∃ places, DataW.whole enc Tryd.prog ((laidWorld os).forCall (fun _ _ => 0) ⟨#[], #[.slice none 0 0], []⟩).memory Tryd.f3.params.toList Rows.fnFormSpec.vars false #[Value.slice none 0 0].toList 8 = some ([.nil], [], places) :=
  ⟨[], by kernel_rfl⟩

theorem contract (H : Type) (enc : TypeId × Value → H) (W : World) (base : Nat) (args : Array Value) (ds gs : List (DataW H)) (before : List MemPlace)
    (hval : ∀ (j : Nat) t v, Tryd.f3.params[j]? = some t → args[j]? = some v → Value.okWide Tryd.prog W .any base t v)
    (hW : DataW.Whole enc Tryd.prog Tryd.f3.params.toList Rows.fnFormSpec.vars false W args.toList ds gs before) (hS : W.ShapedOpen Tryd.prog) :
    Calls Tryd.prog 3 args W fun e W' => ∃ v, e = .returned v ∧ Rows.fnFormSpec.post enc Tryd.prog Tryd.f3 false true false false W args v W' := by
  have hW' := hW
  obtain ⟨p, q, hA0, hV, rfl, hfz, hnd⟩ := hW
  have hA : DataW.TrodAll enc Tryd.prog W 0 (fun _ => true) true Tryd.f3.params.toList args.toList ds p := hA0
  rw [Tryd.params3] at hA hval
  obtain ⟨v0, vs0, d0, ds0, p0, q0, hargs, rfl, rfl, h0, r0⟩ := trodAll_cons hA
  obtain ⟨rfl, rfl, rfl⟩ := trodAll_nil r0
  obtain rfl : args = #[v0] := by cases args; simp_all
  obtain ⟨rfl, rfl⟩ := trodVars_none hV
  obtain ⟨a0, len0, cap0, rfl⟩ := okWide_slice Tryd.underlying22 (hval 0 22 v0 rfl rfl)
  have k0 := h0
  have lt0 : ∀ x ∈ p0, x.block < W.heap.size := by obtain ⟨m, hm⟩ := k0; exact DataW.trod_lt m _ _ _ hm
  obtain ⟨z0, w0⟩ : ∃ zs, IsRow .u8 W a0 len0 cap0 zs := by
    obtain ⟨fuel, hf⟩ := h0
    rcases open_ints Tryd.underlying22 Tryd.underlying5 (by kernel_rfl) hf with ⟨hcs, _⟩ | ⟨x, l, c, zs, hcs, _, hl, hm, hz, _, hcell, hwz⟩
    · simp [Value.cells] at hcs
      obtain ⟨rfl, rfl, rfl⟩ := hcs
      exact ⟨[], .inl ⟨rfl, rfl, rfl, rfl⟩⟩
    · simp [Value.cells] at hcs
      obtain ⟨rfl, rfl, rfl⟩ := hcs
      exact ⟨zs, .inr ⟨_, rfl, hl, hm, by simpa using hz, hcell, hwz⟩⟩
  obtain ⟨z, hZ, hI⟩ := code_of_row w0
  clear hA0
  simp only [List.append_nil] at hW'
  refine (walkD a0 len0 cap0 W hI (hm_of hS)).mono fun e W' ⟨he, hg⟩ => ?_
  subst he
  exact ⟨_, rfl, _, _, _, [], _, [], hW', (trodAll_cons_mk (shut_bool Tryd.underlying4 _) trodAll_mk0), (trodAll_cons_mk (Below.trod laidOut (by kernel_rfl) (of_decide_eq_true (by kernel_rfl)) k0 hg lt0) trodAll_mk0), rfl, hg.frame _, fun h => by cases h⟩

set_option maxRecDepth 100000 in
theorem lifted (os : Os) (started : os.Started) (H : Type) (enc : TypeId × Value → H) (F : Stop.Interp) :
    ReturnsInHanded {} Tryd.checked os 3 .any ((OpenSpec.ofChange Rows.fnFormSpec).preRow enc Tryd.prog Tryd.f3 Rows.fnFormRow.domain false Rows.fnFormRow.laid) (((OpenSpec.ofChange Rows.fnFormSpec).at F).post enc Tryd.prog Tryd.f3 false true false false) := by
  obtain ⟨places, hx⟩ := reads os enc
  refine returnsInHanded_of_row (C := Tryd.checked) (s := OpenSpec.ofChange Rows.fnFormSpec) own started (by kernel_rfl) Tryd.func3
    (witness_row_at (enc := enc) (C := Tryd.checked) false (laidWorld os) #[.slice none 0 0] rfl (by kernel_rfl) (by kernel_rfl) (by kernel_rfl)
      (OpenSpec.preRow_of_cond 8 hx (by kernel_rfl) (fun k hk => by cases hk) (by kernel_rfl) (laid_met os))) ?_
  intro W base args ds gs before hval hW _ _ _ _ hS _
  exact contract H enc W base args ds gs before hval hW hS

theorem said : Rows.FnFormSaid :=
  OpenClaim.holds_of_cond 3 Tryd.f3 rfl rfl rfl rfl rfl rfl rfl ⟨rfl, rfl, rfl, rfl, rfl⟩ rfl rfl rfl rfl rfl (by kernel_rfl) Tryd.func3 (by kernel_rfl)
    (of_decide_eq_true (by kernel_rfl)) (by unfold Func.isWrapper; first | (rw [if_pos (by decide +kernel)]; kernel_rfl) | (rw [if_neg (by decide +kernel)]; exact ⟨rfl, rfl⟩))
    (fun os started H enc _ F => by rw [OpenClaim.pre_eq_preRow]; exact lifted os started H enc F)

theorem plain (f : FuncId) (fn : Func) (hf : Tryd.pinned.checked.prog.funcNamed "loop.example/g00716/laws.FnForm" = some f) (hfn : Tryd.pinned.checked.prog.funcs[f]? = some fn) :
    false = Tryd.pinned.checked.prog.looks [] ∧ ∀ (j : Nat) t, fn.params[j]? = some t → Tryd.pinned.checked.prog.wantsStandIn t = false := by
  obtain rfl : f = 3 := Option.some.inj ((show Tryd.prog.funcNamed "loop.example/g00716/laws.FnForm" = some 3 by kernel_rfl).symm.trans hf) |>.symm
  obtain rfl : fn = Tryd.f3 := (Option.some.inj (Tryd.func3.symm.trans hfn)).symm
  refine ⟨by kernel_rfl, fun j t ht => ?_⟩
  rw [Tryd.params3] at ht
  have ht2 := Array.mem_of_getElem? ht
  have hts : t = 22 := by simpa using ht2
  subst hts
  exact (show Tryd.prog.wantsStandIn 22 = false by kernel_rfl)

theorem card : Rows.FnFormCardSaid :=
  Claim7.holds_tied_plain_at .later [] _ _ _ _ said (fun _ h => by cases h) (by kernel_rfl) (fun _ h => by cases h) fnForm_row_tie rfl ⟨rfl, rfl⟩ (by kernel_rfl) rfl plain (by kernel_rfl)

end Go.Proofs.YtmihhfabaihjoaaDoor.fnForm
