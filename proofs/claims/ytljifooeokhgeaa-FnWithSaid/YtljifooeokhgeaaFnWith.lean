/- Whatever bytes come in, the law FnWith answers true and leaves them as they were. No condition. -/
import Derived.Test.YtljifooeokhgeaaRows
import Derived.Test.YtljifooeokhgeaaFldE
import Derived.Test.YtljifooeokhgeaaFldW
import Derived.Test.YtljifooeokhgeaaPost
namespace Go.Proofs.Ytljifooeokhgeaa.fnWith
set_option linter.unusedVariables false
set_option maxRecDepth 4000
open Go.ChangeShapes Go.WideShapes Go.ChangeAt Go.RowKit
open Go.ChangeMaps (open_string shut_string)
open Fld

theorem own : ownKnob Try.prog.godebug = none := by kernel_rfl
theorem laidOut : laidOutB Try.prog = true := by kernel_rfl

set_option maxRecDepth 100000 in
set_option maxHeartbeats 1600000 in
theorem walkC (av : Option Addr) (n c : Nat) (w : World) (hcode : CodeIs w w.heap.size av n) :
    Calls Try.prog 3 #[.slice av n c] w fun e w' => e = .returned (.bool true) ∧ Below w.heap.size w w' := by
  by_cases hn : n ≤ 1048576
  · have hnb : decide (1048576 < n) = false := by simp; omega
    go_enter Try.func3, Try.ntmps3
    go_wp2_with fail
    refine (big_call av n c _).mono ?_
    rintro e w0 ⟨rfl, rfl⟩
    rw [hnb]
    go_wp2_with fail
    refine (drawWith_call w0.heap.size av n c _ hcode hn (Nat.le_refl _)).mono ?_
    rintro e w1 ⟨L, v, key, text, hl, hok, hk, ht, rfl, o1, b1⟩
    have C1 := Lib.hid (fun wx hx => withText_impl w0.heap.size v L key text wx hx (by omega) hok (by omega) (by omega))
    have C2 := Lib.hid (fun wx hx => withText_spec w0.heap.size v L key text wx hx (by omega) hok (by omega) (by omega))
    have hwl := withL_len L key text (by omega)
    have hokn := newL_okM L key text hok (by omega) (by omega)
    have HW := Lib.hid (withL_is L key text)
    have hnl := newL_len L key text
    clear hok
    generalize withL L key text = W at C1 C2 hwl HW
    have E1 := Lib.hid (fun v1 v2 wx h1 h2 => sameFields_call v1 v2 W W wx h1 h2 (by omega) (by omega))
    have E2 := Lib.hid (fun v1 v2 wx h1 h2 => sameFields_call v1 v2 W L wx h1 h2 (by omega) (by omega))
    rw [decide_eq_true rfl] at E1
    go_wp2_with fail
    refine (C1.out _ o1).mono ?_
    rintro e w2 ⟨v2, rfl, o2, b2⟩
    have o12 := ownsRow_below o1 b2
    have b02 := bstep b1 b2
    go_wp2_with fail
    refine (C2.out _ o12).mono ?_
    rintro e w3 ⟨v3, rfl, o3, b3⟩
    have o13 := ownsRow_below o12 b3
    have o23 := ownsRow_below o2 b3
    have b03 := bstep b02 b3
    clear o12 b1 b2 b3 b02 C1 C2
    go_wp2_with fail
    refine (E1.out _ _ _ (Grid.GAt.own fc_len o23) (Grid.GAt.own fc_len o3)).mono ?_
    rintro e w4 ⟨rfl, b4⟩
    have o14 := ownsRow_below o13 b4
    have o24 := ownsRow_below o23 b4
    have b04 := bstep b03 b4
    clear o13 o23 b03 b4 o3 E1
    by_cases hW : W = L
    · rw [decide_eq_true hW] at E2
      clear hW HW hokn
      go_wp2_with fail
      refine (E2.out _ _ _ (Grid.GAt.own fc_len o24) (Grid.GAt.own fc_len o14)).mono ?_
      rintro e w5 ⟨rfl, b5⟩
      go_wp2
      go_ret
      exact ⟨rfl, bstep b04 b5⟩
    · rw [decide_eq_false hW] at E2
      obtain ⟨hWN, hfL, hfN⟩ := HW.out hW
      have HND := Lib.hid (fieldsR_nodup hfL)
      have T := Lib.hid (fun wx hx => textOf_impl v2 (newL L key text) key wx hx (by omega))
      rw [newL_text] at T
      have NK := Lib.hid (fun wx hx => numOf_impl v2 (newL L key text) key wx hx (by omega))
      rw [newL_num] at NK
      have F := Lib.hid (fun wx hx => fieldsOk_impl v2 (newL L key text) wx hx (by omega) hokn)
      rw [hfN] at F
      have NO := Lib.hid (fun (k : Nat) (hk : k < L.length) (h1 : L[k].1 ≠ key) (h2 : L[k].2.2.2 = true) wx hx => newL_other L key text HND.out k hk h1 h2 ▸ numOf_impl v2 (newL L key text) L[k].1 wx hx (by omega))
      clear HW hW hfL hfN hokn
      subst hWN
      generalize newL L key text = M at *
      go_wp2_with fail
      refine (E2.out _ _ _ (Grid.GAt.own fc_len o24) (Grid.GAt.own fc_len o14)).mono ?_
      rintro e w5 ⟨rfl, b5⟩
      have o15 := ownsRow_below o14 b5
      have o25 := ownsRow_below o24 b5
      have b05 := bstep b04 b5
      clear o14 o24 b04 b5 E2
      go_wp2_with fail
      refine (T.out _ (Grid.GAt.own fc_len o25)).mono ?_
      rintro e w6 ⟨rfl, b6⟩
      have f1 := Lib.hid (Grid.GAt.own fc_len (ownsRow_below o15 b6))
      have f2 := Lib.hid (Grid.GAt.own fc_len (ownsRow_below o25 b6))
      have b06 := bstep b05 b6
      obtain ⟨a, cap, rfl⟩ := Grid.own_val o15
      clear o15 o25 b05 b6 T o1 o2
      go_wp2
      go_loopw [9] (fun i wr => ∃ k : Nat, k ≤ L.length ∧ i = .int .i64 k ∧ Below w6.heap.size w6 wr) (fun i _ => L.length - (intOf i).toNat)
      case atStart => exact ⟨0, by omega, rfl, Below.refl _ _⟩
      case round =>
        obtain ⟨k, hk, rfl, hbel⟩ := hrel
        by_cases hlt : k < L.length
        · obtain ⟨g, off, rfl, hg, c1, c2, c3, c4⟩ := FAt.cells (Grid.GAt.below f1.out hbel) k hlt
          have hi0 : (0 : Int) ≤ (k : Int) := by omega
          have hi1 : (k : Int) < (L.length : Int) := by omega
          have hb := txt_beq L[k].1 key
          have N := Lib.hid (NO.out k hlt)
          generalize L[k] = p at c1 c2 c3 c4 hb N
          obtain ⟨pk, pt, pn, pb⟩ := p
          simp only at c1 c2 c3 c4 hb N
          by_cases he : pk = key
          · rw [decide_eq_true he] at hb
            clear he N NO c2 c3 c4
            go_wp2
            go_quiet (fail)
            go_wp2
            go_roundw
            case rel => exact ⟨k + 1, by omega, by go_num, below_drewN hbel _⟩
            case measure => simp [intOf]; omega
          · rw [decide_eq_false he] at hb
            cases pb with
            | false =>
              clear he N NO c2 c3
              go_wp2
              go_quiet (fail)
              go_wp2
              go_roundw
              case rel => exact ⟨k + 1, by omega, by go_num, below_drewN hbel _⟩
              case measure => simp [intOf]; omega
            | true =>
              have N2 := Lib.hid (N.out he rfl)
              have f2d := Grid.GAt.below (Grid.GAt.below f2.out hbel) ((Below.refl wr.heap.size wr).drew)
              have hbeld := hbel.drew
              clear he N NO c2
              go_wp2
              go_region_held3 (fun X => X.cell? ⟨g, off + k * 4, none⟩ = some (.string (txt pk)) ∧ X.cell? ⟨g, off + k * 4 + 2, none⟩ = some (.int .i64 pn) ∧ X.cell? ⟨g, off + k * 4 + 3, none⟩ = some (.bool true))
                (first
                  | exact ⟨c1, c3, c4⟩
                  | exact ⟨(bc.cell (p := ⟨g, _, none⟩) hg).trans c1, (bc.cell (p := ⟨g, _, none⟩) hg).trans c3, (bc.cell (p := ⟨g, _, none⟩) hg).trans c4⟩)
                ((go_simp; go_at_call 13; refine (N2.out _ f2d).mono ?_; rintro e wc ⟨rfl, bc⟩))
              all_goals
                go_wp2
                go_roundw
                case rel => exact ⟨k + 1, by omega, by go_num, bstep hbeld bc⟩
                case measure => simp [intOf]; omega
        · have hb := txt_beq text text
          rw [decide_eq_true rfl] at hb
          have g2 := Lib.hid (Grid.GAt.below f2.out hbel)
          have b0r := bstep b06 hbel
          clear f1 f2 hbel b06 NO
          go_wp2_with fail
          refine (F.out _ g2.out).mono ?_
          rintro e w7 ⟨rfl, b7⟩
          have g3 := Lib.hid (Grid.GAt.below g2.out b7)
          go_wp2_with fail
          refine (NK.out _ g3.out).mono ?_
          rintro e w8 ⟨rfl, b8⟩
          go_wp2
          go_ret
          exact ⟨rfl, bstep (bstep b0r b7) b8⟩
  · have hnb : decide (1048576 < n) = true := by simp; omega
    go_enter Try.func3, Try.ntmps3
    go_wp2_with fail
    refine (big_call av n c _).mono ?_
    rintro e w0 ⟨rfl, rfl⟩
    rw [hnb]
    go_wp2
    go_ret
    exact ⟨rfl, Below.refl _ _⟩

set_option maxRecDepth 100000 in
theorem lifted (os : Os) (started : os.Started) (H : Type) (enc : TypeId × Value → H) :
    ReturnsInHanded {} Try.checked os 3 .any (Rows.fnWithSpec.pre6 enc Try.prog Try.f3 Rows.fnWithRow.domain false) (Rows.fnWithSpec.post enc Try.prog Try.f3 false true false false) := by
  refine returnsInHanded_of_change (C := Try.checked) own started (by kernel_rfl) Try.func3
    (ChangeSpec.witness6 (enc := enc) (C := Try.checked) false ⟨#[], #[.slice none 0 0], []⟩ 8 (by kernel_rfl) (by kernel_rfl) (by kernel_rfl) (by kernel_rfl)) ?_
  intro W base args ds gs before hval0 hW hcnd _
  have hval : ∀ (j : Nat) t v, Try.f3.params[j]? = some t → args[j]? = some v → Value.okWide Try.prog W .any base t v := hval0
  have hW' := hW
  obtain ⟨p, q, hA0, hV, rfl, hfz, hnd⟩ := hW
  have hA : DataW.TrodAll enc Try.prog W 0 (fun _ => true) true Try.f3.params.toList args.toList ds p := hA0
  rw [Try.params3] at hA hval
  obtain ⟨v0, vs0, d0, ds0, p0, q0, hargs, rfl, rfl, h0, r0⟩ := trodAll_cons hA
  obtain ⟨rfl, rfl, rfl⟩ := trodAll_nil r0
  obtain rfl : args = #[v0] := by cases args; simp_all
  obtain ⟨rfl, rfl⟩ := trodVars_none hV
  obtain ⟨a0, len0, cap0, rfl⟩ := okWide_slice Try.underlying22 (hval 0 22 v0 rfl rfl)
  have k0 := h0
  have lt0 : ∀ x ∈ p0, x.block < W.heap.size := by obtain ⟨m, hm⟩ := k0; exact DataW.trod_lt m _ _ _ hm
  obtain ⟨z0, w0⟩ : ∃ zs, IsRow .u8 W a0 len0 cap0 zs := by
    obtain ⟨fuel, hf⟩ := h0
    rcases open_ints Try.underlying22 Try.underlying5 (by kernel_rfl) hf with ⟨hcs, _⟩ | ⟨x, l, c, zs, hcs, _, hl, hm, hz, _, hcell, hwz⟩
    · simp [Value.cells] at hcs
      obtain ⟨rfl, rfl, rfl⟩ := hcs
      exact ⟨[], .inl ⟨rfl, rfl, rfl, rfl⟩⟩
    · simp [Value.cells] at hcs
      obtain ⟨rfl, rfl, rfl⟩ := hcs
      exact ⟨zs, .inr ⟨_, rfl, hl, hm, by simpa using hz, hcell, hwz⟩⟩
  obtain ⟨z, hZ, hI⟩ := code_of_row w0
  clear hA0 hval0
  simp only [List.append_nil] at hW'
  refine (walkC a0 len0 cap0 W hI).mono fun e W' ⟨he, hg⟩ => ?_
  subst he
  exact ⟨_, rfl, _, _, _, [], _, [], hW', (trodAll_cons_mk (shut_bool Try.underlying4 _) trodAll_mk0), (trodAll_cons_mk (Below.trod laidOut (by kernel_rfl) (of_decide_eq_true (by kernel_rfl)) k0 hg lt0) trodAll_mk0), rfl, hg.frame _, fun h => by cases h⟩

theorem over : Rows.fnWithRow.holds Try.pinned (OpenSpec.ofChange Rows.fnWithSpec) :=
  OpenClaim.holds_of_wide 3 Try.f3 rfl rfl rfl rfl rfl rfl rfl ⟨rfl, rfl, rfl, rfl, rfl⟩ rfl rfl rfl rfl rfl (by kernel_rfl) Try.func3 (by kernel_rfl)
    (of_decide_eq_true (by kernel_rfl)) (by unfold Func.isWrapper; first | (rw [if_pos (by decide +kernel)]; kernel_rfl) | (rw [if_neg (by decide +kernel)]; exact ⟨rfl, rfl⟩))
    (fun os started H enc _ => lifted os started H enc)

theorem proved : Rows.FnWithSaid := over

end Go.Proofs.Ytljifooeokhgeaa.fnWith
