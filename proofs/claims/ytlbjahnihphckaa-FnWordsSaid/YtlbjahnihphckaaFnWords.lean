/- Whatever bytes come in, the law FnWords answers true and leaves them as they were. No condition. -/
import Derived.Test.YtlbjahnihphckaaRows
import Derived.Test.YtlbjahnihphckaaDrawW
import Derived.Test.YtlbjahnihphckaaPost
namespace Go.Proofs.Ytlbjahnihphckaa.fnWords
set_option linter.unusedVariables false
open Go.ChangeShapes Go.WideShapes Go.ChangeAt Go.RowKit
open Go.ChangeMaps (open_string shut_string)

theorem own : ownKnob Try.prog.godebug = none := by kernel_rfl
theorem laidOut : laidOutB Try.prog = true := by kernel_rfl

set_option maxRecDepth 100000 in
set_option maxHeartbeats 1600000 in
theorem walkW (av : Option Addr) (n c : Nat) (w : World) (z : Nat → UInt8) (hZ : CodeZ w av n z) (hcode : CodeIs w w.heap.size av n) :
    Calls Try.prog 4 #[.slice av n c] w fun e w' => e = .returned (.bool true) ∧ Below w.heap.size w w' := by
  by_cases hn : n ≤ 1048576
  · have hnb : decide (1048576 < n) = false := by simp; omega
    have hwd := wDraw_len z n
    have hjl := joinL_len (wDraw z n) []
    have hwa := words_again (wDraw z n)
    have hwl : (wordsL (wDraw z n)).length ≤ 15 := by
      have := words_len (txt (wDraw z n))
      rw [txt_size] at this
      exact Nat.le_trans this (by omega)
    have hjl2 : (joinL (wordsL (wDraw z n))).length ≤ 29 := by
      unfold wordsL
      simp at hjl
      omega
    have hc1 : ∀ wx, _ := fun wx => words_impl_l (wDraw z n) wx (by omega)
    have hc2 : ∀ wx, _ := fun wx => words_spec_l (wDraw z n) wx (by omega)
    have hc3 : ∀ wx, _ := fun wx => words_impl_l (joinL (wordsL (wDraw z n))) wx (by omega)
    rw [hwa] at hc3
    have C1 := Lib.hid hc1
    have C2 := Lib.hid hc2
    have C3 := Lib.hid hc3
    clear hc1 hc2 hc3 hwa
    go_enter Try.func4, Try.ntmps4
    go_wp2_with fail
    refine (big_call av n c _).mono ?_
    rintro e w0 ⟨rfl, rfl⟩
    rw [hnb]
    go_wp2_with fail
    refine (drawWords_x w0.heap.size av n c _ z hZ hcode hn (Nat.le_refl _)).mono ?_
    rintro e w1 ⟨rfl, b1⟩
    have hI1 := hcode.below b1
    have hZ1 := hZ.below hcode b1
    go_wp2_with fail
    refine (C1.out _).mono ?_
    rintro e w2 ⟨v, rfl, o2, b2⟩
    have b2' : Below w0.heap.size w0 w2 := b1.trans (b2.mono b1.size)
    generalize hLL : wordsL (wDraw z n) = L at *
    clear hjl hLL
    have hjl := hjl2
    clear hjl2
    obtain ⟨av2, cap2, rfl⟩ := own_val o2
    go_wp2
    go_loopw [4, 5] (fun s q wr => ∃ (j : Nat) (t : List UInt8), s = .string (txt t) ∧ q = .int .i64 j ∧ j ≤ L.length ∧ Hid (t ++ joinL (L.drop j) = joinL L) ∧ wr = w2) (fun _ q _ => L.length - (intOf q).toNat)
    case atStart => exact ⟨0, [], rfl, rfl, by omega, Lib.hid (by simp), rfl⟩
    case round =>
      obtain ⟨j, t, rfl, rfl, hj, ht, rfl⟩ := hrel
      by_cases hjl2 : j < L.length
      · obtain ⟨gb, rfl, hgb1, hgb2⟩ := own_at o2 (by omega)
        have hcell := own_cell o2 j hjl2 rfl
        have hjoin : joinL (L.drop j) = L[j] ++ 32 :: joinL (L.drop (j + 1)) := by rw [List.drop_eq_getElem_cons hjl2]; rfl
        have HT := ht.out
        rw [hjoin] at HT
        have hlen := congrArg List.length HT
        simp at hlen
        generalize L[j] = x at hcell HT hlen
        have HT2 := Lib.hid HT
        clear HT hjoin
        have hl1 : t.length + x.length ≤ 40 := by omega
        clear hlen
        have hadd := add_txt (P := Try.prog) t x (by omega)
        have hadd2 := add_txt (P := Try.prog) (t ++ x) [32] (by simp; omega)
        have hs1 : ({ data := #[32] } : ByteArray) = txt [32] := rfl
        have hi0 : (0 : Int) ≤ (j : Int) := by omega
        have hi1 : (j : Int) < (L.length : Int) := by omega
        go_wp2_with (first | rw [hadd] | rw [hs1, hadd2])
        go_roundw
        case rel => exact ⟨j + 1, t ++ (x ++ [32]), rfl, by go_num, by omega, Lib.hid (by have := HT2.out; simp at this ⊢; exact this)⟩
        case measure => simp [intOf]; omega
      · obtain rfl : j = L.length := by omega
        have HJ := ht.out
        simp [joinL] at HJ
        subst HJ
        go_wp2_with fail
        refine (drawBefore_call w0.heap.size av n c _ (hI1.below (b2.mono b1.size)) hn (Nat.le_trans b1.size b2.size)).mono ?_
        rintro e w3 ⟨a, b, hal, hbl, rfl, b3⟩
        have o3 := ownsRow_below o2 b3
        have b3' : Below w0.heap.size w0 w3 := b2'.trans (b3.mono b2'.size)
        have A10 : ∀ wx, _ := fun wx => before_impl_l a b wx
        have A20 : ∀ wx, _ := fun wx => before_impl_l b a wx
        have A30 : ∀ wx, _ := fun wx => before_spec_l a b wx (by omega) (by omega)
        have tri : (a = b ∧ Op.bytesLess a b = false ∧ Op.bytesLess b a = false) ∨ (a ≠ b ∧ Op.bytesLess a b = true ∧ Op.bytesLess b a = false) ∨ (a ≠ b ∧ Op.bytesLess a b = false ∧ Op.bytesLess b a = true) := by
          by_cases e : a = b
          · subst e
            exact .inl ⟨rfl, less_self a, less_self a⟩
          · rcases less_tri a b e with h | h
            · exact .inr (.inl ⟨e, h⟩)
            · exact .inr (.inr ⟨e, h⟩)
        generalize Op.bytesLess a b = p at A10 A30 tri
        generalize Op.bytesLess b a = q at A20 tri
        have A1 := Lib.hid A10
        have A2 := Lib.hid A20
        have A3 := Lib.hid A30
        clear A10 A20 A30
        rcases tri with ⟨e1, rfl, rfl⟩ | ⟨e1, rfl, rfl⟩ | ⟨e1, rfl, rfl⟩
        · have hEq : ((txt a).toList == (txt b).toList) = true := by
            rw [Lib.toList_data, Lib.toList_data]
            show (a == b) = true
            simpa using e1
          clear e1
          go_wp2_with fail
          refine (A1.out _).mono ?_
          rintro e w4 ⟨rfl, b4⟩
          go_wp2_with fail
          refine (A2.out _).mono ?_
          rintro e w5 ⟨rfl, b5⟩
          go_wp2_with fail
          refine (A1.out _).mono ?_
          rintro e w6 ⟨rfl, b6⟩
          go_wp2_with fail
          refine (A3.out _).mono ?_
          rintro e w7 ⟨rfl, b7⟩
          have b37 : Below w3.heap.size w3 w7 := ((b4.trans (b5.mono b4.size)).trans (b6.mono (Nat.le_trans b4.size b5.size))).trans (b7.mono (Nat.le_trans b4.size (Nat.le_trans b5.size b6.size)))
          have b7' : Below w0.heap.size w0 w7 := b3'.trans (b37.mono b3'.size)
          have o7 := ownsRow_below o3 b37
          clear b4 b5 b6 b7 b37
          go_wp2_with fail
          refine (C3.out _).mono ?_
          rintro e w8 ⟨v8, rfl, o8, b8⟩
          have o78 := ownsRow_below o7 b8
          have b8' : Below w0.heap.size w0 w8 := b7'.trans (b8.mono b7'.size)
          go_wp2_with fail
          refine (same_call _ _ v8 _ L _ o8 o78 (by omega)).mono ?_
          rintro e w9 ⟨rfl, b9⟩
          have o9 := ownsRow_below o78 b9
          have b9' : Below w0.heap.size w0 w9 := b8'.trans (b9.mono b8'.size)
          go_wp2_with fail
          refine (drawWords_x w0.heap.size av n c _ z (hZ.below hcode b9') (hcode.below b9') hn b9'.size).mono ?_
          rintro e w10 ⟨rfl, b10⟩
          have o10 := ownsRow_below o9 b10
          have b10' : Below w0.heap.size w0 w10 := b9'.trans (b10.mono b9'.size)
          go_wp2_with fail
          refine (C2.out _).mono ?_
          rintro e w11 ⟨v11, rfl, o11, b11⟩
          have o11' := ownsRow_below o10 b11
          have b11' : Below w0.heap.size w0 w11 := b10'.trans (b11.mono b10'.size)
          go_wp2_with fail
          refine (same_call _ _ _ v11 L _ o11' o11 (by omega)).mono ?_
          rintro e w12 ⟨rfl, b12⟩
          go_wp2
          go_ret
          exact ⟨rfl, b11'.trans (b12.mono b11'.size)⟩
        · have hEq : ((txt a).toList == (txt b).toList) = false := by
            rw [Lib.toList_data, Lib.toList_data]
            show (a == b) = false
            simpa using e1
          clear e1
          go_wp2_with fail
          refine (A1.out _).mono ?_
          rintro e w4 ⟨rfl, b4⟩
          go_wp2_with fail
          refine (A2.out _).mono ?_
          rintro e w5 ⟨rfl, b5⟩
          go_wp2_with fail
          refine (A1.out _).mono ?_
          rintro e w6 ⟨rfl, b6⟩
          go_wp2_with fail
          refine (A3.out _).mono ?_
          rintro e w7 ⟨rfl, b7⟩
          have b37 : Below w3.heap.size w3 w7 := ((b4.trans (b5.mono b4.size)).trans (b6.mono (Nat.le_trans b4.size b5.size))).trans (b7.mono (Nat.le_trans b4.size (Nat.le_trans b5.size b6.size)))
          have b7' : Below w0.heap.size w0 w7 := b3'.trans (b37.mono b3'.size)
          have o7 := ownsRow_below o3 b37
          clear b4 b5 b6 b7 b37
          go_wp2_with fail
          refine (C3.out _).mono ?_
          rintro e w8 ⟨v8, rfl, o8, b8⟩
          have o78 := ownsRow_below o7 b8
          have b8' : Below w0.heap.size w0 w8 := b7'.trans (b8.mono b7'.size)
          go_wp2_with fail
          refine (same_call _ _ v8 _ L _ o8 o78 (by omega)).mono ?_
          rintro e w9 ⟨rfl, b9⟩
          have o9 := ownsRow_below o78 b9
          have b9' : Below w0.heap.size w0 w9 := b8'.trans (b9.mono b8'.size)
          go_wp2_with fail
          refine (drawWords_x w0.heap.size av n c _ z (hZ.below hcode b9') (hcode.below b9') hn b9'.size).mono ?_
          rintro e w10 ⟨rfl, b10⟩
          have o10 := ownsRow_below o9 b10
          have b10' : Below w0.heap.size w0 w10 := b9'.trans (b10.mono b9'.size)
          go_wp2_with fail
          refine (C2.out _).mono ?_
          rintro e w11 ⟨v11, rfl, o11, b11⟩
          have o11' := ownsRow_below o10 b11
          have b11' : Below w0.heap.size w0 w11 := b10'.trans (b11.mono b10'.size)
          go_wp2_with fail
          refine (same_call _ _ _ v11 L _ o11' o11 (by omega)).mono ?_
          rintro e w12 ⟨rfl, b12⟩
          go_wp2
          go_ret
          exact ⟨rfl, b11'.trans (b12.mono b11'.size)⟩
        · have hEq : ((txt a).toList == (txt b).toList) = false := by
            rw [Lib.toList_data, Lib.toList_data]
            show (a == b) = false
            simpa using e1
          clear e1
          go_wp2_with fail
          refine (A1.out _).mono ?_
          rintro e w4 ⟨rfl, b4⟩
          go_wp2_with fail
          refine (A2.out _).mono ?_
          rintro e w5 ⟨rfl, b5⟩
          go_wp2_with fail
          refine (A1.out _).mono ?_
          rintro e w6 ⟨rfl, b6⟩
          go_wp2_with fail
          refine (A3.out _).mono ?_
          rintro e w7 ⟨rfl, b7⟩
          have b37 : Below w3.heap.size w3 w7 := ((b4.trans (b5.mono b4.size)).trans (b6.mono (Nat.le_trans b4.size b5.size))).trans (b7.mono (Nat.le_trans b4.size (Nat.le_trans b5.size b6.size)))
          have b7' : Below w0.heap.size w0 w7 := b3'.trans (b37.mono b3'.size)
          have o7 := ownsRow_below o3 b37
          clear b4 b5 b6 b7 b37
          go_wp2_with fail
          refine (C3.out _).mono ?_
          rintro e w8 ⟨v8, rfl, o8, b8⟩
          have o78 := ownsRow_below o7 b8
          have b8' : Below w0.heap.size w0 w8 := b7'.trans (b8.mono b7'.size)
          go_wp2_with fail
          refine (same_call _ _ v8 _ L _ o8 o78 (by omega)).mono ?_
          rintro e w9 ⟨rfl, b9⟩
          have o9 := ownsRow_below o78 b9
          have b9' : Below w0.heap.size w0 w9 := b8'.trans (b9.mono b8'.size)
          go_wp2_with fail
          refine (drawWords_x w0.heap.size av n c _ z (hZ.below hcode b9') (hcode.below b9') hn b9'.size).mono ?_
          rintro e w10 ⟨rfl, b10⟩
          have o10 := ownsRow_below o9 b10
          have b10' : Below w0.heap.size w0 w10 := b9'.trans (b10.mono b9'.size)
          go_wp2_with fail
          refine (C2.out _).mono ?_
          rintro e w11 ⟨v11, rfl, o11, b11⟩
          have o11' := ownsRow_below o10 b11
          have b11' : Below w0.heap.size w0 w11 := b10'.trans (b11.mono b10'.size)
          go_wp2_with fail
          refine (same_call _ _ _ v11 L _ o11' o11 (by omega)).mono ?_
          rintro e w12 ⟨rfl, b12⟩
          go_wp2
          go_ret
          exact ⟨rfl, b11'.trans (b12.mono b11'.size)⟩
  · have hnb : decide (1048576 < n) = true := by simp; omega
    go_enter Try.func4, Try.ntmps4
    go_wp2_with fail
    refine (big_call av n c _).mono ?_
    rintro e w0 ⟨rfl, rfl⟩
    rw [hnb]
    go_wp2
    go_ret
    exact ⟨rfl, Below.refl _ _⟩

set_option maxRecDepth 100000 in
theorem lifted (os : Os) (started : os.Started) (H : Type) (enc : TypeId × Value → H) :
    ReturnsInHanded {} Try.checked os 4 .any (Rows.fnWordsSpec.pre6 enc Try.prog Try.f4 Rows.fnWordsRow.domain false) (Rows.fnWordsSpec.post enc Try.prog Try.f4 false true false false) := by
  refine returnsInHanded_of_change (C := Try.checked) own started (by kernel_rfl) Try.func4
    (ChangeSpec.witness6 (enc := enc) (C := Try.checked) false ⟨#[], #[.slice none 0 0], []⟩ 8 (by kernel_rfl) (by kernel_rfl) (by kernel_rfl) (by kernel_rfl)) ?_
  intro W base args ds gs before hval0 hW hcnd _
  have hval : ∀ (j : Nat) t v, Try.f4.params[j]? = some t → args[j]? = some v → Value.okWide Try.prog W .any base t v := hval0
  have hW' := hW
  obtain ⟨p, q, hA0, hV, rfl, hfz, hnd⟩ := hW
  have hA : DataW.TrodAll enc Try.prog W 0 (fun _ => true) true Try.f4.params.toList args.toList ds p := hA0
  rw [Try.params4] at hA hval
  obtain ⟨v0, vs0, d0, ds0, p0, q0, hargs, rfl, rfl, h0, r0⟩ := trodAll_cons hA
  obtain ⟨rfl, rfl, rfl⟩ := trodAll_nil r0
  obtain rfl : args = #[v0] := by cases args; simp_all
  obtain ⟨rfl, rfl⟩ := trodVars_none hV
  obtain ⟨a0, len0, cap0, rfl⟩ := okWide_slice Try.underlying22 (hval 0 22 v0 rfl rfl)
  have k0 := h0
  have lt0 : ∀ x ∈ p0, x.block < W.heap.size := by obtain ⟨m, hm⟩ := k0; exact DataW.trod_lt m _ _ _ hm
  obtain ⟨z0, w0⟩ : ∃ zs, IsRow .u8 W a0 len0 cap0 zs := by
    obtain ⟨fuel, hf⟩ := h0
    rcases open_ints Try.underlying22 Try.underlying5 (by kernel_rfl) hf with ⟨hcs, _⟩ | ⟨x, l, c, zs, hcs, _, hl, hm, hz, _, hcell, hwz⟩
    · simp [Value.cells] at hcs
      obtain ⟨rfl, rfl, rfl⟩ := hcs
      exact ⟨[], .inl ⟨rfl, rfl, rfl, rfl⟩⟩
    · simp [Value.cells] at hcs
      obtain ⟨rfl, rfl, rfl⟩ := hcs
      exact ⟨zs, .inr ⟨_, rfl, hl, hm, by simpa using hz, hcell, hwz⟩⟩
  obtain ⟨z, hZ, hI⟩ := code_of_row w0
  clear hA0 hval0
  simp only [List.append_nil] at hW'
  refine (walkW a0 len0 cap0 W z hZ hI).mono fun e W' ⟨he, hg⟩ => ?_
  subst he
  exact ⟨_, rfl, _, _, _, [], _, [], hW', (trodAll_cons_mk (shut_bool Try.underlying4 _) trodAll_mk0), (trodAll_cons_mk (Below.trod laidOut (by kernel_rfl) (of_decide_eq_true (by kernel_rfl)) k0 hg lt0) trodAll_mk0), rfl, hg.frame _, fun h => by cases h⟩

theorem over : Rows.fnWordsRow.holds Try.pinned (OpenSpec.ofChange Rows.fnWordsSpec) :=
  OpenClaim.holds_of_wide 4 Try.f4 rfl rfl rfl rfl rfl rfl rfl ⟨rfl, rfl, rfl, rfl, rfl⟩ rfl rfl rfl rfl rfl (by kernel_rfl) Try.func4 (by kernel_rfl)
    (of_decide_eq_true (by kernel_rfl)) (by unfold Func.isWrapper; first | (rw [if_pos (by decide +kernel)]; kernel_rfl) | (rw [if_neg (by decide +kernel)]; exact ⟨rfl, rfl⟩))
    (fun os started H enc _ => lifted os started H enc)

theorem proved : Rows.FnWordsSaid := over

end Go.Proofs.Ytlbjahnihphckaa.fnWords
