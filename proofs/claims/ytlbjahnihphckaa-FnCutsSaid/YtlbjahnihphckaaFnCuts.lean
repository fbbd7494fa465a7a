/- Whatever bytes come in, the law FnCuts answers true and leaves them as they were. No condition. -/
import Derived.Test.YtlbjahnihphckaaRows
import Derived.Test.YtlbjahnihphckaaCuts
import Derived.Test.YtlbjahnihphckaaPost
namespace Go.Proofs.Ytlbjahnihphckaa.fnCuts
set_option linter.unusedVariables false
open Go.ChangeShapes Go.WideShapes Go.ChangeAt Go.RowKit
open Go.ChangeMaps (open_string shut_string)

theorem own : ownKnob Try.prog.godebug = none := by kernel_rfl
theorem laidOut : laidOutB Try.prog = true := by kernel_rfl

set_option maxRecDepth 100000 in
set_option maxHeartbeats 1600000 in
theorem walkC (av : Option Addr) (n c : Nat) (w : World) (hcode : CodeIs w w.heap.size av n) :
    Calls Try.prog 3 #[.slice av n c] w fun e w' => e = .returned (.bool true) ∧ Below w.heap.size w w' := by
  by_cases hn : n ≤ 1048576
  · have hnb : decide (1048576 < n) = false := by simp; omega
    go_enter Try.func3, Try.ntmps3
    go_wp2_with fail
    refine (big_call av n c _).mono ?_
    rintro e w0 ⟨rfl, rfl⟩
    rw [hnb]
    go_wp2_with fail
    refine (drawSplit_call w0.heap.size av n c _ hcode hn (Nat.le_refl _)).mono ?_
    rintro e w1 ⟨s, b, hsl, rfl, b1⟩
    have hb256 := b.toNat_lt
    have hlen := splitL_len b s
    have hsj := split_join b s
    have C1 := Lib.hid (fun wx => split_impl_l s b wx (by omega))
    have C2 := Lib.hid (fun wx => split_spec_l s b wx (by omega))
    generalize splitL b s = L at hlen hsj C1 C2
    have HSJ := Lib.hid hsj
    clear hsj
    go_wp2_with fail
    refine (C1.out _).mono ?_
    rintro e w2 ⟨v, rfl, o2, b2⟩
    have b2' : Below w0.heap.size w0 w2 := b1.trans (b2.mono b1.size)
    obtain ⟨av2, cap2, rfl⟩ := own_val o2
    go_wp2_with fail
    refine (C2.out _).mono ?_
    rintro e w3 ⟨v3, rfl, o3, b3⟩
    have b3' : Below w0.heap.size w0 w3 := b2'.trans (b3.mono b2'.size)
    have o23 := ownsRow_below o2 b3
    go_wp2_with fail
    refine (same_call _ _ _ v3 L _ o23 o3 (by omega)).mono ?_
    rintro e w4 ⟨rfl, b4⟩
    have o4 := ownsRow_below o23 b4
    have b4' : Below w0.heap.size w0 w4 := b3'.trans (b4.mono b3'.size)
    clear o23 o3 o2 b3 b2 b4
    go_wp2
    go_loopw [6, 7] (fun t q wr => ∃ (j : Nat) (l : List UInt8), t = .string (txt l) ∧ q = .int .i64 j ∧ j ≤ L.length ∧ Hid ((j = 0 ∧ l = []) ∨ (0 < j ∧ l ++ tailC b (L.drop j) = s)) ∧ Below w4.heap.size w4 wr) (fun _ q _ => L.length - (intOf q).toNat)
    case atStart => exact ⟨0, [], rfl, rfl, by omega, Lib.hid (.inl ⟨rfl, rfl⟩), Below.refl _ _⟩
    case round =>
      obtain ⟨j, l, rfl, rfl, hj, hl, hbr⟩ := hrel
      by_cases hjl : j < L.length
      · obtain ⟨gb, rfl, hgb1, hgb2⟩ := own_at o4 (by omega)
        have hcell : wr.cell? ⟨gb, j, none⟩ = some (.string (txt L[j])) := (hbr.cell (p := ⟨gb, j, none⟩) hgb2).trans (own_cell o4 j hjl rfl)
        have hi0 : (0 : Int) ≤ (j : Int) := by omega
        have hi1 : (j : Int) < (L.length : Int) := by omega
        by_cases hj0 : j = 0
        · subst hj0
          have hle : l = [] := by
            rcases hl.out with h | h
            · exact h.2
            · omega
          subst hle
          have hnew : L[0] ++ tailC b (L.drop 1) = s := by
            rcases HSJ.out with h | ⟨x, r, e1, e2⟩
            · rw [h.1] at hjl; simp at hjl
            · subst e1
              simpa using e2
          have hxl : L[0].length ≤ 8 := by
            have := congrArg List.length hnew
            simp at this
            omega
          generalize L[0] = x at hcell hnew hxl
          have HN := Lib.hid hnew
          clear hnew
          have hadd := add_txt (P := Try.prog) [] x (by simp; omega)
          have hs0 : ({ data := #[] } : ByteArray) = txt [] := rfl
          go_wp2
          go_roundw
          case rel => exact ⟨1, x, rfl, by go_num, by omega, Lib.hid (.inr ⟨by omega, HN.out⟩), hbr⟩
          case measure => simp [intOf]; omega
        · have hold : l ++ tailC b (L.drop j) = s := by
            rcases hl.out with h | h
            · omega
            · exact h.2
          have hdrop : L.drop j = L[j] :: L.drop (j + 1) := List.drop_eq_getElem_cons hjl
          rw [hdrop, tailC] at hold
          have hxl := congrArg List.length hold
          simp at hxl
          generalize L[j] = x at hcell hold hxl
          have HN := Lib.hid hold
          clear hold hdrop
          have hll : l.length + x.length ≤ 8 := by omega
          clear hxl
          have hcv := one_text (P := Try.prog) 22 9 5 b ((b.toNat : Nat) : Int) rfl Try.underlying22 Try.underlying5 Try.underlying9
          have hadd := add_txt (P := Try.prog) l [b] (by simp; omega)
          have hadd2 := add_txt (P := Try.prog) (l ++ [b]) x (by simp; omega)
          have hjp : (0 : Int) < (j : Int) := by omega
          have hbrs := hbr.size
          have hcell2 : (wr.alloc (.cells #[.int .u8 ((b.toNat : Nat) : Int)] 5)).cell? ⟨gb, j, none⟩ = some (.string (txt x)) := (((Below.refl _ wr).alloc (Nat.le_refl _) _).cell (p := ⟨gb, j, none⟩) (by show gb < wr.heap.size; omega)).trans hcell
          go_wp2
          go_roundw
          case rel => exact ⟨j + 1, l ++ [b] ++ x, by simp, by go_num, by omega, Lib.hid (.inr ⟨by omega, by rw [← HN.out]; simp⟩), hbr.alloc hbr.size _⟩
          case measure => simp [intOf]; omega
      · obtain rfl : j = L.length := by omega
        have hls : l = s := by
          rcases hl.out with ⟨h1, h2⟩ | ⟨h1, h2⟩
          · rcases HSJ.out with h | ⟨x, r, e1, e2⟩
            · rw [h2, h.2]
            · rw [e1] at h1; simp at h1
          · rw [List.drop_length] at h2
            simpa [tailC] using h2
        subst hls
        have br' : Below w0.heap.size w0 wr := b4'.trans (hbr.mono b4'.size)
        clear hl HSJ C1 C2 o4
        go_wp2_with fail
        refine (drawCut_call w0.heap.size av n c _ (hcode.below br') hn br'.size).mono ?_
        rintro e w5 ⟨t, by_, htl, rfl, b5⟩
        have b5' : Below w0.heap.size w0 w5 := br'.trans (b5.mono br'.size)
        have hby256 := by_.toNat_lt
        by_cases hct : by_ ∈ t
        · obtain ⟨p, q, rfl, hcp⟩ := List.eq_append_cons_of_mem hct
          go_wp2_with fail
          refine (cut_l_yes p q by_ _ hcp (by omega)).mono ?_
          rintro e w6 ⟨rfl, b6⟩
          have b6' : Below w0.heap.size w0 w6 := b5'.trans (b6.mono b5'.size)
          go_wp2_with fail
          refine (drawLower_call w0.heap.size av n c _ (hcode.below b6') hn b6'.size).mono ?_
          rintro e w7 ⟨l2, hl2, rfl, b7⟩
          have b7' : Below w0.heap.size w0 w7 := b6'.trans (b7.mono b6'.size)
          have hll : (lowL l2).length = l2.length := by simp [lowL]
          have L1 := Lib.hid (fun wx => lower_l l2 wx (by omega))
          have L2 := Lib.hid (fun wx => lower_l (lowL l2) wx (by omega))
          rw [low_low] at L2
          have hsz : (txt (lowL l2)).size = (txt l2).size := by rw [txt_size, txt_size]; exact hll
          generalize lowL l2 = m2 at hll hsz L1 L2
          clear hll
          go_wp2_with fail
          refine (L1.out _).mono ?_
          rintro e w8 ⟨rfl, b8⟩
          have b8' : Below w0.heap.size w0 w8 := b7'.trans (b8.mono b7'.size)
          have hpq : p.length + q.length ≤ 8 := by simp at htl; omega
          have hcv := one_text (P := Try.prog) 22 9 5 by_ ((by_.toNat : Nat) : Int) rfl Try.underlying22 Try.underlying5 Try.underlying9
          have hadd := add_txt (P := Try.prog) p [by_] (by simp; omega)
          have hadd2 := add_txt (P := Try.prog) (p ++ [by_]) q (by simp; omega)
          go_wp2_with fail
          refine (L2.out _).mono ?_
          rintro e w9 ⟨rfl, b9⟩
          go_wp2
          go_ret
          exact ⟨rfl, (b8'.alloc b8'.size _).trans (b9.mono (by simp; have := b8'.size; omega))⟩
        · go_wp2_with fail
          refine (cut_l_no t by_ _ hct).mono ?_
          rintro e w6 ⟨rfl, b6⟩
          have b6' : Below w0.heap.size w0 w6 := b5'.trans (b6.mono b5'.size)
          go_wp2_with fail
          refine (drawLower_call w0.heap.size av n c _ (hcode.below b6') hn b6'.size).mono ?_
          rintro e w7 ⟨l2, hl2, rfl, b7⟩
          have b7' : Below w0.heap.size w0 w7 := b6'.trans (b7.mono b6'.size)
          have hll : (lowL l2).length = l2.length := by simp [lowL]
          have L1 := Lib.hid (fun wx => lower_l l2 wx (by omega))
          have L2 := Lib.hid (fun wx => lower_l (lowL l2) wx (by omega))
          rw [low_low] at L2
          have hsz : (txt (lowL l2)).size = (txt l2).size := by rw [txt_size, txt_size]; exact hll
          generalize lowL l2 = m2 at hll hsz L1 L2
          clear hll
          go_wp2_with fail
          refine (L1.out _).mono ?_
          rintro e w8 ⟨rfl, b8⟩
          have b8' : Below w0.heap.size w0 w8 := b7'.trans (b8.mono b7'.size)
          have he : (txt []).toList.isEmpty = true := by rw [Lib.toList_data, txt_toList]; rfl
          go_wp2_with fail
          refine (L2.out _).mono ?_
          rintro e w9 ⟨rfl, b9⟩
          go_wp2
          go_ret
          exact ⟨rfl, b8'.trans (b9.mono b8'.size)⟩
  · have hnb : decide (1048576 < n) = true := by simp; omega
    go_enter Try.func3, Try.ntmps3
    go_wp2_with fail
    refine (big_call av n c _).mono ?_
    rintro e w0 ⟨rfl, rfl⟩
    rw [hnb]
    go_wp2
    go_ret
    exact ⟨rfl, Below.refl _ _⟩

set_option maxRecDepth 100000 in
theorem lifted (os : Os) (started : os.Started) (H : Type) (enc : TypeId × Value → H) :
    ReturnsInHanded {} Try.checked os 3 .any (Rows.fnCutsSpec.pre6 enc Try.prog Try.f3 Rows.fnCutsRow.domain false) (Rows.fnCutsSpec.post enc Try.prog Try.f3 false true false false) := by
  refine returnsInHanded_of_change (C := Try.checked) own started (by kernel_rfl) Try.func3
    (ChangeSpec.witness6 (enc := enc) (C := Try.checked) false ⟨#[], #[.slice none 0 0], []⟩ 8 (by kernel_rfl) (by kernel_rfl) (by kernel_rfl) (by kernel_rfl)) ?_
  intro W base args ds gs before hval0 hW hcnd _
  have hval : ∀ (j : Nat) t v, Try.f3.params[j]? = some t → args[j]? = some v → Value.okWide Try.prog W .any base t v := hval0
  have hW' := hW
  obtain ⟨p, q, hA0, hV, rfl, hfz, hnd⟩ := hW
  have hA : DataW.TrodAll enc Try.prog W 0 (fun _ => true) true Try.f3.params.toList args.toList ds p := hA0
  rw [Try.params3] at hA hval
  obtain ⟨v0, vs0, d0, ds0, p0, q0, hargs, rfl, rfl, h0, r0⟩ := trodAll_cons hA
  obtain ⟨rfl, rfl, rfl⟩ := trodAll_nil r0
  obtain rfl : args = #[v0] := by cases args; simp_all
  obtain ⟨rfl, rfl⟩ := trodVars_none hV
  obtain ⟨a0, len0, cap0, rfl⟩ := okWide_slice Try.underlying22 (hval 0 22 v0 rfl rfl)
  have k0 := h0
  have lt0 : ∀ x ∈ p0, x.block < W.heap.size := by obtain ⟨m, hm⟩ := k0; exact DataW.trod_lt m _ _ _ hm
  obtain ⟨z0, w0⟩ : ∃ zs, IsRow .u8 W a0 len0 cap0 zs := by
    obtain ⟨fuel, hf⟩ := h0
    rcases open_ints Try.underlying22 Try.underlying5 (by kernel_rfl) hf with ⟨hcs, _⟩ | ⟨x, l, c, zs, hcs, _, hl, hm, hz, _, hcell, hwz⟩
    · simp [Value.cells] at hcs
      obtain ⟨rfl, rfl, rfl⟩ := hcs
      exact ⟨[], .inl ⟨rfl, rfl, rfl, rfl⟩⟩
    · simp [Value.cells] at hcs
      obtain ⟨rfl, rfl, rfl⟩ := hcs
      exact ⟨zs, .inr ⟨_, rfl, hl, hm, by simpa using hz, hcell, hwz⟩⟩
  obtain ⟨z, hZ, hI⟩ := code_of_row w0
  clear hA0 hval0
  simp only [List.append_nil] at hW'
  refine (walkC a0 len0 cap0 W hI).mono fun e W' ⟨he, hg⟩ => ?_
  subst he
  exact ⟨_, rfl, _, _, _, [], _, [], hW', (trodAll_cons_mk (shut_bool Try.underlying4 _) trodAll_mk0), (trodAll_cons_mk (Below.trod laidOut (by kernel_rfl) (of_decide_eq_true (by kernel_rfl)) k0 hg lt0) trodAll_mk0), rfl, hg.frame _, fun h => by cases h⟩

theorem over : Rows.fnCutsRow.holds Try.pinned (OpenSpec.ofChange Rows.fnCutsSpec) :=
  OpenClaim.holds_of_wide 3 Try.f3 rfl rfl rfl rfl rfl rfl rfl ⟨rfl, rfl, rfl, rfl, rfl⟩ rfl rfl rfl rfl rfl (by kernel_rfl) Try.func3 (by kernel_rfl)
    (of_decide_eq_true (by kernel_rfl)) (by unfold Func.isWrapper; first | (rw [if_pos (by decide +kernel)]; kernel_rfl) | (rw [if_neg (by decide +kernel)]; exact ⟨rfl, rfl⟩))
    (fun os started H enc _ => lifted os started H enc)

theorem proved : Rows.FnCutsSaid := over

end Go.Proofs.Ytlbjahnihphckaa.fnCuts
