/- Whatever bytes come in, the law FnKeep answers true and leaves them as they were. No condition. -/
import Derived.Test.YtdgfiebehnfpgaaRows
import Derived.Test.YtdgfiebehnfpgaaCkDm
import Derived.Test.YtdgfiebehnfpgaaCkJL
import Derived.Test.YtdgfiebehnfpgaaCkJP
import Derived.Test.YtdgfiebehnfpgaaPost
namespace Go.Proofs.Ytdgfiebehnfpgaa.fnKeep
set_option linter.unusedVariables false
set_option maxRecDepth 4000
open Go.ChangeShapes Go.WideShapes Go.ChangeAt Go.RowKit
open Go.ChangeMaps (open_string shut_string)
open Ht Ck

theorem own : ownKnob Try.prog.godebug = none := by kernel_rfl
theorem laidOut : laidOutB Try.prog = true := by kernel_rfl

set_option maxRecDepth 100000 in
set_option maxHeartbeats 12800000 in
theorem walkC (av : Option Addr) (n c : Nat) (w : World) (hcode : CodeIs w w.heap.size av n) :
    Calls Try.prog 3 #[.slice av n c] w fun e w' => e = .returned (.bool true) ∧ Below w.heap.size w w' := by
  by_cases hn : n ≤ 1048576
  · have hnb : decide (1048576 < n) = false := by simp; omega
    go_enter Try.func3, Try.ntmps3
    go_wp2_with fail
    refine (big_call av n c _).mono ?_
    rintro e w0 ⟨rfl, rfl⟩
    rw [hnb]
    go_wp2_with fail
    refine (drawKeep_call w0.heap.size av n c _ hcode hn (Nat.le_refl _)).mono ?_
    rintro e w1 ⟨L, vj, k, now, hL, hLS, hk, hnow, rfl, o1, b1⟩
    have hnow2 : 50 ≤ now ∧ now ≤ 250 := (show ∀ x ∈ keepNows, 50 ≤ x ∧ x ≤ 250 by decide) now hnow
    have HLS := Lib.hid (show ∀ x ∈ L, CkS x from fun x hx => smallK_S (hLS x hx))
    have hkS := smallK_S hk
    have KI := Lib.hid (fun v wx hj => keep_impl v L k now wx hj (by omega) HLS.out hkS)
    have KS := Lib.hid (fun v wx hj => keep_spec v L k now wx hj (by omega) HLS.out hkS)
    have JO := Lib.hid (fun v wx hj => jarOk_spec v L wx hj (by omega) HLS.out)
    have CO := Lib.hid (fun wx => ckOk_spec k wx hkS)
    have hKl := keepL_len L k now
    have HKS := Lib.hid (show ∀ x ∈ keepL L k now, CkS x from fun x hx => by
      rcases keepL_mem hx with h | h
      · exact HLS.out x h
      · rw [h]; exact hkS)
    have HKJ := Lib.hid (keepL_jar L k now)
    have HKG := Lib.hid (fun (h1 : jarR L = true) (h2 : ckOk k = true) => (show keepL L k now = keepV L k now by unfold keepL; rw [h1, h2]; rfl))
    have HLV := Lib.hid (keepV_live L k now)
    have HCT := Lib.hid (keepV_count L k now)
    generalize keepV L k now = KV at HKG HLV HCT
    generalize keepL L k now = KL at KI KS hKl HKS HKJ HKG
    have JI := Lib.hid (fun v wx hj => jarOk_impl v KL wx hj (by omega) HKS.out)
    have SJ := Lib.hid (fun v1 v2 wx h1 h2 => sameJar_call v1 v2 KL wx h1 h2 (by omega))
    have j1 := (OwnC.of o1).src
    unfold ckV at KI KS CO ⊢
    have g1 := Lib.hid (heap_alloc_new w1 (.cells #[.string (txt k.n), .string (txt k.v), .string (txt k.d), .bool k.o, .string (txt k.p), .int .i64 k.u] 26))
    have d1 := (Below.refl w1.heap.size w1).alloc (Nat.le_refl _) (.cells #[.string (txt k.n), .string (txt k.v), .string (txt k.d), .bool k.o, .string (txt k.p), .int .i64 k.u] 26)
    have c1 := Lib.hid (b1.trans (d1.mono b1.size))
    have J1 := Lib.hid (j1.below d1)
    have l1 := Lib.hid (show w1.heap.size < (w1.alloc (.cells #[.string (txt k.n), .string (txt k.v), .string (txt k.d), .bool k.o, .string (txt k.p), .int .i64 k.u] 26)).heap.size by simp)
    clear b1 d1 j1 o1 hLS hk
    go_wp2_with fail
    refine (KI.out _ _ J1.out).mono ?_
    rintro e w2 ⟨v2, rfl, o2, b2⟩
    have c2 := Lib.hid (bstep c1.out b2)
    have k2 := (b2.block w1.heap.size l1.out).trans g1.out
    have K2 := Lib.hid k2
    have l2 := Lib.hid (Nat.lt_of_lt_of_le l1.out b2.size)
    have J2 := Lib.hid (J1.out.below b2)
    obtain ⟨x0, x1, x2, x3, x4, x5, _⟩ := box6 k2
    clear k2 b2
    go_wp2_with fail
    refine (KS.out _ _ J2.out).mono ?_
    rintro e w3 ⟨v3, rfl, o3, b3⟩
    have c3 := Lib.hid (bstep c2.out b3)
    have K3 := Lib.hid ((b3.block w1.heap.size l2.out).trans K2.out)
    have l3 := Lib.hid (Nat.lt_of_lt_of_le l2.out b3.size)
    have J3 := Lib.hid (J2.out.below b3)
    have o23 := Lib.hid (o2.below b3)
    have o33 := Lib.hid o3
    clear b3 x0 x1 x2 x3 x4 x5 o2 o3
    go_wp2_with fail
    refine (SJ.out _ _ _ o23.out.src.at o33.out.src.at).mono ?_
    rintro e w4 ⟨rfl, b4⟩
    have c4 := Lib.hid (bstep c3.out b4)
    have K4 := Lib.hid ((b4.block w1.heap.size l3.out).trans K3.out)
    have l4 := Lib.hid (Nat.lt_of_lt_of_le l3.out b4.size)
    have J4 := Lib.hid (J3.out.below b4)
    have o24 := Lib.hid (o23.out.below b4)
    clear b4
    go_wp2_with fail
    refine (JO.out _ _ J4.out.at).mono ?_
    rintro e w5 ⟨rfl, b5⟩
    have c5 := Lib.hid (bstep c4.out b5)
    have K5 := Lib.hid ((b5.block w1.heap.size l4.out).trans K4.out)
    have l5 := Lib.hid (Nat.lt_of_lt_of_le l4.out b5.size)
    have o25 := Lib.hid (o24.out.below b5)
    clear b5
    cases hj : jarR L with
    | false =>
      clear hj
      go_wp2_with fail
      refine (JI.out _ _ o25.out.src.at).mono ?_
      rintro e w6 ⟨rfl, b6⟩
      have hkj := HKJ.out
      rw [hkj]
      go_wp2
      go_ret
      exact ⟨rfl, bstep c5.out b6⟩
    | true =>
      obtain ⟨x0, x1, x2, x3, x4, x5, _⟩ := box6 K5.out
      go_wp2_with fail
      refine (CO.out _).mono ?_
      rintro e w6 ⟨rfl, b6⟩
      have c6 := Lib.hid (bstep c5.out b6)
      have K6 := Lib.hid ((b6.block w1.heap.size l5.out).trans K5.out)
      have l6 := Lib.hid (Nat.lt_of_lt_of_le l5.out b6.size)
      have o26 := Lib.hid (o25.out.below b6)
      clear b6 x0 x1 x2 x3 x4 x5
      cases hq : ckOk k with
      | false =>
        clear hj hq
        go_wp2_with fail
        refine (JI.out _ _ o26.out.src.at).mono ?_
        rintro e w7 ⟨rfl, b7⟩
        have hkj := HKJ.out
        rw [hkj]
        go_wp2
        go_ret
        exact ⟨rfl, bstep c6.out b7⟩
      | true =>
        have hKK := HKG.out hj hq
        rw [← hKK] at HLV HCT
        have HGN := Lib.hid (gone_none KL k now HKJ.out hq (by omega))
        have KG := Lib.hid (fun v wx hj => keep_impl v KL (goneC k) now wx hj (by omega) HKS.out ⟨hkS.1, hkS.2.1, hkS.2.2.1, hkS.2.2.2⟩)
        have hGl := keepL_len KL (goneC k) now
        generalize keepL KL (goneC k) now = GL at KG HGN hGl
        obtain ⟨m0, hm0⟩ : ∃ m0 : Nat, m0 = KL.countP (fun x => eqC x k) := ⟨_, rfl⟩
        have HM0 := Lib.hid hm0
        have HM1 := Lib.hid (show m0 = if liveC now k then 1 else 0 by rw [hm0]; exact HCT.out)
        have hvv : ∃ a cap, v2 = .slice a KL.length cap := by
          obtain ⟨a, cap, rfl, _⟩ := o26.out.src.at
          exact ⟨a, cap, rfl⟩
        obtain ⟨a2, cap2, rfl⟩ := hvv
        clear hj hq hKK hm0 HCT HKG
        go_wp2
        go_loopw [7, 8] (fun q i wr => ∃ j m : Nat, j ≤ KL.length ∧ i = .int .i64 j ∧ q = .int .i64 m ∧ Hid (m = (KL.take j).countP (fun x => eqC x k)) ∧ m ≤ j ∧ Below w6.heap.size w6 wr) (fun _ i _ => KL.length - (intOf i).toNat)
        case atStart => exact ⟨0, 0, by omega, rfl, rfl, Lib.hid rfl, by omega, Below.refl _ _⟩
        case round =>
          obtain ⟨j, m, hjl, rfl, rfl, hm, hmj, hbel⟩ := hrel
          by_cases hlt : j < KL.length
          · have hat := (o26.out.below hbel).src.at
            obtain ⟨g, off, rfl, hg, c0, c1', c2', c3', c4', c5'⟩ := JAt.cells hat j hlt
            have hi0 : (0 : Int) ≤ (j : Int) := by omega
            have hi1 : (j : Int) < (KL.length : Int) := by omega
            have kb := (hbel.block w1.heap.size l6.out).trans K6.out
            obtain ⟨x0, x1, x2, x3, x4, x5, _⟩ := box6 kb
            have hlv := HLV.out KL[j] (List.getElem_mem hlt)
            have HCS := Lib.hid (show (KL.take (j + 1)).countP (fun x => eqC x k) = m + (if eqC KL[j] k then 1 else 0) by
              rw [List.take_succ_eq_append_getElem hlt, List.countP_append, ← hm.out, List.countP_singleton])
            generalize KL[j] = x at c0 c1' c2' c3' c4' c5' hlv HCS
            have EQ := cookie_eql x k
            unfold ckV at EQ
            generalize eqC x k = eqq at EQ HCS
            have hu : x.u = -1 ∨ (0 ≤ x.u ∧ now < x.u) := by
              unfold liveC at hlv
              simp only [Bool.or_eq_true, beq_iff_eq, decide_eq_true_eq] at hlv
              rcases hlv with h | h
              · exact .inl h
              · exact .inr ⟨by omega, h⟩
            clear kb hat hlv
            have HBL := Lib.hid hbel
            cases eqq with
            | true =>
              have HCN := Lib.hid (show m + 1 = (KL.take (j + 1)).countP (fun x => eqC x k) by rw [HCS.out]; rfl)
              go_wp2
              go_quiet (fail)
              rcases hu with hu | ⟨hu1, hu2⟩
              · have hu3 : ¬ x.u ≥ 0 := by omega
                go_wp2
                go_roundw
                case rel => exact ⟨j + 1, m + 1, by omega, by go_num, by go_num, HCN, by omega, below_drewN HBL.out _⟩
                case measure => simp [intOf]; omega
              · have hu3 : x.u ≥ 0 := by omega
                have hu4 : ¬ x.u ≤ now := by omega
                go_wp2
                go_roundw
                case rel => exact ⟨j + 1, m + 1, by omega, by go_num, by go_num, HCN, by omega, below_drewN HBL.out _⟩
                case measure => simp [intOf]; omega
            | false =>
              have HCN := Lib.hid (show m = (KL.take (j + 1)).countP (fun x => eqC x k) by rw [HCS.out]; rfl)
              go_wp2
              go_quiet (fail)
              rcases hu with hu | ⟨hu1, hu2⟩
              · have hu3 : ¬ x.u ≥ 0 := by omega
                go_wp2
                go_roundw
                case rel => exact ⟨j + 1, m, by omega, by go_num, rfl, HCN, by omega, below_drewN HBL.out _⟩
                case measure => simp [intOf]; omega
              · have hu3 : x.u ≥ 0 := by omega
                have hu4 : ¬ x.u ≤ now := by omega
                go_wp2
                go_roundw
                case rel => exact ⟨j + 1, m, by omega, by go_num, rfl, HCN, by omega, below_drewN HBL.out _⟩
                case measure => simp [intOf]; omega
          · have hmm : m = m0 := by
              have h1 := hm.out
              rw [List.take_of_length_le (by omega), ← HM0.out] at h1
              exact h1
            have HMM := Lib.hid hmm
            have c7 := Lib.hid (bstep c6.out hbel)
            have K7 := Lib.hid ((hbel.block w1.heap.size l6.out).trans K6.out)
            have l7 := Lib.hid (Nat.lt_of_lt_of_le l6.out hbel.size)
            have o27 := Lib.hid (o26.out.below hbel)
            obtain ⟨x0, x1, x2, x3, x4, x5, _⟩ := box6 K7.out
            clear hmm hm hbel
            go_wp2_with fail
            unfold ckV goneC at KG
            simp only at KG
            have J8 := Lib.hid (o27.out.src.below ((Below.refl wr.heap.size wr).alloc (Nat.le_refl _) (.cells #[.string (txt k.n), .string (txt k.v), .string (txt k.d), .bool k.o, .string (txt k.p), .int .i64 0] 26)))
            have D8 := (Below.refl wr.heap.size wr).alloc (Nat.le_refl _) (.cells #[.string (txt k.n), .string (txt k.v), .string (txt k.d), .bool k.o, .string (txt k.p), .int .i64 0] 26)
            have c8 := Lib.hid (c7.out.trans (D8.mono c7.out.size))
            have K8 := Lib.hid ((D8.block w1.heap.size l7.out).trans K7.out)
            have l8 := Lib.hid (Nat.lt_of_lt_of_le l7.out D8.size)
            have o28 := Lib.hid (o27.out.below D8)
            clear x0 x1 x2 x3 x4 x5 D8
            refine (KG.out _ _ J8.out).mono ?_
            rintro e w8 ⟨v8, rfl, o8, b8⟩
            have c9 := Lib.hid (bstep c8.out b8)
            have K9 := Lib.hid ((b8.block w1.heap.size l8.out).trans K8.out)
            have l9 := Lib.hid (Nat.lt_of_lt_of_le l8.out b8.size)
            have o29 := Lib.hid (o28.out.below b8)
            have o89 := Lib.hid o8
            obtain ⟨a8, cap8, rfl⟩ : ∃ a cap, v8 = .slice a GL.length cap := by
              obtain ⟨a, cap, rfl, _⟩ := o8.src.at
              exact ⟨a, cap, rfl⟩
            clear o8 b8
            go_wp2
            go_loopw [11] (fun i wr => ∃ j : Nat, j ≤ GL.length ∧ i = .int .i64 j ∧ Below w8.heap.size w8 wr) (fun i _ => GL.length - (intOf i).toNat)
            case atStart => exact ⟨0, by omega, rfl, Below.refl _ _⟩
            case round =>
              obtain ⟨i, hil, rfl, hbel2⟩ := hrel
              by_cases hlt2 : i < GL.length
              · have hat := (o89.out.below hbel2).src.at
                obtain ⟨g, off, rfl, hg, c0, c1', c2', c3', c4', c5'⟩ := JAt.cells hat i hlt2
                have hi0 : (0 : Int) ≤ (i : Int) := by omega
                have hi1 : (i : Int) < (GL.length : Int) := by omega
                have kb := (hbel2.block w1.heap.size l9.out).trans K9.out
                obtain ⟨x0, x1, x2, x3, x4, x5, _⟩ := box6 kb
                have hne := HGN.out GL[i] (List.getElem_mem hlt2)
                generalize GL[i] = y at c0 c1' c2' c3' c4' c5' hne
                have HNE := Lib.hid (show ¬ (y.n = k.n ∧ y.d = k.d ∧ y.p = k.p) from fun h => hne (by unfold slotL; rw [h.1, h.2.1, h.2.2]))
                have HBL2 := Lib.hid hbel2
                have e1 := txt_beq y.n k.n
                have e2 := txt_beq y.d k.d
                have e3 := txt_beq y.p k.p
                clear kb hat hne
                by_cases h1 : y.n = k.n
                · by_cases h2 : y.d = k.d
                  · have h3 : ¬ y.p = k.p := fun h => HNE.out ⟨h1, h2, h⟩
                    rw [decide_eq_true h1] at e1
                    rw [decide_eq_true h2] at e2
                    rw [decide_eq_false h3] at e3
                    clear h1 h2 h3
                    go_wp2
                    go_quiet (fail)
                    go_wp2
                    go_roundw
                    case rel => exact ⟨i + 1, by omega, by go_num, below_drewN HBL2.out _⟩
                    case measure => simp [intOf]; omega
                  · rw [decide_eq_true h1] at e1
                    rw [decide_eq_false h2] at e2
                    clear h1 h2
                    go_wp2
                    go_quiet (fail)
                    go_wp2
                    go_roundw
                    case rel => exact ⟨i + 1, by omega, by go_num, below_drewN HBL2.out _⟩
                    case measure => simp [intOf]; omega
                · rw [decide_eq_false h1] at e1
                  clear h1
                  go_wp2
                  go_quiet (fail)
                  go_wp2
                  go_roundw
                  case rel => exact ⟨i + 1, by omega, by go_num, below_drewN HBL2.out _⟩
                  case measure => simp [intOf]; omega
              · have c10 := Lib.hid (bstep c9.out hbel2)
                have K10 := Lib.hid ((hbel2.block w1.heap.size l9.out).trans K9.out)
                have l10 := Lib.hid (Nat.lt_of_lt_of_le l9.out hbel2.size)
                have o210 := Lib.hid (o29.out.below hbel2)
                have hkj := HKJ.out
                go_wp2_with fail
                refine (JI.out _ _ o210.out.src.at).mono ?_
                rintro e w11 ⟨rfl, b11⟩
                rw [hkj]
                have CF := Lib.hid (bstep c10.out b11)
                have k11 := (b11.block w1.heap.size l10.out).trans K10.out
                obtain ⟨x0, x1, x2, x3, x4, x5, _⟩ := box6 k11
                clear k11 b11 hbel2 hkj
                cases hlk : liveC now k with
                | true =>
                  have hm1 : m = 1 := by rw [HMM.out, HM1.out, hlk]; rfl
                  have hm2 : ((m : Int) == 1) = true := by rw [hm1]; rfl
                  by_cases hu : k.u = -1
                  · have eu : (k.u == -1) = true := by rw [hu]; rfl
                    clear hu hlk hm1
                    go_wp2
                    go_ret
                    exact ⟨rfl, CF.out⟩
                  · have eu : (k.u == -1) = false := by rw [Bool.eq_false_iff]; intro h; exact hu (eq_of_beq h)
                    have hgt : k.u > now := by
                      unfold liveC at hlk
                      rw [eu] at hlk
                      simpa using hlk
                    clear hu hlk hm1
                    go_wp2
                    go_ret
                    exact ⟨rfl, CF.out⟩
                | false =>
                  have hm1 : m = 0 := by rw [HMM.out, HM1.out, hlk]; rfl
                  have hm2 : ((m : Int) == 1) = false := by rw [hm1]; rfl
                  have hul : (k.u == -1) = false ∧ ¬ now < k.u := by
                    unfold liveC at hlk
                    simp only [Bool.or_eq_false_iff, decide_eq_false_iff_not] at hlk
                    exact hlk
                  obtain ⟨eu, hgt0⟩ := hul
                  have hgt : ¬ k.u > now := hgt0
                  have HD := Lib.hid (show decide (now < k.u) = false from decide_eq_false hgt0)
                  clear hlk hm1
                  go_wp2
                  go_ret
                  refine ⟨?_, CF.out⟩
                  first
                    | rfl
                    | exact ret_bool (by rw [HD.out]; rfl)
                    | exact ret_bool (by simp [HD.out])
  · have hnb : decide (1048576 < n) = true := by simp; omega
    go_enter Try.func3, Try.ntmps3
    go_wp2_with fail
    refine (big_call av n c _).mono ?_
    rintro e w0 ⟨rfl, rfl⟩
    rw [hnb]
    go_wp2
    go_ret
    exact ⟨rfl, Below.refl _ _⟩

set_option maxRecDepth 100000 in
theorem lifted (os : Os) (started : os.Started) (H : Type) (enc : TypeId × Value → H) :
    ReturnsInHanded {} Try.checked os 3 .any (Rows.fnKeepSpec.pre6 enc Try.prog Try.f3 Rows.fnKeepRow.domain false) (Rows.fnKeepSpec.post enc Try.prog Try.f3 false true false false) := by
  refine returnsInHanded_of_change (C := Try.checked) own started (by kernel_rfl) Try.func3
    (ChangeSpec.witness6 (enc := enc) (C := Try.checked) false ⟨#[], #[.slice none 0 0], []⟩ 8 (by kernel_rfl) (by kernel_rfl) (by kernel_rfl) (by kernel_rfl)) ?_
  intro W base args ds gs before hval0 hW hcnd _
  have hval : ∀ (j : Nat) t v, Try.f3.params[j]? = some t → args[j]? = some v → Value.okWide Try.prog W .any base t v := hval0
  have hW' := hW
  obtain ⟨p, q, hA0, hV, rfl, hfz, hnd⟩ := hW
  have hA : DataW.TrodAll enc Try.prog W 0 (fun _ => true) true Try.f3.params.toList args.toList ds p := hA0
  rw [Try.params3] at hA hval
  obtain ⟨v0, vs0, d0, ds0, p0, q0, hargs, rfl, rfl, h0, r0⟩ := trodAll_cons hA
  obtain ⟨rfl, rfl, rfl⟩ := trodAll_nil r0
  obtain rfl : args = #[v0] := by cases args; simp_all
  obtain ⟨rfl, rfl⟩ := trodVars_none hV
  obtain ⟨a0, len0, cap0, rfl⟩ := okWide_slice Try.underlying22 (hval 0 22 v0 rfl rfl)
  have k0 := h0
  have lt0 : ∀ x ∈ p0, x.block < W.heap.size := by obtain ⟨m, hm⟩ := k0; exact DataW.trod_lt m _ _ _ hm
  obtain ⟨z0, w0⟩ : ∃ zs, IsRow .u8 W a0 len0 cap0 zs := by
    obtain ⟨fuel, hf⟩ := h0
    rcases open_ints Try.underlying22 Try.underlying5 (by kernel_rfl) hf with ⟨hcs, _⟩ | ⟨x, l, c, zs, hcs, _, hl, hm, hz, _, hcell, hwz⟩
    · simp [Value.cells] at hcs
      obtain ⟨rfl, rfl, rfl⟩ := hcs
      exact ⟨[], .inl ⟨rfl, rfl, rfl, rfl⟩⟩
    · simp [Value.cells] at hcs
      obtain ⟨rfl, rfl, rfl⟩ := hcs
      exact ⟨zs, .inr ⟨_, rfl, hl, hm, by simpa using hz, hcell, hwz⟩⟩
  obtain ⟨z, hZ, hI⟩ := code_of_row w0
  clear hA0 hval0
  simp only [List.append_nil] at hW'
  refine (walkC a0 len0 cap0 W hI).mono fun e W' ⟨he, hg⟩ => ?_
  subst he
  exact ⟨_, rfl, _, _, _, [], _, [], hW', (trodAll_cons_mk (shut_bool Try.underlying4 _) trodAll_mk0), (trodAll_cons_mk (Below.trod laidOut (by kernel_rfl) (of_decide_eq_true (by kernel_rfl)) k0 hg lt0) trodAll_mk0), rfl, hg.frame _, fun h => by cases h⟩

theorem over : Rows.fnKeepRow.holds Try.pinned (OpenSpec.ofChange Rows.fnKeepSpec) :=
  OpenClaim.holds_of_wide 3 Try.f3 rfl rfl rfl rfl rfl rfl rfl ⟨rfl, rfl, rfl, rfl, rfl⟩ rfl rfl rfl rfl rfl (by kernel_rfl) Try.func3 (by kernel_rfl)
    (of_decide_eq_true (by kernel_rfl)) (by unfold Func.isWrapper; first | (rw [if_pos (by decide +kernel)]; kernel_rfl) | (rw [if_neg (by decide +kernel)]; exact ⟨rfl, rfl⟩))
    (fun os started H enc _ => lifted os started H enc)

theorem proved : Rows.FnKeepSaid := over

end Go.Proofs.Ytdgfiebehnfpgaa.fnKeep
