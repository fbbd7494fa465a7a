/- CONTRACT of the model's GetRequest. -/
import Derived.Test.YtfnignlfelambaaGreatDoorHtTk
import Derived.Test.YtfnignlfelambaaGreatDoorHtG
namespace Go.Proofs.YtfnignlfelambaaGreatDoor
set_option linter.unusedVariables false
set_option maxRecDepth 4000
open Go.ChangeShapes Go.WideShapes Go.ChangeAt Go.RowKit
open Go.ChangeMaps (open_string shut_string)

namespace Ht

/-- what the reading of a request hands back -/
def ReqP (e : Ending) (w : World) (R : ReqL × Int) : Prop := ∃ vq vh, e = .returned (.tuple #[reqV R.1 vq vh, .int .i64 R.2]) ∧ PAt w vq R.1.q ∧ PAt w vh R.1.h

theorem results_cell_tmp1 {fn : Func} {p u : Tmp} {ty : TypeId} (h : fn.results = #[.cell p ty, .tmp u]) (tmps : Array Value) (P : Program) (w : World) :
    (results fn tmps).run P w = ((asAddr (tmps.getD p undef)).run P w).andThen fun a w₁ => ((loadVar ty a).run P w₁).andThen fun x w₂ => .ok (.tuple #[x, tmps.getD u undef]) w₂ := by
  simp only [results, h]
  simp [Sem.run_bind, Result.andThen]

theorem req_load {W : World} {n : Nat} {a0 a1 a2 a3 a4 : Value} (h : W.heap[n]? = some (.cells #[a0, a1, a2, a3, a4] 26 (0, 0))) (v0 v1 v2 v3 v4 : Value) :
    (loadVar 26 ⟨n, 0, none⟩).run Tryz.prog (((((W.setCell ⟨n, 0, none⟩ v0).setCell ⟨n, 1, none⟩ v1).setCell ⟨n, 2, none⟩ v2).setCell ⟨n, 3, none⟩ v3).setCell ⟨n, 4, none⟩ v4) = .ok (.agg #[v0, v1, v2, v3, v4]) (((((W.setCell ⟨n, 0, none⟩ v0).setCell ⟨n, 1, none⟩ v1).setCell ⟨n, 2, none⟩ v2).setCell ⟨n, 3, none⟩ v3).setCell ⟨n, 4, none⟩ v4) :=
  run_loadVar_row (P := Tryz.prog) _ n 26 26 #[v0, v1, v2, v3, v4] (0, 0) _ (set5_same h v0 v1 v2 v3 v4) Tryz.underlying26 rfl (by rw [req_info]; rfl)

theorem pat_nil (w : World) : PAt w (.slice none 0 0) [] := ⟨none, 0, rfl, .inl rfl⟩

theorem tail_row {w1 : World} {g cap : Nat} {x : List UInt8} {l : List (List UInt8)} (h : TAt w1 (.slice (some ⟨g, 0, none⟩) (l.length + 1) cap) (x :: l)) :
    ∃ v, TAt w1 v l ∧ ∀ wx, (Instr.slice 43 (.slice (some ⟨g, 0, none⟩) (l.length + 1) cap) (some (.int .i64 1)) none none).run Tryz.prog wx = .ok v wx := by
  refine ⟨sliced (some ⟨g, 0, none⟩) 1 (l.length + 1) cap 1, ?_, fun wx => ?_⟩
  · have ht := tat_tail h
    unfold sliced
    by_cases hc : cap = 1
    · obtain ⟨a, c, he, hcap, _⟩ := ht
      simp only [Value.slice.injEq] at he
      have hl : l.length = 0 := by omega
      exact ⟨_, _, rfl, by omega, .inl hl⟩
    · simp only [hc, if_false, Option.map_some, Addr.add]
      exact ht
  · rw [run_slice_l (P := Tryz.prog) (w := wx) (t := 43) (ht := by kernel_rfl) (kl := .i64) (l := 1) (h0 := by omega) (h1 := by omega)]
    have e : Tryz.prog.elem 43 = 9 := by kernel_rfl
    rw [e, Tryz.sizeOf9]
    rfl

/-- an empty request, stored in the result's cell -/
theorem zero_exit (R : ReqL × Int) (c : Int) (h : R = (zeroR, c)) {W : World} {v : Value} (hv : v = .tuple #[.agg #[.string ⟨#[]⟩, .string ⟨#[]⟩, .slice none 0 0, .slice none 0 0, .string ⟨#[]⟩], .int .i64 c]) : ReqP (.returned v) W R := by
  subst h hv
  exact ⟨.slice none 0 0, .slice none 0 0, rfl, pat_nil W, pat_nil W⟩

set_option maxHeartbeats 40000000 in
theorem getReq_spec (s : List UInt8) (w : World) (hs : s.length ≤ 1048576) :
    Calls Tryz.prog 15 #[.string (txt s)] w fun e w' => ReqP e w' (getReq s) ∧ Below w.heap.size w w' := by
  have hz := txt_size s
  have ba := Lib.hid ((Below.refl w.heap.size w).alloc (Nat.le_refl _) (.cells #[.string ⟨#[]⟩, .string ⟨#[]⟩, .slice none 0 0, .slice none 0 0, .string ⟨#[]⟩] 26))
  have g0 := Lib.hid (heap_alloc_new w (.cells #[.string ⟨#[]⟩, .string ⟨#[]⟩, .slice none 0 0, .slice none 0 0, .string ⟨#[]⟩] 26))
  have z0 : w.heap.size < (w.alloc (.cells #[.string ⟨#[]⟩, .string ⟨#[]⟩, .slice none 0 0, .slice none 0 0, .string ⟨#[]⟩] 26)).heap.size := by simp
  have Z0 := Lib.hid z0
  clear z0
  by_cases h8 : 8000 < s.length
  · have HR := Lib.hid (show getReq s = (zeroR, 5) by unfold getReq; rw [if_pos h8])
    generalize getReq s = R at HR ⊢
    have i8 : (8000 : Int) < (s.length : Int) := by omega
    go_enter Tryz.func15, Tryz.ntmps15
    go_wp2
    refine bodyPost_ret (v := .tuple #[.agg #[.string ⟨#[]⟩, .string ⟨#[]⟩, .slice none 0 0, .slice none 0 0, .string ⟨#[]⟩], .int .i64 5]) ?_ rfl ⟨zero_exit R 5 HR.out rfl, ba.out⟩
    rw [results_cell_tmp1 rfl]
    have hld := run_loadVar_row (P := Tryz.prog) _ w.heap.size 26 26 _ (0, 0) _ g0.out Tryz.underlying26 rfl (by rw [req_info]; rfl)
    simp [asAddr, Result.andThen, hld]
  · have i8 : ¬ (8000 : Int) < (s.length : Int) := by omega
    have HG := Lib.hid (getReq_mid h8)
    have LN := Lib.hid (fun wx => lines_spec (txt s) wx (by rw [txt_size]; exact hs))
    simp only [txt_toList] at LN
    generalize getReq s = R at HG ⊢
    clear h8
    go_enter Tryz.func15, Tryz.ntmps15
    go_wp2_with fail
    refine (LN.out _).mono ?_
    rintro e w1 ⟨hL, b1⟩
    have c1 := ba.out.trans (b1.mono ba.out.size)
    have n1 := Nat.lt_of_lt_of_le Z0.out b1.size
    have K1 := Lib.hid ((b1.block w.heap.size Z0.out).trans g0.out)
    cases hsc : scanL s with
    | none =>
      rw [hsc] at hL
      have hg := HG.out
      rw [hsc] at hg
      have HR := Lib.hid (show R = (zeroR, 1) from hg)
      obtain ⟨v, rfl⟩ := hL
      clear hg HG hsc LN
      obtain ⟨x0, x1, x2, x3, x4, y0, y1, y2, y3, y4⟩ := box5 K1.out
      go_wp2
      refine bodyPost_ret (v := .tuple #[.agg #[.string ⟨#[]⟩, .string ⟨#[]⟩, .slice none 0 0, .slice none 0 0, .string ⟨#[]⟩], .int .i64 1]) ?_ rfl ⟨zero_exit R 1 HR.out rfl, set5_below c1 (Nat.le_refl _) _ _ _ _ _⟩
      rw [results_cell_tmp1 rfl]
      simp [asAddr, Result.andThen, req_load K1.out]
    | some pr =>
      obtain ⟨ls, b⟩ := pr
      rw [hsc] at hL
      obtain ⟨v, rfl, o1⟩ := hL
      have hg := HG.out
      rw [hsc] at hg
      have hparts := scanL_parts hsc
      clear HG hsc LN
      cases ls with
      | nil =>
        have HR := Lib.hid (show R = (zeroR, 1) from hg)
        obtain ⟨a1, cap1, rfl⟩ := own_val o1
        obtain ⟨x0, x1, x2, x3, x4, y0, y1, y2, y3, y4⟩ := box5 K1.out
        clear hg hparts o1
        go_wp2
        refine bodyPost_ret (v := .tuple #[.agg #[.string ⟨#[]⟩, .string ⟨#[]⟩, .slice none 0 0, .slice none 0 0, .string ⟨#[]⟩], .int .i64 1]) ?_ rfl ⟨zero_exit R 1 HR.out rfl, set5_below c1 (Nat.le_refl _) _ _ _ _ _⟩
        rw [results_cell_tmp1 rfl]
        simp [asAddr, Result.andThen, req_load K1.out]
      | cons f hs' =>
        have HG := Lib.hid (show R = readR (f :: hs') b from hg)
        have T1 := Lib.hid (tat_own o1)
        obtain ⟨a1, cap1, rfl⟩ := own_val o1
        obtain ⟨g1, rfl, _, hg1⟩ := own_at o1 (by simp)
        have d1 := own_cell o1 0 (by simp) rfl
        have hp1 := hparts.1 f List.mem_cons_self
        have HP := Lib.hid hparts
        have S := Lib.hid (fun wx => split_spec (txt f) 32 wx (by rw [txt_size]; omega))
        simp only [txt_toList] at S
        simp only [List.getElem_cons_zero] at d1
        clear hg hparts
        have hlen : (f :: hs').length = hs'.length + 1 := rfl
        rw [hlen] at T1 ⊢
        obtain ⟨v1, tv1, hsl1⟩ := tail_row T1.out
        have TV1 := Lib.hid tv1
        clear tv1
        go_wp2_with fail
        refine (S.out _).mono ?_
        rintro e w2 ⟨v2, rfl, o2, b2⟩
        have c2 := bstep c1 b2
        have n2 : w.heap.size < w2.heap.size := Nat.lt_of_lt_of_le n1 b2.size
        have K2 := Lib.hid ((b2.block w.heap.size n1).trans K1.out)
        have s2 := b2.size
        by_cases h3 : (splitL 32 f).length = 3
        · obtain ⟨m, t, p, hS⟩ : ∃ m t p, splitL 32 f = [m, t, p] := by
            match hS : splitL 32 f, h3 with
            | [m, t, p], _ => exact ⟨m, t, p, rfl⟩
          have HF := Lib.hid (readF_three hS)
          have hpt := splitL_part 32 f t (by rw [hS]; simp)
          rw [hS] at o2
          obtain ⟨a2, cap2, rfl⟩ := own_val o2
          obtain ⟨g2, rfl, _, hg2⟩ := own_at o2 (by simp)
          have e0 := own_cell o2 0 (by simp) rfl
          have e1 := own_cell o2 1 (by simp) rfl
          have e2 := own_cell o2 2 (by simp) rfl
          simp only [List.getElem_cons_zero, List.getElem_cons_succ] at e0 e1 e2
          have hA := get_lit m
          have hB := post_lit m
          have hC : ((txt p).toList == [72, 84, 84, 80, 47, 49, 46, 49]) = (p == protoT) := by
            rw [Lib.toList_data, txt_toList]
            rfl
          have HM := Lib.hid (show methodL m = (m == getT || m == postT) from rfl)
          have hl3 : [m, t, p].length = 3 := rfl
          rw [hl3]
          clear h3 hS o2 S hl3
          by_cases hmp : methodL m = true ∧ p = protoT
          · have HF2 := Lib.hid (show readF f = some (m, t) by rw [HF.out, if_pos hmp])
            have hpp : (p == protoT) = true := by rw [hmp.2]; rfl
            rw [hpp] at hC
            have hm1 := hmp.1
            rw [HM.out] at hm1
            generalize (m == getT) = A at hA hm1 HM
            generalize (m == postT) = B at hB hm1 HM
            clear hmp hpp HF HM
            have ha2 := (Below.refl w2.heap.size w2).alloc (Nat.le_refl _) (.cells #[.string (txt m), .string ⟨#[]⟩, .slice none 0 0, .slice none 0 0, .string (txt b)] 26)
            have hb2 := heap_alloc_new w2 (.cells #[.string (txt m), .string ⟨#[]⟩, .slice none 0 0, .slice none 0 0, .string (txt b)] 26)
            have hs2 : (w2.alloc (.cells #[.string (txt m), .string ⟨#[]⟩, .slice none 0 0, .slice none 0 0, .string (txt b)] 26)).heap.size = w2.heap.size + 1 := by simp
            have HA2 := Lib.hid ha2
            have HB2 := Lib.hid hb2
            have HS2 := Lib.hid hs2
            clear ha2 hb2 hs2
            have CT := Lib.hid (fun wx => cut_spec_l t 63 wx (by omega))
            have hab : A = true ∨ (A = false ∧ B = true) := by cases A <;> cases B <;> simp_all
            clear hm1
            rcases hab with rfl | ⟨rfl, rfl⟩
            all_goals
              cases hct : cutL 63 t with
              | none =>
                have HT := Lib.hid (show readT t = if pathL t = true then some (t, []) else none by unfold readT targetOf; rw [hct]; rfl)
                rw [hct] at CT
                simp only [cutR] at CT
                clear hct
                go_wp2_with fail
                refine (CT.out _).mono ?_
                rintro e w3 ⟨rfl, b3⟩
                have k3 := (b3.block w.heap.size (by rw [HS2.out]; omega)).trans ((HA2.out.block w.heap.size n2).trans K2.out)
                have kb3 := (b3.block w2.heap.size (by rw [HS2.out]; omega)).trans HB2.out
                have d3 := (b2.trans (HA2.out.mono s2)).trans (b3.mono (by rw [HS2.out]; omega))
                have s3 := b3.size
                rw [HS2.out] at s3
                obtain ⟨x0, x1, x2, x3, x4, y0, y1, y2, y3, y4⟩ := box5 kb3
                obtain ⟨X, hX⟩ : ∃ X, X = w3.setCell ⟨w2.heap.size, 1, none⟩ (.string (txt t)) := ⟨_, rfl⟩
                have XB : X.heap[w2.heap.size]? = some (.cells #[.string (txt m), .string (txt t), .slice none 0 0, .slice none 0 0, .string (txt b)] 26 (0, 0)) := by
                  rw [hX]
                  exact heap_setCell_same w3 w2.heap.size 1 _ _ (.string (txt t)) kb3
                have XK : X.heap[w.heap.size]? = some (.cells #[.string ⟨#[]⟩, .string ⟨#[]⟩, .slice none 0 0, .slice none 0 0, .string ⟨#[]⟩] 26 (0, 0)) := by
                  rw [hX]
                  exact (Below.heap_setCell w3 ⟨w2.heap.size, 1, none⟩ (.string (txt t)) w.heap.size (by show w.heap.size ≠ w2.heap.size; omega)).trans k3
                have dX : Below w1.heap.size w1 X := by
                  rw [hX]
                  exact d3.setCell (p := ⟨w2.heap.size, 1, none⟩) (by show w1.heap.size ≤ w2.heap.size; omega) (.string (txt t))
                have BX : w2.heap.size < X.heap.size := by rw [hX]; simp; omega
                have PQ := pat_nil X
                have HNQ := Lib.hid (show ∀ g, (Value.slice none 0 0).ownBlock = some g → g ≠ w2.heap.size from fun g e => by cases e)
                have HNR := Lib.hid (show ∀ g, (Value.slice none 0 0).ownBlock = some g → w.heap.size < g from fun g e => by cases e)
                clear k3 kb3 d3 e0 e1 e2 d1 c2 b3 hg2
                have PA := Lib.hid (fun wx => path_spec (txt t) wx (by rw [txt_size]; omega))
                simp only [txt_toList] at PA
                go_wp2_with fail
                rw [← hX]
                clear x0 x1 x2 x3 x4 y0 y1 y2 y3 y4
                have nX : w.heap.size < X.heap.size := Nat.lt_of_lt_of_le n1 dX.size
                have cX := c1.trans (dX.mono c1.size)
                have TX := tat_below TV1.out dX
                have CX := Lib.hid cX
                have XKH := Lib.hid XK
                have XBH := Lib.hid XB
                have PQH := Lib.hid PQ
                obtain ⟨x0, x1, x2, x3, x4, y0, y1, y2, y3, y4⟩ := box5 XB
                clear cX XK XB PQ dX hX
                refine (PA.out _).mono ?_
                rintro e wp ⟨rfl, rfl⟩
                by_cases hpath : pathL t = true
                · have HT2 := Lib.hid (show readT t = some (t, []) by rw [HT.out]; rw [if_pos hpath])
                  rw [hpath]
                  clear hpath
                  have TT := TX
                  have TK := Lib.hid (fun wx hx => take_spec v1 hs' wx hx (by have := HP.out.2.2; simp at this; omega) (fun x hx => by have := HP.out.1 x (List.mem_cons_of_mem _ hx); omega))
                  go_wp2_with fail
                  refine (TK.out _ TT).mono ?_
                  rintro e w6 ⟨⟨vh, o6, x, tl, rfl, hxt⟩, b6⟩
                  have k6 := (b6.block w.heap.size nX).trans XKH.out
                  have c6 := CX.out.trans (b6.mono CX.out.size)
                  have kb6 := (b6.block w2.heap.size BX).trans XBH.out
                  have hlen6 := takeA_len hs' [] none
                  have hpar6 := take_parts s.length hs' [] none (fun x hx => HP.out.1 x (List.mem_cons_of_mem _ hx)) (fun p hp => by cases hp) (Nat.zero_le _)
                  have PH6 := Lib.hid (PAt.own o6)
                  have K6 := Lib.hid k6
                  have KB6 := Lib.hid kb6
                  obtain ⟨a6, cap6, rfl⟩ := own_val2 o6
                  have n6 : w.heap.size < w6.heap.size := Nat.lt_of_lt_of_le nX b6.size
                  have PQ6 := Lib.hid (PQH.out.below b6)
                  have BX6 : w2.heap.size < w6.heap.size := Nat.lt_of_lt_of_le BX b6.size
                  have LL6 := Lib.hid (own_low o6)
                  have RH := Lib.hid (show readH hs' = if (takeA [] none hs').2.2 = true ∧ headsL (takeA [] none hs').1 = true then some ((takeA [] none hs').1, (takeA [] none hs').2.1) else none from rfl)
                  have hnl := HP.out.2.2
                  clear x0 x1 x2 x3 x4 y0 y1 y2 y3 y4 o6 b6 TT TX k6 kb6
                  generalize takeA [] none hs' = TA at hxt hlen6 hpar6 PH6 RH LL6 ⊢
                  obtain ⟨hh, tt, gd⟩ := TA
                  simp only at hxt hlen6 hpar6 PH6 RH LL6 ⊢
                  cases gd with
                  | false =>
                    have HR := Lib.hid (show R = (zeroR, 3) by rw [HG.out]; exact readR_h HF2.out HT2.out (by rw [RH.out]; rw [if_neg (by simp)]))
                    clear hxt hpar6
                    obtain ⟨x0, x1, x2, x3, x4, y0, y1, y2, y3, y4⟩ := box5 K6.out
                    go_wp2
                    refine bodyPost_ret (v := .tuple #[.agg #[.string ⟨#[]⟩, .string ⟨#[]⟩, .slice none 0 0, .slice none 0 0, .string ⟨#[]⟩], .int .i64 3]) ?_ rfl ⟨zero_exit R 3 HR.out rfl, set5_below c6 (Nat.le_refl _) _ _ _ _ _⟩
                    rw [results_cell_tmp1 rfl]
                    simp [asAddr, Result.andThen, req_load K6.out]
                  | true =>
                    obtain ⟨rfl, rfl⟩ := hxt rfl
                    have HS6 := Lib.hid (fun wx h => heads_spec (.slice a6 hh.length cap6) hh wx h (by simp at hlen6 hnl; omega) (fun p hp => by have := hpar6.1 p hp; omega))
                    have hbl := HP.out.2.1
                    have BS := Lib.hid (fun wx => body_spec b (tolT tt) tt.isSome wx (by omega) (by have := hpar6.2; cases tt with | none => exact Nat.zero_le _ | some u => (show u.length ≤ _; have h9 : u.length ≤ s.length := this; omega)))
                    have HBO := Lib.hid (body_model b tt)
                    go_wp2_with fail
                    refine (HS6.out _ PH6.out).mono ?_
                    rintro e w7 ⟨rfl, b7⟩
                    have c7 := bstep c6 b7
                    have k7 := (b7.block w.heap.size n6).trans K6.out
                    have kb7 := (b7.block w2.heap.size BX6).trans KB6.out
                    have n7 : w.heap.size < w7.heap.size := Nat.lt_of_lt_of_le n6 b7.size
                    have BX7 : w2.heap.size < w7.heap.size := Nat.lt_of_lt_of_le BX6 b7.size
                    have PQ7 := Lib.hid (PQ6.out.below b7)
                    have PH7 := Lib.hid (PH6.out.below b7)
                    by_cases hhok : headsL hh = true
                    · have RH2 := Lib.hid (show readH hs' = some (hh, tt) by rw [RH.out, if_pos ⟨trivial, hhok⟩])
                      rw [hhok]
                      clear hhok
                      have K7 := Lib.hid k7
                      have KB7 := Lib.hid kb7
                      have M8 := Lib.hid (heap_setCell_same w7 w2.heap.size 3 _ _ (.slice a6 hh.length cap6) kb7)
                      have k8 := (Below.heap_setCell w7 ⟨w2.heap.size, 3, none⟩ (.slice a6 hh.length cap6) w.heap.size (by show w.heap.size ≠ w2.heap.size; omega)).trans k7
                      have K8 := Lib.hid k8
                      have c8 := c7.setCell (p := ⟨w2.heap.size, 3, none⟩) (by show w.heap.size ≤ w2.heap.size; omega) (.slice a6 hh.length cap6)
                      have PQ8 := Lib.hid (pat_heap PQ7.out (fun g e => Below.heap_setCell w7 ⟨w2.heap.size, 3, none⟩ (.slice a6 hh.length cap6) g (by show g ≠ w2.heap.size; exact HNQ.out g e)) (by simp) : PAt (w7.setCell ⟨w2.heap.size, 3, none⟩ (.slice a6 hh.length cap6)) _ _)
                      have PH8 := Lib.hid (pat_heap PH7.out (fun g e => Below.heap_setCell w7 ⟨w2.heap.size, 3, none⟩ (.slice a6 hh.length cap6) g (by show g ≠ w2.heap.size; have := (LL6.out g e).1; omega)) (by simp) : PAt (w7.setCell ⟨w2.heap.size, 3, none⟩ (.slice a6 hh.length cap6)) _ _)
                      have s8 : (w7.setCell ⟨w2.heap.size, 3, none⟩ (.slice a6 hh.length cap6)).heap.size = w7.heap.size := by simp
                      have S8 := Lib.hid s8
                      obtain ⟨x0, x1, x2, x3, x4, y0, y1, y2, y3, y4⟩ := box5 kb7
                      clear k7 kb7 k8 s8 PQ7 PH7
                      go_wp2_with fail
                      refine (BS.out _).mono ?_
                      rintro e w9 ⟨rfl, b9⟩
                      have hbo := HBO.out
                      have c9 := bstep c8 b9
                      have k9 := (b9.block w.heap.size (by rw [S8.out]; exact n7)).trans K8.out
                      have kb9 := (b9.block w2.heap.size (by rw [S8.out]; exact BX7)).trans M8.out
                      have PQ9 := Lib.hid (PQ8.out.below b9)
                      have PH9 := Lib.hid (PH8.out.below b9)
                      have e9 : tolT tt = tt.getD [] := rfl
                      rw [e9, ← hbo]
                      clear x0 x1 x2 x3 x4 y0 y1 y2 y3 y4 hbo e9
                      by_cases hbok : bodyOk b tt = true
                      · have HR := Lib.hid (show R = (⟨m, t, [], hh, b⟩, 0) by rw [HG.out, readR_b HF2.out HT2.out RH2.out, if_pos hbok])
                        rw [hbok]
                        clear hbok
                        have kk := k9
                        obtain ⟨x0, x1, x2, x3, x4, _⟩ := box5 kb9
                        obtain ⟨X0, X1, X2, X3, X4, Y0, Y1, Y2, Y3, Y4⟩ := box5 k9
                        have L9 := Lib.hid (req_load k9 (.string (txt m)) (.string (txt t)) (.slice none 0 0) (.slice a6 hh.length cap6) (.string (txt b)))
                        clear k9 kk kb9
                        go_wp2
                        refine bodyPost_ret (v := .tuple #[.agg #[.string (txt m), .string (txt t), (.slice none 0 0), .slice a6 hh.length cap6, .string (txt b)], .int .i64 0]) ?_ rfl ⟨?_, set5_below c9 (Nat.le_refl _) _ _ _ _ _⟩
                        · rw [results_cell_tmp1 rfl]
                          simp [asAddr, Result.andThen, L9.out]
                        · rw [HR.out]
                          exact ⟨(.slice none 0 0), .slice a6 hh.length cap6, rfl, pat_heap PQ9.out (fun g e => set5_heap _ _ g _ _ _ _ _ (by have := HNR.out g e; omega)) (by simp), pat_heap PH9.out (fun g e => set5_heap _ _ g _ _ _ _ _ (by have := (LL6.out g e).1; omega)) (by simp)⟩
                      · have HR := Lib.hid (show R = (zeroR, 4) by rw [HG.out, readR_b HF2.out HT2.out RH2.out, if_neg hbok])
                        rw [Bool.not_eq_true] at hbok
                        rw [hbok]
                        clear hbok
                        obtain ⟨x0, x1, x2, x3, x4, y0, y1, y2, y3, y4⟩ := box5 k9
                        go_wp2
                        refine bodyPost_ret (v := .tuple #[.agg #[.string ⟨#[]⟩, .string ⟨#[]⟩, .slice none 0 0, .slice none 0 0, .string ⟨#[]⟩], .int .i64 4]) ?_ rfl ⟨zero_exit R 4 HR.out rfl, set5_below c9 (Nat.le_refl _) _ _ _ _ _⟩
                        rw [results_cell_tmp1 rfl]
                        simp [asAddr, Result.andThen, req_load k9]
                    · have HR := Lib.hid (show R = (zeroR, 3) by rw [HG.out]; exact readR_h HF2.out HT2.out (by rw [RH.out]; rw [if_neg (fun h => hhok h.2)]))
                      rw [Bool.not_eq_true] at hhok
                      rw [hhok]
                      clear hhok
                      obtain ⟨x0, x1, x2, x3, x4, y0, y1, y2, y3, y4⟩ := box5 k7
                      go_wp2
                      refine bodyPost_ret (v := .tuple #[.agg #[.string ⟨#[]⟩, .string ⟨#[]⟩, .slice none 0 0, .slice none 0 0, .string ⟨#[]⟩], .int .i64 3]) ?_ rfl ⟨zero_exit R 3 HR.out rfl, set5_below c7 (Nat.le_refl _) _ _ _ _ _⟩
                      rw [results_cell_tmp1 rfl]
                      simp [asAddr, Result.andThen, req_load k7]
                · have HR := Lib.hid (show R = (zeroR, 2) by rw [HG.out]; exact readR_t HF2.out (by rw [HT.out]; rw [if_neg hpath]))
                  rw [Bool.not_eq_true] at hpath
                  rw [hpath]
                  clear hpath x0 x1 x2 x3 x4 y0 y1 y2 y3 y4
                  obtain ⟨x0, x1, x2, x3, x4, y0, y1, y2, y3, y4⟩ := box5 XKH.out
                  go_wp2
                  refine bodyPost_ret (v := .tuple #[.agg #[.string ⟨#[]⟩, .string ⟨#[]⟩, .slice none 0 0, .slice none 0 0, .string ⟨#[]⟩], .int .i64 2]) ?_ rfl ⟨zero_exit R 2 HR.out rfl, set5_below CX.out (Nat.le_refl _) _ _ _ _ _⟩
                  rw [results_cell_tmp1 rfl]
                  simp [asAddr, Result.andThen, req_load XKH.out]
              | some pf =>
                obtain ⟨pa, fo⟩ := pf
                obtain ⟨lp, lf⟩ := cutL_len 63 t pa fo hct
                have HT0 := Lib.hid (show readT t = match getL fo with
                  | none => none
                  | some q => if pathL pa then some (pa, q) else none by unfold readT targetOf; rw [hct]; rfl)
                rw [hct] at CT
                simp only [cutR] at CT
                have GF := Lib.hid (fun wx => getform_spec fo wx (by omega))
                clear hct
                go_wp2_with fail
                refine (CT.out _).mono ?_
                rintro e w3 ⟨rfl, b3⟩
                have k3 := (b3.block w.heap.size (by rw [HS2.out]; omega)).trans ((HA2.out.block w.heap.size n2).trans K2.out)
                have kb3 := (b3.block w2.heap.size (by rw [HS2.out]; omega)).trans HB2.out
                have d3 := (b2.trans (HA2.out.mono s2)).trans (b3.mono (by rw [HS2.out]; omega))
                have s3 := b3.size
                rw [HS2.out] at s3
                obtain ⟨x0, x1, x2, x3, x4, y0, y1, y2, y3, y4⟩ := box5 kb3
                obtain ⟨X0, hX0⟩ : ∃ X, X = w3.setCell ⟨w2.heap.size, 1, none⟩ (.string (txt pa)) := ⟨_, rfl⟩
                have XB0 : X0.heap[w2.heap.size]? = some (.cells #[.string (txt m), .string (txt pa), .slice none 0 0, .slice none 0 0, .string (txt b)] 26 (0, 0)) := by
                  rw [hX0]
                  exact heap_setCell_same w3 w2.heap.size 1 _ _ (.string (txt pa)) kb3
                have XK0 : X0.heap[w.heap.size]? = some (.cells #[.string ⟨#[]⟩, .string ⟨#[]⟩, .slice none 0 0, .slice none 0 0, .string ⟨#[]⟩] 26 (0, 0)) := by
                  rw [hX0]
                  exact (Below.heap_setCell w3 ⟨w2.heap.size, 1, none⟩ (.string (txt pa)) w.heap.size (by show w.heap.size ≠ w2.heap.size; omega)).trans k3
                have dX0 : Below w1.heap.size w1 X0 := by
                  rw [hX0]
                  exact d3.setCell (p := ⟨w2.heap.size, 1, none⟩) (by show w1.heap.size ≤ w2.heap.size; omega) (.string (txt pa))
                have BX0 : w2.heap.size < X0.heap.size := by rw [hX0]; simp; omega
                have nX0 : w.heap.size < X0.heap.size := Nat.lt_of_lt_of_le n1 dX0.size
                clear k3 kb3 d3 e0 e1 e2 d1 c2 b3 hg2
                go_wp2_with fail
                rw [← hX0]
                clear x0 x1 x2 x3 x4 y0 y1 y2 y3 y4 hX0
                refine (GF.out _).mono ?_
                rintro e w4 ⟨v4, rfl, o4, b4⟩
                have k4 := (b4.block w.heap.size nX0).trans XK0
                have kb4 := (b4.block w2.heap.size BX0).trans XB0
                have d4 := dX0.trans (b4.mono dX0.size)
                have s4 := b4.size
                cases hgf : getL fo with
                | none =>
                  have HR := Lib.hid (show R = (zeroR, 2) by rw [HG.out]; exact readR_t HF2.out (by rw [HT0.out, hgf]))
                  have c4 := c1.trans (d4.mono c1.size)
                  have K4 := Lib.hid k4
                  simp only [getV]
                  clear GF hgf o4 k4 kb4 d4 XK0 XB0 dX0
                  obtain ⟨x0, x1, x2, x3, x4, y0, y1, y2, y3, y4⟩ := box5 K4.out
                  go_wp2
                  refine bodyPost_ret (v := .tuple #[.agg #[.string ⟨#[]⟩, .string ⟨#[]⟩, .slice none 0 0, .slice none 0 0, .string ⟨#[]⟩], .int .i64 2]) ?_ rfl ⟨zero_exit R 2 HR.out rfl, set5_below c4 (Nat.le_refl _) _ _ _ _ _⟩
                  rw [results_cell_tmp1 rfl]
                  simp [asAddr, Result.andThen, req_load K4.out]
                | some q =>
                  have HT := Lib.hid (show readT t = if pathL pa = true then some (pa, q) else none by rw [HT0.out, hgf])
                  rw [hgf] at o4
                  simp only [getV, Option.getD_some] at o4 ⊢
                  have LL4 := own_low o4
                  have P4 := PAt.own o4
                  obtain ⟨a4, cap4, rfl⟩ := own_val2 o4
                  obtain ⟨x0, x1, x2, x3, x4, y0, y1, y2, y3, y4⟩ := box5 kb4
                  obtain ⟨X, hX⟩ : ∃ X, X = w4.setCell ⟨w2.heap.size, 2, none⟩ (.slice a4 q.length cap4) := ⟨_, rfl⟩
                  have XB : X.heap[w2.heap.size]? = some (.cells #[.string (txt m), .string (txt pa), .slice a4 q.length cap4, .slice none 0 0, .string (txt b)] 26 (0, 0)) := by
                    rw [hX]
                    exact heap_setCell_same w4 w2.heap.size 2 _ _ (.slice a4 q.length cap4) kb4
                  have XK : X.heap[w.heap.size]? = some (.cells #[.string ⟨#[]⟩, .string ⟨#[]⟩, .slice none 0 0, .slice none 0 0, .string ⟨#[]⟩] 26 (0, 0)) := by
                    rw [hX]
                    exact (Below.heap_setCell w4 ⟨w2.heap.size, 2, none⟩ (.slice a4 q.length cap4) w.heap.size (by show w.heap.size ≠ w2.heap.size; omega)).trans k4
                  have dX : Below w1.heap.size w1 X := by
                    rw [hX]
                    exact d4.setCell (p := ⟨w2.heap.size, 2, none⟩) (by show w1.heap.size ≤ w2.heap.size; omega) (.slice a4 q.length cap4)
                  have BX : w2.heap.size < X.heap.size := by rw [hX]; simp; omega
                  have HNQ := Lib.hid (show ∀ g, (Value.slice a4 q.length cap4).ownBlock = some g → g ≠ w2.heap.size from fun g e => by have := (LL4 g e).1; omega)
                  have HNR := Lib.hid (show ∀ g, (Value.slice a4 q.length cap4).ownBlock = some g → w.heap.size < g from fun g e => by have := (LL4 g e).1; omega)
                  have PQ : PAt X (.slice a4 q.length cap4) q := by
                    rw [hX]
                    exact pat_heap P4 (fun g e => Below.heap_setCell w4 ⟨w2.heap.size, 2, none⟩ (.slice a4 q.length cap4) g (by show g ≠ w2.heap.size; exact HNQ.out g e)) (by simp)
                  clear GF hgf o4 k4 kb4 d4 XK0 XB0 dX0 P4 LL4
                  have PA := Lib.hid (fun wx => path_spec (txt pa) wx (by rw [txt_size]; omega))
                  simp only [txt_toList] at PA
                  go_wp2_with fail
                  rw [← hX]
                  clear x0 x1 x2 x3 x4 y0 y1 y2 y3 y4
                  have nX : w.heap.size < X.heap.size := Nat.lt_of_lt_of_le n1 dX.size
                  have cX := c1.trans (dX.mono c1.size)
                  have TX := tat_below TV1.out dX
                  have CX := Lib.hid cX
                  have XKH := Lib.hid XK
                  have XBH := Lib.hid XB
                  have PQH := Lib.hid PQ
                  obtain ⟨x0, x1, x2, x3, x4, y0, y1, y2, y3, y4⟩ := box5 XB
                  clear cX XK XB PQ dX hX
                  refine (PA.out _).mono ?_
                  rintro e wp ⟨rfl, rfl⟩
                  by_cases hpath : pathL pa = true
                  · have HT2 := Lib.hid (show readT t = some (pa, q) by rw [HT.out]; rw [if_pos hpath])
                    rw [hpath]
                    clear hpath
                    have TT := TX
                    have TK := Lib.hid (fun wx hx => take_spec v1 hs' wx hx (by have := HP.out.2.2; simp at this; omega) (fun x hx => by have := HP.out.1 x (List.mem_cons_of_mem _ hx); omega))
                    go_wp2_with fail
                    refine (TK.out _ TT).mono ?_
                    rintro e w6 ⟨⟨vh, o6, x, tl, rfl, hxt⟩, b6⟩
                    have k6 := (b6.block w.heap.size nX).trans XKH.out
                    have c6 := CX.out.trans (b6.mono CX.out.size)
                    have kb6 := (b6.block w2.heap.size BX).trans XBH.out
                    have hlen6 := takeA_len hs' [] none
                    have hpar6 := take_parts s.length hs' [] none (fun x hx => HP.out.1 x (List.mem_cons_of_mem _ hx)) (fun p hp => by cases hp) (Nat.zero_le _)
                    have PH6 := Lib.hid (PAt.own o6)
                    have K6 := Lib.hid k6
                    have KB6 := Lib.hid kb6
                    obtain ⟨a6, cap6, rfl⟩ := own_val2 o6
                    have n6 : w.heap.size < w6.heap.size := Nat.lt_of_lt_of_le nX b6.size
                    have PQ6 := Lib.hid (PQH.out.below b6)
                    have BX6 : w2.heap.size < w6.heap.size := Nat.lt_of_lt_of_le BX b6.size
                    have LL6 := Lib.hid (own_low o6)
                    have RH := Lib.hid (show readH hs' = if (takeA [] none hs').2.2 = true ∧ headsL (takeA [] none hs').1 = true then some ((takeA [] none hs').1, (takeA [] none hs').2.1) else none from rfl)
                    have hnl := HP.out.2.2
                    clear x0 x1 x2 x3 x4 y0 y1 y2 y3 y4 o6 b6 TT TX k6 kb6
                    generalize takeA [] none hs' = TA at hxt hlen6 hpar6 PH6 RH LL6 ⊢
                    obtain ⟨hh, tt, gd⟩ := TA
                    simp only at hxt hlen6 hpar6 PH6 RH LL6 ⊢
                    cases gd with
                    | false =>
                      have HR := Lib.hid (show R = (zeroR, 3) by rw [HG.out]; exact readR_h HF2.out HT2.out (by rw [RH.out]; rw [if_neg (by simp)]))
                      clear hxt hpar6
                      obtain ⟨x0, x1, x2, x3, x4, y0, y1, y2, y3, y4⟩ := box5 K6.out
                      go_wp2
                      refine bodyPost_ret (v := .tuple #[.agg #[.string ⟨#[]⟩, .string ⟨#[]⟩, .slice none 0 0, .slice none 0 0, .string ⟨#[]⟩], .int .i64 3]) ?_ rfl ⟨zero_exit R 3 HR.out rfl, set5_below c6 (Nat.le_refl _) _ _ _ _ _⟩
                      rw [results_cell_tmp1 rfl]
                      simp [asAddr, Result.andThen, req_load K6.out]
                    | true =>
                      obtain ⟨rfl, rfl⟩ := hxt rfl
                      have HS6 := Lib.hid (fun wx h => heads_spec (.slice a6 hh.length cap6) hh wx h (by simp at hlen6 hnl; omega) (fun p hp => by have := hpar6.1 p hp; omega))
                      have hbl := HP.out.2.1
                      have BS := Lib.hid (fun wx => body_spec b (tolT tt) tt.isSome wx (by omega) (by have := hpar6.2; cases tt with | none => exact Nat.zero_le _ | some u => (show u.length ≤ _; have h9 : u.length ≤ s.length := this; omega)))
                      have HBO := Lib.hid (body_model b tt)
                      go_wp2_with fail
                      refine (HS6.out _ PH6.out).mono ?_
                      rintro e w7 ⟨rfl, b7⟩
                      have c7 := bstep c6 b7
                      have k7 := (b7.block w.heap.size n6).trans K6.out
                      have kb7 := (b7.block w2.heap.size BX6).trans KB6.out
                      have n7 : w.heap.size < w7.heap.size := Nat.lt_of_lt_of_le n6 b7.size
                      have BX7 : w2.heap.size < w7.heap.size := Nat.lt_of_lt_of_le BX6 b7.size
                      have PQ7 := Lib.hid (PQ6.out.below b7)
                      have PH7 := Lib.hid (PH6.out.below b7)
                      by_cases hhok : headsL hh = true
                      · have RH2 := Lib.hid (show readH hs' = some (hh, tt) by rw [RH.out, if_pos ⟨trivial, hhok⟩])
                        rw [hhok]
                        clear hhok
                        have K7 := Lib.hid k7
                        have KB7 := Lib.hid kb7
                        have M8 := Lib.hid (heap_setCell_same w7 w2.heap.size 3 _ _ (.slice a6 hh.length cap6) kb7)
                        have k8 := (Below.heap_setCell w7 ⟨w2.heap.size, 3, none⟩ (.slice a6 hh.length cap6) w.heap.size (by show w.heap.size ≠ w2.heap.size; omega)).trans k7
                        have K8 := Lib.hid k8
                        have c8 := c7.setCell (p := ⟨w2.heap.size, 3, none⟩) (by show w.heap.size ≤ w2.heap.size; omega) (.slice a6 hh.length cap6)
                        have PQ8 := Lib.hid (pat_heap PQ7.out (fun g e => Below.heap_setCell w7 ⟨w2.heap.size, 3, none⟩ (.slice a6 hh.length cap6) g (by show g ≠ w2.heap.size; exact HNQ.out g e)) (by simp) : PAt (w7.setCell ⟨w2.heap.size, 3, none⟩ (.slice a6 hh.length cap6)) _ _)
                        have PH8 := Lib.hid (pat_heap PH7.out (fun g e => Below.heap_setCell w7 ⟨w2.heap.size, 3, none⟩ (.slice a6 hh.length cap6) g (by show g ≠ w2.heap.size; have := (LL6.out g e).1; omega)) (by simp) : PAt (w7.setCell ⟨w2.heap.size, 3, none⟩ (.slice a6 hh.length cap6)) _ _)
                        have s8 : (w7.setCell ⟨w2.heap.size, 3, none⟩ (.slice a6 hh.length cap6)).heap.size = w7.heap.size := by simp
                        have S8 := Lib.hid s8
                        obtain ⟨x0, x1, x2, x3, x4, y0, y1, y2, y3, y4⟩ := box5 kb7
                        clear k7 kb7 k8 s8 PQ7 PH7
                        go_wp2_with fail
                        refine (BS.out _).mono ?_
                        rintro e w9 ⟨rfl, b9⟩
                        have hbo := HBO.out
                        have c9 := bstep c8 b9
                        have k9 := (b9.block w.heap.size (by rw [S8.out]; exact n7)).trans K8.out
                        have kb9 := (b9.block w2.heap.size (by rw [S8.out]; exact BX7)).trans M8.out
                        have PQ9 := Lib.hid (PQ8.out.below b9)
                        have PH9 := Lib.hid (PH8.out.below b9)
                        have e9 : tolT tt = tt.getD [] := rfl
                        rw [e9, ← hbo]
                        clear x0 x1 x2 x3 x4 y0 y1 y2 y3 y4 hbo e9
                        by_cases hbok : bodyOk b tt = true
                        · have HR := Lib.hid (show R = (⟨m, pa, q, hh, b⟩, 0) by rw [HG.out, readR_b HF2.out HT2.out RH2.out, if_pos hbok])
                          rw [hbok]
                          clear hbok
                          have kk := k9
                          obtain ⟨x0, x1, x2, x3, x4, _⟩ := box5 kb9
                          obtain ⟨X0, X1, X2, X3, X4, Y0, Y1, Y2, Y3, Y4⟩ := box5 k9
                          have L9 := Lib.hid (req_load k9 (.string (txt m)) (.string (txt pa)) (.slice a4 q.length cap4) (.slice a6 hh.length cap6) (.string (txt b)))
                          clear k9 kk kb9
                          go_wp2
                          refine bodyPost_ret (v := .tuple #[.agg #[.string (txt m), .string (txt pa), (.slice a4 q.length cap4), .slice a6 hh.length cap6, .string (txt b)], .int .i64 0]) ?_ rfl ⟨?_, set5_below c9 (Nat.le_refl _) _ _ _ _ _⟩
                          · rw [results_cell_tmp1 rfl]
                            simp [asAddr, Result.andThen, L9.out]
                          · rw [HR.out]
                            exact ⟨(.slice a4 q.length cap4), .slice a6 hh.length cap6, rfl, pat_heap PQ9.out (fun g e => set5_heap _ _ g _ _ _ _ _ (by have := HNR.out g e; omega)) (by simp), pat_heap PH9.out (fun g e => set5_heap _ _ g _ _ _ _ _ (by have := (LL6.out g e).1; omega)) (by simp)⟩
                        · have HR := Lib.hid (show R = (zeroR, 4) by rw [HG.out, readR_b HF2.out HT2.out RH2.out, if_neg hbok])
                          rw [Bool.not_eq_true] at hbok
                          rw [hbok]
                          clear hbok
                          obtain ⟨x0, x1, x2, x3, x4, y0, y1, y2, y3, y4⟩ := box5 k9
                          go_wp2
                          refine bodyPost_ret (v := .tuple #[.agg #[.string ⟨#[]⟩, .string ⟨#[]⟩, .slice none 0 0, .slice none 0 0, .string ⟨#[]⟩], .int .i64 4]) ?_ rfl ⟨zero_exit R 4 HR.out rfl, set5_below c9 (Nat.le_refl _) _ _ _ _ _⟩
                          rw [results_cell_tmp1 rfl]
                          simp [asAddr, Result.andThen, req_load k9]
                      · have HR := Lib.hid (show R = (zeroR, 3) by rw [HG.out]; exact readR_h HF2.out HT2.out (by rw [RH.out]; rw [if_neg (fun h => hhok h.2)]))
                        rw [Bool.not_eq_true] at hhok
                        rw [hhok]
                        clear hhok
                        obtain ⟨x0, x1, x2, x3, x4, y0, y1, y2, y3, y4⟩ := box5 k7
                        go_wp2
                        refine bodyPost_ret (v := .tuple #[.agg #[.string ⟨#[]⟩, .string ⟨#[]⟩, .slice none 0 0, .slice none 0 0, .string ⟨#[]⟩], .int .i64 3]) ?_ rfl ⟨zero_exit R 3 HR.out rfl, set5_below c7 (Nat.le_refl _) _ _ _ _ _⟩
                        rw [results_cell_tmp1 rfl]
                        simp [asAddr, Result.andThen, req_load k7]
                  · have HR := Lib.hid (show R = (zeroR, 2) by rw [HG.out]; exact readR_t HF2.out (by rw [HT.out]; rw [if_neg hpath]))
                    rw [Bool.not_eq_true] at hpath
                    rw [hpath]
                    clear hpath x0 x1 x2 x3 x4 y0 y1 y2 y3 y4
                    obtain ⟨x0, x1, x2, x3, x4, y0, y1, y2, y3, y4⟩ := box5 XKH.out
                    go_wp2
                    refine bodyPost_ret (v := .tuple #[.agg #[.string ⟨#[]⟩, .string ⟨#[]⟩, .slice none 0 0, .slice none 0 0, .string ⟨#[]⟩], .int .i64 2]) ?_ rfl ⟨zero_exit R 2 HR.out rfl, set5_below CX.out (Nat.le_refl _) _ _ _ _ _⟩
                    rw [results_cell_tmp1 rfl]
                    simp [asAddr, Result.andThen, req_load XKH.out]
          · have HR := Lib.hid (show R = (zeroR, 1) by rw [HG.out]; exact readR_f (by rw [HF.out, if_neg hmp]))
            have hnot : (methodL m && (p == protoT)) = false := by
              rw [Bool.eq_false_iff]
              intro h
              rw [Bool.and_eq_true] at h
              exact hmp ⟨h.1, eq_of_beq h.2⟩
            rw [HM.out] at hnot
            generalize (m == getT) = A at hA hnot HM
            generalize (m == postT) = B at hB hnot HM
            generalize (p == protoT) = C at hC hnot
            clear hmp HF HM
            obtain ⟨x0, x1, x2, x3, x4, y0, y1, y2, y3, y4⟩ := box5 K2.out
            cases A <;> cases B <;> cases C <;> first | (exfalso; simp at hnot; done) | skip
            all_goals
              clear hnot
              go_wp2
              refine bodyPost_ret (v := .tuple #[.agg #[.string ⟨#[]⟩, .string ⟨#[]⟩, .slice none 0 0, .slice none 0 0, .string ⟨#[]⟩], .int .i64 1]) ?_ rfl ⟨zero_exit R 1 HR.out rfl, set5_below c2 (Nat.le_refl _) _ _ _ _ _⟩
              rw [results_cell_tmp1 rfl]
              simp [asAddr, Result.andThen, req_load K2.out]
        · have HR := Lib.hid (show R = (zeroR, 1) by rw [HG.out]; exact readR_f (readF_not h3))
          have hne : (((splitL 32 f).length : Int) != 3) = true := by
            rw [bne_iff_ne]
            omega
          obtain ⟨a2, cap2, rfl⟩ := own_val o2
          generalize (splitL 32 f).length = n3 at hne o2 ⊢
          clear h3 o2 S
          obtain ⟨x0, x1, x2, x3, x4, y0, y1, y2, y3, y4⟩ := box5 K2.out
          go_wp2
          refine bodyPost_ret (v := .tuple #[.agg #[.string ⟨#[]⟩, .string ⟨#[]⟩, .slice none 0 0, .slice none 0 0, .string ⟨#[]⟩], .int .i64 1]) ?_ rfl ⟨zero_exit R 1 HR.out rfl, set5_below c2 (Nat.le_refl _) _ _ _ _ _⟩
          rw [results_cell_tmp1 rfl]
          simp [asAddr, Result.andThen, req_load K2.out]

end Ht
end Go.Proofs.YtfnignlfelambaaGreatDoor
