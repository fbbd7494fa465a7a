/- CONTRACT of the model's GetResponse. -/
import Derived.Test.YtfnignlfelambaaDoorHtGS
import Derived.Test.YtfnignlfelambaaDoorHtPut
namespace Go.Proofs.YtfnignlfelambaaDoor
set_option linter.unusedVariables false
set_option maxRecDepth 4000
open Go.ChangeShapes Go.WideShapes Go.ChangeAt Go.RowKit
open Go.ChangeMaps (open_string shut_string)

namespace Ht

/-- what the reading of an answer hands back -/
def RespP (e : Ending) (w : World) : Option RespL → Prop
  | some r => ∃ vh, e = .returned (.tuple #[respV r vh, .bool true]) ∧ PAt w vh r.h
  | none => e = .returned (.tuple #[.agg #[.int .i64 0, .slice none 0 0, .string ⟨#[]⟩], .bool false])

theorem respP_none {e : Ending} {w : World} {R : Option RespL} (h : R = none) (he : e = .returned (.tuple #[.agg #[.int .i64 0, .slice none 0 0, .string ⟨#[]⟩], .bool false])) : RespP e w R := by
  subst h
  exact he

theorem respP_some {e : Ending} {w : World} {R : Option RespL} {r : RespL} {vh : Value} (h : R = some r) (he : e = .returned (.tuple #[respV r vh, .bool true])) (hp : PAt w vh r.h) : RespP e w R := by
  subst h
  exact ⟨vh, he, hp⟩

theorem getResp_no {s : List UInt8} (h : ∀ f hs b, scanL s = some (f :: hs, b) → f.length = 12 → s.length ≤ 40000 → (takeA [] none hs).2.2 = true → False) : getResp s = none := by
  cases e : getResp s with
  | none => rfl
  | some r =>
    obtain ⟨f, hs, h1, h2, h3, h4, _⟩ := resp_form s r e
    exact (h f hs r.b h1 h2 h3 h4).elim

theorem getResp_mid {s f : List UInt8} {hs : List (List UInt8)} {b : List UInt8} (h : scanL s = some (f :: hs, b)) :
    getResp s = if putResp ⟨rdV (f.drop 9), (takeA [] none hs).1, b⟩ = s then some ⟨rdV (f.drop 9), (takeA [] none hs).1, b⟩ else none := by
  have hne : s ≠ [] := by
    rintro rfl
    rw [scan_nil] at h
    cases h
  by_cases hp : putResp ⟨rdV (f.drop 9), (takeA [] none hs).1, b⟩ = s
  · rw [if_pos hp]
    have ho : respOk ⟨rdV (f.drop 9), (takeA [] none hs).1, b⟩ = true := by
      cases hq : respOk ⟨rdV (f.drop 9), (takeA [] none hs).1, b⟩ with
      | true => rfl
      | false =>
        unfold putResp at hp
        rw [hq] at hp
        exact (hne hp.symm).elim
    have := resp_put _ ho
    rw [hp] at this
    exact this
  · rw [if_neg hp]
    cases e : getResp s with
    | none => rfl
    | some r =>
      obtain ⟨f', hs', h1, h2, h3, h4, h5⟩ := resp_form s r e
      rw [h] at h1
      simp only [Option.some.injEq, Prod.mk.injEq, List.cons.injEq] at h1
      obtain ⟨⟨rfl, rfl⟩, rfl⟩ := h1
      rw [h5] at hp
      exact (hp (resp_is s r e).2).elim

theorem resp_load {W : World} {n : Nat} {a0 a1 a2 : Value} (h : W.heap[n]? = some (.cells #[a0, a1, a2] 26 (0, 0))) (v0 v1 v2 : Value) :
    (loadVar 26 ⟨n, 0, none⟩).run Tryd.prog (((W.setCell ⟨n, 0, none⟩ v0).setCell ⟨n, 1, none⟩ v1).setCell ⟨n, 2, none⟩ v2) = .ok (.agg #[v0, v1, v2]) (((W.setCell ⟨n, 0, none⟩ v0).setCell ⟨n, 1, none⟩ v1).setCell ⟨n, 2, none⟩ v2) :=
  run_loadVar_row (P := Tryd.prog) _ n 26 26 #[v0, v1, v2] (0, 0) _ (set3_same h v0 v1 v2) Tryd.underlying26 rfl (by rw [resp_info]; rfl)

set_option maxHeartbeats 40000000 in
theorem getResp_spec (s : List UInt8) (w : World) (hs : s.length ≤ 1048576) :
    Calls Tryd.prog 22 #[.string (txt s)] w fun e w' => RespP e w' (getResp s) ∧ Below w.heap.size w w' := by
  have hz := txt_size s
  have ba := Lib.hid ((Below.refl w.heap.size w).alloc (Nat.le_refl _) (.cells #[.int .i64 0, .slice none 0 0, .string ⟨#[]⟩] 26))
  have g0 := Lib.hid (heap_alloc_new w (.cells #[.int .i64 0, .slice none 0 0, .string ⟨#[]⟩] 26))
  have z0 : w.heap.size < (w.alloc (.cells #[.int .i64 0, .slice none 0 0, .string ⟨#[]⟩] 26)).heap.size := by simp
  have Z0 := Lib.hid z0
  clear z0
  have HN := Lib.hid (fun h => getResp_no (s := s) h)
  have HG := Lib.hid (fun f hs b h => getResp_mid (s := s) (f := f) (hs := hs) (b := b) h)
  have LN := Lib.hid (fun wx => lines_spec (txt s) wx (by rw [txt_size]; exact hs))
  simp only [txt_toList] at LN
  generalize getResp s = R at HG HN ⊢
  go_enter Tryd.func22, Tryd.ntmps22
  go_wp2_with fail
  refine (LN.out _).mono ?_
  rintro e w1 ⟨hL, b1⟩
  have c1 := ba.out.trans (b1.mono ba.out.size)
  have n1 := Nat.lt_of_lt_of_le Z0.out b1.size
  have K1 := Lib.hid ((b1.block w.heap.size Z0.out).trans g0.out)
  clear LN
  cases hsc : scanL s with
  | none =>
    rw [hsc] at hL
    have HR := Lib.hid (show R = none from HN.out (fun f hs b h => by rw [hsc] at h; cases h))
    obtain ⟨v, rfl⟩ := hL
    clear hsc HN HG
    obtain ⟨x0, x1, x2, y0, y1, y2⟩ := box3 K1.out
    go_wp2
    refine bodyPost_ret (v := .tuple #[.agg #[.int .i64 0, .slice none 0 0, .string ⟨#[]⟩], .bool false]) ?_ rfl ⟨respP_none HR.out rfl, set3_below c1 (Nat.le_refl _) _ _ _⟩
    rw [results_cell_tmp1 rfl]
    simp [asAddr, Result.andThen, resp_load K1.out]
  | some pr =>
    obtain ⟨ls, b⟩ := pr
    rw [hsc] at hL
    obtain ⟨v, rfl, o1⟩ := hL
    have hparts := scanL_parts hsc
    cases ls with
    | nil =>
      have HR := Lib.hid (show R = none from HN.out (fun f hs b h => by rw [hsc] at h; cases h))
      obtain ⟨a1, cap1, rfl⟩ := own_val o1
      obtain ⟨x0, x1, x2, y0, y1, y2⟩ := box3 K1.out
      clear hparts o1 hsc HN HG
      go_wp2
      refine bodyPost_ret (v := .tuple #[.agg #[.int .i64 0, .slice none 0 0, .string ⟨#[]⟩], .bool false]) ?_ rfl ⟨respP_none HR.out rfl, set3_below c1 (Nat.le_refl _) _ _ _⟩
      rw [results_cell_tmp1 rfl]
      simp [asAddr, Result.andThen, resp_load K1.out]
    | cons f hs' =>
      have T1 := Lib.hid (tat_own o1)
      obtain ⟨a1, cap1, rfl⟩ := own_val o1
      obtain ⟨g1, rfl, _, hg1⟩ := own_at o1 (by simp)
      have d1 := own_cell o1 0 (by simp) rfl
      have hp1 := hparts.1 f List.mem_cons_self
      have HP := Lib.hid hparts
      simp only [List.getElem_cons_zero] at d1
      have hlen : (f :: hs').length = hs'.length + 1 := rfl
      rw [hlen] at T1 ⊢
      have hfz := txt_size f
      have hzz : (((hs'.length : Int) + 1) == 0) = false := by simp; omega
      have hzy : ¬ ((hs'.length : Int) + 1 = 0) := by omega
      clear hparts o1
      by_cases hgo : f.length = 12 ∧ s.length ≤ 40000
      · have i12 : (f.length : Int) = 12 := by omega
        have i40 : ¬ (40000 : Int) < (s.length : Int) := by omega
        have j40 : decide ((40000 : Int) < (s.length : Int)) = false := by simpa using i40
        have H12 := Lib.hid hgo.1
        have HSC := Lib.hid hsc
        have HGM := Lib.hid (HG.out f hs' b hsc)
        obtain ⟨v1, tv1, hsl1⟩ := tail_row T1.out
        have TV1 := Lib.hid tv1
        have TK := Lib.hid (fun wx hx => take_spec v1 hs' wx hx (by have := HP.out.2.2; simp at this; omega) (fun x hx => by have := HP.out.1 x (List.mem_cons_of_mem _ hx); omega))
        clear tv1 hgo hsc HG T1
        go_wp2_with fail
        refine (TK.out _ (tat_below TV1.out (Below.refl w1.heap.size w1))).mono ?_
        rintro e w2 ⟨⟨vh, o2, x, tl, rfl, hxt⟩, b2⟩
        have c2 := c1.trans (b2.mono c1.size)
        have n2 := Nat.lt_of_lt_of_le n1 b2.size
        have K2 := Lib.hid ((b2.block w.heap.size n1).trans K1.out)
        have hlen2 := takeA_len hs' [] none
        have hpar2 := take_parts s.length hs' [] none (fun x hx => HP.out.1 x (List.mem_cons_of_mem _ hx)) (fun p hp => by cases hp) (Nat.zero_le _)
        have PH2 := Lib.hid (PAt.own o2)
        obtain ⟨a2, cap2, rfl⟩ := own_val2 o2
        have LL2 := Lib.hid (own_low o2)
        have d2 := (cell_congr (b2.block g1 hg1) 0).trans d1
        have HN2 := Lib.hid (show (takeA [] none hs').2.2 = false → R = none from fun e => HN.out (fun f' hs b' h h1 h2 h3 => by
          rw [HSC.out] at h
          simp only [Option.some.injEq, Prod.mk.injEq, List.cons.injEq] at h
          obtain ⟨⟨rfl, rfl⟩, rfl⟩ := h
          rw [e] at h3
          cases h3))
        have D := Lib.hid (fun wx => readdec_spec (txt (f.drop 9)) wx (by rw [txt_size]; simp; omega))
        simp only [txt_toList] at D
        have hbl := HP.out.2.1
        have hnl := HP.out.2.2
        have hsl9 : ∀ wx, (Instr.slice 9 (.string (txt f)) (some (.int .i64 9)) none none).run Tryd.prog wx = .ok (.string (txt (f.drop 9))) wx := fun wx => by
          have h12 := H12.out
          rw [run_slice_string_l wx 9 (txt f) Tryd.underlying9 .i64 9 (by omega) (by rw [txt_size]; omega)]
          have e1 : (9 : Int).toNat = 9 := rfl
          rw [e1, Lib.extract_from]
          rfl
        clear d1 o2 b2 HN TK HP hsl1 TV1
        generalize takeA [] none hs' = TA at hxt hlen2 hpar2 PH2 HN2 HGM LL2 ⊢
        generalize rdV (f.drop 9) = n at D HGM
        obtain ⟨hh, tt, gd⟩ := TA
        simp only at hxt hlen2 hpar2 PH2 HN2 HGM LL2 ⊢
        have P := Lib.hid (fun wx h => putResp_spec ⟨n, hh, b⟩ (.slice a2 hh.length cap2) wx h ⟨by show hh.length ≤ _; simp at hlen2 hnl; omega, fun p hp => by have := hpar2.1 p hp; omega⟩ (by show b.length ≤ _; omega))
        simp only [respV] at P
        have X9 := Lib.hid (fun wx => D.out wx)
        clear D
        generalize txt (f.drop 9) = X at hsl9 X9
        have HB := Lib.hid hbl
        clear hpar2 hlen2 hnl hxt hlen hp1 hbl b1
        go_wp2_with fail
        refine (X9.out _).mono ?_
        rintro e w3 ⟨rfl, b3⟩
        have c3 := c2.trans (b3.mono c2.size)
        have n3 := Nat.lt_of_lt_of_le n2 b3.size
        have K3 := Lib.hid ((b3.block w.heap.size n2).trans K2.out)
        have PH3 := Lib.hid (PH2.out.below b3)
        have D4 := Lib.hid ((Below.refl w3.heap.size w3).alloc (Nat.le_refl _) (.cells #[.int .i64 n, .slice a2 hh.length cap2, .string (txt b)] 26))
        have g4 := heap_alloc_new w3 (.cells #[.int .i64 n, .slice a2 hh.length cap2, .string (txt b)] 26)
        have G4 := Lib.hid g4
        have sa4 : (w3.alloc (.cells #[.int .i64 n, .slice a2 hh.length cap2, .string (txt b)] 26)).heap.size = w3.heap.size + 1 := by simp
        have SA4 := Lib.hid sa4
        have c4 := c3.trans (D4.out.mono c3.size)
        have K4 := Lib.hid ((D4.out.block w.heap.size n3).trans K3.out)
        have PH4 := Lib.hid (PH3.out.below D4.out)
        clear X9 hsl9 d2 sa4 g4 b3
        cases gd with
        | false =>
          have HR := Lib.hid (HN2.out rfl)
          obtain ⟨q0, q1, q2, r0, r1, r2⟩ := box3 K3.out
          clear HN2 HGM P
          have X0 := set3_same K3.out (.int .i64 0) (.slice none 0 0) (.string ⟨#[]⟩)
          have XL : w.heap.size < (set3 w3 w.heap.size (.int .i64 0) (.slice none 0 0) (.string ⟨#[]⟩)).heap.size := by rw [set3_size]; exact n3
          have ka := (((Below.refl _ (set3 w3 w.heap.size (.int .i64 0) (.slice none 0 0) (.string ⟨#[]⟩))).alloc (Nat.le_refl _) (.cells #[.int .i64 n, .slice a2 hh.length cap2, .string (txt b)] 26)).block w.heap.size XL).trans X0
          have LD := Lib.hid (run_loadVar_row (P := Tryd.prog) _ w.heap.size 26 26 #[.int .i64 0, .slice none 0 0, .string ⟨#[]⟩] (0, 0) _ ka Tryd.underlying26 rfl (by rw [resp_info]; rfl))
          have CF := Lib.hid ((set3_below c3 (Nat.le_refl _) (.int .i64 0) (.slice none 0 0) (.string ⟨#[]⟩)).alloc (by rw [set3_size]; omega) (.cells #[.int .i64 n, .slice a2 hh.length cap2, .string (txt b)] 26))
          clear X0 XL ka
          go_wp2
          refine bodyPost_ret (v := .tuple #[.agg #[.int .i64 0, .slice none 0 0, .string ⟨#[]⟩], .bool false]) ?_ rfl ⟨respP_none HR.out rfl, CF.out⟩
          rw [results_cell_tmp1 rfl]
          have ld := LD.out
          unfold set3 at ld
          simp [asAddr, Result.andThen, ld]
        | true =>
          obtain ⟨x0, x1, x2, y0, y1, y2⟩ := box3 G4.out
          go_wp2_with fail
          refine (P.out _ PH4.out).mono ?_
          rintro e w5 ⟨rfl, b5⟩
          clear x0 x1 x2 y0 y1 y2
          have c5 := c4.trans (b5.mono c4.size)
          have k5 := (b5.block w.heap.size (by rw [SA4.out]; omega)).trans K4.out
          have g5 := (b5.block w3.heap.size (by rw [SA4.out]; omega)).trans G4.out
          have PH5 := Lib.hid (PH4.out.below b5)
          obtain ⟨x0, x1, x2, y0, y1, y2⟩ := box3 g5
          obtain ⟨X0, X1, X2, Y0, Y1, Y2⟩ := box3 k5
          have K5 := Lib.hid k5
          clear k5 g5 b5
          by_cases hp : putResp ⟨n, hh, b⟩ = s
          · have HR := Lib.hid (HGM.out.trans (if_pos hp))
            rw [hp]
            have L5 := Lib.hid (resp_load K5.out (.int .i64 n) (.slice a2 hh.length cap2) (.string (txt b)))
            clear hp HGM HN2
            go_wp2
            refine bodyPost_ret (v := .tuple #[.agg #[.int .i64 n, .slice a2 hh.length cap2, .string (txt b)], .bool true]) ?_ rfl ⟨respP_some HR.out rfl (pat_heap PH5.out (fun g e => set3_heap _ _ g _ _ _ (by have := (LL2.out g e).1; omega)) (by simp)), set3_below c5 (Nat.le_refl _) _ _ _⟩
            rw [results_cell_tmp1 rfl]
            simp [asAddr, Result.andThen, L5.out]
          · have HR := Lib.hid (HGM.out.trans (if_neg hp))
            have hb1 : ((txt (putResp ⟨n, hh, b⟩)).toList == (txt s).toList) = false := by rw [txt_beq]; simpa using hp
            have hb2 : ¬ txt (putResp ⟨n, hh, b⟩) = txt s := fun e => hp ((txt_inj e).trans (txt_toList s))
            generalize putResp ⟨n, hh, b⟩ = Y at hb1 hb2 ⊢
            clear hp HGM HN2 x0 x1 x2 y0 y1 y2
            go_wp2
            refine bodyPost_ret (v := .tuple #[.agg #[.int .i64 0, .slice none 0 0, .string ⟨#[]⟩], .bool false]) ?_ rfl ⟨respP_none HR.out rfl, set3_below c5 (Nat.le_refl _) _ _ _⟩
            rw [results_cell_tmp1 rfl]
            simp [asAddr, Result.andThen, resp_load K5.out]
      · have HR := Lib.hid (show R = none from HN.out (fun f' hs b' h h1 h2 _ => by
          rw [hsc] at h
          simp only [Option.some.injEq, Prod.mk.injEq, List.cons.injEq] at h
          obtain ⟨⟨rfl, rfl⟩, rfl⟩ := h
          exact hgo ⟨h1, h2⟩))
        clear HN HG hsc
        obtain ⟨x0, x1, x2, y0, y1, y2⟩ := box3 K1.out
        by_cases h12 : f.length = 12
        · have i12 : (f.length : Int) = 12 := by omega
          have i40 : (40000 : Int) < (s.length : Int) := by omega
          clear hgo h12
          go_wp2
          refine bodyPost_ret (v := .tuple #[.agg #[.int .i64 0, .slice none 0 0, .string ⟨#[]⟩], .bool false]) ?_ rfl ⟨respP_none HR.out rfl, set3_below c1 (Nat.le_refl _) _ _ _⟩
          rw [results_cell_tmp1 rfl]
          simp [asAddr, Result.andThen, resp_load K1.out]
        · have i12 : ¬ (f.length : Int) = 12 := by omega
          clear hgo h12
          go_wp2
          refine bodyPost_ret (v := .tuple #[.agg #[.int .i64 0, .slice none 0 0, .string ⟨#[]⟩], .bool false]) ?_ rfl ⟨respP_none HR.out rfl, set3_below c1 (Nat.le_refl _) _ _ _⟩
          rw [results_cell_tmp1 rfl]
          simp [asAddr, Result.andThen, resp_load K1.out]

end Ht

end Go.Proofs.YtfnignlfelambaaDoor
