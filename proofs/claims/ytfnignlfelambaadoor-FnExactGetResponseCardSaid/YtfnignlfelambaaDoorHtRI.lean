/- CONTRACT of the program's GetResponse. -/
import Derived.Test.YtfnignlfelambaaDoorHtRS
import Derived.Test.YtfnignlfelambaaDoorHtI
import Derived.Test.YtfnignlfelambaaDoorHtMsg
namespace Go.Proofs.YtfnignlfelambaaDoor
set_option linter.unusedVariables false
set_option maxRecDepth 4000
open Go.ChangeShapes Go.WideShapes Go.ChangeAt Go.RowKit
open Go.ChangeMaps (open_string shut_string)

namespace Ht

/-- what the program's reading of an answer hands back: a row of its own -/
def RespI (base : Nat) (e : Ending) (w : World) : Option RespL → Prop
  | some r => ∃ vh, e = .returned (.tuple #[respV r vh, .bool true]) ∧ w.ownsRow base 71 2 vh r.h.length (pcells r.h)
  | none => e = .returned (.tuple #[.agg #[.int .i64 0, .slice none 0 0, .string ⟨#[]⟩], .bool false])

theorem respI_none {base : Nat} {e : Ending} {w : World} {R : Option RespL} (h : R = none) (he : e = .returned (.tuple #[.agg #[.int .i64 0, .slice none 0 0, .string ⟨#[]⟩], .bool false])) : RespI base e w R := by
  subst h
  exact he

theorem respI_some {base : Nat} {e : Ending} {w : World} {R : Option RespL} {r : RespL} {vh : Value} (h : R = some r) (he : e = .returned (.tuple #[respV r vh, .bool true])) (hp : w.ownsRow base 71 2 vh r.h.length (pcells r.h)) : RespI base e w R := by
  subst h
  exact ⟨vh, he, hp⟩

set_option maxHeartbeats 40000000 in
theorem getResp_impl (s : List UInt8) (w : World) (hs : s.length ≤ 1048576) (hm : HM w) (hP : Pw w) :
    Calls Tryd.prog 19 #[.string (txt s)] w fun e w' => RespI w.heap.size e w' (getResp s) ∧ Below w.heap.size w w' := by
  have hz := txt_size s
  have HMM := Lib.hid hm
  have HPW := Lib.hid hP
  have ba := Lib.hid ((Below.refl w.heap.size w).alloc (Nat.le_refl _) (.cells #[.int .i64 0, .slice none 0 0, .string ⟨#[]⟩] 26))
  have g0 := Lib.hid (heap_alloc_new w (.cells #[.int .i64 0, .slice none 0 0, .string ⟨#[]⟩] 26))
  have z0 : w.heap.size < (w.alloc (.cells #[.int .i64 0, .slice none 0 0, .string ⟨#[]⟩] 26)).heap.size := by simp
  have Z0 := Lib.hid z0
  clear z0 hm hP
  obtain ⟨R, hR⟩ : ∃ R, R = getResp s := ⟨_, rfl⟩
  rw [← hR]
  have HRR := Lib.hid hR
  clear hR
  have LN := Lib.hid (fun wx h => cutMsg_call s wx hs h)
  go_enter Tryd.func19, Tryd.ntmps19
  go_wp2_with fail
  refine (LN.out _ (HMM.out.below ba.out)).mono ?_
  rintro e w1 ⟨hL, b1⟩
  have c1 := ba.out.trans (b1.mono ba.out.size)
  have n1 := Nat.lt_of_lt_of_le Z0.out b1.size
  have K1 := Lib.hid ((b1.block w.heap.size Z0.out).trans g0.out)
  clear LN
  cases hsc : scanL s with
  | none =>
    rw [hsc] at hL
    have HR := Lib.hid (show R = none by rw [HRR.out]; unfold getResp; rw [hsc])
    have hL' : e = _ := hL
    subst hL'
    clear hsc HRR hL
    obtain ⟨x0, x1, x2, y0, y1, y2⟩ := box3 K1.out
    go_wp2
    refine bodyPost_ret (v := .tuple #[.agg #[.int .i64 0, .slice none 0 0, .string ⟨#[]⟩], .bool false]) ?_ rfl ⟨respI_none HR.out rfl, set3_below c1 (Nat.le_refl _) _ _ _⟩
    rw [results_cell_tmp1 rfl]
    simp [asAddr, Result.andThen, resp_load K1.out]
  | some pr =>
    obtain ⟨ls, b⟩ := pr
    rw [hsc] at hL
    obtain ⟨v, rfl, o1⟩ := hL
    have hparts := scanL_parts hsc
    cases ls with
    | nil =>
      have HR := Lib.hid (show R = none by rw [HRR.out]; unfold getResp; rw [hsc])
      obtain ⟨a1, cap1, rfl⟩ := own_val o1
      obtain ⟨x0, x1, x2, y0, y1, y2⟩ := box3 K1.out
      clear hparts o1 hsc HRR
      go_wp2
      refine bodyPost_ret (v := .tuple #[.agg #[.int .i64 0, .slice none 0 0, .string ⟨#[]⟩], .bool false]) ?_ rfl ⟨respI_none HR.out rfl, set3_below c1 (Nat.le_refl _) _ _ _⟩
      rw [results_cell_tmp1 rfl]
      simp [asAddr, Result.andThen, resp_load K1.out]
    | cons f hs' =>
      have T1 := Lib.hid (tat_own o1)
      obtain ⟨a1, cap1, rfl⟩ := own_val o1
      obtain ⟨g1, rfl, _, hg1⟩ := own_at o1 (by simp)
      have d1 := own_cell o1 0 (by simp) rfl
      have hp1 := hparts.1 f List.mem_cons_self
      have HP := Lib.hid hparts
      simp only [List.getElem_cons_zero] at d1
      have hlen : (f :: hs').length = hs'.length + 1 := rfl
      rw [hlen] at T1 ⊢
      have hfz := txt_size f
      have hzz : decide (0 < hs'.length + 1) = true := by simp
      rw [hzz]
      clear hparts o1 hzz
      have HGM := Lib.hid (show R = if putResp (mkResp f hs' b) = s then some (mkResp f hs' b) else none by rw [HRR.out]; unfold getResp; rw [hsc])
      have hml : (mkResp f hs' b) = ⟨rdV (Lib.trimPrefix f (protoT ++ [32])), (takeA [] none hs').1, b⟩ := rfl
      rw [hml] at HGM
      obtain ⟨v1, tv1, hsl1⟩ := tail_row T1.out
      have TV1 := Lib.hid tv1
      have TP := Lib.hid (fun wx => Tryd.strings_TrimPrefix (txt f) ⟨#[72, 84, 84, 80, 47, 49, 46, 49, 32]⟩ wx)
      have hpt : (⟨#[72, 84, 84, 80, 47, 49, 46, 49, 32]⟩ : ByteArray).data.toList = protoT ++ [32] := rfl
      rw [hpt, txt_toList] at TP
      have htl : (Lib.trimPrefix f (protoT ++ [32])).length ≤ f.length := by
        unfold Lib.trimPrefix
        split
        · simp
        · exact Nat.le_refl _
      have D := Lib.hid (fun wx => readdec_impl (txt (Lib.trimPrefix f (protoT ++ [32]))) wx (by rw [txt_size]; omega))
      simp only [txt_toList] at D
      have TK := Lib.hid (fun wx hx => readHeads_call v1 hs' wx hx (by have := HP.out.2.2; simp at this; omega) (fun x hx => by have := HP.out.1 x (List.mem_cons_of_mem _ hx); omega))
      have etx : (⟨(Lib.trimPrefix f (protoT ++ [32])).toArray⟩ : ByteArray) = txt (Lib.trimPrefix f (protoT ++ [32])) := rfl
      rw [etx] at TP
      generalize rdV (Lib.trimPrefix f (protoT ++ [32])) = n at D HGM
      generalize txt (Lib.trimPrefix f (protoT ++ [32])) = X at TP D
      clear tv1 hsc T1 hml hpt htl etx HRR hlen hp1
      go_wp2_with fail
      refine (TP.out _).mono ?_
      rintro e w1 ⟨rfl, rfl⟩
      go_wp2_with fail
      refine (TK.out _ TV1.out).mono ?_
      rintro e w2 ⟨⟨vh, rfl, o2⟩, b2⟩
      have c2 := c1.trans (b2.mono c1.size)
      have n2 := Nat.lt_of_lt_of_le n1 b2.size
      have K2 := Lib.hid ((b2.block w.heap.size n1).trans K1.out)
      have hlen2 := takeA_len hs' [] none
      have hpar2 := take_parts s.length hs' [] none (fun x hx => HP.out.1 x (List.mem_cons_of_mem _ hx)) (fun p hp => by cases hp) (Nat.zero_le _)
      obtain ⟨a2, cap2, rfl⟩ := own_val2 o2
      have O2 := Lib.hid (own_base2 o2 (Nat.le_of_lt n1))
      have LL2 := Lib.hid (own_low o2)
      have hbl := HP.out.2.1
      have hnl := HP.out.2.2
      generalize takeA [] none hs' = TA at hlen2 hpar2 HGM LL2 O2 ⊢
      obtain ⟨hh, tt, gd⟩ := TA
      simp only at hlen2 hpar2 HGM LL2 O2 ⊢
      have P := Lib.hid (fun wx h hp => putResp_impl ⟨n, hh, b⟩ (.slice a2 hh.length cap2) wx h ⟨by show hh.length ≤ _; simp at hlen2 hnl; omega, fun p hp => by have := hpar2.1 p hp; omega⟩ (by show b.length ≤ _; omega) hp)
      simp only [respV] at P
      generalize (gd && headsL hh) = gg
      clear hpar2 hlen2 hnl hbl hsl1 TV1 TK TP b1 o2 hfz
      go_wp2_with fail
      refine (D.out _).mono ?_
      rintro e w3 ⟨rfl, b3⟩
      have c3 := c2.trans (b3.mono c2.size)
      have n3 := Nat.lt_of_lt_of_le n2 b3.size
      have K3 := Lib.hid ((b3.block w.heap.size n2).trans K2.out)
      have O3 := Lib.hid (own_heap O2.out (fun g e => b3.block g (LL2.out g e).2))
      have LL3 := Lib.hid (fun g e => (⟨(LL2.out g e).1, Nat.lt_of_lt_of_le (LL2.out g e).2 b3.size⟩ : w1.heap.size ≤ g ∧ g < w3.heap.size))
      have D4 := Lib.hid ((Below.refl w3.heap.size w3).alloc (Nat.le_refl _) (.cells #[.int .i64 n, .slice a2 hh.length cap2, .string (txt b)] 26))
      have g4 := heap_alloc_new w3 (.cells #[.int .i64 n, .slice a2 hh.length cap2, .string (txt b)] 26)
      have G4 := Lib.hid g4
      have sa4 : (w3.alloc (.cells #[.int .i64 n, .slice a2 hh.length cap2, .string (txt b)] 26)).heap.size = w3.heap.size + 1 := by simp
      have SA4 := Lib.hid sa4
      have c4 := c3.trans (D4.out.mono c3.size)
      have K4 := Lib.hid ((D4.out.block w.heap.size n3).trans K3.out)
      have O4 := Lib.hid (own_heap O3.out (fun g e => D4.out.block g (LL3.out g e).2))
      have PH4 := Lib.hid (PAt.own O4.out)
      have PW4 := Lib.hid (show Pw (w3.alloc (.cells #[.int .i64 n, .slice a2 hh.length cap2, .string (txt b)] 26)) from fun w'' b => HPW.out w'' (c4.trans (b.mono c4.size)))
      clear D sa4 g4 b3
      obtain ⟨x0, x1, x2, y0, y1, y2⟩ := box3 G4.out
      go_wp2_with fail
      refine (P.out _ PH4.out PW4.out).mono ?_
      rintro e w5 ⟨rfl, b5⟩
      clear x0 x1 x2 y0 y1 y2
      have c5 := c4.trans (b5.mono c4.size)
      have k5 := (b5.block w.heap.size (by rw [SA4.out]; omega)).trans K4.out
      have g5 := (b5.block w3.heap.size (by rw [SA4.out]; omega)).trans G4.out
      have O5 := Lib.hid (own_heap O4.out (fun g e => b5.block g (by rw [SA4.out]; have := (LL3.out g e).2; omega)))
      obtain ⟨x0, x1, x2, y0, y1, y2⟩ := box3 g5
      obtain ⟨X0, X1, X2, Y0, Y1, Y2⟩ := box3 k5
      have K5 := Lib.hid k5
      clear k5 g5 b5
      by_cases hp : putResp ⟨n, hh, b⟩ = s
      · have HR := Lib.hid (HGM.out.trans (if_pos hp))
        rw [hp]
        have L5 := Lib.hid (resp_load K5.out (.int .i64 n) (.slice a2 hh.length cap2) (.string (txt b)))
        clear hp HGM
        go_wp2
        refine bodyPost_ret (v := .tuple #[.agg #[.int .i64 n, .slice a2 hh.length cap2, .string (txt b)], .bool true]) ?_ rfl ⟨respI_some HR.out rfl (own_heap O5.out (fun g e => set3_heap _ _ g _ _ _ (by have := (LL2.out g e).1; omega))), set3_below c5 (Nat.le_refl _) _ _ _⟩
        rw [results_cell_tmp1 rfl]
        simp [asAddr, Result.andThen, L5.out]
      · have HR := Lib.hid (HGM.out.trans (if_neg hp))
        have hb1 : ((txt (putResp ⟨n, hh, b⟩)).toList == (txt s).toList) = false := by rw [txt_beq]; simpa using hp
        have hb2 : ¬ txt (putResp ⟨n, hh, b⟩) = txt s := fun e => hp ((txt_inj e).trans (txt_toList s))
        generalize putResp ⟨n, hh, b⟩ = Y at hb1 hb2 ⊢
        clear hp HGM x0 x1 x2 y0 y1 y2
        go_wp2
        refine bodyPost_ret (v := .tuple #[.agg #[.int .i64 0, .slice none 0 0, .string ⟨#[]⟩], .bool false]) ?_ rfl ⟨respI_none HR.out rfl, set3_below c5 (Nat.le_refl _) _ _ _⟩
        rw [results_cell_tmp1 rfl]
        simp [asAddr, Result.andThen, resp_load K5.out]

end Ht

end Go.Proofs.YtfnignlfelambaaDoor
