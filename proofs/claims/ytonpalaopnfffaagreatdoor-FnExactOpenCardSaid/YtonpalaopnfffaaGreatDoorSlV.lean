/- CONTRACT: the program's unseal. -/
import Derived.Test.YtonpalaopnfffaaGreatDoorSlU
namespace Go.Proofs.YtonpalaopnfffaaGreatDoor
set_option linter.unusedVariables false
set_option maxRecDepth 4000
open Go.ChangeShapes Go.WideShapes Go.ChangeAt Go.RowKit

namespace Sl
open Ht Ck Ky Mk

/-- what unseal answers, by what opens -/
def unsV (r : List UInt8 × Int) : Value := if r.2 = 0 then .tuple #[.string (txt r.1), .nilIface] else .tuple #[.string ⟨#[]⟩, errV r.2]

set_option maxHeartbeats 6400000 in
theorem unseal_call (v : Value) (l : List KeyL) (s : List UInt8) (now : Int) (w : World) (h : At w v l) (hn : l.length ≤ 1048576) (hS : ∀ c ∈ l, Sm c) (hs : s.length ≤ 1048576) (hT : Tb w) :
    Calls Tryz.prog 30 #[.agg #[v], .string (txt s), .int .i64 now] w fun e w' => e = .returned (unsV (openL l s now)) ∧ Below w.heap.size w w' := by
  obtain ⟨a, cap, rfl⟩ := h.form
  have hba := (Below.refl w.heap.size w).alloc (Nat.le_refl _) (.cells #[.slice a l.length cap] 30)
  have BA := Lib.hid hba
  have G0 := Lib.hid (heap_alloc_new w (.cells #[.slice a l.length cap] 30))
  have HJ := Lib.hid (Grid.GAt.below h hba)
  have HT := Lib.hid (hT.below hba)
  have RS := Lib.hid (fun wx => readSealing_call s wx hs)
  have LK := Lib.hid (fun id wx hx => liveKeyOf_call (.slice a l.length cap) l id now wx hx hn hS)
  obtain ⟨R, HR⟩ : ∃ R, Hid (R = unsV (openL l s now)) := ⟨_, Lib.hid rfl⟩
  rw [← HR.out]
  clear hba h hT
  cases hr : readS s with
  | none =>
    have HR2 := Lib.hid (show R = .tuple #[.string ⟨#[]⟩, errV 1] by rw [HR.out, open_form hr]; rfl)
    rw [hr] at RS
    simp only [readV, errV] at RS
    unfold errV at HR2
    clear hr
    go_enter Tryz.func30, Tryz.ntmps30
    go_wp2_with fail
    refine (RS.out _).mono ?_
    rintro e w1 ⟨rfl, b1⟩
    have c1 := (bstep BA.out b1).alloc (bstep BA.out b1).size (.cells #[.int .i64 0, .string ⟨#[]⟩, .string ⟨#[]⟩] 76)
    go_wp2
    go_ret2
    exact ⟨by rw [HR2.out]; rfl, c1⟩
  | some q =>
    obtain ⟨id, t, m⟩ := q
    have his := readS_is hr
    have HSI := Lib.hid (fun c hc => seal_iff hr c hc)
    rw [hr] at RS
    simp only [readV] at RS
    have HK := Lib.hid (show openL l s now = match foundK l id now with
      | some c => if sealT c t = s then (t, 0) else ([], 3)
      | none => ([], 2) by
      cases hg : ringR l with
      | false => rw [open_noring hr hg]; unfold foundK; rw [hg]; rfl
      | true => rw [open_ring hr hg]; unfold foundK; rw [hg]; rfl)
    have LK2 := Lib.hid (LK.out id)
    cases hf : foundK l id now with
    | none =>
      rw [hf] at LK2 HK
      have HR2 := Lib.hid (show R = .tuple #[.string ⟨#[]⟩, errV 2] by rw [HR.out, HK.out]; rfl)
      simp only [keyV, V, zeroL, errV] at LK2
      unfold errV at HR2
      clear hf hr his
      go_enter Tryz.func30, Tryz.ntmps30
      go_wp2_with fail
      refine (RS.out _).mono ?_
      rintro e w1 ⟨rfl, b1⟩
      have d1 := (Below.refl w1.heap.size w1).alloc (Nat.le_refl _) (.cells #[.int .i64 id, .string (txt t), .string (txt m)] 76)
      have c1 := Lib.hid (bstep (bstep BA.out b1) d1)
      have J1 := Lib.hid (Grid.GAt.below (Grid.GAt.below HJ.out b1) d1)
      obtain ⟨x0, _⟩ := box1 ((d1.block w.heap.size (by have := b1.size; simp at this; omega)).trans ((b1.block w.heap.size (by simp)).trans G0.out))
      clear d1 b1
      go_wp2_with fail
      refine (LK2.out _ J1.out).mono ?_
      rintro e w2 ⟨rfl, b2⟩
      have c2 := (bstep c1.out b2).alloc (bstep c1.out b2).size (.cells #[.int .i64 0, .string (txt []), .int .i64 0, .int .i64 0] 39)
      go_wp2
      go_ret2
      exact ⟨by rw [HR2.out]; rfl, c2⟩
    | some p =>
      rw [hf] at LK2 HK
      simp only [keyV, V] at LK2
      have hpi : p.i = id ∧ Sm p := by
        unfold foundK at hf
        split at hf
        · have h1 := List.find?_some hf
          have h2 := List.mem_of_find?_eq_some hf
          simp only [Bool.and_eq_true, decide_eq_true_eq] at h1
          exact ⟨h1.1, hS p h2⟩
        · cases hf
      have hin : inR id := by rw [← hpi.1]; exact hpi.2.2.1
      have hml : m.length ≤ 1048576 := by
        have h1 := congrArg List.length his.1
        simp only [List.length_append, List.length_cons, List.length_nil] at h1
        omega
      have MW := Lib.hid (fun wx hx => macWith_call id t p.s wx hin his.2.2 hpi.2.1 hx)
      have HE := Lib.hid (HSI.out p hpi.1)
      have ml := mac_len p.s (headT id t)
      have bl := b64_len (macL p.s (headT id t))
      rw [ml] at bl
      generalize b64 (macL p.s (headT id t)) = m2 at MW HE bl
      have SM := Lib.hid (fun wx => sametext_impl (txt m) (txt m2) wx (by rw [txt_size]; exact hml) (by rw [txt_size]; omega))
      clear hf hr ml his hpi
      by_cases hq : m = m2
      · have HR2 := Lib.hid (show R = .tuple #[.string (txt t), .nilIface] by
          rw [HR.out, HK.out]
          simp only [if_pos (HE.out.2 hq)]
          rfl)
        have et : decide (txt m = txt m2) = true := by rw [hq]; simp
        rw [et] at SM
        clear et
        have HQ := Lib.hid hq
        clear hq
        go_enter Tryz.func30, Tryz.ntmps30
        go_wp2_with fail
        refine (RS.out _).mono ?_
        rintro e w1 ⟨rfl, b1⟩
        have d1 := (Below.refl w1.heap.size w1).alloc (Nat.le_refl _) (.cells #[.int .i64 id, .string (txt t), .string (txt m)] 76)
        have c1 := Lib.hid (bstep (bstep BA.out b1) d1)
        have J1 := Lib.hid (Grid.GAt.below (Grid.GAt.below HJ.out b1) d1)
        have HT1 := Lib.hid ((HT.out.below b1).below d1)
        have gS := Lib.hid (heap_alloc_new w1 (.cells #[.int .i64 id, .string (txt t), .string (txt m)] 76))
        obtain ⟨x0, _⟩ := box1 ((d1.block w.heap.size (by have := b1.size; simp at this; omega)).trans ((b1.block w.heap.size (by simp)).trans G0.out))
        clear d1 b1
        go_wp2_with fail
        refine (LK2.out _ J1.out).mono ?_
        rintro e w2 ⟨rfl, b2⟩
        have d2 := (Below.refl w2.heap.size w2).alloc (Nat.le_refl _) (.cells #[.int .i64 p.i, .string (txt p.s), .int .i64 p.f, .int .i64 p.t] 39)
        have c2 := Lib.hid (bstep (bstep c1.out b2) d2)
        have HT2 := Lib.hid ((HT1.out.below b2).below d2)
        obtain ⟨y0, y1, y2, y3⟩ := box4K (heap_alloc_new w2 (.cells #[.int .i64 p.i, .string (txt p.s), .int .i64 p.f, .int .i64 p.t] 39))
        have kS := (b2.block w1.heap.size (by simp)).trans gS.out
        have hz1 := Lib.hid (lt_of_block kS)
        have KS := Lib.hid ((d2.block w1.heap.size hz1.out).trans kS)
        obtain ⟨z0, z1, z2⟩ := box3S KS.out
        clear d2 b2 kS
        go_wp2
        refine Inv.region_tab 9 44 [(0, 31, .pointer (some ⟨w1.heap.size, 2, none⟩)), (1, 32, .string (txt m)), (2, 33, .pointer (some ⟨w1.heap.size, 0, none⟩)), (3, 34, .agg #[.int .i64 id, .string (txt t)]), (4, 35, .pointer (some ⟨w2.heap.size, 1, none⟩)), (5, 36, .string (txt p.s)), (6, 37, .string (txt m2)), (7, 38, .bool true), (8, 39, .bool false)] (fun W => Below (w2.heap.size + 1) (w2.alloc (.cells #[.int .i64 p.i, .string (txt p.s), .int .i64 p.f, .int .i64 p.t] 39)) W) (by kernel_rfl) rfl (by kernel_rfl) ⟨by simp, rfl⟩ (by rfl) (show ([31, 32, 33, 34, 35, 36, 37, 38, 39] : List Nat).Nodup by decide) (by simp) (by simpa using (Below.refl (w2.alloc (.cells #[.int .i64 p.i, .string (txt p.s), .int .i64 p.f, .int .i64 p.t] 39)).heap.size (w2.alloc (.cells #[.int .i64 p.i, .string (txt p.s), .int .i64 p.f, .int .i64 p.t] 39))).drew) ?_ ?_
        · intro a b t W hW ht htab hfr p hp hafter K SP
          have F := fun q hq hb => (ht q.2.1).trans (htab q hq hb)
          have G8 := (ht 8).trans (hfr 8 (by simp))
          have G10 := (ht 10).trans (hfr 10 (by simp))
          simp only [List.mem_cons, List.not_mem_nil, or_false] at hp F
          have HF := Lib.hid F
          clear F ht htab hfr
          rcases hp with rfl | rfl | rfl | rfl | rfl | rfl | rfl | rfl | rfl
          · clear hafter
            clear G10
            refine Inv.wpOp_at rfl rfl ?_
            go_simp
            exact SP _ hW
          · have ha := hafter _ rfl
            clear hafter
            simp [Region.binds] at ha
            have f31 := HF.out _ (by left; rfl) (by simp_all)
            clear ha
            clear G8 G10
            refine Inv.wpOp_at rfl rfl ?_
            have d2 := (hW.cell (p := ⟨w1.heap.size, 2, none⟩) (Nat.lt_succ_of_lt hz1.out)).trans z2
            go_simp
            exact SP _ hW
          · clear hafter
            clear G10
            refine Inv.wpOp_at rfl rfl ?_
            go_simp
            exact SP _ hW
          · have ha := hafter _ rfl
            clear hafter
            simp [Region.binds] at ha
            have f33 := HF.out _ (by right; right; left; rfl) (by simp_all)
            clear ha
            clear G8 G10
            refine Inv.wpOp_at rfl rfl ?_
            have d0 := (hW.cell (p := ⟨w1.heap.size, 0, none⟩) (Nat.lt_succ_of_lt hz1.out)).trans z0
            have d1 := (hW.cell (p := ⟨w1.heap.size, 1, none⟩) (Nat.lt_succ_of_lt hz1.out)).trans z1
            go_simp
            exact SP _ hW
          · clear hafter
            clear G8
            refine Inv.wpOp_at rfl rfl ?_
            go_simp
            exact SP _ hW
          · have ha := hafter _ rfl
            clear hafter
            simp [Region.binds] at ha
            have f35 := HF.out _ (by right; right; right; right; left; rfl) (by simp_all)
            clear ha
            clear G8 G10
            refine Inv.wpOp_at rfl rfl ?_
            have d1 := (hW.cell (p := ⟨w2.heap.size, 1, none⟩) (Nat.lt_succ_self _)).trans y1
            go_simp
            exact SP _ hW
          · have ha := hafter _ rfl
            clear hafter
            simp [Region.binds] at ha
            have f34 := HF.out _ (by right; right; right; left; rfl) (by simp_all)
            have f36 := HF.out _ (by right; right; right; right; right; left; rfl) (by simp_all)
            clear ha
            clear G8 G10
            refine Inv.wpOp_at rfl rfl ?_
            go_simp
            refine (MW.out _ (HT2.out.below (by simpa using hW))).mono ?_
            rintro e wa ⟨rfl, hba⟩
            exact SP _ (hW.trans (hba.mono (by simpa using hW.size)))
          · have ha := hafter _ rfl
            clear hafter
            simp [Region.binds] at ha
            have f32 := HF.out _ (by right; left; rfl) (by simp_all)
            have f37 := HF.out _ (by right; right; right; right; right; right; left; rfl) (by simp_all)
            clear ha
            clear G8 G10
            refine Inv.wpOp_at rfl rfl ?_
            go_simp
            refine (SM.out _).mono ?_
            rintro e wa ⟨rfl, hba⟩
            exact SP _ (hW.trans (hba.mono (by simpa using hW.size)))
          · have ha := hafter _ rfl
            clear hafter
            simp [Region.binds] at ha
            have f38 := HF.out _ (by right; right; right; right; right; right; right; left; rfl) (by simp_all)
            clear ha
            clear G8 G10
            refine Inv.wpOp_at rfl rfl ?_
            go_simp
            exact SP _ hW
        · intro W hW
          have HW := Lib.hid hW
          simp only [List.range, List.range.loop, List.map_cons, List.map_nil, Inv.tabAt]
          simp
          clear hW
          obtain ⟨q0, q1, q2⟩ := box3S ((HW.out.block w1.heap.size (Nat.lt_succ_of_lt hz1.out)).trans KS.out)
          go_wp2
          go_ret2
          exact ⟨by rw [HR2.out]; rfl, bstep c2.out (by simpa using HW.out)⟩
      · have HR2 := Lib.hid (show R = .tuple #[.string ⟨#[]⟩, errV 3] by
          rw [HR.out, HK.out]
          simp only [if_neg (fun h => hq (HE.out.1 h))]
          rfl)
        have et : decide (txt m = txt m2) = false := decide_eq_false (fun e => hq (by rw [← txt_toList m, e, txt_toList]))
        rw [et] at SM
        unfold errV at HR2
        clear et
        have HQ := Lib.hid hq
        clear hq
        go_enter Tryz.func30, Tryz.ntmps30
        go_wp2_with fail
        refine (RS.out _).mono ?_
        rintro e w1 ⟨rfl, b1⟩
        have d1 := (Below.refl w1.heap.size w1).alloc (Nat.le_refl _) (.cells #[.int .i64 id, .string (txt t), .string (txt m)] 76)
        have c1 := Lib.hid (bstep (bstep BA.out b1) d1)
        have J1 := Lib.hid (Grid.GAt.below (Grid.GAt.below HJ.out b1) d1)
        have HT1 := Lib.hid ((HT.out.below b1).below d1)
        have gS := Lib.hid (heap_alloc_new w1 (.cells #[.int .i64 id, .string (txt t), .string (txt m)] 76))
        obtain ⟨x0, _⟩ := box1 ((d1.block w.heap.size (by have := b1.size; simp at this; omega)).trans ((b1.block w.heap.size (by simp)).trans G0.out))
        clear d1 b1
        go_wp2_with fail
        refine (LK2.out _ J1.out).mono ?_
        rintro e w2 ⟨rfl, b2⟩
        have d2 := (Below.refl w2.heap.size w2).alloc (Nat.le_refl _) (.cells #[.int .i64 p.i, .string (txt p.s), .int .i64 p.f, .int .i64 p.t] 39)
        have c2 := Lib.hid (bstep (bstep c1.out b2) d2)
        have HT2 := Lib.hid ((HT1.out.below b2).below d2)
        obtain ⟨y0, y1, y2, y3⟩ := box4K (heap_alloc_new w2 (.cells #[.int .i64 p.i, .string (txt p.s), .int .i64 p.f, .int .i64 p.t] 39))
        have kS := (b2.block w1.heap.size (by simp)).trans gS.out
        have hz1 := Lib.hid (lt_of_block kS)
        have KS := Lib.hid ((d2.block w1.heap.size hz1.out).trans kS)
        obtain ⟨z0, z1, z2⟩ := box3S KS.out
        clear d2 b2 kS
        go_wp2
        refine Inv.region_tab 9 44 [(0, 31, .pointer (some ⟨w1.heap.size, 2, none⟩)), (1, 32, .string (txt m)), (2, 33, .pointer (some ⟨w1.heap.size, 0, none⟩)), (3, 34, .agg #[.int .i64 id, .string (txt t)]), (4, 35, .pointer (some ⟨w2.heap.size, 1, none⟩)), (5, 36, .string (txt p.s)), (6, 37, .string (txt m2)), (7, 38, .bool false), (8, 39, .bool true)] (fun W => Below (w2.heap.size + 1) (w2.alloc (.cells #[.int .i64 p.i, .string (txt p.s), .int .i64 p.f, .int .i64 p.t] 39)) W) (by kernel_rfl) rfl (by kernel_rfl) ⟨by simp, rfl⟩ (by rfl) (show ([31, 32, 33, 34, 35, 36, 37, 38, 39] : List Nat).Nodup by decide) (by simp) (by simpa using (Below.refl (w2.alloc (.cells #[.int .i64 p.i, .string (txt p.s), .int .i64 p.f, .int .i64 p.t] 39)).heap.size (w2.alloc (.cells #[.int .i64 p.i, .string (txt p.s), .int .i64 p.f, .int .i64 p.t] 39))).drew) ?_ ?_
        · intro a b t W hW ht htab hfr p hp hafter K SP
          have F := fun q hq hb => (ht q.2.1).trans (htab q hq hb)
          have G8 := (ht 8).trans (hfr 8 (by simp))
          have G10 := (ht 10).trans (hfr 10 (by simp))
          simp only [List.mem_cons, List.not_mem_nil, or_false] at hp F
          have HF := Lib.hid F
          clear F ht htab hfr
          rcases hp with rfl | rfl | rfl | rfl | rfl | rfl | rfl | rfl | rfl
          · clear hafter
            clear G10
            refine Inv.wpOp_at rfl rfl ?_
            go_simp
            exact SP _ hW
          · have ha := hafter _ rfl
            clear hafter
            simp [Region.binds] at ha
            have f31 := HF.out _ (by left; rfl) (by simp_all)
            clear ha
            clear G8 G10
            refine Inv.wpOp_at rfl rfl ?_
            have d2 := (hW.cell (p := ⟨w1.heap.size, 2, none⟩) (Nat.lt_succ_of_lt hz1.out)).trans z2
            go_simp
            exact SP _ hW
          · clear hafter
            clear G10
            refine Inv.wpOp_at rfl rfl ?_
            go_simp
            exact SP _ hW
          · have ha := hafter _ rfl
            clear hafter
            simp [Region.binds] at ha
            have f33 := HF.out _ (by right; right; left; rfl) (by simp_all)
            clear ha
            clear G8 G10
            refine Inv.wpOp_at rfl rfl ?_
            have d0 := (hW.cell (p := ⟨w1.heap.size, 0, none⟩) (Nat.lt_succ_of_lt hz1.out)).trans z0
            have d1 := (hW.cell (p := ⟨w1.heap.size, 1, none⟩) (Nat.lt_succ_of_lt hz1.out)).trans z1
            go_simp
            exact SP _ hW
          · clear hafter
            clear G8
            refine Inv.wpOp_at rfl rfl ?_
            go_simp
            exact SP _ hW
          · have ha := hafter _ rfl
            clear hafter
            simp [Region.binds] at ha
            have f35 := HF.out _ (by right; right; right; right; left; rfl) (by simp_all)
            clear ha
            clear G8 G10
            refine Inv.wpOp_at rfl rfl ?_
            have d1 := (hW.cell (p := ⟨w2.heap.size, 1, none⟩) (Nat.lt_succ_self _)).trans y1
            go_simp
            exact SP _ hW
          · have ha := hafter _ rfl
            clear hafter
            simp [Region.binds] at ha
            have f34 := HF.out _ (by right; right; right; left; rfl) (by simp_all)
            have f36 := HF.out _ (by right; right; right; right; right; left; rfl) (by simp_all)
            clear ha
            clear G8 G10
            refine Inv.wpOp_at rfl rfl ?_
            go_simp
            refine (MW.out _ (HT2.out.below (by simpa using hW))).mono ?_
            rintro e wa ⟨rfl, hba⟩
            exact SP _ (hW.trans (hba.mono (by simpa using hW.size)))
          · have ha := hafter _ rfl
            clear hafter
            simp [Region.binds] at ha
            have f32 := HF.out _ (by right; left; rfl) (by simp_all)
            have f37 := HF.out _ (by right; right; right; right; right; right; left; rfl) (by simp_all)
            clear ha
            clear G8 G10
            refine Inv.wpOp_at rfl rfl ?_
            go_simp
            refine (SM.out _).mono ?_
            rintro e wa ⟨rfl, hba⟩
            exact SP _ (hW.trans (hba.mono (by simpa using hW.size)))
          · have ha := hafter _ rfl
            clear hafter
            simp [Region.binds] at ha
            have f38 := HF.out _ (by right; right; right; right; right; right; right; left; rfl) (by simp_all)
            clear ha
            clear G8 G10
            refine Inv.wpOp_at rfl rfl ?_
            go_simp
            exact SP _ hW
        · intro W hW
          have HW := Lib.hid hW
          simp only [List.range, List.range.loop, List.map_cons, List.map_nil, Inv.tabAt]
          simp
          clear hW
          obtain ⟨q0, q1, q2⟩ := box3S ((HW.out.block w1.heap.size (Nat.lt_succ_of_lt hz1.out)).trans KS.out)
          go_wp2
          go_ret2
          exact ⟨by rw [HR2.out]; rfl, bstep c2.out (by simpa using HW.out)⟩

end Sl
end Go.Proofs.YtonpalaopnfffaaGreatDoor
