/- CONTRACT: the program's Rotate. -/
import Derived.Test.YtonpalaopnfffaaKyA
namespace Go.Proofs.Ytonpalaopnfffaa
set_option linter.unusedVariables false
set_option maxRecDepth 4000
open Go.ChangeShapes Go.WideShapes Go.ChangeAt Go.RowKit

namespace Ky
open Ht Ck

theorem grown_setK (W : World) (b k : Nat) (v : Value) : W.grownBy (W.setCell ⟨b, k, none⟩ v) (some b) :=
  ⟨rfl, rfl, rfl, by simp, fun i _ hne => Below.heap_setCell _ _ _ _ (fun e => hne (by rw [e]))⟩

theorem key_range {l : List KeyL} (h : Ring l) (k : Nat) (hk : k < l.length) : 1 ≤ l[k].i ∧ l[k].i ≤ 999999 := by
  have h2 := (h.2 k hk).1
  unfold keyOk at h2
  simp only [Bool.and_eq_true, decide_eq_true_eq] at h2
  omega

theorem time_range {n : Int} (h : timeB n = true) : 0 ≤ n ∧ n ≤ 999999999999 := by
  unfold timeB at h
  simpa using h

theorem new_small {l : List KeyL} (hS : ∀ c ∈ l, Sm c) (h : Ring l) (s : List UInt8) (hs : s.length ≤ 1048576) (now life : Int) (h1 : timeB now = true) (h2 : timeB life = true) : ∀ c ∈ newRing l s now life, Sm c := by
  intro c hc
  unfold newRing keptL at hc
  rcases List.mem_append.1 hc with hc | hc
  · exact hS c (List.mem_filter.1 hc).1
  · have e : c = ⟨nextId l, s, now, now + life⟩ := by simpa using hc
    subst e
    have a1 := time_range h1
    have a2 := time_range h2
    have a3 := next_range l h
    exact ⟨hs, ⟨by show _ ≤ nextId l; omega, by show nextId l ≤ _; omega⟩, ⟨by show _ ≤ now; omega, by show now ≤ _; omega⟩, ⟨by show _ ≤ now + life; omega, by show now + life ≤ _; omega⟩⟩

set_option maxRecDepth 100000 in
set_option maxHeartbeats 12800000 in
theorem rotate_impl (v : Value) (l : List KeyL) (s : List UInt8) (now life : Int) (w : World) (h : Src w v l) (hn : l.length ≤ 1048576) (hS : ∀ c ∈ l, Sm c) (hs : s.length ≤ 1048576) :
    Calls Try.prog 14 #[.agg #[v], .string (txt s), .int .i64 now, .int .i64 life] w fun e w' => ∃ v', e = .returned (.agg #[v']) ∧ Own w' w.heap.size v' (rotL l s now life) ∧ Below w.heap.size w w' := by
  obtain ⟨i0, hi, hz0, hz1, hz2⟩ := info_parts info2
  have HO := Lib.hid h
  obtain ⟨a, cap, rfl⟩ := h.at.form
  have hba := ((Below.refl w.heap.size w).alloc (Nat.le_refl _) (.cells #[.slice a l.length cap] 29)).alloc (by simp) (.cells #[.slice none 0 0] 29)
  have g0 := (Below.heap_alloc (w.alloc (.cells #[.slice a l.length cap] 29)) (.cells #[.slice none 0 0] 29) w.heap.size (by simp)).trans (heap_alloc_new w (.cells #[.slice a l.length cap] 29))
  have g1 := heap_alloc_new (w.alloc (.cells #[.slice a l.length cap] 29)) (.cells #[.slice none 0 0] 29)
  have sa : (w.alloc (.cells #[.slice a l.length cap] 29)).heap.size = w.heap.size + 1 := by simp
  have sz := Lib.hid (show ((w.alloc (.cells #[.slice a l.length cap] 29)).alloc (.cells #[.slice none 0 0] 29)).heap.size = w.heap.size + 1 + 1 by simp)
  rw [sa] at g1
  have BA := Lib.hid hba
  have G0 := Lib.hid g0
  have G1 := Lib.hid g1
  have HJ := Lib.hid (h.below hba)
  clear hba g0 g1 sa h
  have RO := Lib.hid (fun wx hx => ringOk_impl (.slice a l.length cap) l wx hx (by omega) hS)
  have T1 := Lib.hid (fun wx => timeI now wx)
  have T2 := Lib.hid (fun wx => timeI life wx)
  have CL := Lib.hid (fun wx hx => clone_call (.slice a l.length cap) l wx hx (by omega))
  have NS := Lib.hid (fun h1 h2 h3 => new_small hS h1 s hs now life h2 h3)
  have KR := Lib.hid (fun (h : Ring l) => key_range h)
  clear hS
  obtain ⟨RL, HRL⟩ : ∃ RL, Hid (RL = rotL l s now life) := ⟨_, Lib.hid rfl⟩
  rw [← HRL.out]
  go_enter Try.func14, Try.ntmps14
  go_wp2_with fail
  refine (RO.out _ HJ.out.at).mono ?_
  rintro e w1 ⟨rfl, b1⟩
  have s1 := b1.size
  rw [sz.out] at s1
  have B1 := Lib.hid (bstep BA.out b1)
  have K0 := Lib.hid ((b1.block w.heap.size (by rw [sz.out]; omega)).trans G0.out)
  have K1 := Lib.hid ((b1.block (w.heap.size + 1) (by rw [sz.out]; omega)).trans G1.out)
  have J1 := Lib.hid (HJ.out.below b1)
  obtain ⟨x0, _⟩ := box1 K0.out
  clear b1
  -- the ring is handed back as it came
  have BACK := Lib.hid (show ∀ (wx : World), Below w1.heap.size w1 wx → Calls Try.prog 26 #[.agg #[.slice a l.length cap]] wx fun e w' => ∃ a' cap', e = .returned (.agg #[.slice a' l.length cap']) ∧ w'.cell? ⟨w.heap.size + 1, 0, none⟩ = some (.slice none 0 0) ∧ w'.frozen? ⟨w.heap.size + 1, 0, none⟩ = false ∧
      (loadVar 29 ⟨w.heap.size + 1, 0, none⟩).run Try.prog (w'.setCell ⟨w.heap.size + 1, 0, none⟩ (.slice a' l.length cap')) = .ok (.agg #[.slice a' l.length cap']) (w'.setCell ⟨w.heap.size + 1, 0, none⟩ (.slice a' l.length cap')) ∧
      Own (w'.setCell ⟨w.heap.size + 1, 0, none⟩ (.slice a' l.length cap')) w.heap.size (.slice a' l.length cap') l ∧ Below w.heap.size w (w'.setCell ⟨w.heap.size + 1, 0, none⟩ (.slice a' l.length cap')) from fun wx hx => by
    refine (CL.out wx (J1.out.below hx)).mono ?_
    rintro e w' ⟨v', rfl, ho, hb⟩
    obtain ⟨a', cap', rfl⟩ := ho.src.at.form
    have hsx := hx.size
    have k1 := (hb.block (w.heap.size + 1) (by omega)).trans ((hx.block (w.heap.size + 1) (by omega)).trans K1.out)
    obtain ⟨y0, y1⟩ := box1 k1
    have n1 := heap_setCell_same w' (w.heap.size + 1) 0 _ _ (.slice a' l.length cap') k1
    exact ⟨a', cap', rfl, y0, y1, run_loadVar_row (P := Try.prog) _ (w.heap.size + 1) 29 29 _ (0, 0) _ n1 Try.underlying29 rfl (by rw [ring_info]; rfl),
      (Own.other ho (row := some (w.heap.size + 1)) (fun j e e2 => by have := (ho.blk j e).1; simp only [Option.some.injEq] at e2; omega) (grown_setK w' (w.heap.size + 1) 0 (.slice a' l.length cap'))).lower (by omega),
      (bstep (bstep B1.out hx) hb).setCell (p := ⟨w.heap.size + 1, 0, none⟩) (by show w.heap.size ≤ w.heap.size + 1; omega) _⟩)
  -- WALK
  cases hA : ringR l with
  | false =>
    have HR := Lib.hid (show RL = l by rw [HRL.out]; unfold rotL; rw [hA]; simp)
    go_wp2_with fail
    refine (BACK.out _ (Below.refl _ _)).mono ?_
    rintro e wz ⟨a', cap', rfl, y0, y1, LD, ho, hb⟩
    have HLD := Lib.hid LD
    have HOO := Lib.hid ho
    have HBB := Lib.hid hb
    clear LD ho hb
    go_wp2
    refine bodyPost_ret (v := .agg #[.slice a' l.length cap']) ?_ rfl ⟨_, rfl, by rw [HR.out]; exact HOO.out, HBB.out⟩
    rw [results_cell_one rfl]
    have hld := HLD.out
    simp [asAddr, Result.andThen, hld]
  | true =>
    go_wp2_with fail
    refine (T1.out _).mono ?_
    rintro e w2 ⟨rfl, rfl⟩
    cases hB : timeB now with
    | false =>
      have HR := Lib.hid (show RL = l by rw [HRL.out]; unfold rotL; rw [hB]; simp)
      go_wp2_with fail
      refine (BACK.out _ (Below.refl _ _)).mono ?_
      rintro e wz ⟨a', cap', rfl, y0, y1, LD, ho, hb⟩
      have HLD := Lib.hid LD
      have HOO := Lib.hid ho
      have HBB := Lib.hid hb
      clear LD ho hb
      go_wp2
      refine bodyPost_ret (v := .agg #[.slice a' l.length cap']) ?_ rfl ⟨_, rfl, by rw [HR.out]; exact HOO.out, HBB.out⟩
      rw [results_cell_one rfl]
      have hld := HLD.out
      simp [asAddr, Result.andThen, hld]
    | true =>
      go_wp2_with fail
      refine (T2.out _).mono ?_
      rintro e w2 ⟨rfl, rfl⟩
      cases hC : timeB life with
      | false =>
        have HR := Lib.hid (show RL = l by rw [HRL.out]; unfold rotL; rw [hC]; simp)
        go_wp2_with fail
        refine (BACK.out _ (Below.refl _ _)).mono ?_
        rintro e wz ⟨a', cap', rfl, y0, y1, LD, ho, hb⟩
        have HLD := Lib.hid LD
        have HOO := Lib.hid ho
        have HBB := Lib.hid hb
        clear LD ho hb
        go_wp2
        refine bodyPost_ret (v := .agg #[.slice a' l.length cap']) ?_ rfl ⟨_, rfl, by rw [HR.out]; exact HOO.out, HBB.out⟩
        rw [results_cell_one rfl]
        have hld := HLD.out
        simp [asAddr, Result.andThen, hld]
      | true =>
        have HR := Lib.hid (show RL = if ringR (newRing l s now life) then newRing l s now life else l by rw [HRL.out]; unfold rotL; rw [hA, hB, hC]; rfl)
        have HRing := Lib.hid ((ringR_iff l).1 hA)
        have hl6 := HRing.out.1
        have HNS := Lib.hid (NS.out HRing.out hB hC)
        have hnow := time_range hB
        have hlife := time_range hC
        clear hA hB hC RO T1 T2 NS
        have dR := (Below.refl w1.heap.size w1).alloc (Nat.le_refl _) (.cells #[.slice none 0 0] 29)
        have M0 := Lib.hid (heap_alloc_new w1 (.cells #[.slice none 0 0] 29))
        have zR := Lib.hid (show (w1.alloc (.cells #[.slice none 0 0] 29)).heap.size = w1.heap.size + 1 by simp)
        have DR := Lib.hid dR
        obtain ⟨xA, _⟩ := box1 ((dR.block w.heap.size (by omega)).trans K0.out)
        have O0 := Lib.hid (World.ownsRow_nil (w1.alloc (.cells #[.slice none 0 0] 29)) (w1.heap.size + 1) 39 4)
        clear dR
        go_wp2
        go_loopw [9, 31] (fun id i wr => ∃ (k : Nat) (kl : List KeyL) (u : Value), k ≤ l.length ∧ i = .int .i64 k ∧ id = .int .i64 (nextId (l.take k)) ∧ kl.length ≤ k ∧ Hid (kl = keptL (l.take k) now) ∧ wr.ownsRow (w1.heap.size + 1) 39 4 u kl.length (kl.flatMap cs) ∧ Hid (wr.heap[w1.heap.size]? = some (.cells #[u] 29 (0, 0))) ∧ Below w1.heap.size w1 wr) (fun _ i _ => l.length - (intOf i).toNat)
        case atStart => exact ⟨0, [], .slice none 0 0, by omega, rfl, rfl, by simp, Lib.hid rfl, O0.out, M0, DR.out⟩
        case round =>
          clear M0 DR O0
          obtain ⟨k, kl, u, hk, rfl, rfl, hkl, hkept, hown, hbox, hbel⟩ := hrel
          have hws := lt_of_block hbox.out
          have HOWN := Lib.hid hown
          have HBL := Lib.hid (show ∀ j, u.ownBlock = some j → w1.heap.size + 1 ≤ j ∧ j < wr.heap.size from own_low hown)
          obtain ⟨b0, b1⟩ := box1 hbox.out
          by_cases hlt : k < l.length
          · have hi0 : (0 : Int) ≤ (k : Int) := by omega
            have hi1 : (k : Int) < (l.length : Int) := by omega
            have hpr := KR.out HRing.out k hlt
            obtain ⟨g, off, rfl, hg, c0, c1, c2, c3⟩ := At.cells (J1.out.below hbel).at k hlt
            have HNX := Lib.hid (next_snoc l k hlt)
            have HKS := Lib.hid (kept_snoc l now k hlt)
            rw [← hkept.out] at HKS
            generalize l[k] = p at c0 c1 c2 c3 hpr HNX HKS
            have dK := (Below.refl wr.heap.size wr).alloc (Nat.le_refl _) (.cells #[.int .i64 p.i, .string (txt p.s), .int .i64 p.f, .int .i64 p.t] 39)
            have dK2 := dK.alloc (by simp) (.cells #[.int .i64 p.i, .string (txt p.s), .int .i64 p.f, .int .i64 p.t] 39)
            have zK : (wr.alloc (.cells #[.int .i64 p.i, .string (txt p.s), .int .i64 p.f, .int .i64 p.t] 39)).heap.size = wr.heap.size + 1 := by simp
            have ZK := Lib.hid zK
            have hmx : (p.i + 1) ≤ 9223372036854775807 := by omega
            have HBE := Lib.hid hbel
            clear zK
            by_cases hge : now ≤ p.t
            · have HA := Lib.hid (show kl ++ [p] = keptL (l.take (k + 1)) now by rw [HKS.out, if_pos hge])
              have kb := (dK.block w1.heap.size (by omega)).trans hbox.out
              have KB2 := Lib.hid ((dK2.block w1.heap.size (by omega)).trans hbox.out)
              have HBE2 := Lib.hid (hbel.trans (dK2.mono hbel.size))
              obtain ⟨d0, d1⟩ := box1 kb
              have hownK := ownsRow_below hown dK
              clear dK dK2 kb hown hbel
              go_wp2_with (at_builtin; refine wpList_append_lies _ rfl _ _ _ rfl (w1.heap.size + 1) 39 i0 _ 4 40 Try.underlying27 hi hz0 hz1 hz2 rfl (by omega) u kl.length _ rfl (hownK.alloc _) ⟨wr.heap.size + 1, 0, none⟩ 1 1 [.int .i64 p.i, .string (txt p.s), .int .i64 p.f, .int .i64 p.t] rfl rfl (World.news_of_block (cs := #[.int .i64 p.i, .string (txt p.s), .int .i64 p.f, .int .i64 p.t]) (t := 39) (fr := (0, 0)) (by have := heap_alloc_new (wr.alloc (.cells #[.int .i64 p.i, .string (txt p.s), .int .i64 p.f, .int .i64 p.t] 39)) (.cells #[.int .i64 p.i, .string (txt p.s), .int .i64 p.f, .int .i64 p.t] 39); rw [ZK.out] at this; exact this)) (by simp [Value.oneCell']) (by omega) (by unfold maxLen; omega) (by omega) (by simp; omega) (wr.heap.size + 1 + 1) (by simp) ?_; intro gg cap5 w5 hown5 hgrow5 hat5 hlt5; have kb5 := (hgrow5.block w1.heap.size (by simp; omega) (fun e => by have := (HBL.out _ e.symm).1; omega)).trans KB2.out; obtain ⟨e0, e1⟩ := box1 kb5)
              have hbel5 := HBE2.out.grown hgrow5 HBE2.out.size (fun j e => by have := (HBL.out j e).1; omega)
              have hgg := (own_low hown5 gg rfl).1
              have kb6 := heap_setCell_same w5 w1.heap.size 0 _ _ (.slice (some ⟨gg, 0, none⟩) (kl.length + 1) cap5) kb5
              have hown6 := own_heap (w' := w5.setCell ⟨w1.heap.size, 0, none⟩ (.slice (some ⟨gg, 0, none⟩) (kl.length + 1) cap5)) hown5 (fun j e => Below.heap_setCell _ _ _ _ (by simp only [Value.ownBlock, Option.some.injEq] at e; show j ≠ w1.heap.size; omega))
              rw [flat_snocK] at hown6
              go_roundw
              case rel => exact ⟨k + 1, kl ++ [p], .slice (some ⟨gg, 0, none⟩) (kl.length + 1) cap5, by omega, by go_num, by rw [HNX.out], by rw [List.length_append, List.length_singleton]; omega, HA, by rw [List.length_append, List.length_singleton]; exact hown6, Lib.hid kb6, hbel5.setCell (p := ⟨w1.heap.size, 0, none⟩) (Nat.le_refl _) _⟩
              case measure => simp [intOf]; omega
            · have HA := Lib.hid (show kl = keptL (l.take (k + 1)) now by rw [HKS.out, if_neg hge, List.append_nil])
              have KB := Lib.hid ((dK.block w1.heap.size (by omega)).trans hbox.out)
              have HOK := Lib.hid (ownsRow_below hown dK)
              have HBE2 := Lib.hid (hbel.trans (dK.mono hbel.size))
              clear dK dK2 hown hbel
              go_wp2
              go_roundw
              case rel => exact ⟨k + 1, kl, u, by omega, by go_num, by rw [HNX.out], by omega, HA, HOK.out, KB, HBE2.out⟩
              case measure => simp [intOf]; omega
          · have hke : k = l.length := by omega
            have htk : l.take k = l := List.take_of_length_le (by omega)
            have hkept2 := hkept.out
            rw [htk] at hkept2
            have hnx := next_range l HRing.out
            have HL2 := Lib.hid (show newRing l s now life = kl ++ [⟨nextId l, s, now, now + life⟩] by unfold newRing; rw [← hkept2])
            have hi1 : ¬ (k : Int) < (l.length : Int) := by omega
            rw [htk]
            clear hkept2 htk hkept
            generalize nextId l = id at hnx HL2
            have hmx : now + life ≤ 9223372036854775807 := by omega
            have hmn : -9223372036854775808 ≤ now + life := by omega
            generalize hsum : now + life = nl at HL2 hmx hmn
            have dK := (Below.refl wr.heap.size wr).alloc (Nat.le_refl _) (.cells #[.int .i64 id, .string (txt s), .int .i64 now, .int .i64 nl] 39)
            have KB2 := Lib.hid ((dK.block w1.heap.size (by omega)).trans hbox.out)
            have HBE2 := Lib.hid (hbel.trans (dK.mono hbel.size))
            have HKE := Lib.hid hke
            rw [HL2.out] at HR HNS
            have HF2 := Lib.hid (flat_snocK kl ⟨id, s, now, nl⟩)
            have HLn := Lib.hid (show (kl ++ [(⟨id, s, now, nl⟩ : KeyL)]).length = kl.length + 1 by rw [List.length_append, List.length_singleton])
            generalize kl ++ [(⟨id, s, now, nl⟩ : KeyL)] = L2 at HR HNS HF2 HLn
            have RO2 := Lib.hid (fun v wx hx => ringOk_impl v L2 wx hx (by have := HLn.out; omega) HNS.out)
            clear dK hbel hke HL2
            cases hN : ringR L2 with
            | false =>
              have HR3 := Lib.hid (show RL = l by rw [HR.out, hN]; rfl)
              rw [hN] at RO2
              clear hN
              go_wp2_with (first
                | (at_builtin; refine wpList_append_lies _ rfl _ _ _ rfl (w1.heap.size + 1) 39 i0 _ 4 40 Try.underlying27 hi hz0 hz1 hz2 rfl (by omega) u kl.length _ rfl (HOWN.out.alloc _) ⟨wr.heap.size, 0, none⟩ 1 1 [.int .i64 id, .string (txt s), .int .i64 now, .int .i64 nl] rfl rfl (World.news_of_block (cs := #[.int .i64 id, .string (txt s), .int .i64 now, .int .i64 nl]) (t := 39) (fr := (0, 0)) (heap_alloc_new wr (.cells #[.int .i64 id, .string (txt s), .int .i64 now, .int .i64 nl] 39))) (by simp [Value.oneCell']) (by omega) (by unfold maxLen; omega) (by omega) (by simp; omega) (wr.heap.size + 1) (by simp) ?_; intro gg cap5 w5 hown5 hgrow5 hat5 hlt5; have kb5 := (hgrow5.block w1.heap.size (by simp; omega) (fun e => by have := (HBL.out _ e.symm).1; omega)).trans KB2.out; obtain ⟨e0, e1⟩ := box1 kb5; have HBE5 := Lib.hid ((HBE2.out.grown hgrow5 HBE2.out.size (fun j e => by have := (HBL.out j e).1; omega)).setCell (p := ⟨w1.heap.size, 0, none⟩) (Nat.le_refl _) (.slice (some ⟨gg, 0, none⟩) (kl.length + 1) cap5)); have KB6 := Lib.hid (heap_setCell_same w5 w1.heap.size 0 _ _ (.slice (some ⟨gg, 0, none⟩) (kl.length + 1) cap5) kb5); have hown6 := own_heap (w' := w5.setCell ⟨w1.heap.size, 0, none⟩ (.slice (some ⟨gg, 0, none⟩) (kl.length + 1) cap5)) hown5 (fun j e => Below.heap_setCell _ _ _ _ (by have h9 := (own_low hown5 gg rfl).1; simp only [Value.ownBlock, Option.some.injEq] at e; show j ≠ w1.heap.size; omega)); have H6 := Lib.hid (Own.of (l := L2) (by rw [HLn.out, ← HF2.out]; exact hown6)); clear kb5 hown5 hgrow5 hown6)
                | (go_at_call 9; refine (RO2.out _ _ H6.out.src.at).mono ?_; rintro e w7 ⟨rfl, b7⟩; have HB7 := Lib.hid (HBE5.out.trans (b7.mono HBE5.out.size)); have H7 := Lib.hid (H6.out.below b7); obtain ⟨z0, _⟩ := box1 ((b7.block w1.heap.size (lt_of_block KB6.out)).trans KB6.out); obtain ⟨z1, _⟩ := box1 ((HB7.out.block w.heap.size (by omega)).trans K0.out); have kr7 := (HB7.out.block (w.heap.size + 1) (by omega)).trans K1.out; obtain ⟨z2, z3⟩ := box1 kr7; have KR7 := Lib.hid kr7; clear kr7 b7)
                | (go_at_call 26; refine (BACK.out _ HB7.out).mono ?_; rintro e wz ⟨a', cap', rfl, y0, y1, LD, ho, hb⟩; have HLD := Lib.hid LD; have HOO := Lib.hid ho; have HBB := Lib.hid hb; clear LD ho hb z2 z3))
              refine bodyPost_ret (v := .agg #[.slice a' l.length cap']) ?_ rfl ⟨_, rfl, by rw [HR3.out]; exact HOO.out, HBB.out⟩
              rw [results_cell_one rfl]
              have hld := HLD.out
              simp [asAddr, Result.andThen, hld]
            | true =>
              have HR3 := Lib.hid (show RL = L2 by rw [HR.out, hN]; rfl)
              rw [hN] at RO2
              clear hN
              go_wp2_with (first
                | (at_builtin; refine wpList_append_lies _ rfl _ _ _ rfl (w1.heap.size + 1) 39 i0 _ 4 40 Try.underlying27 hi hz0 hz1 hz2 rfl (by omega) u kl.length _ rfl (HOWN.out.alloc _) ⟨wr.heap.size, 0, none⟩ 1 1 [.int .i64 id, .string (txt s), .int .i64 now, .int .i64 nl] rfl rfl (World.news_of_block (cs := #[.int .i64 id, .string (txt s), .int .i64 now, .int .i64 nl]) (t := 39) (fr := (0, 0)) (heap_alloc_new wr (.cells #[.int .i64 id, .string (txt s), .int .i64 now, .int .i64 nl] 39))) (by simp [Value.oneCell']) (by omega) (by unfold maxLen; omega) (by omega) (by simp; omega) (wr.heap.size + 1) (by simp) ?_; intro gg cap5 w5 hown5 hgrow5 hat5 hlt5; have kb5 := (hgrow5.block w1.heap.size (by simp; omega) (fun e => by have := (HBL.out _ e.symm).1; omega)).trans KB2.out; obtain ⟨e0, e1⟩ := box1 kb5; have HBE5 := Lib.hid ((HBE2.out.grown hgrow5 HBE2.out.size (fun j e => by have := (HBL.out j e).1; omega)).setCell (p := ⟨w1.heap.size, 0, none⟩) (Nat.le_refl _) (.slice (some ⟨gg, 0, none⟩) (kl.length + 1) cap5)); have KB6 := Lib.hid (heap_setCell_same w5 w1.heap.size 0 _ _ (.slice (some ⟨gg, 0, none⟩) (kl.length + 1) cap5) kb5); have hown6 := own_heap (w' := w5.setCell ⟨w1.heap.size, 0, none⟩ (.slice (some ⟨gg, 0, none⟩) (kl.length + 1) cap5)) hown5 (fun j e => Below.heap_setCell _ _ _ _ (by have h9 := (own_low hown5 gg rfl).1; simp only [Value.ownBlock, Option.some.injEq] at e; show j ≠ w1.heap.size; omega)); have H6 := Lib.hid (Own.of (l := L2) (by rw [HLn.out, ← HF2.out]; exact hown6)); clear kb5 hown5 hgrow5 hown6)
                | (go_at_call 9; refine (RO2.out _ _ H6.out.src.at).mono ?_; rintro e w7 ⟨rfl, b7⟩; have HB7 := Lib.hid (HBE5.out.trans (b7.mono HBE5.out.size)); have H7 := Lib.hid (H6.out.below b7); obtain ⟨z0, _⟩ := box1 ((b7.block w1.heap.size (lt_of_block KB6.out)).trans KB6.out); obtain ⟨z1, _⟩ := box1 ((HB7.out.block w.heap.size (by omega)).trans K0.out); have kr7 := (HB7.out.block (w.heap.size + 1) (by omega)).trans K1.out; obtain ⟨z2, z3⟩ := box1 kr7; have KR7 := Lib.hid kr7; clear kr7 b7))
              have n7 := heap_setCell_same w7 (w.heap.size + 1) 0 _ _ (.slice (some ⟨gg, 0, none⟩) (kl.length + 1) cap5) KR7.out
              have LD := run_loadVar_row (P := Try.prog) _ (w.heap.size + 1) 29 29 _ (0, 0) _ n7 Try.underlying29 rfl (by rw [ring_info]; rfl)
              refine bodyPost_ret (v := .agg #[.slice (some ⟨gg, 0, none⟩) (kl.length + 1) cap5]) ?_ rfl ⟨_, rfl, by rw [HR3.out]; exact (Own.other H7.out (row := some (w.heap.size + 1)) (fun j e e2 => by have := (H7.out.blk j e).1; simp only [Option.some.injEq] at e2; omega) (grown_setK w7 (w.heap.size + 1) 0 _)).lower (by omega), (bstep B1.out HB7.out).setCell (p := ⟨w.heap.size + 1, 0, none⟩) (by show w.heap.size ≤ w.heap.size + 1; omega) _⟩
              rw [results_cell_one rfl]
              simp [asAddr, Result.andThen, LD]

end Ky
end Go.Proofs.Ytonpalaopnfffaa
