/- CONTRACT of the program's GetSet. -/
import Derived.Test.YtdgfiebehnfpgaaGreatDoorCkM
import Derived.Test.YtdgfiebehnfpgaaGreatDoorCkU
import Derived.Test.YtdgfiebehnfpgaaGreatDoorHtLn
namespace Go.Proofs.YtdgfiebehnfpgaaGreatDoor
set_option linter.unusedVariables false
set_option maxRecDepth 4000
open Go.ChangeShapes Go.WideShapes Go.ChangeAt Go.RowKit
open Go.ChangeMaps (open_string shut_string)
open Go.Maps Go.WideMaps

namespace Ck
open Ht

theorem tail_rowC {w1 : World} {g cap : Nat} {x : List UInt8} {l : List (List UInt8)} (h : TAt w1 (.slice (some ⟨g, 0, none⟩) (l.length + 1) cap) (x :: l)) :
    ∃ a c, TAt w1 (.slice a l.length c) l ∧ (∀ g', a.map (·.block) = some g' → g' = g) ∧ ∀ wx, (Instr.slice 59 (.slice (some ⟨g, 0, none⟩) (l.length + 1) cap) (some (.int .i64 1)) none none).run Tryz.prog wx = .ok (.slice a l.length c) wx := by
  have key : ∃ a c, sliced (some ⟨g, 0, none⟩) 1 (l.length + 1) cap 1 = .slice a l.length c ∧ TAt w1 (.slice a l.length c) l ∧ (∀ g', a.map (·.block) = some g' → g' = g) := by
    have ht := tat_tail h
    unfold sliced
    by_cases hc : cap = 1
    · obtain ⟨a, c, he, hcap, _⟩ := ht
      simp only [Value.slice.injEq] at he
      have hl : l.length = 0 := by omega
      refine ⟨_, _, rfl, ⟨_, _, rfl, by omega, .inl hl⟩, fun g' e => ?_⟩
      simp only [hc] at e
      split at e <;> simp_all
    · simp only [hc, if_false, Option.map_some, Addr.add]
      exact ⟨_, _, rfl, ht, fun g' e => by simp at e; exact e.symm⟩
  obtain ⟨a, c, e, h1, h2⟩ := key
  refine ⟨a, c, h1, h2, fun wx => ?_⟩
  rw [run_slice_l (P := Tryz.prog) (w := wx) (t := 59) (ht := by kernel_rfl) (kl := .i64) (l := 1) (h0 := by omega) (h1 := by omega)]
  have e2 : Tryz.prog.elem 59 = 9 := by kernel_rfl
  rw [e2, Tryz.sizeOf9]
  exact congrArg (fun v => Result.ok v wx) e

theorem fn_zero (w : World) : ∃ z, (zeroValue 127).run Tryz.prog w = .ok z w ∧ fnR z = some (.nil, []) := by
  refine ⟨.nilFunc, (by kernel_rfl), ?_⟩
  rfl

theorem look_known {W : World} {B n : Nat} {D : DataW Unit} {lk : List UInt8} {F : Nat} (ho : W.ownsMap Tryz.prog 9 fnR B n D) (hl : lk.length ≤ 1048576) (h1 : has D (.string lk) = true) (h2 : ∀ z, D.atKey (.string lk) z = .lit (.int .i64 F)) :
    (Instr.lookup 125 (.map (some B)) (.string (txt lk)) true).run Tryz.prog W = .ok (.tuple #[.func (.func F) #[] #[], .bool true]) W := by
  obtain ⟨z, hz, hz2⟩ := fn_zero W
  obtain ⟨v, ps, hr, hv⟩ := ho.look_ok keyS Tryz.underlying125 hz hz2 (key_of lk hl)
  rw [h2] at hv
  rw [fnR_inv hv, h1] at hr
  exact hr

theorem look_unknown {W : World} {B n : Nat} {D : DataW Unit} {lk : List UInt8} (ho : W.ownsMap Tryz.prog 9 fnR B n D) (hl : lk.length ≤ 1048576) (h1 : has D (.string lk) = false) :
    ∃ v, (Instr.lookup 125 (.map (some B)) (.string (txt lk)) true).run Tryz.prog W = .ok (.tuple #[v, .bool false]) W := by
  obtain ⟨z, hz, hz2⟩ := fn_zero W
  obtain ⟨v, ps, hr, hv⟩ := ho.look_ok keyS Tryz.underlying125 hz hz2 (key_of lk hl)
  rw [h1] at hr
  exact ⟨v, hr⟩

theorem ownsMap_set6 {W : World} {B n q : Nat} {D : DataW Unit} (h : W.ownsMap Tryz.prog 9 fnR B n D) (hne : B ≠ q) (v0 v1 v2 v3 v4 v5 : Value) : (set6 W q v0 v1 v2 v3 v4 v5).ownsMap Tryz.prog 9 fnR B n D := by
  unfold set6
  exact (((((h.setCell (a := ⟨q, 0, none⟩) hne _).setCell (a := ⟨q, 1, none⟩) hne _).setCell (a := ⟨q, 2, none⟩) hne _).setCell (a := ⟨q, 3, none⟩) hne _).setCell (a := ⟨q, 4, none⟩) hne _).setCell (a := ⟨q, 5, none⟩) hne _

theorem tat_set6 {w : World} {v : Value} {l : List (List UInt8)} (h : TAt w v l) (b : Nat) (v0 v1 v2 v3 v4 v5 : Value) (hne : ∀ g, v.ownBlock = some g → g ≠ b) : TAt (set6 w b v0 v1 v2 v3 v4 v5) v l := by
  obtain ⟨a, cap, rfl, hc, h0 | ⟨g, off, rfl, hg, hcc⟩⟩ := h
  · exact ⟨a, cap, rfl, hc, .inl h0⟩
  · exact ⟨_, cap, rfl, hc, .inr ⟨g, off, rfl, by rw [set6_size]; exact hg, fun i hi => (World.cell?_of_block (a := ⟨g, off + i, none⟩) (set6_heap w b g v0 v1 v2 v3 v4 v5 (hne g rfl))).trans (hcc i hi)⟩⟩

set_option maxHeartbeats 12800000 in
theorem getSet_impl (s host : ByteArray) (now : Int) (w : World) (hs : s.size ≤ 1048576) (hh : host.size ≤ 1048576) (hN : Nm w) :
    Calls Tryz.prog 64 #[.string s, .string host, .int .i64 now] w fun e w' => e = .returned (ckR (getSet s.data.toList host.data.toList now)) ∧ Below w.heap.size w w' := by
  have HNm := Lib.hid hN
  clear hN
  have C := Lib.hid (fun wx => parts_impl s wx hs)
  have hlen := parts_len s.data.toList
  rw [data_length] at hlen
  have HM := Lib.hid (show ∀ x ∈ partsOf s.data.toList, x.length ≤ 1048576 from fun x hx => by have := part_len s.data.toList x hx; rw [data_length] at this; omega)
  have CT := Lib.hid (fun wx => time_impl now wx)
  have hhl := data_length host
  have H0 := Lib.hid (getSet_nil s.data.toList host.data.toList now)
  have H1 := Lib.hid (getSet_cons s.data.toList host.data.toList now)
  generalize getSet s.data.toList host.data.toList now = R at H0 H1 ⊢
  generalize partsOf s.data.toList = L at C hlen HM H0 H1
  have G0 := Lib.hid (heap_alloc_new w (cc zeroC))
  have BA := Lib.hid ((Below.refl w.heap.size w).alloc (Nat.le_refl _) (cc zeroC))
  have SA := Lib.hid (show (w.alloc (cc zeroC)).heap.size = w.heap.size + 1 by simp)
  simp only [cc, zeroC, show (txt [] : ByteArray) = ⟨#[]⟩ from rfl] at G0 BA SA
  go_enter Tryz.func64, Tryz.ntmps64
  go_wp2_with fail
  refine (C.out _).mono ?_
  rintro e w1 ⟨v, rfl, o1, b1⟩
  rw [SA.out] at o1
  have k1 := (b1.block w.heap.size (by rw [SA.out]; omega)).trans G0.out
  have c1 := BA.out.trans (b1.mono BA.out.size)
  have s1 := b1.size
  rw [SA.out] at s1
  obtain ⟨a, cap, rfl⟩ := own_val o1
  have K1 := Lib.hid k1
  clear k1
  by_cases hL0 : L.length = 0
  · have hLn : L = [] := List.eq_nil_of_length_eq_zero hL0
    have HR := Lib.hid (show R = none from H0.out hLn)
    subst hLn
    obtain ⟨x0, x1, x2, x3, x4, x5, f0, f1, f2, f3, f4, f5⟩ := box6 K1.out
    have BB := Lib.hid (set6_below (b := w.heap.size) c1 (Nat.le_refl _) (.string ⟨#[]⟩) (.string ⟨#[]⟩) (.string ⟨#[]⟩) (.bool false) (.string ⟨#[]⟩) (.int .i64 0))
    clear c1 hL0
    go_wp2
    refine bodyPost_ret (v := .tuple #[.agg #[.string ⟨#[]⟩, .string ⟨#[]⟩, .string ⟨#[]⟩, .bool false, .string ⟨#[]⟩, .int .i64 0], .bool false]) ?_ rfl ⟨by rw [HR.out]; rfl, BB.out⟩
    rw [res_ct1 rfl]
    have hld := ck_load K1.out (.string ⟨#[]⟩) (.string ⟨#[]⟩) (.string ⟨#[]⟩) (.bool false) (.string ⟨#[]⟩) (.int .i64 0)
    unfold set6 at hld
    simp [asAddr, Result.andThen, hld]
  · obtain ⟨x, ys, rfl⟩ : ∃ x ys, L = x :: ys := by
      cases L with
      | nil => simp at hL0
      | cons y ys => exact ⟨y, ys, rfl⟩
    have hyn : ys.length ≤ 1048576 := by simp at hlen; omega
    have HR1 := Lib.hid (fun F hF => H1.out x ys rfl F hF)
    clear H0 H1 hL0
    have i0 : (((x :: ys).length : Int) == 0) = false := by
      rw [Bool.eq_false_iff]
      intro e
      have h1 := eq_of_beq e
      simp at h1
      omega
    cases hT : timeB now with
    | false =>
      have HR := Lib.hid (show R = none by rw [HR1.out _ rfl, hT]; rfl)
      rw [hT] at CT
      clear HR1 hT
      go_wp2_with fail
      refine (CT.out _).mono ?_
      rintro e w2 ⟨rfl, rfl⟩
      obtain ⟨x0, x1, x2, x3, x4, x5, f0, f1, f2, f3, f4, f5⟩ := box6 K1.out
      have BB := Lib.hid (set6_below (b := w.heap.size) c1 (Nat.le_refl _) (.string ⟨#[]⟩) (.string ⟨#[]⟩) (.string ⟨#[]⟩) (.bool false) (.string ⟨#[]⟩) (.int .i64 0))
      go_wp2
      refine bodyPost_ret (v := .tuple #[.agg #[.string ⟨#[]⟩, .string ⟨#[]⟩, .string ⟨#[]⟩, .bool false, .string ⟨#[]⟩, .int .i64 0], .bool false]) ?_ rfl ⟨by rw [HR.out]; rfl, BB.out⟩
      rw [res_ct1 rfl]
      have hld := ck_load K1.out (.string ⟨#[]⟩) (.string ⟨#[]⟩) (.string ⟨#[]⟩) (.bool false) (.string ⟨#[]⟩) (.int .i64 0)
      unfold set6 at hld
      simp [asAddr, Result.andThen, hld]
    | true =>
      rw [hT] at CT
      have hn2 : 0 ≤ now ∧ now ≤ 999999999999 := by unfold timeB at hT; simpa using hT
      have HR2 := Lib.hid (fun F hF => show R = if (cutA 61 x).2.2 && ckOk F && domL host.data.toList F.d then some F else none by rw [HR1.out F hF, hT]; rfl)
      clear HR1 hT
      obtain ⟨n1, n2⟩ := hn2
      obtain ⟨g, rfl, hg1, hg2⟩ := own_at o1 (by simp)
      have cy := own_cell o1 0 (by simp) rfl
      simp only [List.getElem_cons_zero] at cy
      have hyl := HM.out x List.mem_cons_self
      have hst : startC x host.data.toList = ⟨(cutA 61 x).1, (cutA 61 x).2.1, host.data.toList, true, [47], -1⟩ := rfl
      have K := Lib.hid (fun wx => cutI 61 x wx (by omega))
      obtain ⟨hx1, hx2⟩ := cutA_len 61 x
      obtain ⟨F, hF⟩ : ∃ F, F = ys.foldl (doPart now) (startC x host.data.toList) := ⟨_, rfl⟩
      have HR3 := Lib.hid (HR2.out F hF)
      rw [hst] at hF
      generalize (cutA 61 x).2.2 = ok at K HR3
      generalize (cutA 61 x).2.1 = pv at K hx2 hF
      generalize (cutA 61 x).1 = pn at K hx1 hF
      have HF0 := Lib.hid (show F = (ys.drop 0).foldl (doPart now) ⟨pn, pv, host.data.toList, true, [47], -1⟩ from hF)
      have HS0 := Lib.hid (show CkS ⟨pn, pv, host.data.toList, true, [47], -1⟩ from ⟨by show pn.length ≤ _; omega, by show pv.length ≤ _; omega, by show host.data.toList.length ≤ _; omega, by simp⟩)
      have hht := txt_of host
      have HHT := Lib.hid hht
      clear HR2 hst hF hht
      change Hid (∀ wx, Calls Tryz.prog 87 #[.string (txt x), .int .u8 61] wx _) at K
      go_wp2_with fail
      refine (CT.out _).mono ?_
      rintro e w2 ⟨rfl, rfl⟩
      go_wp2_with fail
      refine (K.out _).mono ?_
      rintro e w3 ⟨rfl, b3⟩
      have c3 := c1.trans (b3.mono c1.size)
      have s3 := b3.size
      have k3 := (b3.block w.heap.size (by omega)).trans K1.out
      have o3 := ownsRow_below o1 b3
      have hb0 : w.heap.size < w3.heap.size := by omega
      have hg3 : g < w3.heap.size := by omega
      have BX := Lib.hid (heap_alloc_new w3 (.cells #[.string (txt pn), .string (txt pv), .string host, .bool true, .string ⟨#[47]⟩, .int .i64 (-1)] 87))
      have BB3 := Lib.hid (show Below w.heap.size w (w3.alloc (.cells #[.string (txt pn), .string (txt pv), .string host, .bool true, .string ⟨#[47]⟩, .int .i64 (-1)] 87)) from c3.alloc c3.size _)
      have OO3 := Lib.hid (o3.alloc (.cells #[.string (txt pn), .string (txt pv), .string host, .bool true, .string ⟨#[47]⟩, .int .i64 (-1)] 87))
      have KK3 := Lib.hid ((((Below.refl w3.heap.size w3).alloc (Nat.le_refl _) (.cells #[.string (txt pn), .string (txt pv), .string host, .bool true, .string ⟨#[47]⟩, .int .i64 (-1)] 87)).block w.heap.size hb0).trans k3)
      have SZ3 := Lib.hid (show (w3.alloc (.cells #[.string (txt pn), .string (txt pv), .string host, .bool true, .string ⟨#[47]⟩, .int .i64 (-1)] 87)).heap.size = w3.heap.size + 1 by simp)
      clear cy o1 o3 k3 b3 b1 c1 c3
      go_wp2_with fail
      refine (setters_call _ (nm_below HNm.out BB3.out)).mono ?_
      rintro e w4 ⟨B, n, D, rfl, hB, hM, hD, b4⟩
      rw [SZ3.out] at hB
      have s4 := b4.size
      rw [SZ3.out] at s4
      have BB4 := Lib.hid (bstep BB3.out b4)
      have OO4 := ownsRow_below OO3.out b4
      have KA4 := Lib.hid ((b4.block w.heap.size (by rw [SZ3.out]; omega)).trans KK3.out)
      have KB4 := Lib.hid ((b4.block w3.heap.size (by rw [SZ3.out]; omega)).trans BX.out)
      have hM4 := Lib.hid hM
      have HD := Lib.hid hD
      obtain ⟨av1, cv1, tv1, hbl1, hsl1⟩ := tail_rowC (tat_own OO4)
      have T1 := Lib.hid tv1
      have HBL := Lib.hid hbl1
      clear BX BB3 OO3 KK3 SZ3 b4 hM hD OO4 tv1 hbl1
      clear i0
      go_wp2
      go_loopw [48] (fun i wr => ∃ (k : Nat) (c : CkL), k ≤ ys.length ∧ i = .int .i64 k ∧ Hid (F = (ys.drop k).foldl (doPart now) c) ∧ Hid (CkS c) ∧ Hid (TAt wr (.slice av1 ys.length cv1) ys) ∧ Hid (wr.ownsMap Tryz.prog 9 fnR B n D) ∧ Hid (wr.heap[w.heap.size]? = some (.cells #[.string ⟨#[]⟩, .string ⟨#[]⟩, .string ⟨#[]⟩, .bool false, .string ⟨#[]⟩, .int .i64 0] 87 (0, 0))) ∧ Hid (wr.heap[w3.heap.size]? = some (.cells #[.string (txt c.n), .string (txt c.v), .string (txt c.d), .bool c.o, .string (txt c.p), .int .i64 c.u] 87 (0, 0))) ∧ Below w.heap.size w wr ∧ w3.heap.size < wr.heap.size) (fun i _ => ys.length - (intOf i).toNat)
      case atStart => exact ⟨0, ⟨pn, pv, host.data.toList, true, [47], -1⟩, by omega, rfl, HF0, HS0, T1, hM4, KA4, Lib.hid (by rw [HHT.out]; exact KB4.out), BB4.out, by omega⟩
      case round =>
        clear HF0 HS0 KA4 KB4 K CT T1 hM4 BB4
        obtain ⟨k, c, hk, rfl, hf, hS, hT, hM, hA, hB2, hbel, hbz⟩ := hrel
        have hbs := hbel.size
        by_cases hlt : k < ys.length
        · obtain ⟨g2, off2, cap2, he2, _, hg2b, cy⟩ := tat_cell hT.out k hlt
          simp only [Value.slice.injEq, true_and] at he2
          obtain ⟨rfl, rfl⟩ := he2
          obtain rfl : g2 = g := HBL.out g2 rfl
          have hi0 : (0 : Int) ≤ (k : Int) := by omega
          have hi1 : (k : Int) < (ys.length : Int) := by omega
          have hyl2 := HM.out ys[k] (List.mem_cons_of_mem _ (List.getElem_mem hlt))
          have HN := Lib.hid (show F = (ys.drop (k + 1)).foldl (doPart now) (doPart now c ys[k]) by
            rw [hf.out, List.drop_eq_getElem_cons hlt, List.foldl_cons])
          have HSn := Lib.hid (doPart_S now c ys[k] hS.out (by omega))
          generalize ys[k] = z at cy hyl2 HN HSn
          have hdp : doPart now c z = doAt now c (lowL (cutA 61 z).1) (cutA 61 z).2.1 := rfl
          rw [hdp] at HN HSn
          clear hdp
          have K := Lib.hid (fun wx => cutI 61 z wx (by omega))
          obtain ⟨hx3, hx4⟩ := cutA_len 61 z
          generalize (cutA 61 z).2.2 = ok2 at K
          generalize (cutA 61 z).2.1 = av at K hx4 HN HSn
          generalize (cutA 61 z).1 = ak at K hx3 HN HSn
          change Hid (∀ wx, Calls Tryz.prog 87 #[.string (txt z), .int .u8 61] wx _) at K
          have LO := Lib.hid (fun wx => lowerT ak wx (by omega))
          have hlk : (lowL ak).length ≤ 1048576 := by simp [lowL]; omega
          generalize lowL ak = lk at LO HN HSn hlk
          go_wp2_with fail
          refine (K.out _).mono ?_
          rintro e w5 ⟨rfl, b5⟩
          go_wp2_with fail
          refine (LO.out _).mono ?_
          rintro e w6 ⟨rfl, b6⟩
          have b56 := bstep b5 b6
          have c6 := Lib.hid (bstep hbel b56)
          have s56 := b56.size
          have kA6 := Lib.hid ((b56.block w.heap.size (by omega)).trans hA.out)
          have kB6 := Lib.hid ((b56.block w3.heap.size hbz).trans hB2.out)
          have T6 := Lib.hid (tat_below hT.out b56)
          have M6 := Lib.hid (hM.out.kept (grown_below b56 none) (by simp))
          clear cy hA hB2 hT hM hf hS K LO b5 b6 b56
          obtain ⟨d0, d1, d2, d3, d4⟩ := HD.out
          by_cases hk1 : lk = kPath ∨ lk = kDom ∨ lk = kAge
          · obtain ⟨FN, hcf, hlook, SET⟩ : ∃ FN : Nat, (∀ args wx, (callFunc FN args).run Tryz.prog wx = .ok (.enter FN args) wx) ∧ Hid ((Instr.lookup 125 (.map (some B)) (.string (txt lk)) true).run Tryz.prog w6 = .ok (.tuple #[.func (.func FN) #[] #[], .bool true]) w6) ∧ Hid (∀ wx, Calls Tryz.prog FN #[ckV c, .string (txt av), .int .i64 now] wx fun e w' => e = .returned (ckV (doAt now c lk av)) ∧ Below wx.heap.size wx w') := by
              rcases hk1 with rfl | rfl | rfl
              · exact ⟨_, fun args wx => by kernel_rfl, Lib.hid (look_known M6.out hlk (d2 rfl).1 (d2 rfl).2), Lib.hid (fun wx => setPath_call c av now wx (by omega))⟩
              · exact ⟨_, fun args wx => by kernel_rfl, Lib.hid (look_known M6.out hlk (d3 rfl).1 (d3 rfl).2), Lib.hid (fun wx => setDomain_call c av now wx (by omega))⟩
              · exact ⟨_, fun args wx => by kernel_rfl, Lib.hid (look_known M6.out hlk (d4 rfl).1 (d4 rfl).2), Lib.hid (fun wx => setAge_call c av now wx (by omega) n1 n2)⟩
            have hl6 := hlook.out
            generalize doAt now c lk av = d at SET HN HSn
            unfold ckV at SET
            obtain ⟨x0, x1, x2, x3, x4, x5, _⟩ := box6 kB6.out
            clear d0 d1 d2 d3 d4 hk1
            go_wp2_with fail
            refine (SET.out _).mono ?_
            rintro e wp ⟨rfl, bp⟩
            have sp := bp.size
            have kp := (bp.block w3.heap.size (by omega)).trans kB6.out
            have RT := Lib.hid (tat_set6 (tat_below T6.out bp) w3.heap.size (.string (txt d.n)) (.string (txt d.v)) (.string (txt d.d)) (.bool d.o) (.string (txt d.p)) (.int .i64 d.u) (fun g' e => by simp only [Value.ownBlock, Option.some.injEq] at e; omega))
            have RM := Lib.hid (ownsMap_set6 (q := w3.heap.size) (M6.out.kept (grown_below bp none) (by simp)) (by omega) (.string (txt d.n)) (.string (txt d.v)) (.string (txt d.d)) (.bool d.o) (.string (txt d.p)) (.int .i64 d.u))
            have RA := Lib.hid ((set6_heap wp w3.heap.size w.heap.size (.string (txt d.n)) (.string (txt d.v)) (.string (txt d.d)) (.bool d.o) (.string (txt d.p)) (.int .i64 d.u) (by omega)).trans ((bp.block w.heap.size (by omega)).trans kA6.out))
            have RB := Lib.hid (set6_same kp (.string (txt d.n)) (.string (txt d.v)) (.string (txt d.d)) (.bool d.o) (.string (txt d.p)) (.int .i64 d.u))
            have RW := Lib.hid (set6_below (b := w3.heap.size) (bstep c6.out bp) (by omega) (.string (txt d.n)) (.string (txt d.v)) (.string (txt d.d)) (.bool d.o) (.string (txt d.p)) (.int .i64 d.u))
            have RZ := Lib.hid (show w3.heap.size < (set6 wp w3.heap.size (.string (txt d.n)) (.string (txt d.v)) (.string (txt d.d)) (.bool d.o) (.string (txt d.p)) (.int .i64 d.u)).heap.size by rw [set6_size]; omega)
            unfold set6 at RT RM RA RB RW RZ
            clear x0 x1 x2 x3 x4 x5
            obtain ⟨x0, x1, x2, x3, x4, x5, f0, f1, f2, f3, f4, f5⟩ := box6 kp
            clear kp
            go_wp2
            go_roundw
            case rel => exact ⟨k + 1, d, by omega, by go_num, HN, HSn, RT, RM, RA, RB, RW.out, RZ.out⟩
            case measure => simp [intOf]; omega
          · have hk2 : lk ≠ kPath ∧ lk ≠ kDom ∧ lk ≠ kAge := ⟨fun e => hk1 (.inl e), fun e => hk1 (.inr (.inl e)), fun e => hk1 (.inr (.inr e))⟩
            rw [doAt_other now c lk av hk2.1 hk2.2.1 hk2.2.2] at HN HSn
            obtain ⟨vz, hl6⟩ := look_unknown M6.out hlk (d1 lk hk2.1 hk2.2.1 hk2.2.2)
            have C6 := c6.out
            clear d0 d1 d2 d3 d4 hk1 hk2
            go_wp2
            go_roundw
            case rel => exact ⟨k + 1, c, by omega, by go_num, HN, HSn, T6, M6, kA6, kB6, C6, by omega⟩
            case measure => simp [intOf]; omega
        · have hfc : F = c := by
            have h1 := hf.out
            rw [List.drop_eq_nil_of_le (by omega)] at h1
            exact h1
          rw [hfc] at HR3
          have CO := Lib.hid (fun wx => ckOk_impl c wx hS.out)
          have hS4 := hS.out
          have DO := Lib.hid (fun wx => domain_impl host (txt c.d) wx hh (by rw [txt_size]; exact hS4.2.2.1))
          rw [txt_toList] at DO
          unfold ckV at CO
          generalize ckOk c = A at CO HR3
          generalize domL host.data.toList c.d = Dm at DO HR3
          clear hfc hf hS4 hS hT hM
          cases ok with
          | false =>
            have HR := Lib.hid (show R = none by rw [HR3.out]; rfl)
            obtain ⟨x0, x1, x2, x3, x4, x5, f0, f1, f2, f3, f4, f5⟩ := box6 hA.out
            have BB := Lib.hid (set6_below (b := w.heap.size) hbel (Nat.le_refl _) (.string ⟨#[]⟩) (.string ⟨#[]⟩) (.string ⟨#[]⟩) (.bool false) (.string ⟨#[]⟩) (.int .i64 0))
            go_wp2
            refine bodyPost_ret (v := .tuple #[.agg #[.string ⟨#[]⟩, .string ⟨#[]⟩, .string ⟨#[]⟩, .bool false, .string ⟨#[]⟩, .int .i64 0], .bool false]) ?_ rfl ⟨by rw [HR.out]; rfl, BB.out⟩
            rw [res_ct1 rfl]
            have hld := ck_load hA.out (.string ⟨#[]⟩) (.string ⟨#[]⟩) (.string ⟨#[]⟩) (.bool false) (.string ⟨#[]⟩) (.int .i64 0)
            unfold set6 at hld
            simp [asAddr, Result.andThen, hld]
          | true =>
            obtain ⟨x0, x1, x2, x3, x4, x5, _⟩ := box6 hB2.out
            go_wp2_with fail
            refine (CO.out _).mono ?_
            rintro e w4' ⟨rfl, b4⟩
            have c4 := hbel.trans (b4.mono hbs)
            have kA4 := Lib.hid ((b4.block w.heap.size (by omega)).trans hA.out)
            have kB4 := (b4.block w3.heap.size hbz).trans hB2.out
            have z4 : w3.heap.size < w4'.heap.size := Nat.lt_of_lt_of_le hbz b4.size
            have KB4 := Lib.hid kB4
            obtain ⟨y0, y1, y2, y3, y4, y5, _⟩ := box6 kB4
            clear x0 x1 x2 x3 x4 x5 kB4
            cases A with
            | false =>
              have HR := Lib.hid (show R = none by rw [HR3.out]; rfl)
              clear y0 y1 y2 y3 y4 y5
              obtain ⟨x0, x1, x2, x3, x4, x5, f0, f1, f2, f3, f4, f5⟩ := box6 kA4.out
              have BB := Lib.hid (set6_below (b := w.heap.size) c4 (Nat.le_refl _) (.string ⟨#[]⟩) (.string ⟨#[]⟩) (.string ⟨#[]⟩) (.bool false) (.string ⟨#[]⟩) (.int .i64 0))
              go_wp2
              refine bodyPost_ret (v := .tuple #[.agg #[.string ⟨#[]⟩, .string ⟨#[]⟩, .string ⟨#[]⟩, .bool false, .string ⟨#[]⟩, .int .i64 0], .bool false]) ?_ rfl ⟨by rw [HR.out]; rfl, BB.out⟩
              rw [res_ct1 rfl]
              have hld := ck_load kA4.out (.string ⟨#[]⟩) (.string ⟨#[]⟩) (.string ⟨#[]⟩) (.bool false) (.string ⟨#[]⟩) (.int .i64 0)
              unfold set6 at hld
              simp [asAddr, Result.andThen, hld]
            | true =>
              go_wp2_with fail
              refine (DO.out _).mono ?_
              rintro e w5 ⟨rfl, b5⟩
              have c5 := bstep c4 b5
              have kA5 := Lib.hid ((b5.block w.heap.size (by omega)).trans kA4.out)
              have kB5 := (b5.block w3.heap.size z4).trans KB4.out
              clear y0 y1 y2 y3 y4 y5
              cases Dm with
              | false =>
                have HR := Lib.hid (show R = none by rw [HR3.out]; rfl)
                clear kB5
                obtain ⟨x0, x1, x2, x3, x4, x5, f0, f1, f2, f3, f4, f5⟩ := box6 kA5.out
                have BB := Lib.hid (set6_below (b := w.heap.size) c5 (Nat.le_refl _) (.string ⟨#[]⟩) (.string ⟨#[]⟩) (.string ⟨#[]⟩) (.bool false) (.string ⟨#[]⟩) (.int .i64 0))
                go_wp2
                refine bodyPost_ret (v := .tuple #[.agg #[.string ⟨#[]⟩, .string ⟨#[]⟩, .string ⟨#[]⟩, .bool false, .string ⟨#[]⟩, .int .i64 0], .bool false]) ?_ rfl ⟨by rw [HR.out]; rfl, BB.out⟩
                rw [res_ct1 rfl]
                have hld := ck_load kA5.out (.string ⟨#[]⟩) (.string ⟨#[]⟩) (.string ⟨#[]⟩) (.bool false) (.string ⟨#[]⟩) (.int .i64 0)
                unfold set6 at hld
                simp [asAddr, Result.andThen, hld]
              | true =>
                have HR := Lib.hid (show R = some c by rw [HR3.out]; rfl)
                obtain ⟨q0, q1, q2, q3, q4, q5, _⟩ := box6 kB5
                obtain ⟨x0, x1, x2, x3, x4, x5, f0, f1, f2, f3, f4, f5⟩ := box6 kA5.out
                have BB := Lib.hid (set6_below (b := w.heap.size) c5 (Nat.le_refl _) (.string (txt c.n)) (.string (txt c.v)) (.string (txt c.d)) (.bool c.o) (.string (txt c.p)) (.int .i64 c.u))
                clear kB5
                go_wp2
                refine bodyPost_ret (v := .tuple #[.agg #[.string (txt c.n), .string (txt c.v), .string (txt c.d), .bool c.o, .string (txt c.p), .int .i64 c.u], .bool true]) ?_ rfl ⟨by rw [HR.out]; rfl, BB.out⟩
                rw [res_ct1 rfl]
                have hld := ck_load kA5.out (.string (txt c.n)) (.string (txt c.v)) (.string (txt c.d)) (.bool c.o) (.string (txt c.p)) (.int .i64 c.u)
                unfold set6 at hld
                simp [asAddr, Result.andThen, hld]

end Ck
end Go.Proofs.YtdgfiebehnfpgaaGreatDoor
