/- CONTRACT of the model's GetSet. -/
import Derived.Test.YtdgfiebehnfpgaaGreatDoorCkG
import Derived.Test.YtdgfiebehnfpgaaGreatDoorCkV
import Derived.Deep.AppendLies
namespace Go.Proofs.YtdgfiebehnfpgaaGreatDoor
set_option linter.unusedVariables false
set_option maxRecDepth 4000
open Go.ChangeShapes Go.WideShapes Go.ChangeAt Go.RowKit
open Go.ChangeMaps (open_string shut_string)

namespace Ck
open Ht

/-- what a reading hands back -/
def ckR : Option CkL → Value
  | some c => .tuple #[ckV c, .bool true]
  | none => .tuple #[ckV zeroC, .bool false]

def cc (c : CkL) : Obj := .cells #[.string (txt c.n), .string (txt c.v), .string (txt c.d), .bool c.o, .string (txt c.p), .int .i64 c.u] 87

theorem res_ct1 {fn : Func} {p u : Tmp} {ty : TypeId} (h : fn.results = #[.cell p ty, .tmp u]) (tmps : Array Value) (P : Program) (w : World) :
    (results fn tmps).run P w = ((asAddr (tmps.getD p undef)).run P w).andThen fun a w₁ => ((loadVar ty a).run P w₁).andThen fun x w₂ => .ok (.tuple #[x, tmps.getD u undef]) w₂ := by
  simp only [results, h]
  simp [Sem.run_bind, Result.andThen]

theorem ck_load {W : World} {b : Nat} {a0 a1 a2 a3 a4 a5 : Value} (h : W.heap[b]? = some (.cells #[a0, a1, a2, a3, a4, a5] 87 (0, 0))) (v0 v1 v2 v3 v4 v5 : Value) :
    (loadVar 87 ⟨b, 0, none⟩).run Tryz.prog (set6 W b v0 v1 v2 v3 v4 v5) = .ok (.agg #[v0, v1, v2, v3, v4, v5]) (set6 W b v0 v1 v2 v3 v4 v5) :=
  run_loadVar_row (P := Tryz.prog) _ b 87 87 #[v0, v1, v2, v3, v4, v5] (0, 0) _ (set6_same h v0 v1 v2 v3 v4 v5) Tryz.underlying87 rfl (by rw [ck_info]; rfl)

theorem doAt_S (now : Int) (c : CkL) (k v : List UInt8) (h : CkS c) (hv : v.length ≤ 1048576) : CkS (doAt now c k v) := by
  obtain ⟨h1, h2, h3, h4⟩ := h
  have hd : (lowL (dropDot v)).length ≤ 1048576 := by
    have : (lowL (dropDot v)).length = (dropDot v).length := by simp [lowL]
    rw [this]
    unfold dropDot
    split
    · rw [List.length_drop]; omega
    · exact hv
  unfold doAt
  repeat' split
  all_goals first | exact ⟨h1, h2, h3, h4⟩ | exact ⟨h1, h2, h3, hv⟩ | exact ⟨h1, h2, hd, h4⟩

theorem doPart_S (now : Int) (c : CkL) (x : List UInt8) (h : CkS c) (hx : x.length ≤ 1048576) : CkS (doPart now c x) := by
  have := (cutA_len 61 x).2
  exact doAt_S now c _ _ h (by omega)

theorem foldl_drop {α β : Type} (f : β → α → β) (l : List α) (k : Nat) (hk : k < l.length) (b : β) : (l.drop k).foldl f b = (l.drop (k + 1)).foldl f (f b l[k]) := by
  rw [List.drop_eq_getElem_cons hk, List.foldl_cons]

theorem getSet_nil (s host : List UInt8) (now : Int) (h : partsOf s = []) : getSet s host now = none := by
  unfold getSet
  rw [h]

theorem getSet_cons (s host : List UInt8) (now : Int) (x : List UInt8) (r : List (List UInt8)) (h : partsOf s = x :: r) (F : CkL) (hF : F = r.foldl (doPart now) (startC x host)) :
    getSet s host now = if timeB now && (cutA 61 x).2.2 && ckOk F && domL host F.d then some F else none := by
  unfold getSet
  rw [h, hF]

set_option maxHeartbeats 6400000 in
theorem getSet_spec (s host : ByteArray) (now : Int) (w : World) (hs : s.size ≤ 1048576) (hh : host.size ≤ 1048576) :
    Calls Tryz.prog 57 #[.string s, .string host, .int .i64 now] w fun e w' => e = .returned (ckR (getSet s.data.toList host.data.toList now)) ∧ Below w.heap.size w w' := by
  have C := Lib.hid (fun wx => split_spec s 59 wx hs)
  have hlen := splitL_len 59 s.data.toList
  rw [data_length] at hlen
  have HM := Lib.hid (show ∀ x ∈ splitL 59 s.data.toList, x.length ≤ 1048576 from fun x hx => by have := splitL_part 59 s.data.toList x hx; rw [data_length] at this; omega)
  change Hid (∀ wx, Calls Tryz.prog 48 #[.string s, .int .u8 59] wx _) at C
  have CT := Lib.hid (fun wx => time_spec now wx)
  have hhl := data_length host
  have H0 := Lib.hid (getSet_nil s.data.toList host.data.toList now)
  have H1 := Lib.hid (getSet_cons s.data.toList host.data.toList now)
  have HPt := Lib.hid (show partsOf s.data.toList = (splitL 59 s.data.toList).map trimL from rfl)
  rw [HPt.out] at H0 H1
  generalize getSet s.data.toList host.data.toList now = R at H0 H1 ⊢
  generalize splitL 59 s.data.toList = L at C hlen HM H0 H1
  have G0 := Lib.hid (heap_alloc_new w (cc zeroC))
  have BA := Lib.hid ((Below.refl w.heap.size w).alloc (Nat.le_refl _) (cc zeroC))
  have SA := Lib.hid (show (w.alloc (cc zeroC)).heap.size = w.heap.size + 1 by simp)
  simp only [cc, zeroC, show (txt [] : ByteArray) = ⟨#[]⟩ from rfl] at G0 BA SA
  clear HPt
  go_enter Tryz.func57, Tryz.ntmps57
  go_wp2_with fail
  refine (C.out _).mono ?_
  rintro e w1 ⟨v, rfl, o1, b1⟩
  rw [SA.out] at o1 
  have k1 := (b1.block w.heap.size (by rw [SA.out]; omega)).trans G0.out
  have c1 := BA.out.trans (b1.mono BA.out.size)
  have s1 := b1.size
  rw [SA.out] at s1
  obtain ⟨a, cap, rfl⟩ := own_val o1
  have K1 := Lib.hid k1
  clear k1
  by_cases hL0 : L.length = 0
  · have hLn : L = [] := List.eq_nil_of_length_eq_zero hL0
    have HR := Lib.hid (show R = none from H0.out (by rw [hLn]; rfl))
    subst hLn
    obtain ⟨x0, x1, x2, x3, x4, x5, f0, f1, f2, f3, f4, f5⟩ := box6 K1.out
    have BB := Lib.hid (set6_below (b := w.heap.size) c1 (Nat.le_refl _) (.string ⟨#[]⟩) (.string ⟨#[]⟩) (.string ⟨#[]⟩) (.bool false) (.string ⟨#[]⟩) (.int .i64 0))
    clear c1 hL0
    go_wp2
    refine bodyPost_ret (v := .tuple #[.agg #[.string ⟨#[]⟩, .string ⟨#[]⟩, .string ⟨#[]⟩, .bool false, .string ⟨#[]⟩, .int .i64 0], .bool false]) ?_ rfl ⟨by rw [HR.out]; rfl, BB.out⟩
    rw [res_ct1 rfl]
    have hld := ck_load K1.out (.string ⟨#[]⟩) (.string ⟨#[]⟩) (.string ⟨#[]⟩) (.bool false) (.string ⟨#[]⟩) (.int .i64 0)
    unfold set6 at hld
    simp [asAddr, Result.andThen, hld]
  · obtain ⟨y, ys, rfl⟩ : ∃ y ys, L = y :: ys := by
      cases L with
      | nil => simp at hL0
      | cons y ys => exact ⟨y, ys, rfl⟩
    have HR1 := Lib.hid (fun F hF => H1.out (trimL y) (ys.map trimL) rfl F hF)
    clear H0 H1 hL0
    cases hT : timeB now with
    | false =>
      have HR := Lib.hid (show R = none by rw [HR1.out _ rfl, hT]; rfl)
      rw [hT] at CT
      clear HR1 hT
      go_wp2_with fail
      refine (CT.out _).mono ?_
      rintro e w2 ⟨rfl, rfl⟩
      obtain ⟨x0, x1, x2, x3, x4, x5, f0, f1, f2, f3, f4, f5⟩ := box6 K1.out
      have BB := Lib.hid (set6_below (b := w.heap.size) c1 (Nat.le_refl _) (.string ⟨#[]⟩) (.string ⟨#[]⟩) (.string ⟨#[]⟩) (.bool false) (.string ⟨#[]⟩) (.int .i64 0))
      go_wp2
      refine bodyPost_ret (v := .tuple #[.agg #[.string ⟨#[]⟩, .string ⟨#[]⟩, .string ⟨#[]⟩, .bool false, .string ⟨#[]⟩, .int .i64 0], .bool false]) ?_ rfl ⟨by rw [HR.out]; rfl, BB.out⟩
      rw [res_ct1 rfl]
      have hld := ck_load K1.out (.string ⟨#[]⟩) (.string ⟨#[]⟩) (.string ⟨#[]⟩) (.bool false) (.string ⟨#[]⟩) (.int .i64 0)
      unfold set6 at hld
      simp [asAddr, Result.andThen, hld]
    | true =>
      rw [hT] at CT
      have hn2 : 0 ≤ now ∧ now ≤ 999999999999 := by unfold timeB at hT; simpa using hT
      have HR2 := Lib.hid (fun F hF => show R = if (cutA 61 (trimL y)).2.2 && ckOk F && domL host.data.toList F.d then some F else none by rw [HR1.out F hF, hT]; rfl)
      clear HR1 hT
      obtain ⟨n1, n2⟩ := hn2
      obtain ⟨g, rfl, hg1, hg2⟩ := own_at o1 (by simp)
      have cy := own_cell o1 0 (by simp) rfl
      simp only [List.getElem_cons_zero] at cy
      have hyl := HM.out y List.mem_cons_self
      have T := Lib.hid (fun wx => trimS y wx hyl)
      have htl := trimL_len y
      have hst : startC (trimL y) host.data.toList = ⟨(cutA 61 (trimL y)).1, (cutA 61 (trimL y)).2.1, host.data.toList, true, [47], -1⟩ := rfl
      generalize trimL y = x at T htl HR2 hst
      have K := Lib.hid (fun wx => cutS 61 x wx (by omega))
      obtain ⟨hx1, hx2⟩ := cutA_len 61 x
      obtain ⟨F, hF⟩ : ∃ F, F = (ys.map trimL).foldl (doPart now) (startC x host.data.toList) := ⟨_, rfl⟩
      have HR3 := Lib.hid (HR2.out F hF)
      rw [hst] at hF
      generalize (cutA 61 x).2.2 = ok at K HR3
      generalize (cutA 61 x).2.1 = pv at K hx2 hF
      generalize (cutA 61 x).1 = pn at K hx1 hF
      have HF0 := Lib.hid (show F = (((y :: ys).drop 1).map trimL).foldl (doPart now) ⟨pn, pv, host.data.toList, true, [47], -1⟩ from hF)
      have HS0 := Lib.hid (show CkS ⟨pn, pv, host.data.toList, true, [47], -1⟩ from ⟨by show pn.length ≤ _; omega, by show pv.length ≤ _; omega, by show host.data.toList.length ≤ _; omega, by simp⟩)
      have hht := txt_of host
      clear HR2 hst hF
      change Hid (∀ wx, Calls Tryz.prog 49 #[.string (txt x), .int .u8 61] wx _) at K
      have hlen1 := Lib.hid (show 1 ≤ (y :: ys).length by simp)
      have i0 : (((y :: ys).length : Int) == 0) = false := by
        rw [Bool.eq_false_iff]
        intro e
        have h1 := eq_of_beq e
        simp at h1
        omega
      generalize y :: ys = L at o1 hlen HM HF0 hlen1 i0 ⊢
      go_wp2_with fail
      refine (CT.out _).mono ?_
      rintro e w2 ⟨rfl, rfl⟩
      go_wp2_with fail
      refine (T.out _).mono ?_
      rintro e w2 ⟨rfl, rfl⟩
      go_wp2_with fail
      refine (K.out _).mono ?_
      rintro e w3 ⟨rfl, b3⟩
      have c3 := c1.trans (b3.mono c1.size)
      have s3 := b3.size
      have k3 := (b3.block w.heap.size (by omega)).trans K1.out
      have o3 := ownsRow_below o1 b3
      have hb0 : w.heap.size < w3.heap.size := by omega
      have HO := Lib.hid (show ∀ j, (Value.slice (some ⟨g, 0, none⟩) L.length cap).ownBlock = some j → j < w3.heap.size from fun j e => (o3.lt j e).2)
      have BX := Lib.hid (heap_alloc_new w3 (.cells #[.string (txt pn), .string (txt pv), .string host, .bool true, .string ⟨#[47]⟩, .int .i64 (-1)] 87))
      have BB3 := Lib.hid (show Below w.heap.size w (w3.alloc (.cells #[.string (txt pn), .string (txt pv), .string host, .bool true, .string ⟨#[47]⟩, .int .i64 (-1)] 87)) from c3.alloc c3.size _)
      have OO3 := Lib.hid (o3.alloc (.cells #[.string (txt pn), .string (txt pv), .string host, .bool true, .string ⟨#[47]⟩, .int .i64 (-1)] 87))
      have KK3 := Lib.hid ((((Below.refl w3.heap.size w3).alloc (Nat.le_refl _) (.cells #[.string (txt pn), .string (txt pv), .string host, .bool true, .string ⟨#[47]⟩, .int .i64 (-1)] 87)).block w.heap.size hb0).trans k3)
      have SZ3 := Lib.hid (show w3.heap.size < (w3.alloc (.cells #[.string (txt pn), .string (txt pv), .string host, .bool true, .string ⟨#[47]⟩, .int .i64 (-1)] 87)).heap.size by simp)
      clear cy o1 o3 k3 b3 b1 c1 c3
      go_wp2
      go_loopw [13] (fun i wr => ∃ (k : Nat) (c : CkL), 1 ≤ k ∧ k ≤ L.length ∧ i = .int .i64 k ∧ Hid (F = ((L.drop k).map trimL).foldl (doPart now) c) ∧ Hid (CkS c) ∧ wr.ownsRow (w.heap.size + 1) 9 1 (.slice (some ⟨g, 0, none⟩) L.length cap) L.length (strs L) ∧ Hid (wr.heap[w.heap.size]? = some (.cells #[.string ⟨#[]⟩, .string ⟨#[]⟩, .string ⟨#[]⟩, .bool false, .string ⟨#[]⟩, .int .i64 0] 87 (0, 0))) ∧ Hid (wr.heap[w3.heap.size]? = some (.cells #[.string (txt c.n), .string (txt c.v), .string (txt c.d), .bool c.o, .string (txt c.p), .int .i64 c.u] 87 (0, 0))) ∧ Below w.heap.size w wr ∧ w3.heap.size < wr.heap.size) (fun i _ => L.length - (intOf i).toNat)
      case atStart => exact ⟨1, ⟨pn, pv, host.data.toList, true, [47], -1⟩, by omega, hlen1.out, rfl, HF0, HS0, OO3.out, KK3, Lib.hid (by rw [hht]; exact BX.out), BB3.out, SZ3.out⟩
      case round =>
        clear HF0 HS0 BX BB3 OO3 KK3 SZ3 hht K T CT
        obtain ⟨k, c, hk1, hk, rfl, hf, hS, hown, hA, hB, hbel, hbz⟩ := hrel
        have hbs := hbel.size
        by_cases hlt : k < L.length
        · have cy := own_cell hown k hlt rfl
          have hi0 : (0 : Int) ≤ (k : Int) := by omega
          have hi1 : (k : Int) < (L.length : Int) := by omega
          have hyl2 := HM.out L[k] (List.getElem_mem hlt)
          have T := Lib.hid (fun wx => trimS L[k] wx hyl2)
          have htl2 := trimL_len L[k]
          have HN := Lib.hid (show F = ((L.drop (k + 1)).map trimL).foldl (doPart now) (doPart now c (trimL L[k])) by
            rw [hf.out, List.drop_eq_getElem_cons hlt, List.map_cons, List.foldl_cons])
          have HSn := Lib.hid (doPart_S now c (trimL L[k]) hS.out (by omega))
          generalize L[k] = z at cy T hyl2 htl2 HN HSn
          have hdp : doPart now c (trimL z) = doAt now c (lowL (cutA 61 (trimL z)).1) (cutA 61 (trimL z)).2.1 := rfl
          rw [hdp] at HN HSn
          generalize trimL z = x at T htl2 HN HSn
          clear hdp
          have K := Lib.hid (fun wx => cutS 61 x wx (by omega))
          obtain ⟨hx3, hx4⟩ := cutA_len 61 x
          generalize (cutA 61 x).2.2 = ok2 at K
          generalize (cutA 61 x).2.1 = av at K hx4 HN HSn
          generalize (cutA 61 x).1 = ak at K hx3 HN HSn
          change Hid (∀ wx, Calls Tryz.prog 49 #[.string (txt x), .int .u8 61] wx _) at K
          have LO := Lib.hid (fun wx => lower_spec (txt ak) wx (by rw [txt_size]; omega))
          rw [txt_toList] at LO
          generalize lowL ak = lk at LO HN HSn
          have LP := Lib.hid (fun wx => l06Part_call c lk av now wx (by omega) n1 n2)
          generalize doAt now c lk av = d at LP HN HSn
          unfold ckV at LP
          go_wp2_with fail
          refine (T.out _).mono ?_
          rintro e w4 ⟨rfl, rfl⟩
          go_wp2_with fail
          refine (K.out _).mono ?_
          rintro e w5 ⟨rfl, b5⟩
          have kB5 := Lib.hid ((b5.block w3.heap.size hbz).trans hB.out)
          have kA5 := Lib.hid ((b5.block w.heap.size (by omega)).trans hA.out)
          have o5 := Lib.hid (ownsRow_below hown b5)
          have c5 := Lib.hid (hbel.trans (b5.mono hbs))
          have z5 : w3.heap.size < w5.heap.size := Nat.lt_of_lt_of_le hbz b5.size
          obtain ⟨x0, x1, x2, x3, x4, x5, _⟩ := box6 (W := w5.drew) kB5.out
          have Z5 := Lib.hid z5
          clear cy hA hB hown hbel b5 hf hS T K
          go_wp2
          go_region_law (first
            | (go_simp; go_at_call 56; refine (LO.out _).mono ?_; rintro e wl ⟨rfl, bl⟩; have kl := (bl.block w3.heap.size Z5.out).trans kB5.out; obtain ⟨y0, y1, y2, y3, y4, y5, _⟩ := box6 kl)
            | (go_simp; go_at_call 102; refine (LP.out _).mono ?_; rintro e wp ⟨rfl, bp⟩; have kp := (bp.block w3.heap.size (Nat.lt_of_lt_of_le Z5.out bl.size)).trans kl; obtain ⟨q0, q1, q2, q3, q4, q5, p0, p1, p2, p3, p4, p5⟩ := box6 kp))
          all_goals
            have bl5 : Below w5.heap.size w5 wl := below_of_drew bl
            have sl := bl5.size
            have sp := bp.size
            have RO := Lib.hid (own_heap (ownsRow_below (ownsRow_below o5.out bl5) bp) (fun j e => set6_heap wp w3.heap.size j (.string (txt d.n)) (.string (txt d.v)) (.string (txt d.d)) (.bool d.o) (.string (txt d.p)) (.int .i64 d.u) (by have := HO.out j e; omega)))
            have RA := Lib.hid ((set6_heap wp w3.heap.size w.heap.size (.string (txt d.n)) (.string (txt d.v)) (.string (txt d.d)) (.bool d.o) (.string (txt d.p)) (.int .i64 d.u) (by omega)).trans ((bp.block w.heap.size (by have := Z5.out; omega)).trans ((bl5.block w.heap.size (by have := Z5.out; omega)).trans kA5.out)))
            have RB := Lib.hid (set6_same kp (.string (txt d.n)) (.string (txt d.v)) (.string (txt d.d)) (.bool d.o) (.string (txt d.p)) (.int .i64 d.u))
            have RW := Lib.hid (set6_below (b := w3.heap.size) (bstep (bstep c5.out bl5) bp) (by omega) (.string (txt d.n)) (.string (txt d.v)) (.string (txt d.d)) (.bool d.o) (.string (txt d.p)) (.int .i64 d.u))
            have RZ := Lib.hid (show w3.heap.size < (set6 wp w3.heap.size (.string (txt d.n)) (.string (txt d.v)) (.string (txt d.d)) (.bool d.o) (.string (txt d.p)) (.int .i64 d.u)).heap.size by rw [set6_size]; have := Z5.out; omega)
            unfold set6 at RO RA RB RW RZ
            clear x0 x1 x2 x3 x4 x5 y0 y1 y2 y3 y4 y5 q0 q1 q2 q3 q4 q5 p0 p1 p2 p3 p4 p5 kl kp
            go_wp2
            go_roundw
            case rel => exact ⟨k + 1, d, by omega, by omega, by go_num, HN, HSn, RO.out, RA, RB, RW.out, RZ.out⟩
            case measure => simp [intOf]; omega
        · have hfc : F = c := by
            have h1 := hf.out
            rw [List.drop_eq_nil_of_le (by omega)] at h1
            exact h1
          rw [hfc] at HR3
          have CO := Lib.hid (fun wx => ckOk_spec c wx hS.out)
          have hS4 := hS.out
          have DO := Lib.hid (fun wx => domain_spec host (txt c.d) wx hh (by rw [txt_size]; exact hS4.2.2.1))
          rw [txt_toList] at DO
          unfold ckV at CO
          generalize ckOk c = A at CO HR3
          generalize domL host.data.toList c.d = D at DO HR3
          clear hfc hf hS4 hS hown
          cases ok with
          | false =>
            have HR := Lib.hid (show R = none by rw [HR3.out]; rfl)
            obtain ⟨x0, x1, x2, x3, x4, x5, f0, f1, f2, f3, f4, f5⟩ := box6 hA.out
            have BB := Lib.hid (set6_below (b := w.heap.size) hbel (Nat.le_refl _) (.string ⟨#[]⟩) (.string ⟨#[]⟩) (.string ⟨#[]⟩) (.bool false) (.string ⟨#[]⟩) (.int .i64 0))
            go_wp2
            refine bodyPost_ret (v := .tuple #[.agg #[.string ⟨#[]⟩, .string ⟨#[]⟩, .string ⟨#[]⟩, .bool false, .string ⟨#[]⟩, .int .i64 0], .bool false]) ?_ rfl ⟨by rw [HR.out]; rfl, BB.out⟩
            rw [res_ct1 rfl]
            have hld := ck_load hA.out (.string ⟨#[]⟩) (.string ⟨#[]⟩) (.string ⟨#[]⟩) (.bool false) (.string ⟨#[]⟩) (.int .i64 0)
            unfold set6 at hld
            simp [asAddr, Result.andThen, hld]
          | true =>
            obtain ⟨x0, x1, x2, x3, x4, x5, _⟩ := box6 hB.out
            go_wp2_with fail
            refine (CO.out _).mono ?_
            rintro e w4 ⟨rfl, b4⟩
            have c4 := hbel.trans (b4.mono hbs)
            have kA4 := Lib.hid ((b4.block w.heap.size (by omega)).trans hA.out)
            have kB4 := (b4.block w3.heap.size hbz).trans hB.out
            have z4 : w3.heap.size < w4.heap.size := Nat.lt_of_lt_of_le hbz b4.size
            have KB4 := Lib.hid kB4
            obtain ⟨y0, y1, y2, y3, y4, y5, _⟩ := box6 kB4
            clear x0 x1 x2 x3 x4 x5 kB4
            cases A with
            | false =>
              have HR := Lib.hid (show R = none by rw [HR3.out]; rfl)
              clear y0 y1 y2 y3 y4 y5
              obtain ⟨x0, x1, x2, x3, x4, x5, f0, f1, f2, f3, f4, f5⟩ := box6 kA4.out
              have BB := Lib.hid (set6_below (b := w.heap.size) c4 (Nat.le_refl _) (.string ⟨#[]⟩) (.string ⟨#[]⟩) (.string ⟨#[]⟩) (.bool false) (.string ⟨#[]⟩) (.int .i64 0))
              go_wp2
              refine bodyPost_ret (v := .tuple #[.agg #[.string ⟨#[]⟩, .string ⟨#[]⟩, .string ⟨#[]⟩, .bool false, .string ⟨#[]⟩, .int .i64 0], .bool false]) ?_ rfl ⟨by rw [HR.out]; rfl, BB.out⟩
              rw [res_ct1 rfl]
              have hld := ck_load kA4.out (.string ⟨#[]⟩) (.string ⟨#[]⟩) (.string ⟨#[]⟩) (.bool false) (.string ⟨#[]⟩) (.int .i64 0)
              unfold set6 at hld
              simp [asAddr, Result.andThen, hld]
            | true =>
              go_wp2_with fail
              refine (DO.out _).mono ?_
              rintro e w5 ⟨rfl, b5⟩
              have c5 := bstep c4 b5
              have kA5 := Lib.hid ((b5.block w.heap.size (by omega)).trans kA4.out)
              have kB5 := (b5.block w3.heap.size z4).trans KB4.out
              clear y0 y1 y2 y3 y4 y5
              cases D with
              | false =>
                have HR := Lib.hid (show R = none by rw [HR3.out]; rfl)
                clear kB5
                obtain ⟨x0, x1, x2, x3, x4, x5, f0, f1, f2, f3, f4, f5⟩ := box6 kA5.out
                have BB := Lib.hid (set6_below (b := w.heap.size) c5 (Nat.le_refl _) (.string ⟨#[]⟩) (.string ⟨#[]⟩) (.string ⟨#[]⟩) (.bool false) (.string ⟨#[]⟩) (.int .i64 0))
                go_wp2
                refine bodyPost_ret (v := .tuple #[.agg #[.string ⟨#[]⟩, .string ⟨#[]⟩, .string ⟨#[]⟩, .bool false, .string ⟨#[]⟩, .int .i64 0], .bool false]) ?_ rfl ⟨by rw [HR.out]; rfl, BB.out⟩
                rw [res_ct1 rfl]
                have hld := ck_load kA5.out (.string ⟨#[]⟩) (.string ⟨#[]⟩) (.string ⟨#[]⟩) (.bool false) (.string ⟨#[]⟩) (.int .i64 0)
                unfold set6 at hld
                simp [asAddr, Result.andThen, hld]
              | true =>
                have HR := Lib.hid (show R = some c by rw [HR3.out]; rfl)
                obtain ⟨q0, q1, q2, q3, q4, q5, _⟩ := box6 kB5
                obtain ⟨x0, x1, x2, x3, x4, x5, f0, f1, f2, f3, f4, f5⟩ := box6 kA5.out
                have BB := Lib.hid (set6_below (b := w.heap.size) c5 (Nat.le_refl _) (.string (txt c.n)) (.string (txt c.v)) (.string (txt c.d)) (.bool c.o) (.string (txt c.p)) (.int .i64 c.u))
                clear kB5
                go_wp2
                refine bodyPost_ret (v := .tuple #[.agg #[.string (txt c.n), .string (txt c.v), .string (txt c.d), .bool c.o, .string (txt c.p), .int .i64 c.u], .bool true]) ?_ rfl ⟨by rw [HR.out]; rfl, BB.out⟩
                rw [res_ct1 rfl]
                have hld := ck_load kA5.out (.string (txt c.n)) (.string (txt c.v)) (.string (txt c.d)) (.bool c.o) (.string (txt c.p)) (.int .i64 c.u)
                unfold set6 at hld
                simp [asAddr, Result.andThen, hld]

end Ck
end Go.Proofs.YtdgfiebehnfpgaaGreatDoor
