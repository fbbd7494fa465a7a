/- CONTRACT: the program's LiveKey, by its range over slices.Backward. -/
import Derived.Test.YtonpalaopnfffaaGreatDoorKyL
namespace Go.Proofs.YtonpalaopnfffaaGreatDoor
set_option linter.unusedVariables false
set_option maxRecDepth 4000
open Go.RowKit Go.Shelf
open Go.ChangeShapes Go.WideShapes Go.ChangeAt
attribute [local go_sem] Oper.semAt_some

namespace Ky
open Ht Ck

/-- all blocks below M lie as they lay -/
def KeepM (M : Nat) (A B : World) : Prop := ∀ b, b < M → B.heap[b]? = A.heap[b]?

theorem keepM_t {M : Nat} {X Y Z : World} (h : KeepM M X Y) (k : KeepM M Y Z) : KeepM M X Z := fun b hb => (k b hb).trans (h b hb)

theorem keepM_b {M : Nat} (W : World) (l : Nat) (o o' : Obj) (hl : M ≤ l) (h : W.heap[l]? = some o) (_ : o.isCells = false) (_ : o.isWalk = false) : KeepM M W (W.putObj l o') := fun b hb => World.putObj_heap_other (by omega)

theorem gat_heap {α : Type} {f : α → List Value} {c : Nat} {w w' : World} {v : Value} {l : List α} (h : Grid.GAt f c w v l) (hk : ∀ g, v.ownBlock = some g → w'.heap[g]? = w.heap[g]?) : Grid.GAt f c w' v l := by
  obtain ⟨a, cap, rfl, h0 | ⟨g, off, rfl, hg, hc⟩⟩ := h
  · exact ⟨a, cap, rfl, .inl h0⟩
  · have e := hk g rfl
    have hg' : g < w'.heap.size := by
      rw [Array.getElem?_eq_getElem hg] at e
      exact (Array.getElem?_eq_some_iff.1 e).1
    exact ⟨_, cap, rfl, .inr ⟨g, off, rfl, hg', fun i hi j hj => (cell_congr e _).trans (hc i hi j hj)⟩⟩

set_option maxRecDepth 100000 in
set_option maxHeartbeats 2000000 in
theorem back1_in (n : Nat) (hn : 1 ≤ n) (y Bs n1 M : Nat) (a : Option Addr) (cap : Nat) (l : List KeyL) (hl : l.length ≤ 2097152) (J Jx : List (Int × KeyL) → World → Prop)
    (hY : ∀ pre x W, J pre W → pre ++ [x] <+: backF l l.length → YieldAt Fence.wide (n - 1) Tryz.prog y #[.int .i64 x.1, V x.2] W fun e W' =>
      (e = .returned (.bool true) ∧ J (pre ++ [x]) W' ∧ KeepM M W W') ∨ (e = .returned (.bool false) ∧ Jx (pre ++ [x]) W'))
    (W : World) (hBs : W.cell? ⟨Bs, 0, none⟩ = some (.slice a l.length cap)) (hAt : At W (.slice a l.length cap) l) (hM : Bs < M) (hMa : ∀ g, (Value.slice a l.length cap).ownBlock = some g → g < M ∨ l.length = 0) (h0 : J [] W) :
    CallsIn Fence.wide n Tryz.prog 71 #[.func (.yield y) #[] #[], .pointer (some ⟨Bs, 0, none⟩)] W fun e W' => (∃ v, e = .returned v) ∧
      ((∃ ys, ys = backF l l.length ∧ J ys W') ∨ (∃ pre, pre <+: backF l l.length ∧ Jx pre W')) := by
  have HAt := Lib.hid hAt
  clear hAt
  refine callsIn_of_wp Tryz.func71 rfl trivial ?_ rfl
  simp only [Tryz.ntmps71, List.size_toArray, List.length_cons, List.length_nil, Nat.reduceAdd, Nat.reduceSub, Array.replicate_succ, Array.replicate_zero, List.push_toArray, List.append_toArray, List.nil_append, List.cons_append]
  gi_wp2
  gi_loopw [3] (fun i wr => ∃ (k : Nat) (pre : List (Int × KeyL)), k ≤ l.length ∧ i = .int .i64 ((k : Int) - 1) ∧ Hid (pre ++ backF l k = backF l l.length) ∧ KeepM M W wr ∧ J pre wr)
    (fun i _ => (intOf i + 1).toNat)
  case atStart => exact ⟨l.length, [], by omega, by go_num, Lib.hid rfl, fun _ _ => rfl, h0⟩
  case round =>
    obtain ⟨k, pre, hk, rfl, hpre, hkm, hJw⟩ := hrel
    have hbs := (World.cell?_of_block (w := W) (w' := wr) (a := ⟨Bs, 0, none⟩) (hkm Bs hM)).trans hBs
    by_cases hk0 : k = 0
    · have hys := hpre.out
      rw [hk0] at hys
      have HYS := Lib.hid hys
      have e1 : ¬ (0 : Int) ≤ (k : Int) - 1 := by omega
      clear hys hk0
      gi_wp2
      go_end0
      exact ⟨⟨_, rfl⟩, .inl (by have := HYS.out; rw [show backF l 0 = [] from rfl, List.append_nil] at this; rw [← this]; exact hJw)⟩
    · obtain ⟨j, hj⟩ : ∃ j, k = j + 1 := ⟨k - 1, by omega⟩
      have hjl : j < l.length := by omega
      have hJ1 := Lib.hid hj
      have hpj := hpre.out
      rw [hj, backF_succ l j hjl] at hpj
      have HPJ := Lib.hid hpj
      have e1 : (k : Int) - 1 = (j : Int) := by omega
      have e2 : (0 : Int) ≤ (j : Int) := by omega
      have e3 : (j : Int) < (l.length : Int) := by omega
      clear hj hk0 hpj
      obtain ⟨g, off, rfl, hg, c0, c1, c2, c3⟩ := At.cells (gat_heap HAt.out (fun b hb => hkm b ((hMa b hb).resolve_right (by omega)))) j hjl
      generalize l[j] = p at c0 c1 c2 c3 HPJ
      obtain ⟨fn, tmps, assign, body, hy, hR⟩ := hY pre ((j : Int), p) wr hJw ⟨backF l j, by rw [← HPJ.out]; simp⟩
      unfold V at hy
      simp only at hy
      gi_wp2
      refine hR.mono ?_
      rintro e W3 (⟨rfl, hJ3, hk3⟩ | ⟨rfl, hJx3⟩)
      · gi_wp2
        go_roundw
        case rel => exact ⟨j, pre ++ [((j : Int), p)], by omega, by go_num, Lib.hid (by rw [← HPJ.out]; simp), keepM_t hkm hk3, hJ3⟩
        case measure => have := hJ1.out; simp [intOf]; omega
      · gi_wp2
        refine bodyPost_ret (results_none rfl _ _ _) rfl ?_
        exact ⟨⟨_, rfl⟩, .inr ⟨pre ++ [((j : Int), p)], ⟨backF l j, by rw [← HPJ.out]; simp⟩, hJx3⟩⟩

theorem back_stops (n : Nat) (hn : 1 ≤ n) (Bs M : Nat) (a : Option Addr) (cap : Nat) (l : List KeyL) (hl : l.length ≤ 2097152) (w : World) (hBs : w.cell? ⟨Bs, 0, none⟩ = some (.slice a l.length cap)) (hAt : At w (.slice a l.length cap) l) (hM : Bs < M) (hMa : ∀ g, (Value.slice a l.length cap).ownBlock = some g → g < M ∨ l.length = 0) :
    SeqStopsK Fence.wide n Tryz.prog 71 #[.pointer (some ⟨Bs, 0, none⟩)] (fun x : Int × KeyL => #[Value.int .i64 x.1, V x.2]) (KeepM M) (fun ys => ys = backF l l.length) (fun pre => pre <+: backF l l.length) l.length w := fun y J Jx W hW hJ _ hY h0 =>
  back1_in n hn y Bs W.heap.size M a cap l hl J Jx (fun pre x W hj hp => hY pre x W hj (by have := hp.length_le; rw [backF_len l _ (Nat.le_refl _)] at this; simp at this; omega)) W ((hW.cell (p := ⟨Bs, 0, none⟩) (World.block_lt_of_cell? _ _ hBs)).trans hBs) (Grid.GAt.below hAt hW) hM hMa h0

theorem back_call (w : World) (a : Option Addr) (n cap : Nat) :
    Calls Tryz.prog 46 #[.slice a n cap] w fun e w' => e = .returned (.func (.func 71) #[] #[.pointer (some ⟨w.heap.size, 0, none⟩)]) ∧ w' = w.alloc (.cells #[.slice a n cap] 28) := by
  go_enter Tryz.func46, Tryz.ntmps46
  go_wp2
  go_ret
  exact ⟨rfl, rfl⟩

theorem run_loadVar_boxed1 {P : Program} {W : World} {g : Nat} {t : TypeId} {v : Value} {d : TypeDesc} (h : Boxed W g t v) (hu : P.underlying t = some d) (hd : (match d with | .struct _ | .array _ _ => true | _ => false) = false) :
    (loadVar t ⟨g, 0, none⟩).run P W = .ok v W := by
  have hc := h.cell
  have ha : (isAgg t).run P W = .ok false W := by
    unfold isAgg
    simp only [Sem.run_bind, run_underlying hu, Result.andThen]
    cases d <;> simp_all
  unfold loadVar
  simp only [Sem.run_bind, ha, Result.andThen]
  simp [hc]

theorem results_cell1 {P : Program} {fn : Func} {p : Tmp} {t1 : TypeId} (h : fn.results = #[.cell p t1]) (tmps : Array Value) (W : World) (a1 : Addr) (v1 : Value) (h1 : tmps.getD p undef = .pointer (some a1)) (l1 : (loadVar t1 a1).run P W = .ok v1 W) : (results fn tmps).run P W = .ok v1 W := by
  rw [results_cell_one h, h1]
  simp [asAddr, Result.andThen, l1]

/-- while keys come that aren't live -/
structure LkI (w w2 : World) (now : Int) (pre : List (Int × KeyL)) (W : World) : Prop where
  no : ∀ y ∈ pre, liveB now y.2 = false
  sz : w2.heap.size ≤ W.heap.size
  km : KeepM w2.heap.size w2 W
  below : Below w.heap.size w W

/-- behind a live key -/
structure LkX (w : World) (now : Int) (c : Code) (pre : List (Int × KeyL)) (W : World) : Prop where
  ret : c = .ret
  hit : ∃ q x, pre = q ++ [x] ∧ (∀ y ∈ q, liveB now y.2 = false) ∧ liveB now x.2 = true ∧ Boxed W (w.heap.size + 1 + 1) 3 (.int .i64 x.1)
  below : Below w.heap.size w W

theorem LkI.kept {w w2 W W' : World} {now : Int} {pre : List (Int × KeyL)} (h : LkI w w2 now pre W) (hw : w.heap.size ≤ w2.heap.size) {row : Option Nat} (hg : W.grownBy W' row) (hr : ∀ r, row = some r → w2.heap.size ≤ r) : LkI w w2 now pre W' :=
  ⟨h.no, Nat.le_trans h.sz hg.size, fun b hb => (hg.block b (Nat.lt_of_lt_of_le hb h.sz) (fun e => by have := hr b e.symm; omega)).trans (h.km b hb), h.below.grown hg h.below.size (fun r e => by have := hr r e; omega)⟩

theorem LkX.kept {w W W' : World} {now : Int} {c : Code} {pre : List (Int × KeyL)} {B : Nat} (h : LkX w now c pre W) (hB : w.heap.size + 3 ≤ B) {row : Option Nat} (hg : W.grownBy W' row) (hr : ∀ r, row = some r → B ≤ r) : LkX w now c pre W' := by
  obtain ⟨q, x, h1, h2, h3, h4⟩ := h.hit
  have hlt := h4.lt
  exact ⟨h.ret, ⟨q, x, h1, h2, h3, (hg.block _ hlt (fun e => by have := hr _ e.symm; omega)).trans h4⟩, h.below.grown hg h.below.size (fun r e => by have := hr r e; omega)⟩

set_option maxRecDepth 100000 in
set_option maxHeartbeats 6400000 in
theorem liveKey_impl (v : Value) (l : List KeyL) (now : Int) (w : World) (h : At w v l) (hn : l.length ≤ 2097152) (hS : ∀ c ∈ l, Sm c) :
    Calls Tryz.prog 19 #[.agg #[v], .int .i64 now] w fun e w' => e = .returned (.int .i64 (liveKeyL l now)) ∧ Below w.heap.size w w' := by
  obtain ⟨a, cap, rfl⟩ := h.form
  have hba := (((Below.refl w.heap.size w).alloc (Nat.le_refl _) (.cells #[.slice a l.length cap] 30)).alloc (by simp) (.cells #[.int .i64 now] 3)).alloc (by simp; omega) (.cells #[.int .i64 0] 3)
  obtain ⟨g0, g1, g2⟩ := alloc3s w (.cells #[.slice a l.length cap] 30) (.cells #[.int .i64 now] 3) (.cells #[.int .i64 0] 3)
  have SZ := Lib.hid (alloc3_size w (.cells #[.slice a l.length cap] 30) (.cells #[.int .i64 now] 3) (.cells #[.int .i64 0] 3))
  have BA := Lib.hid hba
  have G0 := Lib.hid g0
  have G1 := Lib.hid g1
  have G2 := Lib.hid g2
  have HJ := Lib.hid (Grid.GAt.below h hba)
  have HMa := Lib.hid (show ∀ g, (Value.slice a l.length cap).ownBlock = some g → g < w.heap.size ∨ l.length = 0 from fun g e => by
    obtain ⟨a', cap', hv, h0 | ⟨g', off, rfl, hg, _⟩⟩ := h
    · exact .inr h0
    · left
      simp only [Value.slice.injEq] at hv
      obtain ⟨rfl, _, _⟩ := hv
      simp only [Value.ownBlock, Option.some.injEq] at e
      omega)
  clear hba g0 g1 g2
  have RO := Lib.hid (fun wx hx => ringOk_impl (.slice a l.length cap) l wx hx hn hS)
  obtain ⟨R, HR⟩ : ∃ R : Int, Hid (R = liveKeyL l now) := ⟨_, Lib.hid rfl⟩
  rw [← HR.out]
  cases hr : ringR l with
  | false =>
    rw [hr] at RO
    have HR2 := Lib.hid (show R = -1 by rw [HR.out]; unfold liveKeyL; rw [hr]; rfl)
    clear hr
    go_enter Tryz.func19, Tryz.ntmps19
    go_wp2_with fail
    refine (RO.out _ HJ.out).mono ?_
    rintro e w1 ⟨rfl, b1⟩
    have K2 : Boxed w1 (w.heap.size + 1 + 1) 3 (.int .i64 0) := (b1.block (w.heap.size + 1 + 1) (by rw [SZ.out]; omega)).trans G2.out
    have c1 := bstep BA.out b1
    have LD := Lib.hid (run_loadVar_boxed1 (P := Tryz.prog) (Boxed.set (.int .i64 (-1)) K2) Tryz.underlying3 rfl)
    have CE := Lib.hid (c1.setCell (p := ⟨w.heap.size + 1 + 1, 0, none⟩) (by show w.heap.size ≤ w.heap.size + 1 + 1; omega) (.int .i64 (-1)))
    have r1 := K2.cell
    have r2 := K2.frozen
    clear K2 c1 b1
    go_wp2
    refine bodyPost_ret (v := .int .i64 (-1)) (results_cell1 rfl _ _ _ _ rfl LD.out) rfl ⟨ret_int HR2.out.symm, CE.out⟩
  | true =>
    rw [hr] at RO
    have HR2 := Lib.hid (show R = liveI l now l.length by rw [HR.out]; unfold liveKeyL; rw [hr]; rfl)
    clear hr
    refine (callsIn_wide (n := 3)).1 ?_
    refine callsIn_of_wp_marks Tryz.func19 rfl trivial ?_ rfl
    simp only [Tryz.ntmps19, List.size_toArray, List.length_cons, List.length_nil, Nat.reduceAdd, Nat.reduceSub, Array.replicate_succ, Array.replicate_zero, List.push_toArray, List.append_toArray, List.nil_append, List.cons_append]
    gi_wp2_with (first
      | (refine ⟨trivial, ?_⟩; gi_at_call 20; refine (callsIn_wide.2 (RO.out _ HJ.out)).mono ?_; rintro e w1 ⟨rfl, b1⟩; have q0 := (b1.block w.heap.size (by rw [SZ.out]; omega)).trans G0.out; obtain ⟨x0, _⟩ := box1 q0)
      | (refine ⟨trivial, ?_⟩; gi_at_call 46; refine (callsIn_wide.2 (back_call _ _ _ _)).mono ?_; rintro e w2 ⟨rfl, rfl⟩))
    have s1 := b1.size
    rw [SZ.out] at s1
    have q1 : Boxed w1 (w.heap.size + 1) 3 (.int .i64 now) := (b1.block (w.heap.size + 1) (by rw [SZ.out]; omega)).trans G1.out
    have q2 : Boxed w1 (w.heap.size + 1 + 1) 3 (.int .i64 0) := (b1.block (w.heap.size + 1 + 1) (by rw [SZ.out]; omega)).trans G2.out
    have c1 := bstep BA.out b1
    have dS := (Below.refl w1.heap.size w1).alloc (Nat.le_refl _) (.cells #[.slice a l.length cap] 28)
    have qS : Boxed (w1.alloc (.cells #[.slice a l.length cap] 28)) w1.heap.size 28 (.slice a l.length cap) := heap_alloc_new w1 _
    have Q1 : Boxed (w1.alloc (.cells #[.slice a l.length cap] 28)) (w.heap.size + 1) 3 (.int .i64 now) := (dS.block _ (by omega)).trans q1
    have Q2 : Boxed (w1.alloc (.cells #[.slice a l.length cap] 28)) (w.heap.size + 1 + 1) 3 (.int .i64 0) := (dS.block _ (by omega)).trans q2
    have HJ2 := Grid.GAt.below (Grid.GAt.below HJ.out b1) dS
    have c2 := bstep c1 dS
    have z2 : (w1.alloc (.cells #[.slice a l.length cap] 28)).heap.size = w1.heap.size + 1 := by simp
    clear q0 x0 q1 q2 dS c1 b1
    generalize w1.alloc (.cells #[.slice a l.length cap] 28) = w2 at qS Q1 Q2 HJ2 c2 z2 ⊢
    refine wpIn_rangeFunc_ownH rfl (by omega) (gf := 71) (lb := #[.pointer (some ⟨w1.heap.size, 0, none⟩)]) rfl trivial (enters_of Tryz.func71 (by kernel_rfl) rfl)
      (back_stops _ (by omega) w1.heap.size w2.heap.size a cap l hn w2 qS.cell HJ2 (by omega) (fun g e => (HMa.out g e).imp (fun h => by omega) id)) keepM_t (fun W l o o' h1 h2 h3 h4 => keepM_b W l o o' h1 h2 h3 h4) (Below.refl _ _) (fun _ => rfl)
      (LkI w w2 now) (LkX w now) (fun pre W W' row hI hg hr => hI.kept (by omega) hg (fun r e => (hr r e).1)) (fun c pre W W' row hX hg hr => hX.kept (B := w2.heap.size) (by omega) hg (fun r e => (hr r e).1))
      ⟨fun y hy => (by cases hy), Nat.le_refl _, fun _ _ => rfl, c2⟩
      (fun x a' W => ∃ B, w2.heap.size ≤ B ∧ W.heap[B]? = some (.cells #[.int .i64 x.2.i, .string (txt x.2.s), .int .i64 x.2.f, .int .i64 x.2.t] 39 (0, 0)) ∧ a' = { tmps := #[.agg #[.slice a l.length cap], .int .i64 now, .pointer (some ⟨w.heap.size, 0, none⟩), .pointer (some ⟨w.heap.size + 1, 0, none⟩), .pointer (some ⟨w.heap.size + 1 + 1, 0, none⟩), .int .i64 x.1, .pointer (some ⟨B, 0, none⟩), .agg #[.slice a l.length cap], .bool true, .bool false, .pointer (some ⟨w.heap.size, 0, none⟩), .slice a l.length cap, .func (.func 71) #[] #[.pointer (some ⟨w1.heap.size, 0, none⟩)], .int .i64 x.1, .agg #[.int .i64 x.2.i, .string (txt x.2.s), .int .i64 x.2.f, .int .i64 x.2.t], undef, undef, undef, undef], defers := [] })
      (fun x a' u W W' row hA hg hr => by
        obtain ⟨B, h1, h2, h3⟩ := hA
        exact ⟨B, h1, (hg.block B (lt_of_block h2) (fun e => by obtain ⟨_, o, ho, hc⟩ := hr B e.symm; rw [h2] at ho; cases ho; cases hc)).trans h2, h3⟩)
      ?assign ?body ?done ?stop
    case assign =>
      intro l' pre x W K hI hK
      unfold V
      have hsz := hI.sz
      gi_wp2
      refine hK _ _ ⟨by simp, fun k o hB hk _ => ?_⟩ (fun b hb => Below.heap_alloc _ _ _ (by omega)) (hI.kept (by omega) (World.grownBy_alloc W _ none) (fun r e => by cases e)) ⟨W.heap.size, by omega, heap_alloc_new W _, rfl⟩
      rw [Below.heap_alloc _ _ _ (lt_of_block hk)]
      exact hk
    case body =>
      rintro l' pre x a' W hl hr hI ⟨B, hB, hk, rfl⟩ hlt
      have hsz := hI.sz
      have u1 : Boxed W (w.heap.size + 1) 3 (.int .i64 now) := (hI.km _ (by omega)).trans Q1
      have u2 : Boxed W (w.heap.size + 1 + 1) 3 (.int .i64 0) := (hI.km _ (by omega)).trans Q2
      have r1 := u1.cell
      obtain ⟨y0, y1, y2, y3⟩ := box4K hk
      have LV := Lib.hid (fun wx => live_call x.2 now wx)
      unfold V at LV
      cases hq : liveB now x.2 with
      | true =>
        rw [hq] at LV
        have HQ := Lib.hid hq
        clear hq
        gi_wp2_with (refine ⟨trivial, ?_⟩; gi_at_call 47; refine (callsIn_wide.2 (LV.out _)).mono ?_; rintro e w4 ⟨rfl, b4⟩; have u4 : Boxed w4 (w.heap.size + 1 + 1) 3 (.int .i64 0) := (b4.block _ (by omega)).trans u2; have r4 := u4.cell; have r5 := u4.frozen)
        refine ⟨⟨by simp; exact b4.size, fun k o hB hk _ => ?_⟩, rfl, ⟨pre, x, rfl, hI.no, HQ.out, Boxed.set _ u4⟩, (bstep hI.below b4).setCell (p := ⟨w.heap.size + 1 + 1, 0, none⟩) (by show w.heap.size ≤ w.heap.size + 1 + 1; omega) _⟩
        rw [Below.heap_setCell _ _ _ _ (by show k ≠ w.heap.size + 1 + 1; omega), b4.block _ (lt_of_block hk)]
        exact hk
      | false =>
        rw [hq] at LV
        have HQ := Lib.hid hq
        clear hq
        gi_wp2_with (refine ⟨trivial, ?_⟩; gi_at_call 47; refine (callsIn_wide.2 (LV.out _)).mono ?_; rintro e w4 ⟨rfl, b4⟩)
        refine ⟨⟨b4.size, fun k o hB hk _ => (b4.block _ (lt_of_block hk)).trans hk⟩, fun b hb => b4.block b (by omega), fun y hy => ?_, Nat.le_trans hsz b4.size, fun b hb => (b4.block b (by omega)).trans (hI.km b hb), bstep hI.below b4⟩
        rcases List.mem_append.1 hy with h1 | h1
        · exact hI.no y h1
        · have : y = x := by simpa using h1
          rw [this]
          exact HQ.out
    case done =>
      rintro D ys W hD rfl hI hK
      have hsz := hI.sz
      have u2 : Boxed W (w.heap.size + 1 + 1) 3 (.int .i64 0) := (hI.km _ (by omega)).trans Q2
      have r4 := u2.cell
      have r5 := u2.frozen
      have HR3 := Lib.hid (show R = -1 by rw [HR2.out]; exact backF_none l now l.length (Nat.le_refl _) hI.no)
      gi_wp2
      have hK9 : (W.setCell ⟨w.heap.size + 1 + 1, 0, none⟩ (.int .i64 (-1))).heap[D]? = some (.deferred (some [])) := by
        rw [Below.heap_setCell _ _ _ _ (by show D ≠ w.heap.size + 1 + 1; omega)]
        exact hK
      have bR := Boxed.set (.int .i64 (-1)) u2
      have hb9 := hI.below.setCell (p := ⟨w.heap.size + 1 + 1, 0, none⟩) (by show w.heap.size ≤ w.heap.size + 1 + 1; omega) (.int .i64 (-1))
      refine ⟨by simp, .inl ⟨_, _, rfl, run_takeDeferred hK9, ?_⟩⟩
      exact ⟨_, results_cell1 rfl _ _ _ _ rfl (run_loadVar_boxed1 ((World.putObj_heap_other (by omega)).trans bR) Tryz.underlying3 rfl), ret_int HR3.out.symm, hb9.trans (belowK_b (w := w) (Nat.le_refl _) _ D _ _ (by omega) hK9 rfl rfl)⟩
    case stop =>
      rintro D c pre W hD hpre hX hK
      obtain rfl := hX.ret
      obtain ⟨q, x, rfl, hq1, hq2, hq3⟩ := hX.hit
      have HR3 := Lib.hid (show R = x.1 by rw [HR2.out]; exact backF_hit l now l.length (Nat.le_refl _) q x hpre hq1 hq2)
      gi_wp2
      refine ⟨by simp, .inl ⟨_, _, rfl, run_takeDeferred hK, ?_⟩⟩
      exact ⟨_, results_cell1 rfl _ _ _ _ rfl (run_loadVar_boxed1 ((World.putObj_heap_other (by omega)).trans hq3) Tryz.underlying3 rfl), ret_int HR3.out.symm, hX.below.trans (belowK_b (w := w) (Nat.le_refl _) W D _ _ (by omega) hK rfl rfl)⟩

end Ky
end Go.Proofs.YtonpalaopnfffaaGreatDoor
