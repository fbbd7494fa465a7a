/- CONTRACTS: the program's slices.Clone over cookies, keepValid, Keep: holders of places in a map. -/
import Derived.Test.YtdgfiebehnfpgaaGreatDoorCkJK
namespace Go.Proofs.YtdgfiebehnfpgaaGreatDoor
set_option linter.unusedVariables false
set_option maxRecDepth 4000
open Go.ChangeShapes Go.WideShapes Go.ChangeAt Go.RowKit
open Go.ChangeMaps (open_string shut_string)
open Go.Maps Go.WideMaps

namespace Ck
open Ht

set_option maxHeartbeats 800000 in
theorem clone_call (v : Value) (l : List CkL) (w : World) (h : JSrc w v l) (hn : l.length ≤ 2097152) :
    Calls Tryz.prog 62 #[v] w fun e w' => ∃ v', e = .returned v' ∧ w'.ownsRow w.heap.size 87 6 v' l.length (l.flatMap cc6) ∧ Below w.heap.size w w' := by
  obtain ⟨i0, hi, hz0, hz1, hz2⟩ := info_parts info_cookie
  have qT : ∀ (w : World) (a : Option Addr) (n c n' c' : Nat), (binOp .eql 40 (.slice a n c) (.slice none n' c')).run Tryz.prog w = .ok (.bool a.isNone) w := fun w a n c n' c' => Lib.run_eql_slice_nil w _ _ a n c n' c' Tryz.underlying40
  have HO := Lib.hid h
  rcases h with ⟨rfl, rfl⟩ | ⟨g, off, cap, rfl, hg, _⟩
  · go_enter Tryz.func62, Tryz.ntmps62
    go_wp2
    go_ret
    exact ⟨_, rfl, ⟨rfl, .inl ⟨rfl, rfl⟩⟩, Below.refl _ _⟩
  · go_enter Tryz.func62, Tryz.ntmps62
    go_wp2_with (at_builtin; refine wpList_append_src rfl _ _ rfl w.heap.size _ 0 [] rfl (World.ownsRow_made w #[] 0 (Nat.le_refl _) (by simp) rfl) _ l rfl (HO.out.below ((Below.refl w.heap.size w).alloc (Nat.le_refl _) _)) (by omega) (by omega) (by simp) ?_; intro v' w1 hown1 hgr)
    go_ret
    exact ⟨_, rfl, by simpa using hown1, ((Below.refl _ w).alloc (Nat.le_refl _) _).grown hgr (by simp) (fun j e => by cases e; exact Nat.le_refl _)⟩

/-- how a number in a map reads -/
def iR : Value → Option (DataW Unit × List MemPlace)
  | .int .i64 n => some (.lit (.int .i64 n), [])
  | _ => none

theorem iR_inv {v : Value} {n : Int} {ps : List MemPlace} (h : iR v = some (.lit (.int .i64 n), ps)) : v = .int .i64 n := by
  unfold iR at h
  split at h
  · simp only [Option.some.injEq, Prod.mk.injEq, DataW.lit.injEq, Lit.int.injEq, true_and] at h
    rw [h.1]
  · cases h

/-- a map that tells who holds a place behind the first k -/
def HKD (now : Int) (L : List CkL) (D : DataW Unit) (k : Nat) : Prop := IsMap D ∧ ∀ s, smallS s → has D (klS s) = (holdN now L k s).isSome ∧ ∀ i, holdN now L k s = some i → ∀ z, D.atKey (klS s) z = .lit (.int .i64 (i : Int))

theorem hkd_start (now : Int) (L : List CkL) : HKD now L (.map []) 0 := ⟨isMap_empty, fun s _ => ⟨rfl, fun i h => by cases h⟩⟩

theorem hkd_put {now : Int} {L : List CkL} {D : DataW Unit} {k : Nat} (h : HKD now L D k) (hk : k < L.length) (hs : smallS (slotL L[k])) (hl : liveC now L[k] = true) : HKD now L (D.put (klS (slotL L[k])) (.lit (.int .i64 (k : Int)))) (k + 1) := by
  refine ⟨h.1.put _ _, fun s hs2 => ?_⟩
  rw [hold_snoc now L k hk, hl]
  by_cases e : s = slotL L[k]
  · rw [e, if_pos rfl]
    refine ⟨has_put_same h.1 (klS_key _) _, fun i hi z => ?_⟩
    simp only [if_true, Option.some.injEq] at hi
    rw [atKey_put_same h.1 (klS_key _), hi]
  · have hne : klS s ≠ klS (slotL L[k]) := fun he => e (slot_inj hs2 hs he)
    rw [if_neg e, has_put_other hne]
    refine ⟨(h.2 s hs2).1, fun i hi z => ?_⟩
    rw [atKey_put_other hne]
    exact (h.2 s hs2).2 i hi z

theorem hkd_del {now : Int} {L : List CkL} {D : DataW Unit} {k : Nat} (h : HKD now L D k) (hk : k < L.length) (hs : smallS (slotL L[k])) (hl : liveC now L[k] = false) : HKD now L (D.del (klS (slotL L[k]))) (k + 1) := by
  refine ⟨h.1.del _, fun s hs2 => ?_⟩
  rw [hold_snoc now L k hk, hl]
  by_cases e : s = slotL L[k]
  · rw [e, if_pos rfl]
    refine ⟨by rw [has_del_same]; rfl, fun i hi z => ?_⟩
    simp at hi
  · have hne : klS s ≠ klS (slotL L[k]) := fun he => e (slot_inj hs2 hs he)
    rw [if_neg e, has_del_other hne]
    refine ⟨(h.2 s hs2).1, fun i hi z => ?_⟩
    rw [atKey_del_other hne]
    exact (h.2 s hs2).2 i hi z

theorem look_hold {W : World} {B n : Nat} {D : DataW Unit} {now : Int} {L : List CkL} {k : Nat} (ho : W.ownsMap Tryz.prog 122 iR B n D) (hD : HKD now L D k) (s : Slot) (hs : smallS s) :
    ∃ x : Int, (∀ i, holdN now L k s = some i → x = (i : Int)) ∧ (Instr.lookup 129 (.map (some B)) (slotV s) true).run Tryz.prog W = .ok (.tuple #[.int .i64 x, .bool (holdN now L k s).isSome]) W := by
  obtain ⟨v, ps, hr, hv⟩ := ho.look_ok keySlot Tryz.underlying129 (z := .int .i64 0) (by kernel_rfl) (zd := .lit (.int .i64 0)) (zp := []) rfl (slot_key s hs)
  rw [(hD.2 s hs).1] at hr
  cases hh : holdN now L k s with
  | none =>
    have hn : has D (klS s) = false := by rw [(hD.2 s hs).1, hh]; rfl
    rw [atKey_of_not_has hn] at hv
    rw [iR_inv hv, hh] at hr
    refine ⟨0, ?_, hr⟩
    intro i hi
    cases hi
  | some i =>
    rw [(hD.2 s hs).2 i hh] at hv
    rw [iR_inv hv, hh] at hr
    exact ⟨(i : Int), fun j hj => by injection hj with hj; rw [hj], hr⟩

theorem makeMap_k (w : World) : (Instr.makeMap 129 none).run Tryz.prog w = .ok (.map (some w.heap.size)) (w.alloc (.map #[] 0)) := by
  simp [Instr.makeMap, go_sem, Result.andThen]

/-- what holds inside keepValid's first region -/
def RK (w : World) (v : Value) (l : List CkL) (c : CkL) (t0 : Nat → Value) (b : Nat → Bool) (t : Nat → Value) (w' : World) : Prop :=
  Below (w.heap.size + 1) (w.alloc (.cells #[.string (txt c.n), .string (txt c.v), .string (txt c.d), .bool c.o, .string (txt c.p), .int .i64 c.u] 87)) w' ∧ (∀ k, k ≠ 7 → k ≠ 16 → k ≠ 17 → k ≠ 18 → k ≠ 19 → k ≠ 20 → t k = t0 k) ∧
  (b 0 = true → t 16 = v) ∧ (b 2 = true → t 18 = .agg #[.string (txt c.n), .string (txt c.v), .string (txt c.d), .bool c.o, .string (txt c.p), .int .i64 c.u]) ∧
  (b 1 = true → b 4 = false → w'.ownsRow (w.heap.size + 1) 87 6 (t 17) l.length (l.flatMap cc6)) ∧
  (b 3 = true → b 4 = false → ∃ B, t 19 = .slice (some ⟨B, 0, none⟩) 1 1 ∧ w'.heap[B]? = some (.cells #[.string (txt c.n), .string (txt c.v), .string (txt c.d), .bool c.o, .string (txt c.p), .int .i64 c.u] 87 (0, 0)) ∧ (∀ j, (t 17).ownBlock = some j → b 1 = true → j ≠ B)) ∧
  (b 4 = true → w'.ownsRow (w.heap.size + 1) 87 6 (t 20) (l.length + 1) ((l ++ [c]).flatMap cc6)) ∧
  (b 5 = true → t 7 = t 20) ∧ (b 4 = true → b 1 = true ∧ b 3 = true) ∧ (b 5 = true → b 4 = true)

set_option maxRecDepth 100000 in
set_option maxHeartbeats 12800000 in
theorem keepValid_call (v : Value) (l : List CkL) (c : CkL) (now : Int) (w : World) (h : JSrc w v l) (hn : l.length ≤ 40) (hS : ∀ x ∈ l, CkS x) (hc : CkS c) (hnd : (l.map slotL).Nodup) :
    Calls Tryz.prog 65 #[v, ckV c, .int .i64 now] w fun e w' => ∃ v', e = .returned v' ∧ OwnC w' w.heap.size v' (keepV l c now) ∧ Below w.heap.size w w' := by
  obtain ⟨i0, hI, hz0, hz1, hz2⟩ := info_parts info_cookie
  have ba := Lib.hid ((Below.refl w.heap.size w).alloc (Nat.le_refl _) (.cells #[.string (txt c.n), .string (txt c.v), .string (txt c.d), .bool c.o, .string (txt c.p), .int .i64 c.u] 87))
  have g0 := Lib.hid (heap_alloc_new w (.cells #[.string (txt c.n), .string (txt c.v), .string (txt c.d), .bool c.o, .string (txt c.p), .int .i64 c.u] 87))
  have sa := Lib.hid (show (w.alloc (.cells #[.string (txt c.n), .string (txt c.v), .string (txt c.d), .bool c.o, .string (txt c.p), .int .i64 c.u] 87)).heap.size = w.heap.size + 1 by simp)
  have HJ := Lib.hid (h.below ((Below.refl w.heap.size w).alloc (Nat.le_refl _) (.cells #[.string (txt c.n), .string (txt c.v), .string (txt c.d), .bool c.o, .string (txt c.p), .int .i64 c.u] 87)))
  have HSL := Lib.hid (show ∀ x ∈ l ++ [c], CkS x from fun x hx => by
    rcases List.mem_append.1 hx with h1 | h1
    · exact hS x h1
    · have : x = c := by simpa using h1
      exact this ▸ hc)
  have HKA := Lib.hid (kept_all now l c hnd)
  have HKV := Lib.hid (show keepV l c now = (keepRaw l c now).drop ((keepRaw l c now).length - 40) from rfl)
  have hraw := raw_len l c now
  generalize keepV l c now = KV at HKV ⊢
  generalize keepRaw l c now = RW at HKA HKV hraw
  have hv : ∃ a cap, v = .slice a l.length cap := by
    obtain ⟨a, cap, rfl, _⟩ := h.at
    exact ⟨a, cap, rfl⟩
  obtain ⟨a0, cap0, rfl⟩ := hv
  clear h hS hc hnd
  unfold ckV
  go_enter Tryz.func65, Tryz.ntmps65
  go_wp2
  refine Inv.region_jj 6 71 (RK w (.slice a0 l.length cap0) l c _) (by kernel_rfl) rfl (by kernel_rfl) ⟨by simp, rfl⟩ ⟨by rw [← sa.out]; exact (Below.refl _ _).drew, fun k _ _ _ _ _ _ => rfl, ?_, ?_, ?_, ?_, ?_, ?_, ?_, ?_⟩ ?_ ?_
  iterate 8 (intro h; cases h)
  · intro a b t W hS ht i hi hb hafter K SP SK
    have HS := Lib.hid hS
    have HT := Lib.hid ht
    obtain ⟨hbel, hfr, h16, h18, h17, h19, h20, h7, h4b, h54⟩ := hS
    clear ht
    have hbs := hbel.size
    rw [sa.out] at hbs
    match i, hi, hb, hafter with
    | 0, _, hb, ha0 =>
      clear ha0
      refine Inv.wpOp_at rfl rfl ?_
      have f0 := (HT.out 0).trans (hfr 0 (by decide) (by decide) (by decide) (by decide) (by decide) (by decide))
      clear hbel hfr h16 h18 h17 h19 h20 h7 h4b h54
      go_simp
      refine SP _ _ _ (by omega) ?_
      obtain ⟨hbel, hfr, h16, h18, h17, h19, h20, h7, h4b, h54⟩ := HS.out
      exact ⟨hbel, fun k q1 q2 q3 q4 q5 q6 => by unfold Inv.upd; rw [if_neg q2]; exact hfr k q1 q2 q3 q4 q5 q6, fun _ => rfl, h18, h17, h19, h20, h7, h4b, h54⟩
    | 1, _, hb, ha0 =>
      have ha := ha0 _ rfl
      clear ha0
      refine Inv.wpOp_at rfl rfl ?_
      simp [Region.binds] at ha
      have f16 := (HT.out 16).trans (h16 ha)
      clear hfr h16 h18 h17 h19 h20 h7 h4b h54
      have hj : JSrc W (.slice a0 l.length cap0) l := HJ.out.below (by rw [sa.out]; exact hbel)
      go_simp
      refine (clone_call _ l W hj (by omega)).mono ?_
      rintro e w4 ⟨v1, rfl, ho1, hb4⟩
      refine SP _ _ _ (by omega) ?_
      obtain ⟨hbel, hfr, h16, h18, h17, h19, h20, h7, h4b, h54⟩ := HS.out
      have h40 : b 4 = false := by
        cases h : b 4 with
        | false => rfl
        | true => rw [(h4b h).1] at hb; cases hb
      refine ⟨hbel.trans (hb4.mono hbs), fun k q1 q2 q3 q4 q5 q6 => by unfold Inv.upd; rw [if_neg q3]; exact hfr k q1 q2 q3 q4 q5 q6, h16, h18, fun _ _ => Grid.own_lower ho1 hbs, fun h3 h4 => ?_, fun h4 => ?_, h7, fun h4 => ?_, h54⟩
      · obtain ⟨B, e1, e2, e3⟩ := h19 h3 h4
        have hBl := lt_of_block e2
        exact ⟨B, e1, (hb4.block B hBl).trans e2, fun j hj _ => by have := (ho1.lt j hj).1; omega⟩
      · have h4' : b 4 = true := h4
        rw [h40] at h4'
        cases h4'
      · have h4' : b 4 = true := h4
        rw [h40] at h4'
        cases h4'
    | 2, _, hb, ha0 =>
      clear ha0
      refine Inv.wpOp_at rfl rfl ?_
      have f4 := (HT.out 4).trans (hfr 4 (by decide) (by decide) (by decide) (by decide) (by decide) (by decide))
      have kw := (hbel.block w.heap.size (by omega)).trans g0.out
      obtain ⟨x0, x1, x2, x3, x4, x5, _⟩ := box6 kw
      clear hbel hfr h16 h18 h17 h19 h20 h7 h4b h54 kw
      go_simp
      refine SP _ _ _ (by omega) ?_
      obtain ⟨hbel, hfr, h16, h18, h17, h19, h20, h7, h4b, h54⟩ := HS.out
      exact ⟨hbel, fun k q1 q2 q3 q4 q5 q6 => by unfold Inv.upd; rw [if_neg q4]; exact hfr k q1 q2 q3 q4 q5 q6, h16, fun _ => rfl, h17, h19, h20, h7, h4b, h54⟩
    | 3, _, hb, ha0 =>
      have ha := ha0 _ rfl
      clear ha0
      refine Inv.wpOp_at rfl rfl ?_
      simp [Region.binds] at ha
      have f18 := (HT.out 18).trans (h18 ha)
      clear hbel hfr h16 h18 h17 h19 h20 h7 h4b h54
      go_simp
      refine SP _ _ _ (by omega) ?_
      obtain ⟨hbel, hfr, h16, h18, h17, h19, h20, h7, h4b, h54⟩ := HS.out
      have h40 : b 4 = false := by
        cases h : b 4 with
        | false => rfl
        | true => rw [(h4b h).2] at hb; cases hb
      have dB := (Below.refl W.heap.size W).alloc (Nat.le_refl _) (.cells #[.string (txt c.n), .string (txt c.v), .string (txt c.d), .bool c.o, .string (txt c.p), .int .i64 c.u] 87)
      refine ⟨hbel.trans (dB.mono hbs), fun k q1 q2 q3 q4 q5 q6 => by unfold Inv.upd; rw [if_neg q5]; exact hfr k q1 q2 q3 q4 q5 q6, h16, h18, fun h1 h4 => ownsRow_below (h17 h1 h4) dB, fun _ _ => ⟨W.heap.size, rfl, heap_alloc_new W _, fun j hj h1 => by have := ((h17 h1 h40).lt j hj).2; omega⟩, fun h4 => ?_, h7, fun h4 => ?_, h54⟩
      · have h4' : b 4 = true := h4
        rw [h40] at h4'
        cases h4'
      · have h4' : b 4 = true := h4
        rw [h40] at h4'
        cases h4'
    | 4, _, hb, ha0 =>
      have ha := ha0 _ rfl
      clear ha0
      refine Inv.wpOp_at rfl rfl ?_
      simp [Region.binds] at ha
      have hb1 : b 1 = true := by simp_all
      have hb3 : b 3 = true := by simp_all
      obtain ⟨B, e1, e2, e3⟩ := h19 hb3 hb
      have f17 := HT.out 17
      have f19 := (HT.out 19).trans e1
      have ho := h17 hb1 hb
      refine wp_append_lies W _ _ _ rfl (w.heap.size + 1) 87 i0 _ 6 80 Tryz.underlying40 hI hz0 hz1 hz2 rfl (by omega) (t 17) l.length _ (by simpa [Act.eval] using f17) ho ⟨B, 0, none⟩ 1 1 [.string (txt c.n), .string (txt c.v), .string (txt c.d), .bool c.o, .string (txt c.p), .int .i64 c.u] (by simpa [Act.eval] using f19) rfl (World.news_of_block (cs := #[.string (txt c.n), .string (txt c.v), .string (txt c.d), .bool c.o, .string (txt c.p), .int .i64 c.u]) (t := 87) (fr := (0, 0)) e2) (by simp [Value.oneCell']) (by omega) (by unfold maxLen; omega) (by omega) hbs W.heap.size rfl ?_
      intro gg cap5 w5 hown5 hgrow hat hlt2
      refine SP _ _ _ (by omega) ?_
      refine ⟨hbel.grown hgrow hbs (fun j e => (ho.lt j e).1), fun k q1 q2 q3 q4 q5 q6 => by unfold Inv.upd; rw [if_neg q6]; exact hfr k q1 q2 q3 q4 q5 q6, h16, h18, ?_, ?_, fun _ => by rw [← flat_snoc]; exact hown5, ?_, fun _ => ⟨hb1, hb3⟩, fun _ => rfl⟩
      · intro _ h4
        exact absurd (show true = false from h4) (by decide)
      · intro _ h4
        exact absurd (show true = false from h4) (by decide)
      · intro h5
        have h6 := h54 h5
        rw [hb] at h6
        cases h6
    | 5, _, hb, ha0 =>
      have ha := ha0 _ rfl
      clear ha0
      refine Inv.wpOp_at rfl rfl ?_
      simp [Region.binds] at ha
      have hb4 : b 4 = true := by simp_all
      have HB4 := Lib.hid hb4
      have f20 := HT.out 20
      clear hbel hfr h16 h18 h17 h19 h20 h7 h4b h54 ha hb4
      go_simp
      refine SP _ _ _ (by omega) ?_
      obtain ⟨hbel, hfr, h16, h18, h17, h19, h20, h7, h4b, h54⟩ := HS.out
      exact ⟨hbel, fun k q1 q2 q3 q4 q5 q6 => by unfold Inv.upd; rw [if_neg q1]; exact hfr k q1 q2 q3 q4 q5 q6, h16, h18, h17, h19, h20, fun _ => rfl, h4b, fun _ => HB4.out⟩
  · intro a t W b hS hall ht hsz hdf
    obtain ⟨hbel, hfr, h16, h18, h17, h19, h20, h7, h4b, h54⟩ := hS
    have o20 := h20 (hall 4 (by omega))
    have hLl : (l ++ [c]).length = l.length + 1 := by simp
    rw [← hLl] at o20
    generalize hL : l ++ [c] = L at o20 HSL HKA hLl
    have HLN := Lib.hid hLl
    clear hL
    have e7 := h7 (hall 5 (by omega))
    have e16 := h16 (hall 0 (by omega))
    have e18 := h18 (hall 2 (by omega))
    obtain ⟨a2, cap2, e20⟩ := Grid.own_val o20
    rw [e20] at o20 e7
    have ea := Inv.act_lit hsz hdf (fun k _ => ht k)
    rw [ea]
    simp only [List.range, List.range.loop, List.map_cons, List.map_nil]
    simp only [e7, e16, e18, e20]
    simp [hfr]
    generalize t 17 = u17
    generalize t 19 = u19
    have hWs := hbel.size
    rw [sa.out] at hWs
    have HWB := Lib.hid (Below.trans ba.out (hbel.mono (Nat.le_succ _)))
    have O2 := Lib.hid o20
    clear hbel hfr h16 h18 h17 h19 h20 h7 h4b h54 o20 e7 e16 e18 e20 ea ht hsz hdf hall
    have hmk := makeMap_k
    have hL40 : L.length ≤ 41 := by omega
    clear hLl
    have DM := (Below.refl W.heap.size W).alloc (Nat.le_refl _) (.map #[] 0)
    have O3 := Lib.hid (ownsRow_below O2.out DM)
    have HWM := Lib.hid (HWB.out.trans (DM.mono HWB.out.size))
    have HMS := Lib.hid DM.size
    clear DM
    go_wp2
    go_loopw [24] (fun i wr => ∃ (k n : Nat) (D : DataW Unit), k ≤ L.length ∧ i = .int .i64 k ∧ Hid (wr.ownsRow (w.heap.size + 1) 87 6 (.slice a2 L.length cap2) L.length (L.flatMap cc6)) ∧ wr.ownsMap Tryz.prog 122 iR W.heap.size n D ∧ n ≤ k ∧ Hid (HKD now L D k) ∧ Below w.heap.size w wr ∧ W.heap.size < wr.heap.size) (fun i _ => L.length - (intOf i).toNat)
    case atStart => exact ⟨0, 0, _, by omega, rfl, O3, World.ownsMap_made _ _ _ _, by omega, Lib.hid (hkd_start now L), HWM.out, by simp⟩
    case round =>
      clear hmk
      obtain ⟨k, n, D, hk, rfl, hrow, hown, hnk, hD, hbel, hbz⟩ := hrel
      have hbs := hbel.size
      by_cases hlt : k < L.length
      · have HRL := Lib.hid (show ∀ j, (Value.slice a2 L.length cap2).ownBlock = some j → j < W.heap.size from fun j e => (O2.out.lt j e).2)
        obtain ⟨g, rfl, hg1, hg2⟩ := Grid.own_at hrow.out (by omega)
        have hcl := fun j hj => Grid.own_cell cc6_len hrow.out k hlt rfl j hj
        have c0 : wr.cell? ⟨g, k * 6, none⟩ = some (.string (txt L[k].n)) := hcl 0 (by omega)
        have c1 : wr.cell? ⟨g, k * 6 + 1, none⟩ = some (.string (txt L[k].v)) := hcl 1 (by omega)
        have c2 : wr.cell? ⟨g, k * 6 + 2, none⟩ = some (.string (txt L[k].d)) := hcl 2 (by omega)
        have c3 : wr.cell? ⟨g, k * 6 + 3, none⟩ = some (.bool L[k].o) := hcl 3 (by omega)
        have c4 : wr.cell? ⟨g, k * 6 + 4, none⟩ = some (.string (txt L[k].p)) := hcl 4 (by omega)
        have c5 : wr.cell? ⟨g, k * 6 + 5, none⟩ = some (.int .i64 L[k].u) := hcl 5 (by omega)
        clear hcl
        have hi0 : (0 : Int) ≤ (k : Int) := by omega
        have hi1 : (k : Int) < (L.length : Int) := by omega
        have hSk := HSL.out L[k] (List.getElem_mem hlt)
        have HPUT := Lib.hid (fun hl => hkd_put hD.out hlt (small_slot hSk) hl)
        have HDEL := Lib.hid (fun hl => hkd_del hD.out hlt (small_slot hSk) hl)
        generalize L[k] = x at c0 c1 c2 c3 c4 c5 hSk HPUT HDEL
        have EX := Lib.hid (fun wx => expired_call x now wx)
        have SO := Lib.hid (fun wx => slotOf_call x wx)
        have hsm := Lib.hid (small_slot hSk)
        have BX := Lib.hid (heap_alloc_new wr (.cells #[.string (txt x.n), .string (txt x.v), .string (txt x.d), .bool x.o, .string (txt x.p), .int .i64 x.u] 87))
        have BB := Lib.hid (hbel.alloc hbs (.cells #[.string (txt x.n), .string (txt x.v), .string (txt x.d), .bool x.o, .string (txt x.p), .int .i64 x.u] 87))
        have OM := Lib.hid (hown.alloc (.cells #[.string (txt x.n), .string (txt x.v), .string (txt x.d), .bool x.o, .string (txt x.p), .int .i64 x.u] 87))
        have RB := Lib.hid (ownsRow_below hrow.out ((Below.refl wr.heap.size wr).alloc (Nat.le_refl _) (.cells #[.string (txt x.n), .string (txt x.v), .string (txt x.d), .bool x.o, .string (txt x.p), .int .i64 x.u] 87)))
        unfold ckV at EX SO
        generalize liveC now x = lv at EX HPUT HDEL
        clear hSk hown hrow hD
        go_wp2_with fail
        refine (EX.out _).mono ?_
        rintro e w1 ⟨rfl, hb1⟩
        have s1 := hb1.size
        have hq1 : wr.heap.size < w1.heap.size := Nat.lt_of_lt_of_le (by simp) s1
        have k1 := (hb1.block wr.heap.size (by simp)).trans BX.out
        have M1 := Lib.hid (OM.out.kept (grown_below hb1 none) (by simp))
        have R1 := Lib.hid (ownsRow_below RB.out hb1)
        have B1 := Lib.hid (bstep BB.out hb1)
        obtain ⟨x0, x1, x2, x3, x4, x5, _⟩ := box6 k1
        clear k1 hb1 c0 c1 c2 c3 c4 c5
        cases lv with
        | false =>
          have HD2 := Lib.hid (HDEL.out rfl)
          go_wp2_with fail
          refine (SO.out _).mono ?_
          rintro e w2 ⟨rfl, hb2⟩
          have s2 := hb2.size
          have M2 := M1.out.kept (grown_below hb2 none) (by simp)
          have R2 := Lib.hid (ownsRow_below R1.out hb2)
          have B2 := bstep B1.out hb2
          clear x0 x1 x2 x3 x4 x5 hb2
          go_wp2_with (at_delete; refine wpList_delete_own _ rfl _ _ 129 122 rfl 3 keySlot Tryz.underlying129 iR W.heap.size n D rfl M2 _ _ rfl (slot_key (slotL x) hsm.out) ?_; intro w4 hown4 hturn4)
          have hgrow4 := hturn4.grown
          have s4 := hgrow4.size
          go_roundw
          case rel => exact ⟨k + 1, n, _, by omega, by go_num, Lib.hid (Grid.own_other R2.out (fun j e e2 => by have := HRL.out j e; simp only [Option.some.injEq] at e2; omega) hgrow4), hown4, by omega, HD2, B2.grown hgrow4 B2.size (fun j hj => by cases hj; omega), by omega⟩
          case measure => simp [intOf]; omega
        | true =>
          have HD2 := Lib.hid (HPUT.out rfl)
          go_wp2_with fail
          refine (SO.out _).mono ?_
          rintro e w2 ⟨rfl, hb2⟩
          have s2 := hb2.size
          have M2 := M1.out.kept (grown_below hb2 none) (by simp)
          have R2 := Lib.hid (ownsRow_below R1.out hb2)
          have B2 := bstep B1.out hb2
          clear x0 x1 x2 x3 x4 x5 hb2
          go_wp2_with (at_mapUpdate; refine wpList_mapUpdate_own _ rfl _ _ _ 129 rfl 122 3 keySlot Tryz.underlying129 iR W.heap.size n D rfl M2 (by unfold maxLen; omega) _ _ _ rfl rfl (slot_key (slotL x) hsm.out) (.lit (.int .i64 (k : Int))) [] rfl ?_; intro w4 hown4 hgrow4)
          have s4 := hgrow4.size
          go_roundw
          case rel => exact ⟨k + 1, n + 1, _, by omega, by go_num, Lib.hid (Grid.own_other R2.out (fun j e e2 => by have := HRL.out j e; simp only [Option.some.injEq] at e2; omega) hgrow4), hown4, by omega, HD2, B2.grown hgrow4 B2.size (fun j hj => by cases hj; omega), by omega⟩
          case measure => simp [intOf]; omega
      · have hkl : k = L.length := by omega
        have HD2 := Lib.hid (show HKD now L D L.length by rw [← hkl]; exact hD.out)
        have HM := Lib.hid hown
        clear hkl hown hD
        go_wp2
        go_loopw [11, 42] (fun o i wr2 => ∃ (j : Nat) (acc : List CkL), j ≤ L.length ∧ i = .int .i64 j ∧ Hid (acc = keptN now L j) ∧ acc.length ≤ j ∧ wr2.ownsRow (W.heap.size + 1) 87 6 o acc.length (acc.flatMap cc6) ∧ Hid (wr2.ownsRow (w.heap.size + 1) 87 6 (.slice a2 L.length cap2) L.length (L.flatMap cc6)) ∧ Hid (wr2.ownsMap Tryz.prog 122 iR W.heap.size n D) ∧ Below w.heap.size w wr2 ∧ W.heap.size < wr2.heap.size) (fun _ i _ => L.length - (intOf i).toNat)
        case atStart => exact ⟨0, [], by omega, rfl, Lib.hid rfl, by simp, World.ownsRow_nil _ _ _ _, hrow, HM, hbel, hbz⟩
        case round =>
          clear hrow HM
          obtain ⟨j, acc, hj, rfl, hacc, hal, hout, hrow2, hM2, hbel2, hbz2⟩ := hrel
          have hbs2 := hbel2.size
          by_cases hlt2 : j < L.length
          · have HRL := Lib.hid (show ∀ j, (Value.slice a2 L.length cap2).ownBlock = some j → j < W.heap.size from fun j e => (O2.out.lt j e).2)
            obtain ⟨g, rfl, hg1, hg2⟩ := Grid.own_at hrow2.out (by omega)
            have hcl := fun jq hjq => Grid.own_cell cc6_len hrow2.out j hlt2 rfl jq hjq
            have c0 : wr.cell? ⟨g, j * 6, none⟩ = some (.string (txt L[j].n)) := hcl 0 (by omega)
            have c1 : wr.cell? ⟨g, j * 6 + 1, none⟩ = some (.string (txt L[j].v)) := hcl 1 (by omega)
            have c2 : wr.cell? ⟨g, j * 6 + 2, none⟩ = some (.string (txt L[j].d)) := hcl 2 (by omega)
            have c3 : wr.cell? ⟨g, j * 6 + 3, none⟩ = some (.bool L[j].o) := hcl 3 (by omega)
            have c4 : wr.cell? ⟨g, j * 6 + 4, none⟩ = some (.string (txt L[j].p)) := hcl 4 (by omega)
            have c5 : wr.cell? ⟨g, j * 6 + 5, none⟩ = some (.int .i64 L[j].u) := hcl 5 (by omega)
            clear hcl
            have hi0 : (0 : Int) ≤ (j : Int) := by omega
            have hi1 : (j : Int) < (L.length : Int) := by omega
            have hSk := HSL.out L[j] (List.getElem_mem hlt2)
            have HKS := Lib.hid (kept_snoc now L j hlt2)
            generalize L[j] = x at c0 c1 c2 c3 c4 c5 hSk HKS
            rw [← hacc.out] at HKS
            have SO := Lib.hid (fun wx => slotOf_call x wx)
            have hsm := Lib.hid (small_slot hSk)
            obtain ⟨a9, cap9, rfl⟩ := Grid.own_val hout
            have BX := Lib.hid (heap_alloc_new wr (.cells #[.string (txt x.n), .string (txt x.v), .string (txt x.d), .bool x.o, .string (txt x.p), .int .i64 x.u] 87))
            have BB := Lib.hid (hbel2.alloc hbs2 (.cells #[.string (txt x.n), .string (txt x.v), .string (txt x.d), .bool x.o, .string (txt x.p), .int .i64 x.u] 87))
            have OM := Lib.hid (hM2.out.alloc (.cells #[.string (txt x.n), .string (txt x.v), .string (txt x.d), .bool x.o, .string (txt x.p), .int .i64 x.u] 87))
            have RB := Lib.hid (ownsRow_below hrow2.out ((Below.refl wr.heap.size wr).alloc (Nat.le_refl _) (.cells #[.string (txt x.n), .string (txt x.v), .string (txt x.d), .bool x.o, .string (txt x.p), .int .i64 x.u] 87)))
            have OB := Lib.hid (ownsRow_below hout ((Below.refl wr.heap.size wr).alloc (Nat.le_refl _) (.cells #[.string (txt x.n), .string (txt x.v), .string (txt x.d), .bool x.o, .string (txt x.p), .int .i64 x.u] 87)))
            unfold ckV at SO
            clear hSk hM2 hrow2 hout hacc
            go_wp2_with fail
            refine (SO.out _).mono ?_
            rintro e w1 ⟨rfl, hb1⟩
            have s1 := hb1.size
            have hq1 : wr.heap.size < w1.heap.size := Nat.lt_of_lt_of_le (by simp) s1
            have k1 := (hb1.block wr.heap.size (by simp)).trans BX.out
            have M1 := OM.out.kept (grown_below hb1 none) (by simp)
            have R1 := Lib.hid (ownsRow_below RB.out hb1)
            have O1 := Lib.hid (ownsRow_below OB.out hb1)
            have B1 := Lib.hid (bstep BB.out hb1)
            obtain ⟨y, hy, hlk⟩ := look_hold M1 HD2.out (slotL x) hsm.out
            have M1 := Lib.hid M1
            obtain ⟨x0, x1, x2, x3, x4, x5, _⟩ := box6 k1
            clear k1 hb1 c0 c1 c2 c3 c4 c5
            generalize holdN now L L.length (slotL x) = q at HKS hy hlk
            cases q with
            | none =>
              have HA := Lib.hid (show acc = keptN now L (j + 1) by rw [HKS.out]; simp)
              have hlk2 : (Instr.lookup 129 (.map (some W.heap.size)) (slotV (slotL x)) true).run Tryz.prog w1 = .ok (.tuple #[.int .i64 y, .bool false]) w1 := hlk
              clear hlk hy
              go_wp2
              go_roundw
              case rel => exact ⟨j + 1, acc, by omega, by go_num, HA, by omega, O1.out, R1, M1, B1.out, by omega⟩
              case measure => simp [intOf]; omega
            | some h =>
              have hyh := hy h rfl
              have hlk2 : (Instr.lookup 129 (.map (some W.heap.size)) (slotV (slotL x)) true).run Tryz.prog w1 = .ok (.tuple #[.int .i64 y, .bool true]) w1 := hlk
              clear hlk hy
              by_cases e : h = j
              · have HA := Lib.hid (show acc ++ [x] = keptN now L (j + 1) by rw [HKS.out, e, if_pos rfl])
                have hyj : y = (j : Int) := by omega
                clear hyh e
                subst hyj
                go_wp2_with (at_builtin; refine wpList_append_lies _ rfl _ _ _ rfl (W.heap.size + 1) 87 i0 _ 6 80 Tryz.underlying40 hI hz0 hz1 hz2 rfl (by omega) _ acc.length _ rfl (O1.out.alloc _) ⟨w1.heap.size, 0, none⟩ 1 1 [.string (txt x.n), .string (txt x.v), .string (txt x.d), .bool x.o, .string (txt x.p), .int .i64 x.u] rfl rfl (World.news_of_block (cs := #[.string (txt x.n), .string (txt x.v), .string (txt x.d), .bool x.o, .string (txt x.p), .int .i64 x.u]) (t := 87) (fr := (0, 0)) (heap_alloc_new w1 _)) (by simp [Value.oneCell']) (by omega) (by unfold maxLen; omega) (by omega) (by simp; omega) (w1.heap.size + 1) (by simp) ?_; intro gg cap5 w5 hown5 hgrow hat hlt5)
                have dA := (Below.refl w1.heap.size w1).alloc (Nat.le_refl _) (.cells #[.string (txt x.n), .string (txt x.v), .string (txt x.d), .bool x.o, .string (txt x.p), .int .i64 x.u] 87)
                have sA := dA.size
                have s5 := hgrow.size
                have hbA := B1.out.trans (dA.mono B1.out.size)
                have hlo : ∀ jj, (Value.slice a9 acc.length cap9).ownBlock = some jj → W.heap.size + 1 ≤ jj := fun jj e => (O1.out.lt jj e).1
                go_roundw
                case rel => exact ⟨j + 1, acc ++ [x], by omega, by go_num, HA, by rw [List.length_append, List.length_singleton]; omega, by rw [← flat_snoc, List.length_append]; exact hown5, Lib.hid (Grid.own_other (ownsRow_below R1.out dA) (fun jj e e2 => by have h1 := HRL.out jj e; have h2 := hlo jj e2; omega) hgrow), Lib.hid ((M1.out.alloc _).kept hgrow (fun e2 => by have h2 := hlo _ e2.symm; omega)), hbA.grown hgrow hbA.size (fun jj e => by have := hlo jj e; omega), by omega⟩
                case measure => simp [intOf]; omega
              · have HA := Lib.hid (show acc = keptN now L (j + 1) by rw [HKS.out, if_neg (fun e2 => e (Option.some.inj e2)), List.append_nil])
                have hne : (y == (j : Int)) = false := by rw [Bool.eq_false_iff]; intro e2; have := eq_of_beq e2; omega
                clear e hyh
                go_wp2
                go_roundw
                case rel => exact ⟨j + 1, acc, by omega, by go_num, HA, by omega, O1.out, R1, M1, B1.out, by omega⟩
                case measure => simp [intOf]; omega
          · have hjl : j = l.length + 1 := by have := HLN.out; omega
            have HAR := Lib.hid (show acc = RW by rw [hacc.out, hjl, HKA.out])
            have hL4 : acc.length ≤ 41 := by omega
            clear hjl hacc
            obtain ⟨a9, cap9, rfl⟩ := Grid.own_val hout
            obtain ⟨v', hsl, hOC⟩ := slice_own (d := acc.length - 40) hout (by omega)
            have HE := Lib.hid (show KV = acc.drop (acc.length - 40) by rw [HKV.out, ← HAR.out])
            have HOC := Lib.hid (hOC.lower (by omega : w.heap.size ≤ W.heap.size + 1))
            have hsl1 : ∀ wx, (Instr.slice 40 (.slice a9 acc.length cap9) (some (.int .i64 (max ((acc.length : Int) - 40) 0))) none none).run Tryz.prog wx = .ok v' wx := fun wx => by
              have e : max ((acc.length : Int) - 40) 0 = ((acc.length - 40 : Nat) : Int) := by omega
              rw [e]
              exact hsl wx
            have HB := Lib.hid hbel2
            clear hOC hsl
            go_wp2
            go_ret
            exact ⟨_, rfl, by rw [HE.out]; exact HOC.out, HB.out⟩

end Ck
end Go.Proofs.YtdgfiebehnfpgaaGreatDoor
