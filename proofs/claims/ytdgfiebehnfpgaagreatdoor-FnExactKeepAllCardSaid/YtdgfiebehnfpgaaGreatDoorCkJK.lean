/- CONTRACTS: the model's Keep; slices of rows of cookies; appends of them. -/
import Derived.Test.YtdgfiebehnfpgaaGreatDoorCkJI
import Derived.Test.YtdgfiebehnfpgaaGreatDoorInv2
import Derived.Deep.AppendLies
namespace Go.Proofs.YtdgfiebehnfpgaaGreatDoor
set_option linter.unusedVariables false
set_option maxRecDepth 4000
open Go.ChangeShapes Go.WideShapes Go.ChangeAt Go.RowKit
open Go.ChangeMaps (open_string shut_string)

namespace Ck
open Ht

theorem slice_own {w : World} {base : Nat} {v : Value} {L : List CkL} {d : Nat} (h : w.ownsRow base 87 6 v L.length (L.flatMap cc6)) (hd : d = 0 ∨ d < L.length) :
    ∃ v', (∀ wx, (Instr.slice 40 v (some (.int .i64 (d : Int))) none none).run Tryz.prog wx = .ok v' wx) ∧ OwnC w base v' (L.drop d) := by
  have e2 : Tryz.prog.elem 40 = 87 := by kernel_rfl
  have h' := h
  rcases h.2 with ⟨rfl, h0⟩ | ⟨g, cap, cur, rfl, hb, hh, hnc, hrest⟩
  · obtain rfl : d = 0 := by omega
    obtain rfl := List.eq_nil_of_length_eq_zero h0
    refine ⟨.slice none 0 0, fun wx => ?_, .inl ⟨rfl, rfl⟩⟩
    rw [run_slice_l (P := Tryz.prog) (w := wx) (t := 40) (ht := by kernel_rfl) (kl := .i64) (h0 := by omega) (h1 := by omega), e2, Tryz.sizeOf87]
    rfl
  · refine ⟨sliced (some ⟨g, 0, none⟩) d L.length cap 6, fun wx => ?_, ?_⟩
    · rw [run_slice_l (P := Tryz.prog) (w := wx) (t := 40) (ht := by kernel_rfl) (kl := .i64) (h0 := by omega) (h1 := by omega), e2, Tryz.sizeOf87]
      rfl
    · right
      unfold sliced
      by_cases hc : cap = d
      · have hd0 : d = 0 := by omega
        have hL0 : L.length = 0 := by omega
        refine ⟨g, 0, cap - d, L.length, cap, [], ?_, rfl, ?_⟩
        · rw [if_pos hc, List.length_drop]
        · rw [hd0]; simpa using h'
      · refine ⟨g, d * 6, cap - d, L.length, cap, (L.take d).flatMap cc6, ?_, ?_, ?_⟩
        · rw [if_neg hc, List.length_drop]
          simp [Option.map_some, add_at]
        · rw [Grid.flat_len cc6_len, List.length_take]
          congr 1
          omega
        · rw [← List.flatMap_append, List.take_append_drop]
          exact h'

/-- a row of cookies, wherever it lies, is appended to a row of the call's own -/
theorem wpList_append_src {w : World} {ops : Array Oper} {rest : List Oper} {o : Oper} {a : Act} {Q : Exit → Act → World → Prop} (hgd : o.guard = none) (s x : Operand)
    (ho : o.op = .call { callee := .builtin .append, args := #[s, x], argTypes := #[40, 40] })
    (base : Nat) (v : Value) (n : Nat) (xs : List Value) (hs : a.eval s = v) (hown : w.ownsRow base 87 6 v n xs) (src : Value) (l : List CkL) (hx : a.eval x = src) (hsrc : JSrc w src l)
    (hn : n ≤ 2097152) (hl : l.length ≤ 2097152) (hbase : base ≤ w.heap.size)
    (h : ∀ v' w', w'.ownsRow base 87 6 v' (n + l.length) (xs ++ l.flatMap cc6) → w.grownBy w' v.ownBlock → wpList Tryz.prog ops Q rest (a.put o.dst v') w') :
    wpList Tryz.prog ops Q (o :: rest) a w := by
  obtain ⟨i0, hi, hz0, hz1, hz2⟩ := info_parts info_cookie
  rcases hsrc with ⟨rfl, rfl⟩ | ⟨g, off, cap, rfl, hg, hc⟩
  · refine wpList_append_own_none hgd s x 40 ho base 87 i0 6 Tryz.underlying40 hi v n xs hs hown hx ?_
    exact h v w (by simpa using hown) (World.grownBy.refl _ _)
  · refine wpList_append_own_at w hgd s x 40 ho base 87 i0 _ 6 80 Tryz.underlying40 hi hz0 hz1 hz2 rfl (by omega) v n xs hs hown ⟨g, off, none⟩ l.length cap (l.flatMap cc6) hx (Grid.flat_len cc6_len l) (src_news hc) (cc6_one l) (by unfold maxLen; omega) (by omega) hbase ?_
    intro v' w' h2 h3 _ h5
    exact h v' w' h2 h3

theorem filter_snoc (P : CkL → Bool) (l : List CkL) (k : Nat) (hk : k < l.length) : (l.take (k + 1)).filter P = (l.take k).filter P ++ (if P l[k] then [l[k]] else []) := by
  rw [List.take_succ_eq_append_getElem hk, List.filter_append]
  congr 1
  cases h : P l[k] with
  | true => rw [List.filter_cons_of_pos h]; rfl
  | false => rw [List.filter_cons_of_neg (by rw [h]; simp)]; rfl

theorem flat_snoc (A : List CkL) (x : CkL) : A.flatMap cc6 ++ [.string (txt x.n), .string (txt x.v), .string (txt x.d), .bool x.o, .string (txt x.p), .int .i64 x.u] = (A ++ [x]).flatMap cc6 := by
  rw [List.flatMap_append]
  simp [cc6]

set_option maxHeartbeats 12800000 in
theorem keep_spec (v : Value) (l : List CkL) (c : CkL) (now : Int) (w : World) (h : JSrc w v l) (hn : l.length ≤ 1048576) (hS : ∀ x ∈ l, CkS x) (hc : CkS c) :
    Calls Tryz.prog 58 #[v, ckV c, .int .i64 now] w fun e w' => ∃ v', e = .returned v' ∧ OwnC w' w.heap.size v' (keepL l c now) ∧ Below w.heap.size w w' := by
  obtain ⟨i0, hi, hz0, hz1, hz2⟩ := info_parts info_cookie
  have HF := Lib.hid h
  have HM := Lib.hid hS
  have JO := Lib.hid (fun wx hx => jarOk_spec v l wx hx (by omega) hS)
  have CO := Lib.hid (fun wx => ckOk_spec c wx hc)
  have LV := Lib.hid (fun wx => live_call c now wx)
  have ba := Lib.hid ((Below.refl w.heap.size w).alloc (Nat.le_refl _) (.cells #[.string (txt c.n), .string (txt c.v), .string (txt c.d), .bool c.o, .string (txt c.p), .int .i64 c.u] 87))
  have g0 := Lib.hid (heap_alloc_new w (.cells #[.string (txt c.n), .string (txt c.v), .string (txt c.d), .bool c.o, .string (txt c.p), .int .i64 c.u] 87))
  have sa := Lib.hid (show (w.alloc (.cells #[.string (txt c.n), .string (txt c.v), .string (txt c.d), .bool c.o, .string (txt c.p), .int .i64 c.u] 87)).heap.size = w.heap.size + 1 by simp)
  have HJ := Lib.hid (h.below ((Below.refl w.heap.size w).alloc (Nat.le_refl _) (.cells #[.string (txt c.n), .string (txt c.v), .string (txt c.d), .bool c.o, .string (txt c.p), .int .i64 c.u] 87)))
  have OM := Lib.hid (World.ownsRow_made (w.alloc (.cells #[.string (txt c.n), .string (txt c.v), .string (txt c.d), .bool c.o, .string (txt c.p), .int .i64 c.u] 87)) #[] 0 (Nat.le_refl _) (by simp) rfl (e := 87) (size := 6))
  have ba2 := Lib.hid (ba.out.alloc (by rw [sa.out]; omega) (.cells #[] 87))
  have da2 := Lib.hid ((Below.refl (w.alloc (.cells #[.string (txt c.n), .string (txt c.v), .string (txt c.d), .bool c.o, .string (txt c.p), .int .i64 c.u] 87)).heap.size (w.alloc (.cells #[.string (txt c.n), .string (txt c.v), .string (txt c.d), .bool c.o, .string (txt c.p), .int .i64 c.u] 87))).alloc (Nat.le_refl _) (.cells #[] 87))
  have sa2 := Lib.hid (show ((w.alloc (.cells #[.string (txt c.n), .string (txt c.v), .string (txt c.d), .bool c.o, .string (txt c.p), .int .i64 c.u] 87)).alloc (.cells #[] 87)).heap.size = w.heap.size + 2 by simp)
  have K0 := Lib.hid ((da2.out.block w.heap.size (by rw [sa.out]; omega)).trans g0.out)
  have HJ2 := Lib.hid (HJ.out.below da2.out)
  have HLw := Lib.hid (show ∀ g off n cap, v = .slice (some ⟨g, off, none⟩) n cap → g < w.heap.size from fun g off n cap e => by
    rcases h with ⟨rfl, _⟩ | ⟨g', off', cap', rfl, hg, _⟩
    · cases e
    · simp only [Value.slice.injEq, Option.some.injEq, Addr.mk.injEq] at e
      rw [← e.1.1]
      exact hg)
  obtain ⟨RL, hRL⟩ : ∃ RL, RL = keepL l c now := ⟨_, rfl⟩
  have HRL := Lib.hid hRL
  rw [← hRL]
  clear hRL h hS ba g0 HJ da2
  unfold ckV at CO LV ⊢
  have hv : ∃ a cap, v = .slice a l.length cap := by
    obtain ⟨a, cap, rfl, _⟩ := HF.out.at
    exact ⟨a, cap, rfl⟩
  obtain ⟨a0, cap0, rfl⟩ := hv
  go_enter Tryz.func58, Tryz.ntmps58
  have hle := World.grownBy.refl
  clear hle
  go_wp2_with fail
  refine (JO.out _ HJ2.out.at).mono ?_
  rintro e w1 ⟨rfl, b1⟩
  have s1 := b1.size
  rw [sa2.out] at s1
  have B1 := Lib.hid (bstep ba2.out b1)
  have K1 := Lib.hid ((b1.block w.heap.size (by rw [sa2.out]; omega)).trans K0.out)
  have O1 := Lib.hid (ownsRow_below OM.out b1)
  rw [sa.out] at O1
  have J1 := Lib.hid (HJ2.out.below b1)
  clear b1
  cases hj : jarR l with
  | false =>
    have HR := Lib.hid (show RL = [] by rw [HRL.out]; unfold keepL; rw [hj]; rfl)
    clear hj
    go_wp2
    go_ret
    exact ⟨_, rfl, by rw [HR.out]; exact (OwnC.of (l := []) O1.out).lower (by omega), B1.out⟩
  | true =>
    have HRL2 := Lib.hid (show RL = if ckOk c then keepV l c now else l by rw [HRL.out]; unfold keepL; rw [hj]; rfl)
    have hl40 := jarR_len hj
    clear hj HRL
    obtain ⟨x0, x1, x2, x3, x4, x5, _⟩ := box6 K1.out
    go_wp2_with fail
    refine (CO.out _).mono ?_
    rintro e w2 ⟨rfl, b2⟩
    have s2 := b2.size
    have B2 := Lib.hid (bstep B1.out b2)
    have K2 := Lib.hid ((b2.block w.heap.size (by omega)).trans K1.out)
    have O2 := Lib.hid (ownsRow_below O1.out b2)
    have J2 := Lib.hid (J1.out.below b2)
    clear b2 x0 x1 x2 x3 x4 x5
    cases hq : ckOk c with
    | false =>
      have HR := Lib.hid (show RL = l by rw [HRL2.out, hq]; rfl)
      clear hq
      go_wp2_with (at_builtin; refine wpList_append_src rfl _ _ rfl (w.heap.size + 1) _ 0 [] rfl O2.out _ l rfl J2.out (by omega) (by omega) (by omega) ?_; intro v' w3 hown3 hgr3)
      go_ret
      refine ⟨_, rfl, ?_, B2.out.grown hgr3 (by omega) (fun j e => Nat.le_trans (Nat.le_succ _) (O2.out.lt j e).1)⟩
      rw [HR.out]
      rw [List.nil_append, Nat.zero_add] at hown3
      exact (OwnC.of hown3).lower (by omega)
    | true =>
      have HR := Lib.hid (show RL = keepV l c now by rw [HRL2.out, hq]; rfl)
      clear hq HRL2
      go_wp2
      go_loopw [7, 8] (fun o i wr => ∃ (k : Nat) (acc : List CkL), k ≤ l.length ∧ i = .int .i64 k ∧ Hid (acc = (l.take k).filter fun x => !decide (slotL x = slotL c) && liveC now x) ∧ acc.length ≤ k ∧ wr.ownsRow (w.heap.size + 1) 87 6 o acc.length (acc.flatMap cc6) ∧ Hid (wr.heap[w.heap.size]? = some (.cells #[.string (txt c.n), .string (txt c.v), .string (txt c.d), .bool c.o, .string (txt c.p), .int .i64 c.u] 87 (0, 0))) ∧ Below w.heap.size w wr ∧ w.heap.size + 1 ≤ wr.heap.size) (fun _ i _ => l.length - (intOf i).toNat)
      case atStart => exact ⟨0, [], by omega, rfl, Lib.hid rfl, by simp, O2.out, K2, B2.out, by omega⟩
      case round =>
        clear K2 O2 J2 B2
        obtain ⟨k, acc, hk, rfl, hacc, hal, hown, hbox, hbel, hbz1⟩ := hrel
        have hbs := hbel.size
        have hbz : w.heap.size < wr.heap.size := by omega
        by_cases hlt : k < l.length
        · have hsrc := HF.out.below hbel
          obtain ⟨g, off, rfl, hgr0, c0, c1, c2, c3, c4, c5⟩ := JAt.cells hsrc.at k hlt
          have hi0 : (0 : Int) ≤ (k : Int) := by omega
          have hi1 : (k : Int) < (l.length : Int) := by omega
          have HFS := Lib.hid (filter_snoc (fun x => !decide (slotL x = slotL c) && liveC now x) l k hlt)
          generalize l[k] = x at c0 c1 c2 c3 c4 c5 HFS
          have S := Lib.hid (fun wx => same_call x c wx)
          have L := Lib.hid (fun wx => live_call x now wx)
          unfold ckV at S L
          rw [← hacc.out] at HFS
          generalize decide (slotL x = slotL c) = q at S HFS
          generalize liveC now x = q2 at L HFS
          obtain ⟨x0, x1, x2, x3, x4, x5, _⟩ := box6 (W := wr) hbox.out
          obtain ⟨a9, cap9, rfl⟩ := Grid.own_val hown
          have HOWN := Lib.hid hown
          clear hsrc hown hacc
          cases q with
          | true =>
            have HA := Lib.hid (show acc = (l.take (k + 1)).filter fun x => !decide (slotL x = slotL c) && liveC now x by rw [HFS.out]; simp)
            have HC0 := Lib.hid (And.intro c0 (And.intro c1 (And.intro c2 (And.intro c3 (And.intro c4 c5)))))
            have HX0 := Lib.hid (And.intro x0 (And.intro x1 (And.intro x2 (And.intro x3 (And.intro x4 x5)))))
            go_wp2
            refine Inv.region_tab 15 61 [(0, 26, .slice (some ⟨g, off, none⟩) l.length cap0), (1, 27, .int .i64 k), (2, 28, .pointer (some ⟨g, off + k * 6, none⟩)), (3, 29, .agg #[.string (txt x.n), .string (txt x.v), .string (txt x.d), .bool x.o, .string (txt x.p), .int .i64 x.u]), (4, 30, .agg #[.string (txt c.n), .string (txt c.v), .string (txt c.d), .bool c.o, .string (txt c.p), .int .i64 c.u]), (5, 31, .bool true), (6, 32, .bool false), (7, 33, .bool false), (8, 34, undef), (9, 35, undef), (10, 36, undef), (11, 37, undef), (12, 38, undef), (13, 39, undef), (14, 40, .bool false)] (fun W => Below wr.heap.size wr W) (by kernel_rfl) rfl (by kernel_rfl) ⟨by simp, rfl⟩ rfl (by simp only [List.map_cons, List.map_nil]; decide) (by simp) (Below.refl _ wr).drew ?_ ?_
            · intro a b t W hW ht htab hfr p hp hafter K SP
              have F := fun q hq hb => (ht q.2.1).trans (htab q hq hb)
              have G0 := (ht 0).trans (hfr 0 (by simp))
              have G4 := (ht 4).trans (hfr 4 (by simp))
              have G8 := (ht 8).trans (hfr 8 (by simp))
              simp only [List.mem_cons, List.not_mem_nil, or_false] at hp F
              have HF := Lib.hid F
              clear F ht htab hfr
              rcases hp with rfl | rfl | rfl | rfl | rfl | rfl | rfl | rfl | rfl | rfl | rfl | rfl | rfl | rfl | rfl
              · clear hafter G4 G8
                refine Inv.wpOp_at rfl rfl ?_
                go_simp
                exact SP _ hW
              · clear hafter G0 G4
                refine Inv.wpOp_at rfl rfl ?_
                go_simp
                exact SP _ hW
              · have ha := hafter _ rfl
                clear hafter
                simp [Region.binds] at ha
                have f26 := HF.out _ (by left; rfl) ha.1
                have f27 := HF.out _ (by right; left; rfl) ha.2
                clear G0 G4 G8
                refine Inv.wpOp_at rfl rfl ?_
                go_simp
                exact SP _ hW
              · have ha := hafter _ rfl
                clear hafter
                simp [Region.binds] at ha
                have f28 := HF.out _ (by right; right; left; rfl) ha
                clear G0 G4 G8
                refine Inv.wpOp_at rfl rfl ?_
                have d0 := (hW.cell (p := ⟨g, _, none⟩) hgr0).trans c0
                have d1 := (hW.cell (p := ⟨g, _, none⟩) hgr0).trans c1
                have d2 := (hW.cell (p := ⟨g, _, none⟩) hgr0).trans c2
                have d3 := (hW.cell (p := ⟨g, _, none⟩) hgr0).trans c3
                have d4 := (hW.cell (p := ⟨g, _, none⟩) hgr0).trans c4
                have d5 := (hW.cell (p := ⟨g, _, none⟩) hgr0).trans c5
                go_simp
                exact SP _ hW
              · clear hafter G0 G8
                refine Inv.wpOp_at rfl rfl ?_
                have d0 := (hW.cell (p := ⟨w.heap.size, _, none⟩) hbz).trans x0
                have d1 := (hW.cell (p := ⟨w.heap.size, _, none⟩) hbz).trans x1
                have d2 := (hW.cell (p := ⟨w.heap.size, _, none⟩) hbz).trans x2
                have d3 := (hW.cell (p := ⟨w.heap.size, _, none⟩) hbz).trans x3
                have d4 := (hW.cell (p := ⟨w.heap.size, _, none⟩) hbz).trans x4
                have d5 := (hW.cell (p := ⟨w.heap.size, _, none⟩) hbz).trans x5
                go_simp
                exact SP _ hW
              · have ha := hafter _ rfl
                clear hafter
                simp [Region.binds] at ha
                have f29 := HF.out _ (by right; right; right; left; rfl) ha.1
                have f30 := HF.out _ (by right; right; right; right; left; rfl) ha.2
                clear G0 G4 G8
                refine Inv.wpOp_at rfl rfl ?_
                go_simp
                refine (S.out _).mono ?_
                rintro e wa ⟨rfl, hba⟩
                exact SP _ (hW.trans (hba.mono hW.size))
              · have ha := hafter _ rfl
                clear hafter
                simp [Region.binds] at ha
                have f31 := HF.out _ (by right; right; right; right; right; left; rfl) ha
                clear G0 G4 G8
                refine Inv.wpOp_at rfl rfl ?_
                go_simp
                exact SP _ hW
              · have ha := hafter _ rfl
                clear hafter
                simp [Region.binds] at ha
                have f32 := HF.out _ (by right; right; right; right; right; right; left; rfl) ha.1
                clear G0 G4 G8
                refine Inv.wpOp_at rfl rfl ?_
                go_simp
                exact SP _ hW
              · have ha := hafter _ rfl
                clear hafter
                simp [Region.binds] at ha
                have f33 := HF.out _ (by right; right; right; right; right; right; right; left; rfl) (by simp_all)
                exact Inv.wpOp_skip rfl rfl rfl f33 (by decide) (SP _ hW)
              · have ha := hafter _ rfl
                clear hafter
                simp [Region.binds] at ha
                have f33 := HF.out _ (by right; right; right; right; right; right; right; left; rfl) (by simp_all)
                exact Inv.wpOp_skip rfl rfl rfl f33 (by decide) (SP _ hW)
              · have ha := hafter _ rfl
                clear hafter
                simp [Region.binds] at ha
                have f33 := HF.out _ (by right; right; right; right; right; right; right; left; rfl) (by simp_all)
                exact Inv.wpOp_skip rfl rfl rfl f33 (by decide) (SP _ hW)
              · have ha := hafter _ rfl
                clear hafter
                simp [Region.binds] at ha
                have f33 := HF.out _ (by right; right; right; right; right; right; right; left; rfl) (by simp_all)
                exact Inv.wpOp_skip rfl rfl rfl f33 (by decide) (SP _ hW)
              · have ha := hafter _ rfl
                clear hafter
                simp [Region.binds] at ha
                have f33 := HF.out _ (by right; right; right; right; right; right; right; left; rfl) (by simp_all)
                exact Inv.wpOp_skip rfl rfl rfl f33 (by decide) (SP _ hW)
              · have ha := hafter _ rfl
                clear hafter
                simp [Region.binds] at ha
                have f33 := HF.out _ (by right; right; right; right; right; right; right; left; rfl) (by simp_all)
                exact Inv.wpOp_skip rfl rfl rfl f33 (by decide) (SP _ hW)
              · have ha := hafter _ rfl
                clear hafter
                simp [Region.binds] at ha
                have f33 := HF.out _ (by right; right; right; right; right; right; right; left; rfl) (by simp_all)
                clear G0 G4 G8
                refine Inv.wpOp_at rfl rfl ?_
                go_simp
                exact SP _ hW
            · intro W hW
              have HW := Lib.hid hW
              simp only [List.range, List.range.loop, List.map_cons, List.map_nil, Inv.tabAt]
              simp
              clear hW
              go_wp2
              go_roundw
              case rel => exact ⟨k + 1, acc, by omega, by go_num, HA, by omega, ownsRow_below HOWN.out HW.out, Lib.hid ((HW.out.block w.heap.size hbz).trans hbox.out), hbel.trans (HW.out.mono hbs), by have := HW.out.size; omega⟩
              case measure => simp [intOf]; omega
          | false =>
            go_wp2
            go_region_held3 (fun W => W.cell? ⟨g, off + k * 6, none⟩ = some (.string (txt x.n)) ∧ W.cell? ⟨g, off + k * 6 + 1, none⟩ = some (.string (txt x.v)) ∧ W.cell? ⟨g, off + k * 6 + 2, none⟩ = some (.string (txt x.d)) ∧ W.cell? ⟨g, off + k * 6 + 3, none⟩ = some (.bool x.o) ∧ W.cell? ⟨g, off + k * 6 + 4, none⟩ = some (.string (txt x.p)) ∧ W.cell? ⟨g, off + k * 6 + 5, none⟩ = some (.int .i64 x.u) ∧ W.cell? ⟨w.heap.size, 0, none⟩ = some (.string (txt c.n)) ∧ W.cell? ⟨w.heap.size, 1, none⟩ = some (.string (txt c.v)) ∧ W.cell? ⟨w.heap.size, 2, none⟩ = some (.string (txt c.d)) ∧ W.cell? ⟨w.heap.size, 3, none⟩ = some (.bool c.o) ∧ W.cell? ⟨w.heap.size, 4, none⟩ = some (.string (txt c.p)) ∧ W.cell? ⟨w.heap.size, 5, none⟩ = some (.int .i64 c.u) ∧ Below wr.heap.size wr W)
              (first
                | exact ⟨c0, c1, c2, c3, c4, c5, x0, x1, x2, x3, x4, x5, (Below.refl _ wr).drew⟩
                | (go_split_ands; exact ⟨(hba.cell (p := ⟨g, _, none⟩) (Nat.lt_of_lt_of_le hgr0 (Below.size (by assumption)))).trans (by assumption), (hba.cell (p := ⟨g, _, none⟩) (Nat.lt_of_lt_of_le hgr0 (Below.size (by assumption)))).trans (by assumption), (hba.cell (p := ⟨g, _, none⟩) (Nat.lt_of_lt_of_le hgr0 (Below.size (by assumption)))).trans (by assumption), (hba.cell (p := ⟨g, _, none⟩) (Nat.lt_of_lt_of_le hgr0 (Below.size (by assumption)))).trans (by assumption), (hba.cell (p := ⟨g, _, none⟩) (Nat.lt_of_lt_of_le hgr0 (Below.size (by assumption)))).trans (by assumption), (hba.cell (p := ⟨g, _, none⟩) (Nat.lt_of_lt_of_le hgr0 (Below.size (by assumption)))).trans (by assumption), (hba.cell (p := ⟨w.heap.size, _, none⟩) (Nat.lt_of_lt_of_le hbz (Below.size (by assumption)))).trans (by assumption), (hba.cell (p := ⟨w.heap.size, _, none⟩) (Nat.lt_of_lt_of_le hbz (Below.size (by assumption)))).trans (by assumption), (hba.cell (p := ⟨w.heap.size, _, none⟩) (Nat.lt_of_lt_of_le hbz (Below.size (by assumption)))).trans (by assumption), (hba.cell (p := ⟨w.heap.size, _, none⟩) (Nat.lt_of_lt_of_le hbz (Below.size (by assumption)))).trans (by assumption), (hba.cell (p := ⟨w.heap.size, _, none⟩) (Nat.lt_of_lt_of_le hbz (Below.size (by assumption)))).trans (by assumption), (hba.cell (p := ⟨w.heap.size, _, none⟩) (Nat.lt_of_lt_of_le hbz (Below.size (by assumption)))).trans (by assumption), Below.trans (by assumption) (hba.mono (Below.size (by assumption)))⟩)
                | (go_split_ands; exact ⟨(hbb.cell (p := ⟨g, _, none⟩) (Nat.lt_of_lt_of_le hgr0 (Below.size (by assumption)))).trans (by assumption), (hbb.cell (p := ⟨g, _, none⟩) (Nat.lt_of_lt_of_le hgr0 (Below.size (by assumption)))).trans (by assumption), (hbb.cell (p := ⟨g, _, none⟩) (Nat.lt_of_lt_of_le hgr0 (Below.size (by assumption)))).trans (by assumption), (hbb.cell (p := ⟨g, _, none⟩) (Nat.lt_of_lt_of_le hgr0 (Below.size (by assumption)))).trans (by assumption), (hbb.cell (p := ⟨g, _, none⟩) (Nat.lt_of_lt_of_le hgr0 (Below.size (by assumption)))).trans (by assumption), (hbb.cell (p := ⟨g, _, none⟩) (Nat.lt_of_lt_of_le hgr0 (Below.size (by assumption)))).trans (by assumption), (hbb.cell (p := ⟨w.heap.size, _, none⟩) (Nat.lt_of_lt_of_le hbz (Below.size (by assumption)))).trans (by assumption), (hbb.cell (p := ⟨w.heap.size, _, none⟩) (Nat.lt_of_lt_of_le hbz (Below.size (by assumption)))).trans (by assumption), (hbb.cell (p := ⟨w.heap.size, _, none⟩) (Nat.lt_of_lt_of_le hbz (Below.size (by assumption)))).trans (by assumption), (hbb.cell (p := ⟨w.heap.size, _, none⟩) (Nat.lt_of_lt_of_le hbz (Below.size (by assumption)))).trans (by assumption), (hbb.cell (p := ⟨w.heap.size, _, none⟩) (Nat.lt_of_lt_of_le hbz (Below.size (by assumption)))).trans (by assumption), (hbb.cell (p := ⟨w.heap.size, _, none⟩) (Nat.lt_of_lt_of_le hbz (Below.size (by assumption)))).trans (by assumption), Below.trans (by assumption) (hbb.mono (Below.size (by assumption)))⟩)
                | fail)
              (first
                | (go_simp; go_at_call 100; refine (S.out _).mono ?_; rintro e wa ⟨rfl, hba⟩)
                | (go_simp; go_at_call 104; refine (L.out _).mono ?_; rintro e wb ⟨rfl, hbb⟩)
                | fail)
            all_goals
              have hb5 : Below wr.heap.size wr wb := by
                go_split_ands
                assumption
              have hsz5 := hb5.size
              have HO := ownsRow_below HOWN.out hb5
              have HBX := Lib.hid ((hb5.block w.heap.size hbz).trans hbox.out)
              have hbw := hbel.trans (hb5.mono hbs)
              have d0 := (hb5.cell (p := ⟨g, _, none⟩) hgr0).trans c0
              have d1 := (hb5.cell (p := ⟨g, _, none⟩) hgr0).trans c1
              have d2 := (hb5.cell (p := ⟨g, _, none⟩) hgr0).trans c2
              have d3 := (hb5.cell (p := ⟨g, _, none⟩) hgr0).trans c3
              have d4 := (hb5.cell (p := ⟨g, _, none⟩) hgr0).trans c4
              have d5 := (hb5.cell (p := ⟨g, _, none⟩) hgr0).trans c5
              cases q2 with
              | true =>
                have HA := Lib.hid (show acc ++ [x] = (l.take (k + 1)).filter fun x => !decide (slotL x = slotL c) && liveC now x by rw [HFS.out]; simp)
                go_wp2_with (at_builtin; refine wpList_append_lies _ rfl _ _ _ rfl (w.heap.size + 1) 87 i0 _ 6 80 Tryz.underlying40 hi hz0 hz1 hz2 rfl (by omega) _ acc.length _ rfl (HO.alloc _) ⟨wb.heap.size, 0, none⟩ 1 1 [.string (txt x.n), .string (txt x.v), .string (txt x.d), .bool x.o, .string (txt x.p), .int .i64 x.u] rfl rfl (World.news_of_block (cs := #[.string (txt x.n), .string (txt x.v), .string (txt x.d), .bool x.o, .string (txt x.p), .int .i64 x.u]) (t := 87) (fr := (0, 0)) (heap_alloc_new wb _)) (by simp [Value.oneCell']) (by omega) (by unfold maxLen; omega) (by omega) (by simp; omega) (wb.heap.size + 1) (by simp) ?_; intro gg cap5 w5 hown5 hgrow hat hlt2)
                have hbA := hbw.alloc hbw.size (.cells #[.string (txt x.n), .string (txt x.v), .string (txt x.d), .bool x.o, .string (txt x.p), .int .i64 x.u] 87)
                have hbF := hbA.grown hgrow hbA.size (fun j e => by have := (HO.lt j e).1; omega)
                have hbxF := ((hgrow.block w.heap.size (by simp; omega) (fun e => by have := (HO.lt _ e.symm).1; omega)).trans ((((Below.refl wb.heap.size wb).alloc (Nat.le_refl _) (.cells #[.string (txt x.n), .string (txt x.v), .string (txt x.d), .bool x.o, .string (txt x.p), .int .i64 x.u] 87)).block w.heap.size (by omega)).trans HBX.out))
                go_roundw
                case rel => exact ⟨k + 1, acc ++ [x], by omega, by go_num, HA, by rw [List.length_append, List.length_singleton]; omega, by rw [← flat_snoc, List.length_append]; exact hown5, Lib.hid hbxF, hbF, by have h9 := hgrow.size; simp at h9; omega⟩
                case measure => simp [intOf]; omega
              | false =>
                have HA := Lib.hid (show acc = (l.take (k + 1)).filter fun x => !decide (slotL x = slotL c) && liveC now x by rw [HFS.out]; simp)
                go_wp2
                go_roundw
                case rel => exact ⟨k + 1, acc, by omega, by go_num, HA, by omega, HO, HBX, hbw, by omega⟩
                case measure => simp [intOf]; omega
        · have he : l.take k = l := List.take_of_length_le (by omega)
          have hacc2 := hacc.out
          rw [he] at hacc2
          have HRAW := Lib.hid (show keepRaw l c now = acc ++ (if liveC now c then [c] else []) by unfold keepRaw; rw [← hacc2])
          have HRK := Lib.hid (show RL = (keepRaw l c now).drop ((keepRaw l c now).length - 40) from HR.out)
          generalize keepRaw l c now = raw at HRAW HRK
          clear he hacc2 hacc HR
          obtain ⟨x0, x1, x2, x3, x4, x5, _⟩ := box6 (W := wr) hbox.out
          obtain ⟨a9, cap9, rfl⟩ := Grid.own_val hown
          have HOWN := Lib.hid hown
          clear hown
          have hal40 : acc.length ≤ 40 := by omega
          cases hlv : liveC now c with
          | true =>
            rw [hlv] at LV
            have HR2 := Lib.hid (show raw = acc ++ [c] by rw [HRAW.out, hlv]; rfl)
            clear hlv
            go_wp2_with fail
            refine (LV.out _).mono ?_
            rintro e wb ⟨rfl, hb5⟩
            have hsz5 := hb5.size
            have HO := ownsRow_below HOWN.out hb5
            have k5 := (hb5.block w.heap.size hbz).trans hbox.out
            have hbw := hbel.trans (hb5.mono hbs)
            clear x0 x1 x2 x3 x4 x5
            obtain ⟨x0, x1, x2, x3, x4, x5, _⟩ := box6 k5
            have hbA := Lib.hid (hbw.alloc hbw.size (.cells #[.string (txt c.n), .string (txt c.v), .string (txt c.d), .bool c.o, .string (txt c.p), .int .i64 c.u] 87))
            have hrl : (acc ++ [c]).length = acc.length + 1 := by simp
            have HRL5 := Lib.hid hrl
            clear hrl
            by_cases hgt : acc.length = 40
            · have hi40 : ((acc.length : Int) + 1) > 40 := by omega
              have hj40 : (40 : Int) < (acc.length : Int) + 1 := by omega
              have hj41 : (40 : Int) ≤ (acc.length : Int) := by omega
              have hj42 : 40 ≤ acc.length := by omega
              have hj43 : 40 < acc.length + 1 := by omega
              have HE := Lib.hid (show RL = (acc ++ [c]).drop 1 by rw [HRK.out, HR2.out, HRL5.out, hgt])
              have HSO := Lib.hid (fun (W : World) (v : Value) (h : W.ownsRow (w.heap.size + 1) 87 6 v (acc ++ [c]).length ((acc ++ [c]).flatMap cc6)) => slice_own (d := 1) h (by have := HRL5.out; omega))
              clear hgt k5
              go_wp2_with (at_builtin; refine wpList_append_lies _ rfl _ _ _ rfl (w.heap.size + 1) 87 i0 _ 6 80 Tryz.underlying40 hi hz0 hz1 hz2 rfl (by omega) _ acc.length _ rfl (HO.alloc _) ⟨wb.heap.size, 0, none⟩ 1 1 [.string (txt c.n), .string (txt c.v), .string (txt c.d), .bool c.o, .string (txt c.p), .int .i64 c.u] rfl rfl (World.news_of_block (cs := #[.string (txt c.n), .string (txt c.v), .string (txt c.d), .bool c.o, .string (txt c.p), .int .i64 c.u]) (t := 87) (fr := (0, 0)) (heap_alloc_new wb _)) (by simp [Value.oneCell']) (by omega) (by unfold maxLen; omega) (by omega) (by simp; omega) (wb.heap.size + 1) (by simp) ?_; intro gg cap5 w5 hown5 hgrow hat hlt2; obtain ⟨v', hsl, hOC⟩ := HSO.out w5 (.slice (some ⟨gg, 0, none⟩) (acc.length + 1) cap5) (by rw [← flat_snoc, HRL5.out]; exact hown5); have hsl1 : ∀ wx, (Instr.slice 40 (.slice (some ⟨gg, 0, none⟩) (acc.length + 1) cap5) (some (.int .i64 1)) none none).run Tryz.prog wx = .ok v' wx := hsl; have HOC := Lib.hid (hOC.lower (Nat.le_succ _)); have HBF := Lib.hid (hbA.out.grown hgrow hbA.out.size (fun j e => by have := (HO.lt j e).1; omega)); clear hsl hOC hown5)
              go_ret
              exact ⟨_, rfl, by rw [HE.out]; exact HOC.out, HBF.out⟩
            · have hi40 : ¬ ((acc.length : Int) + 1) > 40 := by omega
              have hj40 : ¬ (40 : Int) < (acc.length : Int) + 1 := by omega
              have hj41 : ¬ (40 : Int) ≤ (acc.length : Int) := by omega
              have hj42 : ¬ 40 ≤ acc.length := by omega
              have hj43 : ¬ 40 < acc.length + 1 := by omega
              have HE := Lib.hid (show RL = acc ++ [c] by rw [HRK.out, HR2.out, HRL5.out, show acc.length + 1 - 40 = 0 by omega]; rfl)
              clear hgt k5
              go_wp2_with (at_builtin; refine wpList_append_lies _ rfl _ _ _ rfl (w.heap.size + 1) 87 i0 _ 6 80 Tryz.underlying40 hi hz0 hz1 hz2 rfl (by omega) _ acc.length _ rfl (HO.alloc _) ⟨wb.heap.size, 0, none⟩ 1 1 [.string (txt c.n), .string (txt c.v), .string (txt c.d), .bool c.o, .string (txt c.p), .int .i64 c.u] rfl rfl (World.news_of_block (cs := #[.string (txt c.n), .string (txt c.v), .string (txt c.d), .bool c.o, .string (txt c.p), .int .i64 c.u]) (t := 87) (fr := (0, 0)) (heap_alloc_new wb _)) (by simp [Value.oneCell']) (by omega) (by unfold maxLen; omega) (by omega) (by simp; omega) (wb.heap.size + 1) (by simp) ?_; intro gg cap5 w5 hown5 hgrow hat hlt2; have HOC := Lib.hid ((OwnC.of (v := .slice (some ⟨gg, 0, none⟩) (acc.length + 1) cap5) (l := acc ++ [c]) (by rw [← flat_snoc, HRL5.out]; exact hown5)).lower (Nat.le_succ _)); have HBF := Lib.hid (hbA.out.grown hgrow hbA.out.size (fun j e => by have := (HO.lt j e).1; omega)); clear hown5)
              go_ret
              exact ⟨_, rfl, by rw [HE.out]; exact HOC.out, HBF.out⟩
          | false =>
            rw [hlv] at LV
            have HR2 := Lib.hid (show raw = acc by rw [HRAW.out, hlv]; simp)
            clear hlv
            go_wp2_with fail
            refine (LV.out _).mono ?_
            rintro e wb ⟨rfl, hb5⟩
            have HO := ownsRow_below HOWN.out hb5
            have HBF := Lib.hid (hbel.trans (hb5.mono hbs))
            have HOC := Lib.hid ((OwnC.of HO).lower (Nat.le_succ _))
            have hi40 : ¬ (acc.length : Int) > 40 := by omega
            have HE := Lib.hid (show RL = acc by rw [HRK.out, HR2.out, show acc.length - 40 = 0 by omega]; rfl)
            clear HO x0 x1 x2 x3 x4 x5
            go_wp2
            go_ret
            exact ⟨_, rfl, by rw [HE.out]; exact HOC.out, HBF.out⟩

end Ck
end Go.Proofs.YtdgfiebehnfpgaaGreatDoor
