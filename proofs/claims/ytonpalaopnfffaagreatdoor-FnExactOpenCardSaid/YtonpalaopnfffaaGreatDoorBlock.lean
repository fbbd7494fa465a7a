/- CONTRACT of the model's step over one block. -/
import Derived.Test.YtonpalaopnfffaaGreatDoorRow32

namespace Go.Proofs.YtonpalaopnfffaaGreatDoor
set_option linter.unusedVariables false
set_option maxRecDepth 4000
open Go.ChangeShapes Go.WideShapes Go.ChangeAt Go.RowKit
open Go.ChangeMaps (open_string shut_string)
open Sh

theorem w4_or (a b c d : UInt8) : (((a.toNat * 2 ^ 24 % 4294967296) ||| (b.toNat * 2 ^ 16 % 4294967296)) ||| (c.toNat * 2 ^ 8 % 4294967296)) ||| d.toNat = w4 a b c d := by
  have ha := a.toNat_lt
  have hb := b.toNat_lt
  have hc := c.toNat_lt
  have hd := d.toNat_lt
  have e1 : a.toNat * 2 ^ 24 % 4294967296 = 2 ^ 24 * a.toNat := by rw [Nat.mul_comm]; exact Nat.mod_eq_of_lt (by omega)
  have e2 : b.toNat * 2 ^ 16 % 4294967296 = 2 ^ 16 * b.toNat := by rw [Nat.mul_comm]; exact Nat.mod_eq_of_lt (by omega)
  have e3 : c.toNat * 2 ^ 8 % 4294967296 = 2 ^ 8 * c.toNat := by rw [Nat.mul_comm]; exact Nat.mod_eq_of_lt (by omega)
  rw [e1, e2, e3, or_low a.toNat (2 ^ 16 * b.toNat) 24 (by omega)]
  have e4 : 2 ^ 24 * a.toNat + 2 ^ 16 * b.toNat = 2 ^ 16 * (256 * a.toNat + b.toNat) := by omega
  rw [e4, or_low (256 * a.toNat + b.toNat) (2 ^ 8 * c.toNat) 16 (by omega)]
  have e5 : 2 ^ 16 * (256 * a.toNat + b.toNat) + 2 ^ 8 * c.toNat = 2 ^ 8 * (256 * (256 * a.toNat + b.toNat) + c.toNat) := by omega
  rw [e5, or_low (256 * (256 * a.toNat + b.toNat) + c.toNat) d.toNat 8 (by omega)]
  unfold w4; omega

theorem shl8 (a : UInt8) (k : Nat) (hk : k ≤ 24) : ((a.toNat : Int) * 2 ^ k % 4294967296) = ((a.toNat * 2 ^ k % 4294967296 : Nat) : Int) := u32_shl_nat _ _

theorem u32_or3 (a b c d : UInt8) :
    bits .or .u32 (bits .or .u32 (bits .or .u32 (IntKind.u32.wrap (IntKind.u32.wrap (a.toNat : Int) * 16777216)) (IntKind.u32.wrap (IntKind.u32.wrap (b.toNat : Int) * 65536))) (IntKind.u32.wrap (IntKind.u32.wrap (c.toNat : Int) * 256))) (IntKind.u32.wrap (d.toNat : Int)) = ((w4 a b c d : Nat) : Int) := by
  have ha := a.toNat_lt
  have hb := b.toNat_lt
  have hc := c.toNat_lt
  have hd := d.toNat_lt
  have m1 := Nat.mod_lt (a.toNat * 2 ^ 24) (show 4294967296 > 0 by omega)
  have m2 := Nat.mod_lt (b.toNat * 2 ^ 16) (show 4294967296 > 0 by omega)
  have m3 := Nat.mod_lt (c.toNat * 2 ^ 8) (show 4294967296 > 0 by omega)
  have o1 : a.toNat * 2 ^ 24 % 4294967296 ||| b.toNat * 2 ^ 16 % 4294967296 < 4294967296 := Nat.or_lt_two_pow (n := 32) m1 m2
  have o2 : (a.toNat * 2 ^ 24 % 4294967296 ||| b.toNat * 2 ^ 16 % 4294967296) ||| c.toNat * 2 ^ 8 % 4294967296 < 4294967296 := Nat.or_lt_two_pow (n := 32) o1 m3
  have f1 : IntKind.u32.wrap (IntKind.u32.wrap (a.toNat : Int) * 16777216) = ((a.toNat * 2 ^ 24 % 4294967296 : Nat) : Int) := by rw [IntKind.wrap_u32', IntKind.wrap_u32']; omega
  have f2 : IntKind.u32.wrap (IntKind.u32.wrap (b.toNat : Int) * 65536) = ((b.toNat * 2 ^ 16 % 4294967296 : Nat) : Int) := by rw [IntKind.wrap_u32', IntKind.wrap_u32']; omega
  have f3 : IntKind.u32.wrap (IntKind.u32.wrap (c.toNat : Int) * 256) = ((c.toNat * 2 ^ 8 % 4294967296 : Nat) : Int) := by rw [IntKind.wrap_u32', IntKind.wrap_u32']; omega
  have f4 : IntKind.u32.wrap (d.toNat : Int) = ((d.toNat : Nat) : Int) := by rw [IntKind.wrap_u32']; omega
  rw [f1, f2, f3, f4, u32_or_nat _ _ m1 m2, u32_or_nat _ _ o1 m3, u32_or_nat _ _ o2 (by omega), w4_or]

set_option maxHeartbeats 1600000 in
theorem l03K_call (w : World) : Calls Tryz.prog 94 #[] w fun e w' => e = .returned (.slice (some ⟨w.heap.size, 0, none⟩) 64 64) ∧ W32At w' w.heap.size K ∧ Below w.heap.size w w' := by
  go_enter Tryz.func94, Tryz.ntmps94
  go_wp2
  go_ret
  refine ⟨rfl, ⟨by simp, fun j hj => ?_⟩, (Below.refl _ w).alloc (Nat.le_refl _) _⟩
  have h := cell_of_row (w.alloc (.cells (cells32 K).toArray 132)) w.heap.size j _ _ _ (heap_alloc_new w _)
  rw [List.getElem?_toArray, cells32_get K j hj] at h
  exact h

set_option maxHeartbeats 1600000 in
theorem block_call (s : St) (l : List UInt8) (g1 c1 g2 o2 c2 : Nat) (w : World) (hs : okS s) (hl : l.length = 64) (h1 : W32At w g1 (stL s)) (h2 : B8At w g2 o2 l) (ho2 : o2 + 64 ≤ 9223372036854775807) :
    Calls Tryz.prog 84 #[.slice (some ⟨g1, 0, none⟩) 8 c1, .slice (some ⟨g2, o2, none⟩) 64 c2] w fun e w' => ∃ v, e = .returned v ∧ w'.ownsRow w.heap.size 132 1 v 8 (cells32 (stL (cmp 1 s (w16 l 16)))) ∧ Below w.heap.size w w' := by
  obtain ⟨i0, hi, hz0, hz1, hz2⟩ := info_parts Tryz.info132
  go_enter Tryz.func84, Tryz.ntmps84
  go_wp2
  go_loopw [5, 6] (fun v i wr => ∃ k : Nat, k ≤ 16 ∧ i = .int .i64 k ∧ wr.ownsRow w.heap.size 132 1 v k (cells32 (w16 l k)) ∧ Below w.heap.size w wr) (fun _ i _ => 16 - (intOf i).toNat)
  case atStart => exact ⟨0, by omega, rfl, World.ownsRow_made w #[] 0 (Nat.le_refl _) (by simp) rfl, (Below.refl _ w).alloc (Nat.le_refl _) _⟩
  case round =>
    obtain ⟨k, hk, rfl, hown, hbel⟩ := hrel
    have hbs := hbel.size
    by_cases hlt : k < 16
    · have v0 : IntKind.i64.wrap (4 * (k : Int)) = 4 * (k : Int) := IntWalk.i64_in _ (by omega)
      have v1 : IntKind.i64.wrap (4 * (k : Int) + 1) = 4 * (k : Int) + 1 := IntWalk.i64_in _ (by omega)
      have v2 : IntKind.i64.wrap (4 * (k : Int) + 2) = 4 * (k : Int) + 2 := IntWalk.i64_in _ (by omega)
      have v3 : IntKind.i64.wrap (4 * (k : Int) + 3) = 4 * (k : Int) + 3 := IntWalk.i64_in _ (by omega)
      have q0 : (4 * (k : Int)).toNat = 4 * k := by omega
      have q1 : (4 * (k : Int) + 1).toNat = 4 * k + 1 := by omega
      have q2 : (4 * (k : Int) + 2).toNat = 4 * k + 2 := by omega
      have q3 : (4 * (k : Int) + 3).toNat = 4 * k + 3 := by omega
      have n0 : 0 ≤ 4 * (k : Int) := by omega
      have n1 : 0 ≤ 4 * (k : Int) + 1 := by omega
      have n2 : 0 ≤ 4 * (k : Int) + 2 := by omega
      have n3 : 0 ≤ 4 * (k : Int) + 3 := by omega
      have m0 : 4 * (k : Int) < 64 := by omega
      have m1 : 4 * (k : Int) + 1 < 64 := by omega
      have m2 : 4 * (k : Int) + 2 < 64 := by omega
      have m3 : 4 * (k : Int) + 3 < 64 := by omega
      have x0 := (hbel.cell (p := ⟨g2, o2 + 4 * k, none⟩) h2.1).trans (h2.2 (4 * k) (by omega))
      have x1 := (hbel.cell (p := ⟨g2, o2 + (4 * k + 1), none⟩) h2.1).trans (h2.2 (4 * k + 1) (by omega))
      have x2 := (hbel.cell (p := ⟨g2, o2 + (4 * k + 2), none⟩) h2.1).trans (h2.2 (4 * k + 2) (by omega))
      have x3 := (hbel.cell (p := ⟨g2, o2 + (4 * k + 3), none⟩) h2.1).trans (h2.2 (4 * k + 3) (by omega))
      have HO := Lib.hid (show w16 l (k + 1) = w16 l k ++ [w4 (l.getD (4 * k) 0) (l.getD (4 * k + 1) 0) (l.getD (4 * k + 2) 0) (l.getD (4 * k + 3) 0)] from w16_snoc l k)
      generalize l.getD (4 * k) 0 = b0 at x0 HO
      generalize l.getD (4 * k + 1) 0 = b1 at x1 HO
      generalize l.getD (4 * k + 2) 0 = b2 at x2 HO
      generalize l.getD (4 * k + 3) 0 = b3 at x3 HO
      have hor := u32_or3 b0 b1 b2 b3
      generalize w4 b0 b1 b2 b3 = x at hor HO
      have hg2 := h2.1
      have hne : (some g2 : Option Nat) ≠ u5.ownBlock := fun e => by have := (hown.lt g2 e.symm).1; omega
      have H1 := Lib.hid h1
      have H2 := Lib.hid h2
      clear h1 h2
      go_wp2
      go_region_held3 (fun W => W.cell? ⟨g2, o2 + 4 * k, none⟩ = some (.int .u8 ((b0.toNat : Nat) : Int)) ∧ W.cell? ⟨g2, o2 + (4 * k + 1), none⟩ = some (.int .u8 ((b1.toNat : Nat) : Int)) ∧ W.cell? ⟨g2, o2 + (4 * k + 2), none⟩ = some (.int .u8 ((b2.toNat : Nat) : Int)) ∧ W.cell? ⟨g2, o2 + (4 * k + 3), none⟩ = some (.int .u8 ((b3.toNat : Nat) : Int))) (first | exact ⟨x0, x1, x2, x3⟩ | (go_split_ands; exact ⟨(World.cell?_of_block (a := ⟨g2, _, none⟩) (hgrow.block g2 (by simp; omega) hne)).trans (by assumption), (World.cell?_of_block (a := ⟨g2, _, none⟩) (hgrow.block g2 (by simp; omega) hne)).trans (by assumption), (World.cell?_of_block (a := ⟨g2, _, none⟩) (hgrow.block g2 (by simp; omega) hne)).trans (by assumption), (World.cell?_of_block (a := ⟨g2, _, none⟩) (hgrow.block g2 (by simp; omega) hne)).trans (by assumption)⟩) | go_keep) ((refine step_append_lies _ (by rfl) _ _ _ (by rfl) w.heap.size 132 i0 _ 1 4 Tryz.underlying134 hi hz0 hz1 hz2 rfl (by omega) u5 k _ (by rfl) ((hown.alloc _).drew) ⟨wr.heap.size, 0, none⟩ 1 1 [.int .u32 (x : Int)] (by rfl) (by rfl) (World.news_of_block (cs := #[.int .u32 (x : Int)]) (t := 132) (fr := (0, 0)) (heap_alloc_new wr _)) (by simp [Value.oneCell']) (by omega) (by unfold maxLen; omega) (by omega) (by simp; omega) (wr.heap.size + 1) (by simp) ?_; intro gg cap w1 hown1 hgrow hat hlt2))
      go_wp2
      go_roundw
      case rel => exact ⟨k + 1, by omega, by go_num, by rw [HO.out, cells32_append]; exact hown1, ((hbel.alloc hbs _).drew).grown hgrow (by simp; omega) (fun j e => (hown.lt j e).1)⟩
      case measure => simp [intOf]; omega
    · have hk16 : k = 16 := by omega
      rw [hk16] at hown
      clear hk16
      have H1 := Lib.hid h1
      have H2 := Lib.hid h2
      clear h1 h2
      have HW := Lib.hid (w16_len l 16)
      have HWs := Lib.hid (w16_small l 16)
      generalize hw0 : w16 l 16 = W0 at hown HW HWs
      have HW0 := Lib.hid hw0
      clear hw0
      go_wp2
      go_loopw [5, 7, 8, 9] (fun v i _ _ wr => ∃ (t : Nat) (G : List Nat), 16 ≤ t ∧ t ≤ 64 ∧ i = .int .i64 (t : Int) ∧ Hid (G = grow (t - 16) W0) ∧ Hid (G.length = t) ∧ Hid (∀ j, G.getD j 0 < 4294967296) ∧ wr.ownsRow w.heap.size 132 1 v t (cells32 G) ∧ Below w.heap.size w wr) (fun _ i _ _ _ => 64 - (intOf i).toNat)
      case atStart => exact ⟨16, W0, by omega, by omega, rfl, rfl, HW, HWs, hown, hbel⟩
      case round =>
        clear hown hbel hbs
        obtain ⟨t, G, ht1, ht2, rfl, HG, HGl, HGs, hown, hbel⟩ := hrel
        have hbs := hbel.size
        obtain ⟨gw, cw, rfl, hgb, hW⟩ := row_words hown HGl.out.symm (by omega)
        have hgw := hW.1
        by_cases hlt2 : t < 64
        · have HN := Lib.hid (grow_drop G (t - 16) (by have := HGl.out; omega))
          have v2 : IntKind.i64.wrap ((t : Int) - 2) = (t : Int) - 2 := IntWalk.i64_in _ (by omega)
          have v7 : IntKind.i64.wrap ((t : Int) - 7) = (t : Int) - 7 := IntWalk.i64_in _ (by omega)
          have v15 : IntKind.i64.wrap ((t : Int) - 15) = (t : Int) - 15 := IntWalk.i64_in _ (by omega)
          have v16 : IntKind.i64.wrap ((t : Int) - 16) = (t : Int) - 16 := IntWalk.i64_in _ (by omega)
          have q2 : ((t : Int) - 2).toNat = t - 2 := by omega
          have q7 : ((t : Int) - 7).toNat = t - 7 := by omega
          have q15 : ((t : Int) - 15).toNat = t - 15 := by omega
          have q16 : ((t : Int) - 16).toNat = t - 16 := by omega
          have n2 : 0 ≤ (t : Int) - 2 := by omega
          have n7 : 0 ≤ (t : Int) - 7 := by omega
          have n15 : 0 ≤ (t : Int) - 15 := by omega
          have n16 : 0 ≤ (t : Int) - 16 := by omega
          have m2 : (t : Int) - 2 < t := by omega
          have m7 : (t : Int) - 7 < t := by omega
          have m15 : (t : Int) - 15 < t := by omega
          have m16 : (t : Int) - 16 < t := by omega
          have l2 : G.getD (t - 2) 0 < 4294967296 := HGs.out _
          have l15 : G.getD (t - 15) 0 < 4294967296 := HGs.out _
          have x2 := hW.2 (t - 2) (by have := HGl.out; omega)
          have x7 := hW.2 (t - 7) (by have := HGl.out; omega)
          have x15 := hW.2 (t - 15) (by have := HGl.out; omega)
          have x16 := hW.2 (t - 16) (by have := HGl.out; omega)
          have X7 := cells32_get G (t - 7) (by have := HGl.out; omega)
          have X16 := cells32_get G (t - 16) (by have := HGl.out; omega)
          have e9 : t - 16 + 9 = t - 7 := by omega
          have e1 : t - 16 + 1 = t - 15 := by omega
          have e14 : t - 16 + 14 = t - 2 := by omega
          rw [e9, e1, e14] at HN
          clear e9 e1 e14 hW
          generalize G.getD (t - 2) 0 = y at x2 HN l2
          generalize G.getD (t - 15) 0 = x at x15 HN l15
          generalize G.getD (t - 7) 0 = q at x7 HN X7
          generalize G.getD (t - 16) 0 = p at x16 HN X16
          have X7 := Lib.hid X7
          have X16 := Lib.hid X16
          have hA1 := xor_one _ _ (rr_lt x 7) (rr_lt x 18)
          have hA2 := s0_bits x l15
          have hB1 := xor_one _ _ (rr_lt y 17) (rr_lt y 19)
          have hB2 := s1_bits y l2
          have hsum := next_word p q x y l15 l2
          have N1 : ((p + q + s0 1 x + s1 1 y) % 4294967296) < 4294967296 := Nat.mod_lt _ (by omega)
          generalize (p + q + s0 1 x + s1 1 y) % 4294967296 = z at hsum HN N1
          generalize rr x 7 ^^^ rr x 18 = A1 at hA1 hA2
          generalize rr y 17 ^^^ rr y 19 = B1 at hB1 hB2
          generalize s0 1 x = A2 at hA2 hsum
          generalize s1 1 y = B2 at hB2 hsum
          go_wp2
          go_quiet (fail)
          generalize hwd : wr.drewN nq = wd
          have HWD := Lib.hid hwd
          clear hwd
          have hown' : wd.ownsRow w.heap.size 132 1 (.slice (some ⟨gw, 0, none⟩) t cw) t (cells32 G) := by rw [← HWD.out]; exact hown
          have hbel' : Below w.heap.size w wd := by rw [← HWD.out]; exact below_drewN hbel _
          have x7' : wd.cell? ⟨gw, t - 7, none⟩ = some (.int .u32 (q : Int)) := by rw [← HWD.out]; exact x7
          have x16' : wd.cell? ⟨gw, t - 16, none⟩ = some (.int .u32 (p : Int)) := by rw [← HWD.out]; exact x16
          clear x2 x7 x15 x16 hown hbel v2 v15 q2 q15 n2 n15 m2 m15
          have hbs2 := hbel'.size
          go_wp2
          have o7 : (7 : Int) ≤ (t : Int) := by omega
          have o16 : (16 : Int) ≤ (t : Int) := by omega
          have HX7 := Lib.hid (show (cells32 G)[t - 7]? = some (.int .u32 (q : Int)) from X7.out)
          have HX16 := Lib.hid (show (cells32 G)[t - 16]? = some (.int .u32 (p : Int)) from X16.out)
          go_region_held3 (fun W => W.cell? ⟨gw, t - 7, none⟩ = some (.int .u32 (q : Int)) ∧ W.cell? ⟨gw, t - 16, none⟩ = some (.int .u32 (p : Int)))
            (first | exact ⟨x7', x16'⟩ | (go_split_ands; exact ⟨hkeep _ _ HX7.out, hkeep _ _ HX16.out⟩) | go_keep)
            (first
              | (refine step_append_keeps _ (by rfl) _ _ _ (by rfl) w.heap.size 132 i0 _ 4 Tryz.underlying134 hi hz0 hz1 hz2 rfl gw t cw _ (by rfl) ((hown'.alloc _).drew) ⟨wd.heap.size, 0, none⟩ 1 1 [.int .u32 (z : Int)] (by rfl) (by rfl) (World.news_of_block (cs := #[.int .u32 (z : Int)]) (t := 132) (fr := (0, 0)) (heap_alloc_new wd _)) (by simp [Value.oneCell']) (by omega) (by unfold maxLen; omega) (by omega) (by simp; omega) ?_; intro gg cap w1 hown1 hgrow hkeep)
              | (go_simp; go_at_call 93; refine (l03Turn_i _ _ (by first | exact l2 | exact l15) (by omega) (by omega) _).mono ?_; rintro e wc ⟨rfl, rfl⟩))
          have HG2 := Lib.hid (show G ++ [z] = grow (t + 1 - 16) W0 by
            have e : t + 1 - 16 = (t - 16) + 1 := by omega
            rw [e, grow_succ, ← HG.out, ext, HGl.out, HN.out])
          have HGl2 := Lib.hid (show (G ++ [z]).length = t + 1 by rw [List.length_append, HGl.out]; rfl)
          have HGs2 := Lib.hid (small_append G z HGs.out N1)
          go_wp2
          go_roundw
          case rel => exact ⟨t + 1, G ++ [z], by omega, by omega, by go_num, HG2, HGl2, HGs2, by rw [cells32_append]; exact hown1, ((hbel'.alloc hbs2 _).drew).grown hgrow (by simp; omega) (fun j e => by injection e with e; subst e; exact hgb)⟩
          case measure => simp [intOf]; omega
        · have ht64 : t = 64 := by omega
          have HT64 := Lib.hid ht64
          clear ht64 hown hlt
          have hs1 := H1.out
          go_wp2_with fail
          refine (l03K_call _).mono ?_
          rintro e w1 ⟨rfl, hK, bK⟩
          have hbs1 := bK.size
          have hWl := cells32_len (stL s)
          have hst : (stL s).length = 8 := rfl
          rw [hst] at hWl
          have hnews := w32_news ((hs1.below (hbel.trans (bK.mono hbs))).below ((Below.refl _ w1).alloc (Nat.le_refl _) (.cells #[] 132)))
          go_wp2_with (at_builtin; refine wpList_append_lies _ rfl _ _ _ rfl w.heap.size 132 i0 _ 1 4 Tryz.underlying134 hi hz0 hz1 hz2 rfl (by omega) (.slice (some ⟨w1.heap.size, 0, none⟩) 0 0) 0 [] rfl (World.ownsRow_made w1 #[] 0 (by omega) (by simp) rfl) ⟨g1, 0, none⟩ 8 c1 (cells32 (stL s)) rfl hWl hnews (by simp [cells32, Value.oneCell']) (by omega) (by unfold maxLen; omega) (by omega) (by simp; omega) (w1.heap.size + 1) (by simp) ?_; intro gg cap w2 hown2 hgrow hat hlt2)
          have b12 : Below w1.heap.size w1 w2 := ((Below.refl _ w1).alloc (Nat.le_refl _) (.cells #[] 132)).grown hgrow (by simp) (fun j e => by simp [Value.ownBlock] at e; omega)
          have hW2 := (hW.below bK).below b12
          have hK2 := hK.below b12
          have bw2 := (hbel.trans (bK.mono hbs)).trans (b12.mono (by omega))
          have hw2s := bw2.size
          rw [List.nil_append, Nat.zero_add] at hown2
          have HS1 := Lib.hid hs1
          clear hnews hK hs1 hWl hgrow hat b12 bK hbel hW hbs1
          generalize hkk : wr.heap.size = gk at hK2 ⊢
          have HKK := Lib.hid hkk
          clear hkk
          go_loopw [11, 12, 13, 14, 15] (fun v i _ _ _ wx => ∃ (n : Nat) (S : St), n ≤ 64 ∧ i = .int .i64 (n : Int) ∧ Hid (S = rr64 G s n) ∧ okS S ∧ wx.ownsRow w.heap.size 132 1 v 8 (cells32 (stL S)) ∧ Below w2.heap.size w2 wx) (fun _ i _ _ _ _ => 64 - (intOf i).toNat)
          case atStart => exact ⟨0, s, by omega, rfl, rfl, hs, hown2, Below.refl _ _⟩
          case round =>
            clear hown2
            obtain ⟨n, S, hn, rfl, HS, hok, hown, hbel⟩ := hrel
            have hbs3 := hbel.size
            obtain ⟨ga, ca, rfl, hgab, hA⟩ := row_words hown rfl (by omega)
            have hga := hA.1
            by_cases hlt3 : n < 64
            · obtain ⟨ka, kb, kc, kd, ke, kf, kg, kh⟩ := hok
              obtain ⟨a, b, c, d, e, f, g, h⟩ := S
              simp only at ka kb kc kd ke kf kg kh
              have y0 : wr.cell? ⟨ga, 0, none⟩ = some (.int .u32 (a : Int)) := hA.2 0 (by simp [stL])
              have y1 : wr.cell? ⟨ga, 1, none⟩ = some (.int .u32 (b : Int)) := hA.2 1 (by simp [stL])
              have y2 : wr.cell? ⟨ga, 2, none⟩ = some (.int .u32 (c : Int)) := hA.2 2 (by simp [stL])
              have y3 : wr.cell? ⟨ga, 3, none⟩ = some (.int .u32 (d : Int)) := hA.2 3 (by simp [stL])
              have y4 : wr.cell? ⟨ga, 4, none⟩ = some (.int .u32 (e : Int)) := hA.2 4 (by simp [stL])
              have y5 : wr.cell? ⟨ga, 5, none⟩ = some (.int .u32 (f : Int)) := hA.2 5 (by simp [stL])
              have y6 : wr.cell? ⟨ga, 6, none⟩ = some (.int .u32 (g : Int)) := hA.2 6 (by simp [stL])
              have y7 : wr.cell? ⟨ga, 7, none⟩ = some (.int .u32 (h : Int)) := hA.2 7 (by simp [stL])
              have yw := (hW2.below hbel).2 n (by rw [HGl.out]; omega)
              have yk := (hK2.below hbel).2 n (by show n < 64; omega)
              have kw := HGs.out n
              have kk := K_lt n
              generalize hgw : G.getD n 0 = wv at yw kw
              generalize hgk : K.getD n 0 = kv at yk kk
              have HGW := Lib.hid hgw
              have HGK := Lib.hid hgk
              have HA := Lib.hid hA
              have HW2 := Lib.hid hW2
              have HK2 := Lib.hid hK2
              clear hgw hgk hA hW2 hK2
              have HR := Lib.hid (rnd_eq kv wv a b c d e f g h)
              have hx1 := xor_one _ _ (rr_lt e 6) (rr_lt e 11)
              have hx2 := e1_bits e
              have hx3 := u32_and_nat e f ke kf
              have hx4 := not_bits e ke
              have hx5 := u32_and_nat (e ^^^ M32) g (xor_lt _ _ ke M32_lt) kg
              have hx6 := ch_bits e f g ke kf kg
              have hx7 := x_bits h e f g kv wv
              have hX : (h + e1 1 e + chS 1 e f g + kv * 1 + wv) % 4294967296 < 4294967296 := Nat.mod_lt _ (by omega)
              generalize (h + e1 1 e + chS 1 e f g + kv * 1 + wv) % 4294967296 = X at hx7 HR hX
              generalize rr e 6 ^^^ rr e 11 = p1 at hx1 hx2
              generalize e1 1 e = p2 at hx2 hx7
              generalize e &&& f = p3 at hx3 hx6
              generalize hp5 : (e ^^^ M32) &&& g = p5 at hx5 hx6
              clear hp5
              generalize e ^^^ M32 = p4 at hx4 hx5
              generalize chS 1 e f g = p6 at hx6 hx7
              go_wp2
              go_quiet ((go_at_call 93; exact Calls.quiet_of_same (l03Turn_q _ _ ke (by omega) (by omega) _)))
              rw [hx7]
              generalize hwd : wr.drewN nq = wd
              have HWD := Lib.hid hwd
              clear hwd
              have y0' : wd.cell? ⟨ga, 0, none⟩ = some (.int .u32 (a : Int)) := by rw [← HWD.out]; exact y0
              have y1' : wd.cell? ⟨ga, 1, none⟩ = some (.int .u32 (b : Int)) := by rw [← HWD.out]; exact y1
              have y2' : wd.cell? ⟨ga, 2, none⟩ = some (.int .u32 (c : Int)) := by rw [← HWD.out]; exact y2
              have y3' : wd.cell? ⟨ga, 3, none⟩ = some (.int .u32 (d : Int)) := by rw [← HWD.out]; exact y3
              have y4' : wd.cell? ⟨ga, 4, none⟩ = some (.int .u32 (e : Int)) := by rw [← HWD.out]; exact y4
              have y5' : wd.cell? ⟨ga, 5, none⟩ = some (.int .u32 (f : Int)) := by rw [← HWD.out]; exact y5
              have y6' : wd.cell? ⟨ga, 6, none⟩ = some (.int .u32 (g : Int)) := by rw [← HWD.out]; exact y6
              have hown' : wd.ownsRow w.heap.size 132 1 (.slice (some ⟨ga, 0, none⟩) 8 ca) 8 (cells32 (stL ⟨a, b, c, d, e, f, g, h⟩)) := by rw [← HWD.out]; exact hown
              have hbel' : Below w2.heap.size w2 wd := by rw [← HWD.out]; exact below_drewN hbel _
              clear y0 y1 y2 y3 y4 y5 y6 y7 yw yk hown hbel hx1 hx2 hx3 hx4 hx5 hx6
              have hy1 := xor_one _ _ (rr_lt a 2) (rr_lt a 13)
              have hy2 := e0_bits a
              have hy3 := u32_and_nat a b ka kb
              have hy4 := u32_and_nat a c ka kc
              have hy5 := u32_xor_nat _ _ (and_lt2 a b kb) (and_lt2 a c kc)
              have hy6 := u32_and_nat b c kb kc
              have hy7 := maj_bits a b c ka kb kc
              have hy8 : (((e0 1 a : Nat) : Int) + ((majS a b c : Nat) : Int)) % 4294967296 = (((e0 1 a + majS a b c) % 4294967296 : Nat) : Int) := by omega
              have hY : (e0 1 a + majS a b c) % 4294967296 < 4294967296 := Nat.mod_lt _ (by omega)
              generalize (e0 1 a + majS a b c) % 4294967296 = Y at hy8 HR hY
              generalize rr a 2 ^^^ rr a 13 = r1 at hy1 hy2
              generalize e0 1 a = r2 at hy2 hy8
              generalize (a &&& b) ^^^ (a &&& c) = r5 at hy5 hy7
              generalize a &&& b = r3 at hy3 hy5
              generalize a &&& c = r4 at hy4 hy5
              generalize b &&& c = r6 at hy6 hy7
              generalize majS a b c = r7 at hy7 hy8
              go_wp2
              go_quiet ((go_at_call 93; exact Calls.quiet_of_same (l03Turn_q _ _ ka (by omega) (by omega) _)))
              generalize hwe : wd.drewN nq = we
              have HWE := Lib.hid hwe
              clear hwe
              have z0 : we.cell? ⟨ga, 0, none⟩ = some (.int .u32 (a : Int)) := by rw [← HWE.out]; exact y0'
              have z1 : we.cell? ⟨ga, 1, none⟩ = some (.int .u32 (b : Int)) := by rw [← HWE.out]; exact y1'
              have z2 : we.cell? ⟨ga, 2, none⟩ = some (.int .u32 (c : Int)) := by rw [← HWE.out]; exact y2'
              have z3 : we.cell? ⟨ga, 3, none⟩ = some (.int .u32 (d : Int)) := by rw [← HWE.out]; exact y3'
              have z4 : we.cell? ⟨ga, 4, none⟩ = some (.int .u32 (e : Int)) := by rw [← HWE.out]; exact y4'
              have z5 : we.cell? ⟨ga, 5, none⟩ = some (.int .u32 (f : Int)) := by rw [← HWE.out]; exact y5'
              have z6 : we.cell? ⟨ga, 6, none⟩ = some (.int .u32 (g : Int)) := by rw [← HWE.out]; exact y6'
              have hbel2 : Below w2.heap.size w2 we := by rw [← HWE.out]; exact below_drewN hbel' _
              have hwe3 := hbel2.size
              have hga3 : ga < we.heap.size := by rw [← HWE.out]; have := (hown'.lt ga rfl).2; exact this
              have new0 := World.new_ne we _ z0
              have HY8 := Lib.hid hy8
              clear y0' y1' y2' y3' y4' y5' y6' hown' hbel' hy1 hy2 hy3 hy4 hy5 hy6 hy7 hy8 hx7
              have hXY : ((X : Int) + (Y : Int)) % 4294967296 = (((X + Y) % 4294967296 : Nat) : Int) := by omega
              have hDX : ((d : Int) + (X : Int)) % 4294967296 = (((d + X) % 4294967296 : Nat) : Int) := by omega
              have HXY := Lib.hid hXY
              have HDX := Lib.hid hDX
              clear hXY hDX
              have kXY : (X + Y) % 4294967296 < 4294967296 := Nat.mod_lt _ (by omega)
              have kDX : (d + X) % 4294967296 < 4294967296 := Nat.mod_lt _ (by omega)
              generalize (X + Y) % 4294967296 = a2 at HXY HR kXY
              generalize (d + X) % 4294967296 = e2 at HDX HR kDX
              go_wp2
              go_region_held3 (fun W => W.cell? ⟨ga, 0, none⟩ = some (.int .u32 (a : Int)) ∧ W.cell? ⟨ga, 1, none⟩ = some (.int .u32 (b : Int)) ∧ W.cell? ⟨ga, 2, none⟩ = some (.int .u32 (c : Int)) ∧ W.cell? ⟨ga, 3, none⟩ = some (.int .u32 (d : Int)) ∧ W.cell? ⟨ga, 4, none⟩ = some (.int .u32 (e : Int)) ∧ W.cell? ⟨ga, 5, none⟩ = some (.int .u32 (f : Int)) ∧ W.cell? ⟨ga, 6, none⟩ = some (.int .u32 (g : Int)))
                (first | exact ⟨z0, z1, z2, z3, z4, z5, z6⟩ | go_keep) ((fail))
              go_wp2
              go_roundw
              case rel => exact ⟨n + 1, ⟨a2, a, b, c, e2, e, f, g⟩, by omega, by go_num, Lib.hid (by rw [rr64, ← HS.out, HGK.out, HGW.out, HR.out]), ⟨kXY, ka, kb, kc, kDX, ke, kf, kg⟩, by rw [HY8.out, HXY.out, HDX.out]; exact row_built we w.heap.size 132 #[.int .u32 (a2 : Int), .int .u32 (a : Int), .int .u32 (b : Int), .int .u32 (c : Int), .int .u32 (e2 : Int), .int .u32 (e : Int), .int .u32 (f : Int), .int .u32 (g : Int)] 8 (by omega) rfl (by unfold maxLen; omega), (hbel2.alloc (by omega) _).drew⟩
              case measure => simp [intOf]; omega
            · have hn64 : n = 64 := by omega
              have HE := Lib.hid (show S = rr64 G s 64 by rw [HS.out, hn64])
              have hst1 := (HS1.out.below bw2).below (hbel.mono (Nat.le_refl _))
              have HA := Lib.hid hA
              have HST := Lib.hid hst1
              have hg1s := hst1.1
              have HOK := Lib.hid hok
              clear hA hst1 hW2 hK2 hn64 hok
              go_wp2
              go_loopw [16, 17] (fun v i wx => ∃ j : Nat, j ≤ 8 ∧ i = .int .i64 (j : Int) ∧ wx.ownsRow wr.heap.size 132 1 v j (cells32 ((stL (addS 1 s S)).take j)) ∧ Below wr.heap.size wr wx) (fun _ i _ => 8 - (intOf i).toNat)
              case atStart => exact ⟨0, by omega, rfl, World.ownsRow_made wr #[] 0 (by omega) (by simp) rfl, (Below.refl _ wr).alloc (Nat.le_refl _) _⟩
              case round =>
                clear hown
                obtain ⟨j, hj, rfl, hown, hbelj⟩ := hrel
                by_cases hlt4 : j < 8
                · have xs := (HST.out.below hbelj).2 j (by show j < 8; omega)
                  have xa := (HA.out.below hbelj).2 j (by show j < 8; omega)
                  have ls := stL_lt s hs j
                  have la := stL_lt S HOK.out j
                  have HT := Lib.hid (stL_add s S j hlt4)
                  generalize (stL s).getD j 0 = p at xs ls HT
                  generalize (stL S).getD j 0 = q at xa la HT
                  have hsum : IntKind.u32.wrap ((p : Int) + (q : Int)) = (((p + q) % 4294967296 : Nat) : Int) := by rw [IntKind.wrap_u32']; omega
                  generalize (p + q) % 4294967296 = z at hsum HT
                  have hne1 : (some g1 : Option Nat) ≠ u16.ownBlock := fun e => by have := (hown.lt g1 e.symm).1; omega
                  have hne2 : (some ga : Option Nat) ≠ u16.ownBlock := fun e => by have := (hown.lt ga e.symm).1; omega
                  have hbs5 := hbelj.size
                  go_wp2
                  go_region_held3 (fun W => W.cell? ⟨g1, j, none⟩ = some (.int .u32 (p : Int)) ∧ W.cell? ⟨ga, j, none⟩ = some (.int .u32 (q : Int)))
                    (first | exact ⟨xs, xa⟩ | (go_split_ands; exact ⟨(World.cell?_of_block (a := ⟨g1, _, none⟩) (hgrow.block g1 (by simp; omega) hne1)).trans (by assumption), (World.cell?_of_block (a := ⟨ga, _, none⟩) (hgrow.block ga (by simp; omega) hne2)).trans (by assumption)⟩) | go_keep)
                    ((refine step_append_lies _ (by rfl) _ _ _ (by rfl) _ 132 i0 _ 1 4 Tryz.underlying134 hi hz0 hz1 hz2 rfl (by omega) u16 j _ (by rfl) ((hown.alloc _).drew) ⟨wr.heap.size, 0, none⟩ 1 1 [.int .u32 (z : Int)] (by rfl) (by rfl) (World.news_of_block (cs := #[.int .u32 (z : Int)]) (t := 132) (fr := (0, 0)) (heap_alloc_new wr _)) (by simp [Value.oneCell']) (by omega) (by unfold maxLen; omega) (by omega) (by simp; omega) (wr.heap.size + 1) (by simp) ?_; intro gg cap w1 hown1 hgrow hat hlt2))
                  go_wp2
                  go_roundw
                  case rel => exact ⟨j + 1, by omega, by go_num, by rw [HT.out, cells32_append]; exact hown1, ((hbelj.alloc hbs5 _).drew).grown hgrow (by simp; omega) (fun k e => (hown.lt k e).1)⟩
                  case measure => simp [intOf]; omega
                · have hj8 : j = 8 := by omega
                  have HF := Lib.hid (show cells32 ((stL (addS 1 s S)).take j) = cells32 (stL (cmp 1 s W0)) by rw [hj8, HE.out, HG.out, cmp_grow _ _ HW.out, HT64.out]; rfl)
                  go_wp2
                  go_ret
                  exact ⟨_, rfl, ownsRow_base (by rw [HW0.out, ← HF.out, ← hj8]; exact hown) (by omega), bw2.trans ((hbel.mono (by omega)).trans (hbelj.mono (by omega)))⟩

end Go.Proofs.YtonpalaopnfffaaGreatDoor
