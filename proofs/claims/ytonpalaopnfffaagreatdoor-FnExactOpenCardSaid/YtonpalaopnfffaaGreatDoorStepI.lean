/- CONTRACT of the program's step over one block. -/
import Derived.Test.YtonpalaopnfffaaGreatDoorShaI
import Derived.ChangeKeysEq

namespace Go.Proofs.YtonpalaopnfffaaGreatDoor
set_option linter.unusedVariables false
set_option maxRecDepth 4000
open Go.ChangeShapes Go.WideShapes Go.ChangeAt Go.RowKit
open Go.ChangeMaps (open_string shut_string)
open Sh

theorem run_index_arr {P : Program} (w : World) (t e : TypeId) (n : Nat) (i : TypeInfo) (cs : Array Value) (k : Nat) (v : Value) (hu : P.underlying t = some (.array n e)) (hi : P.info? e = some i) (hs : i.size = 1) (hp : P.plainKey e = true) (hce : P.cellsOf e = 1) (hk : k < n) (hv : cs[k]? = some v) :
    (Instr.index t (.agg cs) (.int .i64 (k : Int))).run P w = .ok v w := by
  have hc : 0 ≤ (k : Int) ∧ (k : Int) < (n : Int) := by omega
  have hpart := run_part_plain (P := P) w hp (off := k) hv
  simp only [Instr.index, asIntOf, Sem.run_bind, Sem.run_pure, Result.andThen_ok, run_underlying hu, hc, and_self, if_true, run_sizeOf w hi, hce, Int.toNat_natCast, Nat.mul_one, hpart]

theorem heap_lt {w : World} {g : Nat} {o : Obj} (h : w.heap[g]? = some o) : g < w.heap.size := by
  rcases Nat.lt_or_ge g w.heap.size with hlt | hge
  · exact hlt
  · rw [Array.getElem?_eq_none hge] at h; cases h

/-- the first so many words added already -/
def mixL (s r : St) (k : Nat) : List Nat := (stL (addS 1 s r)).take k ++ (stL s).drop k

theorem mixL_len (s r : St) (k : Nat) (hk : k ≤ 8) : (mixL s r k).length = 8 := by
  have h1 : (stL (addS 1 s r)).length = 8 := rfl
  have h2 : (stL s).length = 8 := rfl
  simp [mixL]; omega

theorem mixL_at (s r : St) (k : Nat) (hk : k < 8) : (cells32 (mixL s r k)).toArray[k]? = some (.int .u32 (((stL s).getD k 0 : Nat) : Int)) := by
  have h1 : (stL (addS 1 s r)).length = 8 := rfl
  have h2 : (stL s).length = 8 := rfl
  rw [List.getElem?_toArray, cells32_get _ _ (by rw [mixL_len s r k (by omega)]; omega)]
  congr 3
  unfold mixL
  rw [List.getD_eq_getElem?_getD, List.getElem?_append_right (by simp; omega), List.length_take, h1, Nat.min_eq_left (by omega), Nat.sub_self, List.getElem?_drop, Nat.add_zero, ← List.getD_eq_getElem?_getD]

theorem mixL_set (s r : St) (k : Nat) (hk : k < 8) : (cells32 (mixL s r k)).toArray.setIfInBounds k (.int .u32 ((((stL s).getD k 0 + (stL r).getD k 0) % 4294967296 : Nat) : Int)) = (cells32 (mixL s r (k + 1))).toArray := by
  have h1 : (stL (addS 1 s r)).length = 8 := rfl
  have h2 : (stL s).length = 8 := rfl
  rw [List.setIfInBounds_toArray]
  congr 1
  have e : (cells32 (mixL s r k)).set k (.int .u32 ((((stL s).getD k 0 + (stL r).getD k 0) % 4294967296 : Nat) : Int)) = cells32 ((mixL s r k).set k (((stL s).getD k 0 + (stL r).getD k 0) % 4294967296)) := by
    simp only [cells32, List.map_set]
  rw [e]
  congr 1
  unfold mixL
  rw [List.set_append_right _ _ (by simp; omega), List.length_take, h1, Nat.min_eq_left (by omega), Nat.sub_self, List.drop_eq_getElem_cons (by omega : k < (stL s).length), List.set_cons_zero, stL_add s r k hk, List.append_assoc]
  rfl

theorem cells32_one (l : List Nat) : (cells32 l).toArray.all (·.oneCell') = true := by
  rw [Array.all_eq_true]
  intro i hi
  simp [cells32, Value.oneCell']

theorem words_call2 (s : ByteArray) (hs : s.size = 64) (w : World) :
    Calls Tryz.prog 104 #[.string s] w fun e w' => e = .returned (.agg (arrW fun c => (grow 48 (w16 s.data.toList 16)).getD c 0)) ∧ Below w.heap.size w w' := words_call s hs w

set_option maxHeartbeats 6400000 in
theorem step_call (s : St) (hs : okS s) (b : ByteArray) (hb : b.size = 64) (w : World) (hK : W32At w 1 K) :
    Calls Tryz.prog 99 #[aggS s, .string b] w fun e w' => e = .returned (aggS (cmp 1 s (w16 b.data.toList 16))) ∧ Below w.heap.size w w' := by
  have HC := Lib.hid (cmp_grow s (w16 b.data.toList 16) (w16_len _ _))
  have HWC := Lib.hid (fun wx => words_call2 b hb wx)
  generalize w16 b.data.toList 16 = W0 at HC HWC ⊢
  generalize hG : grow 48 W0 = G at HC HWC
  have HGG := Lib.hid hG
  clear hG
  have HS0 := Lib.hid (show s = rr64 G s 0 from rfl)
  have HS00 := Lib.hid hs
  obtain ⟨a, b', c, d, e, f, g, h⟩ := s
  change Calls Tryz.prog 99 #[.agg #[.int .u32 (a : Int), .int .u32 (b' : Int), .int .u32 (c : Int), .int .u32 (d : Int), .int .u32 (e : Int), .int .u32 (f : Int), .int .u32 (g : Int), .int .u32 (h : Int)], .string b] w _
  go_enter Tryz.func99, Tryz.ntmps99
  go_wp2
  go_quiet (fail)
  go_wp2
  go_quiet (fail)
  go_wp2_with fail
  refine (HWC.out _).mono ?_
  rintro e1 w1 ⟨rfl, b1⟩
  have B1 : Below w.heap.size w w1 := (below_drewN (((Below.refl w.heap.size w).alloc (Nat.le_refl _) _).alloc (by simp) _) _).trans (b1.mono (by simp; omega))
  have G0 := Lib.hid (show w1.heap[w.heap.size]? = some (.cells #[.int .u32 (a : Int), .int .u32 (b' : Int), .int .u32 (c : Int), .int .u32 (d : Int), .int .u32 (e : Int), .int .u32 (f : Int), .int .u32 (g : Int), .int .u32 (h : Int)] 143 (0, 0)) from
    (b1.block _ (by first | (simp; done) | (simp; omega))).trans ((heap_alloc_old _ _ (by simp)).trans (heap_alloc_new w _)))
  have G1 := Lib.hid (show w1.heap[w.heap.size + 1]? = some (.cells #[.int .u32 0, .int .u32 0, .int .u32 0, .int .u32 0, .int .u32 0, .int .u32 0, .int .u32 0, .int .u32 0] 143 (0, 0)) from
    (b1.block _ (by first | (simp; done) | (simp; omega))).trans (by
      have := heap_alloc_new (w.alloc (.cells #[.int .u32 (a : Int), .int .u32 (b' : Int), .int .u32 (c : Int), .int .u32 (d : Int), .int .u32 (e : Int), .int .u32 (f : Int), .int .u32 (g : Int), .int .u32 (h : Int)] 143)) (.cells #[.int .u32 0, .int .u32 0, .int .u32 0, .int .u32 0, .int .u32 0, .int .u32 0, .int .u32 0, .int .u32 0] 143)
      simpa using this))
  clear b1
  have HKK := Lib.hid hK
  have hGl := grow_len 48 W0
  generalize hAW : (arrW fun c => G.getD c 0) = AW
  have HAW := Lib.hid hAW
  clear hAW
  go_wp2
  go_loopg [5, 6, 7, 8, 9, 10, 11, 12, 13, 14, 15, 16, 37] 64 (fun gg va vb vc vd ve vf vg vh _ _ _ _ i wx => ∃ (n ra rb rc rd re rf rg rh : Nat), n + gg = 64 ∧ va = .int .u32 (ra : Int) ∧ vb = .int .u32 (rb : Int) ∧ vc = .int .u32 (rc : Int) ∧ vd = .int .u32 (rd : Int) ∧ ve = .int .u32 (re : Int) ∧ vf = .int .u32 (rf : Int) ∧ vg = .int .u32 (rg : Int) ∧ vh = .int .u32 (rh : Int) ∧ i = .int .i64 (n : Int) ∧ Hid (St.mk ra rb rc rd re rf rg rh = rr64 G ⟨a, b', c, d, e, f, g, h⟩ n) ∧ Hid (okS ⟨ra, rb, rc, rd, re, rf, rg, rh⟩) ∧ Below w1.heap.size w1 wx)
  case atStart => exact ⟨0, a, b', c, d, e, f, g, h, by omega, rfl, rfl, rfl, rfl, rfl, rfl, rfl, rfl, rfl, HS0, Lib.hid hs, Below.refl _ _⟩
  case round =>
    clear hs HS0 hK
    obtain ⟨n, ra, rb, rc, rd, re, rf, rg, rh, hn, rfl, rfl, rfl, rfl, rfl, rfl, rfl, rfl, rfl, HS, HOK, hbel⟩ := hrel
    cases gk with
    | zero =>
      have hn64 : n = 64 := by omega
      rw [hn64] at HS
      have HB := Lib.hid (show okS ⟨a, b', c, d, e, f, g, h⟩ from HS00.out)
      have HG0 := Lib.hid ((hbel.block _ (by have := B1.size; have := heap_lt G0.out; omega)).trans G0.out)
      have HG1 := Lib.hid ((hbel.block _ (by have := heap_lt G1.out; omega)).trans G1.out)
      have HE := Lib.hid (show cmp 1 ⟨a, b', c, d, e, f, g, h⟩ W0 = addS 1 ⟨a, b', c, d, e, f, g, h⟩ ⟨ra, rb, rc, rd, re, rf, rg, rh⟩ by rw [HC.out, HS.out])
      have hbelw : Below w.heap.size w wr := B1.trans (hbel.mono B1.size)
      have HSm := Lib.hid (show ∀ j, (stL ⟨a, b', c, d, e, f, g, h⟩).getD j 0 < 4294967296 from stL_lt _ HB.out)
      have HRm := Lib.hid (stL_lt _ HOK.out)
      have hl : ¬ ((n : Int) < 64) := by omega
      clear G0 G1 HC HS HOK hbel hn hn64 HB HGG HWC
      go_wp2
      go_loopg [17, 18, 108] 8 (fun gg _ _ i wx => ∃ k : Nat, k + gg = 8 ∧ i = .int .i64 (k : Int) ∧ Hid (wx.heap[w.heap.size]? = some (.cells (cells32 (mixL ⟨a, b', c, d, e, f, g, h⟩ ⟨ra, rb, rc, rd, re, rf, rg, rh⟩ k)).toArray 143 (0, 0))) ∧ Hid (wx.heap[w.heap.size + 1]? = some (.cells #[.int .u32 0, .int .u32 0, .int .u32 0, .int .u32 0, .int .u32 0, .int .u32 0, .int .u32 0, .int .u32 0] 143 (0, 0))) ∧ Below w.heap.size w wx)
      case atStart => exact ⟨0, by omega, rfl, HG0, HG1, hbelw⟩
      case round =>
        clear hbelw HG0 HG1
        obtain ⟨k, hk, rfl, G0, G1, hbel⟩ := hrel
        cases gk with
        | zero =>
          have hk8 : k = 8 := by omega
          have hl8 : ¬ ((k : Int) < 8) := by omega
          have HM := Lib.hid (show (cells32 (mixL ⟨a, b', c, d, e, f, g, h⟩ ⟨ra, rb, rc, rd, re, rf, rg, rh⟩ k)).toArray = (cells32 (stL (cmp 1 ⟨a, b', c, d, e, f, g, h⟩ W0))).toArray by
            rw [hk8, HE.out]; rfl)
          rw [HM.out] at G0
          have hAl : (cells32 (stL (cmp 1 ⟨a, b', c, d, e, f, g, h⟩ W0))).toArray.size = 8 := rfl
          have hA1 : (cells32 (stL (cmp 1 ⟨a, b', c, d, e, f, g, h⟩ W0))).toArray.all (·.oneCell') = true := cells32_one _
          have HQ := Lib.hid (show aggS (cmp 1 ⟨a, b', c, d, e, f, g, h⟩ W0) = .agg (cells32 (stL (cmp 1 ⟨a, b', c, d, e, f, g, h⟩ W0))).toArray from rfl)
          generalize (cells32 (stL (cmp 1 ⟨a, b', c, d, e, f, g, h⟩ W0))).toArray = CF at G0 hAl hA1 HQ
          have hld := run_loadAt_row (P := Tryz.prog) wr w.heap.size 143 CF 8 132 G0.out Tryz.underlying143 (by rw [hAl]; exact size8)
          have hst := run_storeAt_row (P := Tryz.prog) wr (w.heap.size + 1) 143 _ CF G1.out (by rw [hAl]; exact size8) (by rw [hAl]; rfl) hA1
          have hg3 := setRow_heap _ _ _ CF _ _ G1.out
          have HLD3 := Lib.hid (run_loadVar_row (P := Tryz.prog) _ (w.heap.size + 1) 143 143 CF (0, 0) _ hg3 Tryz.underlying143 rfl (by rw [hAl]; exact size8))
          clear hg3 hk hk8 hAl hA1
          go_wp2_with (first | refine wpList_load_of rfl _ _ rfl _ _ rfl hld ?_ | refine wpList_store_of rfl _ _ _ rfl _ _ rfl rfl hst ?_)
          refine bodyPost_ret (v := .agg CF) ?_ rfl ⟨by rw [HQ.out], below_setRow hbel (by omega) _⟩
          rw [results_cell_one rfl]
          exact HLD3.out
        | succ gg =>
          have hk8 : k < 8 := by omega
          have hl8 : (k : Int) < 8 := by omega
          have hc : wr.cell? ⟨w.heap.size, k, none⟩ = some (.int .u32 (((stL ⟨a, b', c, d, e, f, g, h⟩).getD k 0 : Nat) : Int)) := by rw [cell_of_row _ _ _ _ _ _ G0.out]; exact mixL_at _ _ k hk8
          have hfz := frozen_of_row wr w.heap.size k _ _ G0.out
          obtain ⟨i0, hi, hz0, hz1, hz2⟩ := info_parts Tryz.info132
          have hix : (#[Value.int .u32 (ra : Int), .int .u32 (rb : Int), .int .u32 (rc : Int), .int .u32 (rd : Int), .int .u32 (re : Int), .int .u32 (rf : Int), .int .u32 (rg : Int), .int .u32 (rh : Int)] : Array Value)[k]? = some (.int .u32 (((stL ⟨ra, rb, rc, rd, re, rf, rg, rh⟩).getD k 0 : Nat) : Int)) := by
            have := cells32_get (stL ⟨ra, rb, rc, rd, re, rf, rg, rh⟩) k hk8
            rw [← List.getElem?_toArray] at this
            exact this
          have hrix := fun wx => run_index_arr (P := Tryz.prog) wx 143 132 8 i0 _ k _ Tryz.underlying143 hi hz1 (by kernel_rfl) (by kernel_rfl) hk8 hix
          have lp := HSm.out k
          have lq := HRm.out k
          have HS := Lib.hid (mixL_set ⟨a, b', c, d, e, f, g, h⟩ ⟨ra, rb, rc, rd, re, rf, rg, rh⟩ k hk8)
          clear hix hi hz0 hz1 hz2
          generalize (stL ⟨a, b', c, d, e, f, g, h⟩).getD k 0 = p at hc lp HS
          generalize (stL ⟨ra, rb, rc, rd, re, rf, rg, rh⟩).getD k 0 = q at hrix lq HS
          have hsum : IntKind.u32.wrap ((p : Int) + (q : Int)) = (((p + q) % 4294967296 : Nat) : Int) := by rw [IntKind.wrap_u32']; omega
          have hsum2 : ((p : Int) + (q : Int)) % 4294967296 = (((p + q) % 4294967296 : Nat) : Int) := by omega
          generalize (p + q) % 4294967296 = z at hsum hsum2 HS
          go_wp2
          go_roundg gg
          case measure => omega
          case rel => exact ⟨k + 1, by omega, by go_num, Lib.hid (by rw [← HS.out]; exact heap_setCell_same wr w.heap.size k _ _ _ G0.out), Lib.hid ((heap_setCell_other wr ⟨w.heap.size, k, none⟩ (w.heap.size + 1) _ (by simp)).trans G1.out), hbel.setCell (p := ⟨w.heap.size, k, none⟩) (by simp) _⟩
    | succ gg =>
      obtain ⟨ka, kb, kc, kd, ke, kf, kg, kh⟩ := HOK.out
      simp only at ka kb kc kd ke kf kg kh
      have hix := arrW_get (fun c => G.getD c 0) n (by omega)
      rw [HAW.out] at hix
      obtain ⟨i0, hi, hz0, hz1, hz2⟩ := info_parts Tryz.info132
      have hrix := fun wx => run_index_arr (P := Tryz.prog) wx 156 132 64 i0 AW n _ Tryz.underlying156 hi hz1 (by kernel_rfl) (by kernel_rfl) (by omega) hix
      clear hi hz0 hz1 hz2
      have hAs : AW.size = 64 := by rw [← HAW.out, arrW_size]
      have yk := ((HKK.out.below B1).below hbel).2 n (by show n < 64; omega)
      have kk := K_lt n
      have hl : (n : Int) < 64 := by omega
      clear hix
      generalize hgw : G.getD n 0 = wv at hrix
      generalize hgk : K.getD n 0 = kv at yk kk
      have HGW := Lib.hid hgw
      have HGK := Lib.hid hgk
      clear hgw hgk
      have HR := Lib.hid (rnd_eq kv wv ra rb rc rd re rf rg rh)
      have hx1 := xor_one _ _ (rr_lt re 6) (rr_lt re 11)
      have hx2 := e1_bits re
      have hx3 := u32_and_nat re rf ke kf
      have hx4 := not_bits re ke
      have hx5 := u32_and_nat (re ^^^ M32) rg (xor_lt _ _ ke M32_lt) kg
      have hx6 := ch_bits re rf rg ke kf kg
      have hx7 := x_bits rh re rf rg kv wv
      have hX : (rh + e1 1 re + chS 1 re rf rg + kv * 1 + wv) % 4294967296 < 4294967296 := Nat.mod_lt _ (by omega)
      generalize (rh + e1 1 re + chS 1 re rf rg + kv * 1 + wv) % 4294967296 = X at hx7 HR hX
      generalize rr re 6 ^^^ rr re 11 = p1 at hx1 hx2
      generalize e1 1 re = p2 at hx2 hx7
      generalize re &&& rf = p3 at hx3 hx6
      generalize hp5 : (re ^^^ M32) &&& rg = p5 at hx5 hx6
      clear hp5
      generalize re ^^^ M32 = p4 at hx4 hx5
      generalize chS 1 re rf rg = p6 at hx6 hx7
      go_wp2
      go_quiet ((go_at_call 105; exact Calls.quiet_of_same (rotr_q _ _ ke (by omega) (by omega) _)))
      rw [hx7]
      generalize hwd : wr.drewN nq = wd
      have HWD := Lib.hid hwd
      clear hwd
      have hbel' : Below w1.heap.size w1 wd := by rw [← HWD.out]; exact below_drewN hbel _
      clear yk hbel hx1 hx2 hx3 hx4 hx5 hx6 hx7 hrix
      have hy1 := xor_one _ _ (rr_lt ra 2) (rr_lt ra 13)
      have hy2 := e0_bits ra
      have hy3 := u32_and_nat ra rb ka kb
      have hy4 := u32_and_nat ra rc ka kc
      have hy5 := u32_xor_nat _ _ (and_lt2 ra rb kb) (and_lt2 ra rc kc)
      have hy6 := u32_and_nat rb rc kb kc
      have hy7 := maj_bits ra rb rc ka kb kc
      have hy8 : (((e0 1 ra : Nat) : Int) + ((majS ra rb rc : Nat) : Int)) % 4294967296 = (((e0 1 ra + majS ra rb rc) % 4294967296 : Nat) : Int) := by omega
      have hY : (e0 1 ra + majS ra rb rc) % 4294967296 < 4294967296 := Nat.mod_lt _ (by omega)
      generalize (e0 1 ra + majS ra rb rc) % 4294967296 = Y at hy8 HR hY
      generalize rr ra 2 ^^^ rr ra 13 = r1 at hy1 hy2
      generalize e0 1 ra = r2 at hy2 hy8
      generalize (ra &&& rb) ^^^ (ra &&& rc) = r5 at hy5 hy7
      generalize ra &&& rb = r3 at hy3 hy5
      generalize ra &&& rc = r4 at hy4 hy5
      generalize rb &&& rc = r6 at hy6 hy7
      generalize majS ra rb rc = r7 at hy7 hy8
      have hXY : ((X : Int) + (Y : Int)) % 4294967296 = (((X + Y) % 4294967296 : Nat) : Int) := by omega
      have hDX : ((rd : Int) + (X : Int)) % 4294967296 = (((rd + X) % 4294967296 : Nat) : Int) := by omega
      have kXY : (X + Y) % 4294967296 < 4294967296 := Nat.mod_lt _ (by omega)
      have kDX : (rd + X) % 4294967296 < 4294967296 := Nat.mod_lt _ (by omega)
      have HXY := Lib.hid hXY
      have HDX := Lib.hid hDX
      have HY8 := Lib.hid hy8
      clear hXY hDX hy8
      generalize (X + Y) % 4294967296 = a2 at HXY HR kXY
      generalize (rd + X) % 4294967296 = e2 at HDX HR kDX
      go_wp2_with (go_at_call 105; refine (rotr_i _ _ ka (by omega) (by omega) _).mono ?_; rintro e1 w2 ⟨rfl, rfl⟩)
      go_roundg gg
      case measure => omega
      case rel => exact ⟨n + 1, a2, ra, rb, rc, e2, re, rf, rg, by omega, by rw [HY8.out, HXY.out], rfl, rfl, rfl, by rw [HDX.out], rfl, rfl, rfl, by go_num, Lib.hid (by rw [rr64, ← HS.out, HGK.out, HGW.out, HR.out]), Lib.hid ⟨kXY, ka, kb, kc, kDX, ke, kf, kg⟩, hbel'⟩

end Go.Proofs.YtonpalaopnfffaaGreatDoor
