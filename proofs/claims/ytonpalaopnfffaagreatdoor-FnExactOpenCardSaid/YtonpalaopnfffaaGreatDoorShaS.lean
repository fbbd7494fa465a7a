/- CONTRACT of the model's Sha. -/
import Derived.Test.YtonpalaopnfffaaGreatDoorBlock
import Derived.Test.YtonpalaopnfffaaGreatDoorRow8
import Derived.Test.YtonpalaopnfffaaGreatDoorShaI
import Derived.Deep.LoopGhost

namespace Go.Proofs.YtonpalaopnfffaaGreatDoor
set_option linter.unusedVariables false
set_option maxRecDepth 4000
open Go.ChangeShapes Go.WideShapes Go.ChangeAt Go.RowKit
open Go.ChangeMaps (open_string shut_string)
open Sh

def padZs (j : Nat) : List UInt8 := 128 :: List.replicate j 0

theorem padZs_len (j : Nat) : (padZs j).length = j + 1 := by simp [padZs]

theorem padZs_snoc (j : Nat) : padZs (j + 1) = padZs j ++ [0] := by simp [padZs, List.replicate_succ']

/-- the last so many of the eight bytes of a number -/
def lenB (x : Nat) : Nat → List UInt8
  | 0 => []
  | j + 1 => UInt8.ofNat (x / 2 ^ (8 * j)) :: lenB x j

theorem row8_at {w : World} {base g n cap : Nat} {l : List UInt8} (h : Row8 w base (.slice (some ⟨g, 0, none⟩) n cap) l) : B8At w g 0 l := by
  obtain ⟨g2, cap2, hv, hb, hg, hl, hm, hc, _⟩ := h
  injection hv with e1 e2 e3
  injection e1 with e1
  injection e1 with e1
  subst e1
  refine ⟨hg, fun j hj => ?_⟩
  rw [Nat.zero_add]
  refine hc j _ ?_
  unfold cells8
  rw [List.getElem?_map, List.getElem?_eq_getElem hj, List.getD_eq_getElem?_getD, List.getElem?_eq_getElem hj]
  rfl

theorem row8_cap {w : World} {base g n cap : Nat} {l : List UInt8} (h : Row8 w base (.slice (some ⟨g, 0, none⟩) n cap) l) : l.length ≤ cap := by
  obtain ⟨g2, cap2, hv, hb, hg, hl, _⟩ := h
  injection hv with e1 e2 e3
  omega

theorem b8_below {w w' : World} {g o : Nat} {l : List UInt8} (h : B8At w g o l) (hb : Below w.heap.size w w') : B8At w' g o l :=
  ⟨Nat.lt_of_lt_of_le h.1 hb.size, fun j hj => (hb.cell (p := ⟨g, o + j, none⟩) h.1).trans (h.2 j hj)⟩

theorem b8_sub {w : World} {g o : Nat} {l : List UInt8} (h : B8At w g o l) (k n : Nat) (hk : k + n ≤ l.length) : B8At w g (o + k) ((l.drop k).take n) := by
  refine ⟨h.1, fun j hj => ?_⟩
  have hj2 : j < n := by rw [List.length_take] at hj; omega
  have := h.2 (k + j) (by omega)
  rw [Nat.add_assoc, this]
  congr 4
  rw [List.getD_eq_getElem?_getD, List.getD_eq_getElem?_getD, List.getElem?_take, if_pos hj2, List.getElem?_drop]

theorem outB_snocS (l : List Nat) (x : Nat) : outB (l ++ [x]) = outB l ++ wB x := by simp [outB]

theorem wrap_u8s (n : Int) : IntKind.u8.wrap n = n % 256 := by simp [IntKind.wrap, IntKind.signed, IntKind.bits]

/-- the first j of the eight bytes -/
def preB (x j : Nat) : List UInt8 := (wB (x / 4294967296) ++ wB x).take j

theorem preB_snoc (x j : Nat) (hj : j < 8) (hx : x < 18446744073709551616) : preB x (j + 1) = preB x j ++ [UInt8.ofNat (x / 2 ^ (8 * (7 - j)))] := by
  have h : ∀ a b : Nat, a % 256 = b % 256 → UInt8.ofNat a = UInt8.ofNat b := fun a b h => by
    apply UInt8.toNat_inj.1; rw [UInt8.toNat_ofNat', UInt8.toNat_ofNat']; exact h
  unfold preB
  match j, hj with
  | 0, _ => simp [wB]; exact h _ _ (by omega)
  | 1, _ => simp [wB]; exact h _ _ (by omega)
  | 2, _ => simp [wB]; exact h _ _ (by omega)
  | 3, _ => simp [wB]
  | 4, _ => simp [wB]
  | 5, _ => simp [wB]
  | 6, _ => simp [wB]
  | 7, _ => simp [wB]

set_option maxHeartbeats 3200000 in
theorem sha_spec (s : ByteArray) (hs : s.size ≤ 16777216) (w : World) :
    Calls Tryz.prog 73 #[.string s] w fun e w' => e = .returned (.string (txt (shaL s.data.toList))) ∧ Below w.heap.size w w' := by
  obtain ⟨i0, hi, hz0, hz1, hz2⟩ := info_parts Tryz.info5
  have hdl := data_length s
  obtain ⟨z, hz⟩ : ∃ z, z = (119 - s.size % 64) % 64 := ⟨_, rfl⟩
  have hz64 : z < 64 := by omega
  have HP := Lib.hid (show padL s.size = padZs z ++ (wB (8 * s.size / 4294967296) ++ wB (8 * s.size)) by rw [hz]; rfl)
  have HM := Lib.hid (show ∀ j, j ≤ z → ((s.size + (j + 1)) % 64 = 56 ↔ j = z) by intro j hj; omega)
  have HDL := Lib.hid hdl
  clear hz hdl
  obtain ⟨cap, wc, hcv, hrow, bcv⟩ := row8_conv (P := Tryz.prog) w 9 34 5 s Tryz.underlying9 Tryz.underlying34 Tryz.underlying5 hs
  have hdl2 : s.data.toList.length + 1 ≤ 1048576 * 64 := by rw [HDL.out]; omega
  have HPUSH := Lib.hid (fun (wx : World) (v : Value) (l : List UInt8) (hr : Row8 wx w.heap.size v l) (o : Obj) => row8_below hr ((Below.refl _ wx).alloc (Nat.le_refl _) o))
  go_enter Tryz.func73, Tryz.ntmps73
  go_wp2_with (at_builtin; refine wpList_push8 _ rfl _ _ _ rfl w.heap.size 5 i0 Tryz.underlying34 hi hz0 hz1 hz2 (.slice (some ⟨w.heap.size, 0, none⟩) s.size cap) s.data.toList rfl (HPUSH.out _ _ _ hrow _) ⟨wc.heap.size, 0, none⟩ 1 128 rfl (by simp) hdl2 (by have := bcv.size; simp; omega) ?_; intro v1 w1 hrow1 hg1)
  have b1 : Below w.heap.size w w1 := (bcv.alloc bcv.size _).grown hg1 (by have := bcv.size; simp; omega) (fun k e => by simp [Value.ownBlock] at e; omega)
  clear hcv hrow bcv hg1 hdl2
  go_loopg [3] z (fun g v wx => ∃ j : Nat, j + g = z ∧ Row8 wx w.heap.size v (s.data.toList ++ padZs j) ∧ Below w.heap.size w wx)
  case atStart => exact ⟨0, by omega, hrow1, b1⟩
  case round =>
    clear hrow1 b1
    obtain ⟨j, hj, hrow, hbel⟩ := hrel
    obtain ⟨g, cp, rfl, hgb, hg⟩ := row8_len hrow
    have hM := HM.out j (by omega)
    have hbs := hbel.size
    have hlen : (s.data.toList ++ padZs j).length = s.size + (j + 1) := by rw [List.length_append, HDL.out, padZs_len]
    rw [hlen]
    cases gk with
    | zero =>
      have hz : j = z := by omega
      have ht : (((s.size : Int) + ((j : Int) + 1)) % 64 != 56) = false := by
        have := hM.2 hz
        simp; omega
      have hrow0 : Row8 wr w.heap.size (.slice (some ⟨g, 0, none⟩) (s.size + (j + 1)) cp) (s.data.toList ++ padZs z) := by rw [← hlen, ← hz]; exact hrow
      clear hM hz hj hlen
      go_wp2
      have hp0 : preB (8 * s.size) 0 = [] := rfl
      have hbelj := hbel
      clear hrow hbel
      go_loopg [3, 5] 8 (fun g v i wx => ∃ m : Nat, m + g = 8 ∧ i = .int .i64 (7 - (m : Int)) ∧ Row8 wx w.heap.size v ((s.data.toList ++ padZs z) ++ preB (8 * s.size) m) ∧ Below w.heap.size w wx)
      case atStart => exact ⟨0, by omega, rfl, by rw [hp0, List.append_nil]; exact hrow0, hbelj⟩
      case round =>
        clear hrow0 hbelj hbs hg hgb
        obtain ⟨m, hm, rfl, hrow, hbel⟩ := hrel
        obtain ⟨g2, cp2, rfl, hgb, hg⟩ := row8_len hrow
        have hbs := hbel.size
        have hlen : ((s.data.toList ++ padZs z) ++ preB (8 * s.size) m).length = s.size + (z + 1) + m := by
          rw [List.length_append, List.length_append, HDL.out, padZs_len, preB, List.length_take, List.length_append, wB_len, wB_len]; omega
        rw [hlen]
        cases gk with
        | zero =>
          have hm8 : m = 8 := by omega
          have HB := Lib.hid (show (s.data.toList ++ padZs z) ++ preB (8 * s.size) m = s.data.toList ++ padL s.size by rw [HP.out, hm8, List.append_assoc]; rfl)
          have hneg : ¬ (0 ≤ 7 - (m : Int)) := by omega
          have hcp := row8_cap hrow
          rw [HB.out] at hcp
          have hb8 : B8At wr g2 0 (s.data.toList ++ padL s.size) := by rw [← HB.out]; exact row8_at hrow
          have hlb : s.size + (z + 1) + m = (s.data.toList ++ padL s.size).length := by rw [← HB.out, hlen]
          have hmod : (s.data.toList ++ padL s.size).length % 64 = 0 := by rw [List.length_append, HDL.out]; exact pad_mod _
          have HE := Lib.hid (show shaL s.data.toList = outB (stL (blkN ((s.data.toList ++ padL s.size).length / 64) H0 (s.data.toList ++ padL s.size))) by
            unfold shaL endL; rw [Nat.zero_add, HDL.out])
          have hbig : (s.data.toList ++ padL s.size).length ≤ 16777216 + 73 := by rw [← hlb]; omega
          generalize s.data.toList ++ padL s.size = L at hb8 hlb hmod HE hbig hcp
          rw [hlb]
          clear HB hm8 hlen hrow hm hlb
          go_wp2
          have hb0 : Below w.heap.size w wr := hbel
          have hrw := row_built wr w.heap.size 132 #[.int .u32 1779033703, .int .u32 3144134277, .int .u32 1013904242, .int .u32 2773480762, .int .u32 1359893119, .int .u32 2600822924, .int .u32 528734635, .int .u32 1541459225] 8 hbs rfl (by unfold maxLen; omega)
          have HN := Lib.hid (show L.length = 64 * (L.length / 64) by omega)
          go_loopg [6, 7] (L.length / 64) (fun g v i wx => ∃ j : Nat, j + g = L.length / 64 ∧ i = .int .i64 ((64 * j : Nat) : Int) ∧ wx.ownsRow w.heap.size 132 1 v 8 (cells32 (stL (blkN j H0 L))) ∧ Below wr.heap.size wr wx)
          case atStart => exact ⟨0, by omega, rfl, hrw, (Below.refl _ wr).alloc (Nat.le_refl _) _⟩
          case round =>
            clear hrw
            obtain ⟨j2, hj2, rfl, hown, hbel2⟩ := hrel
            have hbs2 := hbel2.size
            cases gk with
            | zero =>
              have hjN : j2 = L.length / 64 := by omega
              rw [hjN] at hown
              have HX := Lib.hid (stL_lt _ (blkN_okS (L.length / 64) H0 L H0_ok))
              have hl8 : (stL (blkN (L.length / 64) H0 L)).length = 8 := rfl
              generalize stL (blkN (L.length / 64) H0 L) = SL at hown HE HX hl8
              obtain ⟨g3, c3, rfl, hgb3, hA⟩ := row_words hown hl8.symm (by omega)
              have hnl : ¬ (((64 * j2 : Nat) : Int) < (L.length : Int)) := by have := HN.out; omega
              have hbw : Below w.heap.size w wr := hb0.trans (hbel2.mono hbs)
              have hbws := hbw.size
              have hga := hA.1
              have HA := Lib.hid hA
              clear hjN hj2 hown hA hbel2 hbs2
              go_wp2
              go_loopg [8, 9] 8 (fun g v i wx => ∃ k : Nat, k + g = 8 ∧ i = .int .i64 (k : Int) ∧ wx.ownsRow wr.heap.size 5 1 v (outB (SL.take k)).length (cells8 (outB (SL.take k))) ∧ Below wr.heap.size wr wx)
              case atStart => exact ⟨0, by omega, rfl, World.ownsRow_made wr #[] 0 (Nat.le_refl _) (by simp) rfl, (Below.refl _ wr).alloc (Nat.le_refl _) _⟩
              case round =>
                obtain ⟨k, hk, rfl, hown, hbel4⟩ := hrel
                have hbs4 := hbel4.size
                have hol : (outB (SL.take k)).length ≤ 4194304 := by rw [outB_len, List.length_take]; omega
                cases gk with
                | zero =>
                  have hk8 : ¬ ((k : Int) < 8) := by omega
                  have HF := Lib.hid (show outB (SL.take k) = shaL s.data.toList by rw [HE.out, List.take_of_length_le (by omega)])
                  rw [HF.out] at hown
                  have hcv := bytes_back_own (P := Tryz.prog) wr 34 9 5 _ u8 _ _ rfl Tryz.underlying34 Tryz.underlying5 Tryz.underlying9 hown
                  clear HF hol hown hk
                  generalize (shaL s.data.toList).length = el at hcv
                  go_wp2
                  go_ret
                  exact ⟨rfl, hbw.trans (hbel4.mono hbws)⟩
                | succ gg =>
                  have hk8 : (k : Int) < 8 := by omega
                  have hx := (HA.out.below hbel4).2 k (by omega)
                  have lx := HX.out k
                  have HO := Lib.hid (show cells8 (outB (SL.take (k + 1))) = cells8 (outB (SL.take k)) ++ [.int .u8 ((SL.getD k 0 : Nat) / 16777216), .int .u8 ((SL.getD k 0 : Nat) / 65536 % 256), .int .u8 ((SL.getD k 0 : Nat) / 256 % 256), .int .u8 ((SL.getD k 0 : Nat) % 256)] by
                    rw [← wB_cells _ lx, ← cells8_append, List.take_succ_eq_append_getElem (by omega), List.getD_eq_getElem?_getD, List.getElem?_eq_getElem (by omega), outB_snocS]
                    rfl)
                  have HOL := Lib.hid (show (outB (SL.take (k + 1))).length = (outB (SL.take k)).length + 4 by rw [outB_len, outB_len, List.length_take, List.length_take]; omega)
                  generalize SL.getD k 0 = x at hx lx HO
                  have c1 : IntKind.u8.wrap ((x : Int) / 16777216) = (x : Int) / 16777216 := by rw [wrap_u8s]; omega
                  have c2 : IntKind.u8.wrap ((x : Int) / 65536) = (x : Int) / 65536 % 256 := wrap_u8s _
                  have c3 : IntKind.u8.wrap ((x : Int) / 256) = (x : Int) / 256 % 256 := wrap_u8s _
                  have c4 : IntKind.u8.wrap (x : Int) = (x : Int) % 256 := wrap_u8s _
                  have hne : (some g3 : Option Nat) ≠ u8.ownBlock := fun e => by have := (hown.lt g3 e.symm).1; omega
                  go_wp2
                  go_region_held3 (fun W => W.cell? ⟨g3, k, none⟩ = some (.int .u32 (x : Int)))
                    (first | exact hx | exact (World.cell?_of_block (a := ⟨g3, _, none⟩) (hgrow.block g3 (by simp; omega) hne)).trans (by assumption) | go_keep)
                    ((refine step_append_lies _ (by rfl) _ _ _ (by rfl) _ 5 i0 _ 1 1 Tryz.underlying34 hi hz0 hz1 hz2 rfl (by omega) u8 _ _ (by rfl) ((hown.alloc _).drew) ⟨wr.heap.size, 0, none⟩ 4 4 [.int .u8 ((x : Int) / 16777216), .int .u8 ((x : Int) / 65536 % 256), .int .u8 ((x : Int) / 256 % 256), .int .u8 ((x : Int) % 256)] (by rfl) (by rfl) (World.news_of_block (cs := #[.int .u8 ((x : Int) / 16777216), .int .u8 ((x : Int) / 65536 % 256), .int .u8 ((x : Int) / 256 % 256), .int .u8 ((x : Int) % 256)]) (t := 5) (fr := (0, 0)) (heap_alloc_new wr _)) (by simp [Value.oneCell']) (by omega) (by unfold maxLen; omega) (by omega) (by simp; omega) (wr.heap.size + 1) (by simp) ?_; intro gg2 cap2 w1 hown1 hgrow hat hlt2))
                  go_wp2
                  go_roundg gg
                  case measure => omega
                  case rel => exact ⟨k + 1, by omega, by go_num, by rw [HO.out, HOL.out]; exact hown1, ((hbel4.alloc hbs4 _).drew).grown hgrow (by simp; omega) (fun j e => (hown.lt j e).1)⟩
            | succ gg =>
              have h64 : 64 * (j2 + 1) ≤ L.length := by have := HN.out; omega
              obtain ⟨g3, c3, rfl, hgb3, hA⟩ := row_words hown rfl (by omega)
              have hL64 : ((L.drop (64 * j2)).take 64).length = 64 := by rw [List.length_take, List.length_drop]; omega
              have hB := b8_sub (b8_below hb8 hbel2) (64 * j2) 64 (by omega)
              rw [Nat.zero_add] at hB
              have HBC := Lib.hid (fun c2 => block_call (blkN j2 H0 L) _ g3 c3 g2 (64 * j2) c2 wr (blkN_okS _ _ _ H0_ok) hL64 hA hB (by omega))
              rw [← blkN_snoc] at HBC
              have s1 : ((64 * j2 : Nat) : Int) < (L.length : Int) := by omega
              have s2 : ((64 * j2 : Nat) : Int) + 64 ≤ (L.length : Int) := by omega
              have s3 : IntKind.i64.wrap (((64 * j2 : Nat) : Int) + 64) = ((64 * j2 : Nat) : Int) + 64 := IntWalk.i64_in _ (by omega)
              clear hA hB hL64 hown
              generalize hq : 64 * j2 = q at HBC s1 s2 s3 h64
              go_wp2_with fail
              refine (HBC.out _).mono ?_
              rintro e w2 ⟨v2, rfl, hown2, b2⟩
              have hbs3 : w.heap.size ≤ wr.heap.size := Nat.le_trans hbs hbs2
              go_wp2
              go_roundg gg
              case measure => omega
              case rel => exact ⟨j2 + 1, by omega, by rw [show ((64 * (j2 + 1) : Nat) : Int) = (q : Int) + 64 by omega], ownsRow_base hown2 hbs3, hbel2.trans (b2.mono hbs2)⟩
        | succ gg =>
          have HO := Lib.hid (show (s.data.toList ++ padZs z) ++ preB (8 * s.size) (m + 1) = ((s.data.toList ++ padZs z) ++ preB (8 * s.size) m) ++ [UInt8.ofNat (8 * s.size / 2 ^ (8 * (7 - m)))] by
            rw [preB_snoc _ _ (by omega) (by omega), ← List.append_assoc])
          have hm8 : 7 - (m : Int) = ((7 - m : Nat) : Int) := by omega
          rw [hm8]
          have HM8 := Lib.hid (show (((7 - m : Nat) : Int)) - 1 = 7 - ((m + 1 : Nat) : Int) by omega)
          clear hm8
          have hq : 7 - m ≤ 7 := by omega
          generalize 7 - m = q at HO hq HM8 ⊢
          have hcx : IntKind.u8.wrap (8 * (s.size : Int) / 2 ^ (8 * q)) = (((UInt8.ofNat (8 * s.size / 2 ^ (8 * q))).toNat : Nat) : Int) := by
            rw [UInt8.toNat_ofNat']
            have e1 : (8 * (s.size : Int)) / 2 ^ (8 * q) = ((8 * s.size / 2 ^ (8 * q) : Nat) : Int) := by rw [shr_cast]; simp
            rw [e1]
            simp [IntKind.wrap, IntKind.signed, IntKind.bits]
          have f1 : (8 * (q : Int)).toNat = 8 * q := by omega
          have f2 : IntKind.i64.wrap (8 * (q : Int)) = 8 * (q : Int) := IntWalk.i64_in _ (by omega)
          have f3 : IntKind.u64.wrap (8 * (q : Int)) = 8 * (q : Int) := by rw [IntKind.wrap_u64]; omega
          have f4 : 0 ≤ 8 * (q : Int) := by omega
          generalize UInt8.ofNat (8 * s.size / 2 ^ (8 * q)) = xb at HO hcx
          go_wp2_with (at_builtin; refine wpList_push8 _ rfl _ _ _ rfl w.heap.size 5 i0 Tryz.underlying34 hi hz0 hz1 hz2 (.slice (some ⟨g2, 0, none⟩) (s.size + (z + 1) + m) cp2) ((s.data.toList ++ padZs z) ++ preB (8 * s.size) m) rfl (by rw [← hlen]; exact HPUSH.out _ _ _ hrow _) ⟨wr.heap.size, 0, none⟩ 1 xb rfl (by simp) (by rw [hlen]; omega) (by simp; omega) ?_; intro v2 w2 hrow2 hg2)
          go_roundg gg
          case measure => omega
          case rel => exact ⟨m + 1, by omega, by rw [← HM8.out], by rw [HO.out]; exact hrow2, (hbel.alloc hbs _).grown hg2 (by simp; omega) (fun k e => by simp [Value.ownBlock] at e; omega)⟩
    | succ gg =>
      have ht : (((s.size : Int) + ((j : Int) + 1)) % 64 != 56) = true := by
        have : ¬ j = z := by omega
        have h2 := fun h => this (hM.1 h)
        simp; omega
      have HO := Lib.hid (show s.data.toList ++ padZs (j + 1) = (s.data.toList ++ padZs j) ++ [0] by rw [padZs_snoc, List.append_assoc])
      clear hM
      go_wp2_with (at_builtin; refine wpList_push8 _ rfl _ _ _ rfl w.heap.size 5 i0 Tryz.underlying34 hi hz0 hz1 hz2 (.slice (some ⟨g, 0, none⟩) (s.size + (j + 1)) cp) (s.data.toList ++ padZs j) rfl (by rw [← hlen]; exact HPUSH.out _ _ _ hrow _) ⟨wr.heap.size, 0, none⟩ 1 0 rfl (by simp) (by rw [hlen]; omega) (by simp; omega) ?_; intro v2 w2 hrow2 hg2)
      go_roundg gg
      case measure => omega
      case rel => exact ⟨j + 1, by omega, by rw [HO.out]; exact hrow2, (hbel.alloc hbs _).grown hg2 (by simp; omega) (fun k e => by simp [Value.ownBlock] at e; omega)⟩

end Go.Proofs.YtonpalaopnfffaaGreatDoor
