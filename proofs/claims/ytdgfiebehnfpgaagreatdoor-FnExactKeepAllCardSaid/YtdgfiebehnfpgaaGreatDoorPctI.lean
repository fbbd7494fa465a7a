/- CONTRACTS of Pct and UnPct: the program's. -/
import Derived.Test.YtdgfiebehnfpgaaGreatDoorPct
import Derived.Lib.AppendStr
namespace Go.Proofs.YtdgfiebehnfpgaaGreatDoor
set_option linter.unusedVariables false
set_option maxRecDepth 4000
open Go.ChangeShapes Go.WideShapes Go.ChangeAt Go.RowKit
open Go.ChangeMaps (open_string shut_string)

theorem isDigit_call (b : UInt8) (w : World) : Calls Tryz.prog 122 #[.int .u8 b.toNat] w fun e w' => e = .returned (.bool (digitB b)) ∧ w = w' := by
  by_cases h1 : 48 ≤ b.toNat
  · by_cases h2 : b.toNat ≤ 57
    · go_enter Tryz.func122, Tryz.ntmps122
      go_wp2
      go_ret
      exact ⟨ret_bool (by rw [Bool.eq_iff_iff]; simp only [digitB, Bool.and_eq_true, Bool.or_eq_true, decide_eq_true_eq, Bool.false_eq_true, false_iff, true_iff]; omega), rfl⟩
    · go_enter Tryz.func122, Tryz.ntmps122
      go_wp2
      go_ret
      exact ⟨ret_bool (by rw [Bool.eq_iff_iff]; simp only [digitB, Bool.and_eq_true, Bool.or_eq_true, decide_eq_true_eq, Bool.false_eq_true, false_iff, true_iff]; omega), rfl⟩
  · go_enter Tryz.func122, Tryz.ntmps122
    go_wp2
    go_ret
    exact ⟨ret_bool (by rw [Bool.eq_iff_iff]; simp only [digitB, Bool.and_eq_true, Bool.or_eq_true, decide_eq_true_eq, Bool.false_eq_true, false_iff, true_iff]; omega), rfl⟩

theorem isLetter_call (b : UInt8) (w : World) : Calls Tryz.prog 121 #[.int .u8 b.toNat] w fun e w' => e = .returned (.bool (letterB b)) ∧ w = w' := by
  by_cases h1 : 97 ≤ b.toNat
  · by_cases h2 : b.toNat ≤ 122
    · go_enter Tryz.func121, Tryz.ntmps121
      go_wp2
      go_ret
      exact ⟨ret_bool (by rw [Bool.eq_iff_iff]; simp only [letterB, Bool.and_eq_true, Bool.or_eq_true, decide_eq_true_eq, Bool.false_eq_true, false_iff, true_iff]; omega), rfl⟩
    · go_enter Tryz.func121, Tryz.ntmps121
      go_wp2
      go_ret
      exact ⟨ret_bool (by rw [Bool.eq_iff_iff]; simp only [letterB, Bool.and_eq_true, Bool.or_eq_true, decide_eq_true_eq, Bool.false_eq_true, false_iff, true_iff]; omega), rfl⟩
  · by_cases h3 : 65 ≤ b.toNat
    · by_cases h4 : b.toNat ≤ 90
      · go_enter Tryz.func121, Tryz.ntmps121
        go_wp2
        go_ret
        exact ⟨ret_bool (by rw [Bool.eq_iff_iff]; simp only [letterB, Bool.and_eq_true, Bool.or_eq_true, decide_eq_true_eq, Bool.false_eq_true, false_iff, true_iff]; omega), rfl⟩
      · go_enter Tryz.func121, Tryz.ntmps121
        go_wp2
        go_ret
        exact ⟨ret_bool (by rw [Bool.eq_iff_iff]; simp only [letterB, Bool.and_eq_true, Bool.or_eq_true, decide_eq_true_eq, Bool.false_eq_true, false_iff, true_iff]; omega), rfl⟩
    · go_enter Tryz.func121, Tryz.ntmps121
      go_wp2
      go_ret
      exact ⟨ret_bool (by rw [Bool.eq_iff_iff]; simp only [letterB, Bool.and_eq_true, Bool.or_eq_true, decide_eq_true_eq, Bool.false_eq_true, false_iff, true_iff]; omega), rfl⟩

def signs4 : ByteArray := { data := #[45, 95, 46, 126] }

theorem signs4_all : ∀ i : Fin 256, decide (0 ≤ Lib.indexByte signs4.data.toList (UInt8.ofNat i.val)) = (UInt8.ofNat i.val == 45 || UInt8.ofNat i.val == 95 || UInt8.ofNat i.val == 46 || UInt8.ofNat i.val == 126) := by decide +kernel

theorem signs4_at (b : UInt8) : decide (0 ≤ Lib.indexByte signs4.data.toList b) = (b == 45 || b == 95 || b == 46 || b == 126) := by
  have h := signs4_all ⟨b.toNat, b.toNat_lt⟩
  rwa [UInt8.ofNat_toNat] at h

theorem safe_split (b : UInt8) : safeB b = (letterB b || digitB b || decide (0 ≤ Lib.indexByte signs4.data.toList b)) := by
  rw [signs4_at]; unfold safeB; simp only [Bool.or_assoc]

theorem signs4_call (c : UInt8) (w : World) :
    Calls Tryz.prog 123 #[.string { data := #[45, 95, 46, 126] }, .int .u8 c.toNat] w fun e w' => e = .returned (.int .i64 (Lib.indexByte signs4.data.toList c)) ∧ w = w' :=
  index_wrap signs4 c w

theorem isPlain_call (b : UInt8) (w : World) : Calls Tryz.prog 115 #[.int .u8 b.toNat] w fun e w' => e = .returned (.bool (safeB b)) ∧ w = w' := by
  have HS := Lib.hid (safe_split b)
  generalize safeB b = r at HS
  go_enter Tryz.func115, Tryz.ntmps115
  go_wp2_with fail
  refine (isLetter_call _ _).mono ?_
  rintro e w1 ⟨rfl, rfl⟩
  generalize letterB b = p at HS
  cases p
  · go_wp2_with fail
    refine (isDigit_call _ _).mono ?_
    rintro e w1 ⟨rfl, rfl⟩
    generalize digitB b = q at HS
    cases q
    · go_wp2_with fail
      refine (signs4_call _ _).mono ?_
      rintro e w1 ⟨rfl, rfl⟩
      go_wp2
      go_ret
      exact ⟨ret_bool (by rw [HS.out]; simp), rfl⟩
    · go_wp2
      go_ret
      exact ⟨ret_bool (by rw [HS.out]; simp), rfl⟩
  · go_wp2
    go_ret
    exact ⟨ret_bool (by rw [HS.out]; simp), rfl⟩

set_option maxHeartbeats 800000 in
theorem pct_impl (s : ByteArray) (w : World) (hs : s.size ≤ 1048576) :
    Calls Tryz.prog 70 #[.string s] w fun e w' => e = .returned (.string (txt (pctL s.data.toList))) ∧ Below w.heap.size w w' := by
  obtain ⟨i0, hi, hz0, hz1, hz2⟩ := info_parts Tryz.info5
  have hmk := make_row (P := Tryz.prog) 22 5 i0 (.int .u8 0) Tryz.underlying22 hi hz0 (s.size : Int) s.size (by omega) (by rw [hz2]; omega) (by omega)
  go_enter Tryz.func70, Tryz.ntmps70
  go_wp2
  go_loopw [3, 11] (fun v i wr => ∃ (k : Nat) (o : List UInt8), k ≤ s.size ∧ o.length ≤ 3 * k ∧ i = .int .i64 k ∧ Hid (o = pctL (s.data.toList.take k)) ∧ wr.ownsRow w.heap.size 5 1 v o.length (cells8 o) ∧ Below w.heap.size w wr) (fun _ i _ => s.size - (intOf i).toNat)
  case atStart => exact ⟨0, [], by omega, by simp, rfl, rfl, World.ownsRow_made w _ s.size (Nat.le_refl _) (by unfold maxLen; omega) (by rw [size_madeCells, Nat.mul_one]), (Below.refl _ w).alloc (Nat.le_refl _) _⟩
  case round =>
    clear hmk
    obtain ⟨k, o, hk1, hol, rfl, ho, hown, hbel⟩ := hrel
    by_cases hlt : k < s.size
    · have h256 : s[k].toNat < 256 := s[k].toNat_lt
      have hbs := hbel.size
      have HN := Lib.hid (show o ++ pctB s[k] = pctL (s.data.toList.take (k + 1)) by rw [take_snoc s k hlt, pctL_snoc, ho.out])
      have hpl := pctB_len s[k]
      have HB := Lib.hid (show pctB s[k] = if safeB s[k] then [s[k]] else [37, hexU (s[k].toNat / 16), hexU (s[k].toNat % 16)] from rfl)
      have hx1 := hexU_index (P := Tryz.prog) 9 Tryz.underlying9 .u8 (s[k].toNat / 16) (by omega)
      have hx2 := hexU_index (P := Tryz.prog) 9 Tryz.underlying9 .u8 (s[k].toNat % 16) (by omega)
      have e1 : ((s[k].toNat / 16 : Nat) : Int) = (s[k].toNat : Int) / 16 := by omega
      have e2 : ((s[k].toNat % 16 : Nat) : Int) = (s[k].toNat : Int) % 16 := by omega
      have hand : bits .and .u8 (s[k].toNat : Int) 15 = (s[k].toNat : Int) % 16 := by
        have := u8_and_nat s[k].toNat 15 h256 (by omega)
        rw [nat_mask4] at this
        rw [← e2]; exact this
      rw [e1] at hx1
      rw [e2] at hx2
      clear e1 e2
      generalize hexU (s[k].toNat / 16) = d1 at hx1 HB
      generalize hexU (s[k].toNat % 16) = d2 at hx2 HB
      cases hq : safeB s[k]
      · have hpb := HB.out
        rw [if_neg (by rw [hq]; simp)] at hpb
        rw [hpb] at HN
        clear hpb HB hpl
        go_wp2_with fail
        refine (isPlain_call _ _).mono ?_
        rintro e w1 ⟨rfl, rfl⟩
        rw [hq]
        clear hq
        go_wp2
        go_region_held3 (fun _ => True) (first | exact trivial | go_keep) ((refine step_append_lies _ (by rfl) _ _ _ (by rfl) w.heap.size 5 i0 _ 1 1 Tryz.underlying22 hi hz0 hz1 hz2 rfl (by omega) u3 o.length _ (by rfl) ((hown.alloc _).drew) ⟨wr.heap.size, 0, none⟩ 3 3 [.int .u8 37, .int .u8 d1.toNat, .int .u8 d2.toNat] (by rfl) (by rfl) (World.news_of_block (cs := #[.int .u8 37, .int .u8 d1.toNat, .int .u8 d2.toNat]) (t := 5) (fr := (0, 0)) (heap_alloc_new wr _)) (by simp [Value.oneCell']) (by omega) (by unfold maxLen; omega) (by omega) (by simp; omega) (wr.heap.size + 1) (by simp) ?_; intro gg cap w1 hown1 hgrow hat hlt))
        all_goals
          clear hx1 hx2 hand
          go_wp2
          go_roundw
          case rel => exact ⟨k + 1, o ++ [37, d1, d2], by omega, by simp; omega, by go_num, HN, by rw [cells8_append, List.length_append]; exact hown1, ((hbel.alloc hbel.size _).drew).grown hgrow (by simp; omega) (fun j e => (hown.lt j e).1)⟩
          case measure => simp [intOf]; omega
      · have hpb := HB.out
        rw [if_pos hq] at hpb
        rw [hpb] at HN
        clear hpb HB hpl hx1 hx2 hand
        go_wp2_with fail
        refine (isPlain_call _ _).mono ?_
        rintro e w1 ⟨rfl, rfl⟩
        rw [hq]
        clear hq
        go_wp2_with (at_builtin; refine wpList_append_lies _ rfl _ _ _ rfl w.heap.size 5 i0 _ 1 1 Tryz.underlying22 hi hz0 hz1 hz2 rfl (by omega) u3 o.length _ rfl (hown.alloc _) ⟨wr.heap.size, 0, none⟩ 1 1 [.int .u8 ((s[k].toNat : Nat) : Int)] rfl rfl (World.news_of_block (cs := #[.int .u8 ((s[k].toNat : Nat) : Int)]) (t := 5) (fr := (0, 0)) (heap_alloc_new wr _)) (by simp [Value.oneCell']) (by omega) (by unfold maxLen; omega) (by omega) (by simp; omega) (wr.heap.size + 1) (by simp) ?_; intro gg cap w1 hown1 hgrow hat hlt2)
        go_roundw
        case rel => exact ⟨k + 1, o ++ [s[k]], by omega, by simp; omega, by go_num, HN, by rw [cells8_append, List.length_append]; exact hown1, (hbel.alloc hbel.size _).grown hgrow (by simp; omega) (fun j e => (hown.lt j e).1)⟩
        case measure => simp [intOf]; omega
    · have he : s.data.toList.take k = s.data.toList := List.take_of_length_le (by rw [Array.length_toList]; show s.size ≤ k; omega)
      have ho2 := ho.out
      rw [he] at ho2
      have HO := Lib.hid ho2
      have hcv := bytes_back_own (P := Tryz.prog) wr 22 9 5 w.heap.size u3 o.length o rfl Tryz.underlying22 Tryz.underlying5 Tryz.underlying9 hown
      clear he ho2
      go_wp2
      go_ret
      exact ⟨ret_str (by rw [HO.out]), hbel⟩

theorem strCells_txtI (l : List UInt8) : Lib.strCells (txt l) = cells8 l := by simp [Lib.strCells, txt, cells8]

theorem low_hex_all : ∀ i : Fin 256, hexV (lowB (UInt8.ofNat i.val)) = hexV (UInt8.ofNat i.val) ∧ (0 ≤ hexV (UInt8.ofNat i.val) → hexD (hexV (UInt8.ofNat i.val)).toNat = lowB (UInt8.ofNat i.val)) := by decide +kernel

theorem low_hex (c : UInt8) : hexV (lowB c) = hexV c ∧ (0 ≤ hexV c → hexD (hexV c).toNat = lowB c) := by
  have h := low_hex_all ⟨c.toNat, c.toNat_lt⟩
  rwa [UInt8.ofNat_toNat] at h

theorem hex_two_yes (a b : UInt8) (ha : 0 ≤ hexV a) (hb : 0 ≤ hexV b) : hexL [unB a b] = lowL [a, b] := by
  have la := (hexV_le a).2
  have lb := (hexV_le b).2
  have h := nib_byte (hexV a).toNat (hexV b).toNat (by omega) (by omega)
  have e : unB a b = UInt8.ofNat (16 * (hexV a).toNat + (hexV b).toNat) := by
    unfold unB; congr 1; omega
  simp only [hexL, lowL, List.flatMap_cons, List.flatMap_nil, List.map_cons, List.map_nil, List.append_nil]
  rw [e, h.2.1, h.2.2, (low_hex a).2 ha, (low_hex b).2 hb]

theorem hex_two_no (a b : UInt8) (h : hexV a < 0 ∨ hexV b < 0) : ∀ r, hexL r ≠ lowL [a, b] := by
  intro r hr
  have hl : (hexL r).length = 2 := by rw [hr]; rfl
  rw [hexL_len] at hl
  match r, hl with
  | [x], _ =>
    have hx : x.toNat < 256 := x.toNat_lt
    simp only [hexL, lowL, List.flatMap_cons, List.flatMap_nil, List.map_cons, List.map_nil, List.append_nil, List.cons.injEq, and_true] at hr
    have h1 := hexV_hexD (x.toNat / 16) (by omega)
    have h2 := hexV_hexD (x.toNat % 16) (by omega)
    rw [hr.1, (low_hex a).1] at h1
    rw [hr.2, (low_hex b).1] at h2
    omega

theorem unp_code_end (acc : List UInt8) (s : ByteArray) (k : Nat) (h : k + 2 < s.size) (hp : s[k] = 37) :
    unpA acc (s.data.toList.drop k) = if hexV s[k + 1] < 0 ∨ hexV s[k + 2] < 0 then none else unpA (acc ++ [unB s[k + 1] s[k + 2]]) (s.data.toList.drop (k + 3)) := by
  rw [drop_three s k h, hp, unp_code]

theorem two_at (s : ByteArray) (k : Nat) (h : k + 2 < s.size) : (s.extract (k + 1) (k + 3)).data.toList = [s[k + 1], s[k + 2]] := by
  rw [extract_seg, txt_toList]
  have e1 := seg_snoc s (k + 1) (k + 1) (by omega) (by omega)
  have e2 := seg_snoc s (k + 1) (k + 2) (by omega) (by omega)
  rw [e2, e1, seg_nil]; rfl

set_option maxHeartbeats 1600000 in
theorem unpct_impl (s : ByteArray) (w : World) (hs : s.size ≤ 1048576) :
    Calls Tryz.prog 174 #[.string s] w fun e w' => e = .returned (unR (unpA [] s.data.toList)) ∧ Below w.heap.size w w' := by
  obtain ⟨i0, hi, hz0, hz1, hz2⟩ := info_parts Tryz.info5
  obtain ⟨R, hR⟩ : ∃ R, R = unpA [] s.data.toList := ⟨_, rfl⟩
  have HRR := Lib.hid hR
  clear hR
  have hmk := make_row (P := Tryz.prog) 22 5 i0 (.int .u8 0) Tryz.underlying22 hi hz0 (s.size : Int) s.size (by omega) (by rw [hz2]; omega) (by omega)
  go_enter Tryz.func174, Tryz.ntmps174
  go_wp2
  go_loopw [4, 5] (fun v i wr => ∃ (k : Nat) (o : List UInt8), k ≤ s.size ∧ o.length ≤ k ∧ i = .int .i64 k ∧ Hid (unpA o (s.data.toList.drop k) = R) ∧ wr.ownsRow w.heap.size 5 1 v o.length (cells8 o) ∧ Below w.heap.size w wr) (fun _ i _ => s.size - (intOf i).toNat)
  case atStart => exact ⟨0, [], by omega, by simp, rfl, HRR.out.symm, World.ownsRow_made w _ s.size (Nat.le_refl _) (by unfold maxLen; omega) (by rw [size_madeCells, Nat.mul_one]), (Below.refl _ w).alloc (Nat.le_refl _) _⟩
  case round =>
    clear hmk
    obtain ⟨k, o, hk1, hol, rfl, ho, hown, hbel⟩ := hrel
    have hbs := hbel.size
    by_cases hlt : k < s.size
    · have h256 : s[k].toNat < 256 := s[k].toNat_lt
      by_cases hp : s[k] = 37
      · have hpe : (((s[k].toNat : Nat) : Int) != 37) = false := by rw [hp]; rfl
        by_cases hk2 : k + 2 < s.size
        · have hcode := unp_code_end o s k hk2 hp
          rw [ho.out] at hcode
          have HC := Lib.hid hcode
          have HT := Lib.hid (two_at s k hk2)
          clear hcode hp
          have ht1 : ((k : Int) + 1).toNat = k + 1 := by omega
          have hn0 : (0 : Int) ≤ (k : Int) + 1 := by omega
          have hn1 : (k : Int) + 1 ≤ (k : Int) + 3 := by omega
          have hn2 : (k : Int) + 3 ≤ (s.size : Int) := by omega
          have ht3 : ((k : Int) + 3).toNat = k + 3 := by omega
          have hsz : (txt (lowL [s[k + 1], s[k + 2]])).size = 2 := by rw [txt_size]; rfl
          by_cases hv : hexV s[k + 1] < 0 ∨ hexV s[k + 2] < 0
          · have hr := HC.out
            rw [if_pos hv] at hr
            have HR := Lib.hid hr
            have HN := Lib.hid (hex_two_no _ _ hv)
            clear hr HC hv
            go_wp2_with fail
            refine (lower_impl _ _ ?_).mono ?_
            · rw [← data_length, HT.out]; simp
            rintro e w1 ⟨rfl, hb1⟩
            rw [HT.out]
            go_wp2_with fail
            refine (readhex_impl_no _ _ (by rw [hsz]; omega) (by rw [hsz]) (by rw [txt_toList]; exact HN.out)).mono ?_
            rintro e w2 ⟨rfl, hb2⟩
            go_wp2
            go_ret2
            exact ⟨by rw [← HRR.out, HR.out]; rfl, (hbel.trans (hb1.mono hbel.size)).trans (hb2.mono (Nat.le_trans hbel.size hb1.size))⟩
          · have hr := HC.out
            rw [if_neg hv] at hr
            have HR := Lib.hid hr.symm
            have HN := Lib.hid (hex_two_yes s[k + 1] s[k + 2] (by omega) (by omega))
            clear hr HC hv
            generalize unB s[k + 1] s[k + 2] = b at HR HN
            go_wp2_with fail
            refine (lower_impl _ _ ?_).mono ?_
            · rw [← data_length, HT.out]; simp
            rintro e w1 ⟨rfl, hb1⟩
            rw [HT.out]
            go_wp2_with fail
            refine (readhex_impl_yes _ [b] _ (by rw [hsz]; omega) (by rw [txt_toList]; exact HN.out)).mono ?_
            rintro e w2 ⟨rfl, hb2⟩
            have hbel2 := (hbel.trans (hb1.mono hbel.size)).trans (hb2.mono (Nat.le_trans hbel.size hb1.size))
            have hown2 := ownsRow_below (ownsRow_below hown hb1) hb2
            have hbs2 := hbel2.size
            have hs1 : (txt [b]).size = 1 := by rw [txt_size]; rfl
            clear hsz HT HN
            go_wp2_with (at_builtin; refine Lib.wpList_append_own_string _ rfl _ _ _ _ rfl w.heap.size 5 i0 Tryz.underlying22 Tryz.underlying9 hi hz0 hz1 hz2 u4 o.length _ rfl hown2 (txt [b]) rfl (by rw [hs1]; unfold maxLen; omega) (by rw [hs1]; omega) hbs2 ?_; intro v3 w3 hown3 hgrow3 hnil3)
            rw [strCells_txtI, ← cells8_append, hs1] at hown3
            go_roundw
            case rel => exact ⟨k + 3, o ++ [b], by omega, by simp; omega, by go_num, HR.out, by rw [List.length_append]; exact hown3, hbel2.grown hgrow3 hbs2 (fun j e => (hown2.lt j e).1)⟩
            case measure => simp [intOf]; omega
        · have hd : s.data.toList.drop k = 37 :: s.data.toList.drop (k + 1) := by rw [drop_cons s k hlt, hp]
          have hr := unp_short o (s.data.toList.drop (k + 1)) (by rw [List.length_drop, data_length]; omega)
          rw [← hd, ho.out] at hr
          have HR := Lib.hid hr
          clear hr hd hp
          go_wp2
          go_ret2
          exact ⟨by rw [← HRR.out, HR.out]; rfl, hbel⟩
      · have hpe : (((s[k].toNat : Nat) : Int) != 37) = true := by
          simp; intro e; exact hp (UInt8.toNat_inj.1 (by show s[k].toNat = 37; omega))
        have HN := Lib.hid (show unpA (o ++ [s[k]]) (s.data.toList.drop (k + 1)) = R by rw [← ho.out, drop_cons s k hlt, unp_plain _ _ _ hp])
        clear hp
        go_wp2_with (at_builtin; refine wpList_append_lies _ rfl _ _ _ rfl w.heap.size 5 i0 _ 1 1 Tryz.underlying22 hi hz0 hz1 hz2 rfl (by omega) u4 o.length _ rfl (hown.alloc _) ⟨wr.heap.size, 0, none⟩ 1 1 [.int .u8 ((s[k].toNat : Nat) : Int)] rfl rfl (World.news_of_block (cs := #[.int .u8 ((s[k].toNat : Nat) : Int)]) (t := 5) (fr := (0, 0)) (heap_alloc_new wr _)) (by simp [Value.oneCell']) (by omega) (by unfold maxLen; omega) (by omega) (by simp; omega) (wr.heap.size + 1) (by simp) ?_; intro gg cap w1 hown1 hgrow hat hlt2)
        go_roundw
        case rel => exact ⟨k + 1, o ++ [s[k]], by omega, by simp; omega, by go_num, HN, by rw [cells8_append, List.length_append]; exact hown1, (hbel.alloc hbel.size _).grown hgrow (by simp; omega) (fun j e => (hown.lt j e).1)⟩
        case measure => simp [intOf]; omega
    · have he : s.data.toList.drop k = [] := List.drop_eq_nil_of_le (by rw [data_length]; omega)
      have ho2 := ho.out
      rw [he, unpA] at ho2
      have HO := Lib.hid ho2
      have hcv := bytes_back_own (P := Tryz.prog) wr 22 9 5 w.heap.size u4 o.length o rfl Tryz.underlying22 Tryz.underlying5 Tryz.underlying9 hown
      clear he ho2
      go_wp2
      go_ret2
      exact ⟨by rw [← HRR.out, ← HO.out]; rfl, hbel⟩

end Go.Proofs.YtdgfiebehnfpgaaGreatDoor
