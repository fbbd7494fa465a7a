/- CONTRACTS of the functions of texts and numbers (the first layer), of the program and of its model: what each call gives back, and that what was there before stays. -/
import Derived.Test.YtmihhfabaihjoaaDoorLem
import Derived.Test.YtmihhfabaihjoaaDoorProg

namespace Go.Proofs.YtmihhfabaihjoaaDoor
set_option linter.unusedVariables false
set_option maxRecDepth 4000
open Go.ChangeShapes Go.WideShapes Go.ChangeAt Go.RowKit
open Go.ChangeMaps (open_string shut_string)

theorem Tryd.info5 : (Tryd.prog.info? 5).map (fun i => (i.zero, i.size, i.bytes)) = some (some (.int .u8 0), 1, 1) := by kernel_rfl

theorem index_wrap (s : ByteArray) (c : UInt8) (w : World) :
    Calls Tryd.prog 57 #[.string s, .int .u8 c.toNat] w fun e w' => e = .returned (.int .i64 (Lib.indexByte s.data.toList c)) ∧ w = w' := by
  have hc : ((c.toNat : Int)).toNat.toUInt8 = c := by simp
  go_enter Tryd.func57, Tryd.ntmps57
  go_wp2
  rw [run_callFunc_extern Tryd.func70 (by kernel_rfl) (by kernel_rfl) (by kernel_rfl) (e := Extern.BytealgIndexByte.indexByte) (by kernel_rfl), Lib.run_indexByteString, hc]
  simp only [Result.andThen]
  rw [Oper.upon_value]
  go_wp2
  go_ret
  exact ⟨rfl, rfl⟩

set_option maxHeartbeats 400000 in
theorem cut_spec_no (s : ByteArray) (c : UInt8) (w : World) (hs : s.size ≤ 1048576) (h : ∀ j (hj : j < s.size), s[j] ≠ c) :
    Calls Tryd.prog 39 #[.string s, .int .u8 c.toNat] w fun e w' => e = .returned (.tuple #[.string s, .string ⟨#[]⟩, .bool false]) ∧ Below w.heap.size w w' := by
  have H := Lib.hid h
  clear h
  go_enter Tryd.func39, Tryd.ntmps39
  go_wp2
  go_loop [7] (fun i => ∃ k : Nat, k ≤ s.size ∧ i = .int .i64 k) (fun i => s.size - (intOf i).toNat)
  case atStart => exact ⟨0, by omega, rfl⟩
  case round =>
    obtain ⟨k, hk1, rfl⟩ := hrel
    by_cases hlt : k < s.size
    · have hne : (((s[k].toNat : Nat) : Int) == ((c.toNat : Nat) : Int)) = false := by
        have := H.out k hlt
        simp; intro e; exact this (UInt8.toNat_inj.1 (by omega))
      go_wp2
      go_round
      case rel => exact ⟨k + 1, by omega, by go_num⟩
      case measure => simp [intOf]; omega
    · go_wp2
      go_ret3
      exact ⟨rfl, Below.refl _ _⟩

set_option maxHeartbeats 400000 in
theorem cut_spec_yes (s : ByteArray) (c : UInt8) (w : World) (hs : s.size ≤ 1048576) (n : Nat) (hn : n < s.size) (hc : s[n] = c) (h : ∀ j (hj : j < n), s[j] ≠ c) :
    Calls Tryd.prog 39 #[.string s, .int .u8 c.toNat] w fun e w' => e = .returned (.tuple #[.string (s.extract 0 n), .string (s.extract (n + 1) s.size), .bool true]) ∧ Below w.heap.size w w' := by
  have H := Lib.hid h
  have HC := Lib.hid hc
  clear h hc
  go_enter Tryd.func39, Tryd.ntmps39
  go_wp2
  go_loop [7] (fun i => ∃ k : Nat, k ≤ n ∧ i = .int .i64 k) (fun i => s.size - (intOf i).toNat)
  case atStart => exact ⟨0, by omega, rfl⟩
  case round =>
    obtain ⟨k, hk1, rfl⟩ := hrel
    by_cases hlt : k < n
    · have hks : k < s.size := by omega
      have hne : (((s[k].toNat : Nat) : Int) == ((c.toNat : Nat) : Int)) = false := by
        have := H.out k hlt
        simp; intro e; exact this (UInt8.toNat_inj.1 (by omega))
      go_wp2
      go_round
      case rel => exact ⟨k + 1, by omega, by go_num⟩
      case measure => simp [intOf]; omega
    · obtain rfl : k = n := by omega
      have hne : (((s[k].toNat : Nat) : Int) == ((c.toNat : Nat) : Int)) = true := by
        rw [HC.out]; simp
      go_wp2
      go_quiet (fail)
      go_wp2
      go_ret3
      exact ⟨rfl, below_drewN (Below.refl _ _) _⟩

set_option maxHeartbeats 400000 in
theorem cut_impl_no (s : ByteArray) (c : UInt8) (w : World) (h : ∀ j (hj : j < s.size), s[j] ≠ c) :
    Calls Tryd.prog 48 #[.string s, .int .u8 c.toNat] w fun e w' => e = .returned (.tuple #[.string s, .string ⟨#[]⟩, .bool false]) ∧ Below w.heap.size w w' := by
  have H := Lib.hid (index_no s c h)
  clear h
  go_enter Tryd.func48, Tryd.ntmps48
  go_wp2_with fail
  refine (index_wrap s c _).mono ?_
  rintro e w1 ⟨rfl, rfl⟩
  rw [H.out]
  go_wp2
  go_ret3
  exact ⟨rfl, Below.refl _ _⟩

set_option maxHeartbeats 400000 in
theorem cut_impl_yes (s : ByteArray) (c : UInt8) (w : World) (hs : s.size ≤ 1048576) (n : Nat) (hn : n < s.size) (hc : s[n] = c) (h : ∀ j (hj : j < n), s[j] ≠ c) :
    Calls Tryd.prog 48 #[.string s, .int .u8 c.toNat] w fun e w' => e = .returned (.tuple #[.string (s.extract 0 n), .string (s.extract (n + 1) s.size), .bool true]) ∧ Below w.heap.size w w' := by
  have H := Lib.hid (index_yes s c n hn hc h)
  clear h hc
  go_enter Tryd.func48, Tryd.ntmps48
  go_wp2_with fail
  refine (index_wrap s c _).mono ?_
  rintro e w1 ⟨rfl, rfl⟩
  rw [H.out]
  go_wp2
  go_quiet (fail)
  go_wp2
  go_ret3
  exact ⟨rfl, below_drewN (Below.refl _ _) _⟩

set_option maxHeartbeats 400000 in
theorem lower_impl (s : ByteArray) (w : World) (hs : s.size ≤ 1048576) :
    Calls Tryd.prog 68 #[.string s] w fun e w' => e = .returned (.string (txt (lowL s.data.toList))) ∧ Below w.heap.size w w' := by
  obtain ⟨cap, w1, hcv, hB1, hbel1, hcap⟩ := bytes_conv (P := Tryd.prog) w 9 22 5 s Tryd.underlying9 Tryd.underlying22 Tryd.underlying5
  have hl : s.data.toList.length = s.size := Array.length_toList
  have HL := Lib.hid hl
  clear hl
  go_enter Tryd.func68, Tryd.ntmps68
  go_wp2
  go_loopw [10] (fun i wr => ∃ k : Nat, k ≤ s.size ∧ i = .int .i64 k ∧ BytesAt wr w.heap.size (lowL (s.data.toList.take k) ++ s.data.toList.drop k) ∧ Below w.heap.size w wr) (fun i _ => s.size - (intOf i).toNat)
  case atStart => exact ⟨0, by omega, rfl, by simpa [lowL] using hB1, hbel1⟩
  case round =>
    clear hcv
    obtain ⟨k, hk1, rfl, hB, hbel⟩ := hrel
    by_cases hlt : k < s.size
    · have hkl : k < s.data.toList.length := by rw [HL.out]; exact hlt
      have hc := hB.cell k (by rw [low_len _ _ (by omega)]; exact hkl)
      have hf := hB.free k (by rw [low_len _ _ (by omega)]; exact hkl)
      rw [low_at _ _ hkl] at hc
      generalize hb : s.data.toList[k] = b at hc
      have HB := Lib.hid hb
      clear hb
      have hb256 : b.toNat < 256 := b.toNat_lt
      by_cases h1 : 65 ≤ b.toNat ∧ b.toNat ≤ 90
      · obtain ⟨h2, h3⟩ := h1
        go_wp2
        go_roundw
        case rel => exact ⟨k + 1, by omega, by go_num, low_store hB hkl (by rw [HB.out]; exact lowB_impl b h2 h3 _ (by omega)), hbel.setCell (Nat.le_refl _) _⟩
        case measure => simp [intOf]; omega
      · have hx : lowB s.data.toList[k] = s.data.toList[k] := by rw [HB.out, lowB_no b h1]
        have HX := Lib.hid hx
        clear hx
        go_wp2
        all_goals
          go_roundw
          case rel => exact ⟨k + 1, by omega, by go_num, by rw [low_same _ _ hkl HX.out]; exact hB, hbel⟩
          case measure => simp [intOf]; omega
    · have hk2 : k = s.size := by omega
      have hcv2 := bytes_back (P := Tryd.prog) wr 22 9 5 w.heap.size s.size cap (lowL s.data.toList) (by simp only [lowL, List.length_map]; exact HL.out.symm) Tryd.underlying22 Tryd.underlying5 Tryd.underlying9 (by
        have e1 : s.data.toList.take k = s.data.toList := List.take_of_length_le (by rw [HL.out]; omega)
        have e2 : s.data.toList.drop k = [] := List.drop_eq_nil_of_le (by rw [HL.out]; omega)
        rw [e1, e2, List.append_nil] at hB
        exact hB)
      clear hk2
      go_wp2
      go_ret
      exact ⟨rfl, hbel⟩

theorem hexV_call (c : UInt8) (w : World) :
    Calls Tryd.prog 63 #[.int .u8 c.toNat] w fun e w' => e = .returned (.int .i64 (hexV c)) ∧ w = w' := by
  have h256 : c.toNat < 256 := c.toNat_lt
  by_cases h1 : 48 ≤ c.toNat ∧ c.toNat ≤ 57
  · obtain ⟨h1, h2⟩ := h1
    have HV := Lib.hid (show (c.toNat : Int) - 48 = hexV c by unfold hexV; rw [if_pos ⟨h1, h2⟩])
    go_enter Tryd.func63, Tryd.ntmps63
    go_wp2
    go_ret
    exact ⟨ret_int HV.out, rfl⟩
  · by_cases h2 : 97 ≤ c.toNat ∧ c.toNat ≤ 102
    · obtain ⟨h2, h3⟩ := h2
      have HV := Lib.hid (show (c.toNat : Int) - 87 = hexV c by unfold hexV; rw [if_neg h1, if_pos ⟨h2, h3⟩])
      clear h1
      go_enter Tryd.func63, Tryd.ntmps63
      go_wp2
      go_ret
      exact ⟨ret_int HV.out, rfl⟩
    · by_cases h3 : 65 ≤ c.toNat ∧ c.toNat ≤ 70
      · obtain ⟨h3, h4⟩ := h3
        have HV := Lib.hid (show (c.toNat : Int) - 55 = hexV c by unfold hexV; rw [if_neg h1, if_neg h2, if_pos ⟨h3, h4⟩])
        clear h1 h2
        go_enter Tryd.func63, Tryd.ntmps63
        go_wp2
        go_ret
        exact ⟨ret_int HV.out, rfl⟩
      · have HV := Lib.hid (show -1 = hexV c by unfold hexV; rw [if_neg h1, if_neg h2, if_neg h3])
        rcases (show c.toNat < 48 ∨ (57 < c.toNat ∧ c.toNat < 65) ∨ (70 < c.toNat ∧ c.toNat < 97) ∨ 102 < c.toNat by omega) with h | ⟨h, h'⟩ | ⟨h, h'⟩ | h
        all_goals
          clear h1 h2 h3
          go_enter Tryd.func63, Tryd.ntmps63
          go_wp2
          go_ret
          exact ⟨ret_int HV.out, rfl⟩

theorem hexV_q (c : UInt8) (w : World) :
    Calls Tryd.prog 63 #[.int .u8 c.toNat] w fun e w' => e = .returned (.int .i64 (hexV c)) ∧ w' = w :=
  (hexV_call c w).mono fun _ _ ⟨he, hw⟩ => ⟨he, hw.symm⟩

theorem hexI_call (c : UInt8) (w : World) :
    Calls Tryd.prog 57 #[.string { data := #[48, 49, 50, 51, 52, 53, 54, 55, 56, 57, 97, 98, 99, 100, 101, 102] }, .int .u8 c.toNat] w fun e w' => e = .returned (.int .i64 (hexI c)) ∧ w = w' :=
  index_wrap hexs c w

set_option maxHeartbeats 400000 in
theorem readhex_impl_yes (s : ByteArray) (r : List UInt8) (w : World) (hs : s.size ≤ 1048576) (hr : hexL r = s.data.toList) :
    Calls Tryd.prog 67 #[.string s] w fun e w' => e = .returned (.tuple #[.string (txt r), .bool true]) ∧ Below w.heap.size w w' := by
  obtain ⟨i0, hi, hz0, hz1, hz2⟩ := info_parts Tryd.info5
  have hl : 2 * r.length = s.size := by rw [← hexL_len, hr, data_length]
  have HR := Lib.hid hr
  clear hr
  have hle : s.size ≤ 2 * r.length := by omega
  have hle2 : 2 * r.length ≤ s.size := by omega
  have hev : ((s.size : Int) % 2 != 0) = false := by simp; omega
  have hmk := make_row (P := Tryd.prog) 22 5 i0 (.int .u8 0) Tryd.underlying22 hi hz0 ((s.size : Int) / 2) (s.size / 2) (by omega) (by rw [hz2]; omega) (by omega)
  clear hl
  go_enter Tryd.func67, Tryd.ntmps67
  go_wp2
  go_loopw [4, 5] (fun v i wr => ∃ k m : Nat, k ≤ r.length ∧ Hid (m = 2 * k) ∧ i = .int .i64 m ∧ wr.ownsRow w.heap.size 5 1 v k (cells8 (r.take k)) ∧ Below w.heap.size w wr) (fun _ i _ => s.size - (intOf i).toNat)
  case atStart => exact ⟨0, 0, by omega, rfl, rfl, World.ownsRow_made w _ (s.size / 2) (Nat.le_refl _) (by unfold maxLen; omega) (by rw [size_madeCells, Nat.mul_one]), (Below.refl _ w).alloc (Nat.le_refl _) _⟩
  case round =>
    clear hmk
    obtain ⟨k, m, hk1, hm, rfl, hown, hbel⟩ := hrel
    by_cases hlt : k < r.length
    · have hms : m + 1 < s.size := by have := hm.out; omega
      have hms0 : m < s.size := by omega
      have g1 : s[m] = hexD (r[k].toNat / 16) := get_of s _ HR.out m (by omega) _ (by rw [hm.out]; exact (hexL_get r k hlt).1)
      have g2 : s[m + 1] = hexD (r[k].toNat % 16) := get_of s _ HR.out (m + 1) (by omega) _ (by rw [hm.out]; exact (hexL_get r k hlt).2)
      have h256 : r[k].toNat < 256 := r[k].toNat_lt
      have E1 := Lib.hid (show hexI s[m] = ((r[k].toNat / 16 : Nat) : Int) by rw [g1, hexI_hexD _ (by omega)])
      have E2 := Lib.hid (show hexI s[m + 1] = ((r[k].toNat % 16 : Nat) : Int) by rw [g2, hexI_hexD _ (by omega)])
      have hpq : 16 * (r[k].toNat / 16) + r[k].toNat % 16 = r[k].toNat := by omega
      have hp : r[k].toNat / 16 < 16 := by omega
      have hq : r[k].toNat % 16 < 16 := by omega
      have hts := take_snoc_l r k hlt
      clear g1 g2 h256
      generalize r[k] = b at E1 E2 hp hq hpq hts
      generalize b.toNat / 16 = p at E1 hp hpq
      generalize b.toNat % 16 = q at E2 hq hpq
      have HPQ := Lib.hid hpq
      have HT := Lib.hid hts
      clear hpq hts
      go_wp2_with fail
      refine (hexI_call _ _).mono ?_
      rintro e w1 ⟨rfl, rfl⟩
      rw [E1.out]
      go_wp2_with fail
      refine (hexI_call _ _).mono ?_
      rintro e w1 ⟨rfl, rfl⟩
      rw [E2.out]
      have hor := or_nib p q hp hq b HPQ.out
      have hmod : ((b.toNat : Nat) : Int) % 256 = (b.toNat : Int) := by have := b.toNat_lt; omega
      go_wp2_with (at_builtin; refine wpList_append_lies _ rfl _ _ _ rfl w.heap.size 5 i0 _ 1 1 Tryd.underlying22 hi hz0 hz1 hz2 rfl (by omega) u4 k _ rfl (hown.alloc _) ⟨wr.heap.size, 0, none⟩ 1 1 [.int .u8 (b.toNat : Int)] rfl rfl (World.news_of_block (cs := #[.int .u8 (b.toNat : Int)]) (t := 5) (fr := (0, 0)) (heap_alloc_new wr _)) (by simp [Value.oneCell']) (by omega) (by unfold maxLen; omega) (by omega) (by simp; have := hbel.size; omega) (wr.heap.size + 1) (by simp) ?_; intro gg cap w1 hown1 hgrow hat hlt2)
      go_roundw
      case rel => exact ⟨k + 1, m + 2, by omega, by have := hm.out; unfold Hid; omega, by go_num, by rw [HT.out, cells8_append]; exact hown1, (hbel.alloc hbel.size _).grown hgrow (by simp; have := hbel.size; omega) (fun j e => (hown.lt j e).1)⟩
      case measure => simp [intOf]; omega
    · have he : k = r.length := by omega
      have ht : r.take k = r := List.take_of_length_le (by omega)
      rw [ht, he] at hown
      clear ht he
      have hcv := bytes_back_own (P := Tryd.prog) wr 22 9 5 w.heap.size u4 r.length r rfl Tryd.underlying22 Tryd.underlying5 Tryd.underlying9 hown
      have hge : ¬ (m < s.size) := by have := hm.out; omega
      have hmb : m ≤ 1048576 := by have := hm.out; omega
      go_wp2
      go_ret2
      exact ⟨rfl, hbel⟩

set_option maxHeartbeats 400000 in
theorem readhex_impl_odd (s : ByteArray) (w : World) (hs : s.size ≤ 1048576) (hodd : s.size % 2 = 1) :
    Calls Tryd.prog 67 #[.string s] w fun e w' => e = .returned (.tuple #[.string ⟨#[]⟩, .bool false]) ∧ Below w.heap.size w w' := by
  have hev : ((s.size : Int) % 2 != 0) = true := by rw [bne_iff_ne]; omega
  clear hodd
  go_enter Tryd.func67, Tryd.ntmps67
  go_wp2
  go_ret2
  exact ⟨rfl, Below.refl _ _⟩

set_option maxHeartbeats 400000 in
theorem readhex_impl_no (s : ByteArray) (w : World) (hs : s.size ≤ 1048576) (heven : s.size % 2 = 0) (hno : ∀ r, hexL r ≠ s.data.toList) :
    Calls Tryd.prog 67 #[.string s] w fun e w' => e = .returned (.tuple #[.string ⟨#[]⟩, .bool false]) ∧ Below w.heap.size w w' := by
  obtain ⟨i0, hi, hz0, hz1, hz2⟩ := info_parts Tryd.info5
  have HN := Lib.hid hno
  have HE := Lib.hid heven
  clear hno
  have hev : ((s.size : Int) % 2 != 0) = false := by simp; omega
  have hmk := make_row (P := Tryd.prog) 22 5 i0 (.int .u8 0) Tryd.underlying22 hi hz0 ((s.size : Int) / 2) (s.size / 2) (by omega) (by rw [hz2]; omega) (by omega)
  clear heven
  go_enter Tryd.func67, Tryd.ntmps67
  go_wp2
  go_loopw [4, 5] (fun v i wr => ∃ (o : List UInt8) (m : Nat), Hid (m = 2 * o.length) ∧ m ≤ s.size ∧ Hid (hexL o = s.data.toList.take m) ∧ i = .int .i64 m ∧ wr.ownsRow w.heap.size 5 1 v o.length (cells8 o) ∧ Below w.heap.size w wr) (fun _ i _ => s.size - (intOf i).toNat)
  case atStart => exact ⟨[], 0, rfl, by omega, rfl, rfl, World.ownsRow_made w _ (s.size / 2) (Nat.le_refl _) (by unfold maxLen; omega) (by rw [size_madeCells, Nat.mul_one]), (Below.refl _ w).alloc (Nat.le_refl _) _⟩
  case round =>
    clear hmk
    obtain ⟨o, m, hm, hms1, ho, rfl, hown, hbel⟩ := hrel
    by_cases hms0 : m < s.size
    · have hms : m + 1 < s.size := by have := hm.out; have := HE.out; omega
      have b1 := hexI_back s[m]
      have b2 := hexI_back s[m + 1]
      have hts := take_two s m hms
      go_wp2_with fail
      refine (hexI_call _ _).mono ?_
      rintro e w1 ⟨rfl, rfl⟩
      generalize hexI s[m] = p at b1
      go_wp2_with fail
      refine (hexI_call _ _).mono ?_
      rintro e w1 ⟨rfl, rfl⟩
      generalize hexI s[m + 1] = q at b2
      obtain ⟨b1, b3, b5⟩ := b1
      obtain ⟨b2, b4, b6⟩ := b2
      by_cases hp : p < 0
      · clear b5 b6 hts
        go_wp2
        go_ret2
        exact ⟨rfl, hbel⟩
      · by_cases hq : q < 0
        · clear b5 b6 hts
          go_wp2
          go_ret2
          exact ⟨rfl, hbel⟩
        · have c5 := b5 (by omega)
          have c6 := b6 (by omega)
          clear b5 b6
          obtain ⟨p, rfl⟩ := Int.eq_ofNat_of_zero_le (show 0 ≤ p by omega)
          obtain ⟨q, rfl⟩ := Int.eq_ofNat_of_zero_le (show 0 ≤ q by omega)
          have e5 : ((p : Nat) : Int).toNat = p := by omega
          have e6 : ((q : Nat) : Int).toNat = q := by omega
          rw [e5] at c5
          rw [e6] at c6
          clear e5 e6
          have hbyte := nib_byte p q (by omega) (by omega)
          generalize hbg : UInt8.ofNat (16 * p + q) = b at hbyte
          clear hbg
          have HSN := Lib.hid (show hexL (o ++ [b]) = s.data.toList.take (m + 2) by rw [hexL_snoc, hbyte.2.1, hbyte.2.2, c5, c6, ho.out, hts])
          have hor := or_nib p q (by omega) (by omega) b hbyte.1
          have hmod : ((b.toNat : Nat) : Int) % 256 = (b.toNat : Int) := by have := b.toNat_lt; omega
          have hol : o.length ≤ 1048576 := by have := hm.out; omega
          clear c5 c6 hts hbyte
          go_wp2_with (at_builtin; refine wpList_append_lies _ rfl _ _ _ rfl w.heap.size 5 i0 _ 1 1 Tryd.underlying22 hi hz0 hz1 hz2 rfl (by omega) u4 o.length _ rfl (hown.alloc _) ⟨wr.heap.size, 0, none⟩ 1 1 [.int .u8 (b.toNat : Int)] rfl rfl (World.news_of_block (cs := #[.int .u8 (b.toNat : Int)]) (t := 5) (fr := (0, 0)) (heap_alloc_new wr _)) (by simp [Value.oneCell']) (by omega) (by unfold maxLen; omega) (by omega) (by simp; have := hbel.size; omega) (wr.heap.size + 1) (by simp) ?_; intro gg cap w1 hown1 hgrow hat hlt2)
          go_roundw
          case rel =>
            refine ⟨o ++ [b], m + 2, by have := hm.out; unfold Hid; simp; omega, by omega, HSN, by go_num, ?_, (hbel.alloc hbel.size _).grown hgrow (by simp; have := hbel.size; omega) (fun j e => (hown.lt j e).1)⟩
            rw [cells8_append, ← cells8_one b _ rfl]
            simpa using hown1
          case measure => simp [intOf]; omega
    · exact absurd (show hexL o = s.data.toList by
        rw [ho.out]
        exact List.take_of_length_le (by rw [data_length]; omega)) (HN.out o)

end Go.Proofs.YtmihhfabaihjoaaDoor
