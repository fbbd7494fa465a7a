/- CONTRACTS of B64 and UnB64: the program's. -/
import Derived.Test.YtonpalaopnfffaaGreatDoorB64P
namespace Go.Proofs.YtonpalaopnfffaaGreatDoor
set_option linter.unusedVariables false
set_option maxRecDepth 4000
open Go.ChangeShapes Go.WideShapes Go.ChangeAt Go.RowKit
open Go.ChangeMaps (open_string shut_string)

theorem letter_index_c {P : Program} (t : TypeId) (ht : P.underlying t = some .string) (k : IntKind) (i : Nat) (hi : i < 64) (w : World) :
    (Instr.index t (.string { data := #[65, 66, 67, 68, 69, 70, 71, 72, 73, 74, 75, 76, 77, 78, 79, 80, 81, 82, 83, 84, 85, 86, 87, 88, 89, 90, 97, 98, 99, 100, 101, 102, 103, 104, 105, 106, 107, 108, 109, 110, 111, 112, 113, 114, 115, 116, 117, 118, 119, 120, 121, 122, 48, 49, 50, 51, 52, 53, 54, 55, 56, 57, 45, 95] }) (.int k (i : Int))).run P w = .ok (.int .u8 (((letterN i).toNat : Nat) : Int)) w := letter_index t ht k i hi w

theorem win_or (W x : Nat) (hx : x < 256) : bits .or .u32 ((W : Int) * 256 % 4294967296) (x : Int) = ((W * 256 % 4294967296 + x : Nat) : Int) := by
  have e : (W : Int) * 256 % 4294967296 = ((W * 256 % 4294967296 : Nat) : Int) := by omega
  rw [e, u32_or_nat _ _ (Nat.mod_lt _ (by omega)) (by omega)]
  congr 1
  obtain ⟨y, hy⟩ : ∃ y, W * 256 % 4294967296 = 2 ^ 8 * y := ⟨W * 256 % 4294967296 / 256, by omega⟩
  rw [hy]
  exact (Nat.two_pow_add_eq_or_of_lt (by omega) y).symm

theorem win_add (W x b : Nat) (hx : x < 256) (hb : b + 8 ≤ 32) : (W * 256 % 4294967296 + x) % 2 ^ (b + 8) = (W % 2 ^ b) * 256 + x := by
  have h1 : W * 256 % 4294967296 % 2 ^ (b + 8) = (W % 2 ^ b) * 256 := by
    rw [Nat.mod_mod_of_dvd _ (show 2 ^ (b + 8) ∣ 4294967296 from Nat.pow_dvd_pow 2 (show b + 8 ≤ 32 from hb))]
    rw [Nat.pow_add, Nat.mul_mod_mul_right]
  have h8 : 2 ^ 8 ≤ 2 ^ (b + 8) := Nat.pow_le_pow_right (by decide) (by omega)
  have hx8 : x < 2 ^ (b + 8) := Nat.lt_of_lt_of_le hx h8
  rw [Nat.add_mod, h1, Nat.mod_eq_of_lt hx8]
  apply Nat.mod_eq_of_lt
  have h2 : W % 2 ^ b < 2 ^ b := Nat.mod_lt _ (Nat.two_pow_pos b)
  have hp : 2 ^ (b + 8) = 2 ^ b * 256 := Nat.pow_add 2 b 8
  rw [hp]
  generalize 2 ^ b = f at h2 ⊢
  omega

theorem win_letter (V b : Nat) (hV : V < 4294967296) (hb : 6 ≤ b) : bits .and .u32 ((V : Int) / 2 ^ (b - 6)) 63 = ((V % 2 ^ b / 2 ^ (b - 6) : Nat) : Int) := by
  have e : (V : Int) / 2 ^ (b - 6) = ((V / 2 ^ (b - 6) : Nat) : Int) := by simp
  have e63 : (63 : Int) = ((2 ^ 6 - 1 : Nat) : Int) := rfl
  rw [e, e63, u32_and_nat _ _ (Nat.lt_of_le_of_lt (Nat.div_le_self _ _) hV) (by decide), Nat.and_two_pow_sub_one_eq_mod]
  congr 1
  have hp : 2 ^ b = 2 ^ (b - 6) * 2 ^ 6 := by rw [← Nat.pow_add]; congr 1; omega
  rw [hp, Nat.mod_mul_right_div_self]

theorem win_lt (V b : Nat) (hb : 6 ≤ b) : V % 2 ^ b / 2 ^ (b - 6) < 64 := by
  have hp : 2 ^ b = 2 ^ (b - 6) * 2 ^ 6 := by rw [← Nat.pow_add]; congr 1; omega
  rw [hp, Nat.mod_mul_right_div_self]
  exact Nat.mod_lt _ (by decide)

theorem win_rest (V b : Nat) (hb : 6 ≤ b) : V % 2 ^ b % 2 ^ (b - 6) = V % 2 ^ (b - 6) :=
  Nat.mod_mod_of_dvd _ (Nat.pow_dvd_pow 2 (by omega))

theorem win_last (W b : Nat) (hb : b < 6) : bits .and .u32 ((W : Int) * 2 ^ (6 - b) % 4294967296) 63 = (((W % 2 ^ b) * 2 ^ (6 - b) : Nat) : Int) := by
  have e : (W : Int) * 2 ^ (6 - b) % 4294967296 = ((W * 2 ^ (6 - b) % 4294967296 : Nat) : Int) := by simp
  have e63 : (63 : Int) = ((2 ^ 6 - 1 : Nat) : Int) := rfl
  rw [e, e63, u32_and_nat _ _ (Nat.mod_lt _ (by omega)) (by decide), Nat.and_two_pow_sub_one_eq_mod]
  congr 1
  rw [Nat.mod_mod_of_dvd _ (show 2 ^ 6 ∣ 4294967296 by decide)]
  have hp : 2 ^ 6 = 2 ^ b * 2 ^ (6 - b) := by rw [← Nat.pow_add]; congr 1; omega
  rw [hp, Nat.mul_mod_mul_right]

theorem win_last_lt (W b : Nat) (hb : b < 6) : (W % 2 ^ b) * 2 ^ (6 - b) < 64 := by
  have hp : 64 = 2 ^ b * 2 ^ (6 - b) := by rw [← Nat.pow_add, show b + (6 - b) = 6 by omega]
  have h2 : W % 2 ^ b < 2 ^ b := Nat.mod_lt _ (Nat.two_pow_pos b)
  rw [hp]
  exact Nat.mul_lt_mul_of_pos_right h2 (Nat.two_pow_pos _)

set_option maxHeartbeats 1600000 in
theorem b64_impl (s : ByteArray) (w : World) (hs : s.size ≤ 1048576) :
    Calls Tryz.prog 67 #[.string s] w fun e w' => e = .returned (.string (txt (b64 s.data.toList))) ∧ Below w.heap.size w w' := by
  obtain ⟨i0, hi, hz0, hz1, hz2⟩ := info_parts Tryz.info5
  obtain ⟨R, hR⟩ : ∃ R, R = b64 s.data.toList := ⟨_, rfl⟩
  have HR := Lib.hid hR
  clear hR
  have hmk := make_row (P := Tryz.prog) 34 5 i0 (.int .u8 0) Tryz.underlying34 hi hz0 ((s.size : Int) + (s.size : Int) / 3 + 1) (s.size + s.size / 3 + 1) (by omega) (by rw [hz2]; omega) (by omega)
  have HX := Lib.hid (fun i hi w => letter_index_c (P := Tryz.prog) 9 Tryz.underlying9 .u32 i hi w)
  go_enter Tryz.func67, Tryz.ntmps67
  go_wp2
  go_loopw [3, 4, 5, 17] (fun v A B i wr => ∃ (k W b : Nat) (o : List UInt8), k ≤ s.size ∧ A = .int .u32 (W : Int) ∧ B = .int .i64 (b : Int) ∧ i = .int .i64 k ∧ W < 4294967296 ∧ Hid ((b = 0) ∨ (b = 2) ∨ (b = 4)) ∧ Hid (6 * o.length + b = 8 * k) ∧ Hid (o ++ genA (W % 2 ^ b) b (s.data.toList.drop k) = R) ∧ wr.ownsRow w.heap.size 5 1 v o.length (cells8 o) ∧ Below w.heap.size w wr) (fun _ _ _ i _ => s.size - (intOf i).toNat)
  case atStart => exact ⟨0, 0, 0, [], by omega, rfl, rfl, rfl, by omega, Lib.hid (.inl rfl), Lib.hid (by simp), Lib.hid (by rw [HR.out]; rfl), World.ownsRow_made w _ (s.size + s.size / 3 + 1) (Nat.le_refl _) (by unfold maxLen; omega) (by rw [size_madeCells, Nat.mul_one]), (Below.refl _ w).alloc (Nat.le_refl _) _⟩
  case round =>
    clear hmk
    obtain ⟨k, W, b, o, hk, rfl, rfl, rfl, hW, hab, hcount, hg, hown, hbel⟩ := hrel
    have hbs := hbel.size
    have hol : o.length ≤ 2097152 := by have := hcount.out; omega
    have hb6 : b < 6 := by have := hab.out; omega
    by_cases hlt : k < s.size
    · have h256 : s[k].toNat < 256 := s[k].toNat_lt
      have hg2 := hg.out
      rw [drop_cons s k hlt, gen_in _ _ _ _ hb6, ← win_add W _ b h256 (by omega)] at hg2
      have hor := win_or W s[k].toNat h256
      have hV : W * 256 % 4294967296 + s[k].toNat < 4294967296 := by omega
      generalize W * 256 % 4294967296 + s[k].toNat = V at hg2 hor hV
      have HG := Lib.hid hg2
      clear hg2 hg
      go_wp2
      go_loopw [3, 5] (fun v B wr => ∃ (b2 : Nat) (o2 : List UInt8), B = .int .i64 (b2 : Int) ∧ Hid ((b2 = 0) ∨ (b2 = 2) ∨ (b2 = 4) ∨ (b2 = 6) ∨ (b2 = 8) ∨ (b2 = 10) ∨ (b2 = 12)) ∧ Hid (6 * o2.length + b2 = 8 * (k + 1)) ∧ Hid (o2 ++ genA (V % 2 ^ b2) b2 (s.data.toList.drop (k + 1)) = R) ∧ wr.ownsRow w.heap.size 5 1 v o2.length (cells8 o2) ∧ Below w.heap.size w wr) (fun _ B _ => (intOf B).toNat)
      case atStart =>
        refine ⟨b + 8, o, by simp, Lib.hid ?_, Lib.hid ?_, HG, hown, hbel⟩
        · have := hab.out; omega
        · have := hcount.out; omega
      case round =>
        obtain ⟨b2, o2, rfl, hab2, hc2, hg2, hown2, hbel2⟩ := hrel
        have hbs2 := hbel2.size
        have hol2 : o2.length ≤ 2097152 := by have := hc2.out; omega
        have hb2 : b2 ≤ 12 := by have := hab2.out; omega
        by_cases hb2' : b2 < 6
        · go_wp2
          go_roundw
          case rel => exact ⟨k + 1, V, b2, o2, by omega, rfl, rfl, by go_num, hV, Lib.hid (by have := hab2.out; omega), hc2, hg2, hown2, hbel2⟩
          case measure => simp [intOf]; omega
        · have hb26 : 6 ≤ b2 := by omega
          have hgo := gen_out (V % 2 ^ b2) b2 (s.data.toList.drop (k + 1)) hb26
          have hand := win_letter V b2 hV hb26
          have hx := HX.out (V % 2 ^ b2 / 2 ^ (b2 - 6)) (win_lt V b2 hb26)
          have HG2 := Lib.hid (show (o2 ++ [letterN (V % 2 ^ b2 / 2 ^ (b2 - 6))]) ++ genA (V % 2 ^ (b2 - 6)) (b2 - 6) (s.data.toList.drop (k + 1)) = R by rw [← hg2.out, hgo, win_rest V b2 hb26]; simp)
          have eb : ((b2 : Int) - 6) = ((b2 - 6 : Nat) : Int) := by omega
          have EB := Lib.hid eb
          clear hgo eb
          generalize V % 2 ^ b2 / 2 ^ (b2 - 6) = j at hand hx HG2
          generalize letterN j = c at hx HG2
          go_wp2_with (at_builtin; refine wpList_append_lies _ rfl _ _ _ rfl w.heap.size 5 i0 _ 1 1 Tryz.underlying34 hi hz0 hz1 hz2 rfl (by omega) u3 o2.length _ rfl (hown2.alloc _) ⟨wr.heap.size, 0, none⟩ 1 1 [.int .u8 ((c.toNat : Nat) : Int)] rfl rfl (World.news_of_block (cs := #[.int .u8 ((c.toNat : Nat) : Int)]) (t := 5) (fr := (0, 0)) (heap_alloc_new wr _)) (by simp [Value.oneCell']) (by omega) (by unfold maxLen; omega) (by omega) (by simp; omega) (wr.heap.size + 1) (by simp) ?_; intro gg cap w1 hown3 hgrow hat hlt2)
          clear hand hx
          refine ⟨⟨b2 - 6, o2 ++ [c], by rw [EB.out], Lib.hid (by have := hab2.out; omega), Lib.hid (by have := hc2.out; simp; omega), HG2, by rw [cells8_append, List.length_append]; exact hown3, (hbel2.alloc hbs2 _).grown hgrow (by simp; omega) (fun j e => (hown2.lt j e).1)⟩, by simp [intOf]; omega⟩
    · have he : s.data.toList.drop k = [] := List.drop_eq_nil_of_le (by rw [data_length]; omega)
      have hg2 := hg.out
      rw [he] at hg2
      clear he
      have hge := gen_end (W % 2 ^ b) b (by omega)
      by_cases hb0 : b = 0
      · rw [if_pos hb0] at hge
        rw [hge, List.append_nil] at hg2
        have HO := Lib.hid hg2
        have hcv := bytes_back_own (P := Tryz.prog) wr 34 9 5 w.heap.size u3 o.length o rfl Tryz.underlying34 Tryz.underlying5 Tryz.underlying9 hown
        clear hge hab hg2
        go_wp2
        go_ret
        exact ⟨ret_str (by rw [HO.out, HR.out]), hbel⟩
      · rw [if_neg hb0] at hge
        have hand := win_last W b hb6
        have hx := HX.out ((W % 2 ^ b) * 2 ^ (6 - b)) (win_last_lt W b hb6)
        have HO := Lib.hid (show o ++ [letterN ((W % 2 ^ b) * 2 ^ (6 - b))] = R by rw [← hg2, hge])
        clear hge hg2
        generalize (W % 2 ^ b) * 2 ^ (6 - b) = j at hand hx HO
        generalize letterN j = c at hx HO
        go_wp2_with (at_builtin; refine wpList_append_lies _ rfl _ _ _ rfl w.heap.size 5 i0 _ 1 1 Tryz.underlying34 hi hz0 hz1 hz2 rfl (by omega) u3 o.length _ rfl (hown.alloc _) ⟨wr.heap.size, 0, none⟩ 1 1 [.int .u8 ((c.toNat : Nat) : Int)] rfl rfl (World.news_of_block (cs := #[.int .u8 ((c.toNat : Nat) : Int)]) (t := 5) (fr := (0, 0)) (heap_alloc_new wr _)) (by simp [Value.oneCell']) (by omega) (by unfold maxLen; omega) (by omega) (by simp; omega) (wr.heap.size + 1) (by simp) ?_; intro gg cap w1 hown3 hgrow hat hlt2)
        have hcv := bytes_back_own (P := Tryz.prog) w1 34 9 5 w.heap.size (.slice (some ⟨gg, 0, none⟩) (o.length + 1) cap) (o.length + 1) (o ++ [c]) (by simp) Tryz.underlying34 Tryz.underlying5 Tryz.underlying9 (by rw [cells8_append]; exact hown3)
        go_wp2_with (rw [hcv])
        go_ret
        exact ⟨ret_str (by rw [HO.out, HR.out]), (hbel.alloc hbs _).grown hgrow (by simp; omega) (fun j e => (hown.lt j e).1)⟩

end Go.Proofs.YtonpalaopnfffaaGreatDoor
