import Derived.Test.YtonpalaopnfffaaGreatDoorPct

namespace Go.Proofs.YtonpalaopnfffaaGreatDoor
set_option linter.unusedVariables false
set_option maxRecDepth 4000
open Go.ChangeShapes Go.WideShapes Go.ChangeAt Go.RowKit
open Go.ChangeMaps (open_string shut_string)

/-- the sixty-four letters -/
def b64L : List UInt8 := [65, 66, 67, 68, 69, 70, 71, 72, 73, 74, 75, 76, 77, 78, 79, 80, 81, 82, 83, 84, 85, 86, 87, 88, 89, 90, 97, 98, 99, 100, 101, 102, 103, 104, 105, 106, 107, 108, 109, 110, 111, 112, 113, 114, 115, 116, 117, 118, 119, 120, 121, 122, 48, 49, 50, 51, 52, 53, 54, 55, 56, 57, 45, 95]

def letterN (i : Nat) : UInt8 := b64L.getD i 0

theorem letters_call (w : World) : Calls Tryz.prog 72 #[] w fun e w' => e = .returned (.string (txt b64L)) ∧ w = w' := by
  go_enter Tryz.func72, Tryz.ntmps72
  go_wp2
  go_ret
  exact ⟨rfl, rfl⟩

theorem letter_index {P : Program} (t : TypeId) (ht : P.underlying t = some .string) (k : IntKind) (i : Nat) (hi : i < 64) (w : World) :
    (Instr.index t (.string (txt b64L)) (.int k (i : Int))).run P w = .ok (.int .u8 (((letterN i).toNat : Nat) : Int)) w := by
  have hs : (txt b64L).size = 64 := rfl
  have e : (i : Int).toNat = i := by omega
  have hq : (txt b64L)[(i : Int).toNat]'(by rw [hs]; omega) = letterN i := by
    simp only [e]
    show b64L[i]'(by show i < 64; exact hi) = letterN i
    unfold letterN
    rw [List.getD_eq_getElem?_getD, List.getElem?_eq_getElem (by show i < 64; exact hi)]
    rfl
  rw [run_index_string w t _ k _ ht, dif_pos ⟨by omega, by rw [hs]; omega⟩, hq]

theorem and_low (a k : Nat) (ha : a < 9223372036854775808) (hk : k < 63) : bits .and .i64 (a : Int) (((2 ^ k - 1 : Nat)) : Int) = ((a % 2 ^ k : Nat) : Int) := by
  have e : bits .and .i64 (a : Int) (((2 ^ k - 1 : Nat)) : Int) = IntKind.i64.wrap ((BitVec.ofInt 64 (a : Int) &&& BitVec.ofInt 64 (((2 ^ k - 1 : Nat)) : Int)).toNat : Int) := rfl
  have hp : 2 ^ k < 2 ^ 63 := Nat.pow_lt_pow_right (by omega) hk
  have e1 : (BitVec.ofInt 64 (a : Int)).toNat = a := by rw [BitVec.toNat_ofInt]; omega
  have e2 : (BitVec.ofInt 64 (((2 ^ k - 1 : Nat)) : Int)).toNat = 2 ^ k - 1 := by rw [BitVec.toNat_ofInt]; omega
  rw [e, BitVec.toNat_and, e1, e2, Nat.and_two_pow_sub_one_eq_mod, IntKind.wrap_i64]
  have : a % 2 ^ k < 2 ^ k := Nat.mod_lt _ (Nat.two_pow_pos k)
  omega

/-- the letters of what is still to come, a and b being what the bits so far tell and how many they are -/
def genA (a b : Nat) (l : List UInt8) : List UInt8 :=
  if 6 ≤ b then letterN (a / 2 ^ (b - 6)) :: genA (a % 2 ^ (b - 6)) (b - 6) l
  else match l with
    | [] => if b = 0 then [] else [letterN (a * 2 ^ (6 - b))]
    | x :: r => genA (a * 256 + x.toNat) (b + 8) r
termination_by l.length * 16 + b
decreasing_by
  · omega
  · simp only [List.length_cons]; omega

theorem gen_out (a b : Nat) (l : List UInt8) (h : 6 ≤ b) : genA a b l = letterN (a / 2 ^ (b - 6)) :: genA (a % 2 ^ (b - 6)) (b - 6) l := by
  conv => lhs; unfold genA
  rw [if_pos h]

theorem gen_in (a b : Nat) (x : UInt8) (r : List UInt8) (h : b < 6) : genA a b (x :: r) = genA (a * 256 + x.toNat) (b + 8) r := by
  conv => lhs; unfold genA
  rw [if_neg (by omega)]

theorem gen_end (a b : Nat) (h : b < 6) : genA a b [] = if b = 0 then [] else [letterN (a * 2 ^ (6 - b))] := by
  unfold genA
  rw [if_neg (by omega)]

def b64 (l : List UInt8) : List UInt8 := genA 0 0 l

set_option maxHeartbeats 1600000 in
theorem b64_spec (s : ByteArray) (w : World) (hs : s.size ≤ 1048576) :
    Calls Tryz.prog 54 #[.string s] w fun e w' => e = .returned (.string (txt (b64 s.data.toList))) ∧ Below w.heap.size w w' := by
  obtain ⟨i0, hi, hz0, hz1, hz2⟩ := info_parts Tryz.info5
  obtain ⟨R, hR⟩ : ∃ R, R = b64 s.data.toList := ⟨_, rfl⟩
  have HR := Lib.hid hR
  clear hR
  have HX := Lib.hid (fun i hi w => letter_index (P := Tryz.prog) 9 Tryz.underlying9 .i64 i hi w)
  go_enter Tryz.func54, Tryz.ntmps54
  go_wp2_with fail
  refine (letters_call _).mono ?_
  rintro e w1 ⟨rfl, rfl⟩
  generalize txt b64L = S at HX ⊢
  go_wp2
  go_loopw [4, 5, 6, 7] (fun v A B i wr => ∃ (k a b : Nat) (o : List UInt8), k ≤ s.size ∧ A = .int .i64 (a : Int) ∧ B = .int .i64 (b : Int) ∧ i = .int .i64 k ∧ Hid ((b = 0 ∧ a = 0) ∨ (b = 2 ∧ a < 4) ∨ (b = 4 ∧ a < 16)) ∧ Hid (6 * o.length + b = 8 * k) ∧ Hid (o ++ genA a b (s.data.toList.drop k) = R) ∧ wr.ownsRow w.heap.size 5 1 v o.length (cells8 o) ∧ Below w.heap.size w wr) (fun _ _ _ i _ => s.size - (intOf i).toNat)
  case atStart => exact ⟨0, 0, 0, [], by omega, rfl, rfl, rfl, Lib.hid (.inl ⟨rfl, rfl⟩), Lib.hid (by simp), Lib.hid (by rw [HR.out]; rfl), World.ownsRow_made w #[] 0 (Nat.le_refl _) (by simp) rfl, (Below.refl _ w).alloc (Nat.le_refl _) _⟩
  case round =>
    obtain ⟨k, a, b, o, hk, rfl, rfl, rfl, hab, hcount, hg, hown, hbel⟩ := hrel
    have hbs := hbel.size
    have hol : o.length ≤ 2097152 := by have := hcount.out; omega
    have hb6 : b < 6 := by have := hab.out; omega
    have ha16 : a < 16 := by have := hab.out; omega
    by_cases hlt : k < s.size
    · have h256 : s[k].toNat < 256 := s[k].toNat_lt
      have hg2 := hg.out
      rw [drop_cons s k hlt, gen_in _ _ _ _ hb6] at hg2
      have HG := Lib.hid hg2
      clear hg2 hg
      go_wp2
      go_loopw [4, 5, 6] (fun v A B wr => ∃ (a2 b2 : Nat) (o2 : List UInt8), A = .int .i64 (a2 : Int) ∧ B = .int .i64 (b2 : Int) ∧ Hid ((b2 = 0 ∧ a2 = 0) ∨ (b2 = 2 ∧ a2 < 4) ∨ (b2 = 4 ∧ a2 < 16) ∨ (b2 = 6 ∧ a2 < 64) ∨ (b2 = 8 ∧ a2 < 256) ∨ (b2 = 10 ∧ a2 < 1024) ∨ (b2 = 12 ∧ a2 < 4096)) ∧ Hid (6 * o2.length + b2 = 8 * (k + 1)) ∧ Hid (o2 ++ genA a2 b2 (s.data.toList.drop (k + 1)) = R) ∧ wr.ownsRow w.heap.size 5 1 v o2.length (cells8 o2) ∧ Below w.heap.size w wr) (fun _ _ B _ => (intOf B).toNat)
      case atStart =>
        refine ⟨a * 256 + s[k].toNat, b + 8, o, by simp, by simp, Lib.hid ?_, Lib.hid ?_, HG, hown, hbel⟩
        · have := hab.out; omega
        · have := hcount.out; omega
      case round =>
        obtain ⟨a2, b2, o2, rfl, rfl, hab2, hc2, hg2, hown2, hbel2⟩ := hrel
        have hbs2 := hbel2.size
        have hol2 : o2.length ≤ 2097152 := by have := hc2.out; omega
        rcases hab2.out with ⟨rfl, h⟩ | ⟨rfl, h⟩ | ⟨rfl, h⟩ | ⟨rfl, h⟩ | ⟨rfl, h⟩ | ⟨rfl, h⟩ | ⟨rfl, h⟩
        case inl =>
          clear hab2
          go_wp2
          go_roundw
          case rel => exact ⟨k + 1, a2, 0, o2, by omega, rfl, rfl, by go_num, Lib.hid (by omega), hc2, hg2, hown2, hbel2⟩
          case measure => simp [intOf]; omega
        case inr.inl =>
          clear hab2
          go_wp2
          go_roundw
          case rel => exact ⟨k + 1, a2, 2, o2, by omega, rfl, rfl, by go_num, Lib.hid (by omega), hc2, hg2, hown2, hbel2⟩
          case measure => simp [intOf]; omega
        case inr.inr.inl =>
          clear hab2
          go_wp2
          go_roundw
          case rel => exact ⟨k + 1, a2, 4, o2, by omega, rfl, rfl, by go_num, Lib.hid (by omega), hc2, hg2, hown2, hbel2⟩
          case measure => simp [intOf]; omega
        case inr.inr.inr.inl =>
          have hgo := gen_out a2 6 (s.data.toList.drop (k + 1)) (by omega)
          have hx := HX.out a2 (by omega)
          have hand := and_low a2 0 (by omega) (by omega)
          have e2 : ((a2 % 2 ^ 0 : Nat) : Int) = 0 := by rw [Nat.pow_zero, Nat.mod_one]; rfl
          rw [e2] at hand
          have e3 : (((2 ^ 0 - 1 : Nat)) : Int) = 0 := rfl
          rw [e3] at hand
          have HG2 := Lib.hid (show (o2 ++ [letterN a2]) ++ genA 0 0 (s.data.toList.drop (k + 1)) = R by rw [← hg2.out, hgo]; simp [Nat.mod_one])
          clear hgo e2 e3 hab2
          generalize letterN a2 = c at hx HG2
          go_wp2_with (at_builtin; refine wpList_append_lies _ rfl _ _ _ rfl w.heap.size 5 i0 _ 1 1 Tryz.underlying34 hi hz0 hz1 hz2 rfl (by omega) u4 o2.length _ rfl (hown2.alloc _) ⟨wr.heap.size, 0, none⟩ 1 1 [.int .u8 ((c.toNat : Nat) : Int)] rfl rfl (World.news_of_block (cs := #[.int .u8 ((c.toNat : Nat) : Int)]) (t := 5) (fr := (0, 0)) (heap_alloc_new wr _)) (by simp [Value.oneCell']) (by omega) (by unfold maxLen; omega) (by omega) (by simp; omega) (wr.heap.size + 1) (by simp) ?_; intro gg cap w1 hown3 hgrow hat hlt2)
          clear hand hx
          refine ⟨⟨0, 0, o2 ++ [c], by simp, by simp, Lib.hid (by omega), Lib.hid (by have := hc2.out; simp; omega), HG2, by rw [cells8_append, List.length_append]; exact hown3, (hbel2.alloc hbs2 _).grown hgrow (by simp; omega) (fun j e => (hown2.lt j e).1)⟩, by simp [intOf]⟩
        case inr.inr.inr.inr.inl =>
          have hgo := gen_out a2 8 (s.data.toList.drop (k + 1)) (by omega)
          have hx := HX.out (a2 / 4) (by omega)
          have e1 : ((a2 / 4 : Nat) : Int) = (a2 : Int) / 4 := by omega
          rw [e1] at hx
          have hand := and_low a2 2 (by omega) (by omega)
          have e2 : ((a2 % 2 ^ 2 : Nat) : Int) = ((a2 % 4 : Nat) : Int) := rfl
          rw [e2] at hand
          have e3 : (((2 ^ 2 - 1 : Nat)) : Int) = 3 := rfl
          rw [e3] at hand
          have HG2 := Lib.hid (show (o2 ++ [letterN (a2 / 4)]) ++ genA (a2 % 4) 2 (s.data.toList.drop (k + 1)) = R by rw [← hg2.out, hgo]; simp)
          clear hgo e1 e2 e3 hab2
          generalize letterN (a2 / 4) = c at hx HG2
          go_wp2_with (at_builtin; refine wpList_append_lies _ rfl _ _ _ rfl w.heap.size 5 i0 _ 1 1 Tryz.underlying34 hi hz0 hz1 hz2 rfl (by omega) u4 o2.length _ rfl (hown2.alloc _) ⟨wr.heap.size, 0, none⟩ 1 1 [.int .u8 ((c.toNat : Nat) : Int)] rfl rfl (World.news_of_block (cs := #[.int .u8 ((c.toNat : Nat) : Int)]) (t := 5) (fr := (0, 0)) (heap_alloc_new wr _)) (by simp [Value.oneCell']) (by omega) (by unfold maxLen; omega) (by omega) (by simp; omega) (wr.heap.size + 1) (by simp) ?_; intro gg cap w1 hown3 hgrow hat hlt2)
          clear hand hx
          refine ⟨⟨a2 % 4, 2, o2 ++ [c], by simp, by simp, Lib.hid (by omega), Lib.hid (by have := hc2.out; simp; omega), HG2, by rw [cells8_append, List.length_append]; exact hown3, (hbel2.alloc hbs2 _).grown hgrow (by simp; omega) (fun j e => (hown2.lt j e).1)⟩, by simp [intOf]⟩
        case inr.inr.inr.inr.inr.inl =>
          have hgo := gen_out a2 10 (s.data.toList.drop (k + 1)) (by omega)
          have hx := HX.out (a2 / 16) (by omega)
          have e1 : ((a2 / 16 : Nat) : Int) = (a2 : Int) / 16 := by omega
          rw [e1] at hx
          have hand := and_low a2 4 (by omega) (by omega)
          have e2 : ((a2 % 2 ^ 4 : Nat) : Int) = ((a2 % 16 : Nat) : Int) := rfl
          rw [e2] at hand
          have e3 : (((2 ^ 4 - 1 : Nat)) : Int) = 15 := rfl
          rw [e3] at hand
          have HG2 := Lib.hid (show (o2 ++ [letterN (a2 / 16)]) ++ genA (a2 % 16) 4 (s.data.toList.drop (k + 1)) = R by rw [← hg2.out, hgo]; simp)
          clear hgo e1 e2 e3 hab2
          generalize letterN (a2 / 16) = c at hx HG2
          go_wp2_with (at_builtin; refine wpList_append_lies _ rfl _ _ _ rfl w.heap.size 5 i0 _ 1 1 Tryz.underlying34 hi hz0 hz1 hz2 rfl (by omega) u4 o2.length _ rfl (hown2.alloc _) ⟨wr.heap.size, 0, none⟩ 1 1 [.int .u8 ((c.toNat : Nat) : Int)] rfl rfl (World.news_of_block (cs := #[.int .u8 ((c.toNat : Nat) : Int)]) (t := 5) (fr := (0, 0)) (heap_alloc_new wr _)) (by simp [Value.oneCell']) (by omega) (by unfold maxLen; omega) (by omega) (by simp; omega) (wr.heap.size + 1) (by simp) ?_; intro gg cap w1 hown3 hgrow hat hlt2)
          clear hand hx
          refine ⟨⟨a2 % 16, 4, o2 ++ [c], by simp, by simp, Lib.hid (by omega), Lib.hid (by have := hc2.out; simp; omega), HG2, by rw [cells8_append, List.length_append]; exact hown3, (hbel2.alloc hbs2 _).grown hgrow (by simp; omega) (fun j e => (hown2.lt j e).1)⟩, by simp [intOf]⟩
        case inr.inr.inr.inr.inr.inr =>
          have hgo := gen_out a2 12 (s.data.toList.drop (k + 1)) (by omega)
          have hx := HX.out (a2 / 64) (by omega)
          have e1 : ((a2 / 64 : Nat) : Int) = (a2 : Int) / 64 := by omega
          rw [e1] at hx
          have hand := and_low a2 6 (by omega) (by omega)
          have e2 : ((a2 % 2 ^ 6 : Nat) : Int) = ((a2 % 64 : Nat) : Int) := rfl
          rw [e2] at hand
          have e3 : (((2 ^ 6 - 1 : Nat)) : Int) = 63 := rfl
          rw [e3] at hand
          have HG2 := Lib.hid (show (o2 ++ [letterN (a2 / 64)]) ++ genA (a2 % 64) 6 (s.data.toList.drop (k + 1)) = R by rw [← hg2.out, hgo]; simp)
          clear hgo e1 e2 e3 hab2
          generalize letterN (a2 / 64) = c at hx HG2
          go_wp2_with (at_builtin; refine wpList_append_lies _ rfl _ _ _ rfl w.heap.size 5 i0 _ 1 1 Tryz.underlying34 hi hz0 hz1 hz2 rfl (by omega) u4 o2.length _ rfl (hown2.alloc _) ⟨wr.heap.size, 0, none⟩ 1 1 [.int .u8 ((c.toNat : Nat) : Int)] rfl rfl (World.news_of_block (cs := #[.int .u8 ((c.toNat : Nat) : Int)]) (t := 5) (fr := (0, 0)) (heap_alloc_new wr _)) (by simp [Value.oneCell']) (by omega) (by unfold maxLen; omega) (by omega) (by simp; omega) (wr.heap.size + 1) (by simp) ?_; intro gg cap w1 hown3 hgrow hat hlt2)
          clear hand hx
          refine ⟨⟨a2 % 64, 6, o2 ++ [c], by simp, by simp, Lib.hid (by omega), Lib.hid (by have := hc2.out; simp; omega), HG2, by rw [cells8_append, List.length_append]; exact hown3, (hbel2.alloc hbs2 _).grown hgrow (by simp; omega) (fun j e => (hown2.lt j e).1)⟩, by simp [intOf]⟩
    · have he : s.data.toList.drop k = [] := List.drop_eq_nil_of_le (by rw [data_length]; omega)
      have hg2 := hg.out
      rw [he] at hg2
      clear he
      rcases hab.out with ⟨rfl, h⟩ | ⟨rfl, h⟩ | ⟨rfl, h⟩
      · have hge := gen_end a 0 (by omega)
        rw [if_pos rfl] at hge
        rw [hge, List.append_nil] at hg2
        have HO := Lib.hid hg2
        have hcv := bytes_back_own (P := Tryz.prog) wr 34 9 5 w.heap.size u4 o.length o rfl Tryz.underlying34 Tryz.underlying5 Tryz.underlying9 hown
        clear hge hab hg2
        go_wp2
        go_ret
        exact ⟨ret_str (by rw [HO.out, HR.out]), hbel⟩
      · have hge := gen_end a 2 (by omega)
        rw [if_neg (by omega)] at hge
        have hx := HX.out (a * 16) (by omega)
        have e1 : ((a * 16 : Nat) : Int) = (a : Int) * 16 := by omega
        rw [e1] at hx
        have HO := Lib.hid (show o ++ [letterN (a * 16)] = R by rw [← hg2, hge])
        clear hge e1 hab
        generalize letterN (a * 16) = c at hx HO
        go_wp2_with (at_builtin; refine wpList_append_lies _ rfl _ _ _ rfl w.heap.size 5 i0 _ 1 1 Tryz.underlying34 hi hz0 hz1 hz2 rfl (by omega) u4 o.length _ rfl (hown.alloc _) ⟨wr.heap.size, 0, none⟩ 1 1 [.int .u8 ((c.toNat : Nat) : Int)] rfl rfl (World.news_of_block (cs := #[.int .u8 ((c.toNat : Nat) : Int)]) (t := 5) (fr := (0, 0)) (heap_alloc_new wr _)) (by simp [Value.oneCell']) (by omega) (by unfold maxLen; omega) (by omega) (by simp; omega) (wr.heap.size + 1) (by simp) ?_; intro gg cap w1 hown3 hgrow hat hlt2)
        have hcv := bytes_back_own (P := Tryz.prog) w1 34 9 5 w.heap.size (.slice (some ⟨gg, 0, none⟩) (o.length + 1) cap) (o.length + 1) (o ++ [c]) (by simp) Tryz.underlying34 Tryz.underlying5 Tryz.underlying9 (by rw [cells8_append]; exact hown3)
        go_wp2_with (rw [hcv])
        go_ret
        exact ⟨ret_str (by rw [HO.out, HR.out]), (hbel.alloc hbs _).grown hgrow (by simp; omega) (fun j e => (hown.lt j e).1)⟩
      · have hge := gen_end a 4 (by omega)
        rw [if_neg (by omega)] at hge
        have hx := HX.out (a * 4) (by omega)
        have e1 : ((a * 4 : Nat) : Int) = (a : Int) * 4 := by omega
        rw [e1] at hx
        have HO := Lib.hid (show o ++ [letterN (a * 4)] = R by rw [← hg2, hge])
        clear hge e1 hab
        generalize letterN (a * 4) = c at hx HO
        go_wp2_with (at_builtin; refine wpList_append_lies _ rfl _ _ _ rfl w.heap.size 5 i0 _ 1 1 Tryz.underlying34 hi hz0 hz1 hz2 rfl (by omega) u4 o.length _ rfl (hown.alloc _) ⟨wr.heap.size, 0, none⟩ 1 1 [.int .u8 ((c.toNat : Nat) : Int)] rfl rfl (World.news_of_block (cs := #[.int .u8 ((c.toNat : Nat) : Int)]) (t := 5) (fr := (0, 0)) (heap_alloc_new wr _)) (by simp [Value.oneCell']) (by omega) (by unfold maxLen; omega) (by omega) (by simp; omega) (wr.heap.size + 1) (by simp) ?_; intro gg cap w1 hown3 hgrow hat hlt2)
        have hcv := bytes_back_own (P := Tryz.prog) w1 34 9 5 w.heap.size (.slice (some ⟨gg, 0, none⟩) (o.length + 1) cap) (o.length + 1) (o ++ [c]) (by simp) Tryz.underlying34 Tryz.underlying5 Tryz.underlying9 (by rw [cells8_append]; exact hown3)
        go_wp2_with (rw [hcv])
        go_ret
        exact ⟨ret_str (by rw [HO.out, HR.out]), (hbel.alloc hbs _).grown hgrow (by simp; omega) (fun j e => (hown.lt j e).1)⟩

/-- the place of a letter, -1 where it is none -/
def atN (x : UInt8) : Int := match b64L.findIdx? (fun y => y == x) with
  | some i => (i : Int)
  | none => -1

theorem letter_at (j : Nat) (hj : j < b64L.length) : letterN j = b64L[j] := by
  unfold letterN
  rw [List.getD_eq_getElem?_getD, List.getElem?_eq_getElem hj]
  rfl

theorem atN_yes (x : UInt8) (i : Nat) (hi : i < 64) (h : letterN i = x) (hno : ∀ j, j < i → letterN j ≠ x) : atN x = i := by
  have hl : b64L.length = 64 := rfl
  unfold atN
  have : b64L.findIdx? (fun y => y == x) = some i := by
    rw [List.findIdx?_eq_some_iff_getElem]
    refine ⟨by omega, ?_, fun j hj => ?_⟩
    · rw [← letter_at i (by omega), h]; simp
    · have := hno j hj
      rw [letter_at j (by omega)] at this
      simpa using this
  rw [this]

theorem atN_no (x : UInt8) (hno : ∀ j, j < 64 → letterN j ≠ x) : atN x = -1 := by
  have hl : b64L.length = 64 := rfl
  unfold atN
  have : b64L.findIdx? (fun y => y == x) = none := by
    rw [List.findIdx?_eq_none_iff]
    intro y hy
    obtain ⟨j, hj, rfl⟩ := List.getElem_of_mem hy
    have := hno j (by omega)
    rw [letter_at j hj] at this
    simpa using this
  rw [this]

theorem atN_lt (x : UInt8) : atN x < 64 := by
  unfold atN
  split
  · rename_i i h
    rw [List.findIdx?_eq_some_iff_getElem] at h
    obtain ⟨h1, _⟩ := h
    have hl : b64L.length = 64 := rfl
    omega
  · omega

theorem at_call (x : UInt8) (w : World) : Calls Tryz.prog 53 #[.int .u8 x.toNat] w fun e w' => e = .returned (.int .i64 (atN x)) ∧ w = w' := by
  have h256 : x.toNat < 256 := x.toNat_lt
  have HX := Lib.hid (fun i hi w => letter_index (P := Tryz.prog) 9 Tryz.underlying9 .i64 i hi w)
  go_enter Tryz.func53, Tryz.ntmps53
  go_wp2_with fail
  refine (letters_call _).mono ?_
  rintro e w1 ⟨rfl, rfl⟩
  generalize txt b64L = S at HX ⊢
  go_wp2
  go_loop [4] (fun i => ∃ k : Nat, k ≤ 64 ∧ i = .int .i64 k ∧ Hid (∀ j, j < k → letterN j ≠ x)) (fun i => 64 - (intOf i).toNat)
  case atStart => exact ⟨0, by omega, rfl, Lib.hid (fun j hj => by omega)⟩
  case round =>
    obtain ⟨k, hk, rfl, hno⟩ := hrel
    by_cases hlt : k < 64
    · have hx := HX.out k hlt
      have hc256 : (letterN k).toNat < 256 := (letterN k).toNat_lt
      by_cases he : letterN k = x
      · have HA := Lib.hid (atN_yes x k hlt he hno.out)
        have hbe : ((((letterN k).toNat : Nat) : Int) == ((x.toNat : Nat) : Int)) = true := by rw [he]; simp
        clear he
        go_wp2
        go_ret
        exact ⟨ret_int (by rw [HA.out]), rfl⟩
      · have hbe : ((((letterN k).toNat : Nat) : Int) == ((x.toNat : Nat) : Int)) = false := by
          simp; intro e; exact he (UInt8.toNat_inj.1 (by omega))
        have HN := Lib.hid (show ∀ j, j < k + 1 → letterN j ≠ x from fun j hj => by
          by_cases e : j = k
          · subst e; exact he
          · exact hno.out j (by omega))
        clear he
        go_wp2
        go_round
        case rel => exact ⟨k + 1, by omega, by go_num, HN⟩
        case measure => simp [intOf]; omega
    · have HA := Lib.hid (atN_no x (fun j hj => hno.out j (by omega)))
      go_wp2
      go_ret
      exact ⟨ret_int (by rw [HA.out]), rfl⟩

/-- the bytes that letters tell -/
def ungA (o : List UInt8) (a b : Nat) : List UInt8 → Option (List UInt8)
  | [] => some o
  | x :: r => if atN x < 0 then none else
    if 8 ≤ b + 6 then ungA (o ++ [UInt8.ofNat ((a * 64 + (atN x).toNat) / 2 ^ (b - 2))]) ((a * 64 + (atN x).toNat) % 2 ^ (b - 2)) (b - 2) r
    else ungA o (a * 64 + (atN x).toNat) (b + 6) r

def finB (l : List UInt8) : Option (List UInt8) → Option (List UInt8)
  | none => none
  | some o => if b64 o = l then some o else none

def unb64 (l : List UInt8) : Option (List UInt8) := finB l (ungA [] 0 0 l)

set_option maxHeartbeats 1600000 in
theorem unb64_spec (s : ByteArray) (w : World) (hs : s.size ≤ 1048576) :
    Calls Tryz.prog 25 #[.string s] w fun e w' => e = .returned (unR (unb64 s.data.toList)) ∧ Below w.heap.size w w' := by
  obtain ⟨i0, hi, hz0, hz1, hz2⟩ := info_parts Tryz.info5
  obtain ⟨R, hR⟩ : ∃ R, R = ungA [] 0 0 s.data.toList := ⟨_, rfl⟩
  have HR := Lib.hid hR
  have HU := Lib.hid (show unb64 s.data.toList = finB s.data.toList R by rw [hR]; rfl)
  clear hR
  go_enter Tryz.func25, Tryz.ntmps25
  go_wp2
  go_loopw [4, 5, 6, 7] (fun v A B i wr => ∃ (k a b : Nat) (o : List UInt8), k ≤ s.size ∧ A = .int .i64 (a : Int) ∧ B = .int .i64 (b : Int) ∧ i = .int .i64 k ∧ Hid ((b = 0 ∧ a = 0) ∨ (b = 6 ∧ a < 64) ∨ (b = 4 ∧ a < 16) ∨ (b = 2 ∧ a < 4)) ∧ o.length ≤ k ∧ Hid (ungA o a b (s.data.toList.drop k) = R) ∧ wr.ownsRow w.heap.size 5 1 v o.length (cells8 o) ∧ Below w.heap.size w wr) (fun _ _ _ i _ => s.size - (intOf i).toNat)
  case atStart => exact ⟨0, 0, 0, [], by omega, rfl, rfl, rfl, Lib.hid (.inl ⟨rfl, rfl⟩), by simp, Lib.hid (by rw [HR.out]; rfl), World.ownsRow_made w #[] 0 (Nat.le_refl _) (by simp) rfl, (Below.refl _ w).alloc (Nat.le_refl _) _⟩
  case round =>
    obtain ⟨k, a, b, o, hk, rfl, rfl, rfl, hab, hol, hg, hown, hbel⟩ := hrel
    have hbs := hbel.size
    by_cases hlt : k < s.size
    · have h256 : s[k].toNat < 256 := s[k].toNat_lt
      have hg2 := hg.out
      rw [drop_cons s k hlt, ungA] at hg2
      have hlt64 := atN_lt s[k]
      by_cases hneg : atN s[k] < 0
      · rw [if_pos hneg] at hg2
        subst hg2
        go_wp2_with (go_at_call 53; refine (at_call _ _).mono ?_; rintro e w1 ⟨rfl, rfl⟩)
        go_ret2
        exact ⟨by rw [HU.out]; rfl, hbel⟩
      · rw [if_neg hneg] at hg2
        obtain ⟨n, hnn⟩ := Int.eq_ofNat_of_zero_le (show 0 ≤ atN s[k] by omega)
        rw [hnn] at hg2 hlt64 hneg
        rw [Int.toNat_natCast] at hg2
        have HN := Lib.hid hnn
        clear hnn
        have hn64 : n < 64 := by omega
        rcases hab.out with ⟨rfl, rfl⟩ | ⟨rfl, h⟩ | ⟨rfl, h⟩ | ⟨rfl, h⟩
        · have HUg := hg2
          clear hg2 hg hab
          go_wp2_with fail
          refine (at_call _ _).mono ?_
          rintro e w1 ⟨rfl, rfl⟩
          rw [HN.out]
          rw [if_neg (by omega), Nat.zero_mul, Nat.zero_add] at HUg
          have HUG := Lib.hid (show ungA o n 6 (s.data.toList.drop (k + 1)) = R from HUg)
          clear HUg
          go_wp2
          go_roundw
          case rel => exact ⟨k + 1, n, 6, o, by omega, by simp, rfl, by go_num, Lib.hid (by omega), by omega, HUG, hown, hbel⟩
          case measure => simp [intOf]; omega
        · have HUg := hg2
          clear hg2 hg hab
          go_wp2_with fail
          refine (at_call _ _).mono ?_
          rintro e w1 ⟨rfl, rfl⟩
          rw [HN.out]
          have hand := and_low (a * 64 + n) 4 (by omega) (by omega)
          have e2 : (((a * 64 + n) % 2 ^ 4 : Nat) : Int) = (((a * 64 + n) % 16 : Nat) : Int) := rfl
          rw [e2] at hand
          have e3 : (((2 ^ 4 - 1 : Nat)) : Int) = 15 := rfl
          rw [e3] at hand
          have e4 : ((a * 64 + n : Nat) : Int) = (a : Int) * 64 + (n : Int) := by omega
          rw [e4] at hand
          clear e2 e3 e4
          rw [if_pos (by omega)] at HUg
          have hv : ((UInt8.ofNat ((a * 64 + n) / 16)).toNat : Int) = ((a : Int) * 64 + (n : Int)) / 16 := by rw [UInt8.toNat_ofNat']; omega
          have HUG := Lib.hid (show ungA (o ++ [UInt8.ofNat ((a * 64 + n) / 16)]) ((a * 64 + n) % 16) 4 (s.data.toList.drop (k + 1)) = R from HUg)
          clear HUg
          generalize UInt8.ofNat ((a * 64 + n) / 16) = c at hv HUG
          have HV := Lib.hid hv.symm
          clear hv
          go_wp2_with (at_builtin; refine wpList_append_lies _ rfl _ _ _ rfl w.heap.size 5 i0 _ 1 1 Tryz.underlying34 hi hz0 hz1 hz2 rfl (by omega) u4 o.length _ rfl (hown.alloc _) ⟨wr.heap.size, 0, none⟩ 1 1 [.int .u8 (((a : Int) * 64 + (n : Int)) / 16)] rfl rfl (World.news_of_block (cs := #[.int .u8 (((a : Int) * 64 + (n : Int)) / 16)]) (t := 5) (fr := (0, 0)) (heap_alloc_new wr _)) (by simp [Value.oneCell']) (by omega) (by unfold maxLen; omega) (by omega) (by simp; omega) (wr.heap.size + 1) (by simp) ?_; intro gg cap w1 hown3 hgrow hat hlt2)
          clear hand
          exact ⟨⟨k + 1, (a * 64 + n) % 16, 4, o ++ [c], by omega, by simp, rfl, by go_num, Lib.hid (by omega), by simp; omega, HUG, by rw [cells8_append, List.length_append, ← cells8_one c (((a : Int) * 64 + (n : Int)) / 16) HV.out]; exact hown3, (hbel.alloc hbs _).grown hgrow (by simp; omega) (fun j e => (hown.lt j e).1)⟩, by simp [intOf]; omega⟩
        · have HUg := hg2
          clear hg2 hg hab
          go_wp2_with fail
          refine (at_call _ _).mono ?_
          rintro e w1 ⟨rfl, rfl⟩
          rw [HN.out]
          have hand := and_low (a * 64 + n) 2 (by omega) (by omega)
          have e2 : (((a * 64 + n) % 2 ^ 2 : Nat) : Int) = (((a * 64 + n) % 4 : Nat) : Int) := rfl
          rw [e2] at hand
          have e3 : (((2 ^ 2 - 1 : Nat)) : Int) = 3 := rfl
          rw [e3] at hand
          have e4 : ((a * 64 + n : Nat) : Int) = (a : Int) * 64 + (n : Int) := by omega
          rw [e4] at hand
          clear e2 e3 e4
          rw [if_pos (by omega)] at HUg
          have hv : ((UInt8.ofNat ((a * 64 + n) / 4)).toNat : Int) = ((a : Int) * 64 + (n : Int)) / 4 := by rw [UInt8.toNat_ofNat']; omega
          have HUG := Lib.hid (show ungA (o ++ [UInt8.ofNat ((a * 64 + n) / 4)]) ((a * 64 + n) % 4) 2 (s.data.toList.drop (k + 1)) = R from HUg)
          clear HUg
          generalize UInt8.ofNat ((a * 64 + n) / 4) = c at hv HUG
          have HV := Lib.hid hv.symm
          clear hv
          go_wp2_with (at_builtin; refine wpList_append_lies _ rfl _ _ _ rfl w.heap.size 5 i0 _ 1 1 Tryz.underlying34 hi hz0 hz1 hz2 rfl (by omega) u4 o.length _ rfl (hown.alloc _) ⟨wr.heap.size, 0, none⟩ 1 1 [.int .u8 (((a : Int) * 64 + (n : Int)) / 4)] rfl rfl (World.news_of_block (cs := #[.int .u8 (((a : Int) * 64 + (n : Int)) / 4)]) (t := 5) (fr := (0, 0)) (heap_alloc_new wr _)) (by simp [Value.oneCell']) (by omega) (by unfold maxLen; omega) (by omega) (by simp; omega) (wr.heap.size + 1) (by simp) ?_; intro gg cap w1 hown3 hgrow hat hlt2)
          clear hand
          exact ⟨⟨k + 1, (a * 64 + n) % 4, 2, o ++ [c], by omega, by simp, rfl, by go_num, Lib.hid (by omega), by simp; omega, HUG, by rw [cells8_append, List.length_append, ← cells8_one c (((a : Int) * 64 + (n : Int)) / 4) HV.out]; exact hown3, (hbel.alloc hbs _).grown hgrow (by simp; omega) (fun j e => (hown.lt j e).1)⟩, by simp [intOf]; omega⟩
        · have HUg := hg2
          clear hg2 hg hab
          go_wp2_with fail
          refine (at_call _ _).mono ?_
          rintro e w1 ⟨rfl, rfl⟩
          rw [HN.out]
          have hand := and_low (a * 64 + n) 0 (by omega) (by omega)
          have e2 : (((a * 64 + n) % 2 ^ 0 : Nat) : Int) = (((a * 64 + n) % 1 : Nat) : Int) := rfl
          rw [e2] at hand
          have e3 : (((2 ^ 0 - 1 : Nat)) : Int) = 0 := rfl
          rw [e3] at hand
          have e4 : ((a * 64 + n : Nat) : Int) = (a : Int) * 64 + (n : Int) := by omega
          rw [e4] at hand
          clear e2 e3 e4
          rw [if_pos (by omega)] at HUg
          have hv : ((UInt8.ofNat ((a * 64 + n) / 1)).toNat : Int) = (a : Int) * 64 + (n : Int) := by rw [UInt8.toNat_ofNat']; omega
          have HUG := Lib.hid (show ungA (o ++ [UInt8.ofNat ((a * 64 + n) / 1)]) ((a * 64 + n) % 1) 0 (s.data.toList.drop (k + 1)) = R from HUg)
          clear HUg
          generalize UInt8.ofNat ((a * 64 + n) / 1) = c at hv HUG
          have HV := Lib.hid hv.symm
          clear hv
          go_wp2_with (at_builtin; refine wpList_append_lies _ rfl _ _ _ rfl w.heap.size 5 i0 _ 1 1 Tryz.underlying34 hi hz0 hz1 hz2 rfl (by omega) u4 o.length _ rfl (hown.alloc _) ⟨wr.heap.size, 0, none⟩ 1 1 [.int .u8 ((a : Int) * 64 + (n : Int))] rfl rfl (World.news_of_block (cs := #[.int .u8 ((a : Int) * 64 + (n : Int))]) (t := 5) (fr := (0, 0)) (heap_alloc_new wr _)) (by simp [Value.oneCell']) (by omega) (by unfold maxLen; omega) (by omega) (by simp; omega) (wr.heap.size + 1) (by simp) ?_; intro gg cap w1 hown3 hgrow hat hlt2)
          clear hand
          exact ⟨⟨k + 1, (a * 64 + n) % 1, 0, o ++ [c], by omega, by rw [Nat.mod_one]; rfl, rfl, by go_num, Lib.hid (by omega), by simp; omega, HUG, by rw [cells8_append, List.length_append, ← cells8_one c ((a : Int) * 64 + (n : Int)) HV.out]; exact hown3, (hbel.alloc hbs _).grown hgrow (by simp; omega) (fun j e => (hown.lt j e).1)⟩, by simp [intOf]; omega⟩
    · have he : s.data.toList.drop k = [] := List.drop_eq_nil_of_le (by rw [data_length]; omega)
      have hg2 := hg.out
      rw [he, ungA] at hg2
      clear he hg
      subst hg2
      have hfin : unb64 s.data.toList = if b64 o = s.data.toList then some o else none := HU.out
      have HF := Lib.hid hfin
      have HB := Lib.hid (show ∀ wx, _ from fun wx => b64_spec (txt o) wx (by rw [txt_size]; omega))
      rw [txt_toList] at HB
      have hcv := bytes_back_own (P := Tryz.prog) wr 34 9 5 w.heap.size u4 o.length o rfl Tryz.underlying34 Tryz.underlying5 Tryz.underlying9 hown
      clear hfin
      go_wp2_with fail
      refine (HB.out _).mono ?_
      rintro e w1 ⟨rfl, hb1⟩
      have hcv2 := bytes_back_own (P := Tryz.prog) w1 34 9 5 w.heap.size u4 o.length o rfl Tryz.underlying34 Tryz.underlying5 Tryz.underlying9 (ownsRow_below hown hb1)
      by_cases heq : b64 o = s.data.toList
      · have hbe : ((txt (b64 o)).toList == s.toList) = true := by
          rw [Lib.toList_data, Lib.toList_data]
          show (b64 o == s.data.toList) = true
          simpa using heq
        have HF2 := Lib.hid (show unb64 s.data.toList = some o by rw [HF.out, if_pos heq])
        clear heq HF hcv
        go_wp2
        go_ret2
        exact ⟨by rw [HF2.out]; rfl, hbel.trans (hb1.mono hbel.size)⟩
      · have hbe : ((txt (b64 o)).toList == s.toList) = false := by
          rw [Lib.toList_data, Lib.toList_data]
          show (b64 o == s.data.toList) = false
          simpa using heq
        have HF2 := Lib.hid (show unb64 s.data.toList = none by rw [HF.out, if_neg heq])
        clear heq HF hcv
        go_wp2
        go_ret2
        exact ⟨by rw [HF2.out]; rfl, hbel.trans (hb1.mono hbel.size)⟩

end Go.Proofs.YtonpalaopnfffaaGreatDoor
