import Derived.Test.YtdgfiebehnfpgaaGreatDoorDraw

namespace Go.Proofs.YtdgfiebehnfpgaaGreatDoor
set_option linter.unusedVariables false
set_option maxRecDepth 4000
open Go.ChangeShapes Go.WideShapes Go.ChangeAt Go.RowKit
open Go.ChangeMaps (open_string shut_string)

/-- a letter or a digit or one of four signs stays as it is -/
def letterB (b : UInt8) : Bool := (decide (65 ≤ b.toNat) && decide (b.toNat ≤ 90)) || (decide (97 ≤ b.toNat) && decide (b.toNat ≤ 122))

def digitB (b : UInt8) : Bool := decide (48 ≤ b.toNat) && decide (b.toNat ≤ 57)

def safeB (b : UInt8) : Bool := letterB b || digitB b || b == 45 || b == 95 || b == 46 || b == 126

def hexU (n : Nat) : UInt8 := if n < 10 then UInt8.ofNat (48 + n) else UInt8.ofNat (55 + n)

def pctB (b : UInt8) : List UInt8 := if safeB b then [b] else [37, hexU (b.toNat / 16), hexU (b.toNat % 16)]

def pctL (l : List UInt8) : List UInt8 := l.flatMap pctB

theorem pctL_snoc (l : List UInt8) (b : UInt8) : pctL (l ++ [b]) = pctL l ++ pctB b := by simp [pctL]

theorem pctB_len (b : UInt8) : (pctB b).length ≤ 3 := by unfold pctB; split <;> simp

theorem pctL_len (l : List UInt8) : (pctL l).length ≤ 3 * l.length := by
  induction l with
  | nil => simp [pctL]
  | cons b l ih =>
    have := pctB_len b
    have e : pctL (b :: l) = pctB b ++ pctL l := by simp [pctL]
    rw [e]; simp; omega

theorem hexU_at : ∀ i : Fin 16, (ByteArray.mk #[48, 49, 50, 51, 52, 53, 54, 55, 56, 57, 65, 66, 67, 68, 69, 70]).data.toList[i.val]? = some (hexU i.val) := by decide +kernel

theorem hexU_index {P : Program} (t : TypeId) (ht : P.underlying t = some .string) (k : IntKind) (i : Nat) (hi : i < 16) (w : World) :
    (Instr.index t (.string { data := #[48, 49, 50, 51, 52, 53, 54, 55, 56, 57, 65, 66, 67, 68, 69, 70] }) (.int k (i : Int))).run P w = .ok (.int .u8 (((hexU i).toNat : Nat) : Int)) w := by
  have hs : (ByteArray.mk #[48, 49, 50, 51, 52, 53, 54, 55, 56, 57, 65, 66, 67, 68, 69, 70]).size = 16 := rfl
  have hq : (ByteArray.mk #[48, 49, 50, 51, 52, 53, 54, 55, 56, 57, 65, 66, 67, 68, 69, 70])[(i : Int).toNat]'(by rw [hs]; omega) = hexU i := by
    have e : (i : Int).toNat = i := by omega
    have h2 := hexU_at ⟨i, hi⟩
    rw [List.getElem?_eq_getElem (by simp; exact hi)] at h2
    simp only [e]
    exact Option.some.inj h2
  rw [run_index_string w t _ k _ ht, dif_pos ⟨by omega, by rw [hs]; omega⟩, hq]

theorem in_call (b lo hi : Int) (w : World) : Calls Tryz.prog 80 #[.int .i64 b, .int .i64 lo, .int .i64 hi] w fun e w' => e = .returned (.bool (decide (lo ≤ b) && decide (b ≤ hi))) ∧ w = w' := by
  by_cases h1 : lo ≤ b
  · by_cases h2 : b ≤ hi
    · go_enter Tryz.func80, Tryz.ntmps80
      go_wp2
      go_ret
      exact ⟨ret_bool (by simp; omega), rfl⟩
    · go_enter Tryz.func80, Tryz.ntmps80
      go_wp2
      go_ret
      exact ⟨ret_bool (decide_eq_false (by omega)).symm, rfl⟩
  · go_enter Tryz.func80, Tryz.ntmps80
    go_wp2
    go_ret
    exact ⟨ret_bool (by rw [decide_eq_false (by omega)]; rfl), rfl⟩

theorem digit_call (b : UInt8) (w : World) : Calls Tryz.prog 82 #[.int .u8 b.toNat] w fun e w' => e = .returned (.bool (digitB b)) ∧ w = w' := by
  have h256 : b.toNat < 256 := b.toNat_lt
  go_enter Tryz.func82, Tryz.ntmps82
  go_wp2_with fail
  refine (in_call _ _ _ _).mono ?_
  rintro e w1 ⟨rfl, rfl⟩
  go_wp2
  go_ret
  exact ⟨ret_bool (by unfold digitB; congr 1 <;> simp <;> omega), rfl⟩

theorem letter_call (b : UInt8) (w : World) : Calls Tryz.prog 81 #[.int .u8 b.toNat] w fun e w' => e = .returned (.bool (letterB b)) ∧ w = w' := by
  have h256 : b.toNat < 256 := b.toNat_lt
  have e1 : (decide ((65 : Int) ≤ (b.toNat : Int)) && decide ((b.toNat : Int) ≤ 90)) = (decide (65 ≤ b.toNat) && decide (b.toNat ≤ 90)) := by congr 1 <;> simp <;> omega
  have e2 : (decide ((97 : Int) ≤ (b.toNat : Int)) && decide ((b.toNat : Int) ≤ 122)) = (decide (97 ≤ b.toNat) && decide (b.toNat ≤ 122)) := by congr 1 <;> simp <;> omega
  have HL := Lib.hid (show letterB b = ((decide (65 ≤ b.toNat) && decide (b.toNat ≤ 90)) || (decide (97 ≤ b.toNat) && decide (b.toNat ≤ 122))) from rfl)
  have E1 := Lib.hid e1
  have E2 := Lib.hid e2
  clear e1 e2
  go_enter Tryz.func81, Tryz.ntmps81
  go_wp2_with fail
  refine (in_call _ _ _ _).mono ?_
  rintro e w1 ⟨rfl, rfl⟩
  rw [E1.out]
  generalize (decide (65 ≤ b.toNat) && decide (b.toNat ≤ 90)) = p at HL
  cases p
  · go_wp2_with fail
    refine (in_call _ _ _ _).mono ?_
    rintro e w1 ⟨rfl, rfl⟩
    rw [E2.out]
    go_wp2
    go_ret
    exact ⟨ret_bool (by rw [HL.out]; simp), rfl⟩
  · go_wp2
    go_ret
    exact ⟨ret_bool (by rw [HL.out]; simp), rfl⟩

theorem safe_cases (b : UInt8) : (letterB b = true ∧ safeB b = true) ∨ (letterB b = false ∧ digitB b = true ∧ safeB b = true) ∨
    (letterB b = false ∧ digitB b = false ∧ (((b.toNat : Nat) : Int) == 45) = true ∧ safeB b = true) ∨
    (letterB b = false ∧ digitB b = false ∧ (((b.toNat : Nat) : Int) == 45) = false ∧ (((b.toNat : Nat) : Int) == 95) = true ∧ safeB b = true) ∨
    (letterB b = false ∧ digitB b = false ∧ (((b.toNat : Nat) : Int) == 45) = false ∧ (((b.toNat : Nat) : Int) == 95) = false ∧ (((b.toNat : Nat) : Int) == 46) = true ∧ safeB b = true) ∨
    (letterB b = false ∧ digitB b = false ∧ (((b.toNat : Nat) : Int) == 45) = false ∧ (((b.toNat : Nat) : Int) == 95) = false ∧ (((b.toNat : Nat) : Int) == 46) = false ∧ (((b.toNat : Nat) : Int) == 126) = true ∧ safeB b = true) ∨
    (letterB b = false ∧ digitB b = false ∧ (((b.toNat : Nat) : Int) == 45) = false ∧ (((b.toNat : Nat) : Int) == 95) = false ∧ (((b.toNat : Nat) : Int) == 46) = false ∧ (((b.toNat : Nat) : Int) == 126) = false ∧ safeB b = false) := by
  have key : ∀ n : UInt8, (b == n) = (((b.toNat : Nat) : Int) == ((n.toNat : Nat) : Int)) := by
    intro n
    rw [Bool.eq_iff_iff, beq_iff_eq, beq_iff_eq]
    exact ⟨fun h => by rw [h], fun h => UInt8.toNat_inj.1 (by omega)⟩
  have e : safeB b = (letterB b || digitB b || (((b.toNat : Nat) : Int) == 45) || (((b.toNat : Nat) : Int) == 95) || (((b.toNat : Nat) : Int) == 46) || (((b.toNat : Nat) : Int) == 126)) := by
    unfold safeB
    rw [key 45, key 95, key 46, key 126]
    rfl
  rw [e]
  generalize letterB b = p
  generalize digitB b = q
  generalize (((b.toNat : Nat) : Int) == 45) = r
  generalize (((b.toNat : Nat) : Int) == 95) = u
  generalize (((b.toNat : Nat) : Int) == 46) = v
  generalize (((b.toNat : Nat) : Int) == 126) = x
  revert p q r u v x
  decide

set_option maxHeartbeats 800000 in
theorem pct_spec (s : ByteArray) (w : World) (hs : s.size ≤ 1048576) :
    Calls Tryz.prog 73 #[.string s] w fun e w' => e = .returned (.string (txt (pctL s.data.toList))) ∧ Below w.heap.size w w' := by
  obtain ⟨i0, hi, hz0, hz1, hz2⟩ := info_parts Tryz.info5
  go_enter Tryz.func73, Tryz.ntmps73
  go_wp2
  go_loopw [3, 4] (fun v i wr => ∃ (k : Nat) (o : List UInt8), k ≤ s.size ∧ o.length ≤ 3 * k ∧ i = .int .i64 k ∧ Hid (o = pctL (s.data.toList.take k)) ∧ wr.ownsRow w.heap.size 5 1 v o.length (cells8 o) ∧ Below w.heap.size w wr) (fun _ i _ => s.size - (intOf i).toNat)
  case atStart => exact ⟨0, [], by omega, by simp, rfl, rfl, World.ownsRow_made w #[] 0 (Nat.le_refl _) (by simp) rfl, (Below.refl _ w).alloc (Nat.le_refl _) _⟩
  case round =>
    obtain ⟨k, o, hk1, hol, rfl, ho, hown, hbel⟩ := hrel
    by_cases hlt : k < s.size
    · have h256 : s[k].toNat < 256 := s[k].toNat_lt
      have hbs := hbel.size
      have HN := Lib.hid (show o ++ pctB s[k] = pctL (s.data.toList.take (k + 1)) by rw [take_snoc s k hlt, pctL_snoc, ho.out])
      have hpl := pctB_len s[k]
      have HB := Lib.hid (show pctB s[k] = if safeB s[k] then [s[k]] else [37, hexU (s[k].toNat / 16), hexU (s[k].toNat % 16)] from rfl)
      have hsafe : (letterB s[k] = true ∧ safeB s[k] = true) ∨ (letterB s[k] = false ∧ digitB s[k] = true ∧ safeB s[k] = true) ∨
          (letterB s[k] = false ∧ digitB s[k] = false ∧ (((s[k].toNat : Nat) : Int) == 45) = true ∧ safeB s[k] = true) ∨
          (letterB s[k] = false ∧ digitB s[k] = false ∧ (((s[k].toNat : Nat) : Int) == 45) = false ∧ (((s[k].toNat : Nat) : Int) == 95) = true ∧ safeB s[k] = true) ∨
          (letterB s[k] = false ∧ digitB s[k] = false ∧ (((s[k].toNat : Nat) : Int) == 45) = false ∧ (((s[k].toNat : Nat) : Int) == 95) = false ∧ (((s[k].toNat : Nat) : Int) == 46) = true ∧ safeB s[k] = true) ∨
          (letterB s[k] = false ∧ digitB s[k] = false ∧ (((s[k].toNat : Nat) : Int) == 45) = false ∧ (((s[k].toNat : Nat) : Int) == 95) = false ∧ (((s[k].toNat : Nat) : Int) == 46) = false ∧ (((s[k].toNat : Nat) : Int) == 126) = true ∧ safeB s[k] = true) ∨
          (letterB s[k] = false ∧ digitB s[k] = false ∧ (((s[k].toNat : Nat) : Int) == 45) = false ∧ (((s[k].toNat : Nat) : Int) == 95) = false ∧ (((s[k].toNat : Nat) : Int) == 46) = false ∧ (((s[k].toNat : Nat) : Int) == 126) = false ∧ safeB s[k] = false) := safe_cases s[k]
      have hx1 := hexU_index (P := Tryz.prog) 9 Tryz.underlying9 .u8 (s[k].toNat / 16) (by omega)
      have hx2 := hexU_index (P := Tryz.prog) 9 Tryz.underlying9 .u8 (s[k].toNat % 16) (by omega)
      have e1 : ((s[k].toNat / 16 : Nat) : Int) = (s[k].toNat : Int) / 16 := by omega
      have e2 : ((s[k].toNat % 16 : Nat) : Int) = (s[k].toNat : Int) % 16 := by omega
      have ww1 : IntKind.u8.wrap ((s[k].toNat : Int) / 16) = (s[k].toNat : Int) / 16 := by rw [← e1]; exact wrap_u8_nat _ (by omega)
      have ww2 : ((s[k].toNat : Int)).tmod 16 = (s[k].toNat : Int) % 16 := Int.tmod_eq_emod_of_nonneg (by omega)
      rw [e1] at hx1
      rw [e2] at hx2
      clear e1 e2
      generalize hexU (s[k].toNat / 16) = d1 at hx1 HB
      generalize hexU (s[k].toNat % 16) = d2 at hx2 HB
      rcases hsafe with ⟨hL, hq⟩ | ⟨hL, hD, hq⟩ | ⟨hL, hD, h1, hq⟩ | ⟨hL, hD, h1, h2, hq⟩ | ⟨hL, hD, h1, h2, h3, hq⟩ | ⟨hL, hD, h1, h2, h3, h4, hq⟩ | ⟨hL, hD, h1, h2, h3, h4, hq⟩
      case inr.inr.inr.inr.inr.inr =>
        have hpb := HB.out
        rw [if_neg (by rw [hq]; simp)] at hpb
        rw [hpb] at HN
        clear hpb HB hq hpl
        go_wp2_with (first | (go_at_call 81; refine (letter_call _ _).mono ?_; rintro e w1 ⟨rfl, rfl⟩; rw [hL]) | (go_at_call 82; refine (digit_call _ _).mono ?_; rintro e w1 ⟨rfl, rfl⟩; rw [hD]))
        go_region_held3 (fun _ => True) (first | exact trivial | go_keep) ((refine step_append_lies _ (by rfl) _ _ _ (by rfl) w.heap.size 5 i0 _ 1 1 Tryz.underlying22 hi hz0 hz1 hz2 rfl (by omega) u3 o.length _ (by rfl) ((hown.alloc _).drew) ⟨wr.heap.size, 0, none⟩ 3 3 [.int .u8 37, .int .u8 d1.toNat, .int .u8 d2.toNat] (by rfl) (by rfl) (World.news_of_block (cs := #[.int .u8 37, .int .u8 d1.toNat, .int .u8 d2.toNat]) (t := 5) (fr := (0, 0)) (heap_alloc_new wr _)) (by simp [Value.oneCell']) (by omega) (by unfold maxLen; omega) (by omega) (by simp; omega) (wr.heap.size + 1) (by simp) ?_; intro gg cap w1 hown1 hgrow hat hlt))
        all_goals
          clear hx1 hx2 ww1 ww2
          go_wp2
          go_roundw
          case rel => exact ⟨k + 1, o ++ [37, d1, d2], by omega, by simp; omega, by go_num, HN, by rw [cells8_append, List.length_append]; exact hown1, ((hbel.alloc hbel.size _).drew).grown hgrow (by simp; omega) (fun j e => (hown.lt j e).1)⟩
          case measure => simp [intOf]; omega
      all_goals
        have hpb := HB.out
        rw [if_pos hq] at hpb
        rw [hpb] at HN
        clear hpb HB hq hpl hx1 hx2 ww1 ww2
        go_wp2_with (first | (go_at_call 81; refine (letter_call _ _).mono ?_; rintro e w1 ⟨rfl, rfl⟩; rw [hL]) | (go_at_call 82; refine (digit_call _ _).mono ?_; rintro e w1 ⟨rfl, rfl⟩; rw [hD]) | (at_builtin; refine wpList_append_lies _ rfl _ _ _ rfl w.heap.size 5 i0 _ 1 1 Tryz.underlying22 hi hz0 hz1 hz2 rfl (by omega) u3 o.length _ rfl (hown.alloc _) ⟨wr.heap.size, 0, none⟩ 1 1 [.int .u8 ((s[k].toNat : Nat) : Int)] rfl rfl (World.news_of_block (cs := #[.int .u8 ((s[k].toNat : Nat) : Int)]) (t := 5) (fr := (0, 0)) (heap_alloc_new wr _)) (by simp [Value.oneCell']) (by omega) (by unfold maxLen; omega) (by omega) (by simp; omega) (wr.heap.size + 1) (by simp) ?_; intro gg cap w1 hown1 hgrow hat hlt2))
        go_roundw
        case rel => exact ⟨k + 1, o ++ [s[k]], by omega, by simp; omega, by go_num, HN, by rw [cells8_append, List.length_append]; exact hown1, (hbel.alloc hbel.size _).grown hgrow (by simp; omega) (fun j e => (hown.lt j e).1)⟩
        case measure => simp [intOf]; omega
    · have he : s.data.toList.take k = s.data.toList := List.take_of_length_le (by rw [Array.length_toList]; show s.size ≤ k; omega)
      have ho2 := ho.out
      rw [he] at ho2
      have HO := Lib.hid ho2
      have hcv := bytes_back_own (P := Tryz.prog) wr 22 9 5 w.heap.size u3 o.length o rfl Tryz.underlying22 Tryz.underlying5 Tryz.underlying9 hown
      clear he ho2
      go_wp2
      go_ret
      exact ⟨ret_str (by rw [HO.out]), hbel⟩

/-- the byte that two hexadecimal digits tell -/
def unB (a b : UInt8) : UInt8 := UInt8.ofNat (16 * hexV a + hexV b).toNat

/-- what percent codes tell, behind what has come; none where a code is no code -/
def unpA (acc : List UInt8) : List UInt8 → Option (List UInt8)
  | [] => some acc
  | [c] => if c = 37 then none else some (acc ++ [c])
  | [c, d] => if c = 37 then none else unpA (acc ++ [c]) [d]
  | c :: a :: b :: r => if c = 37 then (if hexV a < 0 ∨ hexV b < 0 then none else unpA (acc ++ [unB a b]) r) else unpA (acc ++ [c]) (a :: b :: r)

theorem unp_plain (acc : List UInt8) (c : UInt8) (r : List UInt8) (h : c ≠ 37) : unpA acc (c :: r) = unpA (acc ++ [c]) r := by
  match r with
  | [] => simp [unpA, h]
  | [d] => conv => lhs; rw [unpA, if_neg h]
  | a :: b :: r => conv => lhs; rw [unpA, if_neg h]

theorem unp_short (acc : List UInt8) (r : List UInt8) (h : r.length < 2) : unpA acc (37 :: r) = none := by
  match r, h with
  | [], _ => simp [unpA]
  | [d], _ => rw [unpA, if_pos rfl]

theorem unp_code (acc : List UInt8) (a b : UInt8) (r : List UInt8) : unpA acc (37 :: a :: b :: r) = if hexV a < 0 ∨ hexV b < 0 then none else unpA (acc ++ [unB a b]) r := by
  rw [unpA, if_pos rfl]

def unR : Option (List UInt8) → Value
  | some o => .tuple #[.string (txt o), .bool true]
  | none => .tuple #[.string ⟨#[]⟩, .bool false]

theorem drop_three (s : ByteArray) (k : Nat) (h : k + 2 < s.size) : s.data.toList.drop k = s[k] :: s[k + 1] :: s[k + 2] :: s.data.toList.drop (k + 3) := by
  rw [drop_cons s k (by omega), drop_cons s (k + 1) (by omega), drop_cons s (k + 2) h]

set_option maxHeartbeats 800000 in
theorem unpct_spec (s : ByteArray) (w : World) (hs : s.size ≤ 1048576) :
    Calls Tryz.prog 136 #[.string s] w fun e w' => e = .returned (unR (unpA [] s.data.toList)) ∧ Below w.heap.size w w' := by
  obtain ⟨i0, hi, hz0, hz1, hz2⟩ := info_parts Tryz.info5
  obtain ⟨R, hR⟩ : ∃ R, R = unpA [] s.data.toList := ⟨_, rfl⟩
  have HRR := Lib.hid hR
  clear hR
  go_enter Tryz.func136, Tryz.ntmps136
  go_wp2
  go_loopw [4, 5] (fun v i wr => ∃ (k : Nat) (o : List UInt8), k ≤ s.size ∧ o.length ≤ k ∧ i = .int .i64 k ∧ Hid (unpA o (s.data.toList.drop k) = R) ∧ wr.ownsRow w.heap.size 5 1 v o.length (cells8 o) ∧ Below w.heap.size w wr) (fun _ i _ => s.size - (intOf i).toNat)
  case atStart => exact ⟨0, [], by omega, by simp, rfl, HRR.out.symm, World.ownsRow_made w #[] 0 (Nat.le_refl _) (by simp) rfl, (Below.refl _ w).alloc (Nat.le_refl _) _⟩
  case round =>
    obtain ⟨k, o, hk1, hol, rfl, ho, hown, hbel⟩ := hrel
    have hbs := hbel.size
    by_cases hlt : k < s.size
    · have h256 : s[k].toNat < 256 := s[k].toNat_lt
      by_cases hp : s[k] = 37
      · have hpe : (((s[k].toNat : Nat) : Int) != 37) = false := by rw [hp]; rfl
        by_cases hk2 : k + 2 < s.size
        · have hd := drop_three s k hk2
          rw [hp] at hd
          have hcode := unp_code o s[k + 1] s[k + 2] (s.data.toList.drop (k + 3))
          rw [← hd] at hcode
          clear hd
          have HC := Lib.hid hcode
          clear hcode
          have a1 : IntKind.i64.wrap ((k : Int) + 1) = (k : Int) + 1 := IntWalk.i64_in _ (by omega)
          have a2 : IntKind.i64.wrap ((k : Int) + 2) = (k : Int) + 2 := IntWalk.i64_in _ (by omega)
          have a3 : ((k : Int) + 1).toNat = k + 1 := by omega
          have a4 : ((k : Int) + 2).toNat = k + 2 := by omega
          have a5 : ¬ ((s.size : Int) ≤ (k : Int) + 2) := by omega
          have a8 : (k : Int) + 1 < (s.size : Int) := by omega
          have a6 : (0 : Int) ≤ (k : Int) + 1 := by omega
          have a7 : (0 : Int) ≤ (k : Int) + 2 := by omega
          by_cases hv1 : hexV s[k + 1] < 0
          · have hr := HC.out
            rw [if_pos (.inl hv1)] at hr
            rw [ho.out] at hr
            have HR := Lib.hid hr
            clear hr HC
            go_wp2_with (go_at_call 160; refine (hexV_call _ _).mono ?_; rintro e w1 ⟨rfl, rfl⟩)
            go_ret2
            exact ⟨by rw [← HRR.out, HR.out]; rfl, hbel⟩
          · have hv1' : 0 ≤ hexV s[k + 1] := by omega
            by_cases hv2 : hexV s[k + 2] < 0
            · have hr := HC.out
              rw [if_pos (.inr hv2)] at hr
              rw [ho.out] at hr
              have HR := Lib.hid hr
              clear hr HC hv1
              go_wp2_with (go_at_call 160; refine (hexV_call _ _).mono ?_; rintro e w1 ⟨rfl, rfl⟩)
              go_ret2
              exact ⟨by rw [← HRR.out, HR.out]; rfl, hbel⟩
            · have hr := HC.out
              rw [if_neg (by omega)] at hr
              rw [ho.out] at hr
              have HR := Lib.hid hr.symm
              clear hr HC
              have hv2' : 0 ≤ hexV s[k + 2] := by omega
              have l1 := (hexV_le s[k + 1]).2
              have l2 := (hexV_le s[k + 2]).2
              have hB : ∃ p q, p = hexV s[k + 1] ∧ q = hexV s[k + 2] := ⟨_, _, rfl, rfl⟩
              obtain ⟨p, q, hP, hQ⟩ := hB
              rw [← hP] at hv1 hv1' l1
              rw [← hQ] at hv2 hv2' l2
              have HU := Lib.hid (show ((unB s[k + 1] s[k + 2]).toNat : Int) = 16 * p + q by rw [unB, ← hP, ← hQ, UInt8.toNat_ofNat']; omega)
              have E1 := Lib.hid hP.symm
              have E2 := Lib.hid hQ.symm
              clear hP hQ
              have c256 : s[k + 1].toNat < 256 := s[k + 1].toNat_lt
              have d256 : s[k + 2].toNat < 256 := s[k + 2].toNat_lt
              generalize unB s[k + 1] s[k + 2] = b at HU HR
              go_wp2_with fail
              refine (hexV_call _ _).mono ?_
              rintro e w1 ⟨rfl, rfl⟩
              rw [E1.out]
              go_wp2_with fail
              refine (hexV_call _ _).mono ?_
              rintro e w1 ⟨rfl, rfl⟩
              rw [E2.out]
              go_wp2
              have b1 : IntKind.i64.wrap (16 * p) = 16 * p := IntWalk.i64_in _ (by omega)
              have b2 : IntKind.i64.wrap (16 * p + q) = 16 * p + q := IntWalk.i64_in _ (by omega)
              have b3 : IntKind.u8.wrap (16 * p + q) = 16 * p + q := by
                obtain ⟨m, hm⟩ := Int.eq_ofNat_of_zero_le (show 0 ≤ 16 * p + q by omega)
                rw [hm]
                exact wrap_u8_nat m (by omega)
              go_region_held3 (fun _ => True) (first | exact trivial | go_keep) (first | (refine step_append_lies _ (by rfl) _ _ _ (by rfl) w.heap.size 5 i0 _ 1 1 Tryz.underlying22 hi hz0 hz1 hz2 rfl (by omega) u4 o.length _ (by rfl) ((hown.alloc _).drew) ⟨wr.heap.size, 0, none⟩ 1 1 [.int .u8 (16 * p + q)] (by rfl) (by rfl) (World.news_of_block (cs := #[.int .u8 (16 * p + q)]) (t := 5) (fr := (0, 0)) (heap_alloc_new wr _)) (by simp [Value.oneCell']) (by omega) (by unfold maxLen; omega) (by omega) (by simp; omega) (wr.heap.size + 1) (by simp) ?_; intro gg cap w1 hown1 hgrow hat hlt2) | (go_simp; go_at_call 160; refine (hexV_call _ _).mono ?_; rintro e w1 ⟨rfl, rfl⟩; first | rw [E1.out] | rw [E2.out]))
              all_goals
                clear b1 b2 b3
                go_wp2
                go_roundw
                case rel => exact ⟨k + 3, o ++ [b], by omega, by simp; omega, by go_num, HR.out, by rw [cells8_append, List.length_append, ← cells8_one b (16 * p + q) HU.out.symm]; exact hown1, ((hbel.alloc hbel.size _).drew).grown hgrow (by simp; omega) (fun j e => (hown.lt j e).1)⟩
                case measure => simp [intOf]; omega
        · have hd : s.data.toList.drop k = 37 :: s.data.toList.drop (k + 1) := by rw [drop_cons s k hlt, hp]
          have hr := unp_short o (s.data.toList.drop (k + 1)) (by rw [List.length_drop, data_length]; omega)
          rw [← hd, ho.out] at hr
          have HR := Lib.hid hr
          clear hr hd
          have a2 : IntKind.i64.wrap ((k : Int) + 2) = (k : Int) + 2 := IntWalk.i64_in _ (by omega)
          have a5 : (s.size : Int) ≤ (k : Int) + 2 := by omega
          go_wp2
          go_ret2
          exact ⟨by rw [← HRR.out, HR.out]; rfl, hbel⟩
      · have hpe : (((s[k].toNat : Nat) : Int) != 37) = true := by
          simp; intro e; exact hp (UInt8.toNat_inj.1 (by show s[k].toNat = 37; omega))
        have HN := Lib.hid (show unpA (o ++ [s[k]]) (s.data.toList.drop (k + 1)) = R by rw [← ho.out, drop_cons s k hlt, unp_plain _ _ _ hp])
        clear hp
        go_wp2_with (at_builtin; refine wpList_append_lies _ rfl _ _ _ rfl w.heap.size 5 i0 _ 1 1 Tryz.underlying22 hi hz0 hz1 hz2 rfl (by omega) u4 o.length _ rfl (hown.alloc _) ⟨wr.heap.size, 0, none⟩ 1 1 [.int .u8 ((s[k].toNat : Nat) : Int)] rfl rfl (World.news_of_block (cs := #[.int .u8 ((s[k].toNat : Nat) : Int)]) (t := 5) (fr := (0, 0)) (heap_alloc_new wr _)) (by simp [Value.oneCell']) (by omega) (by unfold maxLen; omega) (by omega) (by simp; omega) (wr.heap.size + 1) (by simp) ?_; intro gg cap w1 hown1 hgrow hat hlt2)
        go_roundw
        case rel => exact ⟨k + 1, o ++ [s[k]], by omega, by simp; omega, by go_num, HN, by rw [cells8_append, List.length_append]; exact hown1, (hbel.alloc hbel.size _).grown hgrow (by simp; omega) (fun j e => (hown.lt j e).1)⟩
        case measure => simp [intOf]; omega
    · have he : s.data.toList.drop k = [] := List.drop_eq_nil_of_le (by rw [data_length]; omega)
      have ho2 := ho.out
      rw [he, unpA] at ho2
      have HO := Lib.hid ho2
      have hcv := bytes_back_own (P := Tryz.prog) wr 22 9 5 w.heap.size u4 o.length o rfl Tryz.underlying22 Tryz.underlying5 Tryz.underlying9 hown
      clear he ho2
      go_wp2
      go_ret2
      exact ⟨by rw [← HRR.out, ← HO.out]; rfl, hbel⟩

end Go.Proofs.YtdgfiebehnfpgaaGreatDoor
