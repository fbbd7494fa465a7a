/- CONTRACTS of b64Places and UnB64: the program's. -/
import Derived.Test.YtonpalaopnfffaaGreatDoorB64I
import Derived.Test.YtonpalaopnfffaaGreatDoorArr
import Derived.Deep.WholeRow
import Derived.Deep.LoopGhost
import Derived.Laws.ResultCell
import Derived.Laws.CopyOwn

namespace Go.Proofs.YtonpalaopnfffaaGreatDoor
set_option linter.unusedVariables false
set_option maxRecDepth 4000
open Go.ChangeShapes Go.WideShapes Go.ChangeAt Go.RowKit
open Go.ChangeMaps (open_string shut_string)

/-- an array of 256 small numbers -/
def arr8 (f : Nat → Int) : Array Value := ((List.range 256).map fun c => Value.int .i8 (f c)).toArray

theorem arr8_size (f : Nat → Int) : (arr8 f).size = 256 := by simp [arr8]

theorem arr8_set (f : Nat → Int) (k : Nat) (v : Int) : (arr8 f).setIfInBounds k (.int .i8 v) = arr8 fun c => if c = k then v else f c := by
  unfold arr8
  rw [List.setIfInBounds_toArray]
  congr 1
  apply List.ext_getElem
  · simp
  · intro i h1 h2
    simp only [List.getElem_set, List.getElem_map, List.getElem_range]
    by_cases e : k = i
    · simp [e]
    · rw [if_neg e, if_neg (fun h => e h.symm)]

theorem arr8_one (f : Nat → Int) : (arr8 f).all (·.oneCell') = true := by
  rw [Array.all_eq_true]
  intro i hi
  simp [arr8, Value.oneCell']

theorem zero8 : (Tryz.prog.info? 140).map (fun i => (i.zero, i.size)) = some (some (.agg (arr8 fun _ => 0)), 256) := by kernel_rfl

theorem arr8_get (f : Nat → Int) (k : Nat) (hk : k < 256) : (arr8 f)[k]? = some (.int .i8 (f k)) := by
  unfold arr8
  rw [List.getElem?_toArray, List.getElem?_map, List.getElem?_range hk]; rfl

theorem arr8_congr (f g : Nat → Int) (h : ∀ c, c < 256 → f c = g c) : arr8 f = arr8 g := by
  unfold arr8
  congr 1
  apply List.map_congr_left
  intro c hc
  rw [h c (by simpa using hc)]

theorem atN_ge (x : UInt8) : -1 ≤ atN x := by
  unfold atN
  split <;> omega

theorem letter_of (x : UInt8) (h : 0 ≤ atN x) : letterN (atN x).toNat = x := by
  unfold atN at h ⊢
  split at h
  · rename_i i hi
    rw [List.findIdx?_eq_some_iff_getElem] at hi
    obtain ⟨h1, h2, _⟩ := hi
    rw [Int.toNat_natCast, letter_at i h1]
    simpa using h2
  · omega

set_option maxHeartbeats 1600000 in
theorem places_call (w : World) :
    Calls Tryz.prog 87 #[] w fun e w' => e = .returned (.agg (arr8 fun c => atN (UInt8.ofNat c))) ∧ Below w.heap.size w w' := by
  obtain ⟨hz, hi⟩ := zero_of_info zero8
  obtain ⟨A0, HA⟩ : ∃ A0, Hid (A0 = arr8 fun _ => 0) := ⟨_, Lib.hid rfl⟩
  rw [← HA.out] at hz
  have HX := Lib.hid (fun i hi w => letter_index_c (P := Tryz.prog) 9 Tryz.underlying9 .i64 i hi w)
  go_enter Tryz.func87, Tryz.ntmps87
  go_wp2
  go_loopg [4] 256 (fun g s4 wx => ∃ (i : Nat) (f : Nat → Int), i + g = 256 ∧ s4 = .int .i64 i ∧ wx = (w.alloc (.cells A0 140)).alloc (.cells (arr8 f) 140) ∧ Hid (∀ c, c < i → f c = -1))
  case atStart => exact ⟨0, _, by omega, rfl, by rw [← HA.out], Lib.hid (fun c hc => by omega)⟩
  case round =>
    obtain ⟨k, f, hk, rfl, rfl, hf⟩ := hrel
    cases gk with
    | zero =>
      obtain rfl : k = 256 := by omega
      go_wp2
      go_loopg [10] 64 (fun g s4 wx => ∃ (i : Nat) (f : Nat → Int), i + g = 64 ∧ s4 = .int .i64 i ∧ wx = (w.alloc (.cells A0 140)).alloc (.cells (arr8 f) 140) ∧ Hid (∀ c, c < 256 → f c = if 0 ≤ atN (UInt8.ofNat c) ∧ atN (UInt8.ofNat c) < i then atN (UInt8.ofNat c) else -1))
      case atStart => exact ⟨0, _, by omega, rfl, rfl, Lib.hid (fun c hc => by rw [hf.out c hc, if_neg (by omega)])⟩
      case round =>
        obtain ⟨k, f, hk, rfl, rfl, hf⟩ := hrel
        cases gk with
        | zero =>
          obtain rfl : k = 64 := by omega
          go_wp2
          have HF := Lib.hid (arr8_congr f (fun c => atN (UInt8.ofNat c)) (fun c hc => by
            rw [hf.out c hc]
            have l1 := atN_lt (UInt8.ofNat c)
            have l2 := atN_ge (UInt8.ofNat c)
            by_cases h0 : 0 ≤ atN (UInt8.ofNat c)
            · rw [if_pos ⟨h0, by omega⟩]
            · rw [if_neg (by omega)]; omega))
          have hg1 : ((w.alloc (.cells A0 140)).alloc (.cells (arr8 f) 140)).heap[w.heap.size + 1]? = some (.cells (arr8 f) 140 (0, 0)) := by
            show ((w.heap.push _).push _)[w.heap.size + 1]? = _
            rw [Array.getElem?_push]; simp
          have hld := run_loadAt_row (P := Tryz.prog) _ (w.heap.size + 1) 140 (arr8 f) 256 139 hg1 Tryz.underlying140 (by rw [arr8_size]; exact hi)
          have hg : ((w.alloc (.cells A0 140)).alloc (.cells (arr8 f) 140)).heap[w.heap.size]? = some (.cells A0 140 (0, 0)) := by
            show ((w.heap.push _).push _)[w.heap.size]? = _
            rw [Array.getElem?_push_lt (by simp)]; simp
          have hst := run_storeCells_row (P := Tryz.prog) _ w.heap.size 140 A0 (arr8 f) hg (by rw [arr8_size]; exact hi) (by rw [HA.out, arr8_size, arr8_size]) (arr8_one f)
          refine wp_load_of _ _ rfl _ _ rfl hld ?_
          go_wp2
          have hg3 := setRow_heap _ _ A0 (arr8 f) _ _ hg
          have hld3 := run_loadVar_row (P := Tryz.prog) _ w.heap.size 140 140 (arr8 f) (0, 0) _ hg3 Tryz.underlying140 rfl (by rw [arr8_size]; exact hi)
          refine bodyPost_ret (v := .agg (arr8 f)) ?_ rfl ⟨by rw [HF.out], below_setRow (((Below.refl _ w).alloc (Nat.le_refl _) _).alloc (by simp) _) (Nat.le_refl _) _⟩
          rw [results_cell_one rfl]
          simp [asAddr, Result.andThen, hld3]
        | succ g =>
          have hlt : k < 64 := by omega
          have hx := HX.out k hlt
          have hx256 : (letterN k).toNat < 256 := (letterN k).toNat_lt
          have hcell := arr8_get f (letterN k).toNat hx256
          have hset := arr8_set f (letterN k).toNat k
          go_wp2
          go_roundg g
          case measure => omega
          case rel => exact ⟨k + 1, _, by omega, by go_num, rfl, Lib.hid (fun c hc => by
            have hf2 := hf.out c hc
            by_cases e : c = (letterN k).toNat
            · have e2 : UInt8.ofNat c = letterN k := by rw [e]; exact UInt8.ofNat_toNat
              rw [if_pos e, e2, at_letter k hlt, if_pos (by omega)]
            · rw [if_neg e, hf2]
              have hne : atN (UInt8.ofNat c) ≠ k := fun h => e (by
                have h2 := letter_of (UInt8.ofNat c) (by omega)
                rw [h, Int.toNat_natCast] at h2
                rw [h2, UInt8.toNat_ofNat']; omega)
              by_cases h3 : 0 ≤ atN (UInt8.ofNat c) ∧ atN (UInt8.ofNat c) < (k : Int)
              · rw [if_pos h3, if_pos (by omega)]
              · rw [if_neg h3, if_neg (by omega)])⟩
    | succ g =>
      have hlt : k < 256 := by omega
      have hcell := arr8_get f k hlt
      have hset := arr8_set f k (-1)
      go_wp2
      go_roundg g
      case measure => omega
      case rel => exact ⟨k + 1, _, by omega, by go_num, rfl, Lib.hid (fun c hc => by
        show (if c = k then (-1 : Int) else f c) = -1
        by_cases e : c = k
        · rw [if_pos e]
        · rw [if_neg e]; exact hf.out c (by omega))⟩

/-- what letters tell, with the bits left over and their number -/
def decF (o : List UInt8) (a b : Nat) : List UInt8 → Option (List UInt8 × Nat × Nat)
  | [] => some (o, a, b)
  | x :: r => if atN x < 0 then none else
    if 8 ≤ b + 6 then decF (o ++ [UInt8.ofNat ((a * 64 + (atN x).toNat) / 2 ^ (b - 2))]) ((a * 64 + (atN x).toNat) % 2 ^ (b - 2)) (b - 2) r
    else decF o (a * 64 + (atN x).toNat) (b + 6) r

theorem ung_dec (l : List UInt8) : ∀ o a b, ungA o a b l = (decF o a b l).map (·.1) := by
  induction l with
  | nil => intro o a b; rfl
  | cons x r ih =>
    intro o a b
    rw [ungA, decF]
    by_cases h : atN x < 0
    · rw [if_pos h, if_pos h]; rfl
    · rw [if_neg h, if_neg h]
      by_cases h8 : 8 ≤ b + 6
      · rw [if_pos h8, if_pos h8, ih]
      · rw [if_neg h8, if_neg h8, ih]

theorem letterN_inj (i j : Nat) (hi : i < 64) (hj : j < 64) (h : letterN i = letterN j) : i = j := by
  have h1 := at_letter i hi
  have h2 := at_letter j hj
  rw [h, h2] at h1
  omega

theorem dec_main (l : List UInt8) :
    (∀ o o' a' b', decF o 0 0 l = some (o', a', b') → ∃ t, o' = o ++ t ∧ ((b' ≠ 6 ∧ a' = 0) ↔ genA 0 0 t = l)) ∧
    (∀ o a o' a' b', a < 64 → decF o a 6 l = some (o', a', b') → ∃ t, o' = o ++ t ∧ ((b' ≠ 6 ∧ a' = 0) ↔ genA 0 0 t = letterN a :: l)) ∧
    (∀ o a y o' a' b', a < 16 → y < 4 → decF o a 4 l = some (o', a', b') → ∃ t, o' = o ++ t ∧ ((b' ≠ 6 ∧ a' = 0) ↔ genA y 2 t = letterN (y * 16 + a) :: l)) ∧
    (∀ o a y o' a' b', a < 4 → y < 16 → decF o a 2 l = some (o', a', b') → ∃ t, o' = o ++ t ∧ ((b' ≠ 6 ∧ a' = 0) ↔ genA y 4 t = letterN (y * 4 + a) :: l)) := by
  induction l with
  | nil =>
    refine ⟨fun o o' a' b' h => ?_, fun o a o' a' b' ha h => ?_, fun o a y o' a' b' ha hy h => ?_, fun o a y o' a' b' ha hy h => ?_⟩
    all_goals
      rw [decF] at h
      simp only [Option.some.injEq, Prod.mk.injEq] at h
      obtain ⟨rfl, rfl, rfl⟩ := h
      refine ⟨[], by simp, ?_⟩
    · rw [gen_end 0 0 (by omega), if_pos rfl]; simp
    · rw [gen_end 0 0 (by omega), if_pos rfl]; simp
    · rw [gen_end y 2 (by omega), if_neg (by omega)]
      constructor
      · rintro ⟨_, rfl⟩; rfl
      · intro h
        have := letterN_inj _ _ (by omega) (by omega) (List.cons.inj h).1
        omega
    · rw [gen_end y 4 (by omega), if_neg (by omega)]
      constructor
      · rintro ⟨_, rfl⟩; rfl
      · intro h
        have := letterN_inj _ _ (by omega) (by omega) (List.cons.inj h).1
        omega
  | cons x r ih =>
    obtain ⟨i0, i6, i4, i2⟩ := ih
    have hlt := atN_lt x
    have key : ∀ (o : List UInt8) (a b : Nat) (v : List UInt8 × Nat × Nat), decF o a b (x :: r) = some v → ∃ n, n < 64 ∧ x = letterN n ∧ decF o a b (x :: r) =
        if 8 ≤ b + 6 then decF (o ++ [UInt8.ofNat ((a * 64 + n) / 2 ^ (b - 2))]) ((a * 64 + n) % 2 ^ (b - 2)) (b - 2) r else decF o (a * 64 + n) (b + 6) r := by
      intro o a b v h
      rw [decF] at h
      by_cases hx : atN x < 0
      · rw [if_pos hx] at h; cases h
      · exact ⟨(atN x).toNat, by omega, (letter_of x (by omega)).symm, by rw [decF, if_neg hx]⟩
    refine ⟨fun o o' a' b' h => ?_, fun o a o' a' b' ha h => ?_, fun o a y o' a' b' ha hy h => ?_, fun o a y o' a' b' ha hy h => ?_⟩
    · obtain ⟨n, hn, hx, he⟩ := key _ _ _ _ h
      rw [he, if_neg (by omega)] at h
      obtain ⟨t, ht, hiff⟩ := i6 _ _ _ _ _ (by omega) h
      refine ⟨t, ht, ?_⟩
      rw [hiff, hx, show 0 * 64 + n = n by omega]
    · obtain ⟨n, hn, hx, he⟩ := key _ _ _ _ h
      rw [he, if_pos (by omega)] at h
      have e1 : (a * 64 + n) % 2 ^ (6 - 2) = n % 16 := by omega
      rw [e1] at h
      obtain ⟨t, ht, hiff⟩ := i4 _ (n % 16) (n / 16) _ _ _ (by omega) (by omega) h
      have hB : (a * 64 + n) / 2 ^ (6 - 2) < 256 := by omega
      have hB4 : (a * 64 + n) / 2 ^ (6 - 2) / 4 = a := by omega
      have hBm : (a * 64 + n) / 2 ^ (6 - 2) % 4 = n / 16 := by omega
      generalize (a * 64 + n) / 2 ^ (6 - 2) = B at ht hB hB4 hBm
      have hb : (UInt8.ofNat B).toNat = B := by rw [UInt8.toNat_ofNat']; omega
      refine ⟨UInt8.ofNat B :: t, by rw [ht]; simp, ?_⟩
      rw [hiff, gen_in 0 0 _ t (by omega), gen_out _ 8 t (by omega), hb]
      have e2 : (0 * 256 + B) / 2 ^ (8 - 6) = a := by omega
      have e3 : (0 * 256 + B) % 2 ^ (8 - 6) = n / 16 := by omega
      rw [e2, e3, show 0 + 8 - 6 = 2 by omega, hx, show n / 16 * 16 + n % 16 = n by omega]
      simp
    · obtain ⟨n, hn, hx, he⟩ := key _ _ _ _ h
      rw [he, if_pos (by omega)] at h
      have e1 : (a * 64 + n) % 2 ^ (4 - 2) = n % 4 := by omega
      rw [e1] at h
      obtain ⟨t, ht, hiff⟩ := i2 _ (n % 4) (n / 4) _ _ _ (by omega) (by omega) h
      have hB : (a * 64 + n) / 2 ^ (4 - 2) < 256 := by omega
      have hB4 : (a * 64 + n) / 2 ^ (4 - 2) / 16 = a := by omega
      have hBm : (a * 64 + n) / 2 ^ (4 - 2) % 16 = n / 4 := by omega
      generalize (a * 64 + n) / 2 ^ (4 - 2) = B at ht hB hB4 hBm
      have hb : (UInt8.ofNat B).toNat = B := by rw [UInt8.toNat_ofNat']; omega
      refine ⟨UInt8.ofNat B :: t, by rw [ht]; simp, ?_⟩
      rw [hiff, gen_in y 2 _ t (by omega), gen_out _ 10 t (by omega), hb]
      have e2 : (y * 256 + B) / 2 ^ (10 - 6) = y * 16 + a := by omega
      have e3 : (y * 256 + B) % 2 ^ (10 - 6) = n / 4 := by omega
      rw [e2, e3, show 2 + 8 - 6 = 4 by omega, hx, show n / 4 * 4 + n % 4 = n by omega]
      simp
    · obtain ⟨n, hn, hx, he⟩ := key _ _ _ _ h
      rw [he, if_pos (by omega)] at h
      have e1 : (a * 64 + n) % 2 ^ (2 - 2) = 0 := by omega
      rw [e1] at h
      obtain ⟨t, ht, hiff⟩ := i0 _ _ _ _ h
      have hB : (a * 64 + n) / 2 ^ (2 - 2) = a * 64 + n := by omega
      rw [hB] at ht
      generalize hBg : a * 64 + n = B at ht hB
      have hb : (UInt8.ofNat B).toNat = B := by rw [UInt8.toNat_ofNat']; omega
      refine ⟨UInt8.ofNat B :: t, by rw [ht]; simp, ?_⟩
      rw [hiff, gen_in y 4 _ t (by omega), gen_out _ 12 t (by omega), hb, gen_out _ (12 - 6) t (by omega)]
      have e2 : (y * 256 + B) / 2 ^ (12 - 6) = y * 4 + a := by omega
      have e3 : (y * 256 + B) % 2 ^ (12 - 6) / 2 ^ (12 - 6 - 6) = n := by omega
      have e4 : (y * 256 + B) % 2 ^ (12 - 6) % 2 ^ (12 - 6 - 6) = 0 := by omega
      rw [e2, e3, e4, show 12 - 6 - 6 = 0 by omega, hx]
      simp

def endF : Option (List UInt8 × Nat × Nat) → Option (List UInt8)
  | none => none
  | some (o, a, b) => if b = 6 ∨ a ≠ 0 then none else some o

theorem unb64_dec (l : List UInt8) : unb64 l = endF (decF [] 0 0 l) := by
  unfold unb64
  rw [ung_dec]
  match h : decF [] 0 0 l with
  | none => rfl
  | some (o, a, b) =>
    obtain ⟨t, ht, hiff⟩ := (dec_main l).1 _ _ _ _ h
    rw [List.nil_append] at ht
    subst ht
    show (if b64 o = l then some o else none) = if b = 6 ∨ a ≠ 0 then none else some o
    unfold b64
    by_cases hc : b = 6 ∨ a ≠ 0
    · rw [if_pos hc, if_neg (fun e => by have := hiff.2 e; omega)]
    · rw [if_neg hc, if_pos (hiff.1 (by omega))]

theorem win_or6 (W x : Nat) (hx : x < 64) : bits .or .u32 ((W : Int) * 64 % 4294967296) (x : Int) = ((W * 64 % 4294967296 + x : Nat) : Int) := by
  have e : (W : Int) * 64 % 4294967296 = ((W * 64 % 4294967296 : Nat) : Int) := by omega
  rw [e, u32_or_nat _ _ (Nat.mod_lt _ (by omega)) (by omega)]
  congr 1
  obtain ⟨y, hy⟩ : ∃ y, W * 64 % 4294967296 = 2 ^ 6 * y := ⟨W * 64 % 4294967296 / 64, by omega⟩
  rw [hy]
  exact (Nat.two_pow_add_eq_or_of_lt (by omega) y).symm

theorem win_add6 (W x b : Nat) (hx : x < 64) (hb : b + 6 ≤ 32) : (W * 64 % 4294967296 + x) % 2 ^ (b + 6) = (W % 2 ^ b) * 64 + x := by
  have h1 : W * 64 % 4294967296 % 2 ^ (b + 6) = (W % 2 ^ b) * 64 := by
    rw [Nat.mod_mod_of_dvd _ (show 2 ^ (b + 6) ∣ 4294967296 from Nat.pow_dvd_pow 2 (show b + 6 ≤ 32 from hb))]
    rw [Nat.pow_add, Nat.mul_mod_mul_right]
  have h8 : 2 ^ 6 ≤ 2 ^ (b + 6) := Nat.pow_le_pow_right (by decide) (by omega)
  have hx8 : x < 2 ^ (b + 6) := Nat.lt_of_lt_of_le hx h8
  rw [Nat.add_mod, h1, Nat.mod_eq_of_lt hx8]
  apply Nat.mod_eq_of_lt
  have h2 : W % 2 ^ b < 2 ^ b := Nat.mod_lt _ (Nat.two_pow_pos b)
  have hp : 2 ^ (b + 6) = 2 ^ b * 64 := Nat.pow_add 2 b 6
  rw [hp]
  generalize 2 ^ b = f at h2 ⊢
  omega

theorem win_byte (V b : Nat) (hb : 2 ≤ b) : (V : Int) / 2 ^ (b - 2) % 256 = ((V % 2 ^ (b + 6) / 2 ^ (b - 2) : Nat) : Int) := by
  have hp : 2 ^ (b + 6) = 2 ^ (b - 2) * 256 := by rw [show (256 : Nat) = 2 ^ 8 by decide, ← Nat.pow_add]; congr 1; omega
  rw [hp, Nat.mod_mul_right_div_self]
  simp

theorem win_byte_lt (V b : Nat) (hb : 2 ≤ b) : V % 2 ^ (b + 6) / 2 ^ (b - 2) < 256 := by
  have hp : 2 ^ (b + 6) = 2 ^ (b - 2) * 256 := by rw [show (256 : Nat) = 2 ^ 8 by decide, ← Nat.pow_add]; congr 1; omega
  rw [hp, Nat.mod_mul_right_div_self]
  exact Nat.mod_lt _ (by decide)

theorem win_more (V b : Nat) : V % 2 ^ (b + 6) % 2 ^ (b - 2) = V % 2 ^ (b - 2) :=
  Nat.mod_mod_of_dvd _ (Nat.pow_dvd_pow 2 (by omega))

theorem win_mask (W b : Nat) (hW : W < 4294967296) (hb : b ≤ 6) : bits .and .u32 (W : Int) ((2 ^ b - 1) % 4294967296) = ((W % 2 ^ b : Nat) : Int) := by
  have h1 : 1 ≤ 2 ^ b := Nat.one_le_two_pow
  have h2 : 2 ^ b ≤ 64 := Nat.pow_le_pow_right (n := 2) (by decide) hb
  have e : ((2 : Int) ^ b - 1) % 4294967296 = ((2 ^ b - 1 : Nat) : Int) := by
    have : ((2 : Int) ^ b) = ((2 ^ b : Nat) : Int) := by simp
    rw [this]; omega
  rw [e, u32_and_nat _ _ hW (by omega), Nat.and_two_pow_sub_one_eq_mod]

set_option maxHeartbeats 1600000 in
theorem unb64_impl (s : ByteArray) (w : World) (hs : s.size ≤ 1048576) :
    Calls Tryz.prog 78 #[.string s] w fun e w' => e = .returned (unR (unb64 s.data.toList)) ∧ Below w.heap.size w w' := by
  obtain ⟨i0, hi, hz0, hz1, hz2⟩ := info_parts Tryz.info5
  obtain ⟨hz, hi8⟩ := zero_of_info zero8
  obtain ⟨A0, HA⟩ : ∃ A0, Hid (A0 = arr8 fun _ => 0) := ⟨_, Lib.hid rfl⟩
  rw [← HA.out] at hz
  obtain ⟨R, hR⟩ : ∃ R, R = decF [] 0 0 s.data.toList := ⟨_, rfl⟩
  have HR := Lib.hid (show unb64 s.data.toList = endF R by rw [unb64_dec, hR])
  have HR0 := Lib.hid hR
  clear hR
  have hmk := make_row (P := Tryz.prog) 34 5 i0 (.int .u8 0) Tryz.underlying34 hi hz0 (s.size : Int) s.size (by omega) (by rw [hz2]; omega) (by omega)
  go_enter Tryz.func78, Tryz.ntmps78
  go_wp2_with fail
  refine (places_call _).mono ?_
  rintro e w1 ⟨rfl, hb1⟩
  obtain ⟨F, HF⟩ : ∃ F, Hid (F = fun c => atN (UInt8.ofNat c)) := ⟨_, Lib.hid rfl⟩
  rw [← HF.out]
  have hst := run_storeCells_row (P := Tryz.prog) (w1.alloc (.cells A0 140)) w1.heap.size 140 A0 (arr8 F) (heap_alloc_last _ _) (by rw [arr8_size]; exact hi8) (by rw [HA.out, arr8_size, arr8_size]) (arr8_one F)
  have hg0 := setRow_heap _ w1.heap.size A0 (arr8 F) _ _ (heap_alloc_last w1 (.cells A0 140))
  have hsz0 : ((w1.alloc (.cells A0 140)).setRow w1.heap.size (arr8 F)).heap.size = w1.heap.size + 1 := by simp
  have hb0 : Below w.heap.size w ((w1.alloc (.cells A0 140)).setRow w1.heap.size (arr8 F)) := below_setRow (hb1.alloc hb1.size _) hb1.size _
  have hw1 := hb1.size
  generalize ((w1.alloc (.cells A0 140)).setRow w1.heap.size (arr8 F)) = W0 at hst hg0 hsz0 hb0
  go_wp2
  clear hst
  generalize w1.heap.size = g at hg0 hsz0 hw1 ⊢
  go_loopw [5, 6, 7, 16] (fun v A B i wr => ∃ (k W b : Nat) (o : List UInt8), k ≤ s.size ∧ A = .int .u32 (W : Int) ∧ B = .int .i64 (b : Int) ∧ i = .int .i64 k ∧ W < 4294967296 ∧ (b ≤ 6 ∧ b % 2 = 0) ∧ o.length ≤ k ∧ Hid (decF o (W % 2 ^ b) b (s.data.toList.drop k) = R) ∧ wr.ownsRow (g + 1) 5 1 v o.length (cells8 o) ∧ Below (g + 1) W0 wr) (fun _ _ _ i _ => s.size - (intOf i).toNat)
  case atStart => exact ⟨0, 0, 0, [], by omega, rfl, rfl, rfl, by omega, ⟨by omega, by omega⟩, by simp, Lib.hid (by rw [HR0.out]; rfl), by rw [← hsz0]; exact World.ownsRow_made W0 _ s.size (Nat.le_refl _) (by unfold maxLen; omega) (by rw [size_madeCells, Nat.mul_one]), by rw [← hsz0]; exact (Below.refl _ W0).alloc (Nat.le_refl _) _⟩
  case round =>
    clear hmk
    obtain ⟨k, W, b, o, hk, rfl, rfl, rfl, hW, ⟨hb6, hpar⟩, hol, hD, hown, hbel⟩ := hrel
    have hbs := hbel.size
    have HP := Lib.hid hpar
    clear hpar
    by_cases hlt : k < s.size
    · have h256 : s[k].toNat < 256 := s[k].toNat_lt
      have hgr : wr.heap[g]? = some (.cells (arr8 F) 140 (0, 0)) := (hbel.block g (by omega)).trans hg0
      have hcell : wr.cell? ⟨g, s[k].toNat, none⟩ = some (.int .i8 (atN s[k])) := by
        rw [cell_of_row wr g _ _ _ _ hgr, arr8_get F _ h256, HF.out]
        simp
      have l1 := atN_lt s[k]
      have l2 := atN_ge s[k]
      have hD2 := hD.out
      rw [drop_cons s k hlt, decF] at hD2
      by_cases hx : atN s[k] < 0
      · rw [if_pos hx] at hD2
        have HD := Lib.hid hD2
        clear hD2
        go_wp2
        go_ret2
        exact ⟨by rw [HR.out, ← HD.out]; rfl, hb0.trans (hbel.mono (by omega))⟩
      · rw [if_neg hx] at hD2
        obtain ⟨n, hn⟩ := Int.eq_ofNat_of_zero_le (show 0 ≤ atN s[k] by omega)
        have hn64 : n < 64 := by omega
        rw [hn] at hcell hD2
        rw [Int.toNat_natCast, ← win_add6 W n b hn64 (by omega)] at hD2
        have hor := win_or6 W n hn64
        have hV : W * 64 % 4294967296 + n < 4294967296 := by omega
        generalize W * 64 % 4294967296 + n = V at hD2 hor hV
        clear hn hx l1 l2
        by_cases h8 : 8 ≤ b + 6
        · have h8i : (8 : Int) ≤ (b : Int) + 6 := by omega
          have e68 : b + 6 - 8 = b - 2 := by omega
          rw [if_pos h8, win_more] at hD2
          have hby := win_byte V b (by omega)
          have hlt8 := win_byte_lt V b (by omega)
          generalize V % 2 ^ (b + 6) / 2 ^ (b - 2) = c at hD2 hby hlt8
          have HD := Lib.hid hD2
          have HC := Lib.hid (show (c : Int) = ((UInt8.ofNat c).toNat : Int) by rw [UInt8.toNat_ofNat']; omega)
          have EB := Lib.hid (show ((b : Int) + 6 - 8) = ((b - 2 : Nat) : Int) by omega)
          clear hD2
          go_wp2_with (at_builtin; refine wpList_append_lies _ rfl _ _ _ rfl (g + 1) 5 i0 _ 1 1 Tryz.underlying34 hi hz0 hz1 hz2 rfl (by omega) u5 o.length _ rfl (hown.alloc _) ⟨wr.heap.size, 0, none⟩ 1 1 [.int .u8 (c : Int)] rfl rfl (World.news_of_block (cs := #[.int .u8 (c : Int)]) (t := 5) (fr := (0, 0)) (heap_alloc_new wr _)) (by simp [Value.oneCell']) (by omega) (by unfold maxLen; omega) (by omega) (by simp; omega) (wr.heap.size + 1) (by simp) ?_; intro gg cap w2 hown2 hgrow hat hlt2)
          go_roundw
          case rel => exact ⟨k + 1, V, b - 2, o ++ [UInt8.ofNat c], by omega, rfl, by rw [EB.out], by go_num, hV, ⟨by omega, by have := HP.out; omega⟩, by simp; omega, HD, by rw [cells8_append, List.length_append, ← cells8_one _ _ HC.out]; exact hown2, (hbel.alloc (by omega) _).grown hgrow (by simp; omega) (fun j e => (hown.lt j e).1)⟩
          case measure => simp [intOf]; omega
        · have h8i : ¬ ((8 : Int) ≤ (b : Int) + 6) := by omega
          rw [if_neg h8] at hD2
          have HD := Lib.hid hD2
          clear hD2
          go_wp2
          go_roundw
          case rel => exact ⟨k + 1, V, b + 6, o, by omega, rfl, by simp, by go_num, hV, ⟨by have := HP.out; omega, by have := HP.out; omega⟩, by omega, HD, hown, hbel⟩
          case measure => simp [intOf]; omega
    · have he : s.data.toList.drop k = [] := List.drop_eq_nil_of_le (by rw [data_length]; omega)
      have hD2 := hD.out
      rw [he, decF] at hD2
      have HU := Lib.hid (show unb64 s.data.toList = endF (some (o, W % 2 ^ b, b)) by rw [HR.out, ← hD2])
      clear he hD hD2
      by_cases hb : b = 6
      · have hbt : ((b : Int) == 6) = true := by rw [hb]; rfl
        go_wp2
        go_ret2
        exact ⟨by rw [HU.out, endF, if_pos (.inl hb)]; rfl, hb0.trans (hbel.mono (by omega))⟩
      · have hbt : ((b : Int) == 6) = false := by simp; omega
        have hma := win_mask W b hW hb6
        by_cases hz : W % 2 ^ b = 0
        · have hne : (((W % 2 ^ b : Nat) : Int) != 0) = false := by rw [hz]; rfl
          have HV := Lib.hid (show unb64 s.data.toList = some o by rw [HU.out, endF, if_neg (by omega)])
          generalize W % 2 ^ b = m at hma hne
          clear hz
          have hcv := bytes_back_own (P := Tryz.prog) wr 34 9 5 (g + 1) u5 o.length o rfl Tryz.underlying34 Tryz.underlying5 Tryz.underlying9 hown
          go_wp2
          go_ret2
          exact ⟨by rw [HV.out]; rfl, hb0.trans (hbel.mono (by omega))⟩
        · have hne : (((W % 2 ^ b : Nat) : Int) != 0) = true := by rw [bne_iff_ne]; omega
          have HV := Lib.hid (show unb64 s.data.toList = none by rw [HU.out, endF, if_pos (.inr hz)])
          generalize W % 2 ^ b = m at hma hne
          clear hz
          go_wp2
          go_ret2
          exact ⟨by rw [HV.out]; rfl, hb0.trans (hbel.mono (by omega))⟩

end Go.Proofs.YtonpalaopnfffaaGreatDoor
