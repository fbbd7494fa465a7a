/- CONTRACTS of SameText, the model's and the program's. -/
import Derived.Test.YtonpalaopnfffaaGreatDoorC1
import Derived.Test.YtonpalaopnfffaaGreatDoorArr
import Derived.Test.YtonpalaopnfffaaGreatDoorStep
import Derived.Laws.BitsAllLaws
import Derived.Deep.LoopGhost
import Derived.ChangeKeysEq

namespace Go.Proofs.YtonpalaopnfffaaGreatDoor
set_option linter.unusedVariables false
set_option maxRecDepth 4000
open Go.ChangeShapes Go.WideShapes Go.ChangeAt Go.RowKit
open Go.ChangeMaps (open_string shut_string)

theorem sametext_spec (a b : ByteArray) (w : World) :
    Calls Tryz.prog 27 #[.string a, .string b] w fun e w' => e = .returned (.bool (decide (a = b))) ∧ w = w' := by
  go_enter Tryz.func27, Tryz.ntmps27
  go_wp2
  go_ret
  exact ⟨ret_bool (by
    by_cases h : a = b
    · simp [h]
    · have : ¬ a.toList = b.toList := fun e => h (by rw [Lib.toList_data, Lib.toList_data] at e; rw [← txt_of a, ← txt_of b, e])
      simp [h, this]), rfl⟩

/-- an array of thirty-two bytes -/
def arrD (f : Nat → Nat) : Array Value := ((List.range 32).map fun c => Value.int .u8 ((f c : Nat) : Int)).toArray

theorem arrD_size (f : Nat → Nat) : (arrD f).size = 32 := by simp [arrD]

theorem arrD_set (f : Nat → Nat) (k v : Nat) : (arrD f).setIfInBounds k (.int .u8 ((v : Nat) : Int)) = arrD fun c => if c = k then v else f c := by
  unfold arrD
  rw [List.setIfInBounds_toArray]
  congr 1
  apply List.ext_getElem
  · simp
  · intro i h1 h2
    simp only [List.getElem_set, List.getElem_map, List.getElem_range]
    by_cases e : k = i
    · simp [e]
    · rw [if_neg e, if_neg (fun h => e h.symm)]

theorem arrD_get (f : Nat → Nat) (k : Nat) (hk : k < 32) : (arrD f)[k]? = some (.int .u8 ((f k : Nat) : Int)) := by
  unfold arrD
  rw [List.getElem?_toArray, List.getElem?_map, List.getElem?_range hk]; rfl

theorem eqItems_D {P : Program} (w : World) (e : TypeId) (hu : P.underlying e = some (.int .u8)) (hk : P.plainKey e = true) (hc : P.cellsOf e = 1) (f g : Nat → Nat) (d : Nat) (is : List Nat) (hi : ∀ i ∈ is, i < 32) :
    (Op.eqItems (d + 1) e (P.cellsOf e) (arrD f) (arrD g) is).run P w = .ok (is.all fun c => ((f c : Nat) : Int) == ((g c : Nat) : Int)) w := by
  induction is with
  | nil => simp [Op.eqItems]
  | cons i is ih =>
    have p1 := run_part_plain (P := P) w hk (show (arrD f)[i * P.cellsOf e]? = some _ by rw [hc, Nat.mul_one]; exact arrD_get f i (hi i (by simp)))
    have p2 := run_part_plain (P := P) w hk (show (arrD g)[i * P.cellsOf e]? = some _ by rw [hc, Nat.mul_one]; exact arrD_get g i (hi i (by simp)))
    have p3 := run_equalIn_int (P := P) w d e .u8 .u8 ((f i : Nat) : Int) ((g i : Nat) : Int) hu
    simp only [Op.eqItems, Sem.run_bind, p1, p2, p3, Result.andThen_ok, List.all_cons]
    cases h : (((f i : Nat) : Int) == ((g i : Nat) : Int))
    · simp
    · simpa using ih fun j hj => hi j (by simp [hj])

def allZ (f : Nat → Nat) : Bool := (List.range 32).all fun c => f c == 0

theorem allZ_iff (f : Nat → Nat) : allZ f = true ↔ ∀ c, c < 32 → f c = 0 := by
  unfold allZ
  rw [List.all_eq_true]
  constructor
  · intro h c hc
    have := h c (by simpa using hc)
    simpa using this
  · intro h c hc
    have := h c (by simpa using hc)
    simp [this]

theorem equal_D (w : World) (f : Nat → Nat) : (Op.equalIn 10000 117 (.agg (arrD f)) (.agg (arrD fun _ => 0))).run Tryz.prog w = .ok (allZ f) w := by
  obtain ⟨i0, hi, hz0, hz1, hz2⟩ := info_parts Tryz.info5
  rw [run_equalIn_array w 9999 _ _ Tryz.underlying117 hi, eqItems_D w 5 Tryz.underlying5 (by kernel_rfl) (by kernel_rfl) f (fun _ => 0) 9998 (List.range 32) fun i hi => by simpa using hi]
  congr 1
  rw [Bool.eq_iff_iff, List.all_eq_true, allZ_iff]
  constructor
  · intro h c hc
    have := h c (by simpa using hc)
    simp at this
    omega
  · intro h c hc
    have := h c (by simpa using hc)
    simp [this]

theorem zeroD : (Tryz.prog.info? 117).map (fun i => (i.zero, i.size)) = some (some (.agg (arrD fun _ => 0)), 32) := by kernel_rfl

theorem diff_step (a b : ByteArray) (f : Nat → Nat) (k : Nat) (ha : k < a.size) (hb : k < b.size) (h : (∀ c, c < 32 → f c = 0) ↔ ∀ j (h1 : j < k) (h2 : j < a.size) (h3 : j < b.size), a[j] = b[j]) :
    (∀ c, c < 32 → (if c = k % 32 then f (k % 32) ||| (a[k].toNat ^^^ b[k].toNat) else f c) = 0) ↔ ∀ j (h1 : j < k + 1) (h2 : j < a.size) (h3 : j < b.size), a[j] = b[j] := by
  have hx : a[k].toNat ^^^ b[k].toNat = 0 ↔ a[k] = b[k] := by
    constructor
    · intro h0
      have h2 : (a[k].toNat ^^^ b[k].toNat) ^^^ b[k].toNat = 0 ^^^ b[k].toNat := by rw [h0]
      rw [Nat.xor_assoc, Nat.xor_self, Nat.xor_zero, Nat.zero_xor] at h2
      exact UInt8.toNat_inj.1 h2
    · intro h0; rw [h0, Nat.xor_self]
  constructor
  · intro hc j hj ja jb
    have hk := hc (k % 32) (by omega)
    rw [if_pos rfl, Nat.or_eq_zero_iff] at hk
    by_cases e : j = k
    · subst e; exact hx.1 hk.2
    · refine h.1 (fun c hc2 => ?_) j (by omega) ja jb
      have := hc c hc2
      by_cases e2 : c = k % 32
      · rw [e2]; exact hk.1
      · rwa [if_neg e2] at this
  · intro hj c hc
    have h0 := h.2 fun j h1 ja jb => hj j (by omega) ja jb
    by_cases e2 : c = k % 32
    · rw [if_pos e2, Nat.or_eq_zero_iff]
      exact ⟨h0 _ (by omega), hx.2 (hj k (by omega) ha hb)⟩
    · rw [if_neg e2]; exact h0 c hc

set_option maxHeartbeats 800000 in
theorem sametext_impl (a b : ByteArray) (w : World) (has : a.size ≤ 1048576) (hbs : b.size ≤ 1048576) :
    Calls Tryz.prog 59 #[.string a, .string b] w fun e w' => e = .returned (.bool (decide (a = b))) ∧ Below w.heap.size w w' := by
  obtain ⟨hz, hi⟩ := zero_of_info zeroD
  obtain ⟨A0, HA⟩ : ∃ A0, Hid (A0 = arrD fun _ => 0) := ⟨_, Lib.hid rfl⟩
  rw [← HA.out] at hz
  by_cases hX : b.size < a.size
  · go_enter Tryz.func59, Tryz.ntmps59
    go_wp2
    go_loopg [6, 12] b.size (fun g _ i wx => ∃ (k : Nat) (f : Nat → Nat), k + g = b.size ∧ i = .int .i64 (k : Int) ∧ Hid (wx.heap[w.heap.size]? = some (.cells (arrD f) 117 (0, 0))) ∧ Hid (∀ c, f c < 256) ∧ Hid ((∀ c, c < 32 → f c = 0) ↔ ∀ j (h1 : j < k) (h2 : j < a.size) (h3 : j < b.size), a[j] = b[j]) ∧ Below w.heap.size w wx)
    case atStart => exact ⟨0, fun _ => 0, by omega, rfl, Lib.hid (by rw [← HA.out]; exact heap_alloc_new w _), Lib.hid (fun _ => by show 0 < 256; omega), Lib.hid ⟨fun _ j h => by omega, fun _ _ _ => rfl⟩, (Below.refl _ w).alloc (Nat.le_refl _) _⟩
    case round =>
      obtain ⟨k, f, hk, rfl, G0, hf, hiff, hbel⟩ := hrel
      cases gk with
      | zero =>
        have hkX : k = b.size := by omega
        have hrun := hiff.out
        rw [hkX] at hrun
        have HR := Lib.hid hrun
        clear hrun
        go_wp2
        go_ret
        exact ⟨ret_bool (by
          have : ¬ a = b := fun e => by rw [e] at hX; omega
          simp [this]), hbel⟩
      | succ g =>
        have ha : k < a.size := by omega
        have hb : k < b.size := by omega
        have hl : (k : Int) < (b.size : Int) := by omega
        have q32 : ((k : Int) % 32).toNat = k % 32 := by omega
        have n32 : 0 ≤ (k : Int) % 32 := by omega
        have m32 : (k : Int) % 32 < 32 := by omega
        have hc : wr.cell? ⟨w.heap.size, k % 32, none⟩ = some (.int .u8 ((f (k % 32) : Nat) : Int)) := by rw [cell_of_row _ _ _ _ _ _ G0.out]; exact arrD_get f _ (by omega)
        have hfz := frozen_of_row wr w.heap.size (k % 32) _ _ G0.out
        have ha8 := a[k].toNat_lt
        have hb8 := b[k].toNat_lt
        have hf8 := hf.out (k % 32)
        have hx8 : a[k].toNat ^^^ b[k].toNat < 256 := Nat.xor_lt_two_pow (n := 8) ha8 hb8
        have hxor := u8_xor_nat a[k].toNat b[k].toNat ha8 hb8
        have hor := u8_or_nat (f (k % 32)) (a[k].toNat ^^^ b[k].toNat) hf8 hx8
        have HN := Lib.hid (diff_step a b f k ha hb hiff.out)
        have HS := Lib.hid (arrD_set f (k % 32) (f (k % 32) ||| (a[k].toNat ^^^ b[k].toNat)))
        have hv8 : f (k % 32) ||| (a[k].toNat ^^^ b[k].toNat) < 256 := Nat.or_lt_two_pow (n := 8) hf8 hx8
        generalize f (k % 32) ||| (a[k].toNat ^^^ b[k].toNat) = v at hor HN HS hv8
        generalize a[k].toNat ^^^ b[k].toNat = x at hxor hor
        generalize f (k % 32) = y at hc hor
        go_wp2
        go_region
        go_wp2
        go_roundg g
        case measure => omega
        case rel => exact ⟨k + 1, _, by omega, by go_num, Lib.hid (by rw [← HS.out]; exact heap_setCell_same wr w.heap.size (k % 32) (arrD f) _ _ G0.out), Lib.hid (fun c => by
          show (if c = k % 32 then v else f c) < 256
          split
          · exact hv8
          · exact hf.out c), HN, (hbel.setCell (p := ⟨w.heap.size, k % 32, none⟩) (by simp) _).drew⟩
  · go_enter Tryz.func59, Tryz.ntmps59
    go_wp2
    go_loopg [6, 12] a.size (fun g _ i wx => ∃ (k : Nat) (f : Nat → Nat), k + g = a.size ∧ i = .int .i64 (k : Int) ∧ Hid (wx.heap[w.heap.size]? = some (.cells (arrD f) 117 (0, 0))) ∧ Hid (∀ c, f c < 256) ∧ Hid ((∀ c, c < 32 → f c = 0) ↔ ∀ j (h1 : j < k) (h2 : j < a.size) (h3 : j < b.size), a[j] = b[j]) ∧ Below w.heap.size w wx)
    case atStart => exact ⟨0, fun _ => 0, by omega, rfl, Lib.hid (by rw [← HA.out]; exact heap_alloc_new w _), Lib.hid (fun _ => by show 0 < 256; omega), Lib.hid ⟨fun _ j h => by omega, fun _ _ _ => rfl⟩, (Below.refl _ w).alloc (Nat.le_refl _) _⟩
    case round =>
      obtain ⟨k, f, hk, rfl, G0, hf, hiff, hbel⟩ := hrel
      cases gk with
      | zero =>
        have hkX : k = a.size := by omega
        have hrun := hiff.out
        rw [hkX] at hrun
        have HR := Lib.hid hrun
        clear hrun
        by_cases hl : a.size = b.size
        · have hli : ((a.size : Int) == (b.size : Int)) = true := by simp [hl]
          have hld := run_loadAt_row (P := Tryz.prog) wr w.heap.size 117 (arrD f) 32 5 G0.out Tryz.underlying117 (by rw [arrD_size]; exact hi)
          have heq := equal_D wr f
          have HD := Lib.hid (show decide (a = b) = allZ f by
            rw [Bool.eq_iff_iff, decide_eq_true_eq, allZ_iff, HR.out]
            constructor
            · rintro rfl j h1 h2 h3; rfl
            · intro h
              rw [← txt_of a, ← txt_of b]
              congr 1
              apply List.ext_getElem
              · simpa using hl
              · intro j h1 h2
                have h1' : j < a.size := by simpa using h1
                exact h j h1' h1' (by omega))
          clear hi hz
          generalize allZ f = r at heq HD
          generalize arrD f = AF at hld heq
          have heq2 : (Op.equalIn 10000 117 (.agg AF) (.agg #[.int .u8 0, .int .u8 0, .int .u8 0, .int .u8 0, .int .u8 0, .int .u8 0, .int .u8 0, .int .u8 0, .int .u8 0, .int .u8 0, .int .u8 0, .int .u8 0, .int .u8 0, .int .u8 0, .int .u8 0, .int .u8 0, .int .u8 0, .int .u8 0, .int .u8 0, .int .u8 0, .int .u8 0, .int .u8 0, .int .u8 0, .int .u8 0, .int .u8 0, .int .u8 0, .int .u8 0, .int .u8 0, .int .u8 0, .int .u8 0, .int .u8 0, .int .u8 0])).run Tryz.prog wr = .ok r wr := heq
          clear heq
          go_wp2_with (refine wpList_load_wanted (by rfl) _ _ rfl _ _ rfl hld ?_)
          go_ret
          exact ⟨ret_bool (by rw [HD.out]), hbel⟩
        · have hli : ((a.size : Int) == (b.size : Int)) = false := by simp; omega
          go_wp2
          go_ret
          exact ⟨ret_bool (by
            have : ¬ a = b := fun e => by rw [e] at hl; omega
            simp [this]), hbel⟩
      | succ g =>
        have ha : k < a.size := by omega
        have hb : k < b.size := by omega
        have hl : (k : Int) < (a.size : Int) := by omega
        have q32 : ((k : Int) % 32).toNat = k % 32 := by omega
        have n32 : 0 ≤ (k : Int) % 32 := by omega
        have m32 : (k : Int) % 32 < 32 := by omega
        have hc : wr.cell? ⟨w.heap.size, k % 32, none⟩ = some (.int .u8 ((f (k % 32) : Nat) : Int)) := by rw [cell_of_row _ _ _ _ _ _ G0.out]; exact arrD_get f _ (by omega)
        have hfz := frozen_of_row wr w.heap.size (k % 32) _ _ G0.out
        have ha8 := a[k].toNat_lt
        have hb8 := b[k].toNat_lt
        have hf8 := hf.out (k % 32)
        have hx8 : a[k].toNat ^^^ b[k].toNat < 256 := Nat.xor_lt_two_pow (n := 8) ha8 hb8
        have hxor := u8_xor_nat a[k].toNat b[k].toNat ha8 hb8
        have hor := u8_or_nat (f (k % 32)) (a[k].toNat ^^^ b[k].toNat) hf8 hx8
        have HN := Lib.hid (diff_step a b f k ha hb hiff.out)
        have HS := Lib.hid (arrD_set f (k % 32) (f (k % 32) ||| (a[k].toNat ^^^ b[k].toNat)))
        have hv8 : f (k % 32) ||| (a[k].toNat ^^^ b[k].toNat) < 256 := Nat.or_lt_two_pow (n := 8) hf8 hx8
        generalize f (k % 32) ||| (a[k].toNat ^^^ b[k].toNat) = v at hor HN HS hv8
        generalize a[k].toNat ^^^ b[k].toNat = x at hxor hor
        generalize f (k % 32) = y at hc hor
        go_wp2
        go_region
        go_wp2
        go_roundg g
        case measure => omega
        case rel => exact ⟨k + 1, _, by omega, by go_num, Lib.hid (by rw [← HS.out]; exact heap_setCell_same wr w.heap.size (k % 32) (arrD f) _ _ G0.out), Lib.hid (fun c => by
          show (if c = k % 32 then v else f c) < 256
          split
          · exact hv8
          · exact hf.out c), HN, (hbel.setCell (p := ⟨w.heap.size, k % 32, none⟩) (by simp) _).drew⟩

end Go.Proofs.YtonpalaopnfffaaGreatDoor
