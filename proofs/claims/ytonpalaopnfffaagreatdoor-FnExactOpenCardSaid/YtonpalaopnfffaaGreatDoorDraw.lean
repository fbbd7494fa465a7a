/- CONTRACTS of what draws from the bytes that come in: the cursor, its bytes, numbers, texts and lists. -/
import Derived.Test.YtonpalaopnfffaaGreatDoorWords
import Derived.Deep.LoopGhost

namespace Go.Proofs.YtonpalaopnfffaaGreatDoor
set_option linter.unusedVariables false
set_option maxRecDepth 4000
open Go.ChangeShapes Go.WideShapes Go.ChangeAt Go.RowKit
open Go.ChangeMaps (open_string shut_string)

/-- the drawing's own step -/
def lcg (h : Int) : Int := wrap64 (wrap64 (h * 6364136223846793005) + 1442695040888963407)

/-- the byte that a state gives by itself -/
def fxb (h : Int) : Int := bits .and .i64 (bits .xor .i64 (h / 8589934592) (h / 35184372088832)) 255

def iter (f : Int → Int) : Nat → Int → Int
  | 0, h => h
  | n + 1, h => iter f n (f h)

theorem iter_add (f : Int → Int) (a b : Nat) (h : Int) : iter f (a + b) h = iter f b (iter f a h) := by
  induction a generalizing h with
  | zero => simp [iter]
  | succ a ih => rw [Nat.succ_add]; exact ih (f h)

theorem iter_one (f : Int → Int) (a : Nat) (h : Int) : iter f (a + 1) h = f (iter f a h) := iter_add f a 1 h

def lin (h : Int) : Int := h * 6364136223846793005 + 1442695040888963407

theorem wrap64_mod (z : Int) : (wrap64 z - z) % 18446744073709551616 = 0 := by unfold wrap64; omega

theorem wrap64_range (z : Int) : -9223372036854775808 ≤ wrap64 z ∧ wrap64 z ≤ 9223372036854775807 := by unfold wrap64; omega

theorem lcg_range (h : Int) : -9223372036854775808 ≤ lcg h ∧ lcg h ≤ 9223372036854775807 := wrap64_range _

theorem lcg_lin (h : Int) : (lcg h - lin h) % 18446744073709551616 = 0 := by
  unfold lcg lin
  have h1 := wrap64_mod (h * 6364136223846793005)
  have h2 := wrap64_mod (wrap64 (h * 6364136223846793005) + 1442695040888963407)
  omega

theorem lin_cong (a b : Int) (h : (a - b) % 18446744073709551616 = 0) : (lin a - lin b) % 18446744073709551616 = 0 := by
  unfold lin
  omega

theorem iter_cong (n : Nat) : ∀ (a b : Int), (a - b) % 18446744073709551616 = 0 → (iter lcg n a - iter lin n b) % 18446744073709551616 = 0 := by
  induction n with
  | zero => intro a b h; exact h
  | succ n ih =>
    intro a b h
    refine ih _ _ ?_
    have h1 := lcg_lin a
    have h2 := lin_cong a b h
    omega

theorem lin_pow (k : Nat) : ∃ u v : Int, ∀ h, iter lin (2 ^ k) h = (1 + 4 * 2 ^ k * u) * h + 2 ^ k * (1 + 2 * v) := by
  induction k with
  | zero => exact ⟨1591034055961698251, 721347520444481703, fun h => by simp [iter, lin]; omega⟩
  | succ k ih =>
    obtain ⟨u, v, e⟩ := ih
    refine ⟨u + 2 * 2 ^ k * u * u, v + 2 ^ k * u + 2 * v * 2 ^ k * u, fun h => ?_⟩
    have e2 : 2 ^ (k + 1) = 2 ^ k + 2 ^ k := by rw [Nat.pow_succ]; omega
    rw [e2, iter_add, e, e]
    have e3 : (2 : Int) ^ (k + 1) = 2 * 2 ^ k := by rw [Int.pow_succ]; exact Int.mul_comm _ _
    rw [e3]
    generalize (2 : Int) ^ k = p
    grind

theorem reach_mod (k : Nat) (hk : k ≤ 64) : ∀ h t : Int, ∃ m, m < 2 ^ k ∧ (iter lin m h - t) % 2 ^ k = 0 := by
  induction k with
  | zero => intro h t; exact ⟨0, by simp, by simp [Int.emod_one]⟩
  | succ k ih =>
    intro h t
    obtain ⟨m, hm, e⟩ := ih (by omega) h t
    have e3 : (2 : Int) ^ (k + 1) = 2 * 2 ^ k := by rw [Int.pow_succ]; exact Int.mul_comm _ _
    have p2 : 2 ^ (k + 1) = 2 * 2 ^ k := by rw [Nat.pow_succ]; omega
    have hp : (0 : Int) < 2 ^ k := Int.pow_pos (by omega)
    obtain ⟨q, hq⟩ := Int.dvd_of_emod_eq_zero e
    by_cases hev : q % 2 = 0
    · refine ⟨m, by omega, ?_⟩
      obtain ⟨r, hr⟩ := Int.dvd_of_emod_eq_zero hev
      rw [hq, e3, hr]
      apply Int.emod_eq_zero_of_dvd
      exact ⟨r, by grind⟩
    · obtain ⟨u, v, g⟩ := lin_pow k
      refine ⟨m + 2 ^ k, by omega, ?_⟩
      rw [iter_add, g, e3]
      have ho : q = 2 * (q / 2) + 1 := by omega
      generalize q / 2 = r at ho
      subst ho
      have hi : iter lin m h = t + 2 ^ k * (2 * r + 1) := by omega
      rw [hi]
      generalize (2 : Int) ^ k = p
      apply Int.emod_eq_zero_of_dvd
      exact ⟨2 * u * (t + p * (2 * r + 1)) + r + 1 + v, by grind⟩

/-- FROM EVERY STATE the drawing comes to every other. -/
theorem reach (h t : Int) (h1 : -9223372036854775808 ≤ h ∧ h ≤ 9223372036854775807) (t1 : -9223372036854775808 ≤ t ∧ t ≤ 9223372036854775807) : ∃ m, m < 18446744073709551616 ∧ iter lcg m h = t := by
  obtain ⟨m, hm, e⟩ := reach_mod 64 (Nat.le_refl _) h t
  refine ⟨m, by simpa using hm, ?_⟩
  have e2 : (iter lin m h - t) % 18446744073709551616 = 0 := by simpa using e
  have e1 := iter_cong m h h (by simp)
  have hr : -9223372036854775808 ≤ iter lcg m h ∧ iter lcg m h ≤ 9223372036854775807 := by
    cases m with
    | zero => exact h1
    | succ m => rw [iter_one]; exact lcg_range _
  omega

/-- a state behind which seven bytes in a row let a text grow -/
def good0 : Int := 684944971140478936

theorem good_run : ∀ j : Fin 7, (fxb (iter lcg (j.val + 1) good0) % 5 = 0 ∨ fxb (iter lcg (j.val + 1) good0) % 5 = 3 ∨ fxb (iter lcg (j.val + 1) good0) % 5 = 4) := by decide +kernel

/-- the code that is drawn from: bytes that lie below block B -/
def CodeIs (w : World) (B : Nat) (av : Option Addr) (n : Nat) : Prop :=
  n = 0 ∨ ∃ b off, av = some ⟨b, off, none⟩ ∧ b < B ∧ ∀ j, j < n → ∃ z : UInt8, w.cell? ⟨b, off + j, none⟩ = some (.int .u8 ((z.toNat : Nat) : Int))

theorem CodeIs.keep {w w' : World} {B : Nat} {av : Option Addr} {n : Nat} (h : CodeIs w B av n) (hk : ∀ k, k < B → w'.heap[k]? = w.heap[k]?) : CodeIs w' B av n := by
  rcases h with h | ⟨b, off, e, hb, hc⟩
  · exact .inl h
  · refine .inr ⟨b, off, e, hb, fun j hj => ?_⟩
    obtain ⟨z, hz⟩ := hc j hj
    exact ⟨z, (World.cell?_of_block (w := w) (a := ⟨b, off + j, none⟩) (hk b hb)).trans hz⟩

/-- the cursor in block g: it has read i of n bytes, its own state is h -/
structure Cur (w : World) (B g : Nat) (av : Option Addr) (n c i : Nat) (h : Int) : Prop where
  box : w.heap[g]? = some (.cells #[.slice av n c, .int .i64 (i : Int), .int .i64 h] 112 (0, 0))
  code : CodeIs w B av n
  le : i ≤ n
  small : n ≤ 1048576
  lo : -9223372036854775808 ≤ h
  hi : h ≤ 9223372036854775807
  base : B ≤ g

theorem box_set {w : World} {g : Nat} {cs : Array Value} {t : TypeId} (h : w.heap[g]? = some (.cells cs t (0, 0))) (k : Nat) (v : Value) : (w.setCell ⟨g, k, none⟩ v).heap[g]? = some (.cells (cs.setIfInBounds k v) t (0, 0)) :=
  heap_setCell_same w g k cs t v h

theorem box_cell {w : World} {g : Nat} {cs : Array Value} {t : TypeId} (h : w.heap[g]? = some (.cells cs t (0, 0))) (k : Nat) : w.cell? ⟨g, k, none⟩ = cs[k]? := cell_of_row w g k cs t (0, 0) h

theorem box_free {w : World} {g : Nat} {cs : Array Value} {t : TypeId} (h : w.heap[g]? = some (.cells cs t (0, 0))) (k : Nat) : w.frozen? ⟨g, k, none⟩ = false := frozen_of_row w g k cs t h

theorem box_grown (w : World) (g k : Nat) (v : Value) (hg : g < w.heap.size) : w.grownBy (w.setCell ⟨g, k, none⟩ v) (some g) :=
  ⟨rfl, rfl, rfl, by simp, fun j hj hne => Below.heap_setCell w ⟨g, k, none⟩ v j (fun e => hne (by rw [e]))⟩

theorem grown_drewN {a w : World} {row : Option Nat} (h : a.grownBy w row) (n : Nat) : a.grownBy (w.drewN n) row := ⟨h.os, h.tape, h.output, h.size, h.block⟩

set_option maxHeartbeats 400000 in
theorem byte_end (B g : Nat) (av : Option Addr) (n c : Nat) (h : Int) (w : World) (hC : Cur w B g av n c n h) :
    Calls Tryz.prog 66 #[.pointer (some ⟨g, 0, none⟩)] w fun e w' => e = .returned (.int .i64 (fxb (lcg h))) ∧ Cur w' B g av n c n (lcg h) ∧ w.grownBy w' (some g) := by
  have c0 := box_cell hC.box 0
  have c1 := box_cell hC.box 1
  have c2 := box_cell hC.box 2
  have f2 := box_free hC.box 2
  have hb := box_set hC.box 2 (.int .i64 (lcg h))
  simp at c0 c1 c2 hb
  have d0 := box_cell hb 0
  have d1 := box_cell hb 1
  have d2 := box_cell hb 2
  simp at d0 d1 d2
  have hl : wrap64 (wrap64 (h * 6364136223846793005) + 1442695040888963407) = lcg h := rfl
  have hx : bits .and .i64 (bits .xor .i64 (lcg h / 8589934592) (lcg h / 35184372088832)) 255 = fxb (lcg h) := rfl
  have HL := Lib.hid hl
  clear hl
  go_enter Tryz.func66, Tryz.ntmps66
  go_wp2
  rw [HL.out]
  have hgr := box_grown w g 2 (.int .i64 (lcg h)) (lt_of_block hC.box)
  generalize w.setCell ⟨g, 2, none⟩ (.int .i64 (lcg h)) = W1 at hb d0 d1 d2 hgr ⊢
  clear c0 c1 c2 f2 HL
  have hr := lcg_range h
  have hi1 := hC.small
  have hdec : decide ((n : Int) < (n : Int)) = false := by simp
  go_quiet (fail)
  go_wp2
  go_quiet (fail)
  go_wp2
  go_ret
  refine ⟨rfl, ⟨hb, ?_, Nat.le_refl _, hC.small, hr.1, hr.2, hC.base⟩, grown_drewN (grown_drewN hgr _) _⟩
  exact hC.code.keep fun k hk => (hgr.block k (Nat.lt_of_lt_of_le (Nat.lt_of_lt_of_le hk hC.base) (Nat.le_of_lt (lt_of_block hC.box))) (fun e => by have := hC.base; simp at e; omega))

theorem and255 (z : Int) : 0 ≤ bits .and .i64 z 255 ∧ bits .and .i64 z 255 ≤ 255 := by
  have e : bits .and .i64 z 255 = IntKind.i64.wrap ((BitVec.ofInt 64 z &&& BitVec.ofInt 64 255).toNat : Int) := rfl
  have h2 : (BitVec.ofInt 64 255).toNat = 255 := by decide
  have h1 : (BitVec.ofInt 64 z &&& BitVec.ofInt 64 255).toNat ≤ 255 := by
    rw [BitVec.toNat_and, h2]
    exact Nat.and_le_right
  rw [e, IntKind.wrap_i64]
  omega

set_option maxHeartbeats 400000 in
theorem byte_more (B g : Nat) (av : Option Addr) (n c i : Nat) (h : Int) (w : World) (hC : Cur w B g av n c i h) (hin : i < n) :
    Calls Tryz.prog 66 #[.pointer (some ⟨g, 0, none⟩)] w fun e w' => ∃ x : Int, e = .returned (.int .i64 x) ∧ 0 ≤ x ∧ x ≤ 255 ∧ Cur w' B g av n c (i + 1) (lcg h) ∧ w.grownBy w' (some g) := by
  have hglt := lt_of_block hC.box
  obtain ⟨b, off, rfl, hbB, hcode⟩ : ∃ b off, av = some ⟨b, off, none⟩ ∧ b < B ∧ ∀ j, j < n → ∃ z : UInt8, w.cell? ⟨b, off + j, none⟩ = some (.int .u8 ((z.toNat : Nat) : Int)) := by
    rcases hC.code with h0 | h0
    · omega
    · exact h0
  obtain ⟨z, hz⟩ := hcode i hin
  have hbg : b ≠ g := by have := hC.base; omega
  have c0 := box_cell hC.box 0
  have c1 := box_cell hC.box 1
  have c2 := box_cell hC.box 2
  have f2 := box_free hC.box 2
  have hb := box_set hC.box 2 (.int .i64 (lcg h))
  simp at c0 c1 c2 hb
  have d0 := box_cell hb 0
  have d1 := box_cell hb 1
  have d2 := box_cell hb 2
  have e1 := box_free hb 1
  simp at d0 d1 d2
  have hb2 := box_set hb 1 (.int .i64 ((i : Int) + 1))
  simp at hb2
  have hl : wrap64 (wrap64 (h * 6364136223846793005) + 1442695040888963407) = lcg h := rfl
  have hx : bits .and .i64 (bits .xor .i64 (lcg h / 8589934592) (lcg h / 35184372088832)) 255 = fxb (lcg h) := rfl
  have HL := Lib.hid hl
  clear hl
  have hgr := box_grown w g 2 (.int .i64 (lcg h)) hglt
  have hz1 : (w.setCell ⟨g, 2, none⟩ (.int .i64 (lcg h))).cell? ⟨b, off + i, none⟩ = some (.int .u8 ((z.toNat : Nat) : Int)) := by
    rw [World.cell?_setCell_other w _ _ _ (by intro e; injection e with e1 e2; exact hbg e1.symm)]
    exact hz
  go_enter Tryz.func66, Tryz.ntmps66
  go_wp2
  rw [HL.out]
  have hs1 : (w.setCell ⟨g, 2, none⟩ (.int .i64 (lcg h))).heap.size = w.heap.size := by simp
  generalize w.setCell ⟨g, 2, none⟩ (.int .i64 (lcg h)) = W1 at hb hb2 d0 d1 d2 e1 hgr hz1 hs1 ⊢
  clear c0 c1 c2 f2 HL
  have hr := lcg_range h
  have hfx : 0 ≤ fxb (lcg h) ∧ fxb (lcg h) ≤ 255 := and255 _
  have hi1 := hC.small
  have hdec : decide ((i : Int) < (n : Int)) = true := by simp; omega
  have hi0 : (0 : Int) ≤ (i : Int) := by omega
  have hi2 : (i : Int) < (n : Int) := by omega
  go_quiet (fail)
  go_wp2
  go_quiet (fail)
  go_wp2
  go_quiet (fail)
  go_wp2
  go_ret
  refine ⟨_, rfl, (and255 _).1, (and255 _).2, ⟨?_, ?_, by omega, hC.small, hr.1, hr.2, hC.base⟩, ?_⟩
  · exact hb2
  · refine hC.code.keep fun k hk => ?_
    have hkg : k < w.heap.size := Nat.lt_of_lt_of_le (Nat.lt_of_lt_of_le hk hC.base) (Nat.le_of_lt hglt)
    have hkn : k ≠ g := by have := hC.base; omega
    exact (Below.heap_setCell W1 ⟨g, 1, none⟩ _ k hkn).trans (hgr.block k hkg (fun e => hkn (Option.some.inj e)))
  · exact grown_trans (grown_drewN hgr _) (box_grown (W1.drewN _) g 1 (.int .i64 ((i : Int) + 1)) (by show g < W1.heap.size; rw [hs1]; exact hglt))

theorem byte_call (B g : Nat) (av : Option Addr) (n c i : Nat) (h : Int) (w : World) (hC : Cur w B g av n c i h) :
    Calls Tryz.prog 66 #[.pointer (some ⟨g, 0, none⟩)] w fun e w' => ∃ x : Int, e = .returned (.int .i64 x) ∧ 0 ≤ x ∧ x ≤ 255 ∧ Cur w' B g av n c (min n (i + 1)) (lcg h) ∧ w.grownBy w' (some g) ∧ (i = n → x = fxb (lcg h)) := by
  by_cases hin : i < n
  · refine (byte_more B g av n c i h w hC hin).mono fun e w' ⟨x, he, h0, h1, hC', hg⟩ => ⟨x, he, h0, h1, ?_, hg, fun e => by omega⟩
    rw [Nat.min_eq_right (by omega)]
    exact hC'
  · have hle := hC.le
    obtain rfl : i = n := by omega
    refine (byte_end B g av i c h w hC).mono fun e w' ⟨he, hC', hg⟩ => ⟨_, he, (and255 _).1, (and255 _).2, ?_, hg, fun _ => rfl⟩
    rw [Nat.min_eq_left (by omega)]
    exact hC'

set_option maxHeartbeats 400000 in
theorem below_call (B g : Nat) (av : Option Addr) (n c i : Nat) (h k : Int) (w : World) (hC : Cur w B g av n c i h) (k1 : 1 ≤ k) (k2 : k ≤ 256) :
    Calls Tryz.prog 37 #[.pointer (some ⟨g, 0, none⟩), .int .i64 k] w fun e w' => ∃ r : Int, e = .returned (.int .i64 r) ∧ 0 ≤ r ∧ r < k ∧ Cur w' B g av n c (min n (i + 1)) (lcg h) ∧ w.grownBy w' (some g) ∧ (i = n → r = fxb (lcg h) % k) := by
  go_enter Tryz.func37, Tryz.ntmps37
  go_wp2_with fail
  refine (byte_call B g av n c i h _ hC).mono ?_
  rintro e w1 ⟨x, rfl, x0, x1, hC1, hg1, hx⟩
  have HX := Lib.hid hx
  clear hx
  have hk0 : (k == 0) = false := by rw [beq_eq_false_iff_ne]; omega
  have hmod : x.tmod k = x % k := Int.tmod_eq_emod_of_nonneg x0
  go_wp2
  go_ret
  exact ⟨x % k, rfl, Int.emod_nonneg _ (by omega), Int.emod_lt_of_pos _ (by omega), hC1, hg1, fun e => by rw [HX.out e]⟩

set_option maxHeartbeats 400000 in
theorem below_big (B g : Nat) (av : Option Addr) (n c i : Nat) (h k : Int) (w : World) (hC : Cur w B g av n c i h) (k1 : 256 < k) (k2 : k ≤ 4294967296) :
    Calls Tryz.prog 37 #[.pointer (some ⟨g, 0, none⟩), .int .i64 k] w fun e w' => ∃ r : Int, e = .returned (.int .i64 r) ∧ 0 ≤ r ∧ r < k ∧ Cur w' B g av n c (min n (i + 4)) (lcg (lcg (lcg (lcg h)))) ∧ w.grownBy w' (some g) := by
  have hm : min n (min n (min n (min n (i + 1) + 1) + 1) + 1) = min n (i + 4) := by omega
  go_enter Tryz.func37, Tryz.ntmps37
  go_wp2_with fail
  refine (byte_call B g av n c i h _ hC).mono ?_
  rintro e w1 ⟨x, rfl, x0, x1, hC1, hg1, _⟩
  go_wp2_with fail
  refine (byte_call B g av n c _ _ _ hC1).mono ?_
  rintro e w2 ⟨y, rfl, y0, y1, hC2, hg2, _⟩
  go_wp2_with fail
  refine (byte_call B g av n c _ _ _ hC2).mono ?_
  rintro e w3 ⟨z, rfl, z0, z1, hC3, hg3, _⟩
  go_wp2_with fail
  refine (byte_call B g av n c _ _ _ hC3).mono ?_
  rintro e w4 ⟨q, rfl, q0, q1, hC4, hg4, _⟩
  rw [hm] at hC4
  have hgr := grown_trans (grown_trans (grown_trans hg1 hg2) hg3) hg4
  clear hC1 hC2 hC3 hg1 hg2 hg3 hg4 hm
  have hk0 : (k == 0) = false := by rw [beq_eq_false_iff_ne]; omega
  have hmod : (x * 16777216 + y * 65536 + z * 256 + q).tmod k = (x * 16777216 + y * 65536 + z * 256 + q) % k := Int.tmod_eq_emod_of_nonneg (by omega)
  go_wp2
  go_ret
  exact ⟨_, rfl, Int.emod_nonneg _ (by omega), Int.emod_lt_of_pos _ (by omega), hC4, hgr⟩

theorem and30_range (z : Int) : 0 ≤ bits .and .i64 z 1073741823 ∧ bits .and .i64 z 1073741823 ≤ 1073741823 := by
  have e : bits .and .i64 z 1073741823 = IntKind.i64.wrap ((BitVec.ofInt 64 z &&& BitVec.ofInt 64 1073741823).toNat : Int) := rfl
  have h2 : (BitVec.ofInt 64 1073741823).toNat = 1073741823 := by decide
  have h1 : (BitVec.ofInt 64 z &&& BitVec.ofInt 64 1073741823).toNat ≤ 1073741823 := by
    rw [BitVec.toNat_and, h2]
    exact Nat.and_le_right
  rw [e, IntKind.wrap_i64]
  omega

theorem cur_new (B : Nat) (av : Option Addr) (n c : Nat) (h : Int) (w : World) (hcode : CodeIs w B av n) (hn : n ≤ 1048576) (hB : B ≤ w.heap.size) (h1 : -9223372036854775808 ≤ h) (h2 : h ≤ 9223372036854775807) :
    Cur (w.alloc (.cells #[.slice av n c, .int .i64 0, .int .i64 h] 112)) B w.heap.size av n c 0 h :=
  ⟨heap_alloc_new w _, hcode.keep fun k hk => Below.heap_alloc w _ k (by omega), by omega, hn, h1, h2, hB⟩

set_option maxRecDepth 100000 in
set_option maxHeartbeats 400000 in
theorem new_call (B : Nat) (av : Option Addr) (n c : Nat) (w : World) (hcode : CodeIs w B av n) (hn : n ≤ 1048576) (hB : B ≤ w.heap.size) :
    Calls Tryz.prog 33 #[.slice av n c] w fun e w' => ∃ h, e = .returned (.pointer (some ⟨w.heap.size, 0, none⟩)) ∧ Cur w' B w.heap.size av n c 0 h ∧ Below w.heap.size w w' := by
  go_enter Tryz.func33, Tryz.ntmps33
  go_wp2
  go_loop [3, 4] (fun q i => ∃ (k : Nat) (h : Int), k ≤ n ∧ k ≤ 4000 ∧ i = .int .i64 k ∧ q = .int .i64 h ∧ 0 ≤ h ∧ h ≤ 1073741823) (fun _ i => n - (intOf i).toNat)
  case atStart => exact ⟨0, 716716 + (n : Int), by omega, by omega, rfl, rfl, by omega, by omega⟩
  case round =>
    obtain ⟨k, h, hk, hk4, rfl, rfl, h0, h1⟩ := hrel
    by_cases hlt : k < n
    · by_cases hlt4 : k < 4000
      · obtain ⟨b, off, rfl, hbB, hc⟩ : ∃ b off, av = some ⟨b, off, none⟩ ∧ b < B ∧ ∀ j, j < n → ∃ z : UInt8, w.cell? ⟨b, off + j, none⟩ = some (.int .u8 ((z.toNat : Nat) : Int)) := by
          rcases hcode with h0 | h0
          · omega
          · exact h0
        obtain ⟨z, hz⟩ := hc k hlt
        have hz256 : z.toNat < 256 := z.toNat_lt
        have hi0 : (0 : Int) ≤ (k : Int) := by omega
        have hi1 : (k : Int) < (n : Int) := by omega
        go_wp2
        have hr := and30_range (h * 131 + (z.toNat : Int) + 7)
        go_round
        case rel => exact ⟨k + 1, _, by omega, by omega, by go_num, rfl, hr.1, hr.2⟩
        case measure => simp [intOf]; omega
      · go_wp2
        go_ret
        exact ⟨rfl, ⟨h, cur_new B av n c h w hcode hn hB (by omega) (by omega)⟩, (Below.refl _ w).alloc (Nat.le_refl _) _⟩
    · go_wp2
      go_ret
      exact ⟨rfl, ⟨h, cur_new B av n c h w hcode hn hB (by omega) (by omega)⟩, (Below.refl _ w).alloc (Nat.le_refl _) _⟩

/-- the cursor, whatever it has read -/
def CurE (w : World) (B g : Nat) (av : Option Addr) (n c : Nat) : Prop := ∃ i h, Cur w B g av n c i h

theorem CurE.lt {w : World} {B g : Nat} {av : Option Addr} {n c : Nat} (h : CurE w B g av n c) : g < w.heap.size := by
  obtain ⟨_, _, h⟩ := h
  exact lt_of_block h.box

theorem Cur.below {w w' : World} {B g : Nat} {av : Option Addr} {n c i : Nat} {h : Int} (hC : Cur w B g av n c i h) (hb : Below w.heap.size w w') : Cur w' B g av n c i h :=
  ⟨(hb.block g (lt_of_block hC.box)).trans hC.box, hC.code.keep fun k hk => hb.block k (Nat.lt_of_lt_of_le hk (Nat.le_trans hC.base (Nat.le_of_lt (lt_of_block hC.box)))), hC.le, hC.small, hC.lo, hC.hi, hC.base⟩

theorem CurE.below {w w' : World} {B g : Nat} {av : Option Addr} {n c : Nat} (h : CurE w B g av n c) (hb : Below w.heap.size w w') : CurE w' B g av n c := by
  obtain ⟨i, x, h⟩ := h
  exact ⟨i, x, h.below hb⟩

/-- a row of another block is written -/
theorem Cur.other {w w' : World} {B g : Nat} {av : Option Addr} {n c i : Nat} {h : Int} (hC : Cur w B g av n c i h) {row : Option Nat} (hg : w.grownBy w' row) (hr : ∀ k, row = some k → g < k) : Cur w' B g av n c i h := by
  have hgl := lt_of_block hC.box
  refine ⟨(hg.block g hgl (fun e => by have := hr g e.symm; omega)).trans hC.box, hC.code.keep fun k hk => ?_, hC.le, hC.small, hC.lo, hC.hi, hC.base⟩
  have := hC.base
  exact hg.block k (by omega) (fun e => by have := hr k e.symm; omega)

theorem CurE.other {w w' : World} {B g : Nat} {av : Option Addr} {n c : Nat} (h : CurE w B g av n c) {row : Option Nat} (hg : w.grownBy w' row) (hr : ∀ k, row = some k → g < k) : CurE w' B g av n c := by
  obtain ⟨i, x, h⟩ := h
  exact ⟨i, x, h.other hg hr⟩

theorem below_any (B g : Nat) (av : Option Addr) (n c : Nat) (k : Int) (w : World) (hC : CurE w B g av n c) (k1 : 1 ≤ k) (k2 : k ≤ 4294967296) :
    Calls Tryz.prog 37 #[.pointer (some ⟨g, 0, none⟩), .int .i64 k] w fun e w' => ∃ r : Int, e = .returned (.int .i64 r) ∧ 0 ≤ r ∧ r < k ∧ CurE w' B g av n c ∧ w.grownBy w' (some g) := by
  obtain ⟨i, h, hC⟩ := hC
  by_cases hk : k ≤ 256
  · exact (below_call B g av n c i h k w hC k1 hk).mono fun e w' ⟨r, he, h0, h1, hC', hg, _⟩ => ⟨r, he, h0, h1, ⟨_, _, hC'⟩, hg⟩
  · exact (below_big B g av n c i h k w hC (by omega) k2).mono fun e w' ⟨r, he, h0, h1, hC', hg⟩ => ⟨r, he, h0, h1, ⟨_, _, hC'⟩, hg⟩

set_option maxHeartbeats 400000 in
theorem pick_call (B g base : Nat) (av : Option Addr) (n c : Nat) (v : Value) (l : List (List UInt8)) (w : World) (hC : CurE w B g av n c) (hown : w.ownsRow base 9 1 v l.length (strs l)) (hl1 : 1 ≤ l.length) (hl2 : l.length ≤ 4096) (hgb : g < base) :
    Calls Tryz.prog 39 #[.pointer (some ⟨g, 0, none⟩), v] w fun e w' => ∃ x, x ∈ l ∧ e = .returned (.string (txt x)) ∧ CurE w' B g av n c ∧ w.grownBy w' (some g) := by
  obtain ⟨a, cap, rfl⟩ := own_val hown
  obtain ⟨b, rfl, hb1, hb2⟩ := own_at hown (by omega)
  go_enter Tryz.func39, Tryz.ntmps39
  go_wp2_with fail
  refine (below_any B g av n c _ _ hC (by omega) (by omega)).mono ?_
  rintro e w1 ⟨r, rfl, r0, r1, hC1, hg1⟩
  have hown1 := hown.kept hg1 (.inr (fun e => by simp [Value.ownBlock] at e; omega))
  obtain ⟨k, rfl⟩ := Int.eq_ofNat_of_zero_le r0
  have hk : k < l.length := by omega
  have hc := own_cell hown1 k hk rfl
  have hmem : l[k] ∈ l := List.getElem_mem hk
  generalize l[k] = x at hc hmem
  go_wp2
  go_ret
  exact ⟨x, hmem, rfl, hC1, hg1⟩

/-- numbers as the cells of a row -/
def ints (l : List Int) : List Value := l.map fun x => .int .i64 x

set_option maxHeartbeats 400000 in
theorem pickint_call (B g base : Nat) (av : Option Addr) (n c : Nat) (v : Value) (l : List Int) (w : World) (hC : CurE w B g av n c) (hown : w.ownsRow base 3 1 v l.length (ints l)) (hl1 : 1 ≤ l.length) (hl2 : l.length ≤ 4096) (hgb : g < base) :
    Calls Tryz.prog 42 #[.pointer (some ⟨g, 0, none⟩), v] w fun e w' => ∃ x, x ∈ l ∧ e = .returned (.int .i64 x) ∧ CurE w' B g av n c ∧ w.grownBy w' (some g) := by
  obtain ⟨a, cap, rfl⟩ := own_val hown
  obtain ⟨b, rfl, hb1, hb2⟩ := own_at hown (by omega)
  go_enter Tryz.func42, Tryz.ntmps42
  go_wp2_with fail
  refine (below_any B g av n c _ _ hC (by omega) (by omega)).mono ?_
  rintro e w1 ⟨r, rfl, r0, r1, hC1, hg1⟩
  have hown1 := hown.kept hg1 (.inr (fun e => by simp [Value.ownBlock] at e; omega))
  obtain ⟨k, rfl⟩ := Int.eq_ofNat_of_zero_le r0
  have hk : k < l.length := by omega
  have hc : w1.cell? ⟨b, k, none⟩ = some (.int .i64 l[k]) := by
    rw [hown1.cellAt k (by omega)]
    simp [ints, hk]
  have hmem : l[k] ∈ l := List.getElem_mem hk
  generalize l[k] = x at hc hmem
  go_wp2
  go_ret
  exact ⟨x, hmem, rfl, hC1, hg1⟩

/-- how far a state is from where a text must grow -/
def Far (h : Int) (d : Nat) : Prop := (∃ m, d = m + 8 ∧ iter lcg m h = good0) ∨ (d = 0 ∧ ∃ j, j < 7 ∧ h = iter lcg j good0)

theorem far_some (h : Int) (h1 : -9223372036854775808 ≤ h) (h2 : h ≤ 9223372036854775807) : ∃ d, d < 36893488147419103232 ∧ Far h d := by
  obtain ⟨m, hm, e⟩ := reach h good0 ⟨h1, h2⟩ (by unfold good0; omega)
  exact ⟨m + 8, by omega, .inl ⟨m, rfl, e⟩⟩

theorem far_step (h : Int) (d s : Nat) (hF : Far h d) (hs1 : 1 ≤ s) (hs2 : s ≤ 6) (hr : fxb (lcg h) % 5 = 1 ∨ fxb (lcg h) % 5 = 2) : ∃ d', d' < d ∧ Far (iter lcg s h) d' := by
  rcases hF with ⟨m, rfl, e⟩ | ⟨rfl, j, hj, rfl⟩
  · by_cases hms : s ≤ m
    · refine ⟨m - s + 8, by omega, .inl ⟨m - s, rfl, ?_⟩⟩
      rw [← iter_add]
      have : s + (m - s) = m := by omega
      rw [this, e]
    · refine ⟨0, by omega, .inr ⟨rfl, s - m, by omega, ?_⟩⟩
      have : s = m + (s - m) := by omega
      rw [this, iter_add, e]
      congr 1
      omega
  · have := good_run ⟨j, hj⟩
    simp only at this
    rw [iter_one] at this
    omega

/-- what is still to come, at most -/
def meas (n len nb i d : Nat) : Nat := (n - len) * 1267650600228229401496703205376 + (nb - i) * 1180591620717411303424 + d

theorem meas_grow (n len len' nb i i' d d' : Nat) (h1 : len < n) (h2 : len < len') (hnb : nb ≤ 1048576) (hd : d' < 36893488147419103232) : meas n len' nb i' d' < meas n len nb i d := by
  unfold meas; omega

theorem meas_read (n len nb i i' d d' : Nat) (h1 : i < i') (h2 : i < nb) (hnb : nb ≤ 1048576) (hd : d' < 36893488147419103232) : meas n len nb i' d' < meas n len nb i d := by
  unfold meas; omega

theorem meas_near (n len nb i d d' : Nat) (hd : d' < d) : meas n len nb i d' < meas n len nb i d := by
  unfold meas; omega

/-- a round that may have left the text as it was -/
theorem meas_round (n len len' nb i s d : Nat) (h : Int) (hlen : len < n) (hnb : nb ≤ 1048576) (hi : i ≤ nb) (hF : Far h d) (hd : d < 36893488147419103232) (hs1 : 1 ≤ s) (hs2 : s ≤ 6)
    (h1 : -9223372036854775808 ≤ iter lcg s h) (h2 : iter lcg s h ≤ 9223372036854775807)
    (hor : len < len' ∨ (len' = len ∧ (i = nb → fxb (lcg h) % 5 = 1 ∨ fxb (lcg h) % 5 = 2))) :
    ∃ d', d' < 36893488147419103232 ∧ Far (iter lcg s h) d' ∧ meas n len' nb (min nb (i + s)) d' < meas n len nb i d := by
  rcases hor with hg | ⟨rfl, hr⟩
  · obtain ⟨d', hd', hF'⟩ := far_some _ h1 h2
    exact ⟨d', hd', hF', meas_grow _ _ _ _ _ _ _ _ hlen hg hnb hd'⟩
  · by_cases hin : i < nb
    · obtain ⟨d', hd', hF'⟩ := far_some _ h1 h2
      exact ⟨d', hd', hF', meas_read _ _ _ _ _ _ _ (by omega) hin hnb hd'⟩
    · obtain rfl : i = nb := by omega
      obtain ⟨d', hlt, hF'⟩ := far_step h d s hF hs1 hs2 (hr rfl)
      refine ⟨d', by omega, hF', ?_⟩
      rw [Nat.min_eq_left (by omega)]
      exact meas_near _ _ _ _ _ _ hlt

/-- what the drawing of a text keeps from round to round -/
def TextRel (B g base : Nat) (av : Option Addr) (nb c n : Nat) (w0 : World) (k : Nat) (v : Value) (wr : World) : Prop :=
  ∃ (l : List UInt8) (i : Nat) (h : Int) (d : Nat), k = meas n l.length nb i d ∧ d < 36893488147419103232 ∧ Far h d ∧ wr.ownsRow base 5 1 v l.length (cells8 l) ∧ Cur wr B g av nb c i h ∧ w0.grownBy wr (some g) ∧ l.length ≤ n + 20

theorem min_min (n a s : Nat) : min n (min n a + s) = min n (a + s) := by omega

theorem grown_over {a b c : World} {g : Nat} {row : Option Nat} (h1 : a.grownBy b (some g)) (h2 : b.grownBy c row) (h : ∀ k, row = some k → a.heap.size ≤ k) : a.grownBy c (some g) :=
  ⟨h2.os.trans h1.os, h2.tape.trans h1.tape, h2.output.trans h1.output, Nat.le_trans h1.size h2.size, fun k hk hne => (h2.block k (Nat.lt_of_lt_of_le hk h1.size) (fun e => by have := h k e.symm; omega)).trans (h1.block k hk hne)⟩

theorem u8_of (x : Int) (h0 : 0 ≤ x) (h1 : x ≤ 255) : ∃ b : UInt8, x = ((b.toNat : Nat) : Int) := ⟨UInt8.ofNat x.toNat, by simp; omega⟩

theorem push_rel {w0 w2 w3 : World} {B g : Nat} {av : Option Addr} {nb c i : Nat} {h : Int} {l : List UInt8} {b : UInt8} {v v' : Value} {x : Obj} {row : Option Nat}
    (hown : w2.ownsRow w0.heap.size 5 1 v l.length (cells8 l)) (hC : Cur w2 B g av nb c i h) (hgr : w0.grownBy w2 (some g)) (hg0 : g < w0.heap.size)
    (hgrow : (w2.alloc x).grownBy w3 row) (hrow : row = v.ownBlock) (hown3 : w3.ownsRow w0.heap.size 5 1 v' (l.length + 1) (cells8 l ++ [.int .u8 ((b.toNat : Nat) : Int)])) :
    w3.ownsRow w0.heap.size 5 1 v' (l ++ [b]).length (cells8 (l ++ [b])) ∧ Cur w3 B g av nb c i h ∧ w0.grownBy w3 (some g) := by
  subst hrow
  have hle := hgr.size
  refine ⟨?_, ?_, ?_⟩
  · rw [cells8_append, List.length_append]
    exact hown3
  · have h1 := hC.below ((Below.refl _ w2).alloc (Nat.le_refl _) x)
    exact h1.other hgrow (fun k e => by have := (hown.lt k e).1; omega)
  · exact grown_over (grown_over hgr (World.grownBy_alloc w2 x none) (fun k e => by simp at e)) hgrow (fun k e => (hown.lt k e).1)

theorem own_prefix {w : World} {base n : Nat} {a : Option Addr} {cap : Nat} {l : List UInt8} (h : w.ownsRow base 5 1 (.slice a l.length cap) l.length (cells8 l)) (hn : n ≤ l.length) : w.ownsRow base 5 1 (.slice a n cap) n (cells8 (l.take n)) := by
  refine ⟨by simp [cells8]; omega, ?_⟩
  rcases h.2 with ⟨h1, h2⟩ | ⟨g, cap1, cur, h1, hb, hg, hnc, hcm, hcs, ht⟩
  · injection h1 with e1 e2 e3
    subst e1 e3
    obtain rfl : n = 0 := by omega
    exact .inl ⟨rfl, rfl⟩
  · injection h1 with e1 e2 e3
    subst e1 e3
    refine .inr ⟨g, cap, cur, rfl, hb, hg, by omega, hcm, hcs, ?_⟩
    have : cells8 (l.take n) = (cells8 l).take n := by simp [cells8]
    rw [this, ← ht, List.take_take]
    congr 1
    omega

theorem below_some (B g : Nat) (av : Option Addr) (n c i : Nat) (h k : Int) (w : World) (hC : Cur w B g av n c i h) (k1 : 1 ≤ k) (k2 : k ≤ 4294967296) :
    Calls Tryz.prog 37 #[.pointer (some ⟨g, 0, none⟩), .int .i64 k] w fun e w' => ∃ (r : Int) (s : Nat), e = .returned (.int .i64 r) ∧ 0 ≤ r ∧ r < k ∧ 1 ≤ s ∧ s ≤ 4 ∧ Cur w' B g av n c (min n (i + s)) (iter lcg s h) ∧ w.grownBy w' (some g) := by
  by_cases hk : k ≤ 256
  · exact (below_call B g av n c i h k w hC k1 hk).mono fun e w' ⟨r, he, h0, h1, hC', hg, _⟩ => ⟨r, 1, he, h0, h1, by omega, by omega, hC', hg⟩
  · exact (below_big B g av n c i h k w hC (by omega) k2).mono fun e w' ⟨r, he, h0, h1, hC', hg⟩ => ⟨r, 4, he, h0, h1, by omega, by omega, hC', hg⟩

theorem iter_three (s : Nat) (h : Int) : lcg (iter lcg s (lcg h)) = iter lcg (s + 2) h := by
  have e1 : lcg (iter lcg s (lcg h)) = iter lcg 1 (iter lcg s (iter lcg 1 h)) := rfl
  rw [e1, ← iter_add, ← iter_add]
  congr 1
  omega

set_option maxRecDepth 100000 in
set_option maxHeartbeats 1600000 in
theorem text_call (B g : Nat) (av : Option Addr) (nb c n : Nat) (w : World) (hC : CurE w B g av nb c) (hn : n ≤ 1048576) :
    Calls Tryz.prog 36 #[.pointer (some ⟨g, 0, none⟩), .int .i64 n] w fun e w' => ∃ l : List UInt8, l.length = n ∧ e = .returned (.string (txt l)) ∧ CurE w' B g av nb c ∧ w.grownBy w' (some g) := by
  obtain ⟨i0, hi, hz0, hz1, hz2⟩ := info_parts Tryz.info5
  obtain ⟨ci, ch, hC⟩ := hC
  have hgw := lt_of_block hC.box
  obtain ⟨d0, hd0, hF0⟩ := far_some ch hC.lo hC.hi
  go_enter Tryz.func36, Tryz.ntmps36
  go_wp2
  go_loopg [5] (meas n 0 nb ci d0) (fun k v wr => TextRel B g w.heap.size av nb c n w k v wr)
  case atStart =>
    exact ⟨[], ci, ch, d0, rfl, hd0, hF0, World.ownsRow_made w #[] 0 (Nat.le_refl _) (by simp) rfl, hC.below ((Below.refl _ w).alloc (Nat.le_refl _) _), World.grownBy_alloc w _ _, by simp⟩
  case round =>
    obtain ⟨l, i, h, d, HK, hd, hF, hown, hCr, hgr, hll⟩ := hrel
    have HK2 := Lib.hid HK
    clear HK
    obtain ⟨a5, cap5, rfl⟩ := own_val hown
    have hgb : g < w.heap.size := hgw
    by_cases hlt : l.length < n
    · go_wp2_with fail
      refine (below_call B g av nb c i h 5 _ hCr (by omega) (by omega)).mono ?_
      rintro e w1 ⟨r, rfl, r0, r5, hC1, hg1, hr⟩
      have HR := Lib.hid hr
      clear hr
      have hown1 := hown.kept hg1 (.inr (fun e => by have := (hown.lt g e).1; omega))
      have hgr1 := grown_trans hgr hg1
      have hgl := lt_of_block hC1.box
      have hib : i ≤ nb := hCr.le
      have hnb : nb ≤ 1048576 := hCr.small
      by_cases hr0 : r = 0
      · subst hr0
        go_wp2_with fail
        refine (byte_call B g av nb c _ _ _ hC1).mono ?_
        rintro e w2 ⟨x, rfl, x0, x1, hC2, hg2, _⟩
        obtain ⟨b, rfl⟩ := u8_of x x0 x1
        have hb256 := b.toNat_lt
        have hown2 := hown1.kept hg2 (.inr (fun e => by have := (hown.lt g e).1; omega))
        have hgr2 := grown_trans hgr1 hg2
        have hgl2 := lt_of_block hC2.box
        have hs2 := hgr2.size
        rw [min_min] at hC2
        go_wp2_with (at_builtin; refine wpList_append_lies _ rfl _ _ _ rfl w.heap.size 5 i0 _ 1 1 Tryz.underlying34 hi hz0 hz1 hz2 rfl (by omega) _ l.length _ rfl (hown2.alloc _) ⟨w2.heap.size, 0, none⟩ 1 1 [.int .u8 ((b.toNat : Nat) : Int)] rfl rfl (World.news_of_block (cs := #[.int .u8 ((b.toNat : Nat) : Int)]) (t := 5) (fr := (0, 0)) (heap_alloc_new w2 _)) (by simp [Value.oneCell']) (by omega) (by unfold maxLen; omega) (by omega) (by simp; omega) (w2.heap.size + 1) (by simp) ?_; intro gg cap w3 hown3 hgrow hat hlt2)
        obtain ⟨hownz, hCz, hgz⟩ := push_rel hown2 hC2 hgr2 hgb hgrow rfl hown3
        obtain ⟨d', hd', hF', hmz⟩ := meas_round n l.length (l ++ [b]).length nb i 2 d h hlt hnb hib hF hd (by omega) (by omega) hCz.lo hCz.hi (.inl (by simp))
        have HZ := Lib.hid hmz
        clear hmz hgrow hat hown3
        go_roundg (meas n (l ++ [b]).length nb (min nb (i + 2)) d')
        case measure => rw [HK2.out]; exact HZ.out
        case rel =>
          have hlz : (l ++ [b]).length = l.length + 1 := by simp
          exact ⟨l ++ [b], _, _, d', rfl, hd', hF', hlz ▸ hownz, hCz, hgz, by omega⟩
      by_cases hr1 : r = 1
      · subst hr1
        go_wp2_with fail
        refine (below_call B g av nb c _ _ 9 _ hC1 (by omega) (by omega)).mono ?_
        rintro e w2 ⟨k, rfl, k0, k9, hC2, hg2, _⟩
        have hown2 := hown1.kept hg2 (.inr (fun e => by have := (hown.lt g e).1; omega))
        have hgr2 := grown_trans hgr1 hg2
        have hgl2 := lt_of_block hC2.box
        rw [min_min] at hC2
        go_wp2_with fail
        refine (below_call B g av nb c _ _ 4 _ hC2 (by omega) (by omega)).mono ?_
        rintro e w3 ⟨y, rfl, y0, y4, hC3, hg3, _⟩
        have hown3 := hown2.kept hg3 (.inr (fun e => by have := (hown.lt g e).1; omega))
        have hgr3 := grown_trans hgr2 hg3
        have hgl3 := lt_of_block hC3.box
        rw [min_min] at hC3
        obtain ⟨b, hb⟩ := u8_of (97 + y) (by omega) (by omega)
        have hb256 := b.toNat_lt
        have HB := Lib.hid hb
        clear hb
        obtain ⟨k, rfl⟩ := Int.eq_ofNat_of_zero_le k0
        go_wp2
        go_loopw [5, 8] (fun v q wq => ∃ (l2 : List UInt8) (j : Nat), q = .int .i64 j ∧ j ≤ k ∧ l2.length = l.length + j ∧ wq.ownsRow w.heap.size 5 1 v l2.length (cells8 l2) ∧ Cur wq B g av nb c (min nb (i + 1 + 1 + 1)) (lcg (lcg (lcg h))) ∧ w.grownBy wq (some g)) (fun _ q _ => k - (intOf q).toNat)
        case atStart => exact ⟨l, 0, rfl, by omega, by omega, hown3, hC3, hgr3⟩
        case round =>
          obtain ⟨l2, j, rfl, hj, hl2, hownj, hCj, hgj⟩ := hrel
          have hsj := hgj.size
          obtain ⟨aj, capj, rfl⟩ := own_val hownj
          have HL2 := Lib.hid hl2
          have hl2b : l2.length ≤ n + 20 := by omega
          clear hl2
          by_cases hjk : j < k
          · go_wp2_with (at_builtin; refine wpList_append_lies _ rfl _ _ _ rfl w.heap.size 5 i0 _ 1 1 Tryz.underlying34 hi hz0 hz1 hz2 rfl (by omega) _ l2.length _ rfl (hownj.alloc _) ⟨wr.heap.size, 0, none⟩ 1 1 [.int .u8 (97 + y)] rfl rfl (World.news_of_block (cs := #[.int .u8 (97 + y)]) (t := 5) (fr := (0, 0)) (heap_alloc_new wr _)) (by simp [Value.oneCell']) (by omega) (by unfold maxLen; omega) (by omega) (by simp; omega) (wr.heap.size + 1) (by simp) ?_; intro gg cap w4 hown4 hgrow hat hlt2)
            rw [HB.out] at hown4
            obtain ⟨hownz, hCz, hgz⟩ := push_rel hownj hCj hgj hgb hgrow rfl hown4
            clear hgrow hat hown4
            go_roundw
            case rel => exact ⟨l2 ++ [b], j + 1, by go_num, by omega, by have := HL2.out; simp; omega, (show (l2 ++ [b]).length = l2.length + 1 by simp) ▸ hownz, hCz, hgz⟩
            case measure => simp [intOf]; omega
          · go_wp2
            obtain ⟨d', hd', hF', hmz⟩ := meas_round n l.length l2.length nb i 3 d h hlt hnb hib hF hd (by omega) (by omega) hCj.lo hCj.hi (by
              have := HL2.out
              by_cases hk0 : k = 0
              · exact .inr ⟨by omega, fun e => .inl (HR.out e).symm⟩
              · exact .inl (by omega))
            have HZ := Lib.hid hmz
            clear hmz
            go_roundg (meas n l2.length nb (min nb (i + 3)) d')
            case measure => rw [HK2.out]; exact HZ.out
            case rel => exact ⟨l2, _, _, d', rfl, hd', hF', hownj, hCj, hgj, by omega⟩
      by_cases hr2 : r = 2
      · subst hr2
        by_cases hl0 : l.length = 0
        · go_wp2
          obtain ⟨d', hd', hF', hmz⟩ := meas_round n l.length l.length nb i 1 d h hlt hnb hib hF hd (by omega) (by omega) hC1.lo hC1.hi (.inr ⟨rfl, fun e => .inr (HR.out e).symm⟩)
          have HZ := Lib.hid hmz
          clear hmz
          go_roundg (meas n l.length nb (min nb (i + 1)) d')
          case measure => rw [HK2.out]; exact HZ.out
          case rel => exact ⟨l, _, _, d', rfl, hd', hF', (by have := hown1; rw [hl0] at this ⊢; exact this), hC1, hgr1, by omega⟩
        · go_wp2_with fail
          refine (below_some B g av nb c _ _ _ _ hC1 (by omega) (by omega)).mono ?_
          rintro e w2 ⟨f, s, rfl, f0, f9, hs1, hs4, hC2, hg2⟩
          have hown2 := hown1.kept hg2 (.inr (fun e => by have := (hown.lt g e).1; omega))
          have hgr2 := grown_trans hgr1 hg2
          have hgl2 := lt_of_block hC2.box
          rw [min_min] at hC2
          go_wp2_with fail
          refine (below_call B g av nb c _ _ 20 _ hC2 (by omega) (by omega)).mono ?_
          rintro e w3 ⟨k, rfl, k0, k9, hC3, hg3, _⟩
          have hown3 := hown2.kept hg3 (.inr (fun e => by have := (hown.lt g e).1; omega))
          have hgr3 := grown_trans hgr2 hg3
          have hgl3 := lt_of_block hC3.box
          rw [min_min] at hC3
          have eis : i + 1 + s + 1 = i + (s + 2) := by omega
          rw [eis, iter_three] at hC3
          clear eis
          obtain ⟨k, rfl⟩ := Int.eq_ofNat_of_zero_le k0
          obtain ⟨f, rfl⟩ := Int.eq_ofNat_of_zero_le f0
          go_wp2
          go_loopw [5, 11] (fun v q wq => ∃ (l2 : List UInt8) (j : Nat), q = .int .i64 j ∧ j ≤ k ∧ l2.length = l.length + j ∧ wq.ownsRow w.heap.size 5 1 v l2.length (cells8 l2) ∧ Cur wq B g av nb c (min nb (i + (s + 2))) (iter lcg (s + 2) h) ∧ w.grownBy wq (some g)) (fun _ q _ => k - (intOf q).toNat)
          case atStart => exact ⟨l, 0, rfl, by omega, by omega, hown3, hC3, hgr3⟩
          case round =>
            obtain ⟨l2, j, rfl, hj, hl2, hownj, hCj, hgj⟩ := hrel
            have hsj := hgj.size
            obtain ⟨aj, capj, rfl⟩ := own_val hownj
            have hfj : (f : Int) + (j : Int) < (l2.length : Int) := by omega
            have HL2 := Lib.hid hl2
            have hl2b : l2.length ≤ n + 20 := by omega
            have hfl : f + j < l2.length := by omega
            clear hl2
            by_cases hjk : j < k
            · obtain ⟨gj, rfl, hgj1, hgj2⟩ := own_at hownj (by omega)
              have hcj : wr.cell? ⟨gj, f + j, none⟩ = some (.int .u8 ((l2[f + j].toNat : Nat) : Int)) := by
                rw [hownj.cellAt (f + j) (by omega)]
                simp [cells8, hfl]
              generalize l2[f + j] = b at hcj
              have hb256 := b.toNat_lt
              have hfj0 : (0 : Int) ≤ (f : Int) + (j : Int) := by omega
              have hcast : ((f : Int) + (j : Int)).toNat = f + j := by omega
              go_wp2_with (at_builtin; refine wpList_append_lies _ rfl _ _ _ rfl w.heap.size 5 i0 _ 1 1 Tryz.underlying34 hi hz0 hz1 hz2 rfl (by omega) _ l2.length _ rfl (hownj.alloc _) ⟨wr.heap.size, 0, none⟩ 1 1 [.int .u8 ((b.toNat : Nat) : Int)] rfl rfl (World.news_of_block (cs := #[.int .u8 ((b.toNat : Nat) : Int)]) (t := 5) (fr := (0, 0)) (heap_alloc_new wr _)) (by simp [Value.oneCell']) (by omega) (by unfold maxLen; omega) (by omega) (by simp; omega) (wr.heap.size + 1) (by simp) ?_; intro gg cap w4 hown4 hgrow hat hlt2)
              obtain ⟨hownz, hCz, hgz⟩ := push_rel hownj hCj hgj hgb hgrow rfl hown4
              clear hgrow hat hown4
              go_roundw
              case rel => exact ⟨l2 ++ [b], j + 1, by go_num, by omega, by have := HL2.out; simp; omega, (show (l2 ++ [b]).length = l2.length + 1 by simp) ▸ hownz, hCz, hgz⟩
              case measure => simp [intOf]; omega
            · go_wp2
              obtain ⟨d', hd', hF', hmz⟩ := meas_round n l.length l2.length nb i (s + 2) d h hlt hnb hib hF hd (by omega) (by omega) hCj.lo hCj.hi (by
                have := HL2.out
                by_cases hk0 : k = 0
                · exact .inr ⟨by omega, fun e => .inr (HR.out e).symm⟩
                · exact .inl (by omega))
              have HZ := Lib.hid hmz
              clear hmz
              go_roundg (meas n l2.length nb (min nb (i + (s + 2))) d')
              case measure => rw [HK2.out]; exact HZ.out
              case rel => exact ⟨l2, _, _, d', rfl, hd', hF', hownj, hCj, hgj, by omega⟩
      · have hre : (r == 0) = false ∧ (r == 1) = false ∧ (r == 2) = false := by simp [hr0, hr1, hr2]
        obtain ⟨e0, e1, e2⟩ := hre
        go_wp2_with fail
        refine (below_call B g av nb c _ _ 26 _ hC1 (by omega) (by omega)).mono ?_
        rintro e w2 ⟨y, rfl, y0, y4, hC2, hg2, _⟩
        obtain ⟨b, hb⟩ := u8_of (97 + y) (by omega) (by omega)
        have hb256 := b.toNat_lt
        have HB := Lib.hid hb
        clear hb
        have hown2 := hown1.kept hg2 (.inr (fun e => by have := (hown.lt g e).1; omega))
        have hgr2 := grown_trans hgr1 hg2
        have hgl2 := lt_of_block hC2.box
        have hs2 := hgr2.size
        rw [min_min] at hC2
        go_wp2_with (at_builtin; refine wpList_append_lies _ rfl _ _ _ rfl w.heap.size 5 i0 _ 1 1 Tryz.underlying34 hi hz0 hz1 hz2 rfl (by omega) _ l.length _ rfl (hown2.alloc _) ⟨w2.heap.size, 0, none⟩ 1 1 [.int .u8 (97 + y)] rfl rfl (World.news_of_block (cs := #[.int .u8 (97 + y)]) (t := 5) (fr := (0, 0)) (heap_alloc_new w2 _)) (by simp [Value.oneCell']) (by omega) (by unfold maxLen; omega) (by omega) (by simp; omega) (w2.heap.size + 1) (by simp) ?_; intro gg cap w3 hown3 hgrow hat hlt2)
        rw [HB.out] at hown3
        obtain ⟨hownz, hCz, hgz⟩ := push_rel hown2 hC2 hgr2 hgb hgrow rfl hown3
        obtain ⟨d', hd', hF', hmz⟩ := meas_round n l.length (l ++ [b]).length nb i 2 d h hlt hnb hib hF hd (by omega) (by omega) hCz.lo hCz.hi (.inl (by simp))
        have HZ := Lib.hid hmz
        clear hmz hgrow hat hown3
        go_roundg (meas n (l ++ [b]).length nb (min nb (i + 2)) d')
        case measure => rw [HK2.out]; exact HZ.out
        case rel =>
          have hlz : (l ++ [b]).length = l.length + 1 := by simp
          exact ⟨l ++ [b], _, _, d', rfl, hd', hF', hlz ▸ hownz, hCz, hgz, by omega⟩
    · have hcap : n ≤ cap5 := by
        rcases hown.2 with ⟨h1, h2⟩ | ⟨g1, cap1, cur, h1, _, _, h2, _⟩
        · injection h1
          omega
        · injection h1
          omega
      have hp := own_prefix hown (show n ≤ l.length by omega)
      have hconv := bytes_back_own (P := Tryz.prog) wr 34 9 5 w.heap.size _ n (l.take n) (by simp; omega) rfl rfl rfl hp
      go_wp2_with (rw [hconv])
      go_ret
      exact ⟨l.take n, by simp; omega, rfl, ⟨_, _, hCr⟩, hgr⟩

/-- one of a list that is written down at the call -/
theorem pick_lit (B g : Nat) (av : Option Addr) (n c : Nat) (l : List (List UInt8)) (cs : Array Value) (w : World) (hcs : cs.toList = strs l) (hC : CurE w B g av n c) (hl1 : 1 ≤ l.length) (hl2 : l.length ≤ 4096) :
    Calls Tryz.prog 39 #[.pointer (some ⟨g, 0, none⟩), .slice (some ⟨w.heap.size, 0, none⟩) l.length l.length] (w.alloc (.cells cs 9)) fun e w' => ∃ x, x ∈ l ∧ e = .returned (.string (txt x)) ∧ CurE w' B g av n c ∧ w.grownBy w' (some g) := by
  have hsz : cs.size = l.length := by rw [← Array.length_toList, hcs, strs_len]
  have hown := World.ownsRow_lit (base := w.heap.size) (e := 9) (size := 1) w cs l.length (Nat.le_refl _) (by unfold maxLen; omega) (by omega)
  rw [hcs] at hown
  exact (pick_call B g w.heap.size av n c _ l _ (hC.below ((Below.refl _ w).alloc (Nat.le_refl _) _)) hown hl1 hl2 hC.lt).mono fun e w' ⟨x, hx, he, hC', hg⟩ => ⟨x, hx, he, hC', grown_trans (World.grownBy_alloc w _ _) hg⟩

theorem pickint_lit (B g : Nat) (av : Option Addr) (n c : Nat) (l : List Int) (cs : Array Value) (w : World) (hcs : cs.toList = ints l) (hC : CurE w B g av n c) (hl1 : 1 ≤ l.length) (hl2 : l.length ≤ 4096) :
    Calls Tryz.prog 42 #[.pointer (some ⟨g, 0, none⟩), .slice (some ⟨w.heap.size, 0, none⟩) l.length l.length] (w.alloc (.cells cs 3)) fun e w' => ∃ x, x ∈ l ∧ e = .returned (.int .i64 x) ∧ CurE w' B g av n c ∧ w.grownBy w' (some g) := by
  have hsz : cs.size = l.length := by rw [← Array.length_toList, hcs]; simp [ints]
  have hown := World.ownsRow_lit (base := w.heap.size) (e := 3) (size := 1) w cs l.length (Nat.le_refl _) (by unfold maxLen; omega) (by omega)
  rw [hcs] at hown
  exact (pickint_call B g w.heap.size av n c _ l _ (hC.below ((Below.refl _ w).alloc (Nat.le_refl _) _)) hown hl1 hl2 hC.lt).mono fun e w' ⟨x, hx, he, hC', hg⟩ => ⟨x, hx, he, hC', grown_trans (World.grownBy_alloc w _ _) hg⟩

theorem grown_below_new {w w1 w2 : World} (hb : Below w.heap.size w w1) (hg : w1.grownBy w2 (some w.heap.size)) : Below w.heap.size w w2 :=
  hb.grown hg hb.size (fun k e => by simp at e; omega)

theorem big_call (av : Option Addr) (n c : Nat) (w : World) : Calls Tryz.prog 11 #[.slice av n c] w fun e w' => e = .returned (.bool (decide (1048576 < n))) ∧ w' = w := by
  by_cases h : 1048576 < n
  · have hg : ((n : Int) > 1048576) := by omega
    go_enter Tryz.func11, Tryz.ntmps11
    go_wp2
    go_ret
    exact ⟨ret_bool (by simp; omega), rfl⟩
  · go_enter Tryz.func11, Tryz.ntmps11
    go_wp2
    go_ret
    exact ⟨ret_bool (by simp; omega), rfl⟩

/-- the code's bytes are the z's -/
def CodeZ (w : World) (av : Option Addr) (n : Nat) (z : Nat → UInt8) : Prop := ∀ b off, av = some ⟨b, off, none⟩ → ∀ j, j < n → w.cell? ⟨b, off + j, none⟩ = some (.int .u8 (((z j).toNat : Nat) : Int))

theorem CodeZ.keep {w w' : World} {B : Nat} {av : Option Addr} {n : Nat} {z : Nat → UInt8} (h : CodeZ w av n z) (hI : CodeIs w B av n) (hk : ∀ k, k < B → w'.heap[k]? = w.heap[k]?) : CodeZ w' av n z := by
  intro b off e j hj
  rcases hI with h0 | ⟨b', off', e', hb, _⟩
  · omega
  · rw [e'] at e
    injection e with e
    injection e with e1 e2
    subst e1
    exact (World.cell?_of_block (w := w) (a := ⟨b', off + j, none⟩) (hk b' hb)).trans (h b' off (by rw [e', e2]) j hj)

theorem CodeZ.grown {w w' : World} {B g : Nat} {av : Option Addr} {n c i : Nat} {h : Int} {z : Nat → UInt8} (hZ : CodeZ w av n z) (hC : Cur w B g av n c i h) {row : Option Nat} (hg : w.grownBy w' row) (hr : ∀ k, row = some k → g ≤ k) : CodeZ w' av n z := by
  refine hZ.keep hC.code fun k hk => ?_
  have hgl := lt_of_block hC.box
  have := hC.base
  exact hg.block k (by omega) (fun e => by have := hr k e.symm; omega)

theorem CodeIs.below {w w' : World} {B : Nat} {av : Option Addr} {n : Nat} (h : CodeIs w B av n) (hb : Below B w w') : CodeIs w' B av n := h.keep fun k hk => hb.block k hk

theorem CodeZ.below {w w' : World} {B : Nat} {av : Option Addr} {n : Nat} {z : Nat → UInt8} (h : CodeZ w av n z) (hI : CodeIs w B av n) (hb : Below B w w') : CodeZ w' av n z := h.keep hI fun k hk => hb.block k hk

/-- a row of integers that came in -/
def IsRow (k : IntKind) (w : World) (a : Option Addr) (len cap : Nat) (zs : List Int) : Prop :=
  (a = none ∧ len = 0 ∧ cap = 0 ∧ zs = []) ∨
  ∃ x, a = some x ∧ len ≤ cap ∧ cap ≤ maxLen ∧ zs.length = cap ∧ (∀ i, i < zs.length → w.cell? (x.add i) = some (.int k (zs.getD i 0))) ∧ ∀ n ∈ zs, (Lit.int k n).wf = true

theorem code_of_row {w : World} {a : Option Addr} {len cap : Nat} {zs : List Int} (h : IsRow .u8 w a len cap zs) : ∃ z : Nat → UInt8, CodeZ w a len z ∧ CodeIs w w.heap.size a len := by
  rcases h with ⟨rfl, rfl, rfl, rfl⟩ | ⟨x, rfl, hl, hm, hz, hcell, hwf⟩
  · exact ⟨fun _ => 0, fun b off e => by simp at e, .inl rfl⟩
  · by_cases h0 : len = 0
    · subst h0
      exact ⟨fun _ => 0, fun b off e j hj => by omega, .inl rfl⟩
    · obtain ⟨b, off, spot⟩ := x
      have hc0 := hcell 0 (by omega)
      have hspot : spot = none := by simpa [Addr.add] using World.cell?_spot hc0
      subst hspot
      have hadd : ∀ j, (⟨b, off, none⟩ : Addr).add j = ⟨b, off + j, none⟩ := fun j => by unfold Addr.add; split <;> simp_all
      have hb : b < w.heap.size := World.block_lt_of_cell? w _ hc0
      have hval : ∀ j, j < len → w.cell? ⟨b, off + j, none⟩ = some (.int .u8 (((UInt8.ofNat (zs.getD j 0).toNat).toNat : Nat) : Int)) := by
        intro j hj
        have h1 := hcell j (by omega)
        rw [hadd] at h1
        rw [h1]
        have h2 := hwf (zs.getD j 0) (by rw [List.getD_eq_getElem?_getD, List.getElem?_eq_getElem (by omega)]; exact List.getElem_mem _)
        generalize zs.getD j 0 = y at h2 ⊢
        have h2 : 0 ≤ y ∧ y ≤ 255 := by
          have e1 : IntKind.u8.min = 0 := by decide
          have e2 : IntKind.u8.max = 255 := by decide
          rw [Lit.wf, e1, e2, Bool.and_eq_true, decide_eq_true_eq, decide_eq_true_eq] at h2
          exact h2
        have h3 : ((UInt8.ofNat y.toNat).toNat : Int) = y := by
          rw [UInt8.toNat_ofNat']
          omega
        rw [h3]
      refine ⟨fun j => UInt8.ofNat (zs.getD j 0).toNat, ?_, .inr ⟨b, off, rfl, hb, fun j hj => ⟨_, hval j hj⟩⟩⟩
      intro b' off' e j hj
      injection e with e
      injection e with e1 e2
      subst e1 e2
      exact hval j hj

end Go.Proofs.YtonpalaopnfffaaGreatDoor
