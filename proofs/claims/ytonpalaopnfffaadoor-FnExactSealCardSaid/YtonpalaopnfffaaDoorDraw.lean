/- CONTRACTS of what draws from the bytes that come in: the cursor, its bytes, numbers, texts and lists. -/
import Derived.Test.YtonpalaopnfffaaDoorWords
import Derived.Deep.LoopGhost

namespace Go.Proofs.YtonpalaopnfffaaDoor
set_option linter.unusedVariables false
set_option maxRecDepth 4000
open Go.ChangeShapes Go.WideShapes Go.ChangeAt Go.RowKit
open Go.ChangeMaps (open_string shut_string)

/-- the drawing's own step -/
def lcg (h : Int) : Int := wrap64 (wrap64 (h * 6364136223846793005) + 1442695040888963407)

/-- the byte that a state gives by itself -/
def fxb (h : Int) : Int := bits .and .i64 (bits .xor .i64 (h / 8589934592) (h / 35184372088832)) 255

def iter (f : Int → Int) : Nat → Int → Int
  | 0, h => h
  | n + 1, h => iter f n (f h)

theorem iter_add (f : Int → Int) (a b : Nat) (h : Int) : iter f (a + b) h = iter f b (iter f a h) := by
  induction a generalizing h with
  | zero => simp [iter]
  | succ a ih => rw [Nat.succ_add]; exact ih (f h)

theorem iter_one (f : Int → Int) (a : Nat) (h : Int) : iter f (a + 1) h = f (iter f a h) := iter_add f a 1 h

def lin (h : Int) : Int := h * 6364136223846793005 + 1442695040888963407

theorem wrap64_mod (z : Int) : (wrap64 z - z) % 18446744073709551616 = 0 := by unfold wrap64; omega

theorem wrap64_range (z : Int) : -9223372036854775808 ≤ wrap64 z ∧ wrap64 z ≤ 9223372036854775807 := by unfold wrap64; omega

theorem lcg_range (h : Int) : -9223372036854775808 ≤ lcg h ∧ lcg h ≤ 9223372036854775807 := wrap64_range _

theorem lcg_lin (h : Int) : (lcg h - lin h) % 18446744073709551616 = 0 := by
  unfold lcg lin
  have h1 := wrap64_mod (h * 6364136223846793005)
  have h2 := wrap64_mod (wrap64 (h * 6364136223846793005) + 1442695040888963407)
  omega

theorem lin_cong (a b : Int) (h : (a - b) % 18446744073709551616 = 0) : (lin a - lin b) % 18446744073709551616 = 0 := by
  unfold lin
  omega

theorem iter_cong (n : Nat) : ∀ (a b : Int), (a - b) % 18446744073709551616 = 0 → (iter lcg n a - iter lin n b) % 18446744073709551616 = 0 := by
  induction n with
  | zero => intro a b h; exact h
  | succ n ih =>
    intro a b h
    refine ih _ _ ?_
    have h1 := lcg_lin a
    have h2 := lin_cong a b h
    omega

theorem lin_pow (k : Nat) : ∃ u v : Int, ∀ h, iter lin (2 ^ k) h = (1 + 4 * 2 ^ k * u) * h + 2 ^ k * (1 + 2 * v) := by
  induction k with
  | zero => exact ⟨1591034055961698251, 721347520444481703, fun h => by simp [iter, lin]; omega⟩
  | succ k ih =>
    obtain ⟨u, v, e⟩ := ih
    refine ⟨u + 2 * 2 ^ k * u * u, v + 2 ^ k * u + 2 * v * 2 ^ k * u, fun h => ?_⟩
    have e2 : 2 ^ (k + 1) = 2 ^ k + 2 ^ k := by rw [Nat.pow_succ]; omega
    rw [e2, iter_add, e, e]
    have e3 : (2 : Int) ^ (k + 1) = 2 * 2 ^ k := by rw [Int.pow_succ]; exact Int.mul_comm _ _
    rw [e3]
    generalize (2 : Int) ^ k = p
    grind

theorem reach_mod (k : Nat) (hk : k ≤ 64) : ∀ h t : Int, ∃ m, m < 2 ^ k ∧ (iter lin m h - t) % 2 ^ k = 0 := by
  induction k with
  | zero => intro h t; exact ⟨0, by simp, by simp [Int.emod_one]⟩
  | succ k ih =>
    intro h t
    obtain ⟨m, hm, e⟩ := ih (by omega) h t
    have e3 : (2 : Int) ^ (k + 1) = 2 * 2 ^ k := by rw [Int.pow_succ]; exact Int.mul_comm _ _
    have p2 : 2 ^ (k + 1) = 2 * 2 ^ k := by rw [Nat.pow_succ]; omega
    have hp : (0 : Int) < 2 ^ k := Int.pow_pos (by omega)
    obtain ⟨q, hq⟩ := Int.dvd_of_emod_eq_zero e
    by_cases hev : q % 2 = 0
    · refine ⟨m, by omega, ?_⟩
      obtain ⟨r, hr⟩ := Int.dvd_of_emod_eq_zero hev
      rw [hq, e3, hr]
      apply Int.emod_eq_zero_of_dvd
      exact ⟨r, by grind⟩
    · obtain ⟨u, v, g⟩ := lin_pow k
      refine ⟨m + 2 ^ k, by omega, ?_⟩
      rw [iter_add, g, e3]
      have ho : q = 2 * (q / 2) + 1 := by omega
      generalize q / 2 = r at ho
      subst ho
      have hi : iter lin m h = t + 2 ^ k * (2 * r + 1) := by omega
      rw [hi]
      generalize (2 : Int) ^ k = p
      apply Int.emod_eq_zero_of_dvd
      exact ⟨2 * u * (t + p * (2 * r + 1)) + r + 1 + v, by grind⟩

/-- FROM EVERY STATE the drawing comes to every other. -/
theorem reach (h t : Int) (h1 : -9223372036854775808 ≤ h ∧ h ≤ 9223372036854775807) (t1 : -9223372036854775808 ≤ t ∧ t ≤ 9223372036854775807) : ∃ m, m < 18446744073709551616 ∧ iter lcg m h = t := by
  obtain ⟨m, hm, e⟩ := reach_mod 64 (Nat.le_refl _) h t
  refine ⟨m, by simpa using hm, ?_⟩
  have e2 : (iter lin m h - t) % 18446744073709551616 = 0 := by simpa using e
  have e1 := iter_cong m h h (by simp)
  have hr : -9223372036854775808 ≤ iter lcg m h ∧ iter lcg m h ≤ 9223372036854775807 := by
    cases m with
    | zero => exact h1
    | succ m => rw [iter_one]; exact lcg_range _
  omega

/-- a state behind which seven bytes in a row let a text grow -/
def good0 : Int := 684944971140478936

theorem good_run : ∀ j : Fin 7, (fxb (iter lcg (j.val + 1) good0) % 5 = 0 ∨ fxb (iter lcg (j.val + 1) good0) % 5 = 3 ∨ fxb (iter lcg (j.val + 1) good0) % 5 = 4) := by decide +kernel

/-- the code that is drawn from: bytes that lie below block B -/
def CodeIs (w : World) (B : Nat) (av : Option Addr) (n : Nat) : Prop :=
  n = 0 ∨ ∃ b off, av = some ⟨b, off, none⟩ ∧ b < B ∧ ∀ j, j < n → ∃ z : UInt8, w.cell? ⟨b, off + j, none⟩ = some (.int .u8 ((z.toNat : Nat) : Int))

theorem CodeIs.keep {w w' : World} {B : Nat} {av : Option Addr} {n : Nat} (h : CodeIs w B av n) (hk : ∀ k, k < B → w'.heap[k]? = w.heap[k]?) : CodeIs w' B av n := by
  rcases h with h | ⟨b, off, e, hb, hc⟩
  · exact .inl h
  · refine .inr ⟨b, off, e, hb, fun j hj => ?_⟩
    obtain ⟨z, hz⟩ := hc j hj
    exact ⟨z, (World.cell?_of_block (w := w) (a := ⟨b, off + j, none⟩) (hk b hb)).trans hz⟩

theorem box_set {w : World} {g : Nat} {cs : Array Value} {t : TypeId} (h : w.heap[g]? = some (.cells cs t (0, 0))) (k : Nat) (v : Value) : (w.setCell ⟨g, k, none⟩ v).heap[g]? = some (.cells (cs.setIfInBounds k v) t (0, 0)) :=
  heap_setCell_same w g k cs t v h

theorem box_cell {w : World} {g : Nat} {cs : Array Value} {t : TypeId} (h : w.heap[g]? = some (.cells cs t (0, 0))) (k : Nat) : w.cell? ⟨g, k, none⟩ = cs[k]? := cell_of_row w g k cs t (0, 0) h

theorem box_free {w : World} {g : Nat} {cs : Array Value} {t : TypeId} (h : w.heap[g]? = some (.cells cs t (0, 0))) (k : Nat) : w.frozen? ⟨g, k, none⟩ = false := frozen_of_row w g k cs t h

theorem box_grown (w : World) (g k : Nat) (v : Value) (hg : g < w.heap.size) : w.grownBy (w.setCell ⟨g, k, none⟩ v) (some g) :=
  ⟨rfl, rfl, rfl, by simp, fun j hj hne => Below.heap_setCell w ⟨g, k, none⟩ v j (fun e => hne (by rw [e]))⟩

theorem grown_drewN {a w : World} {row : Option Nat} (h : a.grownBy w row) (n : Nat) : a.grownBy (w.drewN n) row := ⟨h.os, h.tape, h.output, h.size, h.block⟩

theorem and255 (z : Int) : 0 ≤ bits .and .i64 z 255 ∧ bits .and .i64 z 255 ≤ 255 := by
  have e : bits .and .i64 z 255 = IntKind.i64.wrap ((BitVec.ofInt 64 z &&& BitVec.ofInt 64 255).toNat : Int) := rfl
  have h2 : (BitVec.ofInt 64 255).toNat = 255 := by decide
  have h1 : (BitVec.ofInt 64 z &&& BitVec.ofInt 64 255).toNat ≤ 255 := by
    rw [BitVec.toNat_and, h2]
    exact Nat.and_le_right
  rw [e, IntKind.wrap_i64]
  omega

theorem and30_range (z : Int) : 0 ≤ bits .and .i64 z 1073741823 ∧ bits .and .i64 z 1073741823 ≤ 1073741823 := by
  have e : bits .and .i64 z 1073741823 = IntKind.i64.wrap ((BitVec.ofInt 64 z &&& BitVec.ofInt 64 1073741823).toNat : Int) := rfl
  have h2 : (BitVec.ofInt 64 1073741823).toNat = 1073741823 := by decide
  have h1 : (BitVec.ofInt 64 z &&& BitVec.ofInt 64 1073741823).toNat ≤ 1073741823 := by
    rw [BitVec.toNat_and, h2]
    exact Nat.and_le_right
  rw [e, IntKind.wrap_i64]
  omega

/-- numbers as the cells of a row -/
def ints (l : List Int) : List Value := l.map fun x => .int .i64 x

/-- how far a state is from where a text must grow -/
def Far (h : Int) (d : Nat) : Prop := (∃ m, d = m + 8 ∧ iter lcg m h = good0) ∨ (d = 0 ∧ ∃ j, j < 7 ∧ h = iter lcg j good0)

theorem far_some (h : Int) (h1 : -9223372036854775808 ≤ h) (h2 : h ≤ 9223372036854775807) : ∃ d, d < 36893488147419103232 ∧ Far h d := by
  obtain ⟨m, hm, e⟩ := reach h good0 ⟨h1, h2⟩ (by unfold good0; omega)
  exact ⟨m + 8, by omega, .inl ⟨m, rfl, e⟩⟩

theorem far_step (h : Int) (d s : Nat) (hF : Far h d) (hs1 : 1 ≤ s) (hs2 : s ≤ 6) (hr : fxb (lcg h) % 5 = 1 ∨ fxb (lcg h) % 5 = 2) : ∃ d', d' < d ∧ Far (iter lcg s h) d' := by
  rcases hF with ⟨m, rfl, e⟩ | ⟨rfl, j, hj, rfl⟩
  · by_cases hms : s ≤ m
    · refine ⟨m - s + 8, by omega, .inl ⟨m - s, rfl, ?_⟩⟩
      rw [← iter_add]
      have : s + (m - s) = m := by omega
      rw [this, e]
    · refine ⟨0, by omega, .inr ⟨rfl, s - m, by omega, ?_⟩⟩
      have : s = m + (s - m) := by omega
      rw [this, iter_add, e]
      congr 1
      omega
  · have := good_run ⟨j, hj⟩
    simp only at this
    rw [iter_one] at this
    omega

/-- what is still to come, at most -/
def meas (n len nb i d : Nat) : Nat := (n - len) * 1267650600228229401496703205376 + (nb - i) * 1180591620717411303424 + d

theorem meas_grow (n len len' nb i i' d d' : Nat) (h1 : len < n) (h2 : len < len') (hnb : nb ≤ 1048576) (hd : d' < 36893488147419103232) : meas n len' nb i' d' < meas n len nb i d := by
  unfold meas; omega

theorem meas_read (n len nb i i' d d' : Nat) (h1 : i < i') (h2 : i < nb) (hnb : nb ≤ 1048576) (hd : d' < 36893488147419103232) : meas n len nb i' d' < meas n len nb i d := by
  unfold meas; omega

theorem meas_near (n len nb i d d' : Nat) (hd : d' < d) : meas n len nb i d' < meas n len nb i d := by
  unfold meas; omega

/-- a round that may have left the text as it was -/
theorem meas_round (n len len' nb i s d : Nat) (h : Int) (hlen : len < n) (hnb : nb ≤ 1048576) (hi : i ≤ nb) (hF : Far h d) (hd : d < 36893488147419103232) (hs1 : 1 ≤ s) (hs2 : s ≤ 6)
    (h1 : -9223372036854775808 ≤ iter lcg s h) (h2 : iter lcg s h ≤ 9223372036854775807)
    (hor : len < len' ∨ (len' = len ∧ (i = nb → fxb (lcg h) % 5 = 1 ∨ fxb (lcg h) % 5 = 2))) :
    ∃ d', d' < 36893488147419103232 ∧ Far (iter lcg s h) d' ∧ meas n len' nb (min nb (i + s)) d' < meas n len nb i d := by
  rcases hor with hg | ⟨rfl, hr⟩
  · obtain ⟨d', hd', hF'⟩ := far_some _ h1 h2
    exact ⟨d', hd', hF', meas_grow _ _ _ _ _ _ _ _ hlen hg hnb hd'⟩
  · by_cases hin : i < nb
    · obtain ⟨d', hd', hF'⟩ := far_some _ h1 h2
      exact ⟨d', hd', hF', meas_read _ _ _ _ _ _ _ (by omega) hin hnb hd'⟩
    · obtain rfl : i = nb := by omega
      obtain ⟨d', hlt, hF'⟩ := far_step h d s hF hs1 hs2 (hr rfl)
      refine ⟨d', by omega, hF', ?_⟩
      rw [Nat.min_eq_left (by omega)]
      exact meas_near _ _ _ _ _ _ hlt

theorem min_min (n a s : Nat) : min n (min n a + s) = min n (a + s) := by omega

theorem grown_over {a b c : World} {g : Nat} {row : Option Nat} (h1 : a.grownBy b (some g)) (h2 : b.grownBy c row) (h : ∀ k, row = some k → a.heap.size ≤ k) : a.grownBy c (some g) :=
  ⟨h2.os.trans h1.os, h2.tape.trans h1.tape, h2.output.trans h1.output, Nat.le_trans h1.size h2.size, fun k hk hne => (h2.block k (Nat.lt_of_lt_of_le hk h1.size) (fun e => by have := h k e.symm; omega)).trans (h1.block k hk hne)⟩

theorem u8_of (x : Int) (h0 : 0 ≤ x) (h1 : x ≤ 255) : ∃ b : UInt8, x = ((b.toNat : Nat) : Int) := ⟨UInt8.ofNat x.toNat, by simp; omega⟩

theorem own_prefix {w : World} {base n : Nat} {a : Option Addr} {cap : Nat} {l : List UInt8} (h : w.ownsRow base 5 1 (.slice a l.length cap) l.length (cells8 l)) (hn : n ≤ l.length) : w.ownsRow base 5 1 (.slice a n cap) n (cells8 (l.take n)) := by
  refine ⟨by simp [cells8]; omega, ?_⟩
  rcases h.2 with ⟨h1, h2⟩ | ⟨g, cap1, cur, h1, hb, hg, hnc, hcm, hcs, ht⟩
  · injection h1 with e1 e2 e3
    subst e1 e3
    obtain rfl : n = 0 := by omega
    exact .inl ⟨rfl, rfl⟩
  · injection h1 with e1 e2 e3
    subst e1 e3
    refine .inr ⟨g, cap, cur, rfl, hb, hg, by omega, hcm, hcs, ?_⟩
    have : cells8 (l.take n) = (cells8 l).take n := by simp [cells8]
    rw [this, ← ht, List.take_take]
    congr 1
    omega

theorem iter_three (s : Nat) (h : Int) : lcg (iter lcg s (lcg h)) = iter lcg (s + 2) h := by
  have e1 : lcg (iter lcg s (lcg h)) = iter lcg 1 (iter lcg s (iter lcg 1 h)) := rfl
  rw [e1, ← iter_add, ← iter_add]
  congr 1
  omega

theorem grown_below_new {w w1 w2 : World} (hb : Below w.heap.size w w1) (hg : w1.grownBy w2 (some w.heap.size)) : Below w.heap.size w w2 :=
  hb.grown hg hb.size (fun k e => by simp at e; omega)

/-- the code's bytes are the z's -/
def CodeZ (w : World) (av : Option Addr) (n : Nat) (z : Nat → UInt8) : Prop := ∀ b off, av = some ⟨b, off, none⟩ → ∀ j, j < n → w.cell? ⟨b, off + j, none⟩ = some (.int .u8 (((z j).toNat : Nat) : Int))

theorem CodeZ.keep {w w' : World} {B : Nat} {av : Option Addr} {n : Nat} {z : Nat → UInt8} (h : CodeZ w av n z) (hI : CodeIs w B av n) (hk : ∀ k, k < B → w'.heap[k]? = w.heap[k]?) : CodeZ w' av n z := by
  intro b off e j hj
  rcases hI with h0 | ⟨b', off', e', hb, _⟩
  · omega
  · rw [e'] at e
    injection e with e
    injection e with e1 e2
    subst e1
    exact (World.cell?_of_block (w := w) (a := ⟨b', off + j, none⟩) (hk b' hb)).trans (h b' off (by rw [e', e2]) j hj)

theorem CodeIs.below {w w' : World} {B : Nat} {av : Option Addr} {n : Nat} (h : CodeIs w B av n) (hb : Below B w w') : CodeIs w' B av n := h.keep fun k hk => hb.block k hk

theorem CodeZ.below {w w' : World} {B : Nat} {av : Option Addr} {n : Nat} {z : Nat → UInt8} (h : CodeZ w av n z) (hI : CodeIs w B av n) (hb : Below B w w') : CodeZ w' av n z := h.keep hI fun k hk => hb.block k hk

/-- a row of integers that came in -/
def IsRow (k : IntKind) (w : World) (a : Option Addr) (len cap : Nat) (zs : List Int) : Prop :=
  (a = none ∧ len = 0 ∧ cap = 0 ∧ zs = []) ∨
  ∃ x, a = some x ∧ len ≤ cap ∧ cap ≤ maxLen ∧ zs.length = cap ∧ (∀ i, i < zs.length → w.cell? (x.add i) = some (.int k (zs.getD i 0))) ∧ ∀ n ∈ zs, (Lit.int k n).wf = true

theorem code_of_row {w : World} {a : Option Addr} {len cap : Nat} {zs : List Int} (h : IsRow .u8 w a len cap zs) : ∃ z : Nat → UInt8, CodeZ w a len z ∧ CodeIs w w.heap.size a len := by
  rcases h with ⟨rfl, rfl, rfl, rfl⟩ | ⟨x, rfl, hl, hm, hz, hcell, hwf⟩
  · exact ⟨fun _ => 0, fun b off e => by simp at e, .inl rfl⟩
  · by_cases h0 : len = 0
    · subst h0
      exact ⟨fun _ => 0, fun b off e j hj => by omega, .inl rfl⟩
    · obtain ⟨b, off, spot⟩ := x
      have hc0 := hcell 0 (by omega)
      have hspot : spot = none := by simpa [Addr.add] using World.cell?_spot hc0
      subst hspot
      have hadd : ∀ j, (⟨b, off, none⟩ : Addr).add j = ⟨b, off + j, none⟩ := fun j => by unfold Addr.add; split <;> simp_all
      have hb : b < w.heap.size := World.block_lt_of_cell? w _ hc0
      have hval : ∀ j, j < len → w.cell? ⟨b, off + j, none⟩ = some (.int .u8 (((UInt8.ofNat (zs.getD j 0).toNat).toNat : Nat) : Int)) := by
        intro j hj
        have h1 := hcell j (by omega)
        rw [hadd] at h1
        rw [h1]
        have h2 := hwf (zs.getD j 0) (by rw [List.getD_eq_getElem?_getD, List.getElem?_eq_getElem (by omega)]; exact List.getElem_mem _)
        generalize zs.getD j 0 = y at h2 ⊢
        have h2 : 0 ≤ y ∧ y ≤ 255 := by
          have e1 : IntKind.u8.min = 0 := by decide
          have e2 : IntKind.u8.max = 255 := by decide
          rw [Lit.wf, e1, e2, Bool.and_eq_true, decide_eq_true_eq, decide_eq_true_eq] at h2
          exact h2
        have h3 : ((UInt8.ofNat y.toNat).toNat : Int) = y := by
          rw [UInt8.toNat_ofNat']
          omega
        rw [h3]
      refine ⟨fun j => UInt8.ofNat (zs.getD j 0).toNat, ?_, .inr ⟨b, off, rfl, hb, fun j hj => ⟨_, hval j hj⟩⟩⟩
      intro b' off' e j hj
      injection e with e
      injection e with e1 e2
      subst e1 e2
      exact hval j hj

end Go.Proofs.YtonpalaopnfffaaDoor
