/- Names of many numbers at once: a chunk that the kernel has reckoned (chunk .. = true) has no number k whose name is k/2+1's. -/
import Derived.Test.YtabehlipgfihkaaDoorLane

namespace Go.Proofs.YtabehlipgfihkaaDoor.Sh
set_option linter.unusedVariables false

def pk : Nat → Nat → (Nat → Nat) → Nat
  | 0, s, f => f s
  | m + 1, s, f => pk m s f + 2 ^ (64 * 2 ^ m) * pk m (s + 2 ^ m) f

def nz : Nat → Nat → Bool
  | 0, d => !(Nat.beq d 0)
  | m + 1, d => nz m (d % 2 ^ (64 * 2 ^ m)) && nz m (d / 2 ^ (64 * 2 ^ m))

def t4 (k : Nat) : Nat := ((48 + k / 1000 % 10) * 256 + (48 + k / 100 % 10)) * 65536 + (48 + k / 10 % 10) * 256 + (48 + k % 10)

def n0 (k : Nat) : Nat := cond (Nat.blt k 10) ((48 + k) * 16777216 + 8388608) (cond (Nat.blt k 100) ((48 + k / 10) * 16777216 + (48 + k % 10) * 65536 + 32768)
  (cond (Nat.blt k 1000) ((48 + k / 100) * 16777216 + (48 + k / 10 % 10) * 65536 + (48 + k % 10) * 256 + 128) (cond (Nat.blt k 10000) (t4 k) (t4 (k / 10)))))

def n1 (k : Nat) : Nat := cond (Nat.blt k 1000) 0 (cond (Nat.blt k 10000) 2147483648 ((48 + k % 10) * 16777216 + 8388608))

def n15 (k : Nat) : Nat := cond (Nat.blt k 10) 520 (cond (Nat.blt k 100) 528 (cond (Nat.blt k 1000) 536 (cond (Nat.blt k 10000) 544 552)))

def bc (o : Nat) (s : St) : St := ⟨s.a * o, s.b * o, s.c * o, s.d * o, s.e * o, s.f * o, s.g * o, s.h * o⟩

def inn (o p0 p1 p15 : Nat) (s : St) : St := cmp o (bc o s) [p0, p1, 0, 0, 0, 0, 0, 0, 0, 0, 0, 0, 0, 0, 0, p15]

def outr (o : Nat) (s : St) (i : St) : St := cmp o (bc o s) [i.a, i.b, i.c, i.d, i.e, i.f, i.g, i.h, 2147483648 * o, 0, 0, 0, 0, 0, 0, 768 * o]

def nm (m s : Nat) (g : Nat → Nat) (si so : St) : St :=
  outr (pk m s fun _ => 1) so (inn (pk m s fun _ => 1) (pk m s fun k => n0 (g k)) (pk m s fun k => n1 (g k)) (pk m s fun k => n15 (g k)) si)

def chunk (m s : Nat) (si so : St) : Bool := nz m (((nm m s (fun k => k) si so).a ^^^ (nm m s (fun k => k / 2 + 1) si so).a) ||| ((nm m s (fun k => k) si so).b ^^^ (nm m s (fun k => k / 2 + 1) si so).b))


theorem pack_or (n : Nat) (u v : Nat → Nat) (hu : ∀ i, u i < 2 ^ 64) (hv : ∀ i, v i < 2 ^ 64) : pack n u ||| pack n v = pack n fun i => u i ||| v i := by
  apply Nat.eq_of_testBit_eq
  intro j
  rw [Nat.testBit_or, pack_bit n u hu, pack_bit n v hv, pack_bit n _ fun i => Nat.or_lt_two_pow (hu i) (hv i), Nat.testBit_or]
  cases decide (j / 64 < n) <;> simp

theorem pack_split (a b : Nat) (v : Nat → Nat) : pack (a + b) v = pack a v + 2 ^ (64 * a) * pack b (fun i => v (a + i)) := by
  induction a generalizing v with
  | zero => simp [pack]
  | succ a ih =>
    have e1 : a + 1 + b = (a + b) + 1 := by omega
    have e2 : 2 ^ (64 * (a + 1)) = 18446744073709551616 * 2 ^ (64 * a) := by rw [show 64 * (a + 1) = 64 + 64 * a by omega, Nat.pow_add]
    rw [e1]
    show v 0 + 18446744073709551616 * pack (a + b) (fun i => v (i + 1)) = v 0 + 18446744073709551616 * pack a (fun i => v (i + 1)) + _
    have e3 : pack b (fun i => v (a + i + 1)) = pack b (fun i => v (a + 1 + i)) := pack_congr _ _ _ fun i _ => by rw [show a + i + 1 = a + 1 + i by omega]
    rw [ih, e2, Nat.mul_add, Nat.mul_assoc, Nat.add_assoc, e3]

theorem pk_pack (m s : Nat) (f : Nat → Nat) : pk m s f = pack (2 ^ m) fun i => f (s + i) := by
  induction m generalizing s with
  | zero => simp [pk, pack]
  | succ m ih =>
    have e : 2 ^ (m + 1) = 2 ^ m + 2 ^ m := by rw [Nat.pow_succ]; omega
    have e3 : pack (2 ^ m) (fun i => f (s + 2 ^ m + i)) = pack (2 ^ m) (fun i => f (s + (2 ^ m + i))) := pack_congr _ _ _ fun i _ => by rw [Nat.add_assoc]
    rw [pk, ih, ih, e, pack_split, e3]

theorem pack_lt (n : Nat) (v : Nat → Nat) (h : ∀ i, v i < 2 ^ 64) : pack n v < 2 ^ (64 * n) := by
  induction n generalizing v with
  | zero => simp [pack]
  | succ n ih =>
    have h1 := ih (fun i => v (i + 1)) fun i => h (i + 1)
    have h0 := h 0
    have e2 : 2 ^ (64 * (n + 1)) = 18446744073709551616 * 2 ^ (64 * n) := by rw [show 64 * (n + 1) = 64 + 64 * n by omega, Nat.pow_add]
    show v 0 + 18446744073709551616 * pack n (fun i => v (i + 1)) < _
    rw [e2]
    omega

theorem nz_pack (m : Nat) (v : Nat → Nat) (h : ∀ i, v i < 2 ^ 64) (hz : nz m (pack (2 ^ m) v) = true) : ∀ i, i < 2 ^ m → v i ≠ 0 := by
  induction m generalizing v with
  | zero =>
    intro i hi
    have e0 : i = 0 := by simpa using hi
    subst e0
    have : pack (2 ^ 0) v = v 0 := by simp [pack]
    rw [this] at hz
    intro h0
    rw [h0] at hz
    simp [nz] at hz
  | succ m ih =>
    have e : 2 ^ (m + 1) = 2 ^ m + 2 ^ m := by rw [Nat.pow_succ]; omega
    have hl := pack_lt (2 ^ m) v h
    rw [e, pack_split] at hz
    have hp : 0 < 2 ^ (64 * 2 ^ m) := Nat.two_pow_pos _
    simp only [nz, Bool.and_eq_true] at hz
    rw [Nat.add_mul_mod_self_left, Nat.mod_eq_of_lt hl, Nat.add_mul_div_left _ _ hp, Nat.div_eq_of_lt hl, Nat.zero_add] at hz
    intro i hi
    by_cases h1 : i < 2 ^ m
    · exact ih v h hz.1 i h1
    · have := ih (fun i => v (2 ^ m + i)) (fun i => h _) hz.2 (i - 2 ^ m) (by omega)
      rwa [show 2 ^ m + (i - 2 ^ m) = i by omega] at this


/-- one number's name: the state behind both blocks -/
def inW (k : Nat) : List Nat := [n0 k, n1 k, 0, 0, 0, 0, 0, 0, 0, 0, 0, 0, 0, 0, 0, n15 k]

def outW (i : St) : List Nat := [i.a, i.b, i.c, i.d, i.e, i.f, i.g, i.h, 2147483648, 0, 0, 0, 0, 0, 0, 768]

def one (si so : St) (k : Nat) : St := cmp 1 so (outW (cmp 1 si (inW k)))

theorem pack_zero (n : Nat) : pack n (fun _ => 0) = 0 := by
  induction n with
  | zero => rfl
  | succ n ih => show 0 + _ * pack n (fun _ => 0) = 0; rw [ih]

theorem bc_pack (n : Nat) (s : St) : bc (ones n) s = packS n fun _ => s := by
  unfold bc packS
  simp only [mul_ones]

theorem n0_lt (k : Nat) : n0 k < 4294967296 := by
  unfold n0 t4
  cases h1 : Nat.blt k 10
  · cases h2 : Nat.blt k 100
    · cases h3 : Nat.blt k 1000
      · cases h4 : Nat.blt k 10000
        · simp only [cond_false]; omega
        · simp only [cond_false, cond_true]; omega
      · have := Nat.blt_eq.mp h3
        simp only [cond_false, cond_true]; omega
    · have := Nat.blt_eq.mp h2
      simp only [cond_false, cond_true]; omega
  · have := Nat.blt_eq.mp h1
    simp only [cond_true]; omega

theorem n1_lt (k : Nat) : n1 k < 4294967296 := by
  unfold n1
  cases Nat.blt k 1000
  · cases Nat.blt k 10000
    · simp only [cond_false]; omega
    · simp only [cond_false, cond_true]; omega
  · simp only [cond_true]; omega

theorem n15_lt (k : Nat) : n15 k < 4294967296 := by
  unfold n15
  cases Nat.blt k 10 <;> cases Nat.blt k 100 <;> cases Nat.blt k 1000 <;> cases Nat.blt k 10000 <;> decide


theorem relW_in (n : Nat) (g : Nat → Nat) : RelW n [pack n (fun i => n0 (g i)), pack n (fun i => n1 (g i)), 0, 0, 0, 0, 0, 0, 0, 0, 0, 0, 0, 0, 0, pack n (fun i => n15 (g i))] (fun i => inW (g i)) := by
  have z := (pack_zero n).symm
  refine ⟨rfl, fun _ => rfl, fun i j => ?_, fun j hj => ?_⟩
  · match j with
    | 0 => exact n0_lt _
    | 1 => exact n1_lt _
    | 2 | 3 | 4 | 5 | 6 | 7 | 8 | 9 | 10 | 11 | 12 | 13 | 14 => show 0 < _; omega
    | 15 => exact n15_lt _
    | j + 16 => show 0 < _; omega
  · match j, hj with
    | 0, _ => rfl
    | 1, _ => rfl
    | 2, _ | 3, _ | 4, _ | 5, _ | 6, _ | 7, _ | 8, _ | 9, _ | 10, _ | 11, _ | 12, _ | 13, _ | 14, _ => exact z
    | 15, _ => rfl
    | j + 16, h => exact absurd h (by omega)

theorem relW_out (n : Nat) (s : Nat → St) (hs : ∀ i, okS (s i)) :
    RelW n [(packS n s).a, (packS n s).b, (packS n s).c, (packS n s).d, (packS n s).e, (packS n s).f, (packS n s).g, (packS n s).h, 2147483648 * ones n, 0, 0, 0, 0, 0, 0, 768 * ones n] (fun i => outW (s i)) := by
  have z := (pack_zero n).symm
  refine ⟨rfl, fun _ => rfl, fun i j => ?_, fun j hj => ?_⟩
  · obtain ⟨ha, hb, hc, hd, he, hf, hg, hh⟩ := hs i
    match j with
    | 0 => exact ha
    | 1 => exact hb
    | 2 => exact hc
    | 3 => exact hd
    | 4 => exact he
    | 5 => exact hf
    | 6 => exact hg
    | 7 => exact hh
    | 8 => show 2147483648 < _; omega
    | 9 | 10 | 11 | 12 | 13 | 14 => show 0 < _; omega
    | 15 => show 768 < _; omega
    | j + 16 => show 0 < _; omega
  · match j, hj with
    | 0, _ | 1, _ | 2, _ | 3, _ | 4, _ | 5, _ | 6, _ | 7, _ => rfl
    | 8, _ => exact mul_ones n 2147483648
    | 9, _ | 10, _ | 11, _ | 12, _ | 13, _ | 14, _ => exact z
    | 15, _ => exact mul_ones n 768
    | j + 16, h => exact absurd h (by omega)

theorem nm_pack (m s : Nat) (g : Nat → Nat) (si so : St) (hi : okS si) (ho : okS so) : nm m s g si so = packS (2 ^ m) fun i => one si so (g (s + i)) := by
  unfold nm outr inn
  rw [pk_pack, pk_pack, pk_pack, pk_pack]
  show cmp (ones (2 ^ m)) (bc (ones (2 ^ m)) so) _ = _
  rw [show (pack (2 ^ m) fun _ => 1) = ones (2 ^ m) from rfl, bc_pack, bc_pack, pack_cmp (2 ^ m) _ _ _ (relW_in (2 ^ m) fun i => g (s + i)) fun _ => hi]
  exact pack_cmp (2 ^ m) _ _ _ (relW_out (2 ^ m) _ fun i => cmp_ok _ _) fun _ => ho

/-- of a chunk that the kernel has passed, no two names are one -/
theorem chunk_sound (m s : Nat) (si so : St) (hi : okS si) (ho : okS so) (h : chunk m s si so = true) (k : Nat) (h1 : s ≤ k) (h2 : k < s + 2 ^ m) :
    ¬ ((one si so k).a = (one si so (k / 2 + 1)).a ∧ (one si so k).b = (one si so (k / 2 + 1)).b) := by
  rintro ⟨ea, eb⟩
  unfold chunk at h
  rw [nm_pack _ _ _ _ _ hi ho, nm_pack _ _ _ _ _ hi ho] at h
  have ok := fun k => cmp_ok so (outW (cmp 1 si (inW k)))
  have la : ∀ k, (one si so k).a < 2 ^ 64 := fun k => Nat.lt_trans (ok k).1 (by decide)
  have lb : ∀ k, (one si so k).b < 2 ^ 64 := fun k => Nat.lt_trans (ok k).2.1 (by decide)
  change nz m ((pack (2 ^ m) (fun i => (one si so (s + i)).a) ^^^ pack (2 ^ m) (fun i => (one si so ((s + i) / 2 + 1)).a)) ||| (pack (2 ^ m) (fun i => (one si so (s + i)).b) ^^^ pack (2 ^ m) (fun i => (one si so ((s + i) / 2 + 1)).b))) = true at h
  rw [pack_xor _ _ _ (fun i => la _) (fun i => la _), pack_xor _ _ _ (fun i => lb _) (fun i => lb _), pack_or _ _ _ (fun i => Nat.xor_lt_two_pow (la _) (la _)) (fun i => Nat.xor_lt_two_pow (lb _) (lb _))] at h
  have := nz_pack m _ (fun i => Nat.or_lt_two_pow (Nat.xor_lt_two_pow (la _) (la _)) (Nat.xor_lt_two_pow (lb _) (lb _))) h (k - s) (by omega)
  rw [show s + (k - s) = k by omega, ea, eb, Nat.xor_self, Nat.xor_self] at this
  exact this rfl

end Go.Proofs.YtabehlipgfihkaaDoor.Sh
