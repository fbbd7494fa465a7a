/- SHA-256 on words and on many lanes at once, as plain functions of numbers: nothing here speaks of the program. -/
import Derived.Test.YtonpalaopnfffaaGreatDoorLem
namespace Go.Proofs.YtonpalaopnfffaaGreatDoor.Sh
set_option linter.unusedVariables false

/-- eight words -/
structure St where
  a : Nat
  b : Nat
  c : Nat
  d : Nat
  e : Nat
  f : Nat
  g : Nat
  h : Nat

def M32 : Nat := 4294967295

/-- x twice in its lane -/
def dbl (x : Nat) : Nat := x * 4294967297

def s0 (o x : Nat) : Nat := ((dbl x >>> 7 ^^^ dbl x >>> 18) ^^^ x >>> 3) &&& M32 * o
def s1 (o x : Nat) : Nat := ((dbl x >>> 17 ^^^ dbl x >>> 19) ^^^ x >>> 10) &&& M32 * o
def e0 (o x : Nat) : Nat := ((dbl x >>> 2 ^^^ dbl x >>> 13) ^^^ dbl x >>> 22) &&& M32 * o
def e1 (o x : Nat) : Nat := ((dbl x >>> 6 ^^^ dbl x >>> 11) ^^^ dbl x >>> 25) &&& M32 * o

def wn (o : Nat) (w : List Nat) : Nat :=
  (w.getD 0 0 + w.getD 9 0 + s0 o (w.getD 1 0) + s1 o (w.getD 14 0)) &&& M32 * o

def chS (o e f g : Nat) : Nat := (e &&& f) ^^^ ((e ^^^ M32 * o) &&& g)
def majS (a b c : Nat) : Nat := ((a &&& b) ^^^ (a &&& c)) ^^^ (b &&& c)

def xS (o k w : Nat) (s : St) : Nat := s.h + e1 o s.e + chS o s.e s.f s.g + k * o + w
def yS (o : Nat) (s : St) : Nat := e0 o s.a + majS s.a s.b s.c

def rnd (o k w : Nat) (s : St) : St :=
  ⟨(xS o k w s + yS o s) &&& M32 * o, s.a, s.b, s.c, (s.d + xS o k w s) &&& M32 * o, s.e, s.f, s.g⟩

def rstep (o : Nat) (p : List Nat × St) (k : Nat) : List Nat × St := (p.1.tail ++ [wn o p.1], rnd o k (p.1.getD 0 0) p.2)

def rnds (o : Nat) (ks w : List Nat) (s : St) : St := (ks.foldl (rstep o) (w, s)).2

theorem rnds_nil (o : Nat) (w : List Nat) (s : St) : rnds o [] w s = s := rfl

theorem rnds_cons (o k : Nat) (ks w : List Nat) (s : St) : rnds o (k :: ks) w s = rnds o ks (w.tail ++ [wn o w]) (rnd o k (w.getD 0 0) s) := by
  unfold rnds; rw [List.foldl_cons]; rfl

def K : List Nat := [0x428a2f98, 0x71374491, 0xb5c0fbcf, 0xe9b5dba5, 0x3956c25b, 0x59f111f1, 0x923f82a4, 0xab1c5ed5, 0xd807aa98, 0x12835b01, 0x243185be, 0x550c7dc3, 0x72be5d74, 0x80deb1fe, 0x9bdc06a7, 0xc19bf174, 0xe49b69c1, 0xefbe4786, 0x0fc19dc6, 0x240ca1cc, 0x2de92c6f, 0x4a7484aa, 0x5cb0a9dc, 0x76f988da, 0x983e5152, 0xa831c66d, 0xb00327c8, 0xbf597fc7, 0xc6e00bf3, 0xd5a79147, 0x06ca6351, 0x14292967, 0x27b70a85, 0x2e1b2138, 0x4d2c6dfc, 0x53380d13, 0x650a7354, 0x766a0abb, 0x81c2c92e, 0x92722c85, 0xa2bfe8a1, 0xa81a664b, 0xc24b8b70, 0xc76c51a3, 0xd192e819, 0xd6990624, 0xf40e3585, 0x106aa070, 0x19a4c116, 0x1e376c08, 0x2748774c, 0x34b0bcb5, 0x391c0cb3, 0x4ed8aa4a, 0x5b9cca4f, 0x682e6ff3, 0x748f82ee, 0x78a5636f, 0x84c87814, 0x8cc70208, 0x90befffa, 0xa4506ceb, 0xbef9a3f7, 0xc67178f2]

def addS (o : Nat) (s r : St) : St := ⟨(s.a + r.a) &&& M32 * o, (s.b + r.b) &&& M32 * o, (s.c + r.c) &&& M32 * o, (s.d + r.d) &&& M32 * o, (s.e + r.e) &&& M32 * o, (s.f + r.f) &&& M32 * o, (s.g + r.g) &&& M32 * o, (s.h + r.h) &&& M32 * o⟩

def cmp (o : Nat) (h : St) (w : List Nat) : St := addS o h (rnds o K w h)

def H0 : St := ⟨0x6a09e667, 0xbb67ae85, 0x3c6ef372, 0xa54ff53a, 0x510e527f, 0x9b05688c, 0x1f83d9ab, 0x5be0cd19⟩

/-! ### many lanes in one number -/

def pack : Nat → (Nat → Nat) → Nat
  | 0, _ => 0
  | n + 1, v => v 0 + 18446744073709551616 * pack n (fun i => v (i + 1))

def ones (n : Nat) : Nat := pack n fun _ => 1

theorem pack_congr (n : Nat) (u v : Nat → Nat) (h : ∀ i, i < n → u i = v i) : pack n u = pack n v := by
  induction n generalizing u v with
  | zero => rfl
  | succ n ih =>
    show u 0 + _ * pack n _ = v 0 + _ * pack n _
    rw [h 0 (by omega), ih _ _ fun i hi => h (i + 1) (by omega)]

theorem pack_add (n : Nat) (u v : Nat → Nat) : pack n u + pack n v = pack n fun i => u i + v i := by
  induction n generalizing u v with
  | zero => rfl
  | succ n ih =>
    show u 0 + _ * pack n _ + (v 0 + _ * pack n _) = u 0 + v 0 + _ * pack n _
    rw [← ih]
    omega

theorem pack_mul (n c : Nat) (v : Nat → Nat) : pack n v * c = pack n fun i => v i * c := by
  induction n generalizing v with
  | zero => simp [pack]
  | succ n ih =>
    show (v 0 + _ * pack n _) * c = v 0 * c + _ * pack n _
    rw [← ih, Nat.add_mul, Nat.mul_assoc]

theorem mul_ones (n c : Nat) : c * ones n = pack n fun _ => c := by
  rw [Nat.mul_comm, ones, pack_mul]
  exact pack_congr _ _ _ fun i _ => by omega

theorem pack_bit (n : Nat) (v : Nat → Nat) (h : ∀ i, v i < 2 ^ 64) (j : Nat) : (pack n v).testBit j = (decide (j / 64 < n) && (v (j / 64)).testBit (j % 64)) := by
  induction n generalizing v j with
  | zero => simp [pack]
  | succ n ih =>
    have e : pack (n + 1) v = 2 ^ 64 * pack n (fun i => v (i + 1)) + v 0 := Nat.add_comm _ _
    rw [e, Nat.testBit_two_pow_mul_add _ (h 0)]
    by_cases hj : j < 64
    · have h1 : j / 64 = 0 := by omega
      have h2 : j % 64 = j := by omega
      simp [hj, h1, h2]
    · rw [if_neg hj, ih _ fun i => h (i + 1)]
      have h1 : (j - 64) / 64 + 1 = j / 64 := by omega
      have h2 : (j - 64) % 64 = j % 64 := by omega
      rw [h1, h2]
      congr 1
      simp only [decide_eq_decide]
      omega

theorem pack_and (n : Nat) (u v : Nat → Nat) (hu : ∀ i, u i < 2 ^ 64) (hv : ∀ i, v i < 2 ^ 64) : pack n u &&& pack n v = pack n fun i => u i &&& v i := by
  apply Nat.eq_of_testBit_eq
  intro j
  rw [Nat.testBit_and, pack_bit n u hu, pack_bit n v hv, pack_bit n _ fun i => Nat.and_lt_two_pow _ (hv i), Nat.testBit_and]
  cases decide (j / 64 < n) <;> simp

theorem pack_xor (n : Nat) (u v : Nat → Nat) (hu : ∀ i, u i < 2 ^ 64) (hv : ∀ i, v i < 2 ^ 64) : pack n u ^^^ pack n v = pack n fun i => u i ^^^ v i := by
  apply Nat.eq_of_testBit_eq
  intro j
  rw [Nat.testBit_xor, pack_bit n u hu, pack_bit n v hv, pack_bit n _ fun i => Nat.xor_lt_two_pow (hu i) (hv i), Nat.testBit_xor]
  cases decide (j / 64 < n) <;> simp

theorem pack_shr (n k : Nat) (v : Nat → Nat) (hk : k ≤ 32) (hv : ∀ i, v i < 2 ^ 64) : pack n v >>> k &&& M32 * ones n = pack n fun i => v i >>> k &&& M32 := by
  rw [mul_ones]
  have hm : ∀ i : Nat, (fun _ : Nat => M32) i < 2 ^ 64 := fun _ => show M32 < 2 ^ 64 by decide
  apply Nat.eq_of_testBit_eq
  intro j
  rw [Nat.testBit_and, Nat.testBit_shiftRight, pack_bit n v hv, pack_bit n _ hm, pack_bit n _ fun i => Nat.and_lt_two_pow _ (hm i), Nat.testBit_and, Nat.testBit_shiftRight]
  have hM : M32 = 2 ^ 32 - 1 := rfl
  rw [hM]
  by_cases hj : j % 64 < 32
  · have h1 : (k + j) / 64 = j / 64 := by omega
    have h2 : (k + j) % 64 = k + j % 64 := by omega
    rw [h1, h2]
    cases decide (j / 64 < n) <;> simp
  · rw [Nat.testBit_two_pow_sub_one]
    simp [hj]


/-- words -/
def Wd (v : Nat → Nat) : Prop := ∀ i, v i < 4294967296

theorem Wd.big {v : Nat → Nat} (h : Wd v) : ∀ i, v i < 2 ^ 64 := fun i => Nat.lt_trans (h i) (by decide)

theorem and_M32 (x : Nat) : x &&& M32 = x % 4294967296 := Nat.and_two_pow_sub_one_eq_mod x 32

theorem and_lt (x : Nat) : x &&& M32 * 1 < 4294967296 := by
  rw [Nat.mul_one, and_M32]; exact Nat.mod_lt _ (by omega)

theorem pack_mask (n : Nat) (v : Nat → Nat) (hv : ∀ i, v i < 2 ^ 64) : pack n v &&& M32 * ones n = pack n fun i => v i &&& M32 * 1 := by
  rw [mul_ones, pack_and n v _ hv fun _ => show M32 < 2 ^ 64 by decide, Nat.mul_one]

theorem pack_dbl (n : Nat) (v : Nat → Nat) : dbl (pack n v) = pack n fun i => dbl (v i) := pack_mul _ _ _

theorem dbl_lt {v : Nat → Nat} (h : Wd v) : ∀ i, dbl (v i) < 2 ^ 64 := fun i => by
  have := h i
  unfold dbl
  omega

theorem pack_turn3 (n p q r : Nat) (hp : p ≤ 32) (hq : q ≤ 32) (hr : r ≤ 32) (u v w : Nat → Nat) (hu : ∀ i, u i < 2 ^ 64) (hv : ∀ i, v i < 2 ^ 64) (hw : ∀ i, w i < 2 ^ 64) :
    ((pack n u >>> p ^^^ pack n v >>> q) ^^^ pack n w >>> r) &&& M32 * ones n = pack n fun i => ((u i >>> p ^^^ v i >>> q) ^^^ w i >>> r) &&& M32 * 1 := by
  have hb : ∀ x : Nat, x &&& M32 < 2 ^ 64 := fun x => Nat.and_lt_two_pow _ (by decide)
  rw [Nat.and_xor_distrib_right, Nat.and_xor_distrib_right, pack_shr n p u hp hu, pack_shr n q v hq hv, pack_shr n r w hr hw, pack_xor _ _ _ (fun _ => hb _) (fun _ => hb _), pack_xor _ _ _ (fun _ => Nat.xor_lt_two_pow (hb _) (hb _)) (fun _ => hb _)]
  refine pack_congr _ _ _ fun i _ => ?_
  show _ = _ &&& M32 * 1
  rw [Nat.mul_one, Nat.and_xor_distrib_right, Nat.and_xor_distrib_right]

theorem pack_s0 (n : Nat) (v : Nat → Nat) (h : Wd v) : s0 (ones n) (pack n v) = pack n fun i => s0 1 (v i) := by
  unfold s0; rw [pack_dbl]
  exact pack_turn3 n 7 18 3 (by omega) (by omega) (by omega) _ _ _ (dbl_lt h) (dbl_lt h) h.big

theorem pack_s1 (n : Nat) (v : Nat → Nat) (h : Wd v) : s1 (ones n) (pack n v) = pack n fun i => s1 1 (v i) := by
  unfold s1; rw [pack_dbl]
  exact pack_turn3 n 17 19 10 (by omega) (by omega) (by omega) _ _ _ (dbl_lt h) (dbl_lt h) h.big

theorem pack_e0 (n : Nat) (v : Nat → Nat) (h : Wd v) : e0 (ones n) (pack n v) = pack n fun i => e0 1 (v i) := by
  unfold e0; rw [pack_dbl]
  exact pack_turn3 n 2 13 22 (by omega) (by omega) (by omega) _ _ _ (dbl_lt h) (dbl_lt h) (dbl_lt h)

theorem pack_e1 (n : Nat) (v : Nat → Nat) (h : Wd v) : e1 (ones n) (pack n v) = pack n fun i => e1 1 (v i) := by
  unfold e1; rw [pack_dbl]
  exact pack_turn3 n 6 11 25 (by omega) (by omega) (by omega) _ _ _ (dbl_lt h) (dbl_lt h) (dbl_lt h)

theorem s0_lt (x : Nat) : s0 1 x < 4294967296 := and_lt _
theorem s1_lt (x : Nat) : s1 1 x < 4294967296 := and_lt _
theorem e0_lt (x : Nat) : e0 1 x < 4294967296 := and_lt _
theorem e1_lt (x : Nat) : e1 1 x < 4294967296 := and_lt _

theorem chS_lt (e f g : Nat) (he : e < 4294967296) (hf : f < 4294967296) (hg : g < 4294967296) : chS 1 e f g < 4294967296 :=
  Nat.xor_lt_two_pow (n := 32) (Nat.and_lt_two_pow _ hf) (Nat.and_lt_two_pow _ hg)

theorem majS_lt (a b c : Nat) (ha : a < 4294967296) (hb : b < 4294967296) (hc : c < 4294967296) : majS a b c < 4294967296 :=
  Nat.xor_lt_two_pow (n := 32) (Nat.xor_lt_two_pow (n := 32) (Nat.and_lt_two_pow _ hb) (Nat.and_lt_two_pow _ hc)) (Nat.and_lt_two_pow _ hc)

theorem pack_ch (n : Nat) (e f g : Nat → Nat) (he : Wd e) (hf : Wd f) (hg : Wd g) : chS (ones n) (pack n e) (pack n f) (pack n g) = pack n fun i => chS 1 (e i) (f i) (g i) := by
  have hm : ∀ i : Nat, (fun _ : Nat => M32) i < 2 ^ 64 := fun _ => show M32 < 2 ^ 64 by decide
  unfold chS
  rw [mul_ones, pack_and n _ _ he.big hf.big, pack_xor n _ _ he.big hm, pack_and n _ _ (fun i => Nat.xor_lt_two_pow (he.big i) (hm i)) hg.big,
    pack_xor n _ _ (fun i => Nat.and_lt_two_pow _ (hf.big i)) (fun i => Nat.and_lt_two_pow _ (hg.big i))]
  refine pack_congr _ _ _ fun i _ => by rw [Nat.mul_one]

theorem pack_maj (n : Nat) (a b c : Nat → Nat) (ha : Wd a) (hb : Wd b) (hc : Wd c) : majS (pack n a) (pack n b) (pack n c) = pack n fun i => majS (a i) (b i) (c i) := by
  unfold majS
  rw [pack_and n _ _ ha.big hb.big, pack_and n _ _ ha.big hc.big, pack_and n _ _ hb.big hc.big,
    pack_xor n _ _ (fun i => Nat.and_lt_two_pow _ (hb.big i)) (fun i => Nat.and_lt_two_pow _ (hc.big i)),
    pack_xor n _ _ (fun i => Nat.xor_lt_two_pow (Nat.and_lt_two_pow _ (hb.big i)) (Nat.and_lt_two_pow _ (hc.big i))) (fun i => Nat.and_lt_two_pow _ (hc.big i))]

def okS (s : St) : Prop := s.a < 4294967296 ∧ s.b < 4294967296 ∧ s.c < 4294967296 ∧ s.d < 4294967296 ∧ s.e < 4294967296 ∧ s.f < 4294967296 ∧ s.g < 4294967296 ∧ s.h < 4294967296

def packS (n : Nat) (s : Nat → St) : St := ⟨pack n fun i => (s i).a, pack n fun i => (s i).b, pack n fun i => (s i).c, pack n fun i => (s i).d, pack n fun i => (s i).e, pack n fun i => (s i).f, pack n fun i => (s i).g, pack n fun i => (s i).h⟩

theorem rnd_ok (k w : Nat) (s : St) (h : okS s) : okS (rnd 1 k w s) := ⟨and_lt _, h.1, h.2.1, h.2.2.1, and_lt _, h.2.2.2.2.1, h.2.2.2.2.2.1, h.2.2.2.2.2.2.1⟩

theorem xS_lt (k w : Nat) (s : St) (hk : k < 4294967296) (hw : w < 4294967296) (h : okS s) : xS 1 k w s < 21474836480 := by
  obtain ⟨ha, hb, hc, hd, he, hf, hg, hh⟩ := h
  have h1 := e1_lt s.e
  have h2 := chS_lt s.e s.f s.g he hf hg
  unfold xS
  omega

theorem yS_lt (s : St) (h : okS s) : yS 1 s < 8589934592 := by
  obtain ⟨ha, hb, hc, hd, he, hf, hg, hh⟩ := h
  have h1 := e0_lt s.a
  have h2 := majS_lt s.a s.b s.c ha hb hc
  unfold yS
  omega

theorem pack_xS (n k : Nat) (w : Nat → Nat) (s : Nat → St) (hw : Wd w) (h : ∀ i, okS (s i)) : xS (ones n) k (pack n w) (packS n s) = pack n fun i => xS 1 k (w i) (s i) := by
  unfold xS
  show pack n _ + e1 _ (pack n _) + chS _ (pack n _) (pack n _) (pack n _) + _ + _ = _
  rw [pack_e1 n _ fun i => (h i).2.2.2.2.1, pack_ch n _ _ _ (fun i => (h i).2.2.2.2.1) (fun i => (h i).2.2.2.2.2.1) (fun i => (h i).2.2.2.2.2.2.1), mul_ones, pack_add, pack_add, pack_add, pack_add]
  refine pack_congr _ _ _ fun i _ => by simp only [Nat.mul_one]

theorem pack_yS (n : Nat) (s : Nat → St) (h : ∀ i, okS (s i)) : yS (ones n) (packS n s) = pack n fun i => yS 1 (s i) := by
  unfold yS
  show e0 _ (pack n _) + majS (pack n _) (pack n _) (pack n _) = _
  rw [pack_e0 n _ fun i => (h i).1, pack_maj n _ _ _ (fun i => (h i).1) (fun i => (h i).2.1) (fun i => (h i).2.2.1), pack_add]

theorem pack_rnd (n k : Nat) (w : Nat → Nat) (s : Nat → St) (hk : k < 4294967296) (hw : Wd w) (h : ∀ i, okS (s i)) : rnd (ones n) k (pack n w) (packS n s) = packS n fun i => rnd 1 k (w i) (s i) := by
  have hx := pack_xS n k w s hw h
  have hy := pack_yS n s h
  unfold rnd
  rw [hx, hy]
  show St.mk ((_ + _) &&& _) (pack n _) (pack n _) (pack n _) ((pack n _ + _) &&& _) (pack n _) (pack n _) (pack n _) = _
  rw [pack_add, pack_add, pack_mask, pack_mask]
  · rfl
  · intro i
    have := xS_lt k (w i) (s i) hk (hw i) (h i)
    have := (h i).2.2.2.1
    omega
  · intro i
    have := xS_lt k (w i) (s i) hk (hw i) (h i)
    have := yS_lt (s i) (h i)
    omega

theorem addS_ok (s r : St) : okS (addS 1 s r) := ⟨and_lt _, and_lt _, and_lt _, and_lt _, and_lt _, and_lt _, and_lt _, and_lt _⟩

theorem pack_sum (n : Nat) (u v : Nat → Nat) (hu : Wd u) (hv : Wd v) : (pack n u + pack n v) &&& M32 * ones n = pack n fun i => (u i + v i) &&& M32 * 1 := by
  rw [pack_add, pack_mask]
  intro i
  have := hu i
  have := hv i
  omega

theorem pack_addS (n : Nat) (s r : Nat → St) (hs : ∀ i, okS (s i)) (hr : ∀ i, okS (r i)) : addS (ones n) (packS n s) (packS n r) = packS n fun i => addS 1 (s i) (r i) := by
  unfold addS
  show St.mk ((pack n _ + pack n _) &&& _) ((pack n _ + pack n _) &&& _) ((pack n _ + pack n _) &&& _) ((pack n _ + pack n _) &&& _) ((pack n _ + pack n _) &&& _) ((pack n _ + pack n _) &&& _) ((pack n _ + pack n _) &&& _) ((pack n _ + pack n _) &&& _) = _
  rw [pack_sum n _ _ (fun i => (hs i).1) (fun i => (hr i).1), pack_sum n _ _ (fun i => (hs i).2.1) (fun i => (hr i).2.1), pack_sum n _ _ (fun i => (hs i).2.2.1) (fun i => (hr i).2.2.1), pack_sum n _ _ (fun i => (hs i).2.2.2.1) (fun i => (hr i).2.2.2.1),
    pack_sum n _ _ (fun i => (hs i).2.2.2.2.1) (fun i => (hr i).2.2.2.2.1), pack_sum n _ _ (fun i => (hs i).2.2.2.2.2.1) (fun i => (hr i).2.2.2.2.2.1), pack_sum n _ _ (fun i => (hs i).2.2.2.2.2.2.1) (fun i => (hr i).2.2.2.2.2.2.1), pack_sum n _ _ (fun i => (hs i).2.2.2.2.2.2.2) (fun i => (hr i).2.2.2.2.2.2.2)]
  rfl

/-- a row of packed words -/
structure RelW (n : Nat) (P : List Nat) (w : Nat → List Nat) : Prop where
  len : P.length = 16
  lens : ∀ i, (w i).length = 16
  small : ∀ i j, (w i).getD j 0 < 4294967296
  at' : ∀ j, j < 16 → P.getD j 0 = pack n fun i => (w i).getD j 0

theorem wn_lt (w : List Nat) : wn 1 w < 4294967296 := and_lt _

theorem pack_wn (n : Nat) (P : List Nat) (w : Nat → List Nat) (h : RelW n P w) : wn (ones n) P = pack n fun i => wn 1 (w i) := by
  unfold wn
  rw [h.at' 0 (by omega), h.at' 9 (by omega), h.at' 1 (by omega), h.at' 14 (by omega), pack_s0 n _ fun i => h.small i 1, pack_s1 n _ fun i => h.small i 14, pack_add, pack_add, pack_add, pack_mask]
  intro i
  have h0 := h.small i 0
  have h9 := h.small i 9
  have h1 := s0_lt ((w i).getD 1 0)
  have h2 := s1_lt ((w i).getD 14 0)
  omega

theorem next_get (l : List Nat) (x j : Nat) (hl : l.length = 16) (hj : j < 16) : (l.tail ++ [x]).getD j 0 = if j < 15 then l.getD (j + 1) 0 else x := by
  match l, hl with
  | a :: r, hl =>
    simp only [List.length_cons] at hl
    simp only [List.tail_cons, List.getD_eq_getElem?_getD, List.getElem?_append]
    by_cases h : j < 15
    · rw [if_pos (by omega), if_pos h]; simp
    · rw [if_neg (by omega), if_neg h]
      have : j - r.length = 0 := by omega
      rw [this]; rfl

theorem getD_big (l : List Nat) (j : Nat) (h : l.length ≤ j) : l.getD j 0 = 0 := by
  rw [List.getD_eq_getElem?_getD, List.getElem?_eq_none h]; rfl

theorem RelW.next {n : Nat} {P : List Nat} {w : Nat → List Nat} (h : RelW n P w) : RelW n (P.tail ++ [wn (ones n) P]) fun i => (w i).tail ++ [wn 1 (w i)] := by
  have hl : ∀ i, ((w i).tail ++ [wn 1 (w i)]).length = 16 := fun i => by have := h.lens i; simp; omega
  refine ⟨by have := h.len; simp; omega, hl, fun i j => ?_, fun j hj => ?_⟩
  · by_cases hj : j < 16
    · rw [next_get _ _ _ (h.lens i) hj]
      split
      · exact h.small i _
      · exact wn_lt _
    · rw [getD_big _ _ (by have := hl i; omega)]; omega
  · rw [next_get _ _ _ h.len hj]
    split
    · rw [h.at' (j + 1) (by omega)]
      exact pack_congr _ _ _ fun i _ => by rw [next_get _ _ _ (h.lens i) hj, if_pos (by omega)]
    · rw [pack_wn n P w h]
      exact pack_congr _ _ _ fun i _ => by rw [next_get _ _ _ (h.lens i) hj, if_neg (by omega)]

theorem rnds_ok (ks : List Nat) (w : List Nat) (s : St) (h : okS s) : okS (rnds 1 ks w s) := by
  induction ks generalizing w s with
  | nil => rw [rnds_nil]; exact h
  | cons k ks ih =>
    have := ih (w.tail ++ [wn 1 w]) (rnd 1 k (w.getD 0 0) s) (rnd_ok _ _ _ h)
    rw [rnds_cons]; exact this

theorem pack_rnds (n : Nat) (ks : List Nat) (hk : ∀ k ∈ ks, k < 4294967296) (P : List Nat) (w : Nat → List Nat) (s : Nat → St) (h : RelW n P w) (hs : ∀ i, okS (s i)) :
    rnds (ones n) ks P (packS n s) = packS n fun i => rnds 1 ks (w i) (s i) := by
  induction ks generalizing P w s with
  | nil => simp only [rnds_nil]
  | cons k ks ih =>
    have := ih (fun k hk' => hk k (by simp [hk'])) (P.tail ++ [wn (ones n) P]) (fun i => (w i).tail ++ [wn 1 (w i)]) (fun i => rnd 1 k ((w i).getD 0 0) (s i)) h.next fun i => rnd_ok _ _ _ (hs i)
    simp only [rnds_cons]
    rw [h.at' 0 (by omega), pack_rnd n k _ s (hk k (by simp)) (fun i => h.small i 0) hs]
    exact this

theorem K_small : ∀ k ∈ K, k < 4294967296 := by decide

theorem cmp_ok (h : St) (w : List Nat) : okS (cmp 1 h w) := addS_ok _ _

theorem pack_cmp (n : Nat) (P : List Nat) (w : Nat → List Nat) (s : Nat → St) (h : RelW n P w) (hs : ∀ i, okS (s i)) :
    cmp (ones n) (packS n s) P = packS n fun i => cmp 1 (s i) (w i) := by
  unfold cmp
  rw [pack_rnds n K K_small P w s h hs, pack_addS n _ _ hs fun i => rnds_ok _ _ _ (hs i)]


/-- a word turned -/
def rr (x n : Nat) : Nat := dbl x >>> n &&& M32

theorem rr_lt (x n : Nat) : rr x n < 4294967296 := by unfold rr; rw [and_M32]; exact Nat.mod_lt _ (by omega)

theorem dbl_bit (x j : Nat) (hx : x < 4294967296) : (dbl x).testBit j = if j < 32 then x.testBit j else x.testBit (j - 32) := by
  have e : dbl x = 2 ^ 32 * x + x := by unfold dbl; omega
  rw [e, Nat.testBit_two_pow_mul_add x (show x < 2 ^ 32 from hx)]

theorem rr_bit (x n j : Nat) (hx : x < 4294967296) : (rr x n).testBit j = (decide (j < 32) && if n + j < 32 then x.testBit (n + j) else x.testBit (n + j - 32)) := by
  unfold rr
  rw [Nat.testBit_and, Nat.testBit_shiftRight, dbl_bit x _ hx, show M32 = 2 ^ 32 - 1 from rfl, Nat.testBit_two_pow_sub_one, Bool.and_comm]

theorem big_bit (x j : Nat) (hx : x < 4294967296) (hj : 32 ≤ j) : x.testBit j = false :=
  Nat.testBit_lt_two_pow (Nat.lt_of_lt_of_le (show x < 2 ^ 32 from hx) (Nat.pow_le_pow_right (by omega) hj))

theorem turn_or (x n : Nat) (hx : x < 4294967296) (h1 : 1 ≤ n) (h2 : n ≤ 31) : x / 2 ^ n ||| x * 2 ^ (32 - n) % 4294967296 = rr x n := by
  apply Nat.eq_of_testBit_eq
  intro j
  have hm : x * 2 ^ (32 - n) % 4294967296 = (2 ^ (32 - n) * x) % 2 ^ 32 := by rw [Nat.mul_comm]
  rw [rr_bit x n j hx, Nat.testBit_or, ← Nat.shiftRight_eq_div_pow, Nat.testBit_shiftRight, hm, Nat.testBit_mod_two_pow, Nat.testBit_two_pow_mul]
  by_cases hj : j < 32
  · by_cases h3 : n + j < 32
    · have : ¬ (32 - n ≤ j) := by omega
      simp [hj, h3, this]
    · have h4 : 32 - n ≤ j := by omega
      have h5 : j - (32 - n) = n + j - 32 := by omega
      rw [big_bit x (n + j) hx (by omega), h5]
      simp [hj, h3, h4]
  · rw [big_bit x (n + j) hx (by omega)]
    simp [hj]

theorem s0_rr (x : Nat) (hx : x < 4294967296) : s0 1 x = rr x 7 ^^^ rr x 18 ^^^ x / 8 := by
  unfold s0 rr
  rw [Nat.mul_one, Nat.and_xor_distrib_right, Nat.and_xor_distrib_right, and_M32 (x >>> 3), Nat.mod_eq_of_lt, Nat.shiftRight_eq_div_pow x 3]
  rw [Nat.shiftRight_eq_div_pow]; omega

theorem s1_rr (x : Nat) (hx : x < 4294967296) : s1 1 x = rr x 17 ^^^ rr x 19 ^^^ x / 1024 := by
  unfold s1 rr
  rw [Nat.mul_one, Nat.and_xor_distrib_right, Nat.and_xor_distrib_right, and_M32 (x >>> 10), Nat.mod_eq_of_lt, Nat.shiftRight_eq_div_pow x 10]
  rw [Nat.shiftRight_eq_div_pow]; omega

theorem e0_rr (x : Nat) : e0 1 x = rr x 2 ^^^ rr x 13 ^^^ rr x 22 := by
  unfold e0 rr
  rw [Nat.mul_one, Nat.and_xor_distrib_right, Nat.and_xor_distrib_right]

theorem e1_rr (x : Nat) : e1 1 x = rr x 6 ^^^ rr x 11 ^^^ rr x 25 := by
  unfold e1 rr
  rw [Nat.mul_one, Nat.and_xor_distrib_right, Nat.and_xor_distrib_right]

theorem xor_lt (a b : Nat) (ha : a < 4294967296) (hb : b < 4294967296) : a ^^^ b < 4294967296 := Nat.xor_lt_two_pow (n := 32) ha hb

/-- a sum that is kept in a word -/
theorem and_M32_1 (x : Nat) : x &&& M32 * 1 = x % 4294967296 := by rw [Nat.mul_one, and_M32]

/-- the words that follow: sixteen at the front, each next one behind -/
def ext (W : List Nat) : List Nat := W ++ [wn 1 (W.drop (W.length - 16))]

def grow : Nat → List Nat → List Nat
  | 0, W => W
  | n + 1, W => grow n (ext W)

theorem grow_succ (n : Nat) (W : List Nat) : grow (n + 1) W = ext (grow n W) := by
  induction n generalizing W with
  | zero => rfl
  | succ n ih => rw [grow, ih]; rfl

theorem ext_len (W : List Nat) : (ext W).length = W.length + 1 := by simp [ext]

theorem grow_len (n : Nat) (W : List Nat) : (grow n W).length = W.length + n := by
  induction n with
  | zero => rfl
  | succ n ih => rw [grow_succ, ext_len, ih]; omega

theorem ext_cons (x : Nat) (W : List Nat) (h : 16 ≤ W.length) : ext (x :: W) = x :: ext W := by
  have e : (x :: W).length - 16 = (W.length - 16) + 1 := by simp only [List.length_cons]; omega
  unfold ext
  rw [e, List.drop_succ_cons]; rfl

theorem grow_cons (n x : Nat) (W : List Nat) (h : 16 ≤ W.length) : grow n (x :: W) = x :: grow n W := by
  induction n generalizing W with
  | zero => rfl
  | succ n ih =>
    have h2 := ext_len W
    rw [grow, ext_cons x W h, ih _ (by omega)]; rfl

theorem grow_shift (n x : Nat) (r : List Nat) (h : r.length = 15) : grow (n + 1) (x :: r) = x :: grow n (r ++ [wn 1 (x :: r)]) := by
  have e : ext (x :: r) = x :: (r ++ [wn 1 (x :: r)]) := by
    have : (x :: r).length - 16 = 0 := by simp only [List.length_cons]; omega
    unfold ext; rw [this]; rfl
  rw [grow, e, grow_cons n x _ (by simp; omega)]

/-- the state behind t rounds -/
def rr64 (W : List Nat) (h : St) : Nat → St
  | 0 => h
  | t + 1 => rnd 1 (K.getD t 0) (W.getD t 0) (rr64 W h t)

def rnz (ks W : List Nat) (h : St) : St := (ks.zip W).foldl (fun s p => rnd 1 p.1 p.2 s) h

theorem rnds_grow (ks : List Nat) (n : Nat) (w : List Nat) (s : St) (hw : w.length = 16) (hn : ks.length ≤ n) : rnds 1 ks w s = rnz ks (grow n w) s := by
  induction ks generalizing n w s with
  | nil => rfl
  | cons k ks ih =>
    match w, hw, n, hn with
    | x :: r, hw, n + 1, hn =>
      simp only [List.length_cons] at hw hn
      rw [rnds_cons, grow_shift n x r (by omega)]
      unfold rnz
      rw [List.zip_cons_cons, List.foldl_cons]
      exact ih n _ _ (by simp; omega) (by omega)

theorem rr64_take (W : List Nat) (h : St) (t : Nat) (ht : t ≤ 64) (hW : 64 ≤ W.length) : rr64 W h t = ((K.zip W).take t).foldl (fun s p => rnd 1 p.1 p.2 s) h := by
  have hK : K.length = 64 := rfl
  induction t with
  | zero => rfl
  | succ t ih =>
    have hl : t < (K.zip W).length := by rw [List.length_zip]; omega
    rw [rr64, ih (by omega), List.take_succ_eq_append_getElem hl, List.foldl_append, List.getElem_zip]
    simp only [List.foldl_cons, List.foldl_nil]
    rw [List.getD_eq_getElem?_getD, List.getD_eq_getElem?_getD, List.getElem?_eq_getElem (by omega), List.getElem?_eq_getElem (by omega)]
    rfl

theorem grow_add (m n : Nat) (W : List Nat) : grow (m + n) W = grow n (grow m W) := by
  induction m generalizing W with
  | zero => rw [Nat.zero_add]; rfl
  | succ m ih => rw [Nat.succ_add_eq_add_succ, Nat.add_succ, grow, ih]; rfl

theorem grow_pre (n : Nat) (W : List Nat) : ∃ r, grow n W = W ++ r := by
  induction n generalizing W with
  | zero => exact ⟨[], by simp [grow]⟩
  | succ n ih =>
    obtain ⟨r, hr⟩ := ih (ext W)
    exact ⟨_, by rw [grow, hr, ext, List.append_assoc]⟩

theorem rr64_congr (W V : List Nat) (h : St) (t : Nat) (hV : ∀ i, i < t → W.getD i 0 = V.getD i 0) : rr64 W h t = rr64 V h t := by
  induction t with
  | zero => rfl
  | succ t ih => rw [rr64, rr64, ih fun i hi => hV i (by omega), hV t (by omega)]

theorem cmp_grow (h : St) (w : List Nat) (hw : w.length = 16) : cmp 1 h w = addS 1 h (rr64 (grow 48 w) h 64) := by
  have h64 := grow_len 64 w
  have h48 := grow_len 48 w
  have hK : K.length = 64 := rfl
  have key : rnz K (grow 64 w) h = rr64 (grow 48 w) h 64 := by
    obtain ⟨r, hr⟩ := grow_pre 16 (grow 48 w)
    have e : grow 64 w = grow 48 w ++ r := by rw [← hr, ← grow_add 48 16]
    rw [rr64_congr (grow 48 w) (grow 64 w) h 64 fun i hi => by rw [e, List.getD_eq_getElem?_getD, List.getD_eq_getElem?_getD, List.getElem?_append_left (by omega)],
      rr64_take _ _ _ (by omega) (by omega), List.take_of_length_le (by rw [List.length_zip]; omega)]
    unfold rnz
    rfl
  unfold cmp
  rw [rnds_grow K 64 w h hw (by omega), key]

end Go.Proofs.YtonpalaopnfffaaGreatDoor.Sh
