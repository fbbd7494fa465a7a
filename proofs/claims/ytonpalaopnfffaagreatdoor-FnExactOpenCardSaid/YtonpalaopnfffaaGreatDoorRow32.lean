/- ROWS OF WORDS AND OF BYTES in memory. -/
import Derived.Test.YtonpalaopnfffaaGreatDoorLane
import Derived.Test.YtonpalaopnfffaaGreatDoorC1
import Derived.Test.YtonpalaopnfffaaGreatDoorStep
import Derived.Laws.BitsAllLaws
import Derived.Test.YtonpalaopnfffaaGreatDoorLem
import Derived.Maps.AppendAt
import Derived.Test.YtonpalaopnfffaaGreatDoorShaW
namespace Go.Proofs.YtonpalaopnfffaaGreatDoor
set_option linter.unusedVariables false
set_option maxRecDepth 4000
open Go.ChangeShapes Go.WideShapes Go.ChangeAt Go.RowKit
open Go.ChangeMaps (open_string shut_string)
open Sh

theorem u32_shl_nat (x k : Nat) : ((x : Int) * 2 ^ k) % 4294967296 = ((x * 2 ^ k % 4294967296 : Nat) : Int) := by
  have : ((2 : Int) ^ k) = ((2 ^ k : Nat) : Int) := by simp
  rw [this]; omega

theorem shr_cast (x n : Nat) : ((x / 2 ^ n : Nat) : Int) = (x : Int) / 2 ^ n := by simp

theorem l03Turn_call (x n : Nat) (hx : x < 4294967296) (h1 : 1 ≤ n) (h2 : n ≤ 31) (w : World) :
    Calls Tryz.prog 93 #[.int .u32 (x : Int), .int .u64 (n : Int)] w fun e w' => e = .returned (.int .u32 ((rr x n : Nat) : Int)) ∧ w = w' := by
  have ho := u32_or_nat (x / 2 ^ n) (x * 2 ^ (32 - n) % 4294967296) (by have := Nat.div_le_self x (2 ^ n); omega) (Nat.mod_lt _ (by omega))
  rw [turn_or x n hx h1 h2] at ho
  generalize hr : rr x n = r at ho
  go_enter Tryz.func93, Tryz.ntmps93
  go_wp2
  go_ret
  exact ⟨ret_int (by show bits .or .u32 ((x : Int) / 2 ^ n) ((x : Int) * 2 ^ (32 - n) % 4294967296) = (r : Int); rw [u32_shl_nat, ← shr_cast]; exact ho), rfl⟩

theorem and31 (n : Nat) (h1 : 1 ≤ n) (h2 : n ≤ 31) : bits .and .u64 (IntKind.u64.wrap (-(n : Int))) 31 = ((32 - n : Nat) : Int) := by
  have e : IntKind.u64.wrap (-(n : Int)) = ((18446744073709551616 - n : Nat) : Int) := by
    rw [IntKind.wrap_u64]; omega
  have h := u64_and_nat (18446744073709551616 - n) 31 (by omega) (by omega)
  rw [e]
  refine h.trans ?_
  have h2 := Nat.and_two_pow_sub_one_eq_mod (18446744073709551616 - n) 5
  have h3 : (2 ^ 5 - 1 : Nat) = 31 := rfl
  rw [h3] at h2
  rw [h2]; omega

theorem rot_call (x n : Nat) (hx : x < 4294967296) (h1 : 1 ≤ n) (h2 : n ≤ 31) (w : World) :
    Calls Tryz.prog 108 #[.int .u32 (x : Int), .int .i64 (-(n : Int))] w fun e w' => e = .returned (.int .u32 ((rr x n : Nat) : Int)) ∧ w = w' := by
  obtain ⟨m, hm⟩ : ∃ m, m = 32 - n := ⟨_, rfl⟩
  obtain rfl : n = 32 - m := by omega
  have hm1 : 1 ≤ m := by omega
  have hm2 : m ≤ 31 := by omega
  have hand := and31 (32 - m) h1 h2
  rw [← hm] at hand
  have ho := u32_or_nat (x * 2 ^ m % 4294967296) (x / 2 ^ (32 - m)) (Nat.mod_lt _ (by omega)) (by have := Nat.div_le_self x (2 ^ (32 - m)); omega)
  have hT := turn_or x (32 - m) hx h1 h2
  rw [← hm, Nat.or_comm] at hT
  rw [hT] at ho
  clear hT hm h1 h2
  generalize hr : rr x (32 - m) = r at ho
  go_enter Tryz.func108, Tryz.ntmps108
  go_wp2
  go_ret
  exact ⟨ret_int (by show bits .or .u32 ((x : Int) * 2 ^ m % 4294967296) ((x : Int) / 2 ^ (32 - m)) = (r : Int); rw [u32_shl_nat, ← shr_cast]; exact ho), rfl⟩

theorem rotr_call (x n : Nat) (hx : x < 4294967296) (h1 : 1 ≤ n) (h2 : n ≤ 31) (w : World) :
    Calls Tryz.prog 105 #[.int .u32 (x : Int), .int .i64 (n : Int)] w fun e w' => e = .returned (.int .u32 ((rr x n : Nat) : Int)) ∧ w = w' := by
  go_enter Tryz.func105, Tryz.ntmps105
  go_wp2_with fail
  refine (rot_call x n hx h1 h2 _).mono ?_
  rintro e w1 ⟨rfl, rfl⟩
  go_wp2
  go_ret
  exact ⟨rfl, rfl⟩

theorem l03Turn_i (x : Nat) (n : Int) (hx : x < 4294967296) (h1 : 1 ≤ n) (h2 : n ≤ 31) (w : World) :
    Calls Tryz.prog 93 #[.int .u32 (x : Int), .int .u64 n] w fun e w' => e = .returned (.int .u32 ((rr x n.toNat : Nat) : Int)) ∧ w = w' := by
  obtain ⟨m, rfl⟩ := Int.eq_ofNat_of_zero_le (show 0 ≤ n by omega)
  exact l03Turn_call x m hx (by omega) (by omega) w

theorem l03Turn_q (x : Nat) (n : Int) (hx : x < 4294967296) (h1 : 1 ≤ n) (h2 : n ≤ 31) (w : World) :
    Calls Tryz.prog 93 #[.int .u32 (x : Int), .int .u64 n] w fun e w' => e = .returned (.int .u32 ((rr x n.toNat : Nat) : Int)) ∧ w' = w :=
  (l03Turn_i x n hx h1 h2 w).mono fun e w' h => ⟨h.1, h.2.symm⟩

theorem rotr_i (x : Nat) (n : Int) (hx : x < 4294967296) (h1 : 1 ≤ n) (h2 : n ≤ 31) (w : World) :
    Calls Tryz.prog 105 #[.int .u32 (x : Int), .int .i64 n] w fun e w' => e = .returned (.int .u32 ((rr x n.toNat : Nat) : Int)) ∧ w = w' := by
  obtain ⟨m, rfl⟩ := Int.eq_ofNat_of_zero_le (show 0 ≤ n by omega)
  exact rotr_call x m hx (by omega) (by omega) w

theorem rotr_q (x : Nat) (n : Int) (hx : x < 4294967296) (h1 : 1 ≤ n) (h2 : n ≤ 31) (w : World) :
    Calls Tryz.prog 105 #[.int .u32 (x : Int), .int .i64 n] w fun e w' => e = .returned (.int .u32 ((rr x n.toNat : Nat) : Int)) ∧ w' = w :=
  (rotr_i x n hx h1 h2 w).mono fun e w' h => ⟨h.1, h.2.symm⟩

theorem grow_drop (G : List Nat) (m : Nat) (h : G.length = 16 + m) : wn 1 (G.drop m) = (G.getD m 0 + G.getD (m + 9) 0 + s0 1 (G.getD (m + 1) 0) + s1 1 (G.getD (m + 14) 0)) % 4294967296 := by
  have e : ∀ j, (G.drop m).getD j 0 = G.getD (m + j) 0 := fun j => by simp [List.getD_eq_getElem?_getD]
  unfold wn
  rw [and_M32_1, e, e, e, e]; rfl

theorem small_append (G : List Nat) (x : Nat) (hG : ∀ j, G.getD j 0 < 4294967296) (hx : x < 4294967296) : ∀ j, (G ++ [x]).getD j 0 < 4294967296 := by
  intro j
  rw [List.getD_eq_getElem?_getD, List.getElem?_append]
  split
  · rw [← List.getD_eq_getElem?_getD]; exact hG j
  · by_cases h : j - G.length = 0
    · rw [h]; exact hx
    · rw [List.getElem?_eq_none (by simp; omega)]; exact Nat.lt_of_le_of_lt (Nat.zero_le _) hx

/-- what a schedule's next word is, as the walk spells it -/
theorem next_word (p q x y : Nat) (hx : x < 4294967296) (hy : y < 4294967296) :
    IntKind.u32.wrap (IntKind.u32.wrap (IntKind.u32.wrap ((p : Int) + q) + ((s0 1 x : Nat) : Int)) + ((s1 1 y : Nat) : Int)) = (((p + q + s0 1 x + s1 1 y) % 4294967296 : Nat) : Int) := by
  rw [IntKind.wrap_u32', IntKind.wrap_u32', IntKind.wrap_u32']; omega

theorem xor_one (a b : Nat) (ha : a < 4294967296) (hb : b < 4294967296) : bits .xor .u32 (a : Int) (b : Int) = ((a ^^^ b : Nat) : Int) := u32_xor_nat a b ha hb

theorem s0_bits (x : Nat) (hx : x < 4294967296) : bits .xor .u32 ((rr x 7 ^^^ rr x 18 : Nat) : Int) ((x : Int) / 8) = ((s0 1 x : Nat) : Int) := by
  have e : (x : Int) / 8 = ((x / 8 : Nat) : Int) := by omega
  rw [e, u32_xor_nat _ _ (xor_lt _ _ (rr_lt _ _) (rr_lt _ _)) (by omega), s0_rr x hx]

theorem s1_bits (x : Nat) (hx : x < 4294967296) : bits .xor .u32 ((rr x 17 ^^^ rr x 19 : Nat) : Int) ((x : Int) / 1024) = ((s1 1 x : Nat) : Int) := by
  have e : (x : Int) / 1024 = ((x / 1024 : Nat) : Int) := by omega
  rw [e, u32_xor_nat _ _ (xor_lt _ _ (rr_lt _ _) (rr_lt _ _)) (by omega), s1_rr x hx]

theorem three_xor (p q r : Nat) (hp : p < 4294967296) (hq : q < 4294967296) (hr : r < 4294967296) : bits .xor .u32 ((p ^^^ q : Nat) : Int) (r : Int) = ((p ^^^ q ^^^ r : Nat) : Int) :=
  u32_xor_nat _ _ (xor_lt _ _ hp hq) hr

theorem e1_bits (x : Nat) : bits .xor .u32 ((rr x 6 ^^^ rr x 11 : Nat) : Int) ((rr x 25 : Nat) : Int) = ((e1 1 x : Nat) : Int) := by
  rw [three_xor _ _ _ (rr_lt _ _) (rr_lt _ _) (rr_lt _ _), e1_rr]

theorem e0_bits (x : Nat) : bits .xor .u32 ((rr x 2 ^^^ rr x 13 : Nat) : Int) ((rr x 22 : Nat) : Int) = ((e0 1 x : Nat) : Int) := by
  rw [three_xor _ _ _ (rr_lt _ _) (rr_lt _ _) (rr_lt _ _), e0_rr]

theorem not_bits (e : Nat) (he : e < 4294967296) : bits .xor .u32 (if IntKind.u32.signed = true then -1 else IntKind.u32.max) (e : Int) = ((e ^^^ M32 : Nat) : Int) := by
  have : (if IntKind.u32.signed = true then -1 else IntKind.u32.max) = ((4294967295 : Nat) : Int) := rfl
  rw [this, u32_xor_nat _ _ (by omega) he, Nat.xor_comm]; rfl

theorem and_lt2 (a b : Nat) (hb : b < 4294967296) : a &&& b < 4294967296 := Nat.and_lt_two_pow (n := 32) _ hb

theorem ch_bits (e f g : Nat) (he : e < 4294967296) (hf : f < 4294967296) (hg : g < 4294967296) :
    bits .xor .u32 ((e &&& f : Nat) : Int) (((e ^^^ M32) &&& g : Nat) : Int) = ((chS 1 e f g : Nat) : Int) := by
  rw [u32_xor_nat _ _ (and_lt2 _ _ hf) (and_lt2 _ _ hg), chS, Nat.mul_one]

theorem maj_bits (a b c : Nat) (ha : a < 4294967296) (hb : b < 4294967296) (hc : c < 4294967296) :
    bits .xor .u32 (((a &&& b) ^^^ (a &&& c) : Nat) : Int) ((b &&& c : Nat) : Int) = ((majS a b c : Nat) : Int) :=
  u32_xor_nat _ _ (xor_lt _ _ (and_lt2 _ _ hb) (and_lt2 _ _ hc)) (and_lt2 _ _ hc)

theorem M32_lt : M32 < 4294967296 := by decide

theorem x_bits (h e f g k w : Nat) : (((h : Int) + ((e1 1 e : Nat) : Int) + ((chS 1 e f g : Nat) : Int) + (k : Int)) % 4294967296 + (w : Int)) % 4294967296 = (((h + e1 1 e + chS 1 e f g + k * 1 + w) % 4294967296 : Nat) : Int) := by
  rw [Nat.mul_one]; omega

theorem rnd_eq (k w a b c d e f g h : Nat) :
    rnd 1 k w ⟨a, b, c, d, e, f, g, h⟩ = ⟨((h + e1 1 e + chS 1 e f g + k * 1 + w) % 4294967296 + (e0 1 a + majS a b c) % 4294967296) % 4294967296, a, b, c, (d + (h + e1 1 e + chS 1 e f g + k * 1 + w) % 4294967296) % 4294967296, e, f, g⟩ := by
  unfold rnd
  rw [and_M32_1, and_M32_1]
  show St.mk ((xS 1 k w ⟨a, b, c, d, e, f, g, h⟩ + yS 1 ⟨a, b, c, d, e, f, g, h⟩) % 4294967296) a b c ((d + xS 1 k w ⟨a, b, c, d, e, f, g, h⟩) % 4294967296) e f g = _
  unfold xS yS
  dsimp only
  congr 1 <;> omega

end Go.Proofs.YtonpalaopnfffaaGreatDoor

namespace Go.Proofs.YtonpalaopnfffaaGreatDoor
set_option linter.unusedVariables false
open Go.ChangeShapes Go.WideShapes Go.ChangeAt Go.RowKit

theorem append_keeps {P : Program} (w w' : World) (base : Nat) (t ty e : TypeId) (i : TypeInfo) (z : Value) (ht : P.underlying t = some (.slice e)) (hi : P.info? e = some i) (hz : i.zero = some z)
    (hsize : i.size = 1) (hzs : z.cells.size = 1)
    (g n cap : Nat) (xs : List Value) (hown : w.ownsRow base e 1 (.slice (some ⟨g, 0, none⟩) n cap) n xs)
    (a : Addr) (m c : Nat) (news : List Value) (hl : news.length = m) (hnews : ∀ j u, news[j]? = some u → w.cell? (a.add j) = some u) (h1 : ∀ u ∈ news, u.oneCell' = true)
    (h63 : n + m ≤ maxLen) (hbytes : (n + m) * i.bytes ≤ 140737488355328) (v' : Value)
    (hr : (Builtin.append_ #[t, t] ty #[.slice (some ⟨g, 0, none⟩) n cap, .slice (some a) m c]).run P w = .ok v' w') (hown' : w'.ownsRow base e 1 v' (n + m) (xs ++ news)) :
    ∀ j u, xs[j]? = some u → w'.cell? ⟨g, j, none⟩ = some u := by
  intro j u hj
  have hadd : (⟨g, 0, none⟩ : Addr).add j = ⟨g, j, none⟩ := by unfold Addr.add; split <;> simp_all
  have hlen := hown.1
  have hsmall : n + m ≤ 9223372036854775807 := by simp only [maxLen] at h63; omega
  have hgl := (hown.lt g rfl).2
  rcases hown.2 with ⟨hv, _⟩ | ⟨g2, cap2, cur, hv, hbg, hg, hnc, hcm, hcs, htake⟩
  · cases hv
  · injection hv with e1 e2 e3
    injection e1 with e1
    injection e1 with e1
    subst e1 e3
    by_cases hroom : n + m ≤ cap
    · have hr2 := run_append_room (P := P) w t ty e i ht hi g n cap cur hg a m c news (by rw [hsize, Nat.mul_one]; exact hl) hnews h1 hroom (by rw [hsize, hcs]; omega)
      rw [hr] at hr2
      injection hr2 with e4 e5
      subst e4
      have := hown'.cells (g := g) rfl j u (by rw [List.getElem?_append_left (by rcases List.getElem?_eq_some_iff.1 hj with ⟨h, _⟩; exact h)]; exact hj)
      rwa [hadd] at this
    · have holds : ∀ j u, xs[j]? = some u → w.cell? ((⟨g, 0, none⟩ : Addr).add j) = some u := hown.cells (g := g) rfl
      have hr2 := run_append_grow (P := P) w t ty e i z ht hi hz ⟨g, 0, none⟩ n cap xs (by rw [hsize]; exact hown.1) holds a m c news (by rw [hsize, Nat.mul_one]; exact hl) hnews (by omega) (by omega) (growslice_fits (by omega) hbytes)
      rw [hr] at hr2
      injection hr2 with e4 e5
      subst e5
      have h5 := holds j u hj
      rw [hadd] at h5
      rw [← h5]
      exact World.cell?_of_block (a := ⟨g, j, none⟩) (heap_alloc_old w.drew _ hgl)

/-- at a step of a region that draws -/
theorem step_append_keeps {P : Program} (w : World) {ops : Array Oper} {o : Oper} {a : Act} {K : Act → World → Prop} {Q : Exit → Act → World → Prop} {E : Prop} (hgd : o.guard = none) (s x : Operand) (t : TypeId)
    (ho : o.op = .call { callee := .builtin .append, args := #[s, x], argTypes := #[t, t] })
    (base : Nat) (e : TypeId) (i : TypeInfo) (z : Value) (bytes : Nat) (ht : P.underlying t = some (.slice e)) (hi : P.info? e = some i) (hz : i.zero = some z)
    (hsize : i.size = 1) (hby : i.bytes = bytes) (hzs : z.cells.size = 1)
    (g n cap : Nat) (xs : List Value) (hs : a.eval s = .slice (some ⟨g, 0, none⟩) n cap) (hown : w.ownsRow base e 1 (.slice (some ⟨g, 0, none⟩) n cap) n xs)
    (ad : Addr) (m c : Nat) (news : List Value) (hx : a.eval x = .slice (some ad) m c) (hl : news.length = m) (hnews : ∀ j u, news[j]? = some u → w.cell? (ad.add j) = some u) (h1 : ∀ u ∈ news, u.oneCell' = true)
    (hm : 0 < m) (h63 : n + m ≤ maxLen) (hbytes : (n + m) * bytes ≤ 140737488355328) (hbase : base ≤ w.heap.size)
    (h : ∀ g2 cap2 w', w'.ownsRow base e 1 (.slice (some ⟨g2, 0, none⟩) (n + m) cap2) (n + m) (xs ++ news) → w.grownBy w' (some g) → (∀ j u, xs[j]? = some u → w'.cell? ⟨g, j, none⟩ = some u) → K (a.put o.dst (.slice (some ⟨g2, 0, none⟩) (n + m) cap2)) w') :
    if Region.wanted o (yielded ops a.tmps) = true then Oper.wp P o a w K Q else E := by
  have hw : Region.wanted o (yielded ops a.tmps) = true := by simp [Region.wanted, hgd]
  rw [if_pos hw]
  obtain ⟨g2, cap2, w', hr, h2, h3, h4, h5⟩ := run_append_lies (P := P) w t o.type base e i z 1 bytes ht hi hz hsize hby hzs (by omega) _ n xs hown ad m c news (by rw [Nat.mul_one]; exact hl) hnews h1 hm h63 hbytes hbase w.heap.size rfl
  have hk := append_keeps w w' base t o.type e i z ht hi hz hsize hzs g n cap xs hown ad m c news hl hnews h1 h63 (by rw [hby]; exact hbytes) _ hr h2
  unfold Oper.wp execOp
  simp only [ho, resolve, invoke, builtin, Sem.run_bind, Sem.run_pure, Result.andThen_ok, List.map_toArray, List.map_cons, List.map_nil, hs, hx, hr]
  exact h g2 cap2 w' h2 h3 hk

end Go.Proofs.YtonpalaopnfffaaGreatDoor

namespace Go.Proofs.YtonpalaopnfffaaGreatDoor
set_option linter.unusedVariables false
set_option maxRecDepth 4000
open Go.ChangeShapes Go.WideShapes Go.ChangeAt Go.RowKit
open Go.ChangeMaps (open_string shut_string)
open Sh

theorem Tryz.info132 : (Tryz.prog.info? 132).map (fun i => (i.zero, i.size, i.bytes)) = some (some (.int .u32 0), 1, 4) := by kernel_rfl

/-- a row of words -/
def cells32 (l : List Nat) : List Value := l.map fun x => .int .u32 ((x : Nat) : Int)

theorem cells32_len (l : List Nat) : (cells32 l).length = l.length := by simp [cells32]

theorem cells32_get (l : List Nat) (j : Nat) (hj : j < l.length) : (cells32 l)[j]? = some (.int .u32 ((l.getD j 0 : Nat) : Int)) := by
  unfold cells32
  rw [List.getElem?_map, List.getElem?_eq_getElem hj, List.getD_eq_getElem?_getD, List.getElem?_eq_getElem hj]; rfl

theorem cells32_append (a b : List Nat) : cells32 (a ++ b) = cells32 a ++ cells32 b := by simp [cells32]

/-- cells that read as bytes -/
def B8At (w : World) (g o : Nat) (l : List UInt8) : Prop := g < w.heap.size ∧ ∀ j, j < l.length → w.cell? ⟨g, o + j, none⟩ = some (.int .u8 (((l.getD j 0).toNat : Nat) : Int))

/-- cells that read as words -/
def W32At (w : World) (g : Nat) (l : List Nat) : Prop := g < w.heap.size ∧ ∀ j, j < l.length → w.cell? ⟨g, j, none⟩ = some (.int .u32 ((l.getD j 0 : Nat) : Int))

theorem W32At.below {w w' : World} {g : Nat} {l : List Nat} (h : W32At w g l) (hb : Below w.heap.size w w') : W32At w' g l :=
  ⟨Nat.lt_of_lt_of_le h.1 hb.size, fun j hj => (hb.cell (p := ⟨g, j, none⟩) h.1).trans (h.2 j hj)⟩

theorem w32_news {w : World} {g : Nat} {l : List Nat} (h : W32At w g l) : ∀ j u, (cells32 l)[j]? = some u → w.cell? ((⟨g, 0, none⟩ : Addr).add j) = some u := by
  intro j u hj
  have hadd : (⟨g, 0, none⟩ : Addr).add j = ⟨g, j, none⟩ := by unfold Addr.add; split <;> simp_all
  obtain ⟨hl, _⟩ := List.getElem?_eq_some_iff.1 hj
  rw [cells32_len] at hl
  rw [cells32_get l j hl] at hj
  rw [hadd, h.2 j hl, hj]

theorem row_words {w : World} {base : Nat} {t : TypeId} {v : Value} {n : Nat} {L : List Nat} (h : w.ownsRow base t 1 v n (cells32 L)) (hn : n = L.length) (hp : 0 < n) :
    ∃ g cap, v = .slice (some ⟨g, 0, none⟩) n cap ∧ base ≤ g ∧ W32At w g L := by
  have hlt := h.lt
  rcases h.2 with ⟨rfl, h0⟩ | ⟨g, cap, cur, rfl, hb, hg, hnc, hcm, hcs, htake⟩
  · omega
  · have hg2 := hlt g rfl
    refine ⟨g, cap, rfl, hg2.1, hg2.2, fun j hj => ?_⟩
    have hadd : (⟨g, 0, none⟩ : Addr).add j = ⟨g, j, none⟩ := by unfold Addr.add; split <;> simp_all
    rw [← hadd, h.cells (g := g) rfl j _ (List.getElem?_eq_getElem (by rw [cells32_len]; exact hj))]
    simp [cells32, List.getD_eq_getElem?_getD, List.getElem?_eq_getElem hj]

theorem row_built (w : World) (base : Nat) (t : TypeId) (cs : Array Value) (n : Nat) (hb : base ≤ w.heap.size) (hn : cs.size = n) (hm : n ≤ maxLen) :
    (w.alloc (.cells cs t)).ownsRow base t 1 (.slice (some ⟨w.heap.size, 0, none⟩) n n) n cs.toList :=
  ⟨by simp [hn], .inr ⟨w.heap.size, n, cs, rfl, hb, heap_alloc_new w _, Nat.le_refl _, hm, by omega, by rw [Nat.mul_one, ← hn]; exact List.take_of_length_le (by simp)⟩⟩

theorem K_lt (n : Nat) : K.getD n 0 < 4294967296 := by
  rw [List.getD_eq_getElem?_getD]
  cases h : K[n]? with
  | none => show 0 < _; omega
  | some x => exact K_small x (List.mem_of_getElem? h)

theorem w4_lt (a b c d : UInt8) : w4 a b c d < 4294967296 := by
  have := a.toNat_lt
  have := b.toNat_lt
  have := c.toNat_lt
  have := d.toNat_lt
  unfold w4; omega

theorem w16_len (l : List UInt8) (n : Nat) : (w16 l n).length = n := by simp [w16]

theorem w16_snoc (l : List UInt8) (n : Nat) : w16 l (n + 1) = w16 l n ++ [wAt l n] := by simp [w16, List.range_succ]

theorem w16_small (l : List UInt8) (n : Nat) : ∀ j, (w16 l n).getD j 0 < 4294967296 := by
  intro j
  unfold w16
  rw [List.getD_eq_getElem?_getD, List.getElem?_map]
  cases (List.range n)[j]? with
  | none => show 0 < _; omega
  | some i => exact w4_lt _ _ _ _

theorem or_low (A B k : Nat) (hB : B < 2 ^ k) : 2 ^ k * A ||| B = 2 ^ k * A + B := (Nat.two_pow_add_eq_or_of_lt hB A).symm

theorem stL_lt (s : St) (h : okS s) (j : Nat) : (stL s).getD j 0 < 4294967296 := by
  obtain ⟨ha, hb, hc, hd, he, hf, hg, hh⟩ := h
  match j with
  | 0 => exact ha
  | 1 => exact hb
  | 2 => exact hc
  | 3 => exact hd
  | 4 => exact he
  | 5 => exact hf
  | 6 => exact hg
  | 7 => exact hh
  | j + 8 => show 0 < _; omega

theorem stL_add (s r : St) (j : Nat) (h : j < 8) : (stL (addS 1 s r)).take (j + 1) = (stL (addS 1 s r)).take j ++ [((stL s).getD j 0 + (stL r).getD j 0) % 4294967296] := by
  have hl : (stL (addS 1 s r)).length = 8 := rfl
  rw [List.take_succ_eq_append_getElem (by omega)]
  congr 1
  have e : ∀ x : Nat, x &&& M32 * 1 = x % 4294967296 := and_M32_1
  match j, h with
  | 0, _ => exact congrArg (fun x => [x]) (e _)
  | 1, _ => exact congrArg (fun x => [x]) (e _)
  | 2, _ => exact congrArg (fun x => [x]) (e _)
  | 3, _ => exact congrArg (fun x => [x]) (e _)
  | 4, _ => exact congrArg (fun x => [x]) (e _)
  | 5, _ => exact congrArg (fun x => [x]) (e _)
  | 6, _ => exact congrArg (fun x => [x]) (e _)
  | 7, _ => exact congrArg (fun x => [x]) (e _)

theorem ownsRow_base {w : World} {base base2 : Nat} {t : TypeId} {v : Value} {n : Nat} {xs : List Value} (h : w.ownsRow base t 1 v n xs) (hb : base2 ≤ base) : w.ownsRow base2 t 1 v n xs := by
  refine ⟨h.1, ?_⟩
  rcases h.2 with h0 | ⟨g, cap, cur, hv, hbg, r⟩
  · exact .inl h0
  · exact .inr ⟨g, cap, cur, hv, by omega, r⟩

end Go.Proofs.YtonpalaopnfffaaGreatDoor
