/- The name of a number below 100000, in words: two blocks, each of one compression. -/
import Derived.Test.YtabehlipgfihkaaDoorShaW
import Derived.Test.YtabehlipgfihkaaDoorName
namespace Go.Proofs.YtabehlipgfihkaaDoor
set_option linter.unusedVariables false
set_option maxRecDepth 10000
open Sh

theorem w4_wB (x : Nat) (h : x < 4294967296) : w4 (UInt8.ofNat (x / 16777216)) (UInt8.ofNat (x / 65536)) (UInt8.ofNat (x / 256)) (UInt8.ofNat x) = x := by
  unfold w4
  rw [UInt8.toNat_ofNat', UInt8.toNat_ofNat', UInt8.toNat_ofNat', UInt8.toNat_ofNat']
  omega

theorem end_one (s : St) (l p : List UInt8) (hl : padL (64 + l.length) = p) (h : (l ++ p).length = 64) : endL s 64 l = outB (stL (cmp 1 s (w16 (l ++ p) 16))) := by
  unfold endL
  rw [hl, h, show 64 / 64 = 1 from rfl, blkN, blkN, List.take_of_length_le (by omega)]

theorem end_out (s t : St) (ht : okS t) : endL s 64 (outB (stL t)) = outB (stL (cmp 1 s (outW t))) := by
  obtain ⟨a, b, c, d, e, f, g, h⟩ := t
  obtain ⟨ha, hb, hc, hd, he, hf, hg, hh⟩ := ht
  rw [end_one s _ [128, 0, 0, 0, 0, 0, 0, 0, 0, 0, 0, 0, 0, 0, 0, 0, 0, 0, 0, 0, 0, 0, 0, 0, 0, 0, 0, 0, 0, 0, 3, 0] (by rw [outB_len]; show padL 96 = _; decide +kernel) (by rw [List.length_append, outB_len]; rfl)]
  congr 3
  show [w4 (UInt8.ofNat (a / 16777216)) (UInt8.ofNat (a / 65536)) (UInt8.ofNat (a / 256)) (UInt8.ofNat a), w4 (UInt8.ofNat (b / 16777216)) (UInt8.ofNat (b / 65536)) (UInt8.ofNat (b / 256)) (UInt8.ofNat b), w4 (UInt8.ofNat (c / 16777216)) (UInt8.ofNat (c / 65536)) (UInt8.ofNat (c / 256)) (UInt8.ofNat c), w4 (UInt8.ofNat (d / 16777216)) (UInt8.ofNat (d / 65536)) (UInt8.ofNat (d / 256)) (UInt8.ofNat d), w4 (UInt8.ofNat (e / 16777216)) (UInt8.ofNat (e / 65536)) (UInt8.ofNat (e / 256)) (UInt8.ofNat e), w4 (UInt8.ofNat (f / 16777216)) (UInt8.ofNat (f / 65536)) (UInt8.ofNat (f / 256)) (UInt8.ofNat f), w4 (UInt8.ofNat (g / 16777216)) (UInt8.ofNat (g / 65536)) (UInt8.ofNat (g / 256)) (UInt8.ofNat g), w4 (UInt8.ofNat (h / 16777216)) (UInt8.ofNat (h / 65536)) (UInt8.ofNat (h / 256)) (UInt8.ofNat h), w4 128 0 0 0, w4 0 0 0 0, w4 0 0 0 0, w4 0 0 0 0, w4 0 0 0 0, w4 0 0 0 0, w4 0 0 0 0, w4 0 0 3 0] = [a, b, c, d, e, f, g, h, 2147483648, 0, 0, 0, 0, 0, 0, 768]
  rw [w4_wB a ha, w4_wB b hb, w4_wB c hc, w4_wB d hd, w4_wB e he, w4_wB f hf, w4_wB g hg, w4_wB h hh]
  rfl

theorem dig1 (k : Nat) (h1 : k < 10) : Lib.decDigits k = [UInt8.ofNat (48 + k)] := by
  rw [Lib.decDigits, dif_pos (by omega)]

theorem pad1 : padL (64 + 1) = [128, 0, 0, 0, 0, 0, 0, 0, 0, 0, 0, 0, 0, 0, 0, 0, 0, 0, 0, 0, 0, 0, 0, 0, 0, 0, 0, 0, 0, 0, 0, 0, 0, 0, 0, 0, 0, 0, 0, 0, 0, 0, 0, 0, 0, 0, 0, 0, 0, 0, 0, 0, 0, 0, 0, 0, 0, 0, 0, 0, 0, 2, 8] := by decide +kernel

theorem blk1 (c0 : UInt8) : w16 ([c0] ++ [128, 0, 0, 0, 0, 0, 0, 0, 0, 0, 0, 0, 0, 0, 0, 0, 0, 0, 0, 0, 0, 0, 0, 0, 0, 0, 0, 0, 0, 0, 0, 0, 0, 0, 0, 0, 0, 0, 0, 0, 0, 0, 0, 0, 0, 0, 0, 0, 0, 0, 0, 0, 0, 0, 0, 0, 0, 0, 0, 0, 0, 2, 8]) 16 = [w4 c0 128 0 0, w4 0 0 0 0, w4 0 0 0 0, w4 0 0 0 0, w4 0 0 0 0, w4 0 0 0 0, w4 0 0 0 0, w4 0 0 0 0, w4 0 0 0 0, w4 0 0 0 0, w4 0 0 0 0, w4 0 0 0 0, w4 0 0 0 0, w4 0 0 0 0, w4 0 0 0 0, w4 0 0 2 8] := rfl

theorem in1 (s : St) (k : Nat) (h1 : k < 10) : endL s 64 (Lib.decDigits k) = outB (stL (cmp 1 s (inW k))) := by
  rw [dig1 k h1, end_one s [UInt8.ofNat (48 + k)] _ pad1 rfl, blk1]
  congr 3
  have e0 : n0 k = w4 (UInt8.ofNat (48 + k)) 128 0 0 := by
    unfold n0 t4 w4
    rw [show Nat.blt k 10 = true from Nat.blt_eq.mpr (by omega)]
    rw [show Nat.blt k 100 = true from Nat.blt_eq.mpr (by omega)]
    rw [show Nat.blt k 1000 = true from Nat.blt_eq.mpr (by omega)]
    rw [show Nat.blt k 10000 = true from Nat.blt_eq.mpr (by omega)]
    simp only [cond_true, cond_false]
    simp only [UInt8.toNat_ofNat', UInt8.reduceToNat]
    omega
  have e1 : n1 k = w4 0 0 0 0 := by
    unfold n1 w4
    rw [show Nat.blt k 1000 = true from Nat.blt_eq.mpr (by omega)]
    rw [show Nat.blt k 10000 = true from Nat.blt_eq.mpr (by omega)]
    simp only [cond_true, cond_false]
    simp only [UInt8.toNat_ofNat', UInt8.reduceToNat]
    try omega
  have e15 : n15 k = w4 0 0 2 8 := by
    unfold n15 w4
    rw [show Nat.blt k 10 = true from Nat.blt_eq.mpr (by omega)]
    rw [show Nat.blt k 100 = true from Nat.blt_eq.mpr (by omega)]
    rw [show Nat.blt k 1000 = true from Nat.blt_eq.mpr (by omega)]
    rw [show Nat.blt k 10000 = true from Nat.blt_eq.mpr (by omega)]
    rfl
  show _ = [n0 k, n1 k, 0, 0, 0, 0, 0, 0, 0, 0, 0, 0, 0, 0, 0, n15 k]
  rw [e0, e1, e15]
  rfl

theorem dig2 (k : Nat) (h0 : 10 ≤ k) (h1 : k < 100) : Lib.decDigits k = [UInt8.ofNat (48 + k / 10), UInt8.ofNat (48 + k % 10)] := by
  rw [Lib.decDigits, dif_neg (by omega), dig1 (k / 10) (by omega)]
  rfl

theorem pad2 : padL (64 + 2) = [128, 0, 0, 0, 0, 0, 0, 0, 0, 0, 0, 0, 0, 0, 0, 0, 0, 0, 0, 0, 0, 0, 0, 0, 0, 0, 0, 0, 0, 0, 0, 0, 0, 0, 0, 0, 0, 0, 0, 0, 0, 0, 0, 0, 0, 0, 0, 0, 0, 0, 0, 0, 0, 0, 0, 0, 0, 0, 0, 0, 2, 16] := by decide +kernel

theorem blk2 (c0 c1 : UInt8) : w16 ([c0, c1] ++ [128, 0, 0, 0, 0, 0, 0, 0, 0, 0, 0, 0, 0, 0, 0, 0, 0, 0, 0, 0, 0, 0, 0, 0, 0, 0, 0, 0, 0, 0, 0, 0, 0, 0, 0, 0, 0, 0, 0, 0, 0, 0, 0, 0, 0, 0, 0, 0, 0, 0, 0, 0, 0, 0, 0, 0, 0, 0, 0, 0, 2, 16]) 16 = [w4 c0 c1 128 0, w4 0 0 0 0, w4 0 0 0 0, w4 0 0 0 0, w4 0 0 0 0, w4 0 0 0 0, w4 0 0 0 0, w4 0 0 0 0, w4 0 0 0 0, w4 0 0 0 0, w4 0 0 0 0, w4 0 0 0 0, w4 0 0 0 0, w4 0 0 0 0, w4 0 0 0 0, w4 0 0 2 16] := rfl

theorem in2 (s : St) (k : Nat) (h0 : 10 ≤ k) (h1 : k < 100) : endL s 64 (Lib.decDigits k) = outB (stL (cmp 1 s (inW k))) := by
  rw [dig2 k h0 h1, end_one s [UInt8.ofNat (48 + k / 10), UInt8.ofNat (48 + k % 10)] _ pad2 rfl, blk2]
  congr 3
  have e0 : n0 k = w4 (UInt8.ofNat (48 + k / 10)) (UInt8.ofNat (48 + k % 10)) 128 0 := by
    unfold n0 t4 w4
    rw [show Nat.blt k 10 = false from Bool.eq_false_iff.2 (fun h => by have := Nat.blt_eq.mp h; omega)]
    rw [show Nat.blt k 100 = true from Nat.blt_eq.mpr (by omega)]
    rw [show Nat.blt k 1000 = true from Nat.blt_eq.mpr (by omega)]
    rw [show Nat.blt k 10000 = true from Nat.blt_eq.mpr (by omega)]
    simp only [cond_true, cond_false]
    simp only [UInt8.toNat_ofNat', UInt8.reduceToNat]
    omega
  have e1 : n1 k = w4 0 0 0 0 := by
    unfold n1 w4
    rw [show Nat.blt k 1000 = true from Nat.blt_eq.mpr (by omega)]
    rw [show Nat.blt k 10000 = true from Nat.blt_eq.mpr (by omega)]
    simp only [cond_true, cond_false]
    simp only [UInt8.toNat_ofNat', UInt8.reduceToNat]
    try omega
  have e15 : n15 k = w4 0 0 2 16 := by
    unfold n15 w4
    rw [show Nat.blt k 10 = false from Bool.eq_false_iff.2 (fun h => by have := Nat.blt_eq.mp h; omega)]
    rw [show Nat.blt k 100 = true from Nat.blt_eq.mpr (by omega)]
    rw [show Nat.blt k 1000 = true from Nat.blt_eq.mpr (by omega)]
    rw [show Nat.blt k 10000 = true from Nat.blt_eq.mpr (by omega)]
    rfl
  show _ = [n0 k, n1 k, 0, 0, 0, 0, 0, 0, 0, 0, 0, 0, 0, 0, 0, n15 k]
  rw [e0, e1, e15]
  rfl

theorem dig3 (k : Nat) (h0 : 100 ≤ k) (h1 : k < 1000) : Lib.decDigits k = [UInt8.ofNat (48 + k / 100), UInt8.ofNat (48 + k / 10 % 10), UInt8.ofNat (48 + k % 10)] := by
  rw [Lib.decDigits, dif_neg (by omega), dig2 (k / 10) (by omega) (by omega)]
  simp only [Nat.div_div_eq_div_mul]
  rfl

theorem pad3 : padL (64 + 3) = [128, 0, 0, 0, 0, 0, 0, 0, 0, 0, 0, 0, 0, 0, 0, 0, 0, 0, 0, 0, 0, 0, 0, 0, 0, 0, 0, 0, 0, 0, 0, 0, 0, 0, 0, 0, 0, 0, 0, 0, 0, 0, 0, 0, 0, 0, 0, 0, 0, 0, 0, 0, 0, 0, 0, 0, 0, 0, 0, 2, 24] := by decide +kernel

theorem blk3 (c0 c1 c2 : UInt8) : w16 ([c0, c1, c2] ++ [128, 0, 0, 0, 0, 0, 0, 0, 0, 0, 0, 0, 0, 0, 0, 0, 0, 0, 0, 0, 0, 0, 0, 0, 0, 0, 0, 0, 0, 0, 0, 0, 0, 0, 0, 0, 0, 0, 0, 0, 0, 0, 0, 0, 0, 0, 0, 0, 0, 0, 0, 0, 0, 0, 0, 0, 0, 0, 0, 2, 24]) 16 = [w4 c0 c1 c2 128, w4 0 0 0 0, w4 0 0 0 0, w4 0 0 0 0, w4 0 0 0 0, w4 0 0 0 0, w4 0 0 0 0, w4 0 0 0 0, w4 0 0 0 0, w4 0 0 0 0, w4 0 0 0 0, w4 0 0 0 0, w4 0 0 0 0, w4 0 0 0 0, w4 0 0 0 0, w4 0 0 2 24] := rfl

theorem in3 (s : St) (k : Nat) (h0 : 100 ≤ k) (h1 : k < 1000) : endL s 64 (Lib.decDigits k) = outB (stL (cmp 1 s (inW k))) := by
  rw [dig3 k h0 h1, end_one s [UInt8.ofNat (48 + k / 100), UInt8.ofNat (48 + k / 10 % 10), UInt8.ofNat (48 + k % 10)] _ pad3 rfl, blk3]
  congr 3
  have e0 : n0 k = w4 (UInt8.ofNat (48 + k / 100)) (UInt8.ofNat (48 + k / 10 % 10)) (UInt8.ofNat (48 + k % 10)) 128 := by
    unfold n0 t4 w4
    rw [show Nat.blt k 10 = false from Bool.eq_false_iff.2 (fun h => by have := Nat.blt_eq.mp h; omega)]
    rw [show Nat.blt k 100 = false from Bool.eq_false_iff.2 (fun h => by have := Nat.blt_eq.mp h; omega)]
    rw [show Nat.blt k 1000 = true from Nat.blt_eq.mpr (by omega)]
    rw [show Nat.blt k 10000 = true from Nat.blt_eq.mpr (by omega)]
    simp only [cond_true, cond_false]
    simp only [UInt8.toNat_ofNat', UInt8.reduceToNat]
    omega
  have e1 : n1 k = w4 0 0 0 0 := by
    unfold n1 w4
    rw [show Nat.blt k 1000 = true from Nat.blt_eq.mpr (by omega)]
    rw [show Nat.blt k 10000 = true from Nat.blt_eq.mpr (by omega)]
    simp only [cond_true, cond_false]
    simp only [UInt8.toNat_ofNat', UInt8.reduceToNat]
    try omega
  have e15 : n15 k = w4 0 0 2 24 := by
    unfold n15 w4
    rw [show Nat.blt k 10 = false from Bool.eq_false_iff.2 (fun h => by have := Nat.blt_eq.mp h; omega)]
    rw [show Nat.blt k 100 = false from Bool.eq_false_iff.2 (fun h => by have := Nat.blt_eq.mp h; omega)]
    rw [show Nat.blt k 1000 = true from Nat.blt_eq.mpr (by omega)]
    rw [show Nat.blt k 10000 = true from Nat.blt_eq.mpr (by omega)]
    rfl
  show _ = [n0 k, n1 k, 0, 0, 0, 0, 0, 0, 0, 0, 0, 0, 0, 0, 0, n15 k]
  rw [e0, e1, e15]
  rfl

theorem dig4 (k : Nat) (h0 : 1000 ≤ k) (h1 : k < 10000) : Lib.decDigits k = [UInt8.ofNat (48 + k / 1000), UInt8.ofNat (48 + k / 100 % 10), UInt8.ofNat (48 + k / 10 % 10), UInt8.ofNat (48 + k % 10)] := by
  rw [Lib.decDigits, dif_neg (by omega), dig3 (k / 10) (by omega) (by omega)]
  simp only [Nat.div_div_eq_div_mul]
  rfl

theorem pad4 : padL (64 + 4) = [128, 0, 0, 0, 0, 0, 0, 0, 0, 0, 0, 0, 0, 0, 0, 0, 0, 0, 0, 0, 0, 0, 0, 0, 0, 0, 0, 0, 0, 0, 0, 0, 0, 0, 0, 0, 0, 0, 0, 0, 0, 0, 0, 0, 0, 0, 0, 0, 0, 0, 0, 0, 0, 0, 0, 0, 0, 0, 2, 32] := by decide +kernel

theorem blk4 (c0 c1 c2 c3 : UInt8) : w16 ([c0, c1, c2, c3] ++ [128, 0, 0, 0, 0, 0, 0, 0, 0, 0, 0, 0, 0, 0, 0, 0, 0, 0, 0, 0, 0, 0, 0, 0, 0, 0, 0, 0, 0, 0, 0, 0, 0, 0, 0, 0, 0, 0, 0, 0, 0, 0, 0, 0, 0, 0, 0, 0, 0, 0, 0, 0, 0, 0, 0, 0, 0, 0, 2, 32]) 16 = [w4 c0 c1 c2 c3, w4 128 0 0 0, w4 0 0 0 0, w4 0 0 0 0, w4 0 0 0 0, w4 0 0 0 0, w4 0 0 0 0, w4 0 0 0 0, w4 0 0 0 0, w4 0 0 0 0, w4 0 0 0 0, w4 0 0 0 0, w4 0 0 0 0, w4 0 0 0 0, w4 0 0 0 0, w4 0 0 2 32] := rfl

theorem in4 (s : St) (k : Nat) (h0 : 1000 ≤ k) (h1 : k < 10000) : endL s 64 (Lib.decDigits k) = outB (stL (cmp 1 s (inW k))) := by
  rw [dig4 k h0 h1, end_one s [UInt8.ofNat (48 + k / 1000), UInt8.ofNat (48 + k / 100 % 10), UInt8.ofNat (48 + k / 10 % 10), UInt8.ofNat (48 + k % 10)] _ pad4 rfl, blk4]
  congr 3
  have e0 : n0 k = w4 (UInt8.ofNat (48 + k / 1000)) (UInt8.ofNat (48 + k / 100 % 10)) (UInt8.ofNat (48 + k / 10 % 10)) (UInt8.ofNat (48 + k % 10)) := by
    unfold n0 t4 w4
    rw [show Nat.blt k 10 = false from Bool.eq_false_iff.2 (fun h => by have := Nat.blt_eq.mp h; omega)]
    rw [show Nat.blt k 100 = false from Bool.eq_false_iff.2 (fun h => by have := Nat.blt_eq.mp h; omega)]
    rw [show Nat.blt k 1000 = false from Bool.eq_false_iff.2 (fun h => by have := Nat.blt_eq.mp h; omega)]
    rw [show Nat.blt k 10000 = true from Nat.blt_eq.mpr (by omega)]
    simp only [cond_true, cond_false]
    simp only [UInt8.toNat_ofNat', UInt8.reduceToNat]
    omega
  have e1 : n1 k = w4 128 0 0 0 := by
    unfold n1 w4
    rw [show Nat.blt k 1000 = false from Bool.eq_false_iff.2 (fun h => by have := Nat.blt_eq.mp h; omega)]
    rw [show Nat.blt k 10000 = true from Nat.blt_eq.mpr (by omega)]
    simp only [cond_true, cond_false]
    simp only [UInt8.toNat_ofNat', UInt8.reduceToNat]
    try omega
  have e15 : n15 k = w4 0 0 2 32 := by
    unfold n15 w4
    rw [show Nat.blt k 10 = false from Bool.eq_false_iff.2 (fun h => by have := Nat.blt_eq.mp h; omega)]
    rw [show Nat.blt k 100 = false from Bool.eq_false_iff.2 (fun h => by have := Nat.blt_eq.mp h; omega)]
    rw [show Nat.blt k 1000 = false from Bool.eq_false_iff.2 (fun h => by have := Nat.blt_eq.mp h; omega)]
    rw [show Nat.blt k 10000 = true from Nat.blt_eq.mpr (by omega)]
    rfl
  show _ = [n0 k, n1 k, 0, 0, 0, 0, 0, 0, 0, 0, 0, 0, 0, 0, 0, n15 k]
  rw [e0, e1, e15]
  rfl

theorem dig5 (k : Nat) (h0 : 10000 ≤ k) (h1 : k < 100000) : Lib.decDigits k = [UInt8.ofNat (48 + k / 10000), UInt8.ofNat (48 + k / 1000 % 10), UInt8.ofNat (48 + k / 100 % 10), UInt8.ofNat (48 + k / 10 % 10), UInt8.ofNat (48 + k % 10)] := by
  rw [Lib.decDigits, dif_neg (by omega), dig4 (k / 10) (by omega) (by omega)]
  simp only [Nat.div_div_eq_div_mul]
  rfl

theorem pad5 : padL (64 + 5) = [128, 0, 0, 0, 0, 0, 0, 0, 0, 0, 0, 0, 0, 0, 0, 0, 0, 0, 0, 0, 0, 0, 0, 0, 0, 0, 0, 0, 0, 0, 0, 0, 0, 0, 0, 0, 0, 0, 0, 0, 0, 0, 0, 0, 0, 0, 0, 0, 0, 0, 0, 0, 0, 0, 0, 0, 0, 2, 40] := by decide +kernel

theorem blk5 (c0 c1 c2 c3 c4 : UInt8) : w16 ([c0, c1, c2, c3, c4] ++ [128, 0, 0, 0, 0, 0, 0, 0, 0, 0, 0, 0, 0, 0, 0, 0, 0, 0, 0, 0, 0, 0, 0, 0, 0, 0, 0, 0, 0, 0, 0, 0, 0, 0, 0, 0, 0, 0, 0, 0, 0, 0, 0, 0, 0, 0, 0, 0, 0, 0, 0, 0, 0, 0, 0, 0, 0, 2, 40]) 16 = [w4 c0 c1 c2 c3, w4 c4 128 0 0, w4 0 0 0 0, w4 0 0 0 0, w4 0 0 0 0, w4 0 0 0 0, w4 0 0 0 0, w4 0 0 0 0, w4 0 0 0 0, w4 0 0 0 0, w4 0 0 0 0, w4 0 0 0 0, w4 0 0 0 0, w4 0 0 0 0, w4 0 0 0 0, w4 0 0 2 40] := rfl

theorem in5 (s : St) (k : Nat) (h0 : 10000 ≤ k) (h1 : k < 100000) : endL s 64 (Lib.decDigits k) = outB (stL (cmp 1 s (inW k))) := by
  rw [dig5 k h0 h1, end_one s [UInt8.ofNat (48 + k / 10000), UInt8.ofNat (48 + k / 1000 % 10), UInt8.ofNat (48 + k / 100 % 10), UInt8.ofNat (48 + k / 10 % 10), UInt8.ofNat (48 + k % 10)] _ pad5 rfl, blk5]
  congr 3
  have e0 : n0 k = w4 (UInt8.ofNat (48 + k / 10000)) (UInt8.ofNat (48 + k / 1000 % 10)) (UInt8.ofNat (48 + k / 100 % 10)) (UInt8.ofNat (48 + k / 10 % 10)) := by
    unfold n0 t4 w4
    rw [show Nat.blt k 10 = false from Bool.eq_false_iff.2 (fun h => by have := Nat.blt_eq.mp h; omega)]
    rw [show Nat.blt k 100 = false from Bool.eq_false_iff.2 (fun h => by have := Nat.blt_eq.mp h; omega)]
    rw [show Nat.blt k 1000 = false from Bool.eq_false_iff.2 (fun h => by have := Nat.blt_eq.mp h; omega)]
    rw [show Nat.blt k 10000 = false from Bool.eq_false_iff.2 (fun h => by have := Nat.blt_eq.mp h; omega)]
    simp only [cond_true, cond_false]
    simp only [UInt8.toNat_ofNat', UInt8.reduceToNat]
    omega
  have e1 : n1 k = w4 (UInt8.ofNat (48 + k % 10)) 128 0 0 := by
    unfold n1 w4
    rw [show Nat.blt k 1000 = false from Bool.eq_false_iff.2 (fun h => by have := Nat.blt_eq.mp h; omega)]
    rw [show Nat.blt k 10000 = false from Bool.eq_false_iff.2 (fun h => by have := Nat.blt_eq.mp h; omega)]
    simp only [cond_true, cond_false]
    simp only [UInt8.toNat_ofNat', UInt8.reduceToNat]
    try omega
  have e15 : n15 k = w4 0 0 2 40 := by
    unfold n15 w4
    rw [show Nat.blt k 10 = false from Bool.eq_false_iff.2 (fun h => by have := Nat.blt_eq.mp h; omega)]
    rw [show Nat.blt k 100 = false from Bool.eq_false_iff.2 (fun h => by have := Nat.blt_eq.mp h; omega)]
    rw [show Nat.blt k 1000 = false from Bool.eq_false_iff.2 (fun h => by have := Nat.blt_eq.mp h; omega)]
    rw [show Nat.blt k 10000 = false from Bool.eq_false_iff.2 (fun h => by have := Nat.blt_eq.mp h; omega)]
    rfl
  show _ = [n0 k, n1 k, 0, 0, 0, 0, 0, 0, 0, 0, 0, 0, 0, 0, 0, n15 k]
  rw [e0, e1, e15]
  rfl

theorem in_all (s : St) (k : Nat) (h : k < 100000) : endL s 64 (Lib.decDigits k) = outB (stL (cmp 1 s (inW k))) := by
  by_cases h1 : k < 10
  · exact in1 s k h1
  by_cases h2 : k < 100
  · exact in2 s k (by omega) h2
  by_cases h3 : k < 1000
  · exact in3 s k (by omega) h3
  by_cases h4 : k < 10000
  · exact in4 s k (by omega) h4
  · exact in5 s k (by omega) h

theorem mac_one (seed : List UInt8) (k : Nat) (h : k < 100000) : macL seed (Lib.decDigits k) = outB (stL (one (keyS seed 54) (keyS seed 92) k)) := by
  rw [mac_end, in_all _ k h, end_out _ _ (cmp_ok _ _)]
  rfl

end Go.Proofs.YtabehlipgfihkaaDoor
