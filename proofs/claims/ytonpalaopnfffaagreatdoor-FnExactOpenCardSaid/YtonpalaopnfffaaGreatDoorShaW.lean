/- SHA-256 of texts as plain functions: padding, blocks, the thirty-two bytes. -/
import Derived.Test.YtonpalaopnfffaaGreatDoorLane
import Derived.Test.YtonpalaopnfffaaGreatDoorStep

namespace Go.Proofs.YtonpalaopnfffaaGreatDoor
set_option linter.unusedVariables false
open Sh

/-- four bytes make a word -/
def w4 (a b c d : UInt8) : Nat := ((a.toNat * 256 + b.toNat) * 256 + c.toNat) * 256 + d.toNat

/-- the word at a place -/
def wAt (l : List UInt8) (i : Nat) : Nat := w4 (l.getD (4 * i) 0) (l.getD (4 * i + 1) 0) (l.getD (4 * i + 2) 0) (l.getD (4 * i + 3) 0)

def w16 (l : List UInt8) (n : Nat) : List Nat := (List.range n).map (wAt l)

def stL (s : St) : List Nat := [s.a, s.b, s.c, s.d, s.e, s.f, s.g, s.h]

/-- so many whole blocks, one behind another -/
def blkN : Nat → St → List UInt8 → St
  | 0, s, _ => s
  | n + 1, s, l => blkN n (cmp 1 s (w16 (l.take 64) 16)) (l.drop 64)

/-- the bytes of a word -/
def wB (x : Nat) : List UInt8 := [UInt8.ofNat (x / 16777216), UInt8.ofNat (x / 65536), UInt8.ofNat (x / 256), UInt8.ofNat x]

def outB (l : List Nat) : List UInt8 := l.flatMap wB

/-- what follows a message of so many bytes: the first byte, noughts, the number of bits -/
def padL (n : Nat) : List UInt8 := 128 :: List.replicate ((119 - n % 64) % 64) 0 ++ (wB (8 * n / 4294967296) ++ wB (8 * n))

/-- the end of a message: s behind so many bytes that led to the state -/
def endL (s : St) (n : Nat) (l : List UInt8) : List UInt8 := outB (stL (blkN ((l ++ padL (n + l.length)).length / 64) s (l ++ padL (n + l.length))))

def shaL (l : List UInt8) : List UInt8 := endL H0 0 l

theorem wB_len (x : Nat) : (wB x).length = 4 := rfl

theorem padL_len (n : Nat) : (padL n).length = 9 + (119 - n % 64) % 64 := by
  simp [padL, wB_len]; omega

theorem pad_mod (n : Nat) : (n + (padL n).length) % 64 = 0 := by
  rw [padL_len]; omega

theorem blkN_okS (n : Nat) (s : St) (l : List UInt8) (h : okS s) : okS (blkN n s l) := by
  induction n generalizing s l with
  | zero => exact h
  | succ n ih => exact ih _ _ (cmp_ok _ _)

theorem H0_ok : okS H0 := by unfold okS H0; decide

theorem outB_len (l : List Nat) : (outB l).length = 4 * l.length := by
  induction l with
  | nil => rfl
  | cons x r ih => rw [outB, List.flatMap_cons, List.length_append]; show 4 + (outB r).length = _; rw [ih]; simp; omega

theorem sha_len (l : List UInt8) : (shaL l).length = 32 := outB_len _

theorem end_len (s : St) (n : Nat) (l : List UInt8) : (endL s n l).length = 32 := outB_len _

theorem blkN_snoc (n : Nat) (s : St) (l : List UInt8) : blkN (n + 1) s l = cmp 1 (blkN n s l) (w16 ((l.drop (64 * n)).take 64) 16) := by
  induction n generalizing s l with
  | zero => simp [blkN]
  | succ n ih =>
    rw [blkN, ih, blkN, List.drop_drop]
    have : 64 + 64 * n = 64 * (n + 1) := by omega
    rw [this]

/-- blocks of a message that begins with one whole block -/
theorem end_block (p l : List UInt8) (hp : p.length = 64) (n : Nat) (s : St) : endL s n (p ++ l) = endL (cmp 1 s (w16 p 16)) (n + 64) l := by
  unfold endL
  have e : n + (p ++ l).length = n + 64 + l.length := by rw [List.length_append]; omega
  rw [e]
  generalize padL (n + 64 + l.length) = q
  have e2 : (p ++ l ++ q).length / 64 = (l ++ q).length / 64 + 1 := by simp only [List.length_append]; omega
  rw [e2, blkN, List.append_assoc]
  have e3 : (p ++ (l ++ q)).take 64 = p := by rw [← hp]; exact List.take_left
  have e4 : (p ++ (l ++ q)).drop 64 = l ++ q := by rw [← hp]; exact List.drop_left
  rw [e3, e4]

/-- a key of sixty-four bytes, each turned by a mask -/
def keyL (k : List UInt8) : List UInt8 := if 64 < k.length then shaL k else k

def padK (k : List UInt8) (m : UInt8) : List UInt8 := (keyL k ++ List.replicate (64 - (keyL k).length) 0).map (· ^^^ m)

def macL (k l : List UInt8) : List UInt8 := shaL (padK k 92 ++ shaL (padK k 54 ++ l))

theorem keyL_len (k : List UInt8) : (keyL k).length ≤ 64 := by
  unfold keyL
  split
  · rw [sha_len]; omega
  · omega

theorem padK_len (k : List UInt8) (m : UInt8) : (padK k m).length = 64 := by
  have := keyL_len k
  simp [padK]; omega

/-- the state that a key's block leads to -/
def keyS (k : List UInt8) (m : UInt8) : St := cmp 1 H0 (w16 (padK k m) 16)

theorem mac_end (k l : List UInt8) : macL k l = endL (keyS k 92) 64 (endL (keyS k 54) 64 l) := by
  unfold macL shaL
  rw [end_block _ _ (padK_len k 92), end_block _ _ (padK_len k 54)]
  rfl

theorem mac_len (k l : List UInt8) : (macL k l).length = 32 := sha_len _

/-- so many times, and no more than fifty -/
def strN : Nat → List UInt8 → List UInt8 → List UInt8
  | 0, _, l => l
  | n + 1, k, l => strN n k (macL k l)

theorem strN_snoc (n : Nat) (k l : List UInt8) : strN (n + 1) k l = macL k (strN n k l) := by
  induction n generalizing l with
  | zero => rfl
  | succ n ih => rw [strN, ih]; rfl

/-- the number of times that a number asks for -/
def timesN (t : Int) : Nat := if t ≤ 1 then 1 else if 50 ≤ t then 50 else t.toNat

def strL (k l : List UInt8) (t : Int) : List UInt8 := strN (timesN t) k l

def nameL (k d : List UInt8) : List UInt8 := hexL ((macL k d).take 8)

end Go.Proofs.YtonpalaopnfffaaGreatDoor
