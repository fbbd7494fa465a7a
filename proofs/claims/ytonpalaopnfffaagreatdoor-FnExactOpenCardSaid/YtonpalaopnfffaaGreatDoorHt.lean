/- PURE: messages of lines: what stage 5's functions compute, over lists of bytes; reading what was written. -/
import Derived.Test.YtonpalaopnfffaaGreatDoorForm
import Derived.Test.YtonpalaopnfffaaGreatDoorPct
import Derived.Lib.AppendStr
import Derived.Lib.IndexMore
import Derived.Lib.SlTrimSet
namespace Go.Proofs.YtonpalaopnfffaaGreatDoor
set_option linter.unusedVariables false
set_option maxRecDepth 4000
open Go.ChangeShapes Go.WideShapes Go.ChangeAt Go.RowKit
open Go.ChangeMaps (open_string shut_string)

theorem hexV_hexU (n : Nat) (h : n < 16) : hexV (hexU n) = n := by
  have : ∀ i : Fin 16, hexV (hexU i.val) = i.val := by decide +kernel
  exact this ⟨n, h⟩

theorem safe_not : ∀ n : Fin 256, safeB (UInt8.ofNat n.val) = true → UInt8.ofNat n.val ≠ 37 ∧ UInt8.ofNat n.val ≠ 38 ∧ UInt8.ofNat n.val ≠ 43 ∧ UInt8.ofNat n.val ≠ 61 := by decide +kernel

theorem safe_no (b : UInt8) (h : safeB b = true) : b ≠ 37 ∧ b ≠ 38 ∧ b ≠ 43 ∧ b ≠ 61 := by
  have := safe_not ⟨b.toNat, b.toNat_lt⟩
  simp only [UInt8.ofNat_toNat] at this
  exact this h

theorem hexU_safe : ∀ n : Fin 16, safeB (hexU n.val) = true := by decide +kernel

theorem unp_pct_one (acc : List UInt8) (b : UInt8) (r : List UInt8) : unpA acc (pctB b ++ r) = unpA (acc ++ [b]) r := by
  unfold pctB
  by_cases h : safeB b = true
  · rw [if_pos h, List.singleton_append, unp_plain _ _ _ (safe_no b h).1]
  · rw [if_neg h]
    have h256 := b.toNat_lt
    have e1 := hexV_hexU (b.toNat / 16) (by omega)
    have e2 := hexV_hexU (b.toNat % 16) (by omega)
    have hu : unB (hexU (b.toNat / 16)) (hexU (b.toNat % 16)) = b := by
      unfold unB
      rw [e1, e2]
      have : (16 * ((b.toNat / 16 : Nat) : Int) + ((b.toNat % 16 : Nat) : Int)).toNat = b.toNat := by omega
      rw [this]
      exact UInt8.ofNat_toNat
    show unpA acc (37 :: hexU (b.toNat / 16) :: hexU (b.toNat % 16) :: r) = _
    rw [unp_code, if_neg (by omega), hu]

theorem unp_pct (s : List UInt8) : ∀ acc, unpA acc (pctL s) = some (acc ++ s) := by
  induction s with
  | nil => intro acc; simp [pctL, unpA]
  | cons b s ih =>
    intro acc
    have e : pctL (b :: s) = pctB b ++ pctL s := by simp [pctL]
    rw [e, unp_pct_one, ih]
    simp

/-- a text comes back from its percent codes -/
theorem pct_back (s : List UInt8) : unpA [] (pctL s) = some s := unp_pct s []

theorem pctB_safe (b c : UInt8) (h : c ∈ pctB b) : c = 37 ∨ safeB c = true := by
  unfold pctB at h
  split at h
  · rename_i hs
    simp at h
    subst h
    exact .inr hs
  · have h256 := b.toNat_lt
    simp at h
    rcases h with h | h | h
    · exact .inl h
    · subst h; exact .inr (hexU_safe ⟨b.toNat / 16, by omega⟩)
    · subst h; exact .inr (hexU_safe ⟨b.toNat % 16, by omega⟩)

theorem pctL_safe (s : List UInt8) (c : UInt8) (h : c ∈ pctL s) : c ≠ 38 ∧ c ≠ 43 ∧ c ≠ 61 := by
  unfold pctL at h
  rw [List.mem_flatMap] at h
  obtain ⟨b, _, hb⟩ := h
  rcases pctB_safe b c hb with h | h
  · subst h; decide
  · exact (safe_no c h).2

theorem plus_none (l : List UInt8) (h : ∀ c ∈ l, c ≠ 43) : l.map plusB = l := by
  induction l with
  | nil => rfl
  | cons c l ih =>
    rw [List.map_cons, ih (fun d hd => h d (by simp [hd]))]
    have : plusB c = c := by unfold plusB; rw [if_neg (h c (by simp))]
    rw [this]

theorem form_back (s : List UInt8) : formL (pctL s) = some s := by
  unfold formL
  rw [plus_none _ (fun c hc => (pctL_safe s c hc).2.1), pct_back]

theorem part_back (p : PairL) : partL (oneL p) = some p := by
  unfold partL oneL
  rw [cutL_yes 61 (pctL p.2) (pctL p.1) (fun h => (pctL_safe _ _ h).2.2 rfl)]
  simp only [form_back]

theorem oneL_no (p : PairL) : (38 : UInt8) ∉ oneL p := by
  intro h
  unfold oneL at h
  rw [List.mem_append, List.mem_cons] at h
  rcases h with h | h | h
  · exact (pctL_safe _ _ h).1 rfl
  · exact absurd h (by decide)
  · exact (pctL_safe _ _ h).1 rfl

theorem sAux_over (c : UInt8) (q : List UInt8) (p : List UInt8) : ∀ cur, c ∉ p → sAux c cur (p ++ c :: q) = (cur ++ p) :: sAux c [] q := by
  induction p with
  | nil => intro cur _; simp [sAux]
  | cons x p ih =>
    intro cur h
    rw [List.cons_append, sAux, if_neg (fun e => h (by simp [e])), ih _ (fun h2 => h (by simp [h2]))]
    simp

theorem sAux_last (c : UInt8) (r : List UInt8) : ∀ cur, c ∉ r → sAux c cur r = [cur ++ r] := by
  induction r with
  | nil => intro cur _; simp [sAux]
  | cons x r ih =>
    intro cur h
    rw [sAux, if_neg (fun e => h (by simp [e])), ih _ (fun h2 => h (by simp [h2]))]
    simp

theorem sAux_put (r : List PairL) : ∀ p : PairL, sAux 38 [] (oneL p ++ r.flatMap fun q => 38 :: oneL q) = oneL p :: r.map oneL := by
  induction r with
  | nil => intro p; simpa using sAux_last 38 (oneL p) [] (oneL_no p)
  | cons q r ih =>
    intro p
    have e : (oneL p ++ ((q :: r).flatMap fun q => 38 :: oneL q)) = oneL p ++ 38 :: (oneL q ++ r.flatMap fun q => 38 :: oneL q) := by simp
    rw [e, sAux_over 38 _ _ [] (oneL_no p), ih q]
    simp

theorem split_put (l : List PairL) : splitL 38 (putL l) = l.map oneL := by
  cases l with
  | nil => rfl
  | cons p r =>
    unfold splitL
    rw [if_neg]
    · exact sAux_put r p
    · intro e
      have := congrArg List.length e
      simp [putL, oneL] at this

theorem getA_put (l : List PairL) : ∀ acc, getA acc (l.map oneL) = some (acc ++ l) := by
  induction l with
  | nil => intro acc; simp [getA]
  | cons p l ih =>
    intro acc
    rw [List.map_cons, getA, part_back]
    simp only
    rw [ih]
    simp

/-- a form's pairs come back from the form -/
theorem put_back (l : List PairL) (h : l.length ≤ 30) : getL (putL l) = some l := by
  unfold getL
  rw [split_put, if_neg (by simp; omega), getA_put]
  simp

end Go.Proofs.YtonpalaopnfffaaGreatDoor

namespace Go.Proofs.YtonpalaopnfffaaGreatDoor
set_option linter.unusedVariables false
set_option maxRecDepth 4000
open Go.ChangeShapes Go.WideShapes Go.ChangeAt Go.RowKit
open Go.ChangeMaps (open_string shut_string)

def signs4 : ByteArray := { data := #[45, 95, 46, 126] }

theorem signs4_all : ∀ i : Fin 256, decide (0 ≤ Lib.indexByte signs4.data.toList (UInt8.ofNat i.val)) = (UInt8.ofNat i.val == 45 || UInt8.ofNat i.val == 95 || UInt8.ofNat i.val == 46 || UInt8.ofNat i.val == 126) := by decide +kernel

theorem signs4_at (b : UInt8) : decide (0 ≤ Lib.indexByte signs4.data.toList b) = (b == 45 || b == 95 || b == 46 || b == 126) := by
  have h := signs4_all ⟨b.toNat, b.toNat_lt⟩
  rwa [UInt8.ofNat_toNat] at h

theorem safe_split (b : UInt8) : safeB b = (letterB b || digitB b || decide (0 ≤ Lib.indexByte signs4.data.toList b)) := by
  rw [signs4_at]; unfold safeB; simp only [Bool.or_assoc]

theorem signs4_call (c : UInt8) (w : World) :
    Calls Tryz.prog 103 #[.string { data := #[45, 95, 46, 126] }, .int .u8 c.toNat] w fun e w' => e = .returned (.int .i64 (Lib.indexByte signs4.data.toList c)) ∧ w = w' :=
  index_wrap signs4 c w

theorem strCells_txtI (l : List UInt8) : Lib.strCells (txt l) = cells8 l := by simp [Lib.strCells, txt, cells8]

theorem low_hex_all : ∀ i : Fin 256, hexV (lowB (UInt8.ofNat i.val)) = hexV (UInt8.ofNat i.val) ∧ (0 ≤ hexV (UInt8.ofNat i.val) → hexD (hexV (UInt8.ofNat i.val)).toNat = lowB (UInt8.ofNat i.val)) := by decide +kernel

theorem low_hex (c : UInt8) : hexV (lowB c) = hexV c ∧ (0 ≤ hexV c → hexD (hexV c).toNat = lowB c) := by
  have h := low_hex_all ⟨c.toNat, c.toNat_lt⟩
  rwa [UInt8.ofNat_toNat] at h

theorem hex_two_yes (a b : UInt8) (ha : 0 ≤ hexV a) (hb : 0 ≤ hexV b) : hexL [unB a b] = lowL [a, b] := by
  have la := (hexV_le a).2
  have lb := (hexV_le b).2
  have h := nib_byte (hexV a).toNat (hexV b).toNat (by omega) (by omega)
  have e : unB a b = UInt8.ofNat (16 * (hexV a).toNat + (hexV b).toNat) := by
    unfold unB; congr 1; omega
  simp only [hexL, lowL, List.flatMap_cons, List.flatMap_nil, List.map_cons, List.map_nil, List.append_nil]
  rw [e, h.2.1, h.2.2, (low_hex a).2 ha, (low_hex b).2 hb]

theorem hex_two_no (a b : UInt8) (h : hexV a < 0 ∨ hexV b < 0) : ∀ r, hexL r ≠ lowL [a, b] := by
  intro r hr
  have hl : (hexL r).length = 2 := by rw [hr]; rfl
  rw [hexL_len] at hl
  match r, hl with
  | [x], _ =>
    have hx : x.toNat < 256 := x.toNat_lt
    simp only [hexL, lowL, List.flatMap_cons, List.flatMap_nil, List.map_cons, List.map_nil, List.append_nil, List.cons.injEq, and_true] at hr
    have h1 := hexV_hexD (x.toNat / 16) (by omega)
    have h2 := hexV_hexD (x.toNat % 16) (by omega)
    rw [hr.1, (low_hex a).1] at h1
    rw [hr.2, (low_hex b).1] at h2
    omega

theorem unp_code_end (acc : List UInt8) (s : ByteArray) (k : Nat) (h : k + 2 < s.size) (hp : s[k] = 37) :
    unpA acc (s.data.toList.drop k) = if hexV s[k + 1] < 0 ∨ hexV s[k + 2] < 0 then none else unpA (acc ++ [unB s[k + 1] s[k + 2]]) (s.data.toList.drop (k + 3)) := by
  rw [drop_three s k h, hp, unp_code]

theorem two_at (s : ByteArray) (k : Nat) (h : k + 2 < s.size) : (s.extract (k + 1) (k + 3)).data.toList = [s[k + 1], s[k + 2]] := by
  rw [extract_seg, txt_toList]
  have e1 := seg_snoc s (k + 1) (k + 1) (by omega) (by omega)
  have e2 := seg_snoc s (k + 1) (k + 2) (by omega) (by omega)
  rw [e2, e1, seg_nil]; rfl

end Go.Proofs.YtonpalaopnfffaaGreatDoor

namespace Go.Proofs.YtonpalaopnfffaaGreatDoor
set_option linter.unusedVariables false
set_option maxRecDepth 4000
open Go.ChangeShapes Go.WideShapes Go.ChangeAt Go.RowKit
open Go.ChangeMaps (open_string shut_string)

def prB (c : UInt8) : Bool := decide (32 ≤ c.toNat) && decide (c.toNat ≤ 126)

theorem prB_int (c : UInt8) : (decide ((32 : Int) ≤ ((c.toNat : Nat) : Int)) && decide (((c.toNat : Nat) : Int) ≤ 126)) = prB c := by
  unfold prB
  congr 1 <;> simp <;> omega

/-- bytes of a path, of a head's key -/
def pathB (c : UInt8) : Bool := letterB c || digitB c || c == 45 || c == 95 || c == 46 || c == 47

def hkB (c : UInt8) : Bool := letterB c || c == 45

theorem signs_fin : ∀ n : Fin 256, decide (0 ≤ Lib.indexByte [45, 95, 46, 47] (UInt8.ofNat n.val)) = (UInt8.ofNat n.val == 45 || UInt8.ofNat n.val == 95 || UInt8.ofNat n.val == 46 || UInt8.ofNat n.val == 47) := by decide +kernel

theorem signs_at (c : UInt8) : decide (0 ≤ Lib.indexByte [45, 95, 46, 47] c) = (c == 45 || c == 95 || c == 46 || c == 47) := by
  have h := signs_fin ⟨c.toNat, c.toNat_lt⟩
  have e : UInt8.ofNat (⟨c.toNat, c.toNat_lt⟩ : Fin 256).val = c := by simp
  rw [e] at h
  exact h

theorem byte_eq (c n : UInt8) : (c == n) = (((c.toNat : Nat) : Int) == ((n.toNat : Nat) : Int)) := by
  rw [Bool.eq_iff_iff, beq_iff_eq, beq_iff_eq]
  exact ⟨fun h => by rw [h], fun h => UInt8.toNat_inj.1 (by omega)⟩

end Go.Proofs.YtonpalaopnfffaaGreatDoor

namespace Go.Proofs.YtonpalaopnfffaaGreatDoor
set_option linter.unusedVariables false
set_option maxRecDepth 4000
open Go.ChangeShapes Go.WideShapes Go.ChangeAt Go.RowKit

namespace Ht

def getT : List UInt8 := [71, 69, 84]
def postT : List UInt8 := [80, 79, 83, 84]
def protoT : List UInt8 := [72, 84, 84, 80, 47, 49, 46, 49]
def lenT : List UInt8 := [67, 111, 110, 116, 101, 110, 116, 45, 76, 101, 110, 103, 116, 104]
def lenLow : List UInt8 := [99, 111, 110, 116, 101, 110, 116, 45, 108, 101, 110, 103, 116, 104]

def pathL (s : List UInt8) : Bool := decide (s.length ≤ 61) && (s.head? == some 47) && s.all pathB

def keyL (k : List UInt8) : Bool := k.all hkB && (decide (1 ≤ k.length) && decide (k.length ≤ 30)) && !(lowL k == lenLow)

def trimmed (v : List UInt8) : Bool := v == [] || (!(v.head? == some 32) && !(v.getLast? == some 32))

def valueL (v : List UInt8) : Bool := decide (v.length ≤ 900) && v.all prB && trimmed v

def headL (p : PairL) : Bool := keyL p.1 && valueL p.2

def headsL (l : List PairL) : Bool := decide (l.length ≤ 20) && l.all headL

structure ReqL where
  m : List UInt8
  p : List UInt8
  q : List PairL
  h : List PairL
  b : List UInt8

structure RespL where
  c : Int
  h : List PairL
  b : List UInt8

def methodL (m : List UInt8) : Bool := m == getT || m == postT

def reqOk (r : ReqL) : Bool := methodL r.m && pathL r.p && decide (r.q.length ≤ 30) && headsL r.h && decide (r.b.length ≤ 4000)

def respOk (r : RespL) : Bool := decide (200 ≤ r.c) && decide (r.c ≤ 599) && headsL r.h && decide (r.b.length ≤ 4000)

/-- a head's line -/
def lineL (p : PairL) : List UInt8 := p.1 ++ 58 :: 32 :: p.2

def lenLine (b : List UInt8) : List UInt8 := lenT ++ 58 :: 32 :: Lib.decDigits b.length

/-- the lines of a message behind its first one -/
def linesOf (h : List PairL) (b : List UInt8) : List (List UInt8) := h.map lineL ++ if b = [] then [] else [lenLine b]

def restL (h : List PairL) (b : List UInt8) : List UInt8 := (linesOf h b).flatMap (fun x => x ++ [13, 10]) ++ 13 :: 10 :: b

def targetL (r : ReqL) : List UInt8 := r.p ++ if r.q = [] then [] else 63 :: putL r.q

def firstL (r : ReqL) : List UInt8 := r.m ++ 32 :: (targetL r ++ 32 :: protoT)

def putReq (r : ReqL) : List UInt8 := if reqOk r then firstL r ++ 13 :: 10 :: restL r.h r.b else []

def firstA (r : RespL) : List UInt8 := protoT ++ 32 :: Lib.itoa r.c

def putResp (r : RespL) : List UInt8 := if respOk r then firstA r ++ 13 :: 10 :: restL r.h r.b else []

/-- the lines up to an empty one, and what is behind it -/
def scanA (acc : List (List UInt8)) (cur : List UInt8) : List UInt8 → Option (List (List UInt8) × List UInt8)
  | [] => none
  | [_] => none
  | a :: b :: r => if a = 13 ∧ b = 10 then (if cur = [] then some (acc, r) else scanA (acc ++ [cur]) [] r) else scanA acc (cur ++ [a]) (b :: r)

def scanL (s : List UInt8) : Option (List (List UInt8) × List UInt8) := scanA [] [] s

def trimL (v : List UInt8) : List UInt8 := Lib.trimS v [32, 9]

def isLen (k : List UInt8) : Bool := lowL k == lenLow

/-- heads of lines, what the first length says, and whether each line has a colon -/
def takeA (hs : List PairL) (t : Option (List UInt8)) : List (List UInt8) → List PairL × Option (List UInt8) × Bool
  | [] => (hs, t, true)
  | x :: r => match cutL 58 x with
    | none => (hs, t, false)
    | some (k, v) => if isLen k then takeA hs (some (t.getD (trimL v))) r else takeA (hs ++ [(k, trimL v)]) t r

def lenOf (t : Option (List UInt8)) : Int := match t with
  | none => 0
  | some u => rdV u

def zeroR : ReqL := ⟨[], [], [], [], []⟩

def zeroA : RespL := ⟨0, [], []⟩

/-- the path and the form of a target -/
def targetOf (t : List UInt8) : List UInt8 × List UInt8 := match cutL 63 t with
  | none => (t, [])
  | some x => x

/-- a target's path and pairs -/
def readT (t : List UInt8) : Option (List UInt8 × List PairL) := match getL (targetOf t).2 with
  | none => none
  | some q => if pathL (targetOf t).1 then some ((targetOf t).1, q) else none

/-- a request line's method and target -/
def readF (x : List UInt8) : Option (List UInt8 × List UInt8) := match splitL 32 x with
  | [m, t, p] => if methodL m = true ∧ p = protoT then some (m, t) else none
  | _ => none

def readH (ls : List (List UInt8)) : Option (List PairL × Option (List UInt8)) :=
  if (takeA [] none ls).2.2 = true ∧ headsL (takeA [] none ls).1 = true then some ((takeA [] none ls).1, (takeA [] none ls).2.1) else none

def bodyOk (b : List UInt8) (t : Option (List UInt8)) : Bool := decide ((b.length : Int) = lenOf t) && decide (b.length ≤ 4000)

/-- what is read behind the lines: the request, and a code -/
def readR (ls : List (List UInt8)) (b : List UInt8) : ReqL × Int := match ls with
  | [] => (zeroR, 1)
  | f :: hs => match readF f with
    | none => (zeroR, 1)
    | some (m, t) => match readT t with
      | none => (zeroR, 2)
      | some (p, q) => match readH hs with
        | none => (zeroR, 3)
        | some (h, n) => if bodyOk b n then (⟨m, p, q, h, b⟩, 0) else (zeroR, 4)

def getReq (s : List UInt8) : ReqL × Int := if 8000 < s.length then (zeroR, 5) else match scanL s with
  | none => (zeroR, 1)
  | some (ls, b) => readR ls b

/-- the answer that lines make -/
def mkResp (f : List UInt8) (hs : List (List UInt8)) (b : List UInt8) : RespL := ⟨rdV (Lib.trimPrefix f (protoT ++ [32])), (takeA [] none hs).1, b⟩

def getResp (s : List UInt8) : Option RespL := match scanL s with
  | none => none
  | some (ls, b) => match ls with
    | [] => none
    | f :: hs => if putResp (mkResp f hs b) = s then some (mkResp f hs b) else none

def headV (key : List UInt8) : List PairL → Option (List UInt8)
  | [] => none
  | p :: r => if lowL p.1 = lowL key then some p.2 else headV key r

/- lines -/

theorem scan_line (acc : List (List UInt8)) (x r : List UInt8) : ∀ cur, (13 : UInt8) ∉ x → scanA acc cur (x ++ 13 :: 10 :: r) = if cur ++ x = [] then some (acc, r) else scanA (acc ++ [cur ++ x]) [] r := by
  induction x with
  | nil => intro cur _; simp [scanA]
  | cons a x ih =>
    intro cur h
    have h1 : a ≠ 13 := fun e => h (by rw [e]; exact List.mem_cons_self)
    have h2 : (13 : UInt8) ∉ x := fun e => h (List.mem_cons_of_mem _ e)
    have e : scanA acc cur (a :: (x ++ 13 :: 10 :: r)) = scanA acc (cur ++ [a]) (x ++ 13 :: 10 :: r) := by
      cases x with
      | nil => simp [scanA, h1]
      | cons b x => simp [scanA, h1]
    rw [List.cons_append, e, ih _ h2]
    simp

theorem scan_lines (b : List UInt8) (ls : List (List UInt8)) : ∀ acc, (∀ x ∈ ls, (13 : UInt8) ∉ x ∧ x ≠ []) → scanA acc [] (ls.flatMap (fun x => x ++ [13, 10]) ++ 13 :: 10 :: b) = some (acc ++ ls, b) := by
  induction ls with
  | nil => intro acc _; simp [scanA]
  | cons x ls ih =>
    intro acc h
    have hx := h x List.mem_cons_self
    have e : (x :: ls).flatMap (fun x => x ++ [13, 10]) ++ 13 :: 10 :: b = x ++ 13 :: 10 :: (ls.flatMap (fun x => x ++ [13, 10]) ++ 13 :: 10 :: b) := by simp
    rw [e, scan_line acc x _ [] hx.1, List.nil_append, if_neg hx.2, ih _ (fun y hy => h y (List.mem_cons_of_mem _ hy))]
    simp

/-- what Cut at CR LF tells of the lines -/
theorem scan_cut (acc : List (List UInt8)) (s : List UInt8) : ∀ cur, scanA acc cur s = if (Lib.cut s [13, 10]).2.2 then (if cur ++ (Lib.cut s [13, 10]).1 = [] then some (acc, (Lib.cut s [13, 10]).2.1) else scanA (acc ++ [cur ++ (Lib.cut s [13, 10]).1]) [] (Lib.cut s [13, 10]).2.1) else none := by
  induction s with
  | nil => intro cur; rfl
  | cons a s ih =>
    intro cur
    cases s with
    | nil =>
      have : Lib.index [a] [13, 10] = -1 := by
        have h1 : ([13, 10] : List UInt8).isPrefixOf [a] = false := by simp [List.isPrefixOf]
        have h2 : Lib.index [] [13, 10] = -1 := rfl
        unfold Lib.index
        rw [h1, h2]
        rfl
      unfold Lib.cut
      rw [this]
      rfl
    | cons b r =>
      by_cases hab : a = 13 ∧ b = 10
      · obtain ⟨rfl, rfl⟩ := hab
        have : Lib.index (13 :: 10 :: r) [13, 10] = 0 := by
          unfold Lib.index
          rw [if_pos (by simp [List.isPrefixOf])]
        have e : Lib.cut (13 :: 10 :: r) [13, 10] = ([], r, true) := by
          unfold Lib.cut
          rw [this]
          rfl
        rw [e]
        simp [scanA]
      · have e1 : scanA acc cur (a :: b :: r) = scanA acc (cur ++ [a]) (b :: r) := by
          show (if a = 13 ∧ b = 10 then _ else _) = _
          rw [if_neg hab]
        have hp : ([13, 10] : List UInt8).isPrefixOf (a :: b :: r) = false := by
          rw [Bool.eq_false_iff]
          intro h
          apply hab
          simp [List.isPrefixOf] at h
          exact ⟨h.1.symm, h.2.symm⟩
        have hidx : Lib.index (a :: b :: r) [13, 10] = if Lib.index (b :: r) [13, 10] == -1 then -1 else Lib.index (b :: r) [13, 10] + 1 := by
          conv => lhs; unfold Lib.index
          rw [hp]
          rfl
        rw [e1, ih]
        have hge := Lib.index_ge (b :: r) [13, 10]
        unfold Lib.cut
        rw [hidx]
        generalize Lib.index (b :: r) [13, 10] = n at hge
        by_cases hn : n = -1
        · subst hn
          simp
        · have hn0 : 0 ≤ n := by omega
          obtain ⟨k, rfl⟩ : ∃ k : Nat, n = k := ⟨n.toNat, by omega⟩
          have hk : ((k : Int) == -1) = false := by
            rw [Bool.eq_false_iff]
            intro e
            exact hn (eq_of_beq e)
          rw [hk]
          have ek : ((k : Int) + 1).toNat = k + 1 := by omega
          have ek2 : (k : Int).toNat = k := by omega
          have p1 : (0 : Int) ≤ (k : Int) := by omega
          have p2 : (0 : Int) ≤ (k : Int) + 1 := by omega
          simp only [Bool.false_eq_true, if_false, ek, ek2, p1, p2, if_true]
          simp

theorem scan_len (acc : List (List UInt8)) (s : List UInt8) : ∀ cur ls b, scanA acc cur s = some (ls, b) → ls.length ≤ acc.length + s.length ∧ b.length ≤ s.length := by
  induction hn : s.length using Nat.strongRecOn generalizing s acc with
  | ind n ih =>
    intro cur ls b h
    match s, hn with
    | [], _ => simp [scanA] at h
    | [_], _ => simp [scanA] at h
    | a :: c :: r, hn =>
      unfold scanA at h
      simp only [List.length_cons] at hn
      split at h
      · split at h
        · simp only [Option.some.injEq, Prod.mk.injEq] at h
          obtain ⟨rfl, rfl⟩ := h
          omega
        · have := ih r.length (by omega) (acc ++ [cur]) r rfl [] ls b h
          simp at this
          omega
      · have := ih (r.length + 1) (by omega) acc (c :: r) rfl (cur ++ [a]) ls b h
        omega

end Ht
end Go.Proofs.YtonpalaopnfffaaGreatDoor
