/- PURE: messages of lines: what stage 5's functions compute, over lists of bytes; reading what was written. -/
import Derived.Test.YtonpalaopnfffaaDoorPct
import Derived.Lib.AppendStr
import Derived.Test.YtonpalaopnfffaaDoorFormP
import Derived.Lib.IndexMore
import Derived.Lib.SlTrimSet
namespace Go.Proofs.YtonpalaopnfffaaDoor
set_option linter.unusedVariables false
set_option maxRecDepth 4000
open Go.ChangeShapes Go.WideShapes Go.ChangeAt Go.RowKit
open Go.ChangeMaps (open_string shut_string)

def signs4 : ByteArray := { data := #[45, 95, 46, 126] }

theorem signs4_all : ∀ i : Fin 256, decide (0 ≤ Lib.indexByte signs4.data.toList (UInt8.ofNat i.val)) = (UInt8.ofNat i.val == 45 || UInt8.ofNat i.val == 95 || UInt8.ofNat i.val == 46 || UInt8.ofNat i.val == 126) := by decide +kernel

theorem signs4_at (b : UInt8) : decide (0 ≤ Lib.indexByte signs4.data.toList b) = (b == 45 || b == 95 || b == 46 || b == 126) := by
  have h := signs4_all ⟨b.toNat, b.toNat_lt⟩
  rwa [UInt8.ofNat_toNat] at h

theorem safe_split (b : UInt8) : safeB b = (letterB b || digitB b || decide (0 ≤ Lib.indexByte signs4.data.toList b)) := by
  rw [signs4_at]; unfold safeB; simp only [Bool.or_assoc]

theorem strCells_txtI (l : List UInt8) : Lib.strCells (txt l) = cells8 l := by simp [Lib.strCells, txt, cells8]

theorem low_hex_all : ∀ i : Fin 256, hexV (lowB (UInt8.ofNat i.val)) = hexV (UInt8.ofNat i.val) ∧ (0 ≤ hexV (UInt8.ofNat i.val) → hexD (hexV (UInt8.ofNat i.val)).toNat = lowB (UInt8.ofNat i.val)) := by decide +kernel

theorem low_hex (c : UInt8) : hexV (lowB c) = hexV c ∧ (0 ≤ hexV c → hexD (hexV c).toNat = lowB c) := by
  have h := low_hex_all ⟨c.toNat, c.toNat_lt⟩
  rwa [UInt8.ofNat_toNat] at h

theorem hex_two_yes (a b : UInt8) (ha : 0 ≤ hexV a) (hb : 0 ≤ hexV b) : hexL [unB a b] = lowL [a, b] := by
  have la := (hexV_le a).2
  have lb := (hexV_le b).2
  have h := nib_byte (hexV a).toNat (hexV b).toNat (by omega) (by omega)
  have e : unB a b = UInt8.ofNat (16 * (hexV a).toNat + (hexV b).toNat) := by
    unfold unB; congr 1; omega
  simp only [hexL, lowL, List.flatMap_cons, List.flatMap_nil, List.map_cons, List.map_nil, List.append_nil]
  rw [e, h.2.1, h.2.2, (low_hex a).2 ha, (low_hex b).2 hb]

theorem hex_two_no (a b : UInt8) (h : hexV a < 0 ∨ hexV b < 0) : ∀ r, hexL r ≠ lowL [a, b] := by
  intro r hr
  have hl : (hexL r).length = 2 := by rw [hr]; rfl
  rw [hexL_len] at hl
  match r, hl with
  | [x], _ =>
    have hx : x.toNat < 256 := x.toNat_lt
    simp only [hexL, lowL, List.flatMap_cons, List.flatMap_nil, List.map_cons, List.map_nil, List.append_nil, List.cons.injEq, and_true] at hr
    have h1 := hexV_hexD (x.toNat / 16) (by omega)
    have h2 := hexV_hexD (x.toNat % 16) (by omega)
    rw [hr.1, (low_hex a).1] at h1
    rw [hr.2, (low_hex b).1] at h2
    omega

theorem unp_code_end (acc : List UInt8) (s : ByteArray) (k : Nat) (h : k + 2 < s.size) (hp : s[k] = 37) :
    unpA acc (s.data.toList.drop k) = if hexV s[k + 1] < 0 ∨ hexV s[k + 2] < 0 then none else unpA (acc ++ [unB s[k + 1] s[k + 2]]) (s.data.toList.drop (k + 3)) := by
  rw [drop_three s k h, hp, unp_code]

theorem two_at (s : ByteArray) (k : Nat) (h : k + 2 < s.size) : (s.extract (k + 1) (k + 3)).data.toList = [s[k + 1], s[k + 2]] := by
  rw [extract_seg, txt_toList]
  have e1 := seg_snoc s (k + 1) (k + 1) (by omega) (by omega)
  have e2 := seg_snoc s (k + 1) (k + 2) (by omega) (by omega)
  rw [e2, e1, seg_nil]; rfl

end Go.Proofs.YtonpalaopnfffaaDoor

namespace Go.Proofs.YtonpalaopnfffaaDoor
set_option linter.unusedVariables false
set_option maxRecDepth 4000
open Go.ChangeShapes Go.WideShapes Go.ChangeAt Go.RowKit
open Go.ChangeMaps (open_string shut_string)

def prB (c : UInt8) : Bool := decide (32 ≤ c.toNat) && decide (c.toNat ≤ 126)

theorem prB_int (c : UInt8) : (decide ((32 : Int) ≤ ((c.toNat : Nat) : Int)) && decide (((c.toNat : Nat) : Int) ≤ 126)) = prB c := by
  unfold prB
  congr 1 <;> simp <;> omega

/-- bytes of a path, of a head's key -/
def pathB (c : UInt8) : Bool := letterB c || digitB c || c == 45 || c == 95 || c == 46 || c == 47

def hkB (c : UInt8) : Bool := letterB c || c == 45

theorem signs_fin : ∀ n : Fin 256, decide (0 ≤ Lib.indexByte [45, 95, 46, 47] (UInt8.ofNat n.val)) = (UInt8.ofNat n.val == 45 || UInt8.ofNat n.val == 95 || UInt8.ofNat n.val == 46 || UInt8.ofNat n.val == 47) := by decide +kernel

theorem signs_at (c : UInt8) : decide (0 ≤ Lib.indexByte [45, 95, 46, 47] c) = (c == 45 || c == 95 || c == 46 || c == 47) := by
  have h := signs_fin ⟨c.toNat, c.toNat_lt⟩
  have e : UInt8.ofNat (⟨c.toNat, c.toNat_lt⟩ : Fin 256).val = c := by simp
  rw [e] at h
  exact h

theorem byte_eq (c n : UInt8) : (c == n) = (((c.toNat : Nat) : Int) == ((n.toNat : Nat) : Int)) := by
  rw [Bool.eq_iff_iff, beq_iff_eq, beq_iff_eq]
  exact ⟨fun h => by rw [h], fun h => UInt8.toNat_inj.1 (by omega)⟩

end Go.Proofs.YtonpalaopnfffaaDoor

namespace Go.Proofs.YtonpalaopnfffaaDoor
set_option linter.unusedVariables false
set_option maxRecDepth 4000
open Go.ChangeShapes Go.WideShapes Go.ChangeAt Go.RowKit

namespace Ht

def getT : List UInt8 := [71, 69, 84]
def postT : List UInt8 := [80, 79, 83, 84]
def protoT : List UInt8 := [72, 84, 84, 80, 47, 49, 46, 49]
def lenT : List UInt8 := [67, 111, 110, 116, 101, 110, 116, 45, 76, 101, 110, 103, 116, 104]
def lenLow : List UInt8 := [99, 111, 110, 116, 101, 110, 116, 45, 108, 101, 110, 103, 116, 104]

def pathL (s : List UInt8) : Bool := decide (s.length ≤ 61) && (s.head? == some 47) && s.all pathB

def keyL (k : List UInt8) : Bool := k.all hkB && (decide (1 ≤ k.length) && decide (k.length ≤ 30)) && !(lowL k == lenLow)

def trimmed (v : List UInt8) : Bool := v == [] || (!(v.head? == some 32) && !(v.getLast? == some 32))

def valueL (v : List UInt8) : Bool := decide (v.length ≤ 900) && v.all prB && trimmed v

def headL (p : PairL) : Bool := keyL p.1 && valueL p.2

def headsL (l : List PairL) : Bool := decide (l.length ≤ 20) && l.all headL

structure ReqL where
  m : List UInt8
  p : List UInt8
  q : List PairL
  h : List PairL
  b : List UInt8

structure RespL where
  c : Int
  h : List PairL
  b : List UInt8

def methodL (m : List UInt8) : Bool := m == getT || m == postT

def reqOk (r : ReqL) : Bool := methodL r.m && pathL r.p && decide (r.q.length ≤ 30) && headsL r.h && decide (r.b.length ≤ 4000)

def respOk (r : RespL) : Bool := decide (200 ≤ r.c) && decide (r.c ≤ 599) && headsL r.h && decide (r.b.length ≤ 4000)

/-- a head's line -/
def lineL (p : PairL) : List UInt8 := p.1 ++ 58 :: 32 :: p.2

def lenLine (b : List UInt8) : List UInt8 := lenT ++ 58 :: 32 :: Lib.decDigits b.length

/-- the lines of a message behind its first one -/
def linesOf (h : List PairL) (b : List UInt8) : List (List UInt8) := h.map lineL ++ if b = [] then [] else [lenLine b]

def restL (h : List PairL) (b : List UInt8) : List UInt8 := (linesOf h b).flatMap (fun x => x ++ [13, 10]) ++ 13 :: 10 :: b

def targetL (r : ReqL) : List UInt8 := r.p ++ if r.q = [] then [] else 63 :: putL r.q

def firstL (r : ReqL) : List UInt8 := r.m ++ 32 :: (targetL r ++ 32 :: protoT)

def putReq (r : ReqL) : List UInt8 := if reqOk r then firstL r ++ 13 :: 10 :: restL r.h r.b else []

def firstA (r : RespL) : List UInt8 := protoT ++ 32 :: Lib.itoa r.c

def putResp (r : RespL) : List UInt8 := if respOk r then firstA r ++ 13 :: 10 :: restL r.h r.b else []

/-- the lines up to an empty one, and what is behind it -/
def scanA (acc : List (List UInt8)) (cur : List UInt8) : List UInt8 → Option (List (List UInt8) × List UInt8)
  | [] => none
  | [_] => none
  | a :: b :: r => if a = 13 ∧ b = 10 then (if cur = [] then some (acc, r) else scanA (acc ++ [cur]) [] r) else scanA acc (cur ++ [a]) (b :: r)

def scanL (s : List UInt8) : Option (List (List UInt8) × List UInt8) := scanA [] [] s

def trimL (v : List UInt8) : List UInt8 := Lib.trimS v [32, 9]

def isLen (k : List UInt8) : Bool := lowL k == lenLow

/-- heads of lines, what the first length says, and whether each line has a colon -/
def takeA (hs : List PairL) (t : Option (List UInt8)) : List (List UInt8) → List PairL × Option (List UInt8) × Bool
  | [] => (hs, t, true)
  | x :: r => match cutL 58 x with
    | none => (hs, t, false)
    | some (k, v) => if isLen k then takeA hs (some (t.getD (trimL v))) r else takeA (hs ++ [(k, trimL v)]) t r

def lenOf (t : Option (List UInt8)) : Int := match t with
  | none => 0
  | some u => rdV u

def zeroR : ReqL := ⟨[], [], [], [], []⟩

def zeroA : RespL := ⟨0, [], []⟩

/-- the path and the form of a target -/
def targetOf (t : List UInt8) : List UInt8 × List UInt8 := match cutL 63 t with
  | none => (t, [])
  | some x => x

/-- a target's path and pairs -/
def readT (t : List UInt8) : Option (List UInt8 × List PairL) := match getL (targetOf t).2 with
  | none => none
  | some q => if pathL (targetOf t).1 then some ((targetOf t).1, q) else none

/-- a request line's method and target -/
def readF (x : List UInt8) : Option (List UInt8 × List UInt8) := match splitL 32 x with
  | [m, t, p] => if methodL m = true ∧ p = protoT then some (m, t) else none
  | _ => none

def readH (ls : List (List UInt8)) : Option (List PairL × Option (List UInt8)) :=
  if (takeA [] none ls).2.2 = true ∧ headsL (takeA [] none ls).1 = true then some ((takeA [] none ls).1, (takeA [] none ls).2.1) else none

def bodyOk (b : List UInt8) (t : Option (List UInt8)) : Bool := decide ((b.length : Int) = lenOf t) && decide (b.length ≤ 4000)

/-- what is read behind the lines: the request, and a code -/
def readR (ls : List (List UInt8)) (b : List UInt8) : ReqL × Int := match ls with
  | [] => (zeroR, 1)
  | f :: hs => match readF f with
    | none => (zeroR, 1)
    | some (m, t) => match readT t with
      | none => (zeroR, 2)
      | some (p, q) => match readH hs with
        | none => (zeroR, 3)
        | some (h, n) => if bodyOk b n then (⟨m, p, q, h, b⟩, 0) else (zeroR, 4)

def getReq (s : List UInt8) : ReqL × Int := if 8000 < s.length then (zeroR, 5) else match scanL s with
  | none => (zeroR, 1)
  | some (ls, b) => readR ls b

/-- the answer that lines make -/
def mkResp (f : List UInt8) (hs : List (List UInt8)) (b : List UInt8) : RespL := ⟨rdV (Lib.trimPrefix f (protoT ++ [32])), (takeA [] none hs).1, b⟩

def getResp (s : List UInt8) : Option RespL := match scanL s with
  | none => none
  | some (ls, b) => match ls with
    | [] => none
    | f :: hs => if putResp (mkResp f hs b) = s then some (mkResp f hs b) else none

def headV (key : List UInt8) : List PairL → Option (List UInt8)
  | [] => none
  | p :: r => if lowL p.1 = lowL key then some p.2 else headV key r

/- lines -/

theorem scan_line (acc : List (List UInt8)) (x r : List UInt8) : ∀ cur, (13 : UInt8) ∉ x → scanA acc cur (x ++ 13 :: 10 :: r) = if cur ++ x = [] then some (acc, r) else scanA (acc ++ [cur ++ x]) [] r := by
  induction x with
  | nil => intro cur _; simp [scanA]
  | cons a x ih =>
    intro cur h
    have h1 : a ≠ 13 := fun e => h (by rw [e]; exact List.mem_cons_self)
    have h2 : (13 : UInt8) ∉ x := fun e => h (List.mem_cons_of_mem _ e)
    have e : scanA acc cur (a :: (x ++ 13 :: 10 :: r)) = scanA acc (cur ++ [a]) (x ++ 13 :: 10 :: r) := by
      cases x with
      | nil => simp [scanA, h1]
      | cons b x => simp [scanA, h1]
    rw [List.cons_append, e, ih _ h2]
    simp

theorem scan_lines (b : List UInt8) (ls : List (List UInt8)) : ∀ acc, (∀ x ∈ ls, (13 : UInt8) ∉ x ∧ x ≠ []) → scanA acc [] (ls.flatMap (fun x => x ++ [13, 10]) ++ 13 :: 10 :: b) = some (acc ++ ls, b) := by
  induction ls with
  | nil => intro acc _; simp [scanA]
  | cons x ls ih =>
    intro acc h
    have hx := h x List.mem_cons_self
    have e : (x :: ls).flatMap (fun x => x ++ [13, 10]) ++ 13 :: 10 :: b = x ++ 13 :: 10 :: (ls.flatMap (fun x => x ++ [13, 10]) ++ 13 :: 10 :: b) := by simp
    rw [e, scan_line acc x _ [] hx.1, List.nil_append, if_neg hx.2, ih _ (fun y hy => h y (List.mem_cons_of_mem _ hy))]
    simp

/-- what Cut at CR LF tells of the lines -/
theorem scan_cut (acc : List (List UInt8)) (s : List UInt8) : ∀ cur, scanA acc cur s = if (Lib.cut s [13, 10]).2.2 then (if cur ++ (Lib.cut s [13, 10]).1 = [] then some (acc, (Lib.cut s [13, 10]).2.1) else scanA (acc ++ [cur ++ (Lib.cut s [13, 10]).1]) [] (Lib.cut s [13, 10]).2.1) else none := by
  induction s with
  | nil => intro cur; rfl
  | cons a s ih =>
    intro cur
    cases s with
    | nil =>
      have : Lib.index [a] [13, 10] = -1 := by
        have h1 : ([13, 10] : List UInt8).isPrefixOf [a] = false := by simp [List.isPrefixOf]
        have h2 : Lib.index [] [13, 10] = -1 := rfl
        unfold Lib.index
        rw [h1, h2]
        rfl
      unfold Lib.cut
      rw [this]
      rfl
    | cons b r =>
      by_cases hab : a = 13 ∧ b = 10
      · obtain ⟨rfl, rfl⟩ := hab
        have : Lib.index (13 :: 10 :: r) [13, 10] = 0 := by
          unfold Lib.index
          rw [if_pos (by simp [List.isPrefixOf])]
        have e : Lib.cut (13 :: 10 :: r) [13, 10] = ([], r, true) := by
          unfold Lib.cut
          rw [this]
          rfl
        rw [e]
        simp [scanA]
      · have e1 : scanA acc cur (a :: b :: r) = scanA acc (cur ++ [a]) (b :: r) := by
          show (if a = 13 ∧ b = 10 then _ else _) = _
          rw [if_neg hab]
        have hp : ([13, 10] : List UInt8).isPrefixOf (a :: b :: r) = false := by
          rw [Bool.eq_false_iff]
          intro h
          apply hab
          simp [List.isPrefixOf] at h
          exact ⟨h.1.symm, h.2.symm⟩
        have hidx : Lib.index (a :: b :: r) [13, 10] = if Lib.index (b :: r) [13, 10] == -1 then -1 else Lib.index (b :: r) [13, 10] + 1 := by
          conv => lhs; unfold Lib.index
          rw [hp]
          rfl
        rw [e1, ih]
        have hge := Lib.index_ge (b :: r) [13, 10]
        unfold Lib.cut
        rw [hidx]
        generalize Lib.index (b :: r) [13, 10] = n at hge
        by_cases hn : n = -1
        · subst hn
          simp
        · have hn0 : 0 ≤ n := by omega
          obtain ⟨k, rfl⟩ : ∃ k : Nat, n = k := ⟨n.toNat, by omega⟩
          have hk : ((k : Int) == -1) = false := by
            rw [Bool.eq_false_iff]
            intro e
            exact hn (eq_of_beq e)
          rw [hk]
          have ek : ((k : Int) + 1).toNat = k + 1 := by omega
          have ek2 : (k : Int).toNat = k := by omega
          have p1 : (0 : Int) ≤ (k : Int) := by omega
          have p2 : (0 : Int) ≤ (k : Int) + 1 := by omega
          simp only [Bool.false_eq_true, if_false, ek, ek2, p1, p2, if_true]
          simp

theorem scan_len (acc : List (List UInt8)) (s : List UInt8) : ∀ cur ls b, scanA acc cur s = some (ls, b) → ls.length ≤ acc.length + s.length ∧ b.length ≤ s.length := by
  induction hn : s.length using Nat.strongRecOn generalizing s acc with
  | ind n ih =>
    intro cur ls b h
    match s, hn with
    | [], _ => simp [scanA] at h
    | [_], _ => simp [scanA] at h
    | a :: c :: r, hn =>
      unfold scanA at h
      simp only [List.length_cons] at hn
      split at h
      · split at h
        · simp only [Option.some.injEq, Prod.mk.injEq] at h
          obtain ⟨rfl, rfl⟩ := h
          omega
        · have := ih r.length (by omega) (acc ++ [cur]) r rfl [] ls b h
          simp at this
          omega
      · have := ih (r.length + 1) (by omega) acc (c :: r) rfl (cur ++ [a]) ls b h
        omega

end Ht
end Go.Proofs.YtonpalaopnfffaaDoor
