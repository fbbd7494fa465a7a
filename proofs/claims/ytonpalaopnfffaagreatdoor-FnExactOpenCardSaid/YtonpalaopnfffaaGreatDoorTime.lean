/- CONTRACTS: is a number a time: the program's, the model's. -/
import Derived.Test.YtonpalaopnfffaaGreatDoorHtOk
import Derived.Test.YtonpalaopnfffaaGreatDoorSplit
import Derived.Test.YtonpalaopnfffaaGreatDoorForm
namespace Go.Proofs.YtonpalaopnfffaaGreatDoor
set_option linter.unusedVariables false
set_option maxRecDepth 4000
open Go.ChangeShapes Go.WideShapes Go.ChangeAt Go.RowKit
open Go.ChangeMaps (open_string shut_string)

namespace Ck
open Ht

/-- a host's bytes, its labels, a host -/
def hostB (c : UInt8) : Bool := (decide (97 ≤ c.toNat) && decide (c.toNat ≤ 122)) || digitB c || c == 45

def labelL (p : List UInt8) : Bool := p.all hostB && !(p == [])

def hostL (s : List UInt8) : Bool := (splitL 46 s).all labelL && (decide (1 ≤ s.length) && decide (s.length ≤ 60))

def nmB (c : UInt8) : Bool := letterB c || digitB c || c == 45 || c == 95

def nmL (s : List UInt8) : Bool := s.all nmB && (decide (1 ≤ s.length) && decide (s.length ≤ 30))

def vlB (c : UInt8) : Bool := decide (33 ≤ c.toNat) && decide (c.toNat ≤ 126) && !(c == 34) && !(c == 44) && !(c == 59) && !(c == 92)

def vlL (s : List UInt8) : Bool := s.all vlB && decide (s.length ≤ 600)

def timeB (n : Int) : Bool := decide (0 ≤ n) && decide (n ≤ 999999999999)

structure CkL where
  n : List UInt8
  v : List UInt8
  d : List UInt8
  o : Bool
  p : List UInt8
  u : Int

def ckV (c : CkL) : Value := .agg #[.string (txt c.n), .string (txt c.v), .string (txt c.d), .bool c.o, .string (txt c.p), .int .i64 c.u]

def ckOk (c : CkL) : Bool := nmL c.n && vlL c.v && hostL c.d && pathL c.p && (decide (-1 ≤ c.u) && decide (c.u ≤ 999999999999))

def domL (h d : List UInt8) : Bool := hostL h && hostL d && (h == d || Lib.hasSuffix h (46 :: d))

def pmL (p u : List UInt8) : Bool := pathL p && pathL u && (Lib.hasPrefix p u && (decide (p.length = u.length) || (p.drop u.length).head? == some 47 || u.getLast? == some 47))

/-- a pair with an equals sign between -/
def eqL (p : PairL) : List UInt8 := p.1 ++ 61 :: p.2

/-- an attribute's part -/
def atL (k v : List UInt8) : List UInt8 := 59 :: 32 :: (k ++ 61 :: v)

def pathT : List UInt8 := [80, 97, 116, 104]
def domT : List UInt8 := [68, 111, 109, 97, 105, 110]
def ageT : List UInt8 := [77, 97, 120, 45, 65, 103, 101]

def ageL (u now : Int) : Int := if u - now < 0 then 0 else u - now

def setL (c : CkL) (now : Int) : List UInt8 :=
  eqL (c.n, c.v) ++ atL pathT c.p ++ (if c.o then [] else atL domT c.d) ++ (if c.u = -1 then [] else atL ageT (Lib.itoa (ageL c.u now)))

def putSet (c : CkL) (now : Int) : List UInt8 := if ckOk c && timeB now then setL c now else []

/-- before and after the first c; whether there is one -/
def cutA (c : UInt8) (l : List UInt8) : List UInt8 × List UInt8 × Bool := match cutL c l with
  | some (a, b) => (a, b, true)
  | none => (l, [], false)

def dropDot (v : List UInt8) : List UInt8 := if v.head? = some 46 then v.drop 1 else v

/-- one attribute -/
def doAt (now : Int) (c : CkL) (k v : List UInt8) : CkL :=
  if k = [112, 97, 116, 104] then (if pathL v then { c with p := v } else c)
  else if k = [100, 111, 109, 97, 105, 110] then { c with d := lowL (dropDot v), o := false }
  else if k = [109, 97, 120, 45, 97, 103, 101] then (if v.head? = some 45 then { c with u := now } else if 0 ≤ rdV v then { c with u := now + rdV v } else c)
  else c

def doPart (now : Int) (c : CkL) (x : List UInt8) : CkL := doAt now c (lowL (cutA 61 x).1) (cutA 61 x).2.1

def zeroC : CkL := ⟨[], [], [], false, [], 0⟩

def partsOf (s : List UInt8) : List (List UInt8) := (splitL 59 s).map trimL

def startC (x host : List UInt8) : CkL := ⟨(cutA 61 x).1, (cutA 61 x).2.1, host, true, [47], -1⟩

def getSet (s host : List UInt8) (now : Int) : Option CkL := match partsOf s with
  | [] => none
  | x :: r => if timeB now && (cutA 61 x).2.2 && ckOk (r.foldl (doPart now) (startC x host)) && domL host (r.foldl (doPart now) (startC x host)).d then some (r.foldl (doPart now) (startC x host)) else none

/-- a Cookie header -/
def putCk : List PairL → List UInt8
  | [] => []
  | p :: r => eqL p ++ r.flatMap fun q => 59 :: 32 :: eqL q

def onePair (x : List UInt8) : Option PairL := if (cutA 61 x).2.2 && nmL (cutA 61 x).1 && vlL (cutA 61 x).2.1 then some ((cutA 61 x).1, (cutA 61 x).2.1) else none

def getCk (s : List UInt8) : List PairL := ((partsOf s).filterMap onePair).take 30

end Ck
end Go.Proofs.YtonpalaopnfffaaGreatDoor

namespace Go.Proofs.YtonpalaopnfffaaGreatDoor
set_option linter.unusedVariables false
set_option maxRecDepth 4000
open Go.ChangeShapes Go.WideShapes Go.ChangeAt Go.RowKit
open Go.ChangeMaps (open_string shut_string)

namespace Ky
open Ht Ck

theorem timeI (n : Int) (w : World) :
    Calls Tryz.prog 43 #[.int .i64 n] w fun e w' => e = .returned (.bool (timeB n)) ∧ w = w' := by
  have HR := Lib.hid (show timeB n = (decide (0 ≤ n) && decide (n ≤ 999999999999)) from rfl)
  generalize timeB n = R at HR ⊢
  by_cases h0 : 0 ≤ n
  · have HR2 := Lib.hid (show R = decide (n ≤ 999999999999) by rw [HR.out, decide_eq_true h0]; rfl)
    go_enter Tryz.func43, Tryz.ntmps43
    go_wp2
    go_ret
    exact ⟨ret_bool HR2.out.symm, rfl⟩
  · have HR2 := Lib.hid (show R = false by rw [HR.out, decide_eq_false h0]; rfl)
    go_enter Tryz.func43, Tryz.ntmps43
    go_wp2
    go_ret
    exact ⟨ret_bool HR2.out.symm, rfl⟩

theorem timeS (n : Int) (w : World) :
    Calls Tryz.prog 45 #[.int .i64 n] w fun e w' => e = .returned (.bool (timeB n)) ∧ w = w' := by
  go_enter Tryz.func45, Tryz.ntmps45
  go_wp2_with fail
  refine (in_call _ _ _ _).mono ?_
  rintro e w1 ⟨rfl, rfl⟩
  go_wp2
  go_ret
  exact ⟨rfl, rfl⟩

end Ky
end Go.Proofs.YtonpalaopnfffaaGreatDoor
