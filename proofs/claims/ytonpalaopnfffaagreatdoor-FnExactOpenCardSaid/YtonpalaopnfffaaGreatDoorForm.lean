import Derived.Test.YtonpalaopnfffaaGreatDoorPct
import Derived.Test.YtonpalaopnfffaaGreatDoorSplit
import Derived.Lib.AppendStr

namespace Go.Proofs.YtonpalaopnfffaaGreatDoor
set_option linter.unusedVariables false
set_option maxRecDepth 4000
open Go.ChangeShapes Go.WideShapes Go.ChangeAt Go.RowKit
open Go.ChangeMaps (open_string shut_string)

/-- a pair: its key, its value -/
abbrev PairL := List UInt8 × List UInt8

/-- pairs as the cells of a row -/
def pcells (l : List PairL) : List Value := l.flatMap fun p => [.string (txt p.1), .string (txt p.2)]

theorem pcells_len (l : List PairL) : (pcells l).length = l.length * 2 := by
  induction l with
  | nil => rfl
  | cons p l ih =>
    have e : pcells (p :: l) = .string (txt p.1) :: .string (txt p.2) :: pcells l := rfl
    rw [e]; simp [ih]; omega

theorem pcells_append (a b : List PairL) : pcells (a ++ b) = pcells a ++ pcells b := by simp [pcells]

theorem pcells_at (l : List PairL) : ∀ k (hk : k < l.length), (pcells l)[k * 2]? = some (.string (txt l[k].1)) ∧ (pcells l)[k * 2 + 1]? = some (.string (txt l[k].2)) := by
  induction l with
  | nil => intro k hk; simp at hk
  | cons p l ih =>
    intro k hk
    have e : pcells (p :: l) = .string (txt p.1) :: .string (txt p.2) :: pcells l := rfl
    rw [e]
    cases k with
    | zero => exact ⟨rfl, rfl⟩
    | succ k =>
      have := ih k (by simpa using hk)
      have e1 : (k + 1) * 2 = k * 2 + 1 + 1 := by omega
      rw [e1, List.getElem?_cons_succ, List.getElem?_cons_succ, List.getElem?_cons_succ, List.getElem?_cons_succ]
      exact this

theorem own_val2 {w : World} {base : Nat} {e : TypeId} {v : Value} {n : Nat} {xs : List Value} (h : w.ownsRow base e 2 v n xs) : ∃ a cap, v = .slice a n cap := by
  rcases h.2 with ⟨rfl, rfl⟩ | ⟨g, cap, cur, rfl, _⟩
  · exact ⟨none, 0, rfl⟩
  · exact ⟨_, cap, rfl⟩

theorem own_at2 {w : World} {base : Nat} {e : TypeId} {a : Option Addr} {n cap : Nat} {xs : List Value} (h : w.ownsRow base e 2 (.slice a n cap) n xs) (hn : 0 < n) : ∃ g, a = some ⟨g, 0, none⟩ ∧ base ≤ g ∧ g < w.heap.size := by
  rcases h.2 with ⟨_, h0⟩ | ⟨g, cap', cur, hv, hb, hg, _⟩
  · omega
  · simp at hv
    exact ⟨g, hv.1, hb, (Array.getElem?_eq_some_iff.1 hg).1⟩

theorem own_cell2 {w : World} {base : Nat} {e : TypeId} {g n cap : Nat} {l : List PairL} (h : w.ownsRow base e 2 (.slice (some ⟨g, 0, none⟩) n cap) n (pcells l)) (k : Nat) (hk : k < l.length) (hn : l.length = n) :
    w.cell? ⟨g, k * 2, none⟩ = some (.string (txt l[k].1)) ∧ w.cell? ⟨g, k * 2 + 1, none⟩ = some (.string (txt l[k].2)) := by
  rw [h.cellAt (k * 2) (by omega), h.cellAt (k * 2 + 1) (by omega)]
  exact pcells_at l k hk

/-- the value of the first pair with a key -/
def findL (key : List UInt8) : List PairL → Option (List UInt8)
  | [] => none
  | p :: r => if p.1 = key then some p.2 else findL key r

theorem txt_beq (a b : List UInt8) : ((txt a).toList == (txt b).toList) = decide (a = b) := by
  rw [Lib.toList_data, Lib.toList_data]
  show (a == b) = decide (a = b)
  rw [Bool.eq_iff_iff]
  simp

def plusB (b : UInt8) : UInt8 := if b = 43 then 32 else b

def formL (l : List UInt8) : Option (List UInt8) := unpA [] (l.map plusB)

def plusTo (l : List UInt8) (k : Nat) : List UInt8 := (l.take k).map plusB ++ l.drop k

theorem plusTo_len (l : List UInt8) (k : Nat) : (plusTo l k).length = l.length := by unfold plusTo; simp; omega

theorem plusTo_at (l : List UInt8) (k : Nat) (hk : k < l.length) : (plusTo l k)[k]'(by rw [plusTo_len]; exact hk) = l[k] := by
  unfold plusTo
  have e2 : ((l.take k).map plusB).length = k := by simp; omega
  rw [List.getElem_append_right (by omega), List.getElem_drop]
  exact getElem_congr_idx (by omega)

theorem plusTo_next (l : List UInt8) (k : Nat) (hk : k < l.length) : (plusTo l k).set k (plusB l[k]) = plusTo l (k + 1) := by
  unfold plusTo
  have e1 : l.drop k = l[k] :: l.drop (k + 1) := List.drop_eq_getElem_cons hk
  have e2 : ((l.take k).map plusB).length = k := by simp; omega
  have e3 : l.take (k + 1) = l.take k ++ [l[k]] := by rw [List.take_succ_eq_append_getElem hk]
  rw [e1, List.set_append_right _ _ (by omega), e2, e3, Nat.sub_self, List.set_cons_zero]
  simp only [List.map_append, List.map_cons, List.map_nil, List.append_assoc, List.singleton_append]

theorem plusTo_same (l : List UInt8) (k : Nat) (hk : k < l.length) (h : plusB l[k] = l[k]) : plusTo l (k + 1) = plusTo l k := by
  have := plusTo_next l k hk
  rw [h] at this
  rw [← this]
  have e := plusTo_at l k hk
  conv => lhs; rw [← e]
  exact List.set_getElem_self _

/-- a text cut at the first c -/
def cutL (c : UInt8) : List UInt8 → Option (List UInt8 × List UInt8)
  | [] => none
  | x :: r => if x = c then some ([], r) else (cutL c r).map fun p => (x :: p.1, p.2)

theorem cutL_no (c : UInt8) (l : List UInt8) (h : c ∉ l) : cutL c l = none := by
  induction l with
  | nil => rfl
  | cons x l ih =>
    rw [cutL, if_neg (fun e => h (by simp [e])), ih (fun h2 => h (by simp [h2]))]
    rfl

theorem cutL_yes (c : UInt8) (q : List UInt8) (p : List UInt8) (h : c ∉ p) : cutL c (p ++ c :: q) = some (p, q) := by
  induction p with
  | nil => simp [cutL]
  | cons x p ih =>
    rw [List.cons_append, cutL, if_neg (fun e => h (by simp [e])), ih (fun h2 => h (by simp [h2]))]
    rfl

def cutR (l : List UInt8) : Option (List UInt8 × List UInt8) → Value
  | some (a, b) => .tuple #[.string (txt a), .string (txt b), .bool true]
  | none => .tuple #[.string (txt l), .string ⟨#[]⟩, .bool false]

/-- one part of a form -/
def partL (p : List UInt8) : Option PairL := match cutL 61 p with
  | none => none
  | some (a, b) => match formL a, formL b with
    | some k, some v => some (k, v)
    | _, _ => none

def getA (acc : List PairL) : List (List UInt8) → Option (List PairL)
  | [] => some acc
  | p :: r => match partL p with
    | none => none
    | some x => getA (acc ++ [x]) r

def getL (s : List UInt8) : Option (List PairL) := if (splitL 38 s).length > 30 then none else getA [] (splitL 38 s)

theorem unR_form (R : Option (List UInt8)) : ∃ x ok, unR R = .tuple #[.string (txt x), .bool ok] ∧ ((ok = true ∧ R = some x) ∨ (ok = false ∧ R = none)) := by
  cases R with
  | none => exact ⟨[], false, rfl, .inr ⟨rfl, rfl⟩⟩
  | some x => exact ⟨x, true, rfl, .inl ⟨rfl, rfl⟩⟩

theorem cutL_len (c : UInt8) (l : List UInt8) : ∀ a b, cutL c l = some (a, b) → a.length ≤ l.length ∧ b.length ≤ l.length := by
  induction l with
  | nil => intro a b h; simp [cutL] at h
  | cons x l ih =>
    intro a b h
    rw [cutL] at h
    split at h
    · simp at h
      obtain ⟨h1, h2⟩ := h
      subst h1 h2
      simp
    · cases hc : cutL c l with
      | none => rw [hc] at h; simp at h
      | some p =>
        rw [hc] at h
        simp at h
        have := ih p.1 p.2 (by rw [hc])
        obtain ⟨h1, h2⟩ := h
        subst h1 h2
        simp
        omega

theorem cutR_form (c : UInt8) (l : List UInt8) : ∃ a b ok, cutR l (cutL c l) = .tuple #[.string (txt a), .string (txt b), .bool ok] ∧ a.length ≤ l.length ∧ b.length ≤ l.length ∧ ((ok = true ∧ cutL c l = some (a, b)) ∨ (ok = false ∧ cutL c l = none)) := by
  cases h : cutL c l with
  | none => exact ⟨l, [], false, rfl, Nat.le_refl _, by simp, .inr ⟨rfl, rfl⟩⟩
  | some p =>
    obtain ⟨h1, h2⟩ := cutL_len c l p.1 p.2 h
    exact ⟨p.1, p.2, true, rfl, h1, h2, .inl ⟨rfl, rfl⟩⟩

theorem sAux_part (c : UInt8) (l : List UInt8) : ∀ cur, ∀ x ∈ sAux c cur l, x.length ≤ cur.length + l.length := by
  induction l with
  | nil => intro cur x hx; simp [sAux] at hx; subst hx; simp
  | cons y l ih =>
    intro cur x hx
    rw [sAux] at hx
    split at hx
    · rw [List.mem_cons] at hx
      rcases hx with hx | hx
      · subst hx; simp
      · have := ih [] x hx; simp at this ⊢; omega
    · have := ih _ x hx; simp at this ⊢; omega

theorem splitL_part (c : UInt8) (l : List UInt8) (x : List UInt8) (hx : x ∈ splitL c l) : x.length ≤ l.length := by
  unfold splitL at hx
  split at hx
  · simp at hx
  · have := sAux_part c l [] x hx; simp at this; exact this

theorem partL_of (p : List UInt8) (ok fine good : Bool) (a b k v : List UInt8) (h1 : (ok = true ∧ cutL 61 p = some (a, b)) ∨ (ok = false ∧ cutL 61 p = none)) (h2 : (fine = true ∧ formL a = some k) ∨ (fine = false ∧ formL a = none)) (h3 : (good = true ∧ formL b = some v) ∨ (good = false ∧ formL b = none)) :
    partL p = if ok = true ∧ fine = true ∧ good = true then some (k, v) else none := by
  unfold partL
  rcases h1 with ⟨rfl, e1⟩ | ⟨rfl, e1⟩
  · rw [e1]
    rcases h2 with ⟨rfl, e2⟩ | ⟨rfl, e2⟩
    · rcases h3 with ⟨rfl, e3⟩ | ⟨rfl, e3⟩
      · simp [e2, e3]
      · simp [e2, e3]
    · simp [e2]
  · rw [e1]
    simp

def getV (v : Value) : Option (List PairL) → Value
  | some _ => .tuple #[v, .bool true]
  | none => .tuple #[v, .bool false]

theorem rows_apart {w : World} {b1 b2 : Nat} {e1 e2 : TypeId} {s1 s2 n1 n2 : Nat} {v1 v2 : Value} {xs1 xs2 : List Value} (h1 : w.ownsRow b1 e1 s1 v1 n1 xs1) (h2 : w.ownsRow b2 e2 s2 v2 n2 xs2) (hne : e1 ≠ e2) : v1.ownBlock = none ∨ v1.ownBlock ≠ v2.ownBlock := by
  rcases h1.2 with ⟨rfl, _⟩ | ⟨g1, c1, cur1, rfl, _, hg1, _⟩
  · exact .inl rfl
  · refine .inr fun e => ?_
    rcases h2.2 with ⟨rfl, _⟩ | ⟨g2, c2, cur2, rfl, _, hg2, _⟩
    · simp [Value.ownBlock] at e
    · simp [Value.ownBlock] at e
      subst e
      rw [hg1] at hg2
      simp at hg2
      exact hne hg2.2

/-- 'append(row, text...)' at a step of a region that draws its order -/
theorem step_append_str {P : Program} {w : World} {ops : Array Oper} {o : Oper} {a : Act} {K : Act → World → Prop} {Q : Exit → Act → World → Prop} {E : Prop} (hgd : o.guard = none) (sl x : Operand) (t u : TypeId)
    (ho : o.op = .call { callee := .builtin .append, args := #[sl, x], argTypes := #[t, u] })
    (base : Nat) (e : TypeId) (i : TypeInfo) (ht : P.underlying t = some (.slice e)) (hu : P.underlying u = some .string) (hi : P.info? e = some i) (hz : i.zero = some (.int .u8 0))
    (hsize : i.size = 1) (hby : i.bytes = 1)
    (v : Value) (n : Nat) (xs : List Value) (hs : a.eval sl = v) (hown : w.ownsRow base e 1 v n xs) (s : ByteArray) (hx : a.eval x = .string s)
    (h63 : n + s.size ≤ maxLen) (hbytes : n + s.size ≤ 140737488355328) (hbase : base ≤ w.heap.size)
    (h : ∀ v' w', w'.ownsRow base e 1 v' (n + s.size) (xs ++ Lib.strCells s) → w.grownBy w' v.ownBlock → K (a.put o.dst v') w') :
    if Region.wanted o (yielded ops a.tmps) = true then Oper.wp P o a w K Q else E := by
  have hw : Region.wanted o (yielded ops a.tmps) = true := by simp [Region.wanted, hgd]
  rw [if_pos hw]
  obtain ⟨v', w', hr, h2, h3, _⟩ := Lib.run_append_own_string (P := P) w base t u o.type e i ht hu hi hz hsize hby v n xs hown s h63 hbytes hbase
  unfold Oper.wp execOp
  simp only [ho, resolve, invoke, builtin, Sem.run_bind, Sem.run_pure, Result.andThen_ok, List.map_toArray, List.map_cons, List.map_nil, hs, hx, hr]
  exact h v' w' h2 h3

theorem strCells_txt (l : List UInt8) : Lib.strCells (txt l) = cells8 l := by
  simp [Lib.strCells, cells8, txt]

/-- a pair of a form -/
def oneL (p : PairL) : List UInt8 := pctL p.1 ++ 61 :: pctL p.2

def putL : List PairL → List UInt8
  | [] => []
  | p :: r => oneL p ++ r.flatMap fun q => 38 :: oneL q

theorem putL_one (p : PairL) : putL [p] = oneL p := by simp [putL]

theorem putL_snoc (l : List PairL) (p : PairL) (h : l ≠ []) : putL (l ++ [p]) = putL l ++ [38] ++ oneL p := by
  cases l with
  | nil => exact absurd rfl h
  | cons q r => simp [putL]

end Go.Proofs.YtonpalaopnfffaaGreatDoor
