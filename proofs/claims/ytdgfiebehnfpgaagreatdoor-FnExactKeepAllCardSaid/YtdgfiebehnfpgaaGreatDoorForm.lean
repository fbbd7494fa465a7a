import Derived.Test.YtdgfiebehnfpgaaGreatDoorPct
import Derived.Test.YtdgfiebehnfpgaaGreatDoorSplit
import Derived.Lib.AppendStr

namespace Go.Proofs.YtdgfiebehnfpgaaGreatDoor
set_option linter.unusedVariables false
set_option maxRecDepth 4000
open Go.ChangeShapes Go.WideShapes Go.ChangeAt Go.RowKit
open Go.ChangeMaps (open_string shut_string)

/-- a pair: its key, its value -/
abbrev PairL := List UInt8 × List UInt8

/-- pairs as the cells of a row -/
def pcells (l : List PairL) : List Value := l.flatMap fun p => [.string (txt p.1), .string (txt p.2)]

theorem pcells_len (l : List PairL) : (pcells l).length = l.length * 2 := by
  induction l with
  | nil => rfl
  | cons p l ih =>
    have e : pcells (p :: l) = .string (txt p.1) :: .string (txt p.2) :: pcells l := rfl
    rw [e]; simp [ih]; omega

theorem pcells_append (a b : List PairL) : pcells (a ++ b) = pcells a ++ pcells b := by simp [pcells]

theorem pcells_at (l : List PairL) : ∀ k (hk : k < l.length), (pcells l)[k * 2]? = some (.string (txt l[k].1)) ∧ (pcells l)[k * 2 + 1]? = some (.string (txt l[k].2)) := by
  induction l with
  | nil => intro k hk; simp at hk
  | cons p l ih =>
    intro k hk
    have e : pcells (p :: l) = .string (txt p.1) :: .string (txt p.2) :: pcells l := rfl
    rw [e]
    cases k with
    | zero => exact ⟨rfl, rfl⟩
    | succ k =>
      have := ih k (by simpa using hk)
      have e1 : (k + 1) * 2 = k * 2 + 1 + 1 := by omega
      rw [e1, List.getElem?_cons_succ, List.getElem?_cons_succ, List.getElem?_cons_succ, List.getElem?_cons_succ]
      exact this

theorem own_val2 {w : World} {base : Nat} {e : TypeId} {v : Value} {n : Nat} {xs : List Value} (h : w.ownsRow base e 2 v n xs) : ∃ a cap, v = .slice a n cap := by
  rcases h.2 with ⟨rfl, rfl⟩ | ⟨g, cap, cur, rfl, _⟩
  · exact ⟨none, 0, rfl⟩
  · exact ⟨_, cap, rfl⟩

theorem own_at2 {w : World} {base : Nat} {e : TypeId} {a : Option Addr} {n cap : Nat} {xs : List Value} (h : w.ownsRow base e 2 (.slice a n cap) n xs) (hn : 0 < n) : ∃ g, a = some ⟨g, 0, none⟩ ∧ base ≤ g ∧ g < w.heap.size := by
  rcases h.2 with ⟨_, h0⟩ | ⟨g, cap', cur, hv, hb, hg, _⟩
  · omega
  · simp at hv
    exact ⟨g, hv.1, hb, (Array.getElem?_eq_some_iff.1 hg).1⟩

theorem own_cell2 {w : World} {base : Nat} {e : TypeId} {g n cap : Nat} {l : List PairL} (h : w.ownsRow base e 2 (.slice (some ⟨g, 0, none⟩) n cap) n (pcells l)) (k : Nat) (hk : k < l.length) (hn : l.length = n) :
    w.cell? ⟨g, k * 2, none⟩ = some (.string (txt l[k].1)) ∧ w.cell? ⟨g, k * 2 + 1, none⟩ = some (.string (txt l[k].2)) := by
  rw [h.cellAt (k * 2) (by omega), h.cellAt (k * 2 + 1) (by omega)]
  exact pcells_at l k hk

/-- the value of the first pair with a key -/
def findL (key : List UInt8) : List PairL → Option (List UInt8)
  | [] => none
  | p :: r => if p.1 = key then some p.2 else findL key r

theorem txt_beq (a b : List UInt8) : ((txt a).toList == (txt b).toList) = decide (a = b) := by
  rw [Lib.toList_data, Lib.toList_data]
  show (a == b) = decide (a = b)
  rw [Bool.eq_iff_iff]
  simp

def plusB (b : UInt8) : UInt8 := if b = 43 then 32 else b

def formL (l : List UInt8) : Option (List UInt8) := unpA [] (l.map plusB)

def plusTo (l : List UInt8) (k : Nat) : List UInt8 := (l.take k).map plusB ++ l.drop k

theorem plusTo_len (l : List UInt8) (k : Nat) : (plusTo l k).length = l.length := by unfold plusTo; simp; omega

theorem plusTo_at (l : List UInt8) (k : Nat) (hk : k < l.length) : (plusTo l k)[k]'(by rw [plusTo_len]; exact hk) = l[k] := by
  unfold plusTo
  have e2 : ((l.take k).map plusB).length = k := by simp; omega
  rw [List.getElem_append_right (by omega), List.getElem_drop]
  exact getElem_congr_idx (by omega)

theorem plusTo_next (l : List UInt8) (k : Nat) (hk : k < l.length) : (plusTo l k).set k (plusB l[k]) = plusTo l (k + 1) := by
  unfold plusTo
  have e1 : l.drop k = l[k] :: l.drop (k + 1) := List.drop_eq_getElem_cons hk
  have e2 : ((l.take k).map plusB).length = k := by simp; omega
  have e3 : l.take (k + 1) = l.take k ++ [l[k]] := by rw [List.take_succ_eq_append_getElem hk]
  rw [e1, List.set_append_right _ _ (by omega), e2, e3, Nat.sub_self, List.set_cons_zero]
  simp only [List.map_append, List.map_cons, List.map_nil, List.append_assoc, List.singleton_append]

theorem plusTo_same (l : List UInt8) (k : Nat) (hk : k < l.length) (h : plusB l[k] = l[k]) : plusTo l (k + 1) = plusTo l k := by
  have := plusTo_next l k hk
  rw [h] at this
  rw [← this]
  have e := plusTo_at l k hk
  conv => lhs; rw [← e]
  exact List.set_getElem_self _

set_option maxHeartbeats 400000 in
theorem form_spec (l : List UInt8) (w : World) (hs : l.length ≤ 1048576) :
    Calls Tryz.prog 95 #[.string (txt l)] w fun e w' => e = .returned (unR (formL l)) ∧ Below w.heap.size w w' := by
  obtain ⟨cap, w1, hcv, hB1, hbel1, hcap⟩ := bytes_conv (P := Tryz.prog) w 9 22 5 (txt l) Tryz.underlying9 Tryz.underlying22 Tryz.underlying5
  rw [txt_size] at hcv hcap
  rw [txt_toList] at hB1
  go_enter Tryz.func95, Tryz.ntmps95
  go_wp2
  go_loopw [5] (fun i wr => ∃ k : Nat, k ≤ l.length ∧ i = .int .i64 k ∧ BytesAt wr w.heap.size (plusTo l k) ∧ Below w.heap.size w wr) (fun i _ => l.length - (intOf i).toNat)
  case atStart => exact ⟨0, by omega, rfl, by simpa [plusTo] using hB1, hbel1⟩
  case round =>
    clear hcv
    obtain ⟨k, hk1, rfl, hB, hbel⟩ := hrel
    by_cases hlt : k < l.length
    · have hc := hB.cell k (by rw [plusTo_len]; exact hlt)
      have hf := hB.free k (by rw [plusTo_len]; exact hlt)
      rw [plusTo_at l k hlt] at hc
      have hi0 : (0 : Int) ≤ (k : Int) := by omega
      have hi1 : (k : Int) < (l.length : Int) := by omega
      have hb256 : l[k].toNat < 256 := l[k].toNat_lt
      by_cases hp : l[k] = 43
      · have hpe : (((l[k].toNat : Nat) : Int) == 43) = true := by rw [hp]; rfl
        have hst := hB.set k 32 (by rw [plusTo_len]; exact hlt)
        have hx : plusB l[k] = 32 := by rw [hp]; rfl
        have hn := plusTo_next l k hlt
        rw [hx] at hn
        rw [hn] at hst
        clear hn hx hp
        go_wp2
        go_roundw
        case rel => exact ⟨k + 1, by omega, by go_num, hst, hbel.setCell (Nat.le_refl _) _⟩
        case measure => simp [intOf]; omega
      · have hpe : (((l[k].toNat : Nat) : Int) == 43) = false := by
          simp; intro e; exact hp (UInt8.toNat_inj.1 (by show l[k].toNat = 43; omega))
        have hn := plusTo_same l k hlt (by unfold plusB; rw [if_neg hp])
        rw [← hn] at hB
        clear hn hp
        go_wp2
        go_roundw
        case rel => exact ⟨k + 1, by omega, by go_num, hB, hbel⟩
        case measure => simp [intOf]; omega
    · have hk2 : k = l.length := by omega
      have he : plusTo l k = l.map plusB := by
        unfold plusTo
        rw [List.take_of_length_le (by omega), List.drop_eq_nil_of_le (by omega), List.append_nil]
      rw [he] at hB
      clear he
      have hcv2 := bytes_back (P := Tryz.prog) wr 22 9 5 w.heap.size l.length cap (l.map plusB) (by simp) Tryz.underlying22 Tryz.underlying5 Tryz.underlying9 hB
      have hu := unpct_spec (txt (l.map plusB)) wr (by rw [txt_size]; simpa using hs)
      rw [txt_toList] at hu
      have HU := Lib.hid hu
      clear hu hk2
      go_wp2_with fail
      refine HU.out.mono ?_
      rintro e w2 ⟨rfl, hb2⟩
      have hfl : formL l = unpA [] (l.map plusB) := rfl
      generalize unpA [] (l.map plusB) = R at hfl
      cases R with
      | none =>
        rw [show unR none = .tuple #[.string ⟨#[]⟩, .bool false] from rfl]
        go_wp2
        go_ret2
        exact ⟨by rw [hfl]; rfl, hbel.trans (hb2.mono hbel.size)⟩
      | some r =>
        rw [show unR (some r) = .tuple #[.string (txt r), .bool true] from rfl]
        go_wp2
        go_ret2
        exact ⟨by rw [hfl]; rfl, hbel.trans (hb2.mono hbel.size)⟩

/-- a text cut at the first c -/
def cutL (c : UInt8) : List UInt8 → Option (List UInt8 × List UInt8)
  | [] => none
  | x :: r => if x = c then some ([], r) else (cutL c r).map fun p => (x :: p.1, p.2)

theorem cutL_no (c : UInt8) (l : List UInt8) (h : c ∉ l) : cutL c l = none := by
  induction l with
  | nil => rfl
  | cons x l ih =>
    rw [cutL, if_neg (fun e => h (by simp [e])), ih (fun h2 => h (by simp [h2]))]
    rfl

theorem cutL_yes (c : UInt8) (q : List UInt8) (p : List UInt8) (h : c ∉ p) : cutL c (p ++ c :: q) = some (p, q) := by
  induction p with
  | nil => simp [cutL]
  | cons x p ih =>
    rw [List.cons_append, cutL, if_neg (fun e => h (by simp [e])), ih (fun h2 => h (by simp [h2]))]
    rfl

def cutR (l : List UInt8) : Option (List UInt8 × List UInt8) → Value
  | some (a, b) => .tuple #[.string (txt a), .string (txt b), .bool true]
  | none => .tuple #[.string (txt l), .string ⟨#[]⟩, .bool false]

theorem cut_spec_l (l : List UInt8) (c : UInt8) (w : World) (hs : l.length ≤ 1048576) :
    Calls Tryz.prog 49 #[.string (txt l), .int .u8 c.toNat] w fun e w' => e = .returned (cutR l (cutL c l)) ∧ Below w.heap.size w w' := by
  by_cases h : c ∈ l
  · obtain ⟨p, q, rfl, hp⟩ := List.eq_append_cons_of_mem h
    have hsz := txt_size (p ++ c :: q)
    have hl : (p ++ c :: q).length = p.length + (q.length + 1) := by simp
    have hn : p.length < (txt (p ++ c :: q)).size := by omega
    have hget : ∀ j (hj : j < (txt (p ++ c :: q)).size), (txt (p ++ c :: q))[j] = (p ++ c :: q)[j]'(by omega) := fun _ _ => rfl
    have hc : (txt (p ++ c :: q))[p.length] = c := by rw [hget]; simp
    have hd : ∀ j (hj : j < p.length), (txt (p ++ c :: q))[j] ≠ c := by
      intro j hj e
      rw [hget, List.getElem_append_left hj] at e
      exact hp (by rw [← e]; exact List.getElem_mem hj)
    refine (cut_spec_yes (txt (p ++ c :: q)) c w (by omega) p.length hn hc hd).mono fun e w' ⟨he, hb⟩ => ⟨?_, hb⟩
    rw [he, extract_seg, extract_seg, cutL_yes c q p hp]
    have e1 : seg (txt (p ++ c :: q)) 0 p.length = p := by
      show ((p ++ c :: q).take p.length).drop 0 = p
      simp
    have e2 : seg (txt (p ++ c :: q)) (p.length + 1) (txt (p ++ c :: q)).size = q := by
      rw [hsz]
      show ((p ++ c :: q).take (p ++ c :: q).length).drop (p.length + 1) = q
      rw [List.take_length]
      have : p ++ c :: q = (p ++ [c]) ++ q := by simp
      rw [this, List.drop_left' (by simp)]
    rw [e1, e2]
    rfl
  · refine (cut_spec_no (txt l) c w (by rw [txt_size]; exact hs) fun j hj e => h ?_).mono fun e w' ⟨he, hb⟩ => ⟨by rw [he, cutL_no c l h]; rfl, hb⟩
    have hj' : j < l.length := by rw [← txt_size l]; exact hj
    have : (txt l)[j] = l[j] := rfl
    rw [← e]
    exact this ▸ List.getElem_mem hj'

/-- one part of a form -/
def partL (p : List UInt8) : Option PairL := match cutL 61 p with
  | none => none
  | some (a, b) => match formL a, formL b with
    | some k, some v => some (k, v)
    | _, _ => none

def getA (acc : List PairL) : List (List UInt8) → Option (List PairL)
  | [] => some acc
  | p :: r => match partL p with
    | none => none
    | some x => getA (acc ++ [x]) r

def getL (s : List UInt8) : Option (List PairL) := if (splitL 38 s).length > 30 then none else getA [] (splitL 38 s)

theorem unR_form (R : Option (List UInt8)) : ∃ x ok, unR R = .tuple #[.string (txt x), .bool ok] ∧ ((ok = true ∧ R = some x) ∨ (ok = false ∧ R = none)) := by
  cases R with
  | none => exact ⟨[], false, rfl, .inr ⟨rfl, rfl⟩⟩
  | some x => exact ⟨x, true, rfl, .inl ⟨rfl, rfl⟩⟩

theorem cutL_len (c : UInt8) (l : List UInt8) : ∀ a b, cutL c l = some (a, b) → a.length ≤ l.length ∧ b.length ≤ l.length := by
  induction l with
  | nil => intro a b h; simp [cutL] at h
  | cons x l ih =>
    intro a b h
    rw [cutL] at h
    split at h
    · simp at h
      obtain ⟨h1, h2⟩ := h
      subst h1 h2
      simp
    · cases hc : cutL c l with
      | none => rw [hc] at h; simp at h
      | some p =>
        rw [hc] at h
        simp at h
        have := ih p.1 p.2 (by rw [hc])
        obtain ⟨h1, h2⟩ := h
        subst h1 h2
        simp
        omega

theorem cutR_form (c : UInt8) (l : List UInt8) : ∃ a b ok, cutR l (cutL c l) = .tuple #[.string (txt a), .string (txt b), .bool ok] ∧ a.length ≤ l.length ∧ b.length ≤ l.length ∧ ((ok = true ∧ cutL c l = some (a, b)) ∨ (ok = false ∧ cutL c l = none)) := by
  cases h : cutL c l with
  | none => exact ⟨l, [], false, rfl, Nat.le_refl _, by simp, .inr ⟨rfl, rfl⟩⟩
  | some p =>
    obtain ⟨h1, h2⟩ := cutL_len c l p.1 p.2 h
    exact ⟨p.1, p.2, true, rfl, h1, h2, .inl ⟨rfl, rfl⟩⟩

theorem sAux_part (c : UInt8) (l : List UInt8) : ∀ cur, ∀ x ∈ sAux c cur l, x.length ≤ cur.length + l.length := by
  induction l with
  | nil => intro cur x hx; simp [sAux] at hx; subst hx; simp
  | cons y l ih =>
    intro cur x hx
    rw [sAux] at hx
    split at hx
    · rw [List.mem_cons] at hx
      rcases hx with hx | hx
      · subst hx; simp
      · have := ih [] x hx; simp at this ⊢; omega
    · have := ih _ x hx; simp at this ⊢; omega

theorem splitL_part (c : UInt8) (l : List UInt8) (x : List UInt8) (hx : x ∈ splitL c l) : x.length ≤ l.length := by
  unfold splitL at hx
  split at hx
  · simp at hx
  · have := sAux_part c l [] x hx; simp at this; exact this

theorem partL_of (p : List UInt8) (ok fine good : Bool) (a b k v : List UInt8) (h1 : (ok = true ∧ cutL 61 p = some (a, b)) ∨ (ok = false ∧ cutL 61 p = none)) (h2 : (fine = true ∧ formL a = some k) ∨ (fine = false ∧ formL a = none)) (h3 : (good = true ∧ formL b = some v) ∨ (good = false ∧ formL b = none)) :
    partL p = if ok = true ∧ fine = true ∧ good = true then some (k, v) else none := by
  unfold partL
  rcases h1 with ⟨rfl, e1⟩ | ⟨rfl, e1⟩
  · rw [e1]
    rcases h2 with ⟨rfl, e2⟩ | ⟨rfl, e2⟩
    · rcases h3 with ⟨rfl, e3⟩ | ⟨rfl, e3⟩
      · simp [e2, e3]
      · simp [e2, e3]
    · simp [e2]
  · rw [e1]
    simp

def getV (v : Value) : Option (List PairL) → Value
  | some _ => .tuple #[v, .bool true]
  | none => .tuple #[v, .bool false]

theorem rows_apart {w : World} {b1 b2 : Nat} {e1 e2 : TypeId} {s1 s2 n1 n2 : Nat} {v1 v2 : Value} {xs1 xs2 : List Value} (h1 : w.ownsRow b1 e1 s1 v1 n1 xs1) (h2 : w.ownsRow b2 e2 s2 v2 n2 xs2) (hne : e1 ≠ e2) : v1.ownBlock = none ∨ v1.ownBlock ≠ v2.ownBlock := by
  rcases h1.2 with ⟨rfl, _⟩ | ⟨g1, c1, cur1, rfl, _, hg1, _⟩
  · exact .inl rfl
  · refine .inr fun e => ?_
    rcases h2.2 with ⟨rfl, _⟩ | ⟨g2, c2, cur2, rfl, _, hg2, _⟩
    · simp [Value.ownBlock] at e
    · simp [Value.ownBlock] at e
      subst e
      rw [hg1] at hg2
      simp at hg2
      exact hne hg2.2

theorem pair_info : (Tryz.prog.info? 86).map (fun i => (i.zero, i.size, i.bytes)) = some (some (.agg #[.string ⟨#[]⟩, .string ⟨#[]⟩]), 2, 32) := by kernel_rfl

set_option maxHeartbeats 1600000 in
theorem getform_spec (l : List UInt8) (w : World) (hs : l.length ≤ 1048576) :
    Calls Tryz.prog 50 #[.string (txt l)] w fun e w' => ∃ v, e = .returned (getV v (getL l)) ∧ w'.ownsRow w.heap.size 86 2 v ((getL l).getD []).length (pcells ((getL l).getD [])) ∧ Below w.heap.size w w' := by
  obtain ⟨i0, hi, hz0, hz1, hz2⟩ := info_parts pair_info
  have hsp : ∀ wx, _ := fun wx => split_spec (txt l) 38 wx (by rw [txt_size]; exact hs)
  rw [txt_toList] at hsp
  have hpart := splitL_part 38 l
  have hG : getL l = if (splitL 38 l).length > 30 then none else getA [] (splitL 38 l) := rfl
  generalize splitL 38 l = L at hsp hpart hG
  obtain ⟨R, hR⟩ : ∃ R, R = getL l := ⟨_, rfl⟩
  rw [← hR] at hG ⊢
  clear hR
  have HSP := Lib.hid hsp
  have HG := Lib.hid hG
  have HPT := Lib.hid hpart
  clear hsp hG hpart
  go_enter Tryz.func50, Tryz.ntmps50
  go_wp2_with fail
  refine (HSP.out _).mono ?_
  rintro e w1 ⟨v, rfl, o1, b1⟩
  have hout : w1.ownsRow w.heap.size 86 2 (.slice (some ⟨w.heap.size, 0, none⟩) 0 0) 0 (pcells []) := ownsRow_below (World.ownsRow_made w #[] 0 (Nat.le_refl _) (by simp) rfl) b1
  have b1' : Below w.heap.size w w1 := ((Below.refl _ w).alloc (Nat.le_refl _) (.cells #[] 86)).trans (b1.mono (by simp))
  obtain ⟨av, cap1, rfl⟩ := own_val o1
  rw [show (w.alloc (.cells #[] 86)).heap.size = w.heap.size + 1 by simp] at o1
  by_cases h30 : L.length > 30
  · have hr := HG.out
    rw [if_pos h30] at hr
    subst hr
    have hgt : (30 : Int) < (L.length : Int) := by omega
    go_wp2
    go_ret2
    exact ⟨_, rfl, hout, b1'⟩
  · have hr := HG.out
    rw [if_neg h30] at hr
    have HR := Lib.hid hr.symm
    clear hr HG
    have hgt : ¬ ((30 : Int) < (L.length : Int)) := by omega
    go_wp2
    go_loopw [4, 6] (fun v i wr => ∃ (acc : List PairL) (k : Nat), k ≤ L.length ∧ acc.length ≤ k ∧ i = .int .i64 k ∧ Hid (getA acc (L.drop k) = R) ∧ wr.ownsRow w.heap.size 86 2 v acc.length (pcells acc) ∧ wr.ownsRow (w.heap.size + 1) 9 1 (.slice av L.length cap1) L.length (strs L) ∧ Below w.heap.size w wr) (fun _ i _ => L.length - (intOf i).toNat)
    case atStart => exact ⟨[], 0, by omega, by simp, rfl, HR, hout, o1, b1'⟩
    case round =>
      obtain ⟨acc, k, hk, hak, rfl, ha, hown, or1, hbr⟩ := hrel
      by_cases hlt : k < L.length
      · obtain ⟨g, rfl, hg1, hg2⟩ := own_at or1 (by omega)
        have hc := own_cell or1 k hlt rfl
        have hpl := HPT.out L[k] (List.getElem_mem hlt)
        have hd : L.drop k = L[k] :: L.drop (k + 1) := List.drop_eq_getElem_cons hlt
        have ha2 := ha.out
        rw [hd, getA] at ha2
        generalize L[k] = p at hc hpl ha2
        have HA := Lib.hid ha2
        clear ha2 hd ha
        have hi0 : (0 : Int) ≤ (k : Int) := by omega
        have hi1 : (k : Int) < (L.length : Int) := by omega
        obtain ⟨a, b, ok, hcr, hal, hbl, hok⟩ := cutR_form 61 p
        have C1 := Lib.hid (fun wx => cut_spec_l p 61 wx (by omega))
        rw [hcr] at C1
        obtain ⟨x, fine, hxr, hfine⟩ := unR_form (formL a)
        have C2 := Lib.hid (fun wx => form_spec a wx (by omega))
        rw [hxr] at C2
        obtain ⟨y, good, hyr, hgood⟩ := unR_form (formL b)
        have C3 := Lib.hid (fun wx => form_spec b wx (by omega))
        rw [hyr] at C3
        have HP := Lib.hid (partL_of p ok fine good a b x y hok hfine hgood)
        clear hcr hxr hyr hok hfine hgood
        go_wp2_with fail
        refine (C1.out _).mono ?_
        rintro e w2 ⟨rfl, b2⟩
        go_wp2_with fail
        refine (C2.out _).mono ?_
        rintro e w3 ⟨rfl, b3⟩
        go_wp2_with fail
        refine (C3.out _).mono ?_
        rintro e w4 ⟨rfl, b4⟩
        have b24 : Below wr.heap.size wr w4 := (b2.trans (b3.mono b2.size)).trans (b4.mono (Nat.le_trans b2.size b3.size))
        have hown3 := ownsRow_below hown b24
        have or4 := ownsRow_below or1 b24
        have hb4 : Below w.heap.size w w4 := hbr.trans (b24.mono hbr.size)
        clear b2 b3 b4 b24 C1 C2 C3 or1 hown hc
        have hsz := hb4.size
        cases ok
        case false =>
          have hr2 := HA.out
          rw [HP.out, if_neg (by simp)] at hr2
          subst hr2
          clear HP HA
          go_wp2
          go_ret2
          exact ⟨_, rfl, World.ownsRow_made w4 #[] 0 hsz (by simp) rfl, hb4.alloc hsz _⟩
        case true =>
        cases fine
        case false =>
          have hr2 := HA.out
          rw [HP.out, if_neg (by simp)] at hr2
          subst hr2
          clear HP HA
          go_wp2
          go_ret2
          exact ⟨_, rfl, World.ownsRow_made w4 #[] 0 hsz (by simp) rfl, hb4.alloc hsz _⟩
        case true =>
        cases good
        case false =>
          have hr2 := HA.out
          rw [HP.out, if_neg (by simp)] at hr2
          subst hr2
          clear HP HA
          go_wp2
          go_ret2
          exact ⟨_, rfl, World.ownsRow_made w4 #[] 0 hsz (by simp) rfl, hb4.alloc hsz _⟩
        case true =>
          have hr2 := HA.out
          rw [HP.out, if_pos ⟨rfl, rfl, rfl⟩] at hr2
          have HR2 := Lib.hid hr2
          clear hr2 HP HA
          go_wp2_with (at_builtin; refine wpList_append_lies _ rfl _ _ _ rfl w.heap.size 86 i0 _ 2 32 Tryz.underlying24 hi hz0 hz1 hz2 rfl (by omega) _ acc.length _ rfl (hown3.alloc _) ⟨w4.heap.size, 0, none⟩ 1 1 [.string (txt x), .string (txt y)] rfl rfl (World.news_of_block (cs := #[.string (txt x), .string (txt y)]) (t := 86) (fr := (0, 0)) (heap_alloc_new w4 _)) (by simp [Value.oneCell']) (by omega) (by unfold maxLen; omega) (by omega) (by simp; omega) (w4.heap.size + 1) (by simp) ?_; intro gg cap w5 hown5 hgrow hat hlt2)
          go_roundw
          case rel => exact ⟨acc ++ [(x, y)], k + 1, by omega, by simp; omega, by go_num, HR2, by rw [pcells_append, List.length_append]; exact hown5, (or4.alloc _).kept hgrow (rows_apart or4 hown3 (by decide)), (hb4.alloc hsz _).grown hgrow (by simp; omega) (fun j e => (hown3.lt j e).1)⟩
          case measure => simp [intOf]; omega
      · have he : L.drop k = [] := List.drop_eq_nil_of_le (by omega)
        have hr := ha.out
        rw [he, getA] at hr
        subst hr
        go_wp2
        go_ret2
        exact ⟨_, rfl, hown, hbr⟩

/-- 'append(row, text...)' at a step of a region that draws its order -/
theorem step_append_str {P : Program} {w : World} {ops : Array Oper} {o : Oper} {a : Act} {K : Act → World → Prop} {Q : Exit → Act → World → Prop} {E : Prop} (hgd : o.guard = none) (sl x : Operand) (t u : TypeId)
    (ho : o.op = .call { callee := .builtin .append, args := #[sl, x], argTypes := #[t, u] })
    (base : Nat) (e : TypeId) (i : TypeInfo) (ht : P.underlying t = some (.slice e)) (hu : P.underlying u = some .string) (hi : P.info? e = some i) (hz : i.zero = some (.int .u8 0))
    (hsize : i.size = 1) (hby : i.bytes = 1)
    (v : Value) (n : Nat) (xs : List Value) (hs : a.eval sl = v) (hown : w.ownsRow base e 1 v n xs) (s : ByteArray) (hx : a.eval x = .string s)
    (h63 : n + s.size ≤ maxLen) (hbytes : n + s.size ≤ 140737488355328) (hbase : base ≤ w.heap.size)
    (h : ∀ v' w', w'.ownsRow base e 1 v' (n + s.size) (xs ++ Lib.strCells s) → w.grownBy w' v.ownBlock → K (a.put o.dst v') w') :
    if Region.wanted o (yielded ops a.tmps) = true then Oper.wp P o a w K Q else E := by
  have hw : Region.wanted o (yielded ops a.tmps) = true := by simp [Region.wanted, hgd]
  rw [if_pos hw]
  obtain ⟨v', w', hr, h2, h3, _⟩ := Lib.run_append_own_string (P := P) w base t u o.type e i ht hu hi hz hsize hby v n xs hown s h63 hbytes hbase
  unfold Oper.wp execOp
  simp only [ho, resolve, invoke, builtin, Sem.run_bind, Sem.run_pure, Result.andThen_ok, List.map_toArray, List.map_cons, List.map_nil, hs, hx, hr]
  exact h v' w' h2 h3

theorem strCells_txt (l : List UInt8) : Lib.strCells (txt l) = cells8 l := by
  simp [Lib.strCells, cells8, txt]

/-- a pair of a form -/
def oneL (p : PairL) : List UInt8 := pctL p.1 ++ 61 :: pctL p.2

def putL : List PairL → List UInt8
  | [] => []
  | p :: r => oneL p ++ r.flatMap fun q => 38 :: oneL q

theorem putL_one (p : PairL) : putL [p] = oneL p := by simp [putL]

theorem putL_snoc (l : List PairL) (p : PairL) (h : l ≠ []) : putL (l ++ [p]) = putL l ++ [38] ++ oneL p := by
  cases l with
  | nil => exact absurd rfl h
  | cons q r => simp [putL]

theorem pct_spec_l (l : List UInt8) (w : World) (hs : l.length ≤ 1048576) :
    Calls Tryz.prog 73 #[.string (txt l)] w fun e w' => e = .returned (.string (txt (pctL l))) ∧ Below w.heap.size w w' := by
  have h := pct_spec (txt l) w (by rw [txt_size]; exact hs)
  rw [txt_toList] at h
  exact h

set_option maxHeartbeats 1600000 in
theorem putform_spec (base : Nat) (v : Value) (l : List PairL) (w : World) (hown : w.ownsRow base 86 2 v l.length (pcells l)) (hn : l.length ≤ 2097152) (hb : base ≤ w.heap.size)
    (hp : ∀ p ∈ l, p.1.length ≤ 1048576 ∧ p.2.length ≤ 1048576) (ht : ∀ k, (putL (l.take k)).length ≤ 16777216) :
    Calls Tryz.prog 31 #[v] w fun e w' => e = .returned (.string (txt (putL l))) ∧ Below w.heap.size w w' := by
  obtain ⟨i0, hi, hz0, hz1, hz2⟩ := info_parts Tryz.info5
  obtain ⟨a, cap, rfl⟩ := own_val2 hown
  have HPP := Lib.hid hp
  have HTT := Lib.hid ht
  clear hp ht
  go_enter Tryz.func31, Tryz.ntmps31
  go_wp2
  go_loopw [3, 4] (fun v i wr => ∃ (k : Nat) (o : List UInt8), k ≤ l.length ∧ i = .int .i64 k ∧ Hid (o = putL (l.take k)) ∧ wr.ownsRow w.heap.size 5 1 v o.length (cells8 o) ∧ Below w.heap.size w wr) (fun _ i _ => l.length - (intOf i).toNat)
  case atStart => exact ⟨0, [], by omega, rfl, rfl, World.ownsRow_made w #[] 0 (Nat.le_refl _) (by simp) rfl, (Below.refl _ w).alloc (Nat.le_refl _) _⟩
  case round =>
    obtain ⟨k, o, hk, rfl, ho, hrow, hbel⟩ := hrel
    have hbs := hbel.size
    have hol := HTT.out k
    rw [← ho.out] at hol
    by_cases hlt : k < l.length
    · obtain ⟨g, rfl, hg1, hg2⟩ := own_at2 hown (by omega)
      obtain ⟨c1, c2⟩ := own_cell2 hown k hlt rfl
      have c1 := (hbel.cell (p := ⟨g, k * 2, none⟩) hg2).trans c1
      have c2 := (hbel.cell (p := ⟨g, k * 2 + 1, none⟩) hg2).trans c2
      have hpl := HPP.out l[k] (List.getElem_mem hlt)
      have hnx := HTT.out (k + 1)
      have htk : l.take (k + 1) = l.take k ++ [l[k]] := by rw [List.take_succ_eq_append_getElem hlt]
      have hnew : putL (l.take (k + 1)) = (if k = 0 then o else o ++ [38]) ++ oneL l[k] := by
        rw [htk]
        by_cases hk0 : k = 0
        · have e : l.take k = [] := by rw [List.take_eq_nil_iff]; exact .inl hk0
          rw [if_pos hk0, ho.out, e]; simp [putL]
        · rw [if_neg hk0, putL_snoc _ _ (by intro e; have := congrArg List.length e; rw [List.length_take] at this; simp only [List.length_nil] at this; omega), ho.out]
      have hone : (oneL l[k]).length = (pctL l[k].1).length + 1 + (pctL l[k].2).length := by simp [oneL]; omega
      have hol2 : oneL l[k] = pctL l[k].1 ++ [61] ++ pctL l[k].2 := by simp [oneL]
      rw [hnew] at hnx
      generalize l[k] = p at c1 c2 hpl hnew hone hol2 hnx
      obtain ⟨pk, pv⟩ := p
      simp only at c1 c2 hpl hone hol2
      have q1 := pctL_len pk
      have q2 := pctL_len pv
      have hp1 := hpl.1
      have hp2 := hpl.2
      clear hpl
      have E1 : ∃ ek, ek = pctL pk := ⟨_, rfl⟩
      have E2 : ∃ ev, ev = pctL pv := ⟨_, rfl⟩
      obtain ⟨ek, hek⟩ := E1
      obtain ⟨ev, hev⟩ := E2
      rw [← hek] at q1 hone hol2
      rw [← hev] at q2 hone hol2
      have E1 := Lib.hid hek.symm
      have E2 := Lib.hid hev.symm
      clear hek hev
      have HN := Lib.hid hnew
      have HO := Lib.hid hol2
      clear hnew htk hone hol2 hnx ho
      have hadd1 : ∀ w : World, (Op.stringOp .add (txt ek) { data := #[61] }).run Tryz.prog w = .ok (.string (txt (ek ++ [61]))) w := add_txt (P := Tryz.prog) ek [61] (by simp; omega)
      have hadd2 : ∀ w : World, (Op.stringOp .add (txt (ek ++ [61])) (txt ev)).run Tryz.prog w = .ok (.string (txt (ek ++ 61 :: ev))) w := by
        intro wx
        have := add_txt (P := Tryz.prog) (ek ++ [61]) ev (by simp; omega) wx
        rwa [List.append_assoc, List.singleton_append] at this
      have hi0 : (0 : Int) ≤ (k : Int) := by omega
      have hi1 : (k : Int) < (l.length : Int) := by omega
      by_cases hk0 : k = 0
      · have hgt : ¬ ((0 : Int) < (k : Int)) := by omega
        have HK0 := Lib.hid hk0
        clear hk0
        go_wp2
        go_region_held3 (fun W => W.cell? ⟨g, k * 2, none⟩ = some (.string (txt pk)) ∧ W.cell? ⟨g, k * 2 + 1, none⟩ = some (.string (txt pv)) ∧ Below w.heap.size w W) (first | exact ⟨c1, c2, hbel.drew⟩ | (go_split_ands; exact ⟨(World.cell?_of_block (a := ⟨g, k * 2, none⟩) (hgrow5.block g (Nat.lt_of_lt_of_le hg2 (Below.size (by assumption))) (fun e => by have := (hrow.lt g e.symm).1; omega))).trans (by assumption), (World.cell?_of_block (a := ⟨g, k * 2 + 1, none⟩) (hgrow5.block g (Nat.lt_of_lt_of_le hg2 (Below.size (by assumption))) (fun e => by have := (hrow.lt g e.symm).1; omega))).trans (by assumption), Below.grown (by assumption) hgrow5 (Below.size (by assumption)) (fun j e => (hrow.lt j e).1)⟩) | (go_split_ands; exact ⟨(hbc.cell (p := ⟨g, k * 2, none⟩) (Nat.lt_of_lt_of_le hg2 (Below.size (by assumption)))).trans (by assumption), (hbc.cell (p := ⟨g, k * 2 + 1, none⟩) (Nat.lt_of_lt_of_le hg2 (Below.size (by assumption)))).trans (by assumption), Below.trans (by assumption) (hbc.mono (Below.size (by assumption)))⟩)) (first | (go_split_ands; refine step_append_str (by rfl) _ _ _ _ (by rfl) w.heap.size 5 i0 Tryz.underlying22 Tryz.underlying9 hi hz0 hz1 hz2 u3 o.length _ (by rfl) (ownsRow_below (ownsRow_below hrow.drew (by assumption)) (by assumption)) (txt (ek ++ 61 :: ev)) (by rfl) (by rw [txt_size]; unfold maxLen; simp; omega) (by rw [txt_size]; simp; omega) (Below.size (by assumption)) ?_; intro v5 w5 hrow5 hgrow5) | (go_simp; go_at_call 73; refine (pct_spec_l _ _ (by first | exact hp1 | exact hp2)).mono ?_; rintro e wc ⟨rfl, hbc⟩; first | rw [E1.out] | rw [E2.out]))
        all_goals
          have hb5 : Below w.heap.size w w5 := by
            go_split_ands
            assumption
          rw [strCells_txt, ← cells8_append, txt_size, ← List.length_append] at hrow5
          clear hadd1 hadd2
          go_wp2
          go_roundw
          case rel => exact ⟨k + 1, o ++ (ek ++ 61 :: ev), by omega, by go_num, Lib.hid (by rw [HN.out, if_pos HK0.out, HO.out]; simp), hrow5, hb5⟩
          case measure => simp [intOf]; omega
      · have hgt : (0 : Int) < (k : Int) := by omega
        have HK0 := Lib.hid hk0
        clear hk0
        go_wp2_with (at_builtin; refine wpList_append_lies _ rfl _ _ _ rfl w.heap.size 5 i0 _ 1 1 Tryz.underlying22 hi hz0 hz1 hz2 rfl (by omega) _ o.length _ rfl (hrow.alloc _) ⟨wr.heap.size, 0, none⟩ 1 1 [.int .u8 38] rfl rfl (World.news_of_block (cs := #[.int .u8 38]) (t := 5) (fr := (0, 0)) (heap_alloc_new wr _)) (by simp [Value.oneCell']) (by omega) (by unfold maxLen; omega) (by omega) (by simp; omega) (wr.heap.size + 1) (by simp) ?_; intro gg cap2 w2 hrow2 hgrow2 hat2 hlt2)
        have hbel2 : Below w.heap.size w w2 := (hbel.alloc hbs _).grown hgrow2 (by simp; omega) (fun j e => (hrow.lt j e).1)
        have hfar : ∀ off, w2.cell? ⟨g, off, none⟩ = wr.cell? ⟨g, off, none⟩ := fun off => (hbel2.cell (p := ⟨g, off, none⟩) hg2).trans (hbel.cell (p := ⟨g, off, none⟩) hg2).symm
        rw [← hfar] at c1 c2
        have hrow3 : w2.ownsRow w.heap.size 5 1 (.slice (some ⟨gg, 0, none⟩) (o.length + 1) cap2) (o ++ [38]).length (cells8 (o ++ [38])) := by
          rw [cells8_append, List.length_append]
          exact hrow2
        have hol3 : (o ++ [38]).length ≤ 16777217 := by simp; omega
        have hbs2 := hbel2.size
        generalize ho3 : o ++ [38] = o3 at hrow3 hol3
        have HO3 := Lib.hid ho3
        clear ho3 hrow hbel hrow2 hgrow2 hat2 hfar
        go_region_held3 (fun W => W.cell? ⟨g, k * 2, none⟩ = some (.string (txt pk)) ∧ W.cell? ⟨g, k * 2 + 1, none⟩ = some (.string (txt pv)) ∧ Below w.heap.size w W) (first | exact ⟨c1, c2, hbel2.drew⟩ | (go_split_ands; exact ⟨(World.cell?_of_block (a := ⟨g, k * 2, none⟩) (hgrow5.block g (Nat.lt_of_lt_of_le hg2 (Below.size (by assumption))) (fun e => by have := (hrow3.lt g e.symm).1; omega))).trans (by assumption), (World.cell?_of_block (a := ⟨g, k * 2 + 1, none⟩) (hgrow5.block g (Nat.lt_of_lt_of_le hg2 (Below.size (by assumption))) (fun e => by have := (hrow3.lt g e.symm).1; omega))).trans (by assumption), Below.grown (by assumption) hgrow5 (Below.size (by assumption)) (fun j e => (hrow3.lt j e).1)⟩) | (go_split_ands; exact ⟨(hbc.cell (p := ⟨g, k * 2, none⟩) (Nat.lt_of_lt_of_le hg2 (Below.size (by assumption)))).trans (by assumption), (hbc.cell (p := ⟨g, k * 2 + 1, none⟩) (Nat.lt_of_lt_of_le hg2 (Below.size (by assumption)))).trans (by assumption), Below.trans (by assumption) (hbc.mono (Below.size (by assumption)))⟩)) (first | (go_split_ands; refine step_append_str (by rfl) _ _ _ _ (by rfl) w.heap.size 5 i0 Tryz.underlying22 Tryz.underlying9 hi hz0 hz1 hz2 (.slice (some ⟨gg, 0, none⟩) (o.length + 1) cap2) o3.length _ (by rfl) (ownsRow_below (ownsRow_below hrow3.drew (by assumption)) (by assumption)) (txt (ek ++ 61 :: ev)) (by rfl) (by rw [txt_size]; unfold maxLen; simp; omega) (by rw [txt_size]; simp; omega) (Below.size (by assumption)) ?_; intro v5 w5 hrow5 hgrow5) | (go_simp; go_at_call 73; refine (pct_spec_l _ _ (by first | exact hp1 | exact hp2)).mono ?_; rintro e wc ⟨rfl, hbc⟩; first | rw [E1.out] | rw [E2.out]))
        all_goals
          have hb5 : Below w.heap.size w w5 := by
            go_split_ands
            assumption
          rw [strCells_txt, ← cells8_append, txt_size, ← List.length_append] at hrow5
          clear hadd1 hadd2
          go_wp2
          go_roundw
          case rel => exact ⟨k + 1, o3 ++ (ek ++ 61 :: ev), by omega, by go_num, Lib.hid (by rw [HN.out, if_neg HK0.out, HO3.out, HO.out]; simp), hrow5, hb5⟩
          case measure => simp [intOf]; omega
    · have he : l.take k = l := List.take_of_length_le (by omega)
      have ho2 := ho.out
      rw [he] at ho2
      have HO := Lib.hid ho2
      have hcv := bytes_back_own (P := Tryz.prog) wr 22 9 5 w.heap.size u3 o.length o rfl Tryz.underlying22 Tryz.underlying5 Tryz.underlying9 hrow
      clear he ho2 ho
      go_wp2
      go_ret
      exact ⟨ret_str (by rw [HO.out]), hbel⟩

end Go.Proofs.YtdgfiebehnfpgaaGreatDoor
