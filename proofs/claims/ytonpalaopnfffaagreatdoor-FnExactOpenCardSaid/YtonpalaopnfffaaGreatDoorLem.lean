/- PLAIN LEMMAS on texts, letters and rows of letters: nothing here speaks of the program. -/
import Derived.WalkKit
import Derived.ProofKit
import Derived.OpenShut
import Derived.ShutString
import Derived.BigQuiet
import Derived.Deep.QuietTactic
import Derived.WalkLawsBesides
import Derived.Lib.Hide
import Derived.LoopTactic
import Derived.Lib.Strings
import Derived.Lib.Bytealg
import Derived.Lib.ItoaNum
import Derived.Lib.ItoaLen
import Derived.Lib.OthersKept
import Derived.Laws.IdiomStrings
import Derived.Deep.RegionHeld3
import Derived.Deep.AppendLies
namespace Go.Proofs.YtonpalaopnfffaaGreatDoor
set_option linter.unusedVariables false
set_option maxRecDepth 4000
open Go.ChangeShapes Go.WideShapes Go.ChangeAt Go.RowKit
open Go.ChangeMaps (open_string shut_string)

theorem ret_bool {a b : Bool} (h : a = b) : Ending.returned (.bool a) = .returned (.bool b) := by rw [h]

theorem drop_cons (s : ByteArray) (k : Nat) (h : k < s.size) : s.data.toList.drop k = s[k] :: s.data.toList.drop (k + 1) := by
  rw [List.drop_eq_getElem_cons (by simpa using h)]; rfl

theorem less_step (a b : ByteArray) (k : Nat) (h : k < a.size) (h2 : k < b.size) (e : (((a[k].toNat : Nat) : Int) != ((b[k].toNat : Nat) : Int)) = false) :
    Op.bytesLess (a.data.toList.drop k) (b.data.toList.drop k) = Op.bytesLess (a.data.toList.drop (k + 1)) (b.data.toList.drop (k + 1)) := by
  rw [drop_cons a k h, drop_cons b k h2]
  have : a[k] = b[k] := by
    simp at e; exact UInt8.toNat_inj.1 (by omega)
  simp [Op.bytesLess, this, UInt8.lt_irrefl]

theorem less_stop (a b : ByteArray) (k : Nat) (h : k < a.size) (h2 : k < b.size) (e : (((a[k].toNat : Nat) : Int) != ((b[k].toNat : Nat) : Int)) = true) :
    Op.bytesLess (a.data.toList.drop k) (b.data.toList.drop k) = decide (((a[k].toNat : Nat) : Int) < ((b[k].toNat : Nat) : Int)) := by
  rw [drop_cons a k h, drop_cons b k h2]
  have : (a[k] == b[k]) = false := by
    simp at e ⊢; intro hh; rw [hh] at e; exact e rfl
  simp [Op.bytesLess, this, UInt8.lt_iff_toNat_lt]

theorem less_end (a b : ByteArray) (k : Nat) (h1 : k ≤ a.size) (h2 : k ≤ b.size) (h : a.size ≤ k ∨ b.size ≤ k) :
    Op.bytesLess (a.data.toList.drop k) (b.data.toList.drop k) = decide (a.size < b.size) := by
  have ea : a.data.toList.length = a.size := Array.length_toList
  have eb : b.data.toList.length = b.size := Array.length_toList
  by_cases hb : b.size ≤ k
  · have hn : b.data.toList.drop k = [] := List.drop_eq_nil_of_le (by omega)
    rw [hn]
    cases hd : List.drop k a.data.toList <;> simp [Op.bytesLess] <;> omega
  · have hl : (b.data.toList.drop k).length = b.size - k := by simp [eb]
    have hn : a.data.toList.drop k = [] := List.drop_eq_nil_of_le (by omega)
    rw [hn]
    cases hd : List.drop k b.data.toList with
    | nil => rw [hd] at hl; simp at hl; omega
    | cons x r => simp [Op.bytesLess]; omega

theorem idxB_no (l : List UInt8) (c : UInt8) (h : ∀ x ∈ l, x ≠ c) : Lib.indexByte l c = -1 := by
  induction l with
  | nil => rfl
  | cons x l ih =>
    have hx : (x == c) = false := by simpa using h x (by simp)
    simp [Lib.indexByte, hx, ih (fun y hy => h y (by simp [hy]))]

theorem idxB_yes (l1 l2 : List UInt8) (c : UInt8) (h : ∀ x ∈ l1, x ≠ c) : Lib.indexByte (l1 ++ c :: l2) c = l1.length := by
  induction l1 with
  | nil => simp [Lib.indexByte]
  | cons x l ih =>
    have hx : (x == c) = false := by simpa using h x (by simp)
    have e := ih (fun y hy => h y (by simp [hy]))
    have hn : (((l.length : Nat) : Int) == -1) = false := by rw [beq_eq_false_iff_ne]; omega
    simp [Lib.indexByte, hx, e, hn]

theorem index_no (s : ByteArray) (c : UInt8) (h : ∀ j (hj : j < s.size), s[j] ≠ c) : Lib.indexByte s.data.toList c = -1 := by
  refine idxB_no _ _ fun x hx => ?_
  obtain ⟨j, hj, rfl⟩ := List.getElem_of_mem hx
  exact h j (by simpa using hj)

theorem index_yes (s : ByteArray) (c : UInt8) (n : Nat) (hn : n < s.size) (hc : s[n] = c) (h : ∀ j (hj : j < n), s[j] ≠ c) : Lib.indexByte s.data.toList c = n := by
  have e : s.data.toList = s.data.toList.take n ++ c :: s.data.toList.drop (n + 1) := by
    have : s.data.toList.drop n = c :: s.data.toList.drop (n + 1) := by
      rw [List.drop_eq_getElem_cons (by simpa using hn)]
      congr 1
    rw [← this, List.take_append_drop]
  have hl : (s.data.toList.take n).length = n := by
    rw [List.length_take, Array.length_toList]
    have : s.data.size = s.size := rfl
    omega
  rw [e, idxB_yes _ _ _ (fun x hx => ?_), hl]
  obtain ⟨j, hj, rfl⟩ := List.getElem_of_mem hx
  rw [List.getElem_take]
  exact h j (by omega)

theorem first_or (s : ByteArray) (c : UInt8) : (∀ j (hj : j < s.size), s[j] ≠ c) ∨ ∃ n, ∃ hn : n < s.size, s[n] = c ∧ ∀ j (hj : j < n), s[j] ≠ c := by
  by_cases h : ∃ n, ∃ hn : n < s.size, s[n] = c
  · right
    obtain ⟨n, hn, hc⟩ := h
    induction n using Nat.strongRecOn with
    | _ n ih =>
      by_cases h2 : ∃ j, ∃ hj : j < n, s[j] = c
      · obtain ⟨j, hj, hjc⟩ := h2
        exact ih j hj (by omega) hjc
      · exact ⟨n, hn, hc, fun j hj e => h2 ⟨j, hj, e⟩⟩
  · left
    exact fun j hj e => h ⟨j, hj, e⟩

/-- a text out of its letters -/
def txt (l : List UInt8) : ByteArray := ⟨l.toArray⟩

/-- The bytes of a row of letters: readable, and free to be written. -/
structure BytesAt (w : World) (g : Nat) (l : List UInt8) : Prop where
  cell : ∀ j (hj : j < l.length), w.cell? ⟨g, j, none⟩ = some (.int .u8 ((l[j].toNat : Nat) : Int))
  free : ∀ j, j < l.length → w.frozen? ⟨g, j, none⟩ = false
  lt : g < w.heap.size

theorem BytesAt.set {w : World} {g : Nat} {l : List UInt8} (h : BytesAt w g l) (k : Nat) (b : UInt8) (hk : k < l.length) : BytesAt (w.setCell ⟨g, k, none⟩ (.int .u8 ((b.toNat : Nat) : Int))) g (l.set k b) := by
  refine ⟨fun j hj => ?_, fun j hj => ?_, by simpa using h.lt⟩
  · have hj' : j < l.length := by simpa using hj
    by_cases e : k = j
    · subst e
      rw [World.cell?_setCell_same w _ _ (h.cell k hk)]
      simp
    · rw [World.cell?_setCell_other w _ _ _ (by intro e2; exact e (by injection e2))]
      rw [h.cell j hj', List.getElem_set_ne e]
  · rw [World.frozen?_setCell]
    exact h.free j (by simpa using hj)

theorem BytesAt.below {w w' : World} {g : Nat} {l : List UInt8} (h : BytesAt w g l) (hb : Below w.heap.size w w') : BytesAt w' g l :=
  ⟨fun j hj => (hb.cell (p := ⟨g, j, none⟩) h.lt).trans (h.cell j hj), fun j hj => (hb.frozen (p := ⟨g, j, none⟩) h.lt).trans (h.free j hj), Nat.lt_of_lt_of_le h.lt hb.size⟩

theorem bytes_conv {P : Program} (w : World) (src dst e : TypeId) (s : ByteArray) (hs : P.underlying src = some .string) (hd : P.underlying dst = some (.slice e)) (he : P.underlying e = some (.int .u8)) :
    ∃ cap w1, (convert src dst (.string s)).run P w = .ok (.slice (some ⟨w.heap.size, 0, none⟩) s.size cap) w1 ∧ BytesAt w1 w.heap.size s.data.toList ∧ Below w.heap.size w w1 ∧ s.size ≤ cap := by
  have hc : grownCap w s.size 0 e ≥ s.size := grownCap_ge _ _ _ _
  have hl : s.data.toList.length = s.size := Array.length_toList
  have hsz : (bytesRow s (grownCap w s.size 0 e)).size ≥ s.size := by
    unfold bytesRow
    rw [Array.size_append, Array.size_map]
    exact Nat.le_add_right _ _
  refine ⟨_, _, run_bytes_of_string w src dst e s hs hd he, ⟨fun j hj => ?_, fun j hj => ?_, by simp⟩, (Below.refl _ _).drew.alloc (Nat.le_refl _) _, hc⟩
  · have hn : (w.drew.alloc (.cells (bytesRow s (grownCap w s.size 0 e)) e ((bytesRow s (grownCap w s.size 0 e)).size, (bytesRow s (grownCap w s.size 0 e)).size + 1))).heap[w.heap.size]? = some (.cells (bytesRow s (grownCap w s.size 0 e)) e ((bytesRow s (grownCap w s.size 0 e)).size, (bytesRow s (grownCap w s.size 0 e)).size + 1)) := heap_alloc_new w.drew _
    unfold World.cell?
    simp only [hn]
    unfold bytesRow
    have hjs : j < s.data.size := by simpa using hj
    have hjz : j < s.size := hjs
    simp [Array.getElem?_append, hjz]
  · have hn : (w.drew.alloc (.cells (bytesRow s (grownCap w s.size 0 e)) e ((bytesRow s (grownCap w s.size 0 e)).size, (bytesRow s (grownCap w s.size 0 e)).size + 1))).heap[w.heap.size]? = some (.cells (bytesRow s (grownCap w s.size 0 e)) e ((bytesRow s (grownCap w s.size 0 e)).size, (bytesRow s (grownCap w s.size 0 e)).size + 1)) := heap_alloc_new w.drew _
    unfold World.frozen?
    simp only [hn]
    rw [hl] at hj
    simp
    omega

theorem bytes_back {P : Program} (w : World) (src dst e : TypeId) (g n cap : Nat) (l : List UInt8) (hn : n = l.length) (hs : P.underlying src = some (.slice e)) (he : P.underlying e = some (.int .u8)) (hd : P.underlying dst = some .string)
    (h : BytesAt w g l) : (convert src dst (.slice (some ⟨g, 0, none⟩) n cap)).run P w = .ok (.string (txt l)) w := by
  subst hn
  refine run_convert_bytes_back w src dst e ⟨g, 0, none⟩ cap l hs he hd fun j hj => ?_
  have hadd : (⟨g, 0, none⟩ : Addr).add j = ⟨g, j, none⟩ := by unfold Addr.add; split <;> simp_all
  rw [hadd]
  exact h.cell j hj

def lowB (b : UInt8) : UInt8 := if 65 ≤ b.toNat ∧ b.toNat ≤ 90 then b + 32 else b

def lowL (l : List UInt8) : List UInt8 := l.map lowB

theorem low_next (l : List UInt8) (k : Nat) (hk : k < l.length) : (lowL (l.take k) ++ l.drop k).set k (lowB l[k]) = lowL (l.take (k + 1)) ++ l.drop (k + 1) := by
  have e1 : l.drop k = l[k] :: l.drop (k + 1) := List.drop_eq_getElem_cons hk
  have e2 : (lowL (l.take k)).length = k := by simp [lowL]; omega
  have e3 : l.take (k + 1) = l.take k ++ [l[k]] := by rw [List.take_succ_eq_append_getElem hk]
  rw [e1, List.set_append_right _ _ (by omega), e2, e3, Nat.sub_self, List.set_cons_zero]
  simp only [lowL, List.map_append, List.map_cons, List.map_nil, List.append_assoc, List.singleton_append]

theorem low_len (l : List UInt8) (k : Nat) (hk : k ≤ l.length) : (lowL (l.take k) ++ l.drop k).length = l.length := by simp [lowL]; omega

theorem low_at (l : List UInt8) (k : Nat) (hk : k < l.length) (h : k < (lowL (l.take k) ++ l.drop k).length) : (lowL (l.take k) ++ l.drop k)[k] = l[k] := by
  have e2 : (lowL (l.take k)).length = k := by simp [lowL]; omega
  rw [List.getElem_append_right (by omega), List.getElem_drop]
  exact getElem_congr_idx (by omega)

theorem low_same (l : List UInt8) (k : Nat) (hk : k < l.length) (h : lowB l[k] = l[k]) : lowL (l.take (k + 1)) ++ l.drop (k + 1) = lowL (l.take k) ++ l.drop k := by
  have e1 : l.drop k = l[k] :: l.drop (k + 1) := List.drop_eq_getElem_cons hk
  have e2 : l.take (k + 1) = l.take k ++ [l[k]] := by rw [List.take_succ_eq_append_getElem hk]
  rw [e1, e2]
  simp only [lowL, List.map_append, List.map_cons, List.map_nil, h, List.append_assoc, List.singleton_append]

theorem lowB_yes (b : UInt8) (h1 : 65 ≤ b.toNat) (h2 : b.toNat ≤ 90) : ((lowB b).toNat : Int) = (b.toNat : Int) + 32 := by
  unfold lowB
  rw [if_pos ⟨h1, h2⟩, UInt8.toNat_add]
  have : (32 : UInt8).toNat = 32 := rfl
  omega

theorem lowB_no (b : UInt8) (h : ¬ (65 ≤ b.toNat ∧ b.toNat ≤ 90)) : lowB b = b := by
  unfold lowB
  rw [if_neg h]

/-- the row behind the store -/
theorem low_store {wr : World} {g : Nat} {l : List UInt8} {k : Nat} {v : Int} (hB : BytesAt wr g (lowL (l.take k) ++ l.drop k)) (hk : k < l.length) (hv : v = ((lowB l[k]).toNat : Int)) :
    BytesAt (wr.setCell ⟨g, k, none⟩ (.int .u8 v)) g (lowL (l.take (k + 1)) ++ l.drop (k + 1)) := by
  subst hv
  rw [← low_next l k hk]
  exact hB.set k _ (by rw [low_len l k (by omega)]; exact hk)

theorem lowB_impl (b : UInt8) (h1 : 65 ≤ b.toNat) (h2 : b.toNat ≤ 90) (v : Int) (hv : v = (b.toNat : Int) - 65 + 97) : v = ((lowB b).toNat : Int) := by
  rw [lowB_yes b h1 h2]; omega

theorem txt_toList (l : List UInt8) : (txt l).data.toList = l := by simp [txt]

theorem txt_size (l : List UInt8) : (txt l).size = l.length := by simp [txt, ByteArray.size]

theorem txt_append (a b : List UInt8) : txt a ++ txt b = txt (a ++ b) := by
  apply ByteArray.ext; simp [txt]

theorem txt_of (s : ByteArray) : txt s.data.toList = s := by
  apply ByteArray.ext; simp [txt]

theorem ret_str {a b : ByteArray} (h : a = b) : Ending.returned (.string a) = .returned (.string b) := by rw [h]

theorem digit_cut : ∀ d : Fin 10, (ByteArray.mk #[48, 49, 50, 51, 52, 53, 54, 55, 56, 57]).extract d.val (d.val + 1) = txt [UInt8.ofNat (48 + d.val)] := by decide +kernel

/-- the digits of a number, none of nought -/
def digs (u : Nat) : List UInt8 := if u = 0 then [] else Lib.decDigits u

theorem digs_step (u : Nat) (h : u ≠ 0) : digs u = digs (u / 10) ++ [UInt8.ofNat (48 + u % 10)] := by
  unfold digs
  rw [if_neg h]
  by_cases h2 : u < 10
  · rw [if_pos (by omega), Lib.decDigits_one h2, Nat.mod_eq_of_lt h2]; rfl
  · rw [if_neg (by omega)]
    conv => lhs; rw [Lib.decDigits, dif_neg h2]
    

theorem digit_slice {P : Program} (t : TypeId) (h : P.underlying t = some .string) (k : Nat) (hk : k < 10) (w : World) :
    (Instr.slice t (.string { data := #[48, 49, 50, 51, 52, 53, 54, 55, 56, 57] }) (some (.int .i64 (k : Int))) (some (.int .i64 ((k : Int) + 1))) none).run P w = .ok (.string (txt [UInt8.ofNat (48 + k)])) w := by
  rw [run_slice_string w t _ .i64 .i64 _ _ h (by omega) (by omega) (by show (k : Int) + 1 ≤ ((10 : Nat) : Int); omega)]
  have e1 : ((k : Int)).toNat = k := by omega
  have e2 : ((k : Int) + 1).toNat = k + 1 := by omega
  rw [e1, e2, digit_cut ⟨k, hk⟩]

theorem add_txt {P : Program} (a b : List UInt8) (ha : a.length + b.length ≤ 9223372036854775807) (w : World) : (Op.stringOp .add (txt a) (txt b)).run P w = .ok (.string (txt (a ++ b))) w := by
  rw [run_string_add_sum w _ _ (by rw [txt_size, txt_size]; exact ha), txt_append]

theorem take_snoc (s : ByteArray) (k : Nat) (h : k < s.size) : s.data.toList.take (k + 1) = s.data.toList.take k ++ [s[k]] := by
  rw [List.take_succ_eq_append_getElem (by simpa using h)]; rfl

def isDig (c : UInt8) : Bool := decide (48 ≤ c.toNat ∧ c.toNat ≤ 57)

def valL (l : List UInt8) : Nat := l.foldl (fun n c => 10 * n + (c.toNat - 48)) 0

theorem val_snoc (l : List UInt8) (c : UInt8) : valL (l ++ [c]) = 10 * valL l + (c.toNat - 48) := by simp [valL]

theorem val_lt (l : List UInt8) (h : ∀ c ∈ l, isDig c = true) : valL l < 10 ^ l.length := by
  generalize hn : l.length = n
  induction n generalizing l with
  | zero => have : l = [] := List.length_eq_zero_iff.1 hn; subst this; simp [valL]
  | succ n ih =>
    have e : l = l.take n ++ [l[n]] := by rw [← List.take_succ_eq_append_getElem (by omega), List.take_of_length_le (by omega)]
    have hl := h l[n] (List.getElem_mem _)
    have := ih (l.take n) (fun c hc => h c (List.mem_of_mem_take hc)) (by rw [List.length_take]; omega)
    rw [e, val_snoc]
    simp only [isDig, decide_eq_true_eq] at hl
    rw [Nat.pow_succ]
    omega

/-- the texts that are a number's: digits, and no nought ahead of others -/
theorem dec_val (n : Nat) : ∀ (l : List UInt8), l.length = n + 1 → (∀ c ∈ l, isDig c = true) → (n = 0 ∨ l.head? ≠ some 48) → Lib.decDigits (valL l) = l ∧ (l.head? ≠ some 48 → 1 ≤ valL l) := by
  induction n with
  | zero =>
    intro l hl h _
    match l, hl with
    | [c], _ =>
      have hc := h c (by simp)
      simp only [isDig, decide_eq_true_eq] at hc
      have hv : valL [c] = c.toNat - 48 := by simp [valL]
      refine ⟨?_, fun hh => ?_⟩
      · rw [hv, Lib.decDigits_one (by omega)]
        congr 1
        apply UInt8.toNat_inj.1
        rw [UInt8.toNat_ofNat']
        omega
      · rw [hv]
        simp at hh
        have : c.toNat ≠ 48 := fun e => hh (UInt8.toNat_inj.1 e)
        omega
  | succ n ih =>
    intro l hl h h0
    have hh : l.head? ≠ some 48 := by rcases h0 with h0 | h0; · omega
                                      · exact h0
    have e : l = l.take (n + 1) ++ [l[n + 1]] := by rw [← List.take_succ_eq_append_getElem (by omega), List.take_of_length_le (by omega)]
    have hc := h l[n + 1] (List.getElem_mem _)
    simp only [isDig, decide_eq_true_eq] at hc
    have hh2 : (l.take (n + 1)).head? ≠ some 48 := by
      match l, hl, hh with
      | a :: r, _, hh => simpa using hh
    obtain ⟨i1, i2⟩ := ih (l.take (n + 1)) (by rw [List.length_take]; omega) (fun c hc => h c (List.mem_of_mem_take hc)) (.inr hh2)
    have i3 := i2 hh2
    generalize l[n + 1] = c at e hc
    generalize l.take (n + 1) = r at e i1 i2 i3
    subst e
    rw [val_snoc]
    refine ⟨?_, fun _ => by omega⟩
    rw [Lib.decDigits, dif_neg (by omega)]
    have d1 : (10 * valL r + (c.toNat - 48)) / 10 = valL r := by omega
    have d2 : 48 + (10 * valL r + (c.toNat - 48)) % 10 = c.toNat := by omega
    rw [d1, d2, i1]
    simp

theorem dig_bound (u : Nat) (h : 1 ≤ u) : 10 ^ (Lib.nDigits u - 1) ≤ u := by
  induction u using Nat.strongRecOn with
  | _ u ih =>
    by_cases h2 : u < 10
    · rw [Lib.nDigits_small h2]; simpa using h
    · rw [Lib.nDigits_big h2]
      have := ih (u / 10) (by omega) (by omega)
      have hp := Lib.nDigits_pos (u / 10)
      obtain ⟨m, hm⟩ : ∃ m, Lib.nDigits (u / 10) = m + 1 := ⟨_, (Nat.sub_add_cancel hp).symm⟩
      rw [hm] at this ⊢
      simp only [Nat.add_sub_cancel] at this ⊢
      rw [Nat.pow_succ]
      omega

theorem val_zero_head (r : List UInt8) (h : ∀ c ∈ r, isDig c = true) : valL (48 :: r) < 10 ^ r.length := by
  have : valL (48 :: r) = valL r := by simp [valL]
  rw [this]
  exact val_lt r h

def rdV (l : List UInt8) : Int := if l.length ≤ 12 ∧ l ≠ [] ∧ (∀ c ∈ l, isDig c = true) ∧ Lib.decDigits (valL l) = l then (valL l : Int) else -1

theorem rd_yes (l : List UInt8) (h1 : l.length ≤ 12) (h2 : l ≠ []) (h3 : ∀ c ∈ l, isDig c = true) (h4 : Lib.decDigits (valL l) = l) : rdV l = valL l := by
  unfold rdV; rw [if_pos ⟨h1, h2, h3, h4⟩]

theorem rd_no (l : List UInt8) (h : ¬ (l.length ≤ 12 ∧ l ≠ [] ∧ (∀ c ∈ l, isDig c = true) ∧ Lib.decDigits (valL l) = l)) : rdV l = -1 := by
  unfold rdV; rw [if_neg h]

theorem rd_nought (l : List UInt8) (h : l.head? = some 48) (hl : 1 < l.length) : rdV l = -1 := by
  refine rd_no l fun ⟨h1, h2, h3, h4⟩ => ?_
  match l, hl with
  | a :: r, hl =>
    simp at h
    subst h
    have hv := val_zero_head r (fun c hc => h3 c (by simp [hc]))
    have hn := Lib.decDigits_length (valL (48 :: r))
    rw [h4] at hn
    have hp := Lib.nDigits_pos (valL (48 :: r))
    by_cases hz : valL (48 :: r) = 0
    · rw [hz, Lib.nDigits_small (by omega)] at hn; omega
    · have hk := dig_bound (valL (48 :: r)) (by omega)
      rw [← hn] at hk
      simp at hk hv
      omega

/-- of the first k letters each is a digit -/
def DigTo (s : ByteArray) (k : Nat) : Prop := ∀ c ∈ s.data.toList.take k, isDig c = true

theorem digTo_snoc (s : ByteArray) (k : Nat) (h : k < s.size) (hd : DigTo s k) (h1 : 48 ≤ s[k].toNat) (h2 : s[k].toNat ≤ 57) : DigTo s (k + 1) := by
  intro c hc
  rw [take_snoc s k h] at hc
  rcases List.mem_append.1 hc with hc | hc
  · exact hd c hc
  · simp at hc; subst hc; simp [isDig, h1, h2]

theorem digTo_all (s : ByteArray) (k : Nat) (hk : k = s.size) (hd : DigTo s k) : ∀ c ∈ s.data.toList, isDig c = true := by
  have : s.data.toList.take k = s.data.toList := List.take_of_length_le (by rw [Array.length_toList]; subst hk; exact Nat.le_refl _)
  unfold DigTo at hd
  rwa [this] at hd

theorem no_dig (s : ByteArray) (k : Nat) (h : k < s.size) (hd : ¬ (48 ≤ s[k].toNat ∧ s[k].toNat ≤ 57)) : rdV s.data.toList = -1 := by
  refine rd_no _ fun ⟨_, _, h3, _⟩ => ?_
  have := h3 s[k] (by rw [← List.take_append_drop k s.data.toList, drop_cons s k h]; simp)
  simp [isDig] at this
  omega

theorem val_take (s : ByteArray) (k : Nat) (h : k < s.size) : valL (s.data.toList.take (k + 1)) = 10 * valL (s.data.toList.take k) + (s[k].toNat - 48) := by
  rw [take_snoc s k h, val_snoc]

theorem val_take_lt (s : ByteArray) (k : Nat) (hs : k ≤ 12) (hd : DigTo s k) : valL (s.data.toList.take k) < 1000000000000 := by
  have h1 := val_lt _ hd
  have h2 : (s.data.toList.take k).length ≤ 12 := by rw [List.length_take]; omega
  have h3 : 10 ^ (s.data.toList.take k).length ≤ 10 ^ 12 := Nat.pow_le_pow_right (by omega) h2
  omega

theorem ret_int {k : IntKind} {a b : Int} (h : a = b) : Ending.returned (.int k a) = .returned (.int k b) := by rw [h]

theorem data_length (s : ByteArray) : s.data.toList.length = s.size := Array.length_toList

theorem txt_inj {l : List UInt8} {s : ByteArray} (h : txt l = s) : l = s.data.toList := by rw [← h, txt_toList]

theorem empty_of (s : ByteArray) (h : s.size = 0) : s = ⟨#[]⟩ := by
  apply ByteArray.ext
  exact Array.eq_empty_of_size_eq_zero h

theorem not_empty (s : ByteArray) (h : ¬ s.size = 0) : s.toList.isEmpty = false := by
  rw [Lib.toList_data]
  have := data_length s
  cases hs : s.data.toList with
  | nil => rw [hs] at this; simp at this; omega
  | cons a r => rfl

theorem dec_lo (s : ByteArray) (pos : Nat) (h : pos < s.size) (hd : ¬ (48 ≤ s[pos].toNat ∧ s[pos].toNat ≤ 57)) : (Utf8.decode s pos).1 < 48 ∨ 57 < (Utf8.decode s pos).1 := by
  by_cases ha : (s[pos]'h).toNat < 128
  · rw [decode_ascii s pos h ha]
    show s[pos].toNat < 48 ∨ 57 < s[pos].toNat
    omega
  · have := (decode_high s pos h (by omega)).1
    omega

def hexD (n : Nat) : UInt8 := if n < 10 then UInt8.ofNat (48 + n) else UInt8.ofNat (87 + n)

def hexL (l : List UInt8) : List UInt8 := l.flatMap fun b => [hexD (b.toNat / 16), hexD (b.toNat % 16)]

theorem hex_at : ∀ i : Fin 16, (ByteArray.mk #[48, 49, 50, 51, 52, 53, 54, 55, 56, 57, 97, 98, 99, 100, 101, 102]).data.toList[i.val]? = some (hexD i.val) := by decide +kernel

theorem hex_index {P : Program} (t : TypeId) (h : P.underlying t = some .string) (k : IntKind) (i : Nat) (hi : i < 16) (w : World) :
    (Instr.index t (.string { data := #[48, 49, 50, 51, 52, 53, 54, 55, 56, 57, 97, 98, 99, 100, 101, 102] }) (.int k (i : Int))).run P w = .ok (.int .u8 (((hexD i).toNat : Nat) : Int)) w := by
  have hs : (ByteArray.mk #[48, 49, 50, 51, 52, 53, 54, 55, 56, 57, 97, 98, 99, 100, 101, 102]).size = 16 := rfl
  have hq : (ByteArray.mk #[48, 49, 50, 51, 52, 53, 54, 55, 56, 57, 97, 98, 99, 100, 101, 102])[(i : Int).toNat]'(by rw [hs]; omega) = hexD i := by
    have e : (i : Int).toNat = i := by omega
    have h2 := hex_at ⟨i, hi⟩
    rw [List.getElem?_eq_getElem (by simp; exact hi)] at h2
    simp only [e]
    exact Option.some.inj h2
  rw [run_index_string w t _ k _ h, dif_pos ⟨by omega, by rw [hs]; omega⟩, hq]

/-- a row of letters that the call owns -/
def cells8 (l : List UInt8) : List Value := l.map fun b => .int .u8 ((b.toNat : Nat) : Int)

theorem wrap_u8_nat (n : Nat) (h : n < 256) : IntKind.u8.wrap (n : Int) = (n : Int) := by
  simp [IntKind.wrap, IntKind.signed, IntKind.bits]; omega

theorem hexL_snoc (l : List UInt8) (b : UInt8) : hexL (l ++ [b]) = hexL l ++ [hexD (b.toNat / 16), hexD (b.toNat % 16)] := by simp [hexL]

theorem hexL_len (l : List UInt8) : (hexL l).length = 2 * l.length := by
  induction l with
  | nil => rfl
  | cons a r ih => simp [hexL] at ih ⊢; omega

theorem cells8_len (l : List UInt8) : (cells8 l).length = l.length := by simp [cells8]

theorem cells8_append (a b : List UInt8) : cells8 (a ++ b) = cells8 a ++ cells8 b := by simp [cells8]

theorem hexL_take (s : ByteArray) (k : Nat) (h : k < s.size) : hexL (s.data.toList.take (k + 1)) = hexL (s.data.toList.take k) ++ [hexD (s[k].toNat / 16), hexD (s[k].toNat % 16)] := by
  rw [take_snoc s k h, hexL_snoc]

/-- a row that the call owns, made a text -/
theorem bytes_back_own {P : Program} (w : World) (src dst e : TypeId) (base : Nat) (v : Value) (n : Nat) (l : List UInt8) (hn : n = l.length) (hs : P.underlying src = some (.slice e)) (he : P.underlying e = some (.int .u8)) (hd : P.underlying dst = some .string)
    (h : w.ownsRow base e 1 v n (cells8 l)) : (convert src dst v).run P w = .ok (.string (txt l)) w := by
  subst hn
  rcases h.2 with ⟨rfl, h0⟩ | ⟨g, cap, cur, rfl, hb, hg, hnc, hcm, hcs, htake⟩
  · have : l = [] := List.length_eq_zero_iff.1 h0
    subst this
    rw [run_convert_bytes_string w src dst e _ _ _ hs he hd]
    simp [Conv.bytesToString, txt]
    rfl
  · refine run_convert_bytes_back w src dst e ⟨g, 0, none⟩ cap l hs he hd fun j hj => ?_
    have := h.cells (g := g) rfl j _ (List.getElem?_eq_getElem (by rw [cells8_len]; exact hj))
    rw [this]
    simp [cells8]

theorem make_row {P : Program} (t e : TypeId) (i : TypeInfo) (z : Value) (ht : P.underlying t = some (.slice e)) (hi : P.info? e = some i) (hz : i.zero = some z)
    (C : Int) (c : Nat) (hC : C = (c : Int)) (hbytes : i.bytes * c ≤ 281474976710656) (h63 : c ≤ 9223372036854775807) (w : World) :
    (Instr.makeSlice t (.int .i64 0) (.int .i64 C)).run P w = .ok (.slice (some ⟨w.heap.size, 0, none⟩) 0 c) (w.alloc (.cells (madeCells z.cells (c * i.size)) e)) := by
  subst hC
  have hb : (i.bytes : Int) * (c : Int) ≤ 281474976710656 := by
    have h : ((i.bytes * c : Nat) : Int) ≤ 281474976710656 := by omega
    rwa [Int.natCast_mul] at h
  have hr := run_make (P := P) w t e i z ht hi hz .i64 .i64 0 c (by omega) (by omega) hb (by omega)
  simpa using hr

def hexV (c : UInt8) : Int := if 48 ≤ c.toNat ∧ c.toNat ≤ 57 then (c.toNat : Int) - 48 else if 97 ≤ c.toNat ∧ c.toNat ≤ 102 then (c.toNat : Int) - 87 else if 65 ≤ c.toNat ∧ c.toNat ≤ 70 then (c.toNat : Int) - 55 else -1

theorem hexV_le (c : UInt8) : -1 ≤ hexV c ∧ hexV c ≤ 15 := by
  unfold hexV
  split
  · omega
  · split
    · omega
    · split <;> omega

theorem hexV_hexD (n : Nat) (h : n < 16) : hexV (hexD n) = n := by
  have : ∀ i : Fin 16, hexV (hexD i.val) = i.val := by decide +kernel
  exact this ⟨n, h⟩

theorem hexL_get (r : List UInt8) (k : Nat) (hk : k < r.length) : (hexL r)[2 * k]? = some (hexD (r[k].toNat / 16)) ∧ (hexL r)[2 * k + 1]? = some (hexD (r[k].toNat % 16)) := by
  induction r generalizing k with
  | nil => simp at hk
  | cons a r ih =>
    cases k with
    | zero => simp [hexL]
    | succ k =>
      have := ih k (by simpa using hk)
      simp only [hexL, List.flatMap_cons] at this ⊢
      have e1 : 2 * (k + 1) = 2 * k + 1 + 1 := by omega
      rw [e1]
      simpa using this

theorem get_of (s : ByteArray) (l : List UInt8) (h : l = s.data.toList) (k : Nat) (hk : k < s.size) (c : UInt8) (hc : l[k]? = some c) : s[k] = c := by
  subst h
  rw [List.getElem?_eq_getElem (by rw [data_length]; exact hk)] at hc
  exact Option.some.inj hc

theorem take_snoc_l (l : List UInt8) (k : Nat) (h : k < l.length) : l.take (k + 1) = l.take k ++ [l[k]] := by
  rw [List.take_succ_eq_append_getElem h]

theorem cells8_one (b : UInt8) (v : Int) (h : v = (b.toNat : Int)) : [Value.int .u8 v] = cells8 [b] := by subst h; rfl

theorem ownsRow_below {w w' : World} {base : Nat} {e : TypeId} {size : Nat} {v : Value} {n : Nat} {xs : List Value} (h : w.ownsRow base e size v n xs) (hb : Below w.heap.size w w') : w'.ownsRow base e size v n xs :=
  h.kept (row := none) ⟨hb.os, hb.tape, hb.output, hb.size, fun i hi _ => hb.block i hi⟩ (by cases v.ownBlock <;> simp)

def hexs : ByteArray := { data := #[48, 49, 50, 51, 52, 53, 54, 55, 56, 57, 97, 98, 99, 100, 101, 102] }

def hexI (c : UInt8) : Int := Lib.indexByte hexs.data.toList c

theorem hexI_hexD (n : Nat) (h : n < 16) : hexI (hexD n) = n := by
  have : ∀ i : Fin 16, hexI (hexD i.val) = i.val := by decide +kernel
  exact this ⟨n, h⟩

theorem hexI_all : ∀ i : Fin 256, -1 ≤ hexI (UInt8.ofNat i.val) ∧ hexI (UInt8.ofNat i.val) ≤ 15 ∧ (0 ≤ hexI (UInt8.ofNat i.val) → hexD (hexI (UInt8.ofNat i.val)).toNat = UInt8.ofNat i.val) := by decide +kernel

theorem hexI_back (c : UInt8) : -1 ≤ hexI c ∧ hexI c ≤ 15 ∧ (0 ≤ hexI c → hexD (hexI c).toNat = c) := by
  have := hexI_all ⟨c.toNat, c.toNat_lt⟩
  simpa using this

theorem or_nib_fin : ∀ p q : Fin 16, bits .or .i64 ((p.val : Int) * 16) (q.val : Int) = ((16 * p.val + q.val : Nat) : Int) := by decide +kernel
theorem or_nib (p q : Nat) (hp : p < 16) (hq : q < 16) (b : UInt8) (hb : 16 * p + q = b.toNat) : bits .or .i64 ((p : Int) * 16) (q : Int) = (b.toNat : Int) := by
  rw [← hb]
  exact or_nib_fin ⟨p, hp⟩ ⟨q, hq⟩

theorem nib_byte (p q : Nat) (hp : p < 16) (hq : q < 16) : 16 * p + q = (UInt8.ofNat (16 * p + q)).toNat ∧ hexD ((UInt8.ofNat (16 * p + q)).toNat / 16) = hexD p ∧ hexD ((UInt8.ofNat (16 * p + q)).toNat % 16) = hexD q := by
  have e : (UInt8.ofNat (16 * p + q)).toNat = 16 * p + q := by rw [UInt8.toNat_ofNat']; omega
  rw [e]
  refine ⟨rfl, ?_, ?_⟩
  · congr 1; omega
  · congr 1; omega

theorem take_two (s : ByteArray) (m : Nat) (h : m + 1 < s.size) : s.data.toList.take (m + 2) = s.data.toList.take m ++ [s[m], s[m + 1]] := by
  rw [take_snoc s (m + 1) h, take_snoc s m (by omega)]; simp

end Go.Proofs.YtonpalaopnfffaaGreatDoor
