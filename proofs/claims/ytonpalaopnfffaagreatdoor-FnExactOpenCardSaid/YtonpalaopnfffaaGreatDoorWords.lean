/- CONTRACTS of the functions that cut a text into words and keep lists of texts, of the program, of its model and of the laws. -/
import Derived.Test.YtonpalaopnfffaaGreatDoorC1
import Derived.Laws.RangeAny

namespace Go.Proofs.YtonpalaopnfffaaGreatDoor
set_option linter.unusedVariables false
set_option maxRecDepth 4000
open Go.ChangeShapes Go.WideShapes Go.ChangeAt Go.RowKit
open Go.ChangeMaps (open_string shut_string)

/-- texts as the cells of a row -/
def strs (l : List (List UInt8)) : List Value := l.map fun x => .string (txt x)

theorem strs_len (l : List (List UInt8)) : (strs l).length = l.length := by simp [strs]

theorem strs_append (a b : List (List UInt8)) : strs (a ++ b) = strs a ++ strs b := by simp [strs]

def blank (c : UInt8) : Bool := c == 32 || c == 9

def wAux (cur : List UInt8) : List UInt8 → List (List UInt8)
  | [] => if cur = [] then [] else [cur]
  | c :: r => if blank c then (if cur = [] then [] else [cur]) ++ wAux [] r else wAux (cur ++ [c]) r

def wordsL (l : List UInt8) : List (List UInt8) := wAux [] l

/-- a text's stretch -/
def seg (s : ByteArray) (i j : Nat) : List UInt8 := (s.data.toList.take j).drop i

theorem seg_nil (s : ByteArray) (i : Nat) : seg s i i = [] := by
  unfold seg; rw [List.drop_eq_nil_iff, List.length_take]; omega

theorem seg_snoc (s : ByteArray) (i j : Nat) (hi : i ≤ j) (hj : j < s.size) : seg s i (j + 1) = seg s i j ++ [s[j]] := by
  unfold seg
  have hl : (s.data.toList.take j).length = j := by rw [List.length_take, data_length]; omega
  rw [take_snoc s j hj, List.drop_append_of_le_length (by omega)]

theorem seg_len (s : ByteArray) (i j : Nat) (hj : j ≤ s.size) : (seg s i j).length = j - i := by
  unfold seg; rw [List.length_drop, List.length_take, data_length]; omega

theorem seg_ne (s : ByteArray) (i j : Nat) (hi : i < j) (hj : j ≤ s.size) : seg s i j ≠ [] := by
  intro h; have := seg_len s i j hj; rw [h] at this; simp at this; omega

theorem extract_seg (s : ByteArray) (i j : Nat) : s.extract i j = txt (seg s i j) := by
  apply ByteArray.ext
  simp only [txt, seg]
  apply Array.ext'
  simp [List.drop_take]

theorem wAux_word (s : ByteArray) (i j : Nat) (hi : i ≤ j) (hj : j < s.size) (hb : blank s[j] = false) :
    wAux (seg s i j) (s.data.toList.drop j) = wAux (seg s i (j + 1)) (s.data.toList.drop (j + 1)) := by
  rw [drop_cons s j hj, seg_snoc s i j hi hj]
  conv => lhs; rw [wAux]
  rw [if_neg (by rw [hb]; simp)]

theorem wAux_gap (s : ByteArray) (i j : Nat) (hj : j < s.size) (hb : blank s[j] = true) :
    wAux (seg s i j) (s.data.toList.drop j) = (if seg s i j = [] then [] else [seg s i j]) ++ wAux [] (s.data.toList.drop (j + 1)) := by
  rw [drop_cons s j hj]
  conv => lhs; rw [wAux]
  rw [if_pos hb]

theorem wAux_end (s : ByteArray) (i j : Nat) (hj : j = s.size) : wAux (seg s i j) (s.data.toList.drop j) = if seg s i j = [] then [] else [seg s i j] := by
  have : s.data.toList.drop j = [] := List.drop_eq_nil_of_le (by rw [data_length]; omega)
  rw [this, wAux]

theorem decode_span (s : ByteArray) (i : Nat) (h : i < s.size) (ha : 128 ≤ s[i].toNat) :
    1 ≤ (Utf8.decode s i).2 ∧ i + (Utf8.decode s i).2 ≤ s.size ∧ ∀ j, j < (Utf8.decode s i).2 → ∃ hj : i + j < s.size, 128 ≤ s[i + j].toNat := by
  have g0 : (s.get! (i + 0)) = s[i] := get_at s i h
  have hcont : ∀ k, (i + k < s.size && (s.get! (i + k)).toNat / 64 == 2) = true → ∃ hj : i + k < s.size, 128 ≤ s[i + k].toNat := by
    intro k hk
    simp only [Bool.and_eq_true, decide_eq_true_eq, beq_iff_eq] at hk
    refine ⟨hk.1, ?_⟩
    have : s.get! (i + k) = s[i + k]'hk.1 := by
      have := get_at s (i + k) hk.1
      simpa using this
    rw [this] at hk
    omega
  have one : ∀ j, j < 1 → ∃ hj : i + j < s.size, 128 ≤ s[i + j].toNat := by
    intro j hj
    obtain rfl : j = 0 := by omega
    exact ⟨by omega, by simpa using ha⟩
  have hn : ¬ (s.get! (i + 0)).toNat < 128 := by rw [g0]; omega
  unfold Utf8.decode
  simp only [hn, if_false]
  split
  · rename_i h1
    simp only [Bool.and_eq_true] at h1
    obtain ⟨_, c1⟩ := h1
    obtain ⟨q1, q2⟩ := hcont 1 (by simpa using c1)
    split
    · exact ⟨by omega, by simp; omega, fun j hj => by
        simp at hj
        rcases (show j = 0 ∨ j = 1 by omega) with rfl | rfl
        · exact ⟨by omega, by simpa using ha⟩
        · exact ⟨q1, q2⟩⟩
    · exact ⟨by omega, by simp; omega, one⟩
  · split
    · rename_i h1
      simp only [Bool.and_eq_true] at h1
      obtain ⟨⟨_, c1⟩, c2⟩ := h1
      obtain ⟨q1, q2⟩ := hcont 1 (by simpa using c1)
      obtain ⟨q3, q4⟩ := hcont 2 (by simpa using c2)
      split
      · exact ⟨by omega, by simp; omega, fun j hj => by
          simp at hj
          rcases (show j = 0 ∨ j = 1 ∨ j = 2 by omega) with rfl | rfl | rfl
          · exact ⟨by omega, by simpa using ha⟩
          · exact ⟨q1, q2⟩
          · exact ⟨q3, q4⟩⟩
      · exact ⟨by omega, by simp; omega, one⟩
    · split
      · rename_i h1
        simp only [Bool.and_eq_true] at h1
        obtain ⟨⟨⟨_, c1⟩, c2⟩, c3⟩ := h1
        obtain ⟨q1, q2⟩ := hcont 1 (by simpa using c1)
        obtain ⟨q3, q4⟩ := hcont 2 (by simpa using c2)
        obtain ⟨q5, q6⟩ := hcont 3 (by simpa using c3)
        split
        · exact ⟨by omega, by simp; omega, fun j hj => by
            simp at hj
            rcases (show j = 0 ∨ j = 1 ∨ j = 2 ∨ j = 3 by omega) with rfl | rfl | rfl | rfl
            · exact ⟨by omega, by simpa using ha⟩
            · exact ⟨q1, q2⟩
            · exact ⟨q3, q4⟩
            · exact ⟨q5, q6⟩⟩
        · exact ⟨by omega, by simp; omega, one⟩
      · exact ⟨by omega, by simp; omega, one⟩

theorem blank_high (c : UInt8) (h : 128 ≤ c.toNat) : blank c = false := by
  unfold blank
  have h1 : c ≠ 32 := by intro e; subst e; simp at h
  have h2 : c ≠ 9 := by intro e; subst e; simp at h
  simp [h1, h2]

theorem wAux_span (s : ByteArray) (i j n : Nat) (hi : i ≤ j) (hn : ∀ t, t < n → ∃ hj : j + t < s.size, 128 ≤ s[j + t].toNat) :
    wAux (seg s i j) (s.data.toList.drop j) = wAux (seg s i (j + n)) (s.data.toList.drop (j + n)) := by
  induction n with
  | zero => rfl
  | succ n ih =>
    rw [ih (fun t ht => hn t (by omega))]
    obtain ⟨hj, hb⟩ := hn n (by omega)
    exact wAux_word s i (j + n) (by omega) hj (blank_high _ hb)

theorem Tryz.info9 : (Tryz.prog.info? 9).map (fun i => (i.zero, i.size, i.bytes)) = some (some (.string ⟨#[]⟩), 1, 16) := by kernel_rfl

theorem blank_yes (c : UInt8) (h : c.toNat = 32 ∨ c.toNat = 9) : blank c = true := by
  rcases h with h | h
  · have : c = 32 := UInt8.toNat_inj.1 h
    subst this; rfl
  · have : c = 9 := UInt8.toNat_inj.1 h
    subst this; rfl

theorem blank_no (c : UInt8) (h1 : c.toNat ≠ 32) (h2 : c.toNat ≠ 9) : blank c = false := by
  unfold blank
  have e1 : c ≠ 32 := by intro e; subst e; exact h1 rfl
  have e2 : c ≠ 9 := by intro e; subst e; exact h2 rfl
  simp [e1, e2]

theorem seg_cases (s : ByteArray) (k : Nat) : wAux (seg s k k) (s.data.toList.drop k) = wAux [] (s.data.toList.drop k) := by rw [seg_nil]

theorem strs_one (s : ByteArray) (k j : Nat) : [Value.string (s.extract k j)] = strs [seg s k j] := by rw [extract_seg]; rfl

theorem words_close (s : ByteArray) (acc : List (List UInt8)) (k j : Nat) (hkj : k < j) (hj : j < s.size) (hb : blank s[j] = true)
    (h : acc ++ wAux (seg s k j) (s.data.toList.drop j) = wordsL s.data.toList) : (acc ++ [seg s k j]) ++ wAux [] (s.data.toList.drop j) = wordsL s.data.toList := by
  have g := wAux_gap s j j hj hb
  rw [seg_nil, if_pos rfl, List.nil_append] at g
  rw [wAux_gap s k j hj hb, if_neg (seg_ne s k j hkj (by omega))] at h
  rw [g, List.append_assoc]
  exact h

theorem words_last (s : ByteArray) (acc : List (List UInt8)) (k j : Nat) (hkj : k < j) (hj : j = s.size)
    (h : acc ++ wAux (seg s k j) (s.data.toList.drop j) = wordsL s.data.toList) : (acc ++ [seg s k j]) ++ wAux [] (s.data.toList.drop j) = wordsL s.data.toList := by
  have e : s.data.toList.drop j = [] := List.drop_eq_nil_of_le (by rw [data_length]; omega)
  rw [wAux_end s k j hj, if_neg (seg_ne s k j hkj (by omega))] at h
  rw [e]
  simpa [wAux] using h

theorem blank_eq (c : UInt8) : blank c = (((c.toNat : Nat) : Int) == 32 || ((c.toNat : Nat) : Int) == 9) := by
  by_cases h1 : c.toNat = 32
  · rw [blank_yes c (.inl h1), h1]; rfl
  · by_cases h2 : c.toNat = 9
    · rw [blank_yes c (.inr h2), h2]; rfl
    · rw [blank_no c h1 h2]
      have e1 : (((c.toNat : Nat) : Int) == 32) = false := by rw [beq_eq_false_iff_ne]; omega
      have e2 : (((c.toNat : Nat) : Int) == 9) = false := by rw [beq_eq_false_iff_ne]; omega
      rw [e1, e2]; rfl

theorem grown_after_alloc {w w' : World} {o : Obj} {row : Option Nat} (h : (w.alloc o).grownBy w' row) : w.grownBy w' row :=
  ⟨h.os, h.tape, h.output, Nat.le_trans (by simp) h.size, fun k hk hne => (h.block k (by simp; omega) hne).trans (Below.heap_alloc w o k hk)⟩

/-- a word goes into the list, if it is one -/
def addL (acc : List (List UInt8)) (l : List UInt8) : List (List UInt8) := acc ++ if l = [] then [] else [l]

theorem txt_ne (l : List UInt8) (h : l ≠ []) : (txt l).toList.isEmpty = false := by
  rw [Lib.toList_data, txt_toList]
  cases l with
  | nil => exact absurd rfl h
  | cons a r => rfl

theorem iter_kept {w w' : World} {base : Nat} {e : TypeId} {v : Value} {n : Nat} {xs : List Value} {k : Nat} {s : ByteArray} {p : Nat} (hown : w.ownsRow base e 1 v n xs) (hit : w.heap[k]? = some (.stringIter s p)) (hg : w.grownBy w' v.ownBlock) :
    w'.heap[k]? = some (.stringIter s p) := by
  have hlt : k < w.heap.size := (Array.getElem?_eq_some_iff.1 hit).1
  rw [hg.block k hlt ?_]
  · exact hit
  · intro e1
    rcases hown.2 with ⟨rfl, _⟩ | ⟨g, cap, cur, rfl, _, hgg, _⟩
    · simp [Value.ownBlock] at e1
    · simp [Value.ownBlock] at e1
      subst e1
      rw [hit] at hgg
      cases hgg

theorem ownsRow_iter {w : World} {base : Nat} {e : TypeId} {v : Value} {n : Nat} {xs : List Value} {k : Nat} {s : ByteArray} {p : Nat} (hown : w.ownsRow base e 1 v n xs) (hit : w.heap[k]? = some (.stringIter s p)) (p' : Nat) :
    (w.iterAt k s p').ownsRow base e 1 v n xs := by
  refine ⟨hown.1, ?_⟩
  rcases hown.2 with hn | ⟨g, cap, cur, hv, hbg, hg, rest⟩
  · exact .inl hn
  · have hkg : g ≠ k := by
      intro e1
      rw [e1, hit] at hg
      cases hg
    exact .inr ⟨g, cap, cur, hv, hbg, (Lib.iterAt_other w k g s p' hkg).trans hg, rest⟩

theorem words_add (s : ByteArray) (acc : List (List UInt8)) (i j : Nat) (hj : j < s.size) (hb : blank s[j] = true)
    (h : acc ++ wAux (seg s i j) (s.data.toList.drop j) = wordsL s.data.toList) : addL acc (seg s i j) ++ wAux (seg s (j + 1) (j + 1)) (s.data.toList.drop (j + 1)) = wordsL s.data.toList := by
  rw [wAux_gap s i j hj hb] at h
  rw [seg_nil, addL, List.append_assoc]
  exact h

theorem words_done (s : ByteArray) (acc : List (List UInt8)) (i j : Nat) (hj : j = s.size)
    (h : acc ++ wAux (seg s i j) (s.data.toList.drop j) = wordsL s.data.toList) : addL acc (seg s i j) = wordsL s.data.toList := by
  rw [wAux_end s i j hj] at h
  exact h

theorem addL_len (acc : List (List UInt8)) (l : List UInt8) : (addL acc l).length ≤ acc.length + 1 := by
  unfold addL; split <;> simp

theorem dec_blank (s : ByteArray) (pos : Nat) (h : pos < s.size) (hb : blank s[pos] = false) : (Utf8.decode s pos).1 ≠ 32 ∧ (Utf8.decode s pos).1 ≠ 9 := by
  by_cases ha : (s[pos]'h).toNat < 128
  · rw [decode_ascii s pos h ha]
    show s[pos].toNat ≠ 32 ∧ s[pos].toNat ≠ 9
    exact ⟨(fun e => by rw [blank_yes _ (.inl e)] at hb; cases hb), (fun e => by rw [blank_yes _ (.inr e)] at hb; cases hb)⟩
  · have := (decode_high s pos h (by omega)).1
    omega

theorem blank_is (c : UInt8) (h : blank c = true) : c.toNat = 32 ∨ c.toNat = 9 := by
  by_cases h1 : c.toNat = 32
  · exact .inl h1
  · by_cases h2 : c.toNat = 9
    · exact .inr h2
    · rw [blank_no c h1 h2] at h; cases h

theorem dec_step (s : ByteArray) (i pos : Nat) (hi : i ≤ pos) (h : pos < s.size) (hb : blank s[pos] = false) :
    1 ≤ (Utf8.decode s pos).2 ∧ pos + (Utf8.decode s pos).2 ≤ s.size ∧ wAux (seg s i pos) (s.data.toList.drop pos) = wAux (seg s i (pos + (Utf8.decode s pos).2)) (s.data.toList.drop (pos + (Utf8.decode s pos).2)) := by
  by_cases ha : (s[pos]'h).toNat < 128
  · rw [decode_ascii s pos h ha]
    exact ⟨by simp, by simp; omega, wAux_word s i pos hi h hb⟩
  · obtain ⟨q1, q2, q3⟩ := decode_span s pos h (by omega)
    exact ⟨q1, q2, wAux_span s i pos _ hi q3⟩

theorem own_val {w : World} {base : Nat} {e : TypeId} {v : Value} {n : Nat} {xs : List Value} (h : w.ownsRow base e 1 v n xs) : ∃ a cap, v = .slice a n cap := by
  rcases h.2 with ⟨rfl, rfl⟩ | ⟨g, cap, cur, rfl, _⟩
  · exact ⟨none, 0, rfl⟩
  · exact ⟨_, cap, rfl⟩

theorem own_at {w : World} {base : Nat} {e : TypeId} {a : Option Addr} {n cap : Nat} {xs : List Value} (h : w.ownsRow base e 1 (.slice a n cap) n xs) (hn : 0 < n) : ∃ g, a = some ⟨g, 0, none⟩ ∧ base ≤ g ∧ g < w.heap.size := by
  rcases h.2 with ⟨_, h0⟩ | ⟨g, cap', cur, hv, hb, hg, _⟩
  · omega
  · simp at hv
    exact ⟨g, hv.1, hb, (Array.getElem?_eq_some_iff.1 hg).1⟩

theorem own_cell {w : World} {base : Nat} {e : TypeId} {g n cap : Nat} {l : List (List UInt8)} (h : w.ownsRow base e 1 (.slice (some ⟨g, 0, none⟩) n cap) n (strs l)) (k : Nat) (hk : k < l.length) (hn : l.length = n) : w.cell? ⟨g, k, none⟩ = some (.string (txt l[k])) := by
  rw [h.cellAt k (by omega)]
  simp [strs, hk]

/-- a mark -/
def markL (k : Nat) : List UInt8 := 109 :: Lib.decDigits k

theorem one_text {P : Program} (src dst e : TypeId) (b : UInt8) (v : Int) (hv : v = (b.toNat : Int)) (hs : P.underlying src = some (.slice e)) (he : P.underlying e = some (.int .u8)) (hd : P.underlying dst = some .string) (w : World) :
    (convert src dst (.slice (some ⟨w.heap.size, 0, none⟩) 1 1)).run P (w.alloc (.cells #[.int .u8 v] e)) = .ok (.string (txt [b])) (w.alloc (.cells #[.int .u8 v] e)) := by
  subst hv
  refine run_convert_bytes_back (w.alloc (.cells #[.int .u8 (b.toNat : Int)] e)) src dst e ⟨w.heap.size, 0, none⟩ 1 [b] hs he hd fun j hj => ?_
  have : j = 0 := by simp at hj; omega
  subst this
  simp [Addr.add]

/-- the marks from k0 on -/
def marks (k0 n : Nat) : List (List UInt8) := (List.range n).map fun i => markL (k0 + i)

theorem marks_len (k0 n : Nat) : (marks k0 n).length = n := by simp [marks]

theorem marks_succ (k0 n : Nat) : marks k0 (n + 1) = marks k0 n ++ [markL (k0 + n)] := by simp [marks, List.range_succ]

theorem marks_at (k0 n i : Nat) (h : i < n) (h2 : i < (marks k0 n).length) : (marks k0 n)[i] = markL (k0 + i) := by simp [marks]

theorem marks_set (k0 i : Nat) (l : List (List UInt8)) (hi : i < l.length) : (marks k0 i ++ l.drop i).set i (markL (k0 + i)) = marks k0 (i + 1) ++ l.drop (i + 1) := by
  have e1 : l.drop i = l[i] :: l.drop (i + 1) := List.drop_eq_getElem_cons hi
  rw [e1, List.set_append_right _ _ (by rw [marks_len]; omega), marks_len, Nat.sub_self, List.set_cons_zero, marks_succ, List.append_assoc]
  rfl

theorem strs_set (l : List (List UInt8)) (i : Nat) (x : List UInt8) : (strs l).set i (.string (txt x)) = strs (l.set i x) := by simp [strs, List.map_set]

theorem grown_trans {a b c : World} {row : Option Nat} (h : a.grownBy b row) (k : b.grownBy c row) : a.grownBy c row :=
  ⟨k.os.trans h.os, k.tape.trans h.tape, k.output.trans h.output, Nat.le_trans h.size k.size, fun i hi hne => (k.block i (Nat.lt_of_lt_of_le hi h.size) hne).trans (h.block i hi hne)⟩

theorem grown_below {a b : World} (h : Below a.heap.size a b) (row : Option Nat) : a.grownBy b row := ⟨h.os, h.tape, h.output, h.size, fun i hi _ => h.block i hi⟩

theorem below_of_drew {B : Nat} {a b : World} (h : Below B a.drew b) : Below B a b := ⟨h.os, h.tape, h.output, h.size, h.block⟩

theorem wAux_len (l : List UInt8) : ∀ cur, (wAux cur l).length ≤ l.length + 1 := by
  induction l with
  | nil => intro cur; rw [wAux]; split <;> simp
  | cons c r ih =>
    intro cur
    rw [wAux]
    split
    · have := ih []
      split
      · simp; omega
      · simp; omega
    · have := ih (cur ++ [c]); simp; omega

theorem words_len (s : ByteArray) : (wordsL s.data.toList).length ≤ s.size + 1 := by
  have := wAux_len s.data.toList []
  rw [data_length] at this
  exact this

/-- what is owned from B on stays, while a row of an earlier block's owner is written -/
theorem own_other {w w' : World} {b1 b2 : Nat} {e : TypeId} {v1 v2 : Value} {n1 n2 : Nat} {x1 x2 : List Value} (h1 : w.ownsRow b1 e 1 v1 n1 x1) (h2 : w.ownsRow b2 e 1 v2 n2 x2) (hlt : ∀ g, v1.ownBlock = some g → g < b2) (hg : w.grownBy w' v2.ownBlock) : w'.ownsRow b1 e 1 v1 n1 x1 := by
  refine h1.kept hg ?_
  cases e1 : v1.ownBlock with
  | none => exact .inl rfl
  | some g =>
    right
    intro e2
    have := (h2.lt g e2.symm).1
    have := hlt g e1
    omega

end Go.Proofs.YtonpalaopnfffaaGreatDoor
