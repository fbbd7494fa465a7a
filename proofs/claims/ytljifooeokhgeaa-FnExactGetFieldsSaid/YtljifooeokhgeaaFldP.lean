/- THE NOTATION of fields, plainly: what is written, what the program reads, what the model reads: each reads back what was written, and the program reads nothing else. -/
import Derived.Test.YtljifooeokhgeaaFldsP
namespace Go.Proofs.Ytljifooeokhgeaa
set_option linter.unusedVariables false
set_option maxRecDepth 4000

namespace Fld

def isE (c : UInt8) : Bool := c == 34 || c == 92
def escB (c : UInt8) : List UInt8 := if isE c then [92, c] else [c]
def escL (t : List UInt8) : List UInt8 := t.flatMap escB
def quoL (t : List UInt8) : List UInt8 := 34 :: (escL t ++ [34])

def itemL (p : FieldL) : List UInt8 := quoL p.1 ++ 58 :: (if p.2.2.2 then Lib.itoa p.2.2.1 else quoL p.2.1)
def tailL (l : List FieldL) : List UInt8 := l.flatMap fun p => 44 :: itemL p
def bodyL : List FieldL → List UInt8
  | [] => []
  | p :: r => itemL p ++ tailL r
def putF (l : List FieldL) : List UInt8 := 123 :: (bodyL l ++ [125])

/-- what the program reads between two double quotes -/
def rq (acc : List UInt8) : List UInt8 → Option (List UInt8 × List UInt8)
  | [] => none
  | [c] => if c = 34 then some (acc, []) else none
  | c :: d :: r => if c = 34 then some (acc, d :: r) else if c = 92 then (if isE d then rq (acc ++ [d]) r else none) else rq (acc ++ [c]) (d :: r)

/-- what the model reads between two double quotes -/
def mq (acc : List UInt8) : List UInt8 → Option (List UInt8 × List UInt8)
  | [] => none
  | [c] => if c = 34 then some (acc, []) else none
  | c :: d :: r => if c = 34 then some (acc, d :: r) else if c = 92 then mq (acc ++ [d]) r else mq (acc ++ [c]) (d :: r)

theorem isE_iff (c : UInt8) : isE c = true ↔ c = 34 ∨ c = 92 := by simp [isE]

theorem esc_cons (c : UInt8) (t : List UInt8) : escL (c :: t) = escB c ++ escL t := rfl

theorem rq_esc (t : List UInt8) : ∀ (acc tail : List UInt8), rq acc (escL t ++ 34 :: tail) = some (acc ++ t, tail) := by
  induction t with
  | nil =>
    intro acc tail
    cases tail with
    | nil => simp [escL, rq]
    | cons d r => simp [escL, rq]
  | cons c t ih =>
    intro acc tail
    rw [esc_cons]
    cases hE : isE c with
    | true =>
      have he : escB c = [92, c] := by simp [escB, hE]
      rw [he, List.append_assoc]
      show rq acc (92 :: c :: (escL t ++ 34 :: tail)) = _
      rw [rq, if_neg (by decide), if_pos rfl, if_pos hE, ih]
      simp
    | false =>
      have he : escB c = [c] := by simp [escB, hE]
      have hc : c ≠ 34 ∧ c ≠ 92 := by
        have := mt (isE_iff c).2 (by rw [hE]; simp)
        exact ⟨fun h => this (.inl h), fun h => this (.inr h)⟩
      rw [he, List.append_assoc]
      obtain ⟨d, r, hd⟩ : ∃ d r, escL t ++ 34 :: tail = d :: r := by
        cases escL t with
        | nil => exact ⟨_, _, rfl⟩
        | cons x y => exact ⟨_, _, rfl⟩
      have h2 := ih (acc ++ [c]) tail
      rw [hd] at h2 ⊢
      show rq acc (c :: d :: r) = _
      rw [rq, if_neg hc.1, if_neg hc.2, h2]
      simp

theorem mq_esc (t : List UInt8) : ∀ (acc tail : List UInt8), mq acc (escL t ++ 34 :: tail) = some (acc ++ t, tail) := by
  induction t with
  | nil =>
    intro acc tail
    cases tail with
    | nil => simp [escL, mq]
    | cons d r => simp [escL, mq]
  | cons c t ih =>
    intro acc tail
    rw [esc_cons]
    cases hE : isE c with
    | true =>
      have he : escB c = [92, c] := by simp [escB, hE]
      rw [he, List.append_assoc]
      show mq acc (92 :: c :: (escL t ++ 34 :: tail)) = _
      rw [mq, if_neg (by decide), if_pos rfl, ih]
      simp
    | false =>
      have he : escB c = [c] := by simp [escB, hE]
      have hc : c ≠ 34 ∧ c ≠ 92 := by
        have := mt (isE_iff c).2 (by rw [hE]; simp)
        exact ⟨fun h => this (.inl h), fun h => this (.inr h)⟩
      rw [he, List.append_assoc]
      obtain ⟨d, r, hd⟩ : ∃ d r, escL t ++ 34 :: tail = d :: r := by
        cases escL t with
        | nil => exact ⟨_, _, rfl⟩
        | cons x y => exact ⟨_, _, rfl⟩
      have h2 := ih (acc ++ [c]) tail
      rw [hd] at h2 ⊢
      show mq acc (c :: d :: r) = _
      rw [mq, if_neg hc.1, if_neg hc.2, h2]
      simp

theorem rq_sound (n : Nat) : ∀ (l acc o tail : List UInt8), l.length ≤ n → rq acc l = some (o, tail) → ∃ t, o = acc ++ t ∧ l = escL t ++ 34 :: tail := by
  induction n with
  | zero =>
    intro l acc o tail hl h
    obtain rfl : l = [] := List.eq_nil_of_length_eq_zero (by omega)
    simp [rq] at h
  | succ n ih =>
    intro l acc o tail hl h
    match l, hl, h with
    | [], _, h => simp [rq] at h
    | [c], _, h =>
      rw [rq] at h
      split at h
      · rename_i hc
        simp only [Option.some.injEq, Prod.mk.injEq] at h
        obtain ⟨rfl, rfl⟩ := h
        exact ⟨[], by simp, by simp [escL, hc]⟩
      · cases h
    | c :: d :: r, hl, h =>
      rw [rq] at h
      simp only [List.length_cons] at hl
      split at h
      · rename_i hc
        simp only [Option.some.injEq, Prod.mk.injEq] at h
        obtain ⟨rfl, rfl⟩ := h
        exact ⟨[], by simp, by simp [escL, hc]⟩
      · rename_i hc
        split at h
        · rename_i hc2
          split at h
          · rename_i hd
            obtain ⟨t, rfl, rfl⟩ := ih r (acc ++ [d]) o tail (by omega) h
            refine ⟨d :: t, by simp, ?_⟩
            rw [esc_cons, show escB d = [92, d] by simp [escB, hd], hc2]
            simp
          · cases h
        · rename_i hc2
          obtain ⟨t, rfl, hr⟩ := ih (d :: r) (acc ++ [c]) o tail (by simp; omega) h
          refine ⟨c :: t, by simp, ?_⟩
          have hE : isE c = false := by
            cases h : isE c with
            | false => rfl
            | true => rcases (isE_iff c).1 h with h | h <;> contradiction
          rw [esc_cons, show escB c = [c] by simp [escB, hE], hr]
          simp

theorem rq_len (l acc o tail : List UInt8) (h : rq acc l = some (o, tail)) : tail.length < l.length := by
  obtain ⟨t, _, rfl⟩ := rq_sound _ l acc o tail (Nat.le_refl _) h
  simp; omega

/-- a quoted text at the head -/
def readQ : List UInt8 → Option (List UInt8 × List UInt8)
  | c :: r => if c = 34 then rq [] r else none
  | [] => none

theorem readQ_quo (t tail : List UInt8) : readQ (quoL t ++ tail) = some (t, tail) := by
  show readQ (34 :: (escL t ++ [34] ++ tail)) = _
  rw [readQ, if_pos rfl, List.append_assoc]
  have := rq_esc t [] tail
  simpa using this

theorem readQ_sound (l o tail : List UInt8) (h : readQ l = some (o, tail)) : l = quoL o ++ tail := by
  cases l with
  | nil => simp [readQ] at h
  | cons c r =>
    rw [readQ] at h
    split at h
    · rename_i hc
      obtain ⟨t, ho, rfl⟩ := rq_sound _ r [] o tail (Nat.le_refl _) h
      have ho : o = t := by simpa using ho
      subst ho
      simp [quoL, hc]
    · cases h

theorem rq_at (l o : List UInt8) (k : Nat) (hk : k < l.length) : rq o (l.drop k) = if l[k] = 34 then some (o, l.drop (k + 1)) else if l[k] = 92 then (if h : k + 1 < l.length then (if isE l[k + 1] then rq (o ++ [l[k + 1]]) (l.drop (k + 2)) else none) else none) else rq (o ++ [l[k]]) (l.drop (k + 1)) := by
  rw [List.drop_eq_getElem_cons hk]
  by_cases h : k + 1 < l.length
  · rw [List.drop_eq_getElem_cons h, rq, dif_pos h]
  · rw [List.drop_eq_nil_of_le (show l.length ≤ k + 1 by omega), dif_neg h]
    by_cases h34 : l[k] = 34
    · simp [rq, h34]
    · by_cases h92 : l[k] = 92
      · simp [rq, h92]
      · simp [rq, h34, h92]

theorem mq_at (l o : List UInt8) (k : Nat) (hk : k < l.length) : mq o (l.drop k) = if l[k] = 34 then some (o, l.drop (k + 1)) else if l[k] = 92 then (if h : k + 1 < l.length then mq (o ++ [l[k + 1]]) (l.drop (k + 2)) else none) else mq (o ++ [l[k]]) (l.drop (k + 1)) := by
  rw [List.drop_eq_getElem_cons hk]
  by_cases h : k + 1 < l.length
  · rw [List.drop_eq_getElem_cons h, mq, dif_pos h]
  · rw [List.drop_eq_nil_of_le (show l.length ≤ k + 1 by omega), dif_neg h]
    by_cases h34 : l[k] = 34
    · simp [mq, h34]
    · by_cases h92 : l[k] = 92
      · simp [mq, h92]
      · simp [mq, h34, h92]

/-- what a field holds, read by the program -/
def rdC (k c : List UInt8) : Option (FieldL × List UInt8) :=
  if c.head? = some 34 then (match readQ c with
    | none => none
    | some (t, r) => some ((k, t, 0, false), r))
  else if 0 ≤ rdV (c.takeWhile (· != 44)) then some ((k, [], rdV (c.takeWhile (· != 44)), true), c.drop (c.takeWhile (· != 44)).length) else none

/-- a field, read by the program -/
def rdF (s : List UInt8) : Option (FieldL × List UInt8) :=
  match readQ s with
  | none => none
  | some (k, rest) => if rest.head? = some 58 then rdC k (rest.drop 1) else none

theorem rdV_pos (d : List UInt8) (h : 0 ≤ rdV d) : Lib.itoa (rdV d) = d ∧ rdV d ≤ 999999999999 ∧ d.length ≤ 12 ∧ d ≠ [] ∧ (∀ c ∈ d, isDig c = true) := by
  by_cases hc : d.length ≤ 12 ∧ d ≠ [] ∧ (∀ c ∈ d, isDig c = true) ∧ Lib.decDigits (valL d) = d
  · obtain ⟨h1, h2, h3, h4⟩ := hc
    rw [rd_yes d h1 h2 h3 h4]
    have hlt := val_lt d h3
    have h12 : 10 ^ d.length ≤ 10 ^ 12 := Nat.pow_le_pow_right (by omega) h1
    refine ⟨?_, by have : (10 : Nat) ^ 12 = 1000000000000 := by decide
                   omega, h1, h2, h3⟩
    unfold Lib.itoa
    rw [if_neg (by omega), Int.toNat_natCast, h4]
  · rw [rd_no d hc] at h
    omega

theorem val_dec (n : Nat) : valL (Lib.decDigits n) = n ∧ ∀ c ∈ Lib.decDigits n, isDig c = true := by
  induction n using Nat.strongRecOn with
  | _ n ih =>
    by_cases h : n < 10
    · rw [Lib.decDigits, dif_pos h]
      refine ⟨?_, ?_⟩
      · simp [valL]; omega
      · intro c hc
        rw [List.mem_singleton] at hc
        subst hc
        have : (UInt8.ofNat (48 + n)).toNat = 48 + n := by rw [UInt8.toNat_ofNat']; omega
        simp only [isDig, decide_eq_true_eq, this]
        omega
    · obtain ⟨i1, i2⟩ := ih (n / 10) (by omega)
      have : (UInt8.ofNat (48 + n % 10)).toNat = 48 + n % 10 := by rw [UInt8.toNat_ofNat']; omega
      rw [Lib.decDigits, dif_neg h]
      refine ⟨?_, ?_⟩
      · rw [val_snoc, i1, this]; omega
      · intro c hc
        rw [List.mem_append] at hc
        rcases hc with hc | hc
        · exact i2 c hc
        · rw [List.mem_singleton] at hc
          subst hc
          simp only [isDig, decide_eq_true_eq, this]
          omega

theorem itoa_rd (n : Int) (h0 : 0 ≤ n) (h1 : n ≤ 999999999999) : rdV (Lib.itoa n) = n ∧ Lib.itoa n ≠ [] ∧ ∀ c ∈ Lib.itoa n, isDig c = true := by
  obtain ⟨k, rfl⟩ := Int.eq_ofNat_of_zero_le h0
  have e : Lib.itoa (k : Int) = Lib.decDigits k := by unfold Lib.itoa; rw [if_neg (by omega)]; rfl
  obtain ⟨v1, v2⟩ := val_dec k
  have hl : (Lib.decDigits k).length ≤ 12 := by
    rw [Lib.decDigits_length]
    by_cases hk : k = 0
    · subst hk; rw [Lib.nDigits_small (by omega)]; omega
    · have := dig_bound k (by omega)
      by_cases h : Lib.nDigits k ≤ 12
      · exact h
      · exfalso
        have h2 : 10 ^ 12 ≤ 10 ^ (Lib.nDigits k - 1) := Nat.pow_le_pow_right (by omega) (by omega)
        omega
  have hne : Lib.decDigits k ≠ [] := by
    intro h
    have h1 := congrArg List.length h
    rw [Lib.decDigits_length] at h1
    have := Lib.nDigits_pos k
    simp at h1
    omega
  rw [e, rd_yes _ hl hne v2 (by rw [v1]), v1]
  exact ⟨rfl, hne, v2⟩

theorem rdF_item (p : FieldL) (tail : List UInt8) (hp : fieldR p = true) (ht : tail = [] ∨ tail.head? = some 44) : rdF (itemL p ++ tail) = some (p, tail) := by
  obtain ⟨k, t, n, b⟩ := p
  unfold rdF itemL
  simp only
  rw [List.append_assoc, readQ_quo]
  simp only [List.cons_append, List.head?_cons, if_true, List.drop_succ_cons, List.drop_zero]
  unfold fieldR at hp
  rw [Bool.and_eq_true] at hp
  unfold rdC
  cases b with
  | false =>
    simp only [Bool.false_eq_true, if_false, Bool.and_eq_true, decide_eq_true_eq] at hp ⊢
    rw [if_pos (by simp [quoL]), readQ_quo]
    simp [hp.2.1]
  | true =>
    simp only [if_true, Bool.and_eq_true, decide_eq_true_eq, numOk] at hp ⊢
    obtain ⟨_, rfl, h0, h1⟩ := hp
    obtain ⟨hr, hne, hd⟩ := itoa_rd n h0 h1
    generalize Lib.itoa n = d at hr hne hd
    have hdig : ∀ c ∈ d, (c != 44) = true := by
      intro c hc
      have := hd c hc
      unfold isDig at this
      rw [decide_eq_true_eq] at this
      simp only [bne_iff_ne, ne_eq]
      intro h; subst h; simp at this
    have htw : (d ++ tail).takeWhile (· != 44) = d := by
      rw [List.takeWhile_append_of_pos hdig]
      rcases ht with rfl | ht
      · simp
      · cases tail with
        | nil => simp
        | cons x y =>
          simp only [List.head?_cons, Option.some.injEq] at ht
          subst ht
          simp
    have hh : (d ++ tail).head? ≠ some 34 := by
      cases d with
      | nil => exact absurd rfl hne
      | cons x y =>
        simp only [List.cons_append, List.head?_cons, ne_eq, Option.some.injEq]
        intro h
        have := hd x (by simp)
        subst h
        simp [isDig] at this
    rw [if_neg hh, htw, hr, if_pos h0]
    simp

theorem rdF_sound (s : List UInt8) (p : FieldL) (tail : List UInt8) (h : rdF s = some (p, tail)) : s = itemL p ++ tail := by
  unfold rdF at h
  cases hq : readQ s with
  | none => rw [hq] at h; cases h
  | some x =>
    obtain ⟨k, rest⟩ := x
    rw [hq] at h
    simp only at h
    have hs := readQ_sound _ _ _ hq
    split at h
    · rename_i hr
      obtain ⟨c, hc⟩ : ∃ c, rest = 58 :: c := by
        cases rest with
        | nil => simp at hr
        | cons x y => simp only [List.head?_cons, Option.some.injEq] at hr; exact ⟨y, by rw [hr]⟩
      subst hc
      simp only [List.drop_succ_cons, List.drop_zero] at h
      unfold rdC at h
      split at h
      · cases hq2 : readQ c with
        | none => rw [hq2] at h; cases h
        | some y =>
          obtain ⟨t, r⟩ := y
          rw [hq2] at h
          simp only [Option.some.injEq, Prod.mk.injEq] at h
          obtain ⟨rfl, rfl⟩ := h
          rw [hs, readQ_sound _ _ _ hq2]
          simp [itemL]
      · split at h
        · rename_i hn
          simp only [Option.some.injEq, Prod.mk.injEq] at h
          obtain ⟨rfl, rfl⟩ := h
          have hi := (rdV_pos _ hn).1
          have hc : c = c.takeWhile (· != 44) ++ c.drop (c.takeWhile (· != 44)).length := by
            conv => lhs; rw [← List.takeWhile_append_dropWhile (p := (· != 44)) (l := c)]
            congr 1
            have := List.takeWhile_append_dropWhile (p := (· != (44 : UInt8))) (l := c)
            rw [← List.drop_left (l₁ := c.takeWhile (· != 44)) (l₂ := c.dropWhile (· != 44)), this]
          rw [hs]
          unfold itemL
          simp only [if_true, hi]
          rw [List.append_assoc, List.cons_append, ← hc]
        · cases h
    · cases h

theorem esc_len (t : List UInt8) : t.length ≤ (escL t).length := by
  induction t with
  | nil => simp [escL]
  | cons c t ih =>
    rw [esc_cons, List.length_append]
    have : 1 ≤ (escB c).length := by unfold escB; split <;> simp
    simp only [List.length_cons]; omega

theorem quo_len (t : List UInt8) : t.length + 2 ≤ (quoL t).length := by
  have := esc_len t
  simp [quoL]; omega

theorem item_len (p : FieldL) : 3 ≤ (itemL p).length := by
  have := quo_len p.1
  simp only [itemL, List.length_append, List.length_cons]; omega

theorem rdF_len (s : List UInt8) (p : FieldL) (r : List UInt8) (h : rdF s = some (p, r)) : r.length + 1 ≤ s.length := by
  have := item_len p
  rw [rdF_sound s p r h, List.length_append]; omega

theorem rdF_okM (s : List UInt8) (p : FieldL) (r : List UInt8) (h : rdF s = some (p, r)) (hs : s.length ≤ 1048576) : okM p := by
  have hlen := congrArg List.length (rdF_sound s p r h)
  have hq := quo_len p.1
  unfold rdF at h
  cases hq2 : readQ s with
  | none => rw [hq2] at h; cases h
  | some x =>
    obtain ⟨k, rest⟩ := x
    rw [hq2] at h
    simp only at h
    split at h
    · unfold rdC at h
      split at h
      · cases hq3 : readQ (rest.drop 1) with
        | none => rw [hq3] at h; cases h
        | some y =>
          obtain ⟨t, r2⟩ := y
          rw [hq3] at h
          simp only [Option.some.injEq, Prod.mk.injEq] at h
          obtain ⟨rfl, rfl⟩ := h
          have hqt := quo_len t
          simp only [itemL, List.length_append, List.length_cons, Bool.false_eq_true, if_false] at hlen hq
          exact ⟨by show k.length ≤ _; omega, by show t.length ≤ _; omega, by show inR 0; unfold inR; omega⟩
      · split at h
        · rename_i hn
          simp only [Option.some.injEq, Prod.mk.injEq] at h
          obtain ⟨rfl, rfl⟩ := h
          have hm := (rdV_pos _ hn).2.1
          simp only [itemL, List.length_append, List.length_cons] at hlen hq
          exact ⟨by show k.length ≤ _; omega, by show 0 ≤ _; omega, by show -9223372036854775808 ≤ rdV ((rest.drop 1).takeWhile (· != 44)) ∧ rdV ((rest.drop 1).takeWhile (· != 44)) ≤ 9223372036854775807; omega⟩
        · cases h
    · cases h

/-- fields behind one another, read by the program -/
def rdFs : Nat → List FieldL → List UInt8 → Option (List FieldL)
  | 0, _, _ => none
  | n + 1, acc, s => match rdF s with
    | none => none
    | some (p, r) => if r.head? = some 44 then rdFs n (acc ++ [p]) (r.drop 1) else if r = [] then some (acc ++ [p]) else none

/-- a whole notation, read by the program -/
def rdAll (s : List UInt8) : Option (List FieldL) :=
  if s.head? = some 123 ∧ (s.drop 1).getLast? = some 125 then (if (s.drop 1).dropLast = [] then some [] else rdFs ((s.drop 1).dropLast.length + 1) [] (s.drop 1).dropLast) else none

/-- what GetFields finds -/
def getF (s : List UInt8) : Option (List FieldL) := if s.length ≤ 8000 then (match rdAll s with
  | some l => if fieldsR l then some l else none
  | none => none) else none

theorem rdFs_body (r : List FieldL) : ∀ (p : FieldL) (n : Nat) (acc : List FieldL), (∀ q ∈ p :: r, fieldR q = true) → (itemL p ++ tailL r).length < n → rdFs n acc (itemL p ++ tailL r) = some (acc ++ p :: r) := by
  induction r with
  | nil =>
    intro p n acc hp hn
    cases n with
    | zero => omega
    | succ n =>
      rw [rdFs, show tailL [] = [] from rfl, rdF_item p [] (hp p (by simp)) (.inl rfl)]
      simp
  | cons q r ih =>
    intro p n acc hp hn
    cases n with
    | zero => omega
    | succ n =>
      have ht : tailL (q :: r) = 44 :: (itemL q ++ tailL r) := rfl
      rw [ht] at hn ⊢
      rw [rdFs, rdF_item p _ (hp p (by simp)) (.inr rfl)]
      simp only [List.head?_cons, if_true, List.drop_succ_cons, List.drop_zero]
      rw [ih q n (acc ++ [p]) (fun x hx => hp x (List.mem_cons_of_mem _ hx)) (by simp only [List.length_append, List.length_cons] at hn ⊢; omega)]
      simp

theorem rdFs_sound (n : Nat) : ∀ (acc : List FieldL) (s : List UInt8) (l : List FieldL), rdFs n acc s = some l → ∃ p r, l = acc ++ p :: r ∧ s = itemL p ++ tailL r := by
  induction n with
  | zero => intro acc s l h; simp [rdFs] at h
  | succ n ih =>
    intro acc s l h
    rw [rdFs] at h
    cases hq : rdF s with
    | none => rw [hq] at h; cases h
    | some x =>
      obtain ⟨p, r⟩ := x
      rw [hq] at h
      simp only at h
      have hs := rdF_sound s p r hq
      split at h
      · rename_i h44
        obtain ⟨q, r2, hl, hr⟩ := ih _ _ _ h
        refine ⟨p, q :: r2, by rw [hl]; simp, ?_⟩
        have : r = 44 :: r.drop 1 := by
          cases r with
          | nil => simp at h44
          | cons a b => simp only [List.head?_cons, Option.some.injEq] at h44; rw [h44]; rfl
        rw [hs, this, hr]
        rfl
      · split at h
        · rename_i hr
          simp only [Option.some.injEq] at h
          exact ⟨p, [], h.symm, by rw [hs, hr]; simp [tailL]⟩
        · cases h

theorem rdAll_put (l : List FieldL) (h : ∀ q ∈ l, fieldR q = true) : rdAll (putF l) = some l := by
  have e1 : (putF l).drop 1 = bodyL l ++ [125] := rfl
  have e2 : (putF l).head? = some 123 := rfl
  unfold rdAll
  rw [e1, e2, List.dropLast_concat, if_pos ⟨rfl, by simp⟩]
  cases l with
  | nil => rw [if_pos (by rfl)]
  | cons p r =>
    have hne : bodyL (p :: r) ≠ [] := by
      have := item_len p
      intro h
      have h2 := congrArg List.length h
      simp only [bodyL, List.length_append, List.length_nil] at h2
      omega
    rw [if_neg hne]
    exact rdFs_body r p _ [] h (by show _ < (itemL p ++ tailL r).length + 1; omega)

theorem rdAll_sound (s : List UInt8) (l : List FieldL) (h : rdAll s = some l) : s = putF l := by
  unfold rdAll at h
  split at h
  · rename_i hc
    obtain ⟨h1, h2⟩ := hc
    obtain ⟨c, hcs⟩ : ∃ c, s = 123 :: c := by
      cases s with
      | nil => simp at h1
      | cons a b => simp only [List.head?_cons, Option.some.injEq] at h1; exact ⟨b, by rw [h1]⟩
    subst hcs
    simp only [List.drop_succ_cons, List.drop_zero] at h h2
    have hb : c = c.dropLast ++ [125] := by
      obtain ⟨ys, rfl⟩ := List.getLast?_eq_some_iff.1 h2
      rw [List.dropLast_concat]
    split at h
    · rename_i he
      simp only [Option.some.injEq] at h
      subst h
      rw [hb, he]
      rfl
    · obtain ⟨p, r, hl, hr⟩ := rdFs_sound _ _ _ _ h
      simp only [List.nil_append] at hl
      subst hl
      rw [hb, hr]
      rfl
  · cases h

end Fld

end Go.Proofs.Ytljifooeokhgeaa
