/- PURE: a cookie comes back from what an answer says of it; cookies come back from their head; what is told is right. -/
import Derived.Test.YtdgfiebehnfpgaaGreatDoorCk
import Derived.Test.YtdgfiebehnfpgaaGreatDoorSplitI
namespace Go.Proofs.YtdgfiebehnfpgaaGreatDoor
set_option linter.unusedVariables false
set_option maxRecDepth 4000
open Go.ChangeShapes Go.WideShapes Go.ChangeAt Go.RowKit
open Go.ChangeMaps (open_string shut_string)

namespace Ck
open Ht

theorem vl_fin : ∀ n : Fin 256, vlB (UInt8.ofNat n.val) = true → UInt8.ofNat n.val ≠ 59 ∧ UInt8.ofNat n.val ≠ 32 ∧ UInt8.ofNat n.val ≠ 9 := by decide +kernel
theorem nm_fin : ∀ n : Fin 256, nmB (UInt8.ofNat n.val) = true → UInt8.ofNat n.val ≠ 59 ∧ UInt8.ofNat n.val ≠ 32 ∧ UInt8.ofNat n.val ≠ 9 ∧ UInt8.ofNat n.val ≠ 61 := by decide +kernel
theorem pt_fin : ∀ n : Fin 256, pathB (UInt8.ofNat n.val) = true → UInt8.ofNat n.val ≠ 59 ∧ UInt8.ofNat n.val ≠ 32 ∧ UInt8.ofNat n.val ≠ 9 := by decide +kernel
theorem hb_fin : ∀ n : Fin 256, (hostB (UInt8.ofNat n.val) || UInt8.ofNat n.val == 46) = true → UInt8.ofNat n.val ≠ 59 ∧ UInt8.ofNat n.val ≠ 32 ∧ UInt8.ofNat n.val ≠ 9 ∧ lowB (UInt8.ofNat n.val) = UInt8.ofNat n.val := by decide +kernel
theorem dg_fin : ∀ n : Fin 256, isDig (UInt8.ofNat n.val) = true → UInt8.ofNat n.val ≠ 59 ∧ UInt8.ofNat n.val ≠ 32 ∧ UInt8.ofNat n.val ≠ 9 ∧ UInt8.ofNat n.val ≠ 45 := by decide +kernel

theorem vl_no (c : UInt8) (h : vlB c = true) : c ≠ 59 ∧ c ≠ 32 ∧ c ≠ 9 := by
  have e := vl_fin ⟨c.toNat, c.toNat_lt⟩
  rw [ofNat_self] at e
  exact e h

theorem nm_no (c : UInt8) (h : nmB c = true) : c ≠ 59 ∧ c ≠ 32 ∧ c ≠ 9 ∧ c ≠ 61 := by
  have e := nm_fin ⟨c.toNat, c.toNat_lt⟩
  rw [ofNat_self] at e
  exact e h

theorem pt_no (c : UInt8) (h : pathB c = true) : c ≠ 59 ∧ c ≠ 32 ∧ c ≠ 9 := by
  have e := pt_fin ⟨c.toNat, c.toNat_lt⟩
  rw [ofNat_self] at e
  exact e h

theorem hb_no (c : UInt8) (h : (hostB c || c == 46) = true) : c ≠ 59 ∧ c ≠ 32 ∧ c ≠ 9 ∧ lowB c = c := by
  have e := hb_fin ⟨c.toNat, c.toNat_lt⟩
  rw [ofNat_self] at e
  exact e h

theorem dg_no (c : UInt8) (h : isDig c = true) : c ≠ 59 ∧ c ≠ 32 ∧ c ≠ 9 ∧ c ≠ 45 := by
  have e := dg_fin ⟨c.toNat, c.toNat_lt⟩
  rw [ofNat_self] at e
  exact e h

/-- what has no blank stays as it is -/
def noBl (l : List UInt8) : Prop := ∀ c ∈ l, c ≠ 59 ∧ c ≠ 32 ∧ c ≠ 9

theorem noBl_app {a b : List UInt8} (ha : noBl a) (hb : noBl b) : noBl (a ++ b) := by
  intro c hc
  rcases List.mem_append.1 hc with h | h
  · exact ha c h
  · exact hb c h

theorem noBl_cons {x : UInt8} {b : List UInt8} (ha : x ≠ 59 ∧ x ≠ 32 ∧ x ≠ 9) (hb : noBl b) : noBl (x :: b) := by
  intro c hc
  rcases List.mem_cons.1 hc with h | h
  · rw [h]; exact ha
  · exact hb c h

theorem noBl_semi {l : List UInt8} (h : noBl l) : (59 : UInt8) ∉ l := fun hm => (h 59 hm).1 rfl

theorem noBl_trimmed {l : List UInt8} (h : noBl l) : Ht.trimmed l = true := by
  unfold Ht.trimmed
  have h1 : l.head? ≠ some 32 := fun e => (h 32 (List.mem_of_head? e)).2.1 rfl
  have h2 : l.getLast? ≠ some 32 := fun e => (h 32 (List.mem_of_getLast? e)).2.1 rfl
  simp [h1, h2]

theorem trim_sp {l : List UInt8} (h : noBl l) : trimL (32 :: l) = l := trim_back l (fun c hc => (h c hc).2.2) (noBl_trimmed h)

theorem trim_no {l : List UInt8} (h : noBl l) : trimL l = l := by
  by_cases hv : l = []
  · subst hv; decide
  · have e : Lib.trimRightS l [32, 9] = l := by
      rw [Lib.trimRightS_take l [32, 9] l.length (Nat.le_refl _) (fun j b hj hb => by rw [List.getElem?_eq_none hj] at hb; cases hb) (fun b _ hb => ?_), List.take_length]
      have hm := h b (List.mem_of_getElem? hb)
      simp [hm.2.1, hm.2.2]
    unfold trimL Lib.trimS
    rw [e, Lib.trimLeftS_drop l [32, 9] 0 (by omega) (fun j b hj hb => by omega) (fun b hb => ?_), List.drop_zero]
    have hm := h b (List.mem_of_getElem? hb)
    simp [hm.2.1, hm.2.2]

theorem sAux_rows (c : UInt8) (rs : List (List UInt8)) : ∀ x, c ∉ x → (∀ y ∈ rs, c ∉ y) → sAux c [] (x ++ rs.flatMap fun y => c :: y) = x :: rs := by
  induction rs with
  | nil => intro x hx _; rw [List.flatMap_nil, List.append_nil, sAux_no c x [] hx, List.nil_append]
  | cons y rs ih =>
    intro x hx hr
    rw [List.flatMap_cons, List.cons_append, sAux_yes c _ x [] hx, List.nil_append, ih y (hr y List.mem_cons_self) fun z hz => hr z (List.mem_cons_of_mem _ hz)]

theorem parts_rows (rs : List (List UInt8)) (x : List UInt8) (h0 : x ≠ []) (hx : noBl x) (hr : ∀ y ∈ rs, noBl y) : partsOf (x ++ rs.flatMap fun y => 59 :: 32 :: y) = x :: rs := by
  have e : (rs.flatMap fun y => 59 :: 32 :: y) = (rs.map (32 :: ·)).flatMap fun y => 59 :: y := by rw [List.flatMap_map]
  have hs : (59 : UInt8) ∉ x := noBl_semi hx
  unfold partsOf splitL
  rw [if_neg (by simp [h0]), e, sAux_rows 59 _ x hs (fun y hy => ?_), List.map_cons, trim_no hx, List.map_map]
  · congr 1
    conv => rhs; rw [← List.map_id rs]
    apply List.map_congr_left
    intro y hy
    exact trim_sp (hr y hy)
  · obtain ⟨z, hz, rfl⟩ := List.mem_map.1 hy
    have := noBl_semi (hr z hz)
    intro hm
    rcases List.mem_cons.1 hm with h | h
    · cases h
    · exact this h

theorem nmL_noBl {n : List UInt8} (h : nmL n = true) : noBl n ∧ n ≠ [] ∧ (61 : UInt8) ∉ n := by
  unfold nmL at h
  simp only [Bool.and_eq_true, decide_eq_true_eq, List.all_eq_true] at h
  refine ⟨fun c hc => ?_, fun e => ?_, fun hm => (nm_no 61 (h.1 61 hm)).2.2.2 rfl⟩
  · have := nm_no c (h.1 c hc)
    exact ⟨this.1, this.2.1, this.2.2.1⟩
  · rw [e] at h
    simp at h

theorem vlL_noBl {v : List UInt8} (h : vlL v = true) : noBl v := by
  unfold vlL at h
  simp only [Bool.and_eq_true, decide_eq_true_eq, List.all_eq_true] at h
  exact fun c hc => vl_no c (h.1 c hc)

theorem pathL_noBl {p : List UInt8} (h : pathL p = true) : noBl p := by
  unfold pathL at h
  simp only [Bool.and_eq_true, List.all_eq_true] at h
  exact fun c hc => pt_no c (h.2 c hc)

theorem eqL_noBl {n v : List UInt8} (hn : noBl n) (hv : noBl v) : noBl (eqL (n, v)) := noBl_app hn (noBl_cons (by decide) hv)

theorem cutA_eq (n v : List UInt8) (h : (61 : UInt8) ∉ n) : cutA 61 (eqL (n, v)) = (n, v, true) := by
  unfold cutA eqL
  rw [cutL_yes 61 v n h]

/- a host's bytes -/

theorem sAux_mem (c : UInt8) (l : List UInt8) : ∀ cur x, x ∈ cur ∨ x ∈ l → x = c ∨ ∃ p ∈ sAux c cur l, x ∈ p := by
  induction l with
  | nil =>
    intro cur x h
    rcases h with h | h
    · exact .inr ⟨cur, by simp [sAux], h⟩
    · cases h
  | cons a l ih =>
    intro cur x h
    rw [sAux]
    by_cases ha : a = c
    · rw [if_pos ha]
      rcases h with h | h
      · exact .inr ⟨cur, List.mem_cons_self, h⟩
      · rcases List.mem_cons.1 h with h | h
        · exact .inl (h.trans ha)
        · rcases ih [] x (.inr h) with h | ⟨p, hp, hx⟩
          · exact .inl h
          · exact .inr ⟨p, List.mem_cons_of_mem _ hp, hx⟩
    · rw [if_neg ha]
      refine ih (cur ++ [a]) x ?_
      rcases h with h | h
      · exact .inl (List.mem_append_left _ h)
      · rcases List.mem_cons.1 h with h | h
        · exact .inl (by rw [h]; simp)
        · exact .inr h

theorem host_bytes {d : List UInt8} (h : hostL d = true) (c : UInt8) (hc : c ∈ d) : (hostB c || c == 46) = true := by
  unfold hostL at h
  simp only [Bool.and_eq_true, List.all_eq_true] at h
  have hne : d ≠ [] := fun e => by rw [e] at hc; cases hc
  have hs := h.1
  unfold splitL at hs
  rw [if_neg hne] at hs
  rcases sAux_mem 46 d [] c (.inr hc) with e | ⟨p, hp, hx⟩
  · rw [e]; simp
  · have := hs p hp
    unfold labelL at this
    simp only [Bool.and_eq_true, List.all_eq_true] at this
    rw [this.1 c hx]
    rfl

theorem host_noBl {d : List UInt8} (h : hostL d = true) : noBl d := fun c hc => by
  have := hb_no c (host_bytes h c hc)
  exact ⟨this.1, this.2.1, this.2.2.1⟩

theorem host_low {d : List UInt8} (h : hostL d = true) : lowL d = d := by
  unfold lowL
  conv => rhs; rw [← List.map_id d]
  apply List.map_congr_left
  intro c hc
  exact (hb_no c (host_bytes h c hc)).2.2.2

theorem host_head {d : List UInt8} (h : hostL d = true) : d.head? ≠ some 46 := by
  intro e
  unfold hostL at h
  cases d with
  | nil => cases e
  | cons x r =>
    simp only [List.head?_cons, Option.some.injEq] at e
    subst e
    have hs : (splitL 46 (46 :: r)) = [] :: sAux 46 [] r := by
      unfold splitL
      rw [if_neg (by simp), sAux, if_pos rfl]
    rw [hs, List.all_cons] at h
    have : labelL [] = false := by decide
    rw [this] at h
    simp at h

theorem host_drop {d : List UInt8} (h : hostL d = true) : lowL (dropDot d) = d := by
  unfold dropDot
  rw [if_neg (host_head h), host_low h]

theorem dom_self {d : List UInt8} (h : hostL d = true) : domL d d = true := by
  unfold domL
  rw [h]
  simp

/- a cookie -/

theorem ck_parts {c : CkL} (h : ckOk c = true) : nmL c.n = true ∧ vlL c.v = true ∧ hostL c.d = true ∧ pathL c.p = true ∧ -1 ≤ c.u ∧ c.u ≤ 999999999999 := by
  unfold ckOk at h
  simp only [Bool.and_eq_true, decide_eq_true_eq] at h
  exact ⟨h.1.1.1.1, h.1.1.1.2, h.1.1.2, h.1.2, h.2.1, h.2.2⟩

theorem itoa_nat (n : Int) (h : 0 ≤ n) : Lib.itoa n = Lib.decDigits n.toNat := by
  unfold Lib.itoa
  rw [if_neg (by omega)]

theorem age_noBl (n : Int) (h : 0 ≤ n) : noBl (Lib.itoa n) ∧ (Lib.itoa n).head? ≠ some 45 := by
  rw [itoa_nat n h]
  have hd := (val_dec n.toNat).2
  refine ⟨fun c hc => ?_, fun e => (dg_no 45 (hd 45 (List.mem_of_head? e))).2.2.2 rfl⟩
  have := dg_no c (hd c hc)
  exact ⟨this.1, this.2.1, this.2.2.1⟩

theorem rd_itoa (n : Int) (h : 0 ≤ n) (h2 : n ≤ 999999999999) : rdV (Lib.itoa n) = n := by
  rw [itoa_nat n h, rd_dec _ (by omega)]
  omega

/-- what is left of a cookie whose time is over: it is over now -/
def backC (c : CkL) (now : Int) : CkL := { c with u := if 0 ≤ c.u ∧ c.u < now then now else c.u }

theorem doPart_at (now : Int) (c : CkL) (k v : List UInt8) (hk : (61 : UInt8) ∉ k) : doPart now c (eqL (k, v)) = doAt now c (lowL k) v := by
  unfold doPart
  rw [cutA_eq k v hk]

theorem do_path (now : Int) (c : CkL) (v : List UInt8) (h : pathL v = true) : doPart now c (eqL (pathT, v)) = { c with p := v } := by
  rw [doPart_at now c pathT v (by decide)]
  unfold doAt
  rw [if_pos (by decide), if_pos h]

theorem do_dom (now : Int) (c : CkL) (v : List UInt8) (h : hostL v = true) : doPart now c (eqL (domT, v)) = { c with d := v, o := false } := by
  rw [doPart_at now c domT v (by decide)]
  unfold doAt
  rw [if_neg (by decide), if_pos (by decide), host_drop h]

theorem do_age (now : Int) (c : CkL) (n : Int) (h : 0 ≤ n) (h2 : n ≤ 999999999999) : doPart now c (eqL (ageT, Lib.itoa n)) = { c with u := now + n } := by
  rw [doPart_at now c ageT _ (by decide)]
  unfold doAt
  rw [if_neg (by decide), if_neg (by decide), if_pos (by decide), if_neg (age_noBl n h).2, rd_itoa n h h2, if_pos h]

theorem set_back (c : CkL) (now : Int) (h : ckOk c = true) (ht : timeB now = true) : getSet (setL c now) c.d now = some (backC c now) := by
  obtain ⟨hn, hv, hd, hp, hu1, hu2⟩ := ck_parts h
  have ht2 : 0 ≤ now ∧ now ≤ 999999999999 := by
    unfold timeB at ht
    simpa using ht
  obtain ⟨a1, a2, a3⟩ := nmL_noBl hn
  have b1 := vlL_noBl hv
  have hx := eqL_noBl a1 b1
  have hx0 : eqL (c.n, c.v) ≠ [] := by unfold eqL; simp
  have hP := eqL_noBl (show noBl pathT by unfold noBl; decide) (pathL_noBl hp)
  have hD := eqL_noBl (show noBl domT by unfold noBl; decide) (host_noBl hd)
  have hg : 0 ≤ ageL c.u now ∧ ageL c.u now ≤ 999999999999 := by unfold ageL; split <;> omega
  have hA := eqL_noBl (show noBl ageT by unfold noBl; decide) (age_noBl _ hg.1).1
  obtain ⟨rs, hrs, he⟩ : ∃ rs : List (List UInt8), rs = eqL (pathT, c.p) :: ((if c.o then [] else [eqL (domT, c.d)]) ++ (if c.u = -1 then [] else [eqL (ageT, Lib.itoa (ageL c.u now))])) ∧
      setL c now = eqL (c.n, c.v) ++ rs.flatMap fun y => 59 :: 32 :: y := by
    refine ⟨_, rfl, ?_⟩
    unfold setL
    cases c.o
    · by_cases hu : c.u = -1
      · rw [if_pos hu, if_pos hu]; simp [atL, eqL]
      · rw [if_neg hu, if_neg hu]; simp [atL, eqL]
    · by_cases hu : c.u = -1
      · rw [if_pos hu, if_pos hu]; simp [atL, eqL]
      · rw [if_neg hu, if_neg hu]; simp [atL, eqL]
  have hr : ∀ y ∈ rs, noBl y := by
    rw [hrs]
    intro y hy
    rcases List.mem_cons.1 hy with rfl | hy
    · exact hP
    · rcases List.mem_append.1 hy with hy | hy
      · cases ho : c.o with
        | true => rw [ho] at hy; simp at hy
        | false => rw [ho] at hy; simp at hy; rw [hy]; exact hD
      · by_cases hu : c.u = -1
        · rw [if_pos hu] at hy; cases hy
        · rw [if_neg hu] at hy
          rw [List.mem_singleton.1 hy]
          exact hA
  have hps : partsOf (setL c now) = eqL (c.n, c.v) :: rs := by rw [he, parts_rows rs _ hx0 hx hr]
  have hst : startC (eqL (c.n, c.v)) c.d = ⟨c.n, c.v, c.d, true, [47], -1⟩ := by unfold startC; rw [cutA_eq _ _ a3]
  have hfold : rs.foldl (doPart now) (startC (eqL (c.n, c.v)) c.d) = backC c now := by
    rw [hst, hrs, List.foldl_cons, do_path now _ c.p hp, List.foldl_append]
    obtain ⟨n, v, d, o, p, u⟩ := c
    simp only at hd hu1 hu2 hg ⊢
    have e1 : ∀ x : CkL, List.foldl (doPart now) x (if u = -1 then [] else [eqL (ageT, Lib.itoa (ageL u now))]) = if u = -1 then x else { x with u := now + ageL u now } := by
      intro x
      by_cases hu : u = -1
      · rw [if_pos hu, if_pos hu]; rfl
      · rw [if_neg hu, if_neg hu, List.foldl_cons, do_age now x _ hg.1 hg.2]; rfl
    have e2 : List.foldl (doPart now) (⟨n, v, d, true, p, -1⟩ : CkL) (if o = true then [] else [eqL (domT, d)]) = ⟨n, v, d, o, p, -1⟩ := by
      cases o with
      | true => rfl
      | false => rw [if_neg (by simp), List.foldl_cons, do_dom now _ d hd]; rfl
    rw [e2, e1]
    by_cases hu : u = -1
    · subst hu
      rw [if_pos rfl]
      have e3 : (if (0 : Int) ≤ -1 ∧ (-1 : Int) < now then now else -1) = -1 := if_neg (by omega)
      show (⟨n, v, d, o, p, -1⟩ : CkL) = ⟨n, v, d, o, p, if (0 : Int) ≤ -1 ∧ (-1 : Int) < now then now else -1⟩
      rw [e3]
    · rw [if_neg hu]
      have e3 : now + ageL u now = if 0 ≤ u ∧ u < now then now else u := by
        unfold ageL
        split <;> split <;> omega
      show (⟨n, v, d, o, p, now + ageL u now⟩ : CkL) = ⟨n, v, d, o, p, if 0 ≤ u ∧ u < now then now else u⟩
      rw [e3]
  have hok : ckOk (backC c now) = true := by
    unfold ckOk backC
    rw [hn, hv, hd, hp]
    simp only [Bool.true_and, Bool.and_eq_true, decide_eq_true_eq]
    split <;> omega
  unfold getSet
  rw [hps]
  simp only
  rw [hfold, if_pos]
  rw [ht, cutA_eq _ _ a3, hok, show (backC c now).d = c.d from rfl, dom_self hd]
  rfl

theorem doAt_until (now : Int) (c : CkL) (k v : List UInt8) (h : c.u = -1 ∨ now ≤ c.u) : (doAt now c k v).u = -1 ∨ now ≤ (doAt now c k v).u := by
  unfold doAt
  repeat' split
  all_goals first | exact h | exact .inr (Int.le_refl _) | (refine .inr ?_; show now ≤ now + rdV v; omega)

theorem fold_until (now : Int) (r : List (List UInt8)) : ∀ c : CkL, (c.u = -1 ∨ now ≤ c.u) → (r.foldl (doPart now) c).u = -1 ∨ now ≤ (r.foldl (doPart now) c).u := by
  induction r with
  | nil => intro c h; exact h
  | cons x r ih => intro c h; exact ih _ (doAt_until now c _ _ h)

theorem told_is (s host : List UInt8) (now : Int) (k : CkL) (h : getSet s host now = some k) : ckOk k = true ∧ domL host k.d = true ∧ (k.u = -1 ∨ now ≤ k.u) := by
  unfold getSet at h
  split at h
  · cases h
  · rename_i x r _
    split at h
    · rename_i hc
      simp only [Bool.and_eq_true] at hc
      cases h
      exact ⟨hc.1.2, hc.2, fold_until now r _ (.inl rfl)⟩
    · cases h

/- a Cookie header -/

theorem onePair_eq (p : PairL) (h1 : nmL p.1 = true) (h2 : vlL p.2 = true) : onePair (eqL p) = some p := by
  unfold onePair
  rw [show eqL p = eqL (p.1, p.2) from rfl, cutA_eq _ _ (nmL_noBl h1).2.2]
  simp [h1, h2]

theorem back_all (l : List PairL) (h : ∀ p ∈ l, nmL p.1 = true ∧ vlL p.2 = true) : List.filterMap (onePair ∘ eqL) l = l := by
  induction l with
  | nil => rfl
  | cons q r ih =>
    have hq := h q List.mem_cons_self
    have e : (onePair ∘ eqL) q = some q := onePair_eq q hq.1 hq.2
    rw [List.filterMap_cons, e, ih fun p hp => h p (List.mem_cons_of_mem _ hp)]

theorem cookies_back (l : List PairL) (h : ∀ p ∈ l, nmL p.1 = true ∧ vlL p.2 = true) (hn : l.length ≤ 30) : getCk (putCk l) = l := by
  cases l with
  | nil => decide
  | cons p r =>
    have hb : ∀ q ∈ p :: r, noBl (eqL q) := fun q hq => eqL_noBl (nmL_noBl (h q hq).1).1 (vlL_noBl (h q hq).2)
    have e : putCk (p :: r) = eqL p ++ (r.map eqL).flatMap fun y => 59 :: 32 :: y := by
      rw [putCk, List.flatMap_map]
    have hp : partsOf (putCk (p :: r)) = (p :: r).map eqL := by
      rw [e, parts_rows (r.map eqL) (eqL p) (by unfold eqL; simp) (hb p List.mem_cons_self) (fun y hy => ?_)]
      · rfl
      · obtain ⟨q, hq, rfl⟩ := List.mem_map.1 hy
        exact hb q (List.mem_cons_of_mem _ hq)
    unfold getCk
    rw [hp, List.filterMap_map]
    rw [back_all _ h, List.take_of_length_le hn]

theorem getCk_is (s : List UInt8) : (getCk s).length ≤ 30 ∧ ∀ p ∈ getCk s, nmL p.1 = true ∧ vlL p.2 = true := by
  unfold getCk
  refine ⟨by rw [List.length_take]; omega, fun p hp => ?_⟩
  have hm := List.mem_of_mem_take hp
  obtain ⟨x, _, hx⟩ := List.mem_filterMap.1 hm
  unfold onePair at hx
  split at hx
  · rename_i hc
    simp only [Bool.and_eq_true] at hc
    cases hx
    exact ⟨hc.1.2, hc.2⟩
  · cases hx

theorem cookies_again (s : List UInt8) : getCk (putCk (getCk s)) = getCk s := cookies_back _ (getCk_is s).2 (getCk_is s).1

end Ck
end Go.Proofs.YtdgfiebehnfpgaaGreatDoor
