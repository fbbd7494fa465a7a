/- CONTRACTS: what a right request, a right answer is: the model's. -/
import Derived.Test.YtonpalaopnfffaaGreatDoorHt
import Derived.Test.YtonpalaopnfffaaGreatDoorPairs
import Derived.Test.YtonpalaopnfffaaGreatDoorStep
namespace Go.Proofs.YtonpalaopnfffaaGreatDoor
set_option linter.unusedVariables false
set_option maxRecDepth 4000
open Go.ChangeShapes Go.WideShapes Go.ChangeAt Go.RowKit

namespace Ht

theorem hk_fin : ∀ n : Fin 256, hkB (UInt8.ofNat n.val) = true → UInt8.ofNat n.val ≠ 13 ∧ UInt8.ofNat n.val ≠ 58 := by decide +kernel
theorem pr_fin : ∀ n : Fin 256, prB (UInt8.ofNat n.val) = true → UInt8.ofNat n.val ≠ 13 ∧ UInt8.ofNat n.val ≠ 9 := by decide +kernel
theorem path_fin : ∀ n : Fin 256, pathB (UInt8.ofNat n.val) = true → UInt8.ofNat n.val ≠ 13 ∧ UInt8.ofNat n.val ≠ 32 ∧ UInt8.ofNat n.val ≠ 63 := by decide +kernel
theorem safe_fin : ∀ n : Fin 256, safeB (UInt8.ofNat n.val) = true → UInt8.ofNat n.val ≠ 13 ∧ UInt8.ofNat n.val ≠ 32 := by decide +kernel
theorem dig_fin : ∀ n : Fin 256, isDig (UInt8.ofNat n.val) = true → UInt8.ofNat n.val ≠ 13 ∧ UInt8.ofNat n.val ≠ 32 ∧ UInt8.ofNat n.val ≠ 9 := by decide +kernel

theorem ofNat_self (c : UInt8) : UInt8.ofNat (⟨c.toNat, c.toNat_lt⟩ : Fin 256).val = c := by simp

theorem hk_no (c : UInt8) (h : hkB c = true) : c ≠ 13 ∧ c ≠ 58 := by
  have := hk_fin ⟨c.toNat, c.toNat_lt⟩
  rw [ofNat_self] at this
  exact this h

theorem pr_no (c : UInt8) (h : prB c = true) : c ≠ 13 ∧ c ≠ 9 := by
  have := pr_fin ⟨c.toNat, c.toNat_lt⟩
  rw [ofNat_self] at this
  exact this h

theorem path_no (c : UInt8) (h : pathB c = true) : c ≠ 13 ∧ c ≠ 32 ∧ c ≠ 63 := by
  have := path_fin ⟨c.toNat, c.toNat_lt⟩
  rw [ofNat_self] at this
  exact this h

theorem safe_ctl (c : UInt8) (h : safeB c = true) : c ≠ 13 ∧ c ≠ 32 := by
  have := safe_fin ⟨c.toNat, c.toNat_lt⟩
  rw [ofNat_self] at this
  exact this h

theorem dig_no (c : UInt8) (h : isDig c = true) : c ≠ 13 ∧ c ≠ 32 ∧ c ≠ 9 := by
  have := dig_fin ⟨c.toNat, c.toNat_lt⟩
  rw [ofNat_self] at this
  exact this h

theorem pctL_ctl (s : List UInt8) (c : UInt8) (h : c ∈ pctL s) : c ≠ 13 ∧ c ≠ 32 := by
  unfold pctL at h
  rw [List.mem_flatMap] at h
  obtain ⟨b, _, hb⟩ := h
  rcases pctB_safe b c hb with h | h
  · subst h; decide
  · exact safe_ctl c h

theorem oneL_ctl (p : PairL) (c : UInt8) (h : c ∈ oneL p) : c ≠ 13 ∧ c ≠ 32 := by
  unfold oneL at h
  rw [List.mem_append, List.mem_cons] at h
  rcases h with h | rfl | h
  · exact pctL_ctl _ _ h
  · decide
  · exact pctL_ctl _ _ h

theorem putL_ctl (l : List PairL) (c : UInt8) (h : c ∈ putL l) : c ≠ 13 ∧ c ≠ 32 := by
  cases l with
  | nil => simp [putL] at h
  | cons p r =>
    simp only [putL, List.mem_append, List.mem_flatMap] at h
    rcases h with h | ⟨q, _, h⟩
    · exact oneL_ctl _ _ h
    · rw [List.mem_cons] at h
      rcases h with rfl | h
      · decide
      · exact oneL_ctl _ _ h

theorem head_parts {p : PairL} (h : headL p = true) : (∀ c ∈ p.1, hkB c = true) ∧ 1 ≤ p.1.length ∧ p.1.length ≤ 30 ∧ isLen p.1 = false ∧ p.2.length ≤ 900 ∧ (∀ c ∈ p.2, prB c = true) ∧ trimmed p.2 = true := by
  unfold headL keyL valueL at h
  simp only [Bool.and_eq_true, decide_eq_true_eq, List.all_eq_true, Bool.not_eq_true'] at h
  exact ⟨h.1.1.1, h.1.1.2.1, h.1.1.2.2, h.1.2, h.2.1.1, h.2.1.2, h.2.2⟩

theorem line_no {p : PairL} (h : headL p = true) : (13 : UInt8) ∉ lineL p ∧ lineL p ≠ [] := by
  obtain ⟨h1, _, _, _, _, h2, _⟩ := head_parts h
  refine ⟨fun hm => ?_, by unfold lineL; simp⟩
  unfold lineL at hm
  rw [List.mem_append, List.mem_cons, List.mem_cons] at hm
  rcases hm with hm | hm | hm | hm
  · exact (hk_no _ (h1 _ hm)).1 rfl
  · exact absurd hm (by decide)
  · exact absurd hm (by decide)
  · exact (pr_no _ (h2 _ hm)).1 rfl

theorem val_dec (n : Nat) : valL (Lib.decDigits n) = n ∧ ∀ c ∈ Lib.decDigits n, isDig c = true := by
  induction n using Nat.strongRecOn with
  | _ n ih =>
    by_cases h : n < 10
    · rw [Lib.decDigits, dif_pos h]
      refine ⟨?_, ?_⟩
      · simp [valL]; omega
      · intro c hc
        rw [List.mem_singleton] at hc
        subst hc
        have : (UInt8.ofNat (48 + n)).toNat = 48 + n := by rw [UInt8.toNat_ofNat']; omega
        simp only [isDig, decide_eq_true_eq, this]
        omega
    · obtain ⟨i1, i2⟩ := ih (n / 10) (by omega)
      have : (UInt8.ofNat (48 + n % 10)).toNat = 48 + n % 10 := by rw [UInt8.toNat_ofNat']; omega
      rw [Lib.decDigits, dif_neg h]
      refine ⟨?_, ?_⟩
      · rw [val_snoc, i1, this]; omega
      · intro c hc
        rw [List.mem_append] at hc
        rcases hc with hc | hc
        · exact i2 c hc
        · rw [List.mem_singleton] at hc
          subst hc
          simp only [isDig, decide_eq_true_eq, this]
          omega

theorem dec_len (k m : Nat) (hm : 1 ≤ m) (h : k < 10 ^ m) : (Lib.decDigits k).length ≤ m := by
  rw [Lib.decDigits_length]
  by_cases hk : k = 0
  · subst hk; rw [Lib.nDigits_small (by omega)]; omega
  · have := dig_bound k (by omega)
    by_cases h2 : Lib.nDigits k ≤ m
    · exact h2
    · exfalso
      have h3 : 10 ^ m ≤ 10 ^ (Lib.nDigits k - 1) := Nat.pow_le_pow_right (by omega) (by omega)
      omega

theorem dec_ne (k : Nat) : Lib.decDigits k ≠ [] := by
  intro h
  have h1 := congrArg List.length h
  rw [Lib.decDigits_length] at h1
  have := Lib.nDigits_pos k
  simp at h1
  omega

theorem rd_dec (k : Nat) (h : k < 1000000000000) : rdV (Lib.decDigits k) = k := by
  obtain ⟨v1, v2⟩ := val_dec k
  rw [rd_yes _ (dec_len k 12 (by omega) h) (dec_ne k) v2 (by rw [v1]), v1]

theorem len_no (b : List UInt8) : (13 : UInt8) ∉ lenLine b ∧ lenLine b ≠ [] := by
  refine ⟨fun hm => ?_, by unfold lenLine; simp⟩
  unfold lenLine at hm
  rw [List.mem_append, List.mem_cons, List.mem_cons] at hm
  rcases hm with hm | hm | hm | hm
  · exact absurd hm (by decide)
  · exact absurd hm (by decide)
  · exact absurd hm (by decide)
  · exact (dig_no _ ((val_dec _).2 _ hm)).1 rfl

theorem lines_no {h : List PairL} (b : List UInt8) (hh : h.all headL = true) : ∀ x ∈ linesOf h b, (13 : UInt8) ∉ x ∧ x ≠ [] := by
  intro x hx
  unfold linesOf at hx
  rw [List.mem_append, List.mem_map] at hx
  rcases hx with ⟨p, hp, rfl⟩ | hx
  · rw [List.all_eq_true] at hh
    exact line_no (hh p hp)
  · split at hx
    · simp at hx
    · rw [List.mem_singleton] at hx
      subst hx
      exact len_no b

/-- blanks at both ends: one ahead, none behind -/
theorem trim_back (v : List UInt8) (h1 : ∀ c ∈ v, c ≠ 9) (h2 : trimmed v = true) : trimL (32 :: v) = v := by
  by_cases hv : v = []
  · subst hv; decide
  · unfold trimmed at h2
    have h3 : v.head? ≠ some 32 ∧ v.getLast? ≠ some 32 := by simpa [hv] using h2
    have e : Lib.trimRightS (32 :: v) [32, 9] = 32 :: v := by
      rw [Lib.trimRightS_take (32 :: v) [32, 9] (32 :: v).length (Nat.le_refl _) (fun j b hj hb => by rw [List.getElem?_eq_none hj] at hb; cases hb) (fun b _ hb => ?_), List.take_length]
      have hl : v.getLast? = some b := by
        rw [List.getLast?_eq_getElem?]
        have hpos : 0 < v.length := List.length_pos_iff.2 hv
        have e2 : (32 :: v).length - 1 = (v.length - 1) + 1 := by simp; omega
        rw [e2, List.getElem?_cons_succ] at hb
        exact hb
      have hb9 : b ≠ 9 := h1 b (List.mem_of_getLast? hl)
      have hb32 : b ≠ 32 := fun e => h3.2 (by rw [hl, e])
      simp [hb9, hb32]
    unfold trimL Lib.trimS
    rw [e, Lib.trimLeftS_drop (32 :: v) [32, 9] 1 (by simp) (fun j b hj hb => ?_) (fun b hb => ?_)]
    · rfl
    · obtain rfl : j = 0 := by omega
      simp at hb
      subst hb
      decide
    · have hh : v.head? = some b := by
        rw [List.head?_eq_getElem?]
        simpa using hb
      have hb9 : b ≠ 9 := h1 b (List.mem_of_head? hh)
      have hb32 : b ≠ 32 := fun e => h3.1 (by rw [hh, e])
      simp [hb9, hb32]

theorem take_heads (r : List (List UInt8)) (t : Option (List UInt8)) (h : List PairL) : ∀ hs, h.all headL = true → takeA hs t (h.map lineL ++ r) = takeA (hs ++ h) t r := by
  induction h with
  | nil => intro hs _; simp
  | cons p h ih =>
    intro hs hh
    rw [List.all_cons, Bool.and_eq_true] at hh
    obtain ⟨h1, _, _, h2, _, h3, h4⟩ := head_parts hh.1
    have hc : cutL 58 (lineL p) = some (p.1, 32 :: p.2) := cutL_yes 58 _ _ (fun hm => (hk_no _ (h1 _ hm)).2 rfl)
    have ht := trim_back p.2 (fun c hc => (pr_no c (h3 c hc)).2) h4
    rw [List.map_cons, List.cons_append, takeA, hc]
    simp only [h2, ht]
    rw [if_neg (by simp), ih _ hh.2]
    simp

theorem take_lines (h : List PairL) (b : List UInt8) (hh : h.all headL = true) : takeA [] none (linesOf h b) = (h, if b = [] then none else some (Lib.decDigits b.length), true) := by
  unfold linesOf
  rw [take_heads _ _ _ _ hh, List.nil_append]
  by_cases hb : b = []
  · rw [if_pos hb, if_pos hb]; rfl
  · rw [if_neg hb, if_neg hb]
    have hc : cutL 58 (lenLine b) = some (lenT, 32 :: Lib.decDigits b.length) := cutL_yes 58 _ _ (by decide)
    have ht : trimL (32 :: Lib.decDigits b.length) = Lib.decDigits b.length := by
      have hd := (val_dec b.length).2
      refine trim_back _ (fun c hc => (dig_no c (hd c hc)).2.2) ?_
      unfold trimmed
      have h1 : (Lib.decDigits b.length).head? ≠ some 32 := fun e => (dig_no _ (hd _ (List.mem_of_head? e))).2.1 rfl
      have h2 : (Lib.decDigits b.length).getLast? ≠ some 32 := fun e => (dig_no _ (hd _ (List.mem_of_getLast? e))).2.1 rfl
      simp [h1, h2]
    have hl : isLen lenT = true := by decide
    rw [takeA, hc]
    simp only [hl, ht]
    rfl

theorem len_back (b : List UInt8) (h : b.length ≤ 4000) : bodyOk b (if b = [] then none else some (Lib.decDigits b.length)) = true := by
  unfold bodyOk
  by_cases hb : b = []
  · subst hb; rfl
  · rw [if_neg hb]
    have e : lenOf (some (Lib.decDigits b.length)) = (b.length : Int) := rd_dec _ (by omega)
    rw [decide_eq_true e.symm, decide_eq_true h]
    rfl

theorem scan_msg (f : List UInt8) (h : List PairL) (b : List UInt8) (hf : (13 : UInt8) ∉ f) (hf2 : f ≠ []) (hh : h.all headL = true) : scanL (f ++ 13 :: 10 :: restL h b) = some (f :: linesOf h b, b) := by
  unfold scanL restL
  rw [scan_line [] f _ [] hf, List.nil_append, if_neg hf2, List.nil_append, scan_lines b _ _ (lines_no b hh)]
  simp

theorem heads_all {h : List PairL} (hh : headsL h = true) : h.all headL = true ∧ h.length ≤ 20 := by
  unfold headsL at hh
  simp only [Bool.and_eq_true, decide_eq_true_eq] at hh
  exact ⟨hh.2, hh.1⟩

theorem method_cases {m : List UInt8} (h : methodL m = true) : m = getT ∨ m = postT := by
  unfold methodL at h
  simpa using h

theorem target_no (r : ReqL) (hp : pathL r.p = true) : ∀ c ∈ targetL r, c ≠ 13 ∧ c ≠ 32 := by
  intro c hc
  unfold pathL at hp
  simp only [Bool.and_eq_true, List.all_eq_true] at hp
  unfold targetL at hc
  rw [List.mem_append] at hc
  rcases hc with hc | hc
  · exact ⟨(path_no c (hp.2 c hc)).1, (path_no c (hp.2 c hc)).2.1⟩
  · split at hc
    · simp at hc
    · rw [List.mem_cons] at hc
      rcases hc with rfl | hc
      · decide
      · exact putL_ctl _ _ hc

theorem first_no (r : ReqL) (hm : methodL r.m = true) (hp : pathL r.p = true) : (13 : UInt8) ∉ firstL r ∧ firstL r ≠ [] := by
  refine ⟨fun h => ?_, by unfold firstL; simp⟩
  unfold firstL at h
  rw [List.mem_append, List.mem_cons, List.mem_append, List.mem_cons] at h
  rcases h with h | h | h | h | h
  · rcases method_cases hm with e | e <;> rw [e] at h <;> revert h <;> decide
  · revert h; decide
  · exact (target_no r hp _ h).1 rfl
  · revert h; decide
  · revert h; decide

theorem readF_first (r : ReqL) (hm : methodL r.m = true) (hp : pathL r.p = true) : readF (firstL r) = some (r.m, targetL r) := by
  have h1 : (32 : UInt8) ∉ r.m := by rcases method_cases hm with e | e <;> rw [e] <;> decide
  have h2 : (32 : UInt8) ∉ targetL r := fun h => (target_no r hp _ h).2 rfl
  have e : splitL 32 (firstL r) = [r.m, targetL r, protoT] := by
    unfold splitL
    rw [if_neg (first_no r hm hp).2]
    unfold firstL
    rw [sAux_over 32 _ _ [] h1, sAux_over 32 _ _ [] h2, sAux_last 32 _ [] (by decide)]
    simp
  unfold readF
  rw [e]
  simp only
  rw [if_pos ⟨hm, trivial⟩]

theorem readT_target (r : ReqL) (hp : pathL r.p = true) (hq : r.q.length ≤ 30) : readT (targetL r) = some (r.p, r.q) := by
  have hp' := hp
  unfold pathL at hp'
  simp only [Bool.and_eq_true, List.all_eq_true] at hp'
  have h63 : (63 : UInt8) ∉ r.p := fun h => (path_no _ (hp'.2 _ h)).2.2 rfl
  have e : targetOf (targetL r) = (r.p, putL r.q) := by
    unfold targetOf targetL
    by_cases h0 : r.q = []
    · rw [if_pos h0, List.append_nil, cutL_no 63 _ h63, h0]
      rfl
    · rw [if_neg h0, cutL_yes 63 _ _ h63]
  unfold readT
  rw [e]
  simp only
  rw [put_back _ hq]
  simp only
  rw [if_pos hp]

theorem req_parts {r : ReqL} (h : reqOk r = true) : methodL r.m = true ∧ pathL r.p = true ∧ r.q.length ≤ 30 ∧ headsL r.h = true ∧ r.b.length ≤ 4000 := by
  unfold reqOk at h
  simp only [Bool.and_eq_true, decide_eq_true_eq] at h
  exact ⟨h.1.1.1.1, h.1.1.1.2, h.1.1.2, h.1.2, h.2⟩

theorem resp_parts {r : RespL} (h : respOk r = true) : 200 ≤ r.c ∧ r.c ≤ 599 ∧ headsL r.h = true ∧ r.b.length ≤ 4000 := by
  unfold respOk at h
  simp only [Bool.and_eq_true, decide_eq_true_eq] at h
  exact ⟨h.1.1.1, h.1.1.2, h.1.2, h.2⟩

/-- a request comes back from its bytes -/
theorem get_put (r : ReqL) (h : reqOk r = true) : getReq (putReq r) = if 8000 < (putReq r).length then (zeroR, 5) else (r, 0) := by
  obtain ⟨hm, hp, hq, hh, hb⟩ := req_parts h
  have ha := (heads_all hh).1
  have hf := first_no r hm hp
  unfold getReq
  by_cases hl : 8000 < (putReq r).length
  · rw [if_pos hl, if_pos hl]
  · rw [if_neg hl, if_neg hl]
    unfold putReq
    rw [if_pos h, scan_msg _ _ _ hf.1 hf.2 ha]
    simp only [readR]
    rw [readF_first r hm hp]
    simp only
    rw [readT_target r hp hq]
    simp only
    unfold readH
    rw [take_lines _ _ ha]
    simp only
    rw [if_pos ⟨trivial, hh⟩]
    simp only
    rw [len_back _ hb]
    rfl

theorem itoa_code (c : Int) (h1 : 200 ≤ c) (h2 : c ≤ 599) : Lib.itoa c = Lib.decDigits c.toNat ∧ (Lib.decDigits c.toNat).length = 3 ∧ rdV (Lib.itoa c) = c := by
  have e : Lib.itoa c = Lib.decDigits c.toNat := by unfold Lib.itoa; rw [if_neg (by omega)]
  refine ⟨e, ?_, ?_⟩
  · have h := dec_len c.toNat 3 (by omega) (by omega)
    have h3 : ¬ (Lib.decDigits c.toNat).length ≤ 2 := by
      intro hle
      have := val_lt _ (val_dec c.toNat).2
      rw [(val_dec c.toNat).1] at this
      have h4 : 10 ^ (Lib.decDigits c.toNat).length ≤ 10 ^ 2 := Nat.pow_le_pow_right (by omega) hle
      omega
    omega
  · rw [e, rd_dec _ (by omega)]
    omega

theorem firstA_no (r : RespL) (h1 : 200 ≤ r.c) (h2 : r.c ≤ 599) : (13 : UInt8) ∉ firstA r ∧ firstA r ≠ [] := by
  refine ⟨fun h => ?_, by unfold firstA; simp⟩
  unfold firstA at h
  rw [(itoa_code r.c h1 h2).1, List.mem_append, List.mem_cons] at h
  rcases h with h | h | h
  · revert h; decide
  · revert h; decide
  · exact (dig_no _ ((val_dec _).2 _ h)).1 rfl

theorem firstA_code (r : RespL) (h1 : 200 ≤ r.c) (h2 : r.c ≤ 599) : Lib.trimPrefix (firstA r) (protoT ++ [32]) = Lib.itoa r.c ∧ (firstA r).length = 12 ∧ (firstA r).drop 9 = Lib.itoa r.c := by
  have e : firstA r = (protoT ++ [32]) ++ Lib.itoa r.c := by unfold firstA; simp
  have hd : (firstA r).drop 9 = Lib.itoa r.c := by rw [e]; rfl
  refine ⟨?_, ?_, hd⟩
  · unfold Lib.trimPrefix
    have hp : Lib.hasPrefix (firstA r) (protoT ++ [32]) = true := by
      unfold Lib.hasPrefix
      rw [List.isPrefixOf_iff_prefix, e]
      exact List.prefix_append _ _
    rw [if_pos hp]
    exact hd
  · rw [e, (itoa_code r.c h1 h2).1, List.length_append, (itoa_code r.c h1 h2).2.1]
    rfl

theorem scan_put (r : RespL) (h : respOk r = true) : scanL (putResp r) = some (firstA r :: linesOf r.h r.b, r.b) := by
  obtain ⟨h1, h2, hh, hb⟩ := resp_parts h
  have hf := firstA_no r h1 h2
  unfold putResp
  rw [if_pos h, scan_msg _ _ _ hf.1 hf.2 (heads_all hh).1]

theorem mk_put (r : RespL) (h : respOk r = true) : mkResp (firstA r) (linesOf r.h r.b) r.b = r := by
  obtain ⟨h1, h2, hh, hb⟩ := resp_parts h
  unfold mkResp
  rw [(firstA_code r h1 h2).1, (itoa_code r.c h1 h2).2.2, take_lines _ _ (heads_all hh).1]

/-- an answer comes back from its bytes -/
theorem resp_put (r : RespL) (h : respOk r = true) : getResp (putResp r) = some r := by
  unfold getResp
  rw [scan_put r h]
  simp only
  rw [mk_put r h, if_pos rfl]

theorem scan_nil : scanL [] = none := rfl

/-- bytes that an answer tells are its -/
theorem resp_is (s : List UInt8) (r : RespL) (h : getResp s = some r) : respOk r = true ∧ putResp r = s := by
  have hs : s ≠ [] := by
    intro e
    subst e
    unfold getResp at h
    rw [scan_nil] at h
    cases h
  have hp : putResp r = s := by
    unfold getResp at h
    split at h
    · cases h
    · split at h
      · cases h
      · split at h
        · rename_i hp
          simp only [Option.some.injEq] at h
          rw [← h]
          exact hp
        · cases h
  refine ⟨?_, hp⟩
  by_cases ho : respOk r = true
  · exact ho
  · unfold putResp at hp
    rw [if_neg ho] at hp
    exact absurd hp.symm hs

theorem lines_le (n : Nat) (ls : List (List UInt8)) (h : ∀ x ∈ ls, x.length ≤ n) : (ls.flatMap (fun x => x ++ [13, 10])).length ≤ ls.length * (n + 2) := by
  induction ls with
  | nil => simp
  | cons x ls ih =>
    have h1 := h x List.mem_cons_self
    have h2 := ih fun y hy => h y (List.mem_cons_of_mem _ hy)
    simp only [List.flatMap_cons, List.length_append, List.length_cons, List.length_nil]
    have : (ls.length + 1) * (n + 2) = ls.length * (n + 2) + (n + 2) := Nat.succ_mul _ _
    omega

theorem rest_le {h : List PairL} {b : List UInt8} (hh : headsL h = true) (hb : b.length ≤ 4000) : (restL h b).length ≤ 24000 := by
  obtain ⟨ha, hl⟩ := heads_all hh
  have h1 : ∀ x ∈ linesOf h b, x.length ≤ 932 := by
    intro x hx
    unfold linesOf at hx
    rw [List.mem_append, List.mem_map] at hx
    rcases hx with ⟨p, hp, rfl⟩ | hx
    · rw [List.all_eq_true] at ha
      obtain ⟨_, _, q1, _, q2, _⟩ := head_parts (ha p hp)
      unfold lineL
      simp
      omega
    · split at hx
      · simp at hx
      · rw [List.mem_singleton] at hx
        subst hx
        have := dec_len b.length 4 (by omega) (by omega)
        unfold lenLine lenT
        simp
        omega
  have h2 : (linesOf h b).length ≤ 21 := by
    unfold linesOf
    split <;> simp <;> omega
  have h3 := lines_le 932 _ h1
  unfold restL
  simp only [List.length_append, List.length_cons]
  have : (linesOf h b).length * (932 + 2) ≤ 21 * 934 := Nat.mul_le_mul_right _ h2
  omega

/-- what the model asks first of bytes that tell an answer -/
theorem resp_form (s : List UInt8) (r : RespL) (h : getResp s = some r) : ∃ f hs, scanL s = some (f :: hs, r.b) ∧ f.length = 12 ∧ s.length ≤ 40000 ∧ (takeA [] none hs).2.2 = true ∧ (⟨rdV (f.drop 9), (takeA [] none hs).1, r.b⟩ : RespL) = r := by
  obtain ⟨ho, hp⟩ := resp_is s r h
  obtain ⟨h1, h2, hh, hb⟩ := resp_parts ho
  have hc := firstA_code r h1 h2
  have hlen : s.length ≤ 40000 := by
    rw [← hp]
    unfold putResp
    rw [if_pos ho]
    have := rest_le hh hb
    simp [hc.2.1]
    omega
  refine ⟨firstA r, linesOf r.h r.b, by rw [← hp]; exact scan_put r ho, hc.2.1, hlen, by rw [take_lines _ _ (heads_all hh).1], ?_⟩
  rw [hc.2.2, (itoa_code r.c h1 h2).2.2, take_lines _ _ (heads_all hh).1]

theorem getL_count (s : List UInt8) (L : List PairL) (h : getL s = some L) : L.length ≤ 30 := by
  have hA : ∀ (ps : List (List UInt8)) (acc L : List PairL), getA acc ps = some L → L.length = acc.length + ps.length := by
    intro ps
    induction ps with
    | nil => intro acc L h; simp [getA] at h; subst h; simp
    | cons p ps ih =>
      intro acc L h
      rw [getA] at h
      split at h
      · cases h
      · have := ih _ _ h
        simp at this ⊢
        omega
  unfold getL at h
  split at h
  · cases h
  · have := hA _ _ _ h
    simp at this
    omega

/-- the code of a request, and what is read where it is 0 -/
theorem get_cases (s : List UInt8) : ((getReq s).2 ≠ 0 ∧ (getReq s).1 = zeroR) ∨ ((getReq s).2 = 0 ∧ reqOk (getReq s).1 = true) := by
  unfold getReq
  split
  · exact .inl ⟨by decide, rfl⟩
  · split
    · exact .inl ⟨by decide, rfl⟩
    · rename_i ls b _
      unfold readR
      split
      · exact .inl ⟨by decide, rfl⟩
      · split
        · exact .inl ⟨by decide, rfl⟩
        · rename_i m t hF
          split
          · exact .inl ⟨by decide, rfl⟩
          · rename_i p q hT
            split
            · exact .inl ⟨by decide, rfl⟩
            · rename_i h n hH
              split
              · rename_i hB
                refine .inr ⟨rfl, ?_⟩
                have hm : methodL m = true := by
                  unfold readF at hF
                  split at hF
                  · split at hF
                    · rename_i hc
                      simp only [Option.some.injEq, Prod.mk.injEq] at hF
                      rw [← hF.1]
                      exact hc.1
                    · cases hF
                  · cases hF
                have hpq : pathL p = true ∧ q.length ≤ 30 := by
                  unfold readT at hT
                  split at hT
                  · cases hT
                  · rename_i q' hq'
                    split at hT
                    · rename_i hc
                      simp only [Option.some.injEq, Prod.mk.injEq] at hT
                      rw [← hT.1, ← hT.2]
                      exact ⟨hc, getL_count _ _ hq'⟩
                    · cases hT
                have hh : headsL h = true := by
                  unfold readH at hH
                  split at hH
                  · rename_i hc
                    simp only [Option.some.injEq, Prod.mk.injEq] at hH
                    rw [← hH.1]
                    exact hc.2
                  · cases hH
                have hb : b.length ≤ 4000 := by
                  unfold bodyOk at hB
                  simp only [Bool.and_eq_true, decide_eq_true_eq] at hB
                  exact hB.2
                unfold reqOk
                simp [hm, hpq.1, hpq.2, hh, hb]
              · exact .inl ⟨by decide, rfl⟩

end Ht
end Go.Proofs.YtonpalaopnfffaaGreatDoor

namespace Go.Proofs.YtonpalaopnfffaaGreatDoor
set_option linter.unusedVariables false
set_option maxRecDepth 4000
open Go.ChangeShapes Go.WideShapes Go.ChangeAt Go.RowKit
open Go.ChangeMaps (open_string shut_string)

namespace Ht

theorem path_parts (s : ByteArray) : pathL s.data.toList = (decide (s.size ≤ 61) && (s.data.toList.head? == some 47) && s.data.toList.all pathB) := by
  unfold pathL
  rw [data_length]

theorem head_at (s : ByteArray) (h : 0 < s.size) : s.data.toList.head? = some s[0] := by
  have e := drop_cons s 0 h
  rw [List.drop_zero] at e
  rw [e]
  rfl

theorem pathB_int (c : UInt8) : pathB c = (letterB c || digitB c || (((c.toNat : Nat) : Int) == 45) || (((c.toNat : Nat) : Int) == 95) || (((c.toNat : Nat) : Int) == 46) || (((c.toNat : Nat) : Int) == 47)) := by
  unfold pathB
  rw [byte_eq c 45, byte_eq c 95, byte_eq c 46, byte_eq c 47]
  rfl

theorem key_parts (s : ByteArray) : keyL s.data.toList = (s.data.toList.all hkB && (decide (1 ≤ s.size) && decide (s.size ≤ 30)) && !(lowL s.data.toList == lenLow)) := by
  unfold keyL
  rw [data_length]

theorem low_lit (l : List UInt8) : ((txt (lowL l)).toList == [99, 111, 110, 116, 101, 110, 116, 45, 108, 101, 110, 103, 116, 104]) = (lowL l == lenLow) := by
  rw [Lib.toList_data, txt_toList]
  rfl

theorem trimmed_parts (s : ByteArray) (h : 0 < s.size) : trimmed s.data.toList = (!(((s[0].toNat : Nat) : Int) == 32) && !(((s[s.size - 1].toNat : Nat) : Int) == 32)) := by
  have hne : (s.data.toList == []) = false := by
    rw [Bool.eq_false_iff]
    intro e
    have e2 : s.data.toList.length = 0 := by rw [eq_of_beq e]; rfl
    rw [data_length] at e2
    omega
  have hl : s.data.toList.getLast? = some s[s.size - 1] := by
    rw [List.getLast?_eq_getElem?, data_length, List.getElem?_eq_getElem (by rw [data_length]; omega)]
    rfl
  unfold trimmed
  rw [hne, head_at s h, hl]
  have a1 : (some s[0] == some (32 : UInt8)) = (((s[0].toNat : Nat) : Int) == 32) := (byte_eq s[0] 32)
  have a2 : (some s[s.size - 1] == some (32 : UInt8)) = (((s[s.size - 1].toNat : Nat) : Int) == 32) := (byte_eq s[s.size - 1] 32)
  rw [a1, a2]
  rfl

theorem value_parts (s : ByteArray) : valueL s.data.toList = (decide (s.size ≤ 900) && s.data.toList.all prB && trimmed s.data.toList) := by
  unfold valueL
  rw [data_length]

end Ht
end Go.Proofs.YtonpalaopnfffaaGreatDoor
