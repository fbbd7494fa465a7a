/- CONTRACTS of the model's l04Quote, PutFields, l04Read. -/
import Derived.Test.YtljifooeokhgeaaFldP
import Derived.Test.YtljifooeokhgeaaFlds
import Derived.Test.YtljifooeokhgeaaGridA
namespace Go.Proofs.Ytljifooeokhgeaa
set_option linter.unusedVariables false
set_option maxRecDepth 4000
open Go.ChangeShapes Go.WideShapes Go.ChangeAt Go.RowKit
open Go.ChangeMaps (open_string shut_string)

namespace Fld

theorem esc_take (s : ByteArray) (k : Nat) (h : k < s.size) : escL (s.data.toList.take (k + 1)) = escL (s.data.toList.take k) ++ escB s[k] := by
  rw [take_snoc s k h]; simp [escL]

theorem esc_le (t : List UInt8) : (escL t).length ≤ 2 * t.length := by
  induction t with
  | nil => simp [escL]
  | cons c t ih =>
    rw [esc_cons, List.length_append]
    have : (escB c).length ≤ 2 := by unfold escB; split <;> simp
    simp only [List.length_cons]; omega

theorem len92 (o : List UInt8) : (o ++ [92]).length = o.length + 1 := by simp

set_option maxHeartbeats 1600000 in
theorem quote_spec (s : ByteArray) (hs : s.size ≤ 1048576) (w : World) :
    Calls Try.prog 53 #[.string s] w fun e w' => e = .returned (.string (txt (quoL s.data.toList))) ∧ Below w.heap.size w w' := by
  obtain ⟨i0, hi, hz0, hz1, hz2⟩ := info_parts Try.info5
  go_enter Try.func53, Try.ntmps53
  go_wp2
  go_loopw [3, 4] (fun v i wr => ∃ (k : Nat) (o : List UInt8), k ≤ s.size ∧ i = .int .i64 k ∧ o.length ≤ 2 * k + 1 ∧ Hid (o = 34 :: escL (s.data.toList.take k)) ∧ wr.ownsRow w.heap.size 5 1 v o.length (cells8 o) ∧ Below w.heap.size w wr) (fun _ i _ => s.size - (intOf i).toNat)
  case atStart => exact ⟨0, [34], by omega, rfl, by simp, Lib.hid (by simp [escL]), ⟨rfl, .inr ⟨w.heap.size, 1, #[.int .u8 34], rfl, Nat.le_refl _, heap_alloc_new w _, Nat.le_refl _, by unfold maxLen; omega, rfl, rfl⟩⟩, (Below.refl _ w).alloc (Nat.le_refl _) _⟩
  case round =>
    obtain ⟨k, o, hk, rfl, hol, ho, hown, hbel⟩ := hrel
    have hbs := hbel.size
    by_cases hlt : k < s.size
    · have h256 : s[k].toNat < 256 := s[k].toNat_lt
      have HN := Lib.hid (show o ++ escB s[k] = 34 :: escL (s.data.toList.take (k + 1)) by rw [esc_take s k hlt, ho.out]; rfl)
      have key : ∀ n : UInt8, (s[k] == n) = (((s[k].toNat : Nat) : Int) == ((n.toNat : Nat) : Int)) := by
        intro n
        rw [Bool.eq_iff_iff, beq_iff_eq, beq_iff_eq]
        exact ⟨fun h => by rw [h], fun h => UInt8.toNat_inj.1 (by omega)⟩
      have hE : isE s[k] = ((((s[k].toNat : Nat) : Int) == 34) || (((s[k].toNat : Nat) : Int) == 92)) := by unfold isE; rw [key 34, key 92]; rfl
      clear key
      have two : isE s[k] = true → o ++ escB s[k] = (o ++ [92]) ++ [s[k]] := fun h => by simp [escB, h]
      have one : isE s[k] = false → o ++ escB s[k] = o ++ [s[k]] := fun h => by simp [escB, h]
      by_cases h1 : ((s[k].toNat : Nat) : Int) = 34
      · have HN2 := Lib.hid ((two (by rw [hE, h1]; rfl)).symm.trans HN.out)
        clear hE two one HN
        go_wp2_with (first
          | (at_builtin; refine wpList_append_lies _ rfl _ _ _ rfl w.heap.size 5 i0 _ 1 1 Try.underlying22 hi hz0 hz1 hz2 rfl (by omega) (.slice (some ⟨gg, 0, none⟩) (o.length + 1) cap) (o ++ [92]).length _ rfl (own3.alloc _) ⟨w3.heap.size, 0, none⟩ 1 1 [.int .u8 34] rfl rfl (World.news_of_block (cs := #[.int .u8 34]) (t := 5) (fr := (0, 0)) (heap_alloc_new w3 _)) (by simp [Value.oneCell']) (by omega) (by unfold maxLen; simp only [List.length_append, List.length_singleton]; omega) (by simp only [List.length_append, List.length_singleton]; omega) (by have := bel3.size; simp; omega) (w3.heap.size + 1) (by simp) ?_; intro gg4 cap4 w4 hown4 hgrow4 hat4 hlt4; have bel4 := (bel3.alloc bel3.size _).grown hgrow4 (by have := bel3.size; simp; omega) (fun j e => (own3.lt j e).1))
          | (at_builtin; refine wpList_append_lies _ rfl _ _ _ rfl w.heap.size 5 i0 _ 1 1 Try.underlying22 hi hz0 hz1 hz2 rfl (by omega) u3 o.length _ rfl (hown.alloc _) ⟨wr.heap.size, 0, none⟩ 1 1 [.int .u8 92] rfl rfl (World.news_of_block (cs := #[.int .u8 92]) (t := 5) (fr := (0, 0)) (heap_alloc_new wr _)) (by simp [Value.oneCell']) (by omega) (by unfold maxLen; omega) (by omega) (by simp; omega) (wr.heap.size + 1) (by simp) ?_; intro gg cap w3 hown3 hgrow hat hlt2; have own3 : w3.ownsRow w.heap.size 5 1 (.slice (some ⟨gg, 0, none⟩) (o.length + 1) cap) (o ++ [92]).length (cells8 (o ++ [92])) := (by rw [cells8_append, List.length_append]; exact hown3); have bel3 := (hbel.alloc hbs _).grown hgrow (by simp; omega) (fun j e => (hown.lt j e).1)))
        go_roundw
        case rel => exact ⟨k + 1, (o ++ [92]) ++ [s[k]], by omega, by go_num, by simp; omega, HN2, (by rw [cells8_append, List.length_append, ← cells8_one s[k] 34 (by omega), len92 o]; rw [len92 o] at hown4; exact hown4), bel4⟩
        case measure => simp [intOf]; omega
      · by_cases h2 : ((s[k].toNat : Nat) : Int) = 92
        · have HN2 := Lib.hid ((two (by rw [hE, h2]; simp)).symm.trans HN.out)
          have hb1 : (((s[k].toNat : Nat) : Int) == 34) = false := beq_eq_false_iff_ne.2 h1
          clear hE two one HN
          go_wp2_with (first
            | (at_builtin; refine wpList_append_lies _ rfl _ _ _ rfl w.heap.size 5 i0 _ 1 1 Try.underlying22 hi hz0 hz1 hz2 rfl (by omega) (.slice (some ⟨gg, 0, none⟩) (o.length + 1) cap) (o ++ [92]).length _ rfl (own3.alloc _) ⟨w3.heap.size, 0, none⟩ 1 1 [.int .u8 92] rfl rfl (World.news_of_block (cs := #[.int .u8 92]) (t := 5) (fr := (0, 0)) (heap_alloc_new w3 _)) (by simp [Value.oneCell']) (by omega) (by unfold maxLen; simp only [List.length_append, List.length_singleton]; omega) (by simp only [List.length_append, List.length_singleton]; omega) (by have := bel3.size; simp; omega) (w3.heap.size + 1) (by simp) ?_; intro gg4 cap4 w4 hown4 hgrow4 hat4 hlt4; have bel4 := (bel3.alloc bel3.size _).grown hgrow4 (by have := bel3.size; simp; omega) (fun j e => (own3.lt j e).1))
            | (at_builtin; refine wpList_append_lies _ rfl _ _ _ rfl w.heap.size 5 i0 _ 1 1 Try.underlying22 hi hz0 hz1 hz2 rfl (by omega) u3 o.length _ rfl (hown.alloc _) ⟨wr.heap.size, 0, none⟩ 1 1 [.int .u8 92] rfl rfl (World.news_of_block (cs := #[.int .u8 92]) (t := 5) (fr := (0, 0)) (heap_alloc_new wr _)) (by simp [Value.oneCell']) (by omega) (by unfold maxLen; omega) (by omega) (by simp; omega) (wr.heap.size + 1) (by simp) ?_; intro gg cap w3 hown3 hgrow hat hlt2; have own3 : w3.ownsRow w.heap.size 5 1 (.slice (some ⟨gg, 0, none⟩) (o.length + 1) cap) (o ++ [92]).length (cells8 (o ++ [92])) := (by rw [cells8_append, List.length_append]; exact hown3); have bel3 := (hbel.alloc hbs _).grown hgrow (by simp; omega) (fun j e => (hown.lt j e).1)))
          go_roundw
          case rel => exact ⟨k + 1, (o ++ [92]) ++ [s[k]], by omega, by go_num, by simp; omega, HN2, (by rw [cells8_append, List.length_append, ← cells8_one s[k] 92 (by omega), len92 o]; rw [len92 o] at hown4; exact hown4), bel4⟩
          case measure => simp [intOf]; omega
        · have HN2 := Lib.hid ((one (by rw [hE, beq_eq_false_iff_ne.2 h1, beq_eq_false_iff_ne.2 h2]; rfl)).symm.trans HN.out)
          have hb1 : (((s[k].toNat : Nat) : Int) == 34) = false := beq_eq_false_iff_ne.2 h1
          have hb2 : (((s[k].toNat : Nat) : Int) == 92) = false := beq_eq_false_iff_ne.2 h2
          clear hE two one HN
          go_wp2_with (at_builtin; refine wpList_append_lies _ rfl _ _ _ rfl w.heap.size 5 i0 _ 1 1 Try.underlying22 hi hz0 hz1 hz2 rfl (by omega) u3 o.length _ rfl (hown.alloc _) ⟨wr.heap.size, 0, none⟩ 1 1 [.int .u8 ((s[k].toNat : Nat) : Int)] rfl rfl (World.news_of_block (cs := #[.int .u8 ((s[k].toNat : Nat) : Int)]) (t := 5) (fr := (0, 0)) (heap_alloc_new wr _)) (by simp [Value.oneCell']) (by omega) (by unfold maxLen; omega) (by omega) (by simp; omega) (wr.heap.size + 1) (by simp) ?_; intro gg cap w3 hown3 hgrow hat hlt2)
          go_roundw
          case rel => exact ⟨k + 1, o ++ [s[k]], by omega, by go_num, by simp; omega, HN2, by rw [cells8_append, List.length_append]; exact hown3, (hbel.alloc hbs _).grown hgrow (by simp; omega) (fun j e => (hown.lt j e).1)⟩
          case measure => simp [intOf]; omega
    · have he : s.data.toList.take k = s.data.toList := List.take_of_length_le (by rw [Array.length_toList]; show s.size ≤ k; omega)
      have ho2 := ho.out
      rw [he] at ho2
      have HO := Lib.hid (show o ++ [34] = quoL s.data.toList by rw [ho2]; rfl)
      clear he ho2 ho
      go_wp2_with (at_builtin; refine wpList_append_lies _ rfl _ _ _ rfl w.heap.size 5 i0 _ 1 1 Try.underlying22 hi hz0 hz1 hz2 rfl (by omega) u3 o.length _ rfl (hown.alloc _) ⟨wr.heap.size, 0, none⟩ 1 1 [.int .u8 34] rfl rfl (World.news_of_block (cs := #[.int .u8 34]) (t := 5) (fr := (0, 0)) (heap_alloc_new wr _)) (by simp [Value.oneCell']) (by omega) (by unfold maxLen; omega) (by omega) (by simp; omega) (wr.heap.size + 1) (by simp) ?_; intro gg cap w3 hown3 hgrow hat hlt2; have hcv := bytes_back_own (P := Try.prog) w3 22 9 5 w.heap.size (.slice (some ⟨gg, 0, none⟩) (o.length + 1) cap) (o.length + 1) (o ++ [34]) (by simp) Try.underlying22 Try.underlying5 Try.underlying9 (by rw [cells8_append]; exact hown3))
      go_ret
      exact ⟨by rw [← HO.out]; rfl, (hbel.alloc hbs _).grown hgrow (by simp; omega) (fun j e => (hown.lt j e).1)⟩

theorem body_snoc (l : List FieldL) (k : Nat) (hk : k < l.length) : bodyL (l.take (k + 1)) = (if k = 0 then [] else bodyL (l.take k) ++ [44]) ++ itemL l[k] := by
  rw [List.take_succ_eq_append_getElem hk]
  cases k with
  | zero => simp [bodyL, tailL]
  | succ k =>
    rw [if_neg (by omega)]
    cases l with
    | nil => simp at hk
    | cons p r =>
      simp only [List.take_succ_cons, List.cons_append, bodyL, tailL, List.getElem_cons_succ]
      rw [List.flatMap_append, List.flatMap_cons, List.flatMap_nil, List.append_nil]
      simp only [List.append_assoc, List.singleton_append, List.cons_append, List.nil_append]

theorem keyOk_len (k : List UInt8) (h : keyOk k = true) : k.length ≤ 30 := by
  unfold keyOk at h
  simp only [Bool.and_eq_true, decide_eq_true_eq] at h
  omega

theorem fieldR_bounds (p : FieldL) (h : fieldR p = true) : p.1.length ≤ 30 ∧ p.2.1.length ≤ 300 ∧ (itemL p).length ≤ 1000 ∧ (p.2.2.2 = true → 0 ≤ p.2.2.1 ∧ p.2.2.1 ≤ 999999999999) := by
  obtain ⟨k, t, n, b⟩ := p
  unfold fieldR at h
  rw [Bool.and_eq_true] at h
  have hk := keyOk_len k h.1
  have hqk := esc_le k
  cases b with
  | false =>
    simp only [Bool.false_eq_true, if_false, Bool.and_eq_true, decide_eq_true_eq, textOk] at h
    have hqt := esc_le t
    refine ⟨hk, h.2.2.1, ?_, by simp⟩
    simp only [itemL, quoL, List.length_append, List.length_cons, List.length_nil, Bool.false_eq_true, if_false]
    have := h.2.2.1
    omega
  | true =>
    simp only [if_true, Bool.and_eq_true, decide_eq_true_eq, numOk] at h
    obtain ⟨_, rfl, h0, h1⟩ := h
    have hi := Lib.itoa_length_le n (by omega) (by omega)
    refine ⟨hk, by simp, ?_, fun _ => ⟨h0, h1⟩⟩
    simp only [itemL, quoL, List.length_append, List.length_cons, List.length_nil, if_true]
    omega

theorem body_len (l : List FieldL) (h : ∀ p ∈ l, fieldR p = true) (k : Nat) (hk : k ≤ l.length) : (bodyL (l.take k)).length ≤ 1001 * k := by
  induction k with
  | zero => simp [bodyL]
  | succ k ih =>
    rw [body_snoc l k (by omega), List.length_append]
    have h1 := (fieldR_bounds l[k] (h _ (List.getElem_mem (by omega)))).2.2.1
    have h2 := ih (by omega)
    split
    · simp; omega
    · rw [List.length_append, List.length_singleton]; omega

def putFL (l : List FieldL) : List UInt8 := if fieldsR l then putF l else []

theorem fieldsR_all (l : List FieldL) (h : fieldsR l = true) : l.length ≤ 20 ∧ ∀ p ∈ l, fieldR p = true := by
  unfold fieldsR at h
  simp only [Bool.and_eq_true, decide_eq_true_eq, List.all_eq_true] at h
  exact ⟨h.1, h.2.1⟩

set_option maxHeartbeats 1600000 in
theorem put_spec (v : Value) (l : List FieldL) (w : World) (h : FAt w v l) (hn : l.length ≤ 2097152) (hm : ∀ p ∈ l, okM p) :
    Calls Try.prog 34 #[v] w fun e w' => e = .returned (.string (txt (putFL l))) ∧ Below w.heap.size w w' := by
  have HF := Lib.hid h
  have F := Lib.hid (fun wx hx => fieldsOk_spec v l wx hx hn hm)
  obtain ⟨a, cap, rfl, _⟩ := h
  obtain ⟨R, hR⟩ : ∃ R, R = putFL l := ⟨_, rfl⟩
  have HR := Lib.hid hR
  rw [← hR]
  clear hR
  cases hq : fieldsR l with
  | false =>
    have HR2 := Lib.hid (show R = [] by rw [HR.out]; unfold putFL; rw [hq]; rfl)
    rw [hq] at F
    clear hq
    go_enter Try.func34, Try.ntmps34
    go_wp2_with fail
    refine (F.out _ HF.out).mono ?_
    rintro e w1 ⟨rfl, b1⟩
    go_wp2
    go_ret
    exact ⟨by rw [HR2.out]; rfl, b1⟩
  | true =>
    have HR2 := Lib.hid (show R = putF l by rw [HR.out]; unfold putFL; rw [hq]; rfl)
    obtain ⟨hl20, hall⟩ := fieldsR_all l hq
    have HA := Lib.hid hall
    have HB := Lib.hid (body_len l hall)
    rw [hq] at F
    clear hq hall
    have e123 : (⟨#[123]⟩ : ByteArray) = txt (123 :: bodyL (l.take 0)) := rfl
    go_enter Try.func34, Try.ntmps34
    go_wp2_with fail
    refine (F.out _ HF.out).mono ?_
    rintro e w1 ⟨rfl, b1⟩
    go_wp2
    rw [e123]
    clear e123
    go_loopw [3, 4] (fun o i wr => ∃ k : Nat, k ≤ l.length ∧ i = .int .i64 k ∧ o = .string (txt (123 :: bodyL (l.take k))) ∧ Below w.heap.size w wr) (fun _ i _ => l.length - (intOf i).toNat)
    case atStart => exact ⟨0, by omega, rfl, rfl, b1⟩
    case round =>
      obtain ⟨k, hk, rfl, rfl, hbel⟩ := hrel
      have hbl := HB.out k hk
      by_cases hlt : k < l.length
      · obtain ⟨g, off, rfl, hg, c1, c2, c3, c4⟩ := FAt.cells (Grid.GAt.below HF.out hbel) k hlt
        have hi0 : (0 : Int) ≤ (k : Int) := by omega
        have hi1 : (k : Int) < (l.length : Int) := by omega
        obtain ⟨q1, q2, q3, q4⟩ := fieldR_bounds l[k] (HA.out _ (List.getElem_mem hlt))
        have HS := Lib.hid (body_snoc l k hlt)
        generalize l[k] = p at c1 c2 c3 c4 q1 q2 q3 q4 HS
        obtain ⟨pk, pt, pn, pb⟩ := p
        simp only at c1 c2 c3 c4 q1 q2 q4
        have K := Lib.hid (fun wx => quote_spec (txt pk) (by rw [txt_size]; omega) wx)
        have Q := Lib.hid (fun wx => quote_spec (txt pt) (by rw [txt_size]; omega) wx)
        simp only [txt_toList] at K Q
        have hqk := quo_len pk
        have hqe := esc_le pk
        have hqk2 : (quoL pk).length ≤ 100 := by simp only [quoL, List.length_cons, List.length_append, List.length_nil]; omega
        clear hqk hqe
        obtain ⟨O, hO⟩ : ∃ O, O = 123 :: bodyL (l.take k) := ⟨_, rfl⟩
        have hOl : O.length ≤ 100000 := by rw [hO, List.length_cons]; omega
        rw [← hO]
        cases pb with
        | false =>
          have hqt := esc_le pt
          obtain ⟨V, hV⟩ : ∃ V, V = quoL pt := ⟨_, rfl⟩
          have hVl : V.length ≤ 1000 := by rw [hV]; simp only [quoL, List.length_cons, List.length_append, List.length_nil]; omega
          rw [← hV] at Q
          have hit : itemL (pk, pt, pn, false) = quoL pk ++ 58 :: V := by rw [hV]; rfl
          rw [hit] at HS
          clear hV hqt hit q4 q3
          by_cases hk0 : k = 0
          · obtain ⟨O2, hO2⟩ : ∃ O2, O2 = O := ⟨_, rfl⟩
            have HO := Lib.hid (show O2 ++ (quoL pk ++ [58]) ++ V = 123 :: bodyL (l.take (k + 1)) by rw [HS.out, if_pos hk0, hO2, hO, hk0]; simp [bodyL])
            have hgt : ¬ ((0 : Int) < (k : Int)) := by omega
            clear HS hO hk0
            subst hO2
            have hOl2 : O2.length ≤ 100000 := hOl
            have hadd2 := fun wx => add_txt (P := Try.prog) O2 (quoL pk) (by omega) wx
            have hadd3 := fun wx => add_txt (P := Try.prog) (O2 ++ quoL pk) [58] (by rw [List.length_append]; simp; omega) wx
            rw [show txt [58] = (⟨#[58]⟩ : ByteArray) from rfl] at hadd3
            have hadd4 := fun wx => add_txt (P := Try.prog) (O2 ++ (quoL pk ++ [58])) V (by rw [List.length_append, List.length_append]; simp; omega) wx
            rw [HO.out] at hadd4
            go_wp2_with fail
            refine (Q.out _).mono ?_
            rintro e w2 ⟨rfl, b2⟩
            have c1 := (b2.cell (p := ⟨g, _, none⟩) hg).trans c1
            have c3 := (b2.cell (p := ⟨g, _, none⟩) hg).trans c3
            have c4 := (b2.cell (p := ⟨g, _, none⟩) hg).trans c4
            have hg2 : g < w2.heap.size := Nat.lt_of_lt_of_le hg b2.size
            have hbel2 := bstep hbel b2
            clear hbel b2 c2
            go_wp2_with fail
            refine (K.out _).mono ?_
            rintro e w4 ⟨rfl, b4⟩
            have hbel4 := bstep hbel2 b4
            go_wp2
            exact ⟨⟨k + 1, by omega, by go_num, rfl, hbel4⟩, by simp [intOf]; omega⟩
          · obtain ⟨O2, hO2⟩ : ∃ O2, O2 = O ++ [44] := ⟨_, rfl⟩
            have HO := Lib.hid (show O2 ++ (quoL pk ++ [58]) ++ V = 123 :: bodyL (l.take (k + 1)) by rw [HS.out, if_neg hk0, hO2, hO]; simp)
            have hOl2 : O2.length ≤ 100001 := by rw [hO2]; simp; omega
            have hgt : (0 : Int) < (k : Int) := by omega
            clear HS hO hk0
            have hadd1 := fun wx => add_txt (P := Try.prog) O [44] (by simp; omega) wx
            rw [show txt [44] = (⟨#[44]⟩ : ByteArray) from rfl] at hadd1
            rw [← hO2] at hadd1
            clear hO2
            have hadd2 := fun wx => add_txt (P := Try.prog) O2 (quoL pk) (by omega) wx
            have hadd3 := fun wx => add_txt (P := Try.prog) (O2 ++ quoL pk) [58] (by rw [List.length_append]; simp; omega) wx
            rw [show txt [58] = (⟨#[58]⟩ : ByteArray) from rfl] at hadd3
            have hadd4 := fun wx => add_txt (P := Try.prog) (O2 ++ (quoL pk ++ [58])) V (by rw [List.length_append, List.length_append]; simp; omega) wx
            rw [HO.out] at hadd4
            go_wp2_with fail
            refine (Q.out _).mono ?_
            rintro e w2 ⟨rfl, b2⟩
            have c1 := (b2.cell (p := ⟨g, _, none⟩) hg).trans c1
            have c3 := (b2.cell (p := ⟨g, _, none⟩) hg).trans c3
            have c4 := (b2.cell (p := ⟨g, _, none⟩) hg).trans c4
            have hg2 : g < w2.heap.size := Nat.lt_of_lt_of_le hg b2.size
            have hbel2 := bstep hbel b2
            clear hbel b2 c2
            go_wp2_with fail
            refine (K.out _).mono ?_
            rintro e w4 ⟨rfl, b4⟩
            have hbel4 := bstep hbel2 b4
            go_wp2
            exact ⟨⟨k + 1, by omega, by go_num, rfl, hbel4⟩, by simp [intOf]; omega⟩
        | true =>
          obtain ⟨q5, q6⟩ := q4 rfl
          have D := Lib.hid (fun wx => dec_all pn wx (by omega) (by omega))
          have hil := Lib.itoa_length_le pn (by omega) (by omega)
          have hit : itemL (pk, pt, pn, true) = quoL pk ++ 58 :: Lib.itoa pn := rfl
          rw [hit] at HS
          clear hit q4 q3
          generalize Lib.itoa pn = V at D hil HS
          by_cases hk0 : k = 0
          · obtain ⟨O2, hO2⟩ : ∃ O2, O2 = O := ⟨_, rfl⟩
            have HO := Lib.hid (show O2 ++ (quoL pk ++ [58]) ++ V = 123 :: bodyL (l.take (k + 1)) by rw [HS.out, if_pos hk0, hO2, hO, hk0]; simp [bodyL])
            have hgt : ¬ ((0 : Int) < (k : Int)) := by omega
            clear HS hO hk0
            subst hO2
            have hOl2 : O2.length ≤ 100000 := hOl
            have hadd2 := fun wx => add_txt (P := Try.prog) O2 (quoL pk) (by omega) wx
            have hadd3 := fun wx => add_txt (P := Try.prog) (O2 ++ quoL pk) [58] (by rw [List.length_append]; simp; omega) wx
            rw [show txt [58] = (⟨#[58]⟩ : ByteArray) from rfl] at hadd3
            have hadd4 := fun wx => add_txt (P := Try.prog) (O2 ++ (quoL pk ++ [58])) V (by rw [List.length_append, List.length_append]; simp; omega) wx
            rw [HO.out] at hadd4
            go_wp2_with fail
            refine (Q.out _).mono ?_
            rintro e w2 ⟨rfl, b2⟩
            have c1 := (b2.cell (p := ⟨g, _, none⟩) hg).trans c1
            have c3 := (b2.cell (p := ⟨g, _, none⟩) hg).trans c3
            have c4 := (b2.cell (p := ⟨g, _, none⟩) hg).trans c4
            have hg2 : g < w2.heap.size := Nat.lt_of_lt_of_le hg b2.size
            have hbel2 := bstep hbel b2
            clear hbel b2 c2
            go_wp2_with fail
            refine (D.out _).mono ?_
            rintro e w3 ⟨rfl, b3⟩
            have c1 := (b3.cell (p := ⟨g, _, none⟩) hg2).trans c1
            have hbel2 := bstep hbel2 b3
            clear b3 c3 c4
            go_wp2_with fail
            refine (K.out _).mono ?_
            rintro e w4 ⟨rfl, b4⟩
            have hbel4 := bstep hbel2 b4
            go_wp2
            exact ⟨⟨k + 1, by omega, by go_num, rfl, hbel4⟩, by simp [intOf]; omega⟩
          · obtain ⟨O2, hO2⟩ : ∃ O2, O2 = O ++ [44] := ⟨_, rfl⟩
            have HO := Lib.hid (show O2 ++ (quoL pk ++ [58]) ++ V = 123 :: bodyL (l.take (k + 1)) by rw [HS.out, if_neg hk0, hO2, hO]; simp)
            have hOl2 : O2.length ≤ 100001 := by rw [hO2]; simp; omega
            have hgt : (0 : Int) < (k : Int) := by omega
            clear HS hO hk0
            have hadd1 := fun wx => add_txt (P := Try.prog) O [44] (by simp; omega) wx
            rw [show txt [44] = (⟨#[44]⟩ : ByteArray) from rfl] at hadd1
            rw [← hO2] at hadd1
            clear hO2
            have hadd2 := fun wx => add_txt (P := Try.prog) O2 (quoL pk) (by omega) wx
            have hadd3 := fun wx => add_txt (P := Try.prog) (O2 ++ quoL pk) [58] (by rw [List.length_append]; simp; omega) wx
            rw [show txt [58] = (⟨#[58]⟩ : ByteArray) from rfl] at hadd3
            have hadd4 := fun wx => add_txt (P := Try.prog) (O2 ++ (quoL pk ++ [58])) V (by rw [List.length_append, List.length_append]; simp; omega) wx
            rw [HO.out] at hadd4
            go_wp2_with fail
            refine (Q.out _).mono ?_
            rintro e w2 ⟨rfl, b2⟩
            have c1 := (b2.cell (p := ⟨g, _, none⟩) hg).trans c1
            have c3 := (b2.cell (p := ⟨g, _, none⟩) hg).trans c3
            have c4 := (b2.cell (p := ⟨g, _, none⟩) hg).trans c4
            have hg2 : g < w2.heap.size := Nat.lt_of_lt_of_le hg b2.size
            have hbel2 := bstep hbel b2
            clear hbel b2 c2
            go_wp2_with fail
            refine (D.out _).mono ?_
            rintro e w3 ⟨rfl, b3⟩
            have c1 := (b3.cell (p := ⟨g, _, none⟩) hg2).trans c1
            have hbel2 := bstep hbel2 b3
            clear b3 c3 c4
            go_wp2_with fail
            refine (K.out _).mono ?_
            rintro e w4 ⟨rfl, b4⟩
            have hbel4 := bstep hbel2 b4
            go_wp2
            exact ⟨⟨k + 1, by omega, by go_num, rfl, hbel4⟩, by simp [intOf]; omega⟩
      · obtain rfl : k = l.length := by omega
        have hadd := fun wx => add_txt (P := Try.prog) (123 :: bodyL (l.take l.length)) [125] (by simp only [List.length_cons, List.length_nil]; omega) wx
        rw [show txt [125] = (⟨#[125]⟩ : ByteArray) from rfl] at hadd
        have HF2 := Lib.hid (show R = 123 :: bodyL (l.take l.length) ++ [125] by rw [HR2.out, List.take_length]; rfl)
        rw [← HF2.out] at hadd
        generalize 123 :: bodyL (l.take l.length) = O at hadd ⊢
        go_wp2
        go_ret
        exact ⟨rfl, hbel⟩

end Fld

end Go.Proofs.Ytljifooeokhgeaa
