/- CONTRACTS of the program's reading: isEscaped, readQuoted. -/
import Derived.Test.YtljifooeokhgeaaFldP
import Derived.Test.YtljifooeokhgeaaShelf
namespace Go.Proofs.Ytljifooeokhgeaa
set_option linter.unusedVariables false
set_option maxRecDepth 4000
open Go.ChangeShapes Go.WideShapes Go.ChangeAt Go.RowKit
open Go.ChangeMaps (open_string shut_string)

namespace Fld

theorem esc_call (c : UInt8) (w : World) : Calls Try.prog 67 #[.int .u8 ((c.toNat : Nat) : Int)] w fun e w' => e = .returned (.bool (isE c)) ∧ w' = w := by
  have h256 : c.toNat < 256 := c.toNat_lt
  have key : ∀ n : UInt8, (c == n) = (((c.toNat : Nat) : Int) == ((n.toNat : Nat) : Int)) := by
    intro n
    rw [Bool.eq_iff_iff, beq_iff_eq, beq_iff_eq]
    exact ⟨fun h => by rw [h], fun h => UInt8.toNat_inj.1 (by omega)⟩
  have HE := Lib.hid (show isE c = ((((c.toNat : Nat) : Int) == 34) || (((c.toNat : Nat) : Int) == 92)) by unfold isE; rw [key 34, key 92]; rfl)
  clear key
  generalize isE c = R at HE ⊢
  by_cases h1 : ((c.toNat : Nat) : Int) = 34
  · go_enter Try.func67, Try.ntmps67
    go_wp2
    go_ret
    exact ⟨ret_bool (by rw [HE.out, h1]; try rfl), rfl⟩
  · by_cases h2 : ((c.toNat : Nat) : Int) = 92
    · go_enter Try.func67, Try.ntmps67
      go_wp2
      go_ret
      exact ⟨ret_bool (by rw [HE.out, h2]; try rfl), rfl⟩
    · go_enter Try.func67, Try.ntmps67
      go_wp2
      go_ret
      exact ⟨ret_bool (by rw [HE.out, beq_eq_false_iff_ne.2 h1, beq_eq_false_iff_ne.2 h2]; try rfl), rfl⟩

theorem ext_drop (S : ByteArray) (i : Nat) : S.extract i S.size = txt (S.data.toList.drop i) := by
  rw [← txt_of (S.extract i S.size)]
  congr 1
  simp only [ByteArray.data_extract, Array.toList_extract]
  show (S.data.toList.drop i).take (S.size - i) = _
  rw [List.take_of_length_le (by rw [List.length_drop, Array.length_toList]; exact Nat.le_refl _)]

def quoV (r : Option (List UInt8 × List UInt8)) : Value := match r with
  | some (t, tail) => .tuple #[.string (txt t), .string (txt tail), .bool true]
  | none => .tuple #[.string ⟨#[]⟩, .string ⟨#[]⟩, .bool false]

theorem cut_head (l : List UInt8) (c : UInt8) : Lib.hasPrefix l [c] = decide (l.head? = some c) := by
  cases l with
  | nil => rfl
  | cons x y =>
    simp only [Lib.hasPrefix, List.isPrefixOf, List.head?_cons, Option.some.injEq, Bool.and_true]
    rw [Bool.eq_iff_iff, beq_iff_eq, decide_eq_true_eq]
    exact eq_comm

theorem cut_rest (l : List UInt8) (c : UInt8) : Lib.trimPrefix l [c] = if l.head? = some c then l.drop 1 else l := by
  unfold Lib.trimPrefix
  rw [cut_head]
  by_cases h : l.head? = some c
  · rw [decide_eq_true h, if_pos rfl, if_pos h]; rfl
  · rw [decide_eq_false h, if_neg (by simp), if_neg h]

set_option maxHeartbeats 1600000 in
theorem readQuoted_call (s : ByteArray) (hs : s.size ≤ 1048576) (w : World) :
    Calls Try.prog 62 #[.string s] w fun e w' => e = .returned (quoV (readQ s.data.toList)) ∧ Below w.heap.size w w' := by
  obtain ⟨i0, hi, hz0, hz1, hz2⟩ := info_parts Try.info5
  obtain ⟨RV, hRV⟩ : ∃ RV, RV = quoV (readQ s.data.toList) := ⟨_, rfl⟩
  have HRV := Lib.hid hRV
  rw [← hRV]
  clear hRV
  have CP := Lib.hid (fun wx => Try.strings_CutPrefix s (txt [34]) wx)
  simp only [txt_toList, cut_head, cut_rest] at CP
  have e34 : txt [34] = ⟨#[34]⟩ := rfl
  rw [e34] at CP
  by_cases hh : s.data.toList.head? = some 34
  · obtain ⟨l, hl⟩ : ∃ l, s.data.toList = 34 :: l := by
      cases h : s.data.toList with
      | nil => rw [h] at hh; cases hh
      | cons x y => rw [h] at hh; simp only [List.head?_cons, Option.some.injEq] at hh; exact ⟨y, by rw [hh]⟩
    have HR := Lib.hid (show RV = quoV (rq [] l) by rw [HRV.out, hl]; simp [readQ])
    have hdl := data_length s
    rw [hl] at CP hdl
    simp only [List.length_cons] at hdl
    obtain ⟨S, hS⟩ : ∃ S, S = txt l := ⟨_, rfl⟩
    have hSl : S.data.toList = l := by rw [hS, txt_toList]
    have hSs : S.size = l.length := by rw [hS, txt_size]
    simp only [List.head?_cons, if_true, decide_true, List.drop_succ_cons, List.drop_zero] at CP
    rw [show (⟨l.toArray⟩ : ByteArray) = S from hS.symm] at CP
    have hS1 : S.size + 1 = s.size := by omega
    have hmk := make_row (P := Try.prog) 22 5 i0 (.int .u8 0) Try.underlying22 hi hz0 (S.size : Int) S.size rfl (by rw [hz2]; omega) (by omega)
    rw [← hSl] at HR
    clear hS hl hh HRV hSl hSs hdl
    go_enter Try.func62, Try.ntmps62
    go_wp2_with fail
    refine (CP.out _).mono ?_
    rintro e w1 ⟨rfl, rfl⟩
    go_wp2
    go_loopw [7, 8] (fun v i wr => ∃ (k : Nat) (o : List UInt8), k ≤ S.size ∧ o.length ≤ k ∧ i = .int .i64 k ∧ Hid (RV = quoV (rq o (S.data.toList.drop k))) ∧ wr.ownsRow w1.heap.size 5 1 v o.length (cells8 o) ∧ Below w1.heap.size w1 wr) (fun _ i _ => S.size - (intOf i).toNat)
    case atStart => exact ⟨0, [], by omega, by simp, rfl, HR, World.ownsRow_made w1 _ S.size (Nat.le_refl _) (by unfold maxLen; omega) (by rw [size_madeCells]; omega), (Below.refl _ w1).alloc (Nat.le_refl _) _⟩
    case round =>
      clear hmk HR
      obtain ⟨k, o, hk, ho, rfl, hr, hown, hbel⟩ := hrel
      have hdl := data_length S
      by_cases hlt : k < S.size
      · have h256 : S[k].toNat < 256 := S[k].toNat_lt
        have hi0 : (0 : Int) ≤ (k : Int) := by omega
        have hi1 : (k : Int) < (S.size : Int) := by omega
        have hr2 := hr.out
        rw [rq_at S.data.toList o k (by omega), show S.data.toList[k]'(by omega) = S[k] from rfl] at hr2
        by_cases h34 : S[k] = 34
        · rw [if_pos h34] at hr2
          have HR2 := Lib.hid (show RV = .tuple #[.string (txt o), .string (txt (S.data.toList.drop (k + 1))), .bool true] from hr2)
          have h34i : ((S[k].toNat : Nat) : Int) = 34 := by rw [h34]; rfl
          have hcv := fun n => bytes_back_own (P := Try.prog) (wr.drewN n) 22 9 5 w1.heap.size u7 o.length o rfl Try.underlying22 Try.underlying5 Try.underlying9 hown
          have hsl : S.extract (k + 1) S.size = txt (S.data.toList.drop (k + 1)) := ext_drop S (k + 1)
          have hi2 : (k : Int) + 1 ≤ (S.size : Int) := by omega
          clear hr2 hr h34
          go_wp2
          go_quiet (fail)
          go_wp2
          go_ret3
          exact ⟨by rw [HR2.out]; rfl, below_drewN hbel _⟩
        · rw [if_neg h34] at hr2
          have h34i : ¬ ((S[k].toNat : Nat) : Int) = 34 := fun h => h34 (UInt8.toNat_inj.1 (by show S[k].toNat = 34; omega))
          have hbs := hbel.size
          by_cases h92 : S[k] = 92
          · rw [if_pos h92] at hr2
            have h92i : ((S[k].toNat : Nat) : Int) = 92 := by rw [h92]; rfl
            clear h34 h92
            by_cases hk1 : k + 1 < S.size
            · rw [dif_pos (by omega), show S.data.toList[k + 1]'(by omega) = S[k + 1] from rfl] at hr2
              have E := Lib.hid (fun wx => esc_call S[k + 1] wx)
              have hk1i : ((k : Int) + 1) < (S.size : Int) := by omega
              have hk1n : ¬ ((k : Int) + 1) = (S.size : Int) := by omega
              have hk0 : (0 : Int) ≤ (k : Int) + 1 := by omega
              have h256b : S[k + 1].toNat < 256 := S[k + 1].toNat_lt
              cases hE : isE S[k + 1] with
              | true =>
                rw [hE, if_pos rfl] at hr2
                have HR3 := Lib.hid hr2
                rw [hE] at E
                clear hr2 hr hE
                go_wp2_with fail
                refine (E.out _).mono ?_
                rintro e w2 ⟨rfl, rfl⟩
                go_wp2_with (at_builtin; refine wpList_append_lies _ rfl _ _ _ rfl w1.heap.size 5 i0 _ 1 1 Try.underlying22 hi hz0 hz1 hz2 rfl (by omega) u7 o.length _ rfl (hown.alloc _) ⟨w2.heap.size, 0, none⟩ 1 1 [.int .u8 ((S[k + 1].toNat : Nat) : Int)] rfl rfl (World.news_of_block (cs := #[.int .u8 ((S[k + 1].toNat : Nat) : Int)]) (t := 5) (fr := (0, 0)) (heap_alloc_new w2 _)) (by simp [Value.oneCell']) (by omega) (by unfold maxLen; omega) (by omega) (by simp; omega) (w2.heap.size + 1) (by simp) ?_; intro gg cap w3 hown1 hgrow hat hlt2)
                go_roundw
                case rel => exact ⟨k + 2, o ++ [S[k + 1]], by omega, by simp; omega, by go_num, HR3, by rw [cells8_append, List.length_append]; exact hown1, (hbel.alloc hbel.size _).grown hgrow (by simp; omega) (fun j e => (hown.lt j e).1)⟩
                case measure => simp [intOf]; omega
              | false =>
                rw [hE, if_neg (by simp)] at hr2
                have HR3 := Lib.hid (show RV = .tuple #[.string ⟨#[]⟩, .string ⟨#[]⟩, .bool false] from by rw [hr2]; rfl)
                rw [hE] at E
                clear hr2 hr hE
                go_wp2_with fail
                refine (E.out _).mono ?_
                rintro e w2 ⟨rfl, rfl⟩
                go_wp2
                go_ret3
                exact ⟨by rw [HR3.out]; rfl, hbel⟩
            · rw [dif_neg (by omega)] at hr2
              have HR3 := Lib.hid (show RV = .tuple #[.string ⟨#[]⟩, .string ⟨#[]⟩, .bool false] from by rw [hr2]; rfl)
              have hk1n : ((k : Int) + 1) = (S.size : Int) := by omega
              clear hr2 hr
              go_wp2
              go_ret3
              exact ⟨by rw [HR3.out]; rfl, hbel⟩
          · rw [if_neg h92] at hr2
            have h92i : ¬ ((S[k].toNat : Nat) : Int) = 92 := fun h => h92 (UInt8.toNat_inj.1 (by show S[k].toNat = 92; omega))
            have HR3 := Lib.hid hr2
            clear hr2 hr h34 h92
            go_wp2_with (at_builtin; refine wpList_append_lies _ rfl _ _ _ rfl w1.heap.size 5 i0 _ 1 1 Try.underlying22 hi hz0 hz1 hz2 rfl (by omega) u7 o.length _ rfl (hown.alloc _) ⟨wr.heap.size, 0, none⟩ 1 1 [.int .u8 ((S[k].toNat : Nat) : Int)] rfl rfl (World.news_of_block (cs := #[.int .u8 ((S[k].toNat : Nat) : Int)]) (t := 5) (fr := (0, 0)) (heap_alloc_new wr _)) (by simp [Value.oneCell']) (by omega) (by unfold maxLen; omega) (by omega) (by simp; omega) (wr.heap.size + 1) (by simp) ?_; intro gg cap w3 hown1 hgrow hat hlt2)
            go_roundw
            case rel => exact ⟨k + 1, o ++ [S[k]], by omega, by simp; omega, by go_num, HR3, by rw [cells8_append, List.length_append]; exact hown1, (hbel.alloc hbel.size _).grown hgrow (by simp; omega) (fun j e => (hown.lt j e).1)⟩
            case measure => simp [intOf]; omega
      · have hr2 := hr.out
        rw [List.drop_eq_nil_of_le (show S.data.toList.length ≤ k by omega)] at hr2
        have HR2 := Lib.hid (show RV = .tuple #[.string ⟨#[]⟩, .string ⟨#[]⟩, .bool false] from by rw [hr2]; rfl)
        clear hr2 hr
        go_wp2
        go_ret3
        exact ⟨by rw [HR2.out]; rfl, hbel⟩
  · have HR2 := Lib.hid (show RV = .tuple #[.string ⟨#[]⟩, .string ⟨#[]⟩, .bool false] by
      rw [HRV.out]
      cases h : s.data.toList with
      | nil => rfl
      | cons x y =>
        rw [h] at hh
        simp only [List.head?_cons, Option.some.injEq] at hh
        simp [readQ, hh, quoV])
    rw [decide_eq_false hh, if_neg hh] at CP
    go_enter Try.func62, Try.ntmps62
    go_wp2_with fail
    refine (CP.out _).mono ?_
    rintro e w1 ⟨rfl, rfl⟩
    go_wp2
    go_ret3
    exact ⟨by rw [HR2.out]; rfl, Below.refl _ _⟩

end Fld

end Go.Proofs.Ytljifooeokhgeaa
