/- CONTRACT of the model's l04Read. -/
import Derived.Test.YtljifooeokhgeaaFldR
namespace Go.Proofs.Ytljifooeokhgeaa
set_option linter.unusedVariables false
set_option maxRecDepth 4000
open Go.ChangeShapes Go.WideShapes Go.ChangeAt Go.RowKit
open Go.ChangeMaps (open_string shut_string)

namespace Fld

/-- a quoted text at the head, read by the model -/
def readM : List UInt8 → Option (List UInt8 × List UInt8)
  | c :: r => if c = 34 then mq [] r else none
  | [] => none

def atV (n : Nat) (r : Option (List UInt8 × List UInt8)) : Value := match r with
  | some (t, tail) => .tuple #[.string (txt t), .int .i64 (((n - tail.length : Nat)) : Int)]
  | none => .tuple #[.string ⟨#[]⟩, .int .i64 (-1)]

theorem readM_quo (t tail : List UInt8) : readM (quoL t ++ tail) = some (t, tail) := by
  show readM (34 :: (escL t ++ [34] ++ tail)) = _
  rw [readM, if_pos rfl, List.append_assoc]
  have := mq_esc t [] tail
  simpa using this

theorem mq_len (n : Nat) : ∀ (l acc o tail : List UInt8), l.length ≤ n → mq acc l = some (o, tail) → tail.length < l.length ∧ o.length ≤ acc.length + l.length := by
  induction n with
  | zero =>
    intro l acc o tail hl h
    obtain rfl : l = [] := List.eq_nil_of_length_eq_zero (by omega)
    simp [mq] at h
  | succ n ih =>
    intro l acc o tail hl h
    match l, hl, h with
    | [], _, h => simp [mq] at h
    | [c], _, h =>
      rw [mq] at h
      split at h
      · simp only [Option.some.injEq, Prod.mk.injEq] at h
        obtain ⟨rfl, rfl⟩ := h
        simp
      · cases h
    | c :: d :: r, hl, h =>
      rw [mq] at h
      simp only [List.length_cons] at hl ⊢
      split at h
      · simp only [Option.some.injEq, Prod.mk.injEq] at h
        obtain ⟨rfl, rfl⟩ := h
        simp only [List.length_cons]; omega
      · split at h
        · have := ih r _ o tail (by omega) h
          simp only [List.length_append, List.length_cons, List.length_nil] at this
          omega
        · have := ih (d :: r) _ o tail (by simp only [List.length_cons]; omega) h
          simp only [List.length_append, List.length_cons, List.length_nil] at this
          omega

theorem readM_len (l o tail : List UInt8) (h : readM l = some (o, tail)) : tail.length + 2 ≤ l.length ∧ o.length ≤ l.length := by
  cases l with
  | nil => simp [readM] at h
  | cons c r =>
    rw [readM] at h
    split at h
    · have := mq_len _ r [] o tail (Nat.le_refl _) h
      simp only [List.length_cons, List.length_nil] at this ⊢
      omega
    · cases h

set_option maxHeartbeats 1600000 in
theorem read_spec (s : ByteArray) (i : Nat) (hs : s.size ≤ 1048576) (hii : i ≤ s.size) (w : World) :
    Calls Try.prog 50 #[.string s, .int .i64 (i : Int)] w fun e w' => e = .returned (atV s.size (readM (s.data.toList.drop i))) ∧ Below w.heap.size w w' := by
  obtain ⟨i0, hi, hz0, hz1, hz2⟩ := info_parts Try.info5
  obtain ⟨RV, hRV⟩ : ∃ RV, RV = atV s.size (readM (s.data.toList.drop i)) := ⟨_, rfl⟩
  have HRV := Lib.hid hRV
  rw [← hRV]
  clear hRV
  have hdl := data_length s
  have hi0 : (0 : Int) ≤ (i : Int) := by omega
  have none_is : ∀ {x : Option (List UInt8 × List UInt8)}, x = none → atV s.size x = .tuple #[.string ⟨#[]⟩, .int .i64 (-1)] := fun h => by rw [h]; rfl
  by_cases hlt : i < s.size
  · have hil : (i : Int) < (s.size : Int) := by omega
    have h256 : s[i].toNat < 256 := s[i].toNat_lt
    by_cases h34 : s[i] = 34
    · have h34i : ((s[i].toNat : Nat) : Int) = 34 := by rw [h34]; rfl
      have HR := Lib.hid (show RV = atV s.size (mq [] (s.data.toList.drop (i + 1))) by rw [HRV.out, drop_cons s i hlt, readM, if_pos h34])
      have hne34 : (((s[i].toNat : Nat) : Int) != 34) = false := by rw [h34i]; rfl
      have hdec : decide (s.size ≤ i) = false := decide_eq_false (by omega)
      clear h34 HRV
      go_enter Try.func50, Try.ntmps50
      go_wp2
      go_loopw [6, 7] (fun v q wr => ∃ (k : Nat) (o : List UInt8), k ≤ s.size ∧ o.length ≤ k ∧ q = .int .i64 k ∧ Hid (RV = atV s.size (mq o (s.data.toList.drop k))) ∧ wr.ownsRow w.heap.size 5 1 v o.length (cells8 o) ∧ Below w.heap.size w wr) (fun _ q _ => s.size - (intOf q).toNat)
      case atStart => exact ⟨i + 1, [], by omega, by simp, by go_num, HR, World.ownsRow_made w #[] 0 (Nat.le_refl _) (by unfold maxLen; omega) rfl, (Below.refl _ w).alloc (Nat.le_refl _) _⟩
      case round =>
        clear HR h34i hne34 hil hi0 h256 hlt
        obtain ⟨k, o, hk, ho, rfl, hr, hown, hbel⟩ := hrel
        have hbs := hbel.size
        by_cases hlt : k < s.size
        · have h256 : s[k].toNat < 256 := s[k].toNat_lt
          have hk0 : (0 : Int) ≤ (k : Int) := by omega
          have hk1 : (k : Int) < (s.size : Int) := by omega
          have hr2 := hr.out
          rw [mq_at s.data.toList o k (by omega), show s.data.toList[k]'(by omega) = s[k] from rfl] at hr2
          by_cases h34 : s[k] = 34
          · rw [if_pos h34] at hr2
            have HR2 := Lib.hid (show RV = .tuple #[.string (txt o), .int .i64 ((k : Int) + 1)] by
              rw [hr2]; simp only [atV, List.length_drop, hdl]
              rw [show ((s.size - (s.size - (k + 1)) : Nat) : Int) = (k : Int) + 1 by omega])
            have h34i : ((s[k].toNat : Nat) : Int) = 34 := by rw [h34]; rfl
            have hcv := bytes_back_own (P := Try.prog) wr 22 9 5 w.heap.size u6 o.length o rfl Try.underlying22 Try.underlying5 Try.underlying9 hown
            clear hr2 hr h34
            go_wp2
            go_ret2
            exact ⟨by rw [HR2.out]; rfl, hbel⟩
          · rw [if_neg h34] at hr2
            have h34i : (((s[k].toNat : Nat) : Int) == 34) = false := beq_eq_false_iff_ne.2 fun h => h34 (UInt8.toNat_inj.1 (by show s[k].toNat = 34; omega))
            have h34n : ¬ ((s[k].toNat : Nat) : Int) = 34 := fun h => h34 (UInt8.toNat_inj.1 (by show s[k].toNat = 34; omega))
            by_cases h92 : s[k] = 92
            · rw [if_pos h92] at hr2
              have h92i : ((s[k].toNat : Nat) : Int) = 92 := by rw [h92]; rfl
              clear h34 h92
              by_cases hk2 : k + 1 < s.size
              · rw [dif_pos (by omega), show s.data.toList[k + 1]'(by omega) = s[k + 1] from rfl] at hr2
                have HR3 := Lib.hid hr2
                have hk2i : ((k : Int) + 1) < (s.size : Int) := by omega
                have hk20 : (0 : Int) ≤ (k : Int) + 1 := by omega
                have h256b : s[k + 1].toNat < 256 := s[k + 1].toNat_lt
                clear hr2 hr
                go_wp2_with (at_builtin; refine wpList_append_lies _ rfl _ _ _ rfl w.heap.size 5 i0 _ 1 1 Try.underlying22 hi hz0 hz1 hz2 rfl (by omega) u6 o.length _ rfl (hown.alloc _) ⟨wr.heap.size, 0, none⟩ 1 1 [.int .u8 ((s[k + 1].toNat : Nat) : Int)] rfl rfl (World.news_of_block (cs := #[.int .u8 ((s[k + 1].toNat : Nat) : Int)]) (t := 5) (fr := (0, 0)) (heap_alloc_new wr _)) (by simp [Value.oneCell']) (by omega) (by unfold maxLen; omega) (by omega) (by simp; omega) (wr.heap.size + 1) (by simp) ?_; intro gg cap w3 hown1 hgrow hat hlt2)
                go_roundw
                case rel => exact ⟨k + 2, o ++ [s[k + 1]], by omega, by simp; omega, by go_num, HR3, by rw [cells8_append, List.length_append]; exact hown1, (hbel.alloc hbs _).grown hgrow (by simp; omega) (fun j e => (hown.lt j e).1)⟩
                case measure => simp [intOf]; omega
              · rw [dif_neg (by omega)] at hr2
                have HR3 := Lib.hid (show RV = atV s.size (mq (o ++ [s[k]]) (s.data.toList.drop (k + 1))) by rw [hr2, List.drop_eq_nil_of_le (show s.data.toList.length ≤ k + 1 by omega)]; rfl)
                have hk2n : ¬ ((k : Int) + 1) < (s.size : Int) := by omega
                clear hr2 hr
                go_wp2_with (at_builtin; refine wpList_append_lies _ rfl _ _ _ rfl w.heap.size 5 i0 _ 1 1 Try.underlying22 hi hz0 hz1 hz2 rfl (by omega) u6 o.length _ rfl (hown.alloc _) ⟨wr.heap.size, 0, none⟩ 1 1 [.int .u8 92] rfl rfl (World.news_of_block (cs := #[.int .u8 92]) (t := 5) (fr := (0, 0)) (heap_alloc_new wr _)) (by simp [Value.oneCell']) (by omega) (by unfold maxLen; omega) (by omega) (by simp; omega) (wr.heap.size + 1) (by simp) ?_; intro gg cap w3 hown1 hgrow hat hlt2)
                go_roundw
                case rel => exact ⟨k + 1, o ++ [s[k]], by omega, by simp; omega, by go_num, HR3, by rw [cells8_append, List.length_append, ← cells8_one s[k] 92 (by omega)]; exact hown1, (hbel.alloc hbs _).grown hgrow (by simp; omega) (fun j e => (hown.lt j e).1)⟩
                case measure => simp [intOf]; omega
            · rw [if_neg h92] at hr2
              have h92i : (((s[k].toNat : Nat) : Int) == 92) = false := beq_eq_false_iff_ne.2 fun h => h92 (UInt8.toNat_inj.1 (by show s[k].toNat = 92; omega))
              have HR3 := Lib.hid hr2
              clear hr2 hr h34 h92
              go_wp2_with (at_builtin; refine wpList_append_lies _ rfl _ _ _ rfl w.heap.size 5 i0 _ 1 1 Try.underlying22 hi hz0 hz1 hz2 rfl (by omega) u6 o.length _ rfl (hown.alloc _) ⟨wr.heap.size, 0, none⟩ 1 1 [.int .u8 ((s[k].toNat : Nat) : Int)] rfl rfl (World.news_of_block (cs := #[.int .u8 ((s[k].toNat : Nat) : Int)]) (t := 5) (fr := (0, 0)) (heap_alloc_new wr _)) (by simp [Value.oneCell']) (by omega) (by unfold maxLen; omega) (by omega) (by simp; omega) (wr.heap.size + 1) (by simp) ?_; intro gg cap w3 hown1 hgrow hat hlt2)
              go_roundw
              case rel => exact ⟨k + 1, o ++ [s[k]], by omega, by simp; omega, by go_num, HR3, by rw [cells8_append, List.length_append]; exact hown1, (hbel.alloc hbs _).grown hgrow (by simp; omega) (fun j e => (hown.lt j e).1)⟩
              case measure => simp [intOf]; omega
        · have hr2 := hr.out
          rw [List.drop_eq_nil_of_le (show s.data.toList.length ≤ k by omega)] at hr2
          have HR2 := Lib.hid (show RV = .tuple #[.string ⟨#[]⟩, .int .i64 (-1)] from by rw [hr2]; rfl)
          clear hr2 hr
          go_wp2
          go_ret2
          exact ⟨by rw [HR2.out]; rfl, hbel⟩
    · have HR2 := Lib.hid (show RV = .tuple #[.string ⟨#[]⟩, .int .i64 (-1)] by rw [HRV.out, drop_cons s i hlt, readM, if_neg h34]; rfl)
      have hne34 : (((s[i].toNat : Nat) : Int) != 34) = true := by
        rw [bne_iff_ne]
        exact fun h => h34 (UInt8.toNat_inj.1 (by show s[i].toNat = 34; omega))
      go_enter Try.func50, Try.ntmps50
      go_wp2
      go_ret2
      exact ⟨by rw [HR2.out]; rfl, Below.refl _ _⟩
  · have HR2 := Lib.hid (show RV = .tuple #[.string ⟨#[]⟩, .int .i64 (-1)] by rw [HRV.out, List.drop_eq_nil_of_le (show s.data.toList.length ≤ i by omega)]; rfl)
    have hil : ¬ (i : Int) < (s.size : Int) := by omega
    go_enter Try.func50, Try.ntmps50
    go_wp2
    go_ret2
    exact ⟨by rw [HR2.out]; rfl, Below.refl _ _⟩

end Fld

end Go.Proofs.Ytljifooeokhgeaa
