/- CONTRACTS of the model's l03Pad, Mac, Stretch, NewName. -/
import Derived.Test.YtonpalaopnfffaaGreatDoorShaS
namespace Go.Proofs.YtonpalaopnfffaaGreatDoor
set_option linter.unusedVariables false
set_option maxRecDepth 4000
open Go.ChangeShapes Go.WideShapes Go.ChangeAt Go.RowKit
open Go.ChangeMaps (open_string shut_string)
open Sh

namespace Mk

theorem xor54 : ∀ p : Fin 256, bits .xor .u8 (p.val : Int) 54 = (((UInt8.ofNat p.val ^^^ 54).toNat : Nat) : Int) := by decide +kernel
theorem xor92 : ∀ p : Fin 256, bits .xor .u8 (p.val : Int) 92 = (((UInt8.ofNat p.val ^^^ 92).toNat : Nat) : Int) := by decide +kernel

theorem xor_u8 (b m : UInt8) (hm : m = 54 ∨ m = 92) : bits .xor .u8 ((b.toNat : Nat) : Int) ((m.toNat : Nat) : Int) = (((b ^^^ m).toNat : Nat) : Int) := by
  have hb : UInt8.ofNat b.toNat = b := by simp
  rcases hm with rfl | rfl
  · have := xor54 ⟨b.toNat, b.toNat_lt⟩
    simp only [hb] at this
    exact this
  · have := xor92 ⟨b.toNat, b.toNat_lt⟩
    simp only [hb] at this
    exact this

theorem grown_trans2 {a b c : World} {row : Option Nat} (h : a.grownBy b row) (k : b.grownBy c row) : a.grownBy c row :=
  ⟨k.os.trans h.os, k.tape.trans h.tape, k.output.trans h.output, Nat.le_trans h.size k.size, fun i hi hr => (k.block i (Nat.lt_of_lt_of_le hi h.size) hr).trans (h.block i hi hr)⟩

/-- sixty-four bytes: a text, noughts behind it -/
def filL (K : List UInt8) : List UInt8 := K ++ List.replicate (64 - K.length) 0

theorem filL_len (K : List UInt8) (h : K.length ≤ 64) : (filL K).length = 64 := by simp [filL]; omega

/-- the first k of them turned by the mask -/
def mixK (K : List UInt8) (m : UInt8) (k : Nat) (rest : List UInt8) : List UInt8 := ((filL K).take k).map (· ^^^ m) ++ rest

def padT (K : List UInt8) (m : UInt8) (k : Nat) : List UInt8 := mixK K m k (List.replicate (64 - k) 0)

theorem padT_len (K : List UInt8) (m : UInt8) (k : Nat) (h : K.length ≤ 64) (hk : k ≤ 64) : (padT K m k).length = 64 := by
  have := filL_len K h
  simp [padT, mixK]; omega

theorem made64 : (madeCells (Value.int .u8 0).cells (64 * 1)).toList = cells8 (List.replicate 64 0) := by kernel_rfl

theorem padT_zero (K : List UInt8) (m : UInt8) : padT K m 0 = List.replicate 64 0 := by simp [padT, mixK]

theorem padT_set (K : List UInt8) (m : UInt8) (k : Nat) (h : K.length ≤ 64) (hk : k < 64) : (padT K m k).set k ((filL K).getD k 0 ^^^ m) = padT K m (k + 1) := by
  have hl := filL_len K h
  have e2 : (((filL K).take k).map (· ^^^ m)).length = k := by simp; omega
  have e3 : (filL K).take (k + 1) = (filL K).take k ++ [(filL K)[k]] := by rw [List.take_succ_eq_append_getElem (by omega)]
  have e4 : (filL K).getD k 0 = (filL K)[k]'(by omega) := by rw [List.getD_eq_getElem?_getD, List.getElem?_eq_getElem (by omega)]; rfl
  have e5 : List.replicate (64 - k) (0 : UInt8) = 0 :: List.replicate (64 - (k + 1)) 0 := by rw [show 64 - k = (64 - (k + 1)) + 1 by omega, List.replicate_succ]
  unfold padT mixK
  rw [List.set_append_right _ _ (by omega), e2, Nat.sub_self, e5, List.set_cons_zero, e3, e4, List.map_append]
  simp only [List.map_cons, List.map_nil, List.append_assoc, List.singleton_append]

theorem padT_get (K : List UInt8) (m : UInt8) (k : Nat) (h : K.length ≤ 64) (hk : k < 64) : (cells8 (padT K m k))[k]? = some (.int .u8 0) := by
  have hl := filL_len K h
  have e2 : (((filL K).take k).map (· ^^^ m)).length = k := by simp; omega
  unfold padT mixK
  rw [cells8_append, List.getElem?_append_right (by rw [cells8_len]; omega), cells8_len, e2, Nat.sub_self, show 64 - k = (64 - (k + 1)) + 1 by omega, List.replicate_succ]
  rfl

theorem cells8_set (l : List UInt8) (k : Nat) (b : UInt8) : (cells8 l).set k (.int .u8 ((b.toNat : Nat) : Int)) = cells8 (l.set k b) := by simp [cells8, List.map_set]

theorem padT_end (K : List UInt8) (m : UInt8) (h : K.length ≤ 64) : padT K m 64 = (filL K).map (· ^^^ m) := by
  have hl := filL_len K h
  unfold padT mixK
  rw [List.take_of_length_le (by omega)]
  simp

theorem fil_in (K : List UInt8) (k : Nat) (hk : k < K.length) : (filL K).getD k 0 = K[k] := by
  rw [filL, List.getD_eq_getElem?_getD, List.getElem?_append_left hk, List.getElem?_eq_getElem hk]; rfl

theorem fil_out (K : List UInt8) (k : Nat) (hk : K.length ≤ k) : (filL K).getD k 0 = 0 := by
  rw [filL, List.getD_eq_getElem?_getD, List.getElem?_append_right hk, List.getElem?_replicate]
  split <;> rfl

theorem cut_txtS (R : List UInt8) (i j : Nat) (hj : j ≤ R.length) : (txt R).extract i j = txt ((R.drop i).take (j - i)) := by
  rw [← txt_of ((txt R).extract i j)]
  congr 1
  simp only [txt, ByteArray.data_extract, Array.toList_extract]

theorem itoa_short (n : Int) (h1 : -9223372036854775808 ≤ n) (h2 : n ≤ 9223372036854775807) : (Lib.itoa n).length ≤ 64 := Nat.le_trans (Lib.itoa_length_le n h1 h2) (by omega)

set_option maxHeartbeats 1600000 in
theorem pad_spec (s : ByteArray) (m : UInt8) (hm : m = 54 ∨ m = 92) (hs : s.size ≤ 16777216) (w : World) :
    Calls Tryz.prog 74 #[.string s, .int .u8 ((m.toNat : Nat) : Int)] w fun e w' => e = .returned (.string (txt (padK s.data.toList m))) ∧ Below w.heap.size w w' := by
  obtain ⟨i0, hi, hz0, hz1, hz2⟩ := info_parts Tryz.info5
  have hm256 : m.toNat < 256 := m.toNat_lt
  obtain ⟨R, hR⟩ : ∃ R, R = padK s.data.toList m := ⟨_, rfl⟩
  have HR := Lib.hid hR
  rw [← hR]
  clear hR
  by_cases h64 : 64 < s.size
  · have S1 := Lib.hid (fun wx => sha_spec s hs wx)
    obtain ⟨S, hS⟩ : ∃ S, S = txt (shaL s.data.toList) := ⟨_, rfl⟩
    rw [← hS] at S1
    have hsz : S.size ≤ 64 := by rw [hS, txt_size, sha_len]; omega
    have HP := Lib.hid (show R = (filL S.data.toList).map (· ^^^ m) by rw [HR.out, hS, txt_toList]; unfold padK keyL filL; rw [if_pos (by rw [data_length]; exact h64)])
    clear hS
    go_enter Tryz.func74, Tryz.ntmps74
    go_wp2_with fail
    refine (S1.out _).mono ?_
    rintro e w1 ⟨rfl, b1⟩
    obtain ⟨w2, hmk, hrow, hgr⟩ := run_make_full (P := Tryz.prog) w1 w.heap.size 34 5 i0 _ 1 Tryz.underlying34 hi hz0 hz1 .i64 .i64 64 (by rw [hz2]; omega) (by unfold maxLen; omega) b1.size
    have hrow : w2.ownsRow w.heap.size 5 1 (.slice (some ⟨w1.heap.size, 0, none⟩) 64 64) 64 (cells8 (padT S.data.toList m 0)) := by rw [padT_zero]; exact made64 ▸ hrow
    have hb2 := b1.grown hgr b1.size (fun j e => by cases e)
    simp only [Int.ofNat_eq_natCast, Int.cast_ofNat_Int] at hmk
    have hbx := b1.size
    clear hgr
    go_wp2
    go_loopw [6] (fun i wr => ∃ k : Nat, k ≤ 64 ∧ i = .int .i64 k ∧ wr.ownsRow w.heap.size 5 1 (.slice (some ⟨w1.heap.size, 0, none⟩) 64 64) 64 (cells8 (padT S.data.toList m k)) ∧ Below w.heap.size w wr) (fun i _ => 64 - (intOf i).toNat)
    case atStart => exact ⟨0, by omega, rfl, hrow, hb2⟩
    case round =>
      clear hmk hrow hb2
      obtain ⟨k, hk, rfl, hown, hbel⟩ := hrel
      by_cases hlt : k < 64
      · have hdl := data_length S
        have hi0 : (0 : Int) ≤ (k : Int) := by omega
        have hi1 : (k : Int) < 64 := by omega
        have c1 := (hown.cellAt k (by omega)).trans (padT_get S.data.toList m k (by omega) hlt)
        have f1 := hown.frozenAt k
        have hst := hown.stored k (.int .u8 ((((filL S.data.toList).getD k 0 ^^^ m).toNat : Nat) : Int))
        have hr2 := hst.1
        rw [cells8_set, padT_set S.data.toList m k (by omega) hlt] at hr2
        have hb3 := hbel.grown hst.2 hbel.size (fun j e => (hown.lt j e).1)
        have hx := xor_u8 ((filL S.data.toList).getD k 0) m hm
        by_cases hin : k < S.size
        · have hfi := fil_in S.data.toList k (by omega)
          have hge : S.data.toList[k]'(by omega) = S[k] := rfl
          have hin2 : (k : Int) < (S.size : Int) := by omega
          rw [hfi, hge] at hx hr2 hb3 hst
          have h256 : S[k].toNat < 256 := S[k].toNat_lt
          have hstA := hown.stored k (.int .u8 ((S[k].toNat : Nat) : Int))
          have hstB := hstA.1.stored k (.int .u8 (((S[k] ^^^ m).toNat : Nat) : Int))
          have hr3 := hstB.1
          rw [List.set_set, cells8_set, ← hge, ← hfi, padT_set S.data.toList m k (by omega) hlt, hfi, hge] at hr3
          have hb4 := hbel.grown (grown_trans2 hstA.2 hstB.2) hbel.size (fun j e => (hown.lt j e).1)
          clear hfi hge hst hstA hstB hr2 hb3
          generalize ((S[k] ^^^ m).toNat : Int) = xv at hx hr3 hb4
          go_wp2
          exact ⟨⟨k + 1, by omega, by go_num, hr3, hb4⟩, by simp [intOf]; omega⟩
        · have hfi := fil_out S.data.toList k (by omega)
          have hin2 : ¬ (k : Int) < (S.size : Int) := by omega
          rw [hfi] at hx hr2 hb3 hst
          have hz : (((0 : UInt8).toNat : Nat) : Int) = 0 := rfl
          rw [hz] at hx
          clear hfi hst
          generalize ((((0 : UInt8) ^^^ m).toNat : Nat) : Int) = xv at hx hr2 hb3
          go_wp2
          exact ⟨⟨k + 1, by omega, by go_num, hr2, hb3⟩, by simp [intOf]; omega⟩
      · obtain rfl : k = 64 := by omega
        have hdl := data_length S
        have hE := padT_end S.data.toList m (by omega)
        rw [hE] at hown
        have hcv := bytes_back_own (P := Tryz.prog) wr 34 9 5 w.heap.size (.slice (some ⟨w1.heap.size, 0, none⟩) 64 64) 64 ((filL S.data.toList).map (· ^^^ m)) (by rw [List.length_map, filL_len _ (by omega)]) Tryz.underlying34 Tryz.underlying5 Tryz.underlying9 hown
        rw [← HP.out] at hcv
        clear hE hown
        go_wp2
        go_ret
        exact ⟨rfl, hbel⟩
  · obtain ⟨S, hS⟩ : ∃ S, S = s := ⟨_, rfl⟩
    have hsz : S.size ≤ 64 := by rw [hS]; omega
    have HP := Lib.hid (show R = (filL S.data.toList).map (· ^^^ m) by rw [HR.out, hS]; unfold padK keyL filL; rw [if_neg (by rw [data_length]; exact h64)])
    subst hS
    have b0 : Below w.heap.size w w := Below.refl _ _
    go_enter Tryz.func74, Tryz.ntmps74
    obtain ⟨w2, hmk, hrow, hgr⟩ := run_make_full (P := Tryz.prog) w w.heap.size 34 5 i0 _ 1 Tryz.underlying34 hi hz0 hz1 .i64 .i64 64 (by rw [hz2]; omega) (by unfold maxLen; omega) b0.size
    have hrow : w2.ownsRow w.heap.size 5 1 (.slice (some ⟨w.heap.size, 0, none⟩) 64 64) 64 (cells8 (padT S.data.toList m 0)) := by rw [padT_zero]; exact made64 ▸ hrow
    have hb2 := b0.grown hgr b0.size (fun j e => by cases e)
    simp only [Int.ofNat_eq_natCast, Int.cast_ofNat_Int] at hmk
    have hbx := b0.size
    clear hgr
    go_wp2
    go_loopw [6] (fun i wr => ∃ k : Nat, k ≤ 64 ∧ i = .int .i64 k ∧ wr.ownsRow w.heap.size 5 1 (.slice (some ⟨w.heap.size, 0, none⟩) 64 64) 64 (cells8 (padT S.data.toList m k)) ∧ Below w.heap.size w wr) (fun i _ => 64 - (intOf i).toNat)
    case atStart => exact ⟨0, by omega, rfl, hrow, hb2⟩
    case round =>
      clear hmk hrow hb2
      obtain ⟨k, hk, rfl, hown, hbel⟩ := hrel
      by_cases hlt : k < 64
      · have hdl := data_length S
        have hi0 : (0 : Int) ≤ (k : Int) := by omega
        have hi1 : (k : Int) < 64 := by omega
        have c1 := (hown.cellAt k (by omega)).trans (padT_get S.data.toList m k (by omega) hlt)
        have f1 := hown.frozenAt k
        have hst := hown.stored k (.int .u8 ((((filL S.data.toList).getD k 0 ^^^ m).toNat : Nat) : Int))
        have hr2 := hst.1
        rw [cells8_set, padT_set S.data.toList m k (by omega) hlt] at hr2
        have hb3 := hbel.grown hst.2 hbel.size (fun j e => (hown.lt j e).1)
        have hx := xor_u8 ((filL S.data.toList).getD k 0) m hm
        by_cases hin : k < S.size
        · have hfi := fil_in S.data.toList k (by omega)
          have hge : S.data.toList[k]'(by omega) = S[k] := rfl
          have hin2 : (k : Int) < (S.size : Int) := by omega
          rw [hfi, hge] at hx hr2 hb3 hst
          have h256 : S[k].toNat < 256 := S[k].toNat_lt
          have hstA := hown.stored k (.int .u8 ((S[k].toNat : Nat) : Int))
          have hstB := hstA.1.stored k (.int .u8 (((S[k] ^^^ m).toNat : Nat) : Int))
          have hr3 := hstB.1
          rw [List.set_set, cells8_set, ← hge, ← hfi, padT_set S.data.toList m k (by omega) hlt, hfi, hge] at hr3
          have hb4 := hbel.grown (grown_trans2 hstA.2 hstB.2) hbel.size (fun j e => (hown.lt j e).1)
          clear hfi hge hst hstA hstB hr2 hb3
          generalize ((S[k] ^^^ m).toNat : Int) = xv at hx hr3 hb4
          go_wp2
          exact ⟨⟨k + 1, by omega, by go_num, hr3, hb4⟩, by simp [intOf]; omega⟩
        · have hfi := fil_out S.data.toList k (by omega)
          have hin2 : ¬ (k : Int) < (S.size : Int) := by omega
          rw [hfi] at hx hr2 hb3 hst
          have hz : (((0 : UInt8).toNat : Nat) : Int) = 0 := rfl
          rw [hz] at hx
          clear hfi hst
          generalize ((((0 : UInt8) ^^^ m).toNat : Nat) : Int) = xv at hx hr2 hb3
          go_wp2
          exact ⟨⟨k + 1, by omega, by go_num, hr2, hb3⟩, by simp [intOf]; omega⟩
      · obtain rfl : k = 64 := by omega
        have hdl := data_length S
        have hE := padT_end S.data.toList m (by omega)
        rw [hE] at hown
        have hcv := bytes_back_own (P := Tryz.prog) wr 34 9 5 w.heap.size (.slice (some ⟨w.heap.size, 0, none⟩) 64 64) 64 ((filL S.data.toList).map (· ^^^ m)) (by rw [List.length_map, filL_len _ (by omega)]) Tryz.underlying34 Tryz.underlying5 Tryz.underlying9 hown
        rw [← HP.out] at hcv
        clear hE hown
        go_wp2
        go_ret
        exact ⟨rfl, hbel⟩

set_option maxHeartbeats 800000 in
theorem mac_spec (k s : ByteArray) (hk : k.size ≤ 1048576) (hs : s.size ≤ 1048576) (w : World) :
    Calls Tryz.prog 55 #[.string k, .string s] w fun e w' => e = .returned (.string (txt (macL k.data.toList s.data.toList))) ∧ Below w.heap.size w w' := by
  have P1 := Lib.hid (fun wx => pad_spec k 92 (.inr rfl) (by omega) wx)
  have P2 := Lib.hid (fun wx => pad_spec k 54 (.inl rfl) (by omega) wx)
  have e1 : (((92 : UInt8).toNat : Nat) : Int) = 92 := rfl
  have e2 : (((54 : UInt8).toNat : Nat) : Int) = 54 := rfl
  rw [e1] at P1
  rw [e2] at P2
  clear e1 e2
  have hl1 := padK_len k.data.toList 92
  have hl2 := padK_len k.data.toList 54
  have HM := Lib.hid (show macL k.data.toList s.data.toList = shaL (padK k.data.toList 92 ++ shaL (padK k.data.toList 54 ++ s.data.toList)) from rfl)
  generalize padK k.data.toList 92 = A at P1 hl1 HM
  generalize padK k.data.toList 54 = B at P2 hl2 HM
  have hdl := data_length s
  have hadd := fun wx => add_txt (P := Tryz.prog) B s.data.toList (by omega) wx
  rw [txt_of] at hadd
  have S1 := Lib.hid (fun wx => sha_spec (txt (B ++ s.data.toList)) (by rw [txt_size, List.length_append]; omega) wx)
  simp only [txt_toList] at S1
  have hl3 := sha_len (B ++ s.data.toList)
  generalize shaL (B ++ s.data.toList) = D at S1 HM hl3
  have hadd2 := fun wx => add_txt (P := Tryz.prog) A D (by omega) wx
  have S2 := Lib.hid (fun wx => sha_spec (txt (A ++ D)) (by rw [txt_size, List.length_append]; omega) wx)
  simp only [txt_toList] at S2
  rw [← HM.out] at S2
  go_enter Tryz.func55, Tryz.ntmps55
  go_wp2_with fail
  refine (P1.out _).mono ?_
  rintro e w1 ⟨rfl, b1⟩
  go_wp2_with fail
  refine (P2.out _).mono ?_
  rintro e w2 ⟨rfl, b2⟩
  go_wp2_with fail
  refine (S1.out _).mono ?_
  rintro e w3 ⟨rfl, b3⟩
  go_wp2_with fail
  refine (S2.out _).mono ?_
  rintro e w4 ⟨rfl, b4⟩
  go_wp2
  go_ret
  exact ⟨rfl, bstep (bstep (bstep b1 b2) b3) b4⟩

theorem timesN_is (t : Int) : (timesN t = 1 ∧ t ≤ 1) ∨ (timesN t = 50 ∧ 50 ≤ t) ∨ (1 < t ∧ t < 50 ∧ ((timesN t : Nat) : Int) = t) := by
  unfold timesN
  by_cases h1 : t ≤ 1
  · rw [if_pos h1]; exact .inl ⟨rfl, h1⟩
  · rw [if_neg h1]
    by_cases h2 : 50 ≤ t
    · rw [if_pos h2]; exact .inr (.inl ⟨rfl, h2⟩)
    · rw [if_neg h2]; exact .inr (.inr ⟨by omega, by omega, by omega⟩)

theorem strN_len (n : Nat) (k l : List UInt8) (h : l.length ≤ 1048576) : (strN n k l).length ≤ 1048576 := by
  induction n generalizing l with
  | zero => exact h
  | succ n ih => rw [strN]; exact ih _ (by rw [mac_len]; omega)

end Mk

end Go.Proofs.YtonpalaopnfffaaGreatDoor
