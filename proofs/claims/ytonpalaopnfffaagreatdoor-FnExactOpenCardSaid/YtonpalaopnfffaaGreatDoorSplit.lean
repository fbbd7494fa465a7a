/- CONTRACTS of SplitAt: the model's, by its loop. -/
import Derived.Test.YtonpalaopnfffaaGreatDoorWords

namespace Go.Proofs.YtonpalaopnfffaaGreatDoor
set_option linter.unusedVariables false
set_option maxRecDepth 4000
open Go.ChangeShapes Go.WideShapes Go.ChangeAt Go.RowKit
open Go.ChangeMaps (open_string shut_string)

/-- the parts of a text between the bytes c -/
def sAux (c : UInt8) (cur : List UInt8) : List UInt8 → List (List UInt8)
  | [] => [cur]
  | x :: r => if x = c then cur :: sAux c [] r else sAux c (cur ++ [x]) r

def splitL (c : UInt8) (l : List UInt8) : List (List UInt8) := if l = [] then [] else sAux c [] l

theorem sAux_len (c : UInt8) (l : List UInt8) : ∀ cur, (sAux c cur l).length ≤ l.length + 1 := by
  induction l with
  | nil => intro cur; simp [sAux]
  | cons x l ih =>
    intro cur
    rw [sAux]
    split
    · have := ih []; simp; omega
    · have := ih (cur ++ [x]); simp; omega

theorem splitL_len (c : UInt8) (l : List UInt8) : (splitL c l).length ≤ l.length + 1 := by
  unfold splitL
  split
  · simp
  · exact sAux_len c l []

theorem sAux_other (c : UInt8) (s : ByteArray) (i j : Nat) (hi : i ≤ j) (hj : j < s.size) (hb : s[j] ≠ c) :
    sAux c (seg s i j) (s.data.toList.drop j) = sAux c (seg s i (j + 1)) (s.data.toList.drop (j + 1)) := by
  rw [drop_cons s j hj, seg_snoc s i j hi hj]
  conv => lhs; rw [sAux]
  rw [if_neg hb]

theorem sAux_hit (c : UInt8) (s : ByteArray) (i j : Nat) (hj : j < s.size) (hb : s[j] = c) :
    sAux c (seg s i j) (s.data.toList.drop j) = seg s i j :: sAux c [] (s.data.toList.drop (j + 1)) := by
  rw [drop_cons s j hj]
  conv => lhs; rw [sAux]
  rw [if_pos hb]

theorem sAux_end (c : UInt8) (s : ByteArray) (i j : Nat) (hj : j = s.size) : sAux c (seg s i j) (s.data.toList.drop j) = [seg s i j] := by
  have : s.data.toList.drop j = [] := List.drop_eq_nil_of_le (by rw [data_length]; omega)
  rw [this, sAux]

theorem size_ne (s : ByteArray) (h : s.size ≠ 0) : s.toList.isEmpty = false := by
  rw [Lib.toList_data]
  cases hd : s.data.toList with
  | nil => have := data_length s; rw [hd] at this; simp at this; omega
  | cons a r => rfl

theorem splitL_ne (c : UInt8) (s : ByteArray) (h : s.size ≠ 0) : splitL c s.data.toList = sAux c [] s.data.toList := by
  unfold splitL
  rw [if_neg]
  intro e
  have := data_length s
  rw [e] at this
  simp at this
  omega

set_option maxHeartbeats 400000 in
theorem split_spec (s : ByteArray) (c : UInt8) (w : World) (hs : s.size ≤ 1048576) :
    Calls Tryz.prog 23 #[.string s, .int .u8 c.toNat] w fun e w' => ∃ v, e = .returned v ∧ w'.ownsRow w.heap.size 9 1 v (splitL c s.data.toList).length (strs (splitL c s.data.toList)) ∧ Below w.heap.size w w' := by
  obtain ⟨i0, hi, hz0, hz1, hz2⟩ := info_parts Tryz.info9
  have hc256 := c.toNat_lt
  by_cases h0 : s.size = 0
  · obtain rfl := empty_of s h0
    go_enter Tryz.func23, Tryz.ntmps23
    go_wp2
    go_ret
    exact ⟨_, rfl, World.ownsRow_made w #[] 0 (Nat.le_refl _) (by simp) rfl, (Below.refl _ w).alloc (Nat.le_refl _) _⟩
  · have hne := size_ne s h0
    have HS := Lib.hid (splitL_ne c s h0)
    go_enter Tryz.func23, Tryz.ntmps23
    go_wp2
    go_loopw [5, 6, 7] (fun v f i wr => ∃ (acc : List (List UInt8)) (st k : Nat), st ≤ k ∧ k ≤ s.size ∧ acc.length ≤ st ∧ i = .int .i64 k ∧ f = .int .i64 st ∧ wr.ownsRow w.heap.size 9 1 v acc.length (strs acc) ∧ Below w.heap.size w wr ∧ Hid (acc ++ sAux c (seg s st k) (s.data.toList.drop k) = splitL c s.data.toList)) (fun _ _ i _ => s.size - (intOf i).toNat)
    case atStart => exact ⟨[], 0, 0, by omega, by omega, by simp, rfl, rfl, World.ownsRow_made w #[] 0 (Nat.le_refl _) (by simp) rfl, (Below.refl _ w).alloc (Nat.le_refl _) _, Lib.hid (by rw [HS.out, seg_nil]; rfl)⟩
    case round =>
      obtain ⟨acc, st, k, hsk, hk1, hak, rfl, rfl, hown, hbel, HW⟩ := hrel
      by_cases hlt : k < s.size
      · have h256 : s[k].toNat < 256 := s[k].toNat_lt
        by_cases hb : s[k] = c
        · have hg := sAux_hit c s st k hlt hb
          have HG := Lib.hid hg
          have hbe : (((s[k].toNat : Nat) : Int) == ((c.toNat : Nat) : Int)) = true := by rw [hb]; simp
          clear hg hb
          go_wp2_with (at_builtin; refine wpList_append_lies _ rfl _ _ _ rfl w.heap.size 9 i0 _ 1 16 Tryz.underlying47 hi hz0 hz1 hz2 rfl (by omega) _ acc.length _ rfl (hown.alloc _) ⟨wr.heap.size, 0, none⟩ 1 1 [.string (s.extract st k)] rfl rfl (World.news_of_block (cs := #[.string (s.extract st k)]) (t := 9) (fr := (0, 0)) (heap_alloc_new wr _)) (by simp [Value.oneCell']) (by omega) (by unfold maxLen; omega) (by omega) (by simp; have := hbel.size; omega) (wr.heap.size + 1) (by simp) ?_; intro gg cap w1 hown1 hgrow hat hlt2)
          go_roundw
          case rel =>
            refine ⟨acc ++ [seg s st k], k + 1, k + 1, by omega, by omega, by simp; omega, by go_num, by go_num, ?_, (hbel.alloc hbel.size _).grown hgrow (by simp; have := hbel.size; omega) (fun g e => (hown.lt g e).1), Lib.hid (by rw [seg_nil, ← HW.out, HG.out]; simp)⟩
            rw [strs_append, ← strs_one s st k]
            simpa using hown1
          case measure => simp [intOf]; omega
        · have hbe : (((s[k].toNat : Nat) : Int) == ((c.toNat : Nat) : Int)) = false := by
            simp; intro e; exact hb (UInt8.toNat_inj.1 (by omega))
          have HG := Lib.hid (sAux_other c s st k hsk hlt hb)
          clear hb
          go_wp2
          go_roundw
          case rel => exact ⟨acc, st, k + 1, by omega, by omega, by omega, by go_num, rfl, hown, hbel, Lib.hid (by rw [← HG.out]; exact HW.out)⟩
          case measure => simp [intOf]; omega
      · have HE := Lib.hid (sAux_end c s st k (by omega))
        have hks : k = s.size := by omega
        go_wp2_with (at_builtin; refine wpList_append_lies _ rfl _ _ _ rfl w.heap.size 9 i0 _ 1 16 Tryz.underlying47 hi hz0 hz1 hz2 rfl (by omega) _ acc.length _ rfl (hown.alloc _) ⟨wr.heap.size, 0, none⟩ 1 1 [.string (s.extract st s.size)] rfl rfl (World.news_of_block (cs := #[.string (s.extract st s.size)]) (t := 9) (fr := (0, 0)) (heap_alloc_new wr _)) (by simp [Value.oneCell']) (by omega) (by unfold maxLen; omega) (by omega) (by simp; have := hbel.size; omega) (wr.heap.size + 1) (by simp) ?_; intro gg cap w1 hown1 hgrow hat hlt2)
        go_ret
        refine ⟨_, rfl, ?_, (hbel.alloc hbel.size _).grown hgrow (by simp; have := hbel.size; omega) (fun g e => (hown.lt g e).1)⟩
        rw [← HW.out, HE.out, hks, strs_append, ← strs_one s st s.size]
        simpa using hown1

end Go.Proofs.YtonpalaopnfffaaGreatDoor
