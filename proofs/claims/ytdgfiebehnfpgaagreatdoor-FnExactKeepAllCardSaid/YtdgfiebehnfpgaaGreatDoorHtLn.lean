/- CONTRACT of the model's l05Lines; rows of texts that lie anywhere. -/
import Derived.Test.YtdgfiebehnfpgaaGreatDoorHtL
import Derived.IntWalk
namespace Go.Proofs.YtdgfiebehnfpgaaGreatDoor
set_option linter.unusedVariables false
set_option maxRecDepth 4000
open Go.ChangeShapes Go.WideShapes Go.ChangeAt Go.RowKit
open Go.ChangeMaps (open_string shut_string)

namespace Ht

/-- texts of a row, wherever it lies -/
def TAt (w : World) (v : Value) (l : List (List UInt8)) : Prop := ∃ a cap, v = .slice a l.length cap ∧ l.length ≤ cap ∧
  (l.length = 0 ∨ ∃ g off, a = some ⟨g, off, none⟩ ∧ g < w.heap.size ∧ ∀ i (h : i < l.length), w.cell? ⟨g, off + i, none⟩ = some (.string (txt l[i])))

theorem tat_below {w w' : World} {v : Value} {l : List (List UInt8)} (h : TAt w v l) (hb : Below w.heap.size w w') : TAt w' v l := by
  obtain ⟨a, cap, rfl, hc, h | ⟨g, off, rfl, hg, hc2⟩⟩ := h
  · exact ⟨a, cap, rfl, hc, .inl h⟩
  · exact ⟨_, cap, rfl, hc, .inr ⟨g, off, rfl, Nat.lt_of_lt_of_le hg hb.size, fun i hi => (hb.cell (p := ⟨g, _, none⟩) hg).trans (hc2 i hi)⟩⟩

theorem tat_own {w : World} {base : Nat} {v : Value} {l : List (List UInt8)} (h : w.ownsRow base 9 1 v l.length (strs l)) : TAt w v l := by
  obtain ⟨a, cap, rfl⟩ := own_val h
  have hcap : l.length ≤ cap := by
    rcases h.2 with ⟨h0, h1⟩ | ⟨g', cap', cur, h0, _, _, hnc, _⟩
    · simp only [Value.slice.injEq] at h0
      omega
    · simp only [Value.slice.injEq] at h0
      omega
  by_cases h0 : l.length = 0
  · exact ⟨a, cap, rfl, hcap, .inl h0⟩
  · obtain ⟨g, rfl, hg1, hg2⟩ := own_at h (by omega)
    exact ⟨_, cap, rfl, hcap, .inr ⟨g, 0, rfl, hg2, fun i hi => by
      have := own_cell h i hi rfl
      rw [Nat.zero_add]
      exact this⟩⟩

theorem tat_cell {w : World} {v : Value} {l : List (List UInt8)} (h : TAt w v l) (k : Nat) (hk : k < l.length) :
    ∃ g off cap, v = .slice (some ⟨g, off, none⟩) l.length cap ∧ l.length ≤ cap ∧ g < w.heap.size ∧ w.cell? ⟨g, off + k, none⟩ = some (.string (txt l[k])) := by
  obtain ⟨a, cap, rfl, hcap, h0 | ⟨g, off, rfl, hg, hc⟩⟩ := h
  · omega
  · exact ⟨g, off, cap, rfl, hcap, hg, hc k hk⟩

/-- the row of the texts behind the first one -/
theorem tat_tail {w : World} {g off n cap : Nat} {x : List UInt8} {l : List (List UInt8)} (h : TAt w (.slice (some ⟨g, off, none⟩) n cap) (x :: l)) : TAt w (.slice (some ⟨g, off + 1, none⟩) l.length (cap - 1)) l := by
  obtain ⟨a, cap', he, hcap, h0 | ⟨g', off', ha, hg, hc⟩⟩ := h
  · simp at h0
  · simp only [Value.slice.injEq] at he
    obtain ⟨rfl, _, rfl⟩ := he
    simp only [Option.some.injEq, Addr.mk.injEq] at ha
    obtain ⟨rfl, rfl, _⟩ := ha
    simp only [List.length_cons] at hcap hc
    exact ⟨_, _, rfl, by omega, .inr ⟨g, off + 1, rfl, hg, fun i hi => by
      have := hc (i + 1) (by omega)
      rw [show off + 1 + i = off + (i + 1) by omega]
      simpa using this⟩⟩

/-- what the reading of lines hands back -/
def LinesP (base : Nat) (e : Ending) (w : World) : Option (List (List UInt8) × List UInt8) → Prop
  | some (ls, b) => ∃ v, e = .returned (.tuple #[v, .string (txt b), .bool true]) ∧ w.ownsRow base 9 1 v ls.length (strs ls)
  | none => ∃ v, e = .returned (.tuple #[v, .string ⟨#[]⟩, .bool false])

theorem scan_hit {s : ByteArray} {acc : List (List UInt8)} {st k : Nat} (hst : st ≤ k) (hk : k + 1 < s.size) (h1 : s[k] = 13) (h2 : s[k + 1] = 10) :
    scanA acc (seg s st k) (s.data.toList.drop k) = if st = k then some (acc, s.data.toList.drop (k + 2)) else scanA (acc ++ [seg s st k]) (seg s (k + 2) (k + 2)) (s.data.toList.drop (k + 2)) := by
  rw [drop_cons s k (by omega), drop_cons s (k + 1) hk, h1, h2, seg_nil]
  show (if (13 : UInt8) = 13 ∧ (10 : UInt8) = 10 then _ else _) = _
  rw [if_pos ⟨rfl, rfl⟩]
  by_cases h : st = k
  · rw [if_pos h, h, seg_nil, if_pos rfl]
  · rw [if_neg h, if_neg (seg_ne s st k (by omega) (by omega))]

theorem scan_miss {s : ByteArray} {acc : List (List UInt8)} {st k : Nat} (hst : st ≤ k) (hk : k + 1 < s.size) (h : ¬ (s[k] = 13 ∧ s[k + 1] = 10)) :
    scanA acc (seg s st k) (s.data.toList.drop k) = scanA acc (seg s st (k + 1)) (s.data.toList.drop (k + 1)) := by
  rw [seg_snoc s st k hst (by omega)]
  conv => lhs; rw [drop_cons s k (by omega), drop_cons s (k + 1) hk]
  rw [drop_cons s (k + 1) hk]
  show (if s[k] = 13 ∧ s[k + 1] = 10 then _ else _) = _
  rw [if_neg h]

theorem scan_over {s : ByteArray} {acc : List (List UInt8)} {cur : List UInt8} {k : Nat} (hk : ¬ k + 1 < s.size) : scanA acc cur (s.data.toList.drop k) = none := by
  by_cases h : k < s.size
  · rw [drop_cons s k h, List.drop_eq_nil_of_le (by rw [data_length]; omega)]
    rfl
  · rw [List.drop_eq_nil_of_le (by rw [data_length]; omega)]
    rfl

theorem int_byte (c n : UInt8) (h : ((c.toNat : Nat) : Int) = ((n.toNat : Nat) : Int)) : c = n := UInt8.toNat_inj.1 (by omega)

set_option maxHeartbeats 3200000 in
theorem lines_spec (s : ByteArray) (w : World) (hs : s.size ≤ 1048576) :
    Calls Tryz.prog 47 #[.string s] w fun e w' => LinesP w.heap.size e w' (scanL s.data.toList) ∧ Below w.heap.size w w' := by
  obtain ⟨i0, hi, hz0, hz1, hz2⟩ := info_parts Tryz.info9
  have HR := Lib.hid (show scanL s.data.toList = scanA [] (seg s 0 0) (s.data.toList.drop 0) by rw [seg_nil, List.drop_zero]; rfl)
  generalize scanL s.data.toList = R at HR ⊢
  go_enter Tryz.func47, Tryz.ntmps47
  go_wp2
  go_loopw [5, 6, 7] (fun v fr i wr => ∃ (acc : List (List UInt8)) (st k : Nat), st ≤ k ∧ k ≤ s.size ∧ acc.length ≤ k ∧ fr = .int .i64 st ∧ i = .int .i64 k ∧ Hid (R = scanA acc (seg s st k) (s.data.toList.drop k)) ∧ wr.ownsRow w.heap.size 9 1 v acc.length (strs acc) ∧ Below w.heap.size w wr) (fun _ _ i _ => s.size - (intOf i).toNat)
  case atStart => exact ⟨[], 0, 0, by omega, by omega, by simp, rfl, rfl, HR, World.ownsRow_made w #[] 0 (Nat.le_refl _) (by simp) rfl, (Below.refl _ w).alloc (Nat.le_refl _) _⟩
  case round =>
    obtain ⟨acc, st, k, hst, hk, hak, rfl, rfl, hr, hrow, hbel⟩ := hrel
    have hbs := hbel.size
    by_cases hlt : k + 1 < s.size
    · have h256 : s[k].toNat < 256 := s[k].toNat_lt
      have hi0 : (0 : Int) ≤ (k : Int) := by omega
      have hi1 : (k : Int) < (s.size : Int) := by omega
      have hj0 : (0 : Int) ≤ (k : Int) + 1 := by omega
      have hj1 : (k : Int) + 1 < (s.size : Int) := by omega
      have hjt : ((k : Int) + 1).toNat = k + 1 := by omega
      by_cases e1 : ((s[k].toNat : Nat) : Int) = 13
      · by_cases e2 : ((s[k + 1].toNat : Nat) : Int) = 10
        · have hr2 := hr.out
          rw [scan_hit hst hlt (int_byte s[k] 13 e1) (int_byte s[k + 1] 10 e2)] at hr2
          by_cases hsk : st = k
          · rw [if_pos hsk] at hr2
            have HR2 := Lib.hid hr2
            subst hsk
            have hw2 : IntKind.i64.wrap ((st : Int) + 2) = (st : Int) + 2 := IntWalk.i64_in _ (by omega)
            have hsl : ∀ wx, (Instr.slice 9 (.string s) (some (.int .i64 ((st : Int) + 2))) none none).run Tryz.prog wx = .ok (.string (txt (s.data.toList.drop (st + 2)))) wx := fun wx => by
              rw [run_slice_string_l wx 9 s Tryz.underlying9 .i64 ((st : Int) + 2) (by omega) (by omega)]
              have e1 : ((st : Int) + 2).toNat = st + 2 := by omega
              rw [e1, Lib.extract_from]
              rfl
            clear hr2 hr
            go_wp2
            go_quiet (fail)
            go_wp2
            go_ret3
            exact ⟨by rw [HR2.out]; exact ⟨_, rfl, hrow⟩, below_drewN hbel _⟩
          · rw [if_neg hsk] at hr2
            have HR2 := Lib.hid hr2
            have hne : ((k : Int) == (st : Int)) = false := by
              rw [Bool.eq_false_iff]
              intro e
              have := eq_of_beq e
              omega
            have hsl : ∀ wx, (Instr.slice 9 (.string s) (some (.int .i64 (st : Int))) (some (.int .i64 (k : Int))) none).run Tryz.prog wx = .ok (.string (txt (seg s st k))) wx := fun wx => by
              rw [run_slice_string wx 9 s .i64 .i64 _ _ Tryz.underlying9 (by omega) (by omega) (by omega)]
              have e1 : ((st : Int)).toNat = st := by omega
              have e2 : ((k : Int)).toNat = k := by omega
              rw [e1, e2, extract_seg]
            generalize seg s st k = x at hsl HR2
            clear hr2 hr hsk
            go_wp2_with (at_builtin; (refine wpList_append_lies _ rfl _ _ _ rfl w.heap.size 9 i0 _ 1 16 Tryz.underlying59 hi hz0 hz1 hz2 rfl (by omega) u5 acc.length _ rfl (hrow.alloc _) ⟨wr.heap.size, 0, none⟩ 1 1 [.string (txt x)] rfl rfl (World.news_of_block (cs := #[.string (txt x)]) (t := 9) (fr := (0, 0)) (heap_alloc_new wr _)) (by simp [Value.oneCell']) (by omega) (by unfold maxLen; omega) (by omega) (by simp; omega) (wr.heap.size + 1) (by simp) ?_; intro g2 cap2 w2 hown2 hgrow2 hat2 hlt2))
            have b2 : Below w.heap.size w w2 := (hbel.alloc hbs _).grown hgrow2 (by simp; omega) (fun j e => (hrow.lt j e).1)
            exact ⟨⟨acc ++ [x], k + 2, k + 2, by omega, by omega, by rw [List.length_append]; simp; omega, by go_num, by go_num, HR2, by rw [strs_append, List.length_append]; exact hown2, b2⟩, by simp [intOf]; omega⟩
        · have HR2 := Lib.hid (show R = scanA acc (seg s st (k + 1)) (s.data.toList.drop (k + 1)) by rw [hr.out, scan_miss hst hlt (fun h => e2 (by rw [h.2]; rfl))])
          clear hr
          go_wp2
          exact ⟨⟨acc, st, k + 1, by omega, by omega, by omega, rfl, by go_num, HR2, hrow, hbel⟩, by simp [intOf]; omega⟩
      · have HR2 := Lib.hid (show R = scanA acc (seg s st (k + 1)) (s.data.toList.drop (k + 1)) by rw [hr.out, scan_miss hst hlt (fun h => e1 (by rw [h.1]; rfl))])
        clear hr
        go_wp2
        exact ⟨⟨acc, st, k + 1, by omega, by omega, by omega, rfl, by go_num, HR2, hrow, hbel⟩, by simp [intOf]; omega⟩
    · have HR2 := Lib.hid (show R = none by rw [hr.out, scan_over hlt])
      clear hr
      go_wp2
      go_ret3
      exact ⟨by rw [HR2.out]; exact ⟨_, rfl⟩, hbel⟩

end Ht
end Go.Proofs.YtdgfiebehnfpgaaGreatDoor
