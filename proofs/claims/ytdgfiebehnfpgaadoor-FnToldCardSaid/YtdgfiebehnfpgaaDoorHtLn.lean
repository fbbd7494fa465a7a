/- CONTRACT of the model's l05Lines; rows of texts that lie anywhere. -/
import Derived.Test.YtdgfiebehnfpgaaDoorHtL
import Derived.IntWalk
namespace Go.Proofs.YtdgfiebehnfpgaaDoor
set_option linter.unusedVariables false
set_option maxRecDepth 4000
open Go.ChangeShapes Go.WideShapes Go.ChangeAt Go.RowKit
open Go.ChangeMaps (open_string shut_string)

namespace Ht

/-- texts of a row, wherever it lies -/
def TAt (w : World) (v : Value) (l : List (List UInt8)) : Prop := ∃ a cap, v = .slice a l.length cap ∧ l.length ≤ cap ∧
  (l.length = 0 ∨ ∃ g off, a = some ⟨g, off, none⟩ ∧ g < w.heap.size ∧ ∀ i (h : i < l.length), w.cell? ⟨g, off + i, none⟩ = some (.string (txt l[i])))

theorem tat_below {w w' : World} {v : Value} {l : List (List UInt8)} (h : TAt w v l) (hb : Below w.heap.size w w') : TAt w' v l := by
  obtain ⟨a, cap, rfl, hc, h | ⟨g, off, rfl, hg, hc2⟩⟩ := h
  · exact ⟨a, cap, rfl, hc, .inl h⟩
  · exact ⟨_, cap, rfl, hc, .inr ⟨g, off, rfl, Nat.lt_of_lt_of_le hg hb.size, fun i hi => (hb.cell (p := ⟨g, _, none⟩) hg).trans (hc2 i hi)⟩⟩

theorem tat_own {w : World} {base : Nat} {v : Value} {l : List (List UInt8)} (h : w.ownsRow base 9 1 v l.length (strs l)) : TAt w v l := by
  obtain ⟨a, cap, rfl⟩ := own_val h
  have hcap : l.length ≤ cap := by
    rcases h.2 with ⟨h0, h1⟩ | ⟨g', cap', cur, h0, _, _, hnc, _⟩
    · simp only [Value.slice.injEq] at h0
      omega
    · simp only [Value.slice.injEq] at h0
      omega
  by_cases h0 : l.length = 0
  · exact ⟨a, cap, rfl, hcap, .inl h0⟩
  · obtain ⟨g, rfl, hg1, hg2⟩ := own_at h (by omega)
    exact ⟨_, cap, rfl, hcap, .inr ⟨g, 0, rfl, hg2, fun i hi => by
      have := own_cell h i hi rfl
      rw [Nat.zero_add]
      exact this⟩⟩

theorem tat_cell {w : World} {v : Value} {l : List (List UInt8)} (h : TAt w v l) (k : Nat) (hk : k < l.length) :
    ∃ g off cap, v = .slice (some ⟨g, off, none⟩) l.length cap ∧ l.length ≤ cap ∧ g < w.heap.size ∧ w.cell? ⟨g, off + k, none⟩ = some (.string (txt l[k])) := by
  obtain ⟨a, cap, rfl, hcap, h0 | ⟨g, off, rfl, hg, hc⟩⟩ := h
  · omega
  · exact ⟨g, off, cap, rfl, hcap, hg, hc k hk⟩

/-- the row of the texts behind the first one -/
theorem tat_tail {w : World} {g off n cap : Nat} {x : List UInt8} {l : List (List UInt8)} (h : TAt w (.slice (some ⟨g, off, none⟩) n cap) (x :: l)) : TAt w (.slice (some ⟨g, off + 1, none⟩) l.length (cap - 1)) l := by
  obtain ⟨a, cap', he, hcap, h0 | ⟨g', off', ha, hg, hc⟩⟩ := h
  · simp at h0
  · simp only [Value.slice.injEq] at he
    obtain ⟨rfl, _, rfl⟩ := he
    simp only [Option.some.injEq, Addr.mk.injEq] at ha
    obtain ⟨rfl, rfl, _⟩ := ha
    simp only [List.length_cons] at hcap hc
    exact ⟨_, _, rfl, by omega, .inr ⟨g, off + 1, rfl, hg, fun i hi => by
      have := hc (i + 1) (by omega)
      rw [show off + 1 + i = off + (i + 1) by omega]
      simpa using this⟩⟩

/-- what the reading of lines hands back -/
def LinesP (base : Nat) (e : Ending) (w : World) : Option (List (List UInt8) × List UInt8) → Prop
  | some (ls, b) => ∃ v, e = .returned (.tuple #[v, .string (txt b), .bool true]) ∧ w.ownsRow base 9 1 v ls.length (strs ls)
  | none => ∃ v, e = .returned (.tuple #[v, .string ⟨#[]⟩, .bool false])

theorem scan_hit {s : ByteArray} {acc : List (List UInt8)} {st k : Nat} (hst : st ≤ k) (hk : k + 1 < s.size) (h1 : s[k] = 13) (h2 : s[k + 1] = 10) :
    scanA acc (seg s st k) (s.data.toList.drop k) = if st = k then some (acc, s.data.toList.drop (k + 2)) else scanA (acc ++ [seg s st k]) (seg s (k + 2) (k + 2)) (s.data.toList.drop (k + 2)) := by
  rw [drop_cons s k (by omega), drop_cons s (k + 1) hk, h1, h2, seg_nil]
  show (if (13 : UInt8) = 13 ∧ (10 : UInt8) = 10 then _ else _) = _
  rw [if_pos ⟨rfl, rfl⟩]
  by_cases h : st = k
  · rw [if_pos h, h, seg_nil, if_pos rfl]
  · rw [if_neg h, if_neg (seg_ne s st k (by omega) (by omega))]

theorem scan_miss {s : ByteArray} {acc : List (List UInt8)} {st k : Nat} (hst : st ≤ k) (hk : k + 1 < s.size) (h : ¬ (s[k] = 13 ∧ s[k + 1] = 10)) :
    scanA acc (seg s st k) (s.data.toList.drop k) = scanA acc (seg s st (k + 1)) (s.data.toList.drop (k + 1)) := by
  rw [seg_snoc s st k hst (by omega)]
  conv => lhs; rw [drop_cons s k (by omega), drop_cons s (k + 1) hk]
  rw [drop_cons s (k + 1) hk]
  show (if s[k] = 13 ∧ s[k + 1] = 10 then _ else _) = _
  rw [if_neg h]

theorem scan_over {s : ByteArray} {acc : List (List UInt8)} {cur : List UInt8} {k : Nat} (hk : ¬ k + 1 < s.size) : scanA acc cur (s.data.toList.drop k) = none := by
  by_cases h : k < s.size
  · rw [drop_cons s k h, List.drop_eq_nil_of_le (by rw [data_length]; omega)]
    rfl
  · rw [List.drop_eq_nil_of_le (by rw [data_length]; omega)]
    rfl

theorem int_byte (c n : UInt8) (h : ((c.toNat : Nat) : Int) = ((n.toNat : Nat) : Int)) : c = n := UInt8.toNat_inj.1 (by omega)

end Ht
end Go.Proofs.YtdgfiebehnfpgaaDoor
