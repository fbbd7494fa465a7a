/- CONTRACTS of what draws rows of pairs and forms. -/
import Derived.Test.YtdgfiebehnfpgaaForm
import Derived.Test.YtdgfiebehnfpgaaDrawF
import Derived.Test.YtdgfiebehnfpgaaB64
import Derived.Test.YtdgfiebehnfpgaaStep
namespace Go.Proofs.Ytdgfiebehnfpgaa
set_option linter.unusedVariables false
set_option maxRecDepth 4000
open Go.ChangeShapes Go.WideShapes Go.ChangeAt Go.RowKit
open Go.ChangeMaps (open_string shut_string)

def keyWords : List (List UInt8) := [[97], [98], [115, 116, 97, 116, 101], [], [120, 32, 121], [99, 111, 100, 101]]

def valWords : List (List UInt8) := [[49], [], [97, 38, 98, 61, 99], [120, 37, 121], [43], [126, 111, 107]]

def valueWords : List (List UInt8) := [[97], [98], [115, 116, 97, 116, 101], [], [110, 111, 110, 101]]

theorem keyWords_len : ∀ x ∈ keyWords, x.length ≤ 5 := by decide

theorem valWords_len : ∀ x ∈ valWords, x.length ≤ 5 := by decide

theorem valueWords_len : ∀ x ∈ valueWords, x.length ≤ 5 := by decide

theorem grown_new {a b c : World} {r row : Option Nat} (h : a.grownBy b r) (k : b.grownBy c row) (hr : ∀ j, row = some j → a.heap.size ≤ j) : a.grownBy c r :=
  ⟨k.os.trans h.os, k.tape.trans h.tape, k.output.trans h.output, Nat.le_trans h.size k.size, fun i hi hne => (k.block i (Nat.lt_of_lt_of_le hi h.size) (fun e => by have := hr i e.symm; omega)).trans (h.block i hi hne)⟩

theorem own_base {w : World} {b b' : Nat} {e : TypeId} {size : Nat} {v : Value} {n : Nat} {xs : List Value} (h : w.ownsRow b e size v n xs) (hb : b' ≤ b) : w.ownsRow b' e size v n xs := by
  refine ⟨h.1, ?_⟩
  rcases h.2 with h | ⟨g, cap, cur, h1, h2, h3⟩
  · exact .inl h
  · exact .inr ⟨g, cap, cur, h1, Nat.le_trans hb h2, h3⟩

/-- pairs that are drawn: few and short -/
def Small (L : List PairL) : Prop := L.length ≤ 5 ∧ ∀ p ∈ L, p.1.length ≤ 5 ∧ p.2.length ≤ 5

theorem small_mem {L : List PairL} (h : Small L) : ∀ p ∈ L, p.1.length ≤ 1048576 ∧ p.2.length ≤ 1048576 := fun p hp => by have := h.2 p hp; omega

theorem small_one {p : PairL} (h : p.1.length ≤ 5 ∧ p.2.length ≤ 5) : (oneL p).length ≤ 31 := by
  have h1 := pctL_len p.1
  have h2 := pctL_len p.2
  simp [oneL]; omega

theorem small_tail (l : List PairL) (h : ∀ p ∈ l, p.1.length ≤ 5 ∧ p.2.length ≤ 5) : (l.flatMap fun q => 38 :: oneL q).length ≤ 32 * l.length := by
  induction l with
  | nil => simp
  | cons p r ih =>
    have := small_one (h p (by simp))
    have := ih (fun q hq => h q (by simp [hq]))
    rw [List.flatMap_cons, List.length_append, List.length_cons, List.length_cons]
    omega

theorem small_put {L : List PairL} (h : Small L) : (putL L).length ≤ 200 := by
  match L, h with
  | [], _ => simp [putL]
  | p :: r, h =>
    have h1 := small_one (h.2 p (by simp))
    have h2 := small_tail r (fun q hq => h.2 q (by simp [hq]))
    have h3 := h.1
    simp only [List.length_cons] at h3
    rw [putL, List.length_append]
    omega

theorem small_take {L : List PairL} (h : Small L) (k : Nat) : Small (L.take k) := ⟨by rw [List.length_take]; have := h.1; omega, fun p hp => h.2 p (List.mem_of_mem_take hp)⟩

end Go.Proofs.Ytdgfiebehnfpgaa
