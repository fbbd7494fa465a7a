/- CONTRACTS of what draws rows of cookies. -/
import Derived.Test.YtdgfiebehnfpgaaDoorDraw
import Derived.Deep.RegionHeld3
import Derived.Test.YtdgfiebehnfpgaaDoorForm
import Derived.Test.YtdgfiebehnfpgaaDoorB64
import Derived.Test.YtdgfiebehnfpgaaDoorStep
namespace Go.Proofs.YtdgfiebehnfpgaaDoor
set_option linter.unusedVariables false
set_option maxRecDepth 4000
open Go.ChangeShapes Go.WideShapes Go.ChangeAt Go.RowKit
open Go.ChangeMaps (open_string shut_string)

def bentA : List (List UInt8) := [[48], [32], [255], [37], [13], [97], [46], [61], [38], [59]]

def bentB : List (List UInt8) := [[48], [65], [0], [57], [102], [45]]

theorem bentA_len : ∀ x ∈ bentA, x.length ≤ 1 := by decide

theorem bentB_len : ∀ x ∈ bentB, x.length ≤ 1 := by decide

set_option maxRecDepth 100000 in
set_option maxHeartbeats 1600000 in
theorem bent_call (B g : Nat) (av : Option Addr) (n c : Nat) (s : List UInt8) (w : World) (hC : CurE w B g av n c) (hs : s.length ≤ 1048575) :
    Calls Tryd.prog 41 #[.pointer (some ⟨g, 0, none⟩), .string (txt s)] w fun e w' => ∃ l : List UInt8, l.length ≤ s.length + 1 ∧ e = .returned (.string (txt l)) ∧ CurE w' B g av n c ∧ w.grownBy w' (some g) := by
  have hsz := txt_size s
  go_enter Tryd.func41, Tryd.ntmps41
  go_wp2_with fail
  refine (below_any B g av n c _ _ hC (by omega) (by omega)).mono ?_
  rintro e w1 ⟨i, rfl, i0, i1, hC1, hg1⟩
  obtain ⟨i, rfl⟩ := Int.eq_ofNat_of_zero_le i0
  go_wp2_with fail
  refine (below_any B g av n c 10 _ hC1 (by omega) (by omega)).mono ?_
  rintro e w2 ⟨q, rfl, q0, q1, hC2, hg2⟩
  have hg12 := grown_trans hg1 hg2
  clear hC1 hg1 hg2
  have hil : i ≤ s.length := by omega
  have hi2 : (i : Int) ≤ ((txt s).size : Int) := by omega
  have hcut1 : (txt s).extract 0 i = txt (s.take i) := by
    rw [extract_seg]
    show txt ((s.take i).drop 0) = _
    rw [List.drop_zero]
  have hcut2 : (txt s).extract i (txt s).size = txt (s.drop i) := by
    rw [extract_seg, hsz]
    show txt ((s.take s.length).drop i) = _
    rw [List.take_length]
  have hcut3 : (txt s).extract i s.length = txt (s.drop i) := by rw [← hsz]; exact hcut2
  have hCd : CurE w2.drew B g av n c := hC2.below ((Below.refl _ w2).drew)
  have hi0 : (0 : Int) ≤ (i : Int) := by omega
  by_cases hq0 : q = 0
  · subst hq0
    go_wp2
    go_ret
    exact ⟨s.take i, by simp; omega, rfl, hC2, hg12⟩
  by_cases hq1 : q = 1
  · subst hq1
    go_wp2
    go_region_held3 (fun _ => True) (first | exact trivial | go_keep) ((go_simp; go_at_call 40; refine (pick_lit B g av n c bentA _ _ rfl hCd (by decide) (by decide)).mono ?_; rintro e wc ⟨x, hx, rfl, hCc, hgc⟩; have hxl := bentA_len x hx; have hadd1 := add_txt (P := Tryd.prog) (s.take i) x (by simp; omega); have hadd2 := add_txt (P := Tryd.prog) (s.take i ++ x) (s.drop i) (by simp; omega); rw [List.append_assoc] at hadd2))
    all_goals
      have hgw : w.grownBy wc (some g) := grown_trans hg12 ⟨hgc.os, hgc.tape, hgc.output, hgc.size, hgc.block⟩
      go_wp2
      go_ret
      exact ⟨s.take i ++ (x ++ s.drop (i)), by simp; omega, rfl, hCc, hgw⟩
  by_cases hq2 : q = 2
  · subst hq2
    by_cases hil2 : i < s.length
    · have hi3 : (i : Int) < (s.length : Int) := by omega
      have a1 : IntKind.i64.wrap ((i : Int) + 1) = (i : Int) + 1 := IntWalk.i64_in _ (by omega)
      have a2 : (0 : Int) ≤ (i : Int) + 1 := by omega
      have a3 : ((i : Int) + 1).toNat = i + 1 := by omega
      have a4 : (i : Int) + 1 ≤ (s.length : Int) := by omega
      have hcut4 : (txt s).extract (i + 1) s.length = txt (s.drop (i + 1)) := by
        rw [extract_seg]
        show txt ((s.take s.length).drop (i + 1)) = _
        rw [List.take_length]
      go_wp2
      go_region_held3 (fun _ => True) (first | exact trivial | go_keep) ((go_simp; go_at_call 40; refine (pick_lit B g av n c bentB _ _ rfl hCd (by decide) (by decide)).mono ?_; rintro e wc ⟨x, hx, rfl, hCc, hgc⟩; have hxl := bentB_len x hx; have hadd1 := add_txt (P := Tryd.prog) (s.take i) x (by simp; omega); have hadd2 := add_txt (P := Tryd.prog) (s.take i ++ x) (s.drop (i + 1)) (by simp; omega); rw [List.append_assoc] at hadd2))
      all_goals
        have hgw : w.grownBy wc (some g) := grown_trans hg12 ⟨hgc.os, hgc.tape, hgc.output, hgc.size, hgc.block⟩
        go_wp2
        go_ret
        exact ⟨s.take i ++ (x ++ s.drop (i + 1)), by simp; omega, rfl, hCc, hgw⟩
    · have hi3 : ¬ ((i : Int) < (s.length : Int)) := by omega
      go_wp2
      go_ret
      exact ⟨s, by omega, rfl, hC2, hg12⟩
  · have e0 : (q == 0) = false := by simpa using hq0
    have e1 : (q == 1) = false := by simpa using hq1
    have e2 : (q == 2) = false := by simpa using hq2
    clear hq0 hq1 hq2
    go_wp2
    go_ret
    exact ⟨s, by omega, rfl, hC2, hg12⟩

end Go.Proofs.YtdgfiebehnfpgaaDoor

namespace Go.Proofs.YtdgfiebehnfpgaaDoor
set_option linter.unusedVariables false
set_option maxRecDepth 4000
open Go.ChangeShapes Go.WideShapes Go.ChangeAt Go.RowKit
open Go.ChangeMaps (open_string shut_string)

def keyWords : List (List UInt8) := [[97], [98], [115, 116, 97, 116, 101], [], [120, 32, 121], [99, 111, 100, 101]]

def valWords : List (List UInt8) := [[49], [], [97, 38, 98, 61, 99], [120, 37, 121], [43], [126, 111, 107]]

def valueWords : List (List UInt8) := [[97], [98], [115, 116, 97, 116, 101], [], [110, 111, 110, 101]]

theorem keyWords_len : ∀ x ∈ keyWords, x.length ≤ 5 := by decide

theorem valWords_len : ∀ x ∈ valWords, x.length ≤ 5 := by decide

theorem valueWords_len : ∀ x ∈ valueWords, x.length ≤ 5 := by decide

theorem grown_new {a b c : World} {r row : Option Nat} (h : a.grownBy b r) (k : b.grownBy c row) (hr : ∀ j, row = some j → a.heap.size ≤ j) : a.grownBy c r :=
  ⟨k.os.trans h.os, k.tape.trans h.tape, k.output.trans h.output, Nat.le_trans h.size k.size, fun i hi hne => (k.block i (Nat.lt_of_lt_of_le hi h.size) (fun e => by have := hr i e.symm; omega)).trans (h.block i hi hne)⟩

theorem own_base {w : World} {b b' : Nat} {e : TypeId} {size : Nat} {v : Value} {n : Nat} {xs : List Value} (h : w.ownsRow b e size v n xs) (hb : b' ≤ b) : w.ownsRow b' e size v n xs := by
  refine ⟨h.1, ?_⟩
  rcases h.2 with h | ⟨g, cap, cur, h1, h2, h3⟩
  · exact .inl h
  · exact .inr ⟨g, cap, cur, h1, Nat.le_trans hb h2, h3⟩

/-- pairs that are drawn: few and short -/
def Small (L : List PairL) : Prop := L.length ≤ 5 ∧ ∀ p ∈ L, p.1.length ≤ 5 ∧ p.2.length ≤ 5

theorem small_mem {L : List PairL} (h : Small L) : ∀ p ∈ L, p.1.length ≤ 1048576 ∧ p.2.length ≤ 1048576 := fun p hp => by have := h.2 p hp; omega

theorem small_one {p : PairL} (h : p.1.length ≤ 5 ∧ p.2.length ≤ 5) : (oneL p).length ≤ 31 := by
  have h1 := pctL_len p.1
  have h2 := pctL_len p.2
  simp [oneL]; omega

theorem small_tail (l : List PairL) (h : ∀ p ∈ l, p.1.length ≤ 5 ∧ p.2.length ≤ 5) : (l.flatMap fun q => 38 :: oneL q).length ≤ 32 * l.length := by
  induction l with
  | nil => simp
  | cons p r ih =>
    have := small_one (h p (by simp))
    have := ih (fun q hq => h q (by simp [hq]))
    rw [List.flatMap_cons, List.length_append, List.length_cons, List.length_cons]
    omega

theorem small_put {L : List PairL} (h : Small L) : (putL L).length ≤ 200 := by
  match L, h with
  | [], _ => simp [putL]
  | p :: r, h =>
    have h1 := small_one (h.2 p (by simp))
    have h2 := small_tail r (fun q hq => h.2 q (by simp [hq]))
    have h3 := h.1
    simp only [List.length_cons] at h3
    rw [putL, List.length_append]
    omega

theorem small_take {L : List PairL} (h : Small L) (k : Nat) : Small (L.take k) := ⟨by rw [List.length_take]; have := h.1; omega, fun p hp => h.2 p (List.mem_of_mem_take hp)⟩

end Go.Proofs.YtdgfiebehnfpgaaDoor

namespace Go.Proofs.YtdgfiebehnfpgaaDoor
set_option linter.unusedVariables false
set_option maxRecDepth 4000
open Go.ChangeShapes Go.WideShapes Go.ChangeAt Go.RowKit
open Go.ChangeMaps (open_string shut_string)

namespace Ck

def ckKeys : List (List UInt8) := [[115, 115, 111], [97, 112, 112], [120, 95, 49]]

def ckVals : List (List UInt8) := [[], [118], [97, 61, 98], [116, 46, 117]]

def hostWords : List (List UInt8) := [[111, 110, 101, 46, 101, 120, 97, 109, 112, 108, 101], [97, 112, 112, 46, 111, 110, 101, 46, 101, 120, 97, 109, 112, 108, 101], [116, 119, 111, 46, 101, 120, 97, 109, 112, 108, 101], [111, 110, 101, 46, 101, 120, 97, 109, 112, 108, 101], [120, 111, 110, 101, 46, 101, 120, 97, 109, 112, 108, 101], [101, 120, 97, 109, 112, 108, 101], [97, 45, 49, 46, 98, 50]]

def matchPs : List (List UInt8) := [[47], [47, 97, 112, 112], [47, 97, 112, 112, 47, 120], [47, 97, 112, 112, 108, 105, 99, 97, 116, 105, 111, 110], [47, 97, 112, 112, 47], [120]]

def matchQs : List (List UInt8) := [[47], [47, 97, 112, 112], [47, 97, 112, 112, 47], [47, 97, 112, 112, 47, 120], []]

set_option maxRecDepth 100000 in
set_option maxHeartbeats 800000 in
theorem l06Host_call (B g : Nat) (av : Option Addr) (n c : Nat) (w : World) (hC : CurE w B g av n c) :
    Calls Tryd.prog 42 #[.pointer (some ⟨g, 0, none⟩)] w fun e w' => ∃ x : List UInt8, x ∈ hostWords ∧ e = .returned (.string (txt x)) ∧ CurE w' B g av n c ∧ w.grownBy w' (some g) := by
  go_enter Tryd.func42, Tryd.ntmps42
  go_wp2_with fail
  refine (pick_lit B g av n c hostWords _ _ rfl hC (by decide) (by decide)).mono ?_
  rintro e w2 ⟨x, hx, rfl, hC2, hg2⟩
  go_wp2
  go_ret
  exact ⟨x, hx, rfl, hC2, hg2⟩


end Ck
end Go.Proofs.YtdgfiebehnfpgaaDoor
