/- CONTRACTS: a right request, a right answer: the model's. -/
import Derived.Test.YtfnignlfelambaaGreatDoorHtOk2
namespace Go.Proofs.YtfnignlfelambaaGreatDoor
set_option linter.unusedVariables false
set_option maxRecDepth 4000
open Go.ChangeShapes Go.WideShapes Go.ChangeAt Go.RowKit
open Go.ChangeMaps (open_string shut_string)

namespace Ht

def reqV (r : ReqL) (vq vh : Value) : Value := .agg #[.string (txt r.m), .string (txt r.p), vq, vh, .string (txt r.b)]

def respV (r : RespL) (vh : Value) : Value := .agg #[.int .i64 r.c, vh, .string (txt r.b)]

/-- what each text of pairs is bounded by -/
def Bd (l : List PairL) : Prop := l.length ≤ 2097152 ∧ ∀ p ∈ l, p.1.length ≤ 9223372036854775807 ∧ p.2.length ≤ 9223372036854775807

theorem pat_form {w : World} {v : Value} {l : List PairL} (h : PAt w v l) : ∃ a cap, v = .slice a l.length cap := by
  obtain ⟨a, cap, rfl, _⟩ := h
  exact ⟨a, cap, rfl⟩

theorem get_lit (l : List UInt8) : ((txt l).toList == [71, 69, 84]) = (l == getT) := by
  rw [Lib.toList_data, txt_toList]
  rfl

theorem post_lit (l : List UInt8) : ((txt l).toList == [80, 79, 83, 84]) = (l == postT) := by
  rw [Lib.toList_data, txt_toList]
  rfl

set_option maxHeartbeats 3200000 in
theorem reqOk_spec (r : ReqL) (vq vh : Value) (w : World) (hq : PAt w vq r.q) (hh : PAt w vh r.h) (hb : Bd r.h) (hq2 : r.q.length ≤ 2097152) (hp : r.p.length ≤ 9223372036854775807) (hbb : r.b.length ≤ 9223372036854775807) :
    Calls Tryz.prog 11 #[reqV r vq vh] w fun e w' => e = .returned (.bool (reqOk r)) ∧ Below w.heap.size w w' := by
  have HQ := Lib.hid hq
  have HH := Lib.hid hh
  obtain ⟨aq, cq, rfl⟩ := pat_form hq
  obtain ⟨ah, ch, rfl⟩ := pat_form hh
  have hs := heads_spec (.slice ah r.h.length ch) r.h
  have CP := Lib.hid (fun wx => path_spec (txt r.p) wx (by rw [txt_size]; exact hp))
  have CH := Lib.hid (fun wx (h : PAt wx (.slice ah r.h.length ch) r.h) => hs wx h hb.1 hb.2)
  have HR := Lib.hid (show reqOk r = ((r.m == getT || r.m == postT) && pathL r.p && decide (r.q.length ≤ 30) && headsL r.h && decide (r.b.length ≤ 4000)) from rfl)
  have hg := get_lit r.m
  have hpo := post_lit r.m
  have hbz := txt_size r.b
  rw [txt_toList] at CP
  unfold reqV
  generalize reqOk r = R at HR ⊢
  generalize (r.m == getT) = A at HR hg
  generalize (r.m == postT) = B at HR hpo
  generalize pathL r.p = P at HR CP
  generalize headsL r.h = H at HR CH
  clear hs hq hh hb
  cases A <;> cases B
  case false.false =>
    have HR1 := Lib.hid (show R = false by rw [HR.out]; rfl)
    go_enter Tryz.func11, Tryz.ntmps11
    go_wp2
    go_ret
    exact ⟨ret_bool HR1.out.symm, (Below.refl _ w).alloc (Nat.le_refl _) _⟩
  all_goals
    have HR1 := Lib.hid (show R = (P && decide (r.q.length ≤ 30) && H && decide (r.b.length ≤ 4000)) by rw [HR.out]; rfl)
    clear HR
    cases P with
    | false =>
      have HR2 := Lib.hid (show R = false by rw [HR1.out]; rfl)
      go_enter Tryz.func11, Tryz.ntmps11
      go_wp2_with fail
      refine (CP.out _).mono ?_
      rintro e w1 ⟨rfl, rfl⟩
      go_wp2
      go_ret
      exact ⟨ret_bool HR2.out.symm, (Below.refl _ w).alloc (Nat.le_refl _) _⟩
    | true =>
      by_cases h30 : r.q.length ≤ 30
      · have i30 : (r.q.length : Int) ≤ 30 := by omega
        cases H with
        | false =>
          have HR2 := Lib.hid (show R = false by rw [HR1.out]; simp)
          go_enter Tryz.func11, Tryz.ntmps11
          go_wp2_with fail
          refine (CP.out _).mono ?_
          rintro e w1 ⟨rfl, rfl⟩
          go_wp2_with fail
          refine (CH.out _ (HH.out.below ((Below.refl _ w).alloc (Nat.le_refl _) _))).mono ?_
          rintro e w2 ⟨rfl, b2⟩
          go_wp2
          go_ret
          exact ⟨ret_bool HR2.out.symm, bstep ((Below.refl _ w).alloc (Nat.le_refl _) _) b2⟩
        | true =>
          have HR2 := Lib.hid (show R = decide (r.b.length ≤ 4000) by rw [HR1.out, decide_eq_true h30]; simp)
          go_enter Tryz.func11, Tryz.ntmps11
          go_wp2_with fail
          refine (CP.out _).mono ?_
          rintro e w1 ⟨rfl, rfl⟩
          go_wp2_with fail
          refine (CH.out _ (HH.out.below ((Below.refl _ w).alloc (Nat.le_refl _) _))).mono ?_
          rintro e w2 ⟨rfl, b2⟩
          have c4 := (b2.cell (p := ⟨w.heap.size, 4, none⟩) (by simp)).trans (by simp : (w.alloc (.cells #[.string (txt r.m), .string (txt r.p), .slice aq r.q.length cq, .slice ah r.h.length ch, .string (txt r.b)] 26)).cell? ⟨w.heap.size, 4, none⟩ = some (.string (txt r.b)))
          go_wp2
          go_ret
          exact ⟨ret_bool (by rw [HR2.out]; simp; omega), bstep ((Below.refl _ w).alloc (Nat.le_refl _) _) b2⟩
      · have i30 : ¬ (r.q.length : Int) ≤ 30 := by omega
        have HR2 := Lib.hid (show R = false by rw [HR1.out, decide_eq_false h30]; simp)
        go_enter Tryz.func11, Tryz.ntmps11
        go_wp2_with fail
        refine (CP.out _).mono ?_
        rintro e w1 ⟨rfl, rfl⟩
        go_wp2
        go_ret
        exact ⟨ret_bool HR2.out.symm, (Below.refl _ w).alloc (Nat.le_refl _) _⟩

theorem in_low {a lo hi : Int} (h : ¬ (lo ≤ a ∧ a ≤ hi)) : (decide (lo ≤ a) && decide (a ≤ hi)) = false := by
  by_cases h2 : lo ≤ a
  · rw [decide_eq_false (show ¬ a ≤ hi from fun h3 => h ⟨h2, h3⟩), Bool.and_false]
  · rw [decide_eq_false h2, Bool.false_and]

end Ht
end Go.Proofs.YtfnignlfelambaaGreatDoor
