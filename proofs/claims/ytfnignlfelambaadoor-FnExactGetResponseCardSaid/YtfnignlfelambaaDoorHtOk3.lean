/- CONTRACTS: a right request, a right answer: the model's. -/
import Derived.Test.YtfnignlfelambaaDoorHtOk2
namespace Go.Proofs.YtfnignlfelambaaDoor
set_option linter.unusedVariables false
set_option maxRecDepth 4000
open Go.ChangeShapes Go.WideShapes Go.ChangeAt Go.RowKit
open Go.ChangeMaps (open_string shut_string)

namespace Ht

def reqV (r : ReqL) (vq vh : Value) : Value := .agg #[.string (txt r.m), .string (txt r.p), vq, vh, .string (txt r.b)]

def respV (r : RespL) (vh : Value) : Value := .agg #[.int .i64 r.c, vh, .string (txt r.b)]

/-- what each text of pairs is bounded by -/
def Bd (l : List PairL) : Prop := l.length ≤ 2097152 ∧ ∀ p ∈ l, p.1.length ≤ 9223372036854775807 ∧ p.2.length ≤ 9223372036854775807

theorem pat_form {w : World} {v : Value} {l : List PairL} (h : PAt w v l) : ∃ a cap, v = .slice a l.length cap := by
  obtain ⟨a, cap, rfl, _⟩ := h
  exact ⟨a, cap, rfl⟩

theorem get_lit (l : List UInt8) : ((txt l).toList == [71, 69, 84]) = (l == getT) := by
  rw [Lib.toList_data, txt_toList]
  rfl

theorem post_lit (l : List UInt8) : ((txt l).toList == [80, 79, 83, 84]) = (l == postT) := by
  rw [Lib.toList_data, txt_toList]
  rfl

theorem in_low {a lo hi : Int} (h : ¬ (lo ≤ a ∧ a ≤ hi)) : (decide (lo ≤ a) && decide (a ≤ hi)) = false := by
  by_cases h2 : lo ≤ a
  · rw [decide_eq_false (show ¬ a ≤ hi from fun h3 => h ⟨h2, h3⟩), Bool.and_false]
  · rw [decide_eq_false h2, Bool.false_and]

set_option maxHeartbeats 3200000 in
theorem respOk_spec (r : RespL) (vh : Value) (w : World) (hh : PAt w vh r.h) (hb : Bd r.h) (hbb : r.b.length ≤ 9223372036854775807) :
    Calls Tryd.prog 14 #[respV r vh] w fun e w' => e = .returned (.bool (respOk r)) ∧ Below w.heap.size w w' := by
  have HH := Lib.hid hh
  obtain ⟨ah, ch, rfl⟩ := pat_form hh
  have hs := heads_spec (.slice ah r.h.length ch) r.h
  have CH := Lib.hid (fun wx (h : PAt wx (.slice ah r.h.length ch) r.h) => hs wx h hb.1 hb.2)
  have HR := Lib.hid (show respOk r = ((decide (200 ≤ r.c) && decide (r.c ≤ 599)) && headsL r.h && decide (r.b.length ≤ 4000)) from rfl)
  have hbz := txt_size r.b
  unfold respV
  generalize respOk r = R at HR ⊢
  generalize headsL r.h = H at HR CH
  clear hs hh hb
  by_cases hc : 200 ≤ r.c ∧ r.c ≤ 599
  · have e1 : (decide (200 ≤ r.c) && decide (r.c ≤ 599)) = true := by rw [decide_eq_true hc.1, decide_eq_true hc.2]; rfl
    rw [e1] at HR
    cases H with
    | false =>
      have HR2 := Lib.hid (show R = false by rw [HR.out]; rfl)
      go_enter Tryd.func14, Tryd.ntmps14
      go_wp2_with fail
      refine (in_call _ _ _ _).mono ?_
      rintro e w1 ⟨rfl, rfl⟩
      rw [e1]
      clear e1
      go_wp2_with fail
      refine (CH.out _ (HH.out.below ((Below.refl _ w).alloc (Nat.le_refl _) _))).mono ?_
      rintro e w2 ⟨rfl, b2⟩
      go_wp2
      go_ret
      exact ⟨ret_bool HR2.out.symm, bstep ((Below.refl _ w).alloc (Nat.le_refl _) _) b2⟩
    | true =>
      have HR2 := Lib.hid (show R = decide (r.b.length ≤ 4000) by rw [HR.out]; simp)
      go_enter Tryd.func14, Tryd.ntmps14
      go_wp2_with fail
      refine (in_call _ _ _ _).mono ?_
      rintro e w1 ⟨rfl, rfl⟩
      rw [e1]
      clear e1
      go_wp2_with fail
      refine (CH.out _ (HH.out.below ((Below.refl _ w).alloc (Nat.le_refl _) _))).mono ?_
      rintro e w2 ⟨rfl, b2⟩
      have c4 := (b2.cell (p := ⟨w.heap.size, 2, none⟩) (by simp)).trans (by simp : (w.alloc (.cells #[.int .i64 r.c, .slice ah r.h.length ch, .string (txt r.b)] 26)).cell? ⟨w.heap.size, 2, none⟩ = some (.string (txt r.b)))
      go_wp2
      go_ret
      exact ⟨ret_bool (by rw [HR2.out]; simp; omega), bstep ((Below.refl _ w).alloc (Nat.le_refl _) _) b2⟩
  · have e1 := in_low hc
    rw [e1] at HR
    have HR2 := Lib.hid (show R = false by rw [HR.out]; rfl)
    clear hc
    go_enter Tryd.func14, Tryd.ntmps14
    go_wp2_with fail
    refine (in_call _ _ _ _).mono ?_
    rintro e w1 ⟨rfl, rfl⟩
    rw [e1]
    clear e1
    go_wp2
    go_ret
    exact ⟨ret_bool HR2.out.symm, (Below.refl _ w).alloc (Nat.le_refl _) _⟩

end Ht
end Go.Proofs.YtfnignlfelambaaDoor
