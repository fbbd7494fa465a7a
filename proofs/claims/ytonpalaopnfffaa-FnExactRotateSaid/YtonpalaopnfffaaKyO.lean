/- CONTRACTS: RingOk, the model's and the program's; a key's validity and life. -/
import Derived.Test.YtonpalaopnfffaaKyR
import Derived.Test.YtonpalaopnfffaaInv2
import Derived.BigQuiet
namespace Go.Proofs.Ytonpalaopnfffaa
set_option linter.unusedVariables false
set_option maxRecDepth 4000
open Go.ChangeShapes Go.WideShapes Go.ChangeAt Go.RowKit

namespace Ky
open Ht Ck

theorem box4K {W : World} {b : Nat} {t : TypeId} {a0 a1 a2 a3 : Value} (h : W.heap[b]? = some (.cells #[a0, a1, a2, a3] t (0, 0))) :
    W.cell? ⟨b, 0, none⟩ = some a0 ∧ W.cell? ⟨b, 1, none⟩ = some a1 ∧ W.cell? ⟨b, 2, none⟩ = some a2 ∧ W.cell? ⟨b, 3, none⟩ = some a3 :=
  ⟨cell_of_row W b 0 _ _ _ h, cell_of_row W b 1 _ _ _ h, cell_of_row W b 2 _ _ _ h, cell_of_row W b 3 _ _ _ h⟩

set_option maxHeartbeats 1600000 in
theorem live_call (c : KeyL) (now : Int) (w : World) :
    Calls Try.prog 24 #[V c, .int .i64 now] w fun e w' => e = .returned (.bool (liveB now c)) ∧ Below w.heap.size w w' := by
  unfold V
  have ba := Lib.hid ((Below.refl w.heap.size w).alloc (Nat.le_refl _) (.cells #[.int .i64 c.i, .string (txt c.s), .int .i64 c.f, .int .i64 c.t] 39))
  obtain ⟨R, HR⟩ : ∃ R, Hid (R = liveB now c) := ⟨_, Lib.hid rfl⟩
  rw [← HR.out]
  by_cases h1 : c.f ≤ now
  · have HR2 := Lib.hid (show R = decide (now ≤ c.t) by rw [HR.out]; unfold liveB; rw [decide_eq_true h1]; rfl)
    go_enter Try.func24, Try.ntmps24
    go_wp2
    go_ret
    exact ⟨ret_bool HR2.out.symm, ba.out⟩
  · have HR2 := Lib.hid (show R = false by rw [HR.out]; unfold liveB; rw [decide_eq_false h1]; rfl)
    go_enter Try.func24, Try.ntmps24
    go_wp2
    go_ret
    exact ⟨ret_bool HR2.out.symm, ba.out⟩

set_option maxHeartbeats 3200000 in
theorem valid_call (c : KeyL) (w : World) (hs : c.s.length ≤ 1048576) :
    Calls Try.prog 21 #[V c] w fun e w' => e = .returned (.bool (keyOk c)) ∧ Below w.heap.size w w' := by
  unfold V
  have ba := Lib.hid ((Below.refl w.heap.size w).alloc (Nat.le_refl _) (.cells #[.int .i64 c.i, .string (txt c.s), .int .i64 c.f, .int .i64 c.t] 39))
  have zE := txt_size c.s
  have T1 := Lib.hid (fun wx => timeI c.f wx)
  have T2 := Lib.hid (fun wx => timeI c.t wx)
  obtain ⟨R, HR⟩ : ∃ R, Hid (R = keyOk c) := ⟨_, Lib.hid rfl⟩
  rw [← HR.out]
  have HK := Lib.hid (show keyOk c = ((decide (1 ≤ c.i) && decide (c.i ≤ 999999)) && (decide (1 ≤ c.s.length) && decide (c.s.length ≤ 64)) && timeB c.f && timeB c.t && decide (c.f ≤ c.t)) from rfl)
  generalize timeB c.f = F1 at T1 HK
  generalize timeB c.t = F2 at T2 HK
  by_cases h1 : 1 ≤ c.i
  · by_cases h2 : c.i ≤ 999999
    · by_cases h3 : 1 ≤ c.s.length
      · have eE : (txt c.s).toList.isEmpty = false := not_empty (txt c.s) (by rw [txt_size]; omega)
        by_cases h4 : c.s.length ≤ 64
        · have HK2 := Lib.hid (show keyOk c = (F1 && F2 && decide (c.f ≤ c.t)) by rw [HK.out, decide_eq_true h1, decide_eq_true h2, decide_eq_true h3, decide_eq_true h4]; simp)
          cases F1 with
          | false =>
            have HR2 := Lib.hid (show R = false by rw [HR.out, HK2.out]; rfl)
            go_enter Try.func21, Try.ntmps21
            go_wp2_with fail
            refine (T1.out _).mono ?_
            rintro e w1 ⟨rfl, rfl⟩
            go_wp2
            go_ret
            exact ⟨ret_bool HR2.out.symm, ba.out⟩
          | true =>
            cases F2 with
            | false =>
              have HR2 := Lib.hid (show R = false by rw [HR.out, HK2.out]; rfl)
              go_enter Try.func21, Try.ntmps21
              go_wp2_with fail
              refine (T1.out _).mono ?_
              rintro e w1 ⟨rfl, rfl⟩
              go_wp2_with fail
              refine (T2.out _).mono ?_
              rintro e w2 ⟨rfl, rfl⟩
              go_wp2
              go_ret
              exact ⟨ret_bool HR2.out.symm, ba.out⟩
            | true =>
              have HR2 := Lib.hid (show R = decide (c.f ≤ c.t) by rw [HR.out, HK2.out]; rfl)
              go_enter Try.func21, Try.ntmps21
              go_wp2_with fail
              refine (T1.out _).mono ?_
              rintro e w1 ⟨rfl, rfl⟩
              go_wp2_with fail
              refine (T2.out _).mono ?_
              rintro e w2 ⟨rfl, rfl⟩
              go_wp2
              go_ret
              exact ⟨ret_bool HR2.out.symm, ba.out⟩
        · have HR2 := Lib.hid (show R = false by rw [HR.out, HK.out, decide_eq_true h1, decide_eq_true h2, decide_eq_true h3, decide_eq_false h4]; simp)
          go_enter Try.func21, Try.ntmps21
          go_wp2
          go_ret
          exact ⟨ret_bool HR2.out.symm, ba.out⟩
      · have eE : (txt c.s).toList.isEmpty = true := by rw [Lib.toList_data, txt_toList, List.eq_nil_of_length_eq_zero (l := c.s) (by omega)]; rfl
        have HR2 := Lib.hid (show R = false by rw [HR.out, HK.out, decide_eq_true h1, decide_eq_true h2, decide_eq_false h3]; simp)
        go_enter Try.func21, Try.ntmps21
        go_wp2
        go_ret
        exact ⟨ret_bool HR2.out.symm, ba.out⟩
    · have HR2 := Lib.hid (show R = false by rw [HR.out, HK.out, decide_eq_true h1, decide_eq_false h2]; simp)
      go_enter Try.func21, Try.ntmps21
      go_wp2
      go_ret
      exact ⟨ret_bool HR2.out.symm, ba.out⟩
  · have HR2 := Lib.hid (show R = false by rw [HR.out, HK.out, decide_eq_false h1]; simp)
    go_enter Try.func21, Try.ntmps21
    go_wp2
    go_ret
    exact ⟨ret_bool HR2.out.symm, ba.out⟩

end Ky
end Go.Proofs.Ytonpalaopnfffaa
