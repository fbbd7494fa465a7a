/- '==' of two cookies. -/
import Derived.Test.YtdgfiebehnfpgaaCkL
import Derived.Laws.StructEq
namespace Go.Proofs.Ytdgfiebehnfpgaa
set_option linter.unusedVariables false
set_option maxRecDepth 4000
open Go.ChangeShapes Go.WideShapes Go.ChangeAt Go.RowKit
open Go.ChangeMaps (open_string shut_string)

namespace Ck
open Ht

/-- whether two cookies are one -/
def eqC (a b : CkL) : Bool := decide (a.n = b.n) && (decide (a.v = b.v) && (decide (a.d = b.d) && ((a.o == b.o) && (decide (a.p = b.p) && (a.u == b.u)))))

theorem eqC_self (a : CkL) : eqC a a = true := by simp [eqC]

theorem eqC_iff (a b : CkL) : eqC a b = true ↔ a = b := by
  obtain ⟨a1, a2, a3, a4, a5, a6⟩ := a
  obtain ⟨b1, b2, b3, b4, b5, b6⟩ := b
  simp [eqC]

theorem cookie_eql (a b : CkL) (w : World) : (Op.equalIn 10000 26 (ckV a) (ckV b)).run Try.prog w = .ok (eqC a b) w := by
  unfold ckV eqC
  obtain ⟨fs, hu, hfs⟩ : ∃ fs, Try.prog.underlying 26 = some (.struct fs) ∧ Try.prog.fieldsOf 26 = fs := ⟨_, Try.underlying26, by unfold Program.fieldsOf; rw [Try.underlying26]⟩
  rw [run_equalIn_struct w 9999 _ _ _ (by rw [hfs]; exact hu) (by kernel_rfl)]
  clear hu hfs
  have hl : (Try.prog.fieldsOf 26).toList.map (fun f => (f.name != "_", f.type, f.offset)) = [(true, 9, 0), (true, 9, 1), (true, 9, 2), (true, 4, 3), (true, 9, 4), (true, 3, 5)] := by kernel_rfl
  generalize (Try.prog.fieldsOf 26).toList = fs at hl
  obtain ⟨f0, f1, f2, f3, f4, f5, rfl⟩ : ∃ f0 f1 f2 f3 f4 f5, fs = [f0, f1, f2, f3, f4, f5] := by
    have hlen := congrArg List.length hl
    rw [List.length_map] at hlen
    match fs, hlen with
    | [f0, f1, f2, f3, f4, f5], _ => exact ⟨f0, f1, f2, f3, f4, f5, rfl⟩
  simp only [List.map_cons, List.map_nil, List.cons.injEq, Prod.mk.injEq, bne_iff_ne, and_true] at hl
  obtain ⟨⟨a0, b0, c0⟩, ⟨a1, b1, c1⟩, ⟨a2, b2, c2⟩, ⟨a3, b3, c3⟩, ⟨a4, b4, c4⟩, ⟨a5, b5, c5⟩⟩ := hl
  have ks : Try.prog.plainKey 9 = true := by kernel_rfl
  have ki : Try.prog.plainKey 3 = true := by kernel_rfl
  have kb : Try.prog.plainKey 4 = true := by kernel_rfl
  have q0 : ∀ x : CkL, (part 9 #[.string (txt x.n), .string (txt x.v), .string (txt x.d), .bool x.o, .string (txt x.p), .int .i64 x.u] 0).run Try.prog w = .ok (.string (txt x.n)) w := fun x => run_part_plain w ks rfl
  have q1 : ∀ x : CkL, (part 9 #[.string (txt x.n), .string (txt x.v), .string (txt x.d), .bool x.o, .string (txt x.p), .int .i64 x.u] 1).run Try.prog w = .ok (.string (txt x.v)) w := fun x => run_part_plain w ks rfl
  have q2 : ∀ x : CkL, (part 9 #[.string (txt x.n), .string (txt x.v), .string (txt x.d), .bool x.o, .string (txt x.p), .int .i64 x.u] 2).run Try.prog w = .ok (.string (txt x.d)) w := fun x => run_part_plain w ks rfl
  have q3 : ∀ x : CkL, (part 4 #[.string (txt x.n), .string (txt x.v), .string (txt x.d), .bool x.o, .string (txt x.p), .int .i64 x.u] 3).run Try.prog w = .ok (.bool x.o) w := fun x => run_part_plain w kb rfl
  have q4 : ∀ x : CkL, (part 9 #[.string (txt x.n), .string (txt x.v), .string (txt x.d), .bool x.o, .string (txt x.p), .int .i64 x.u] 4).run Try.prog w = .ok (.string (txt x.p)) w := fun x => run_part_plain w ks rfl
  have q5 : ∀ x : CkL, (part 3 #[.string (txt x.n), .string (txt x.v), .string (txt x.d), .bool x.o, .string (txt x.p), .int .i64 x.u] 5).run Try.prog w = .ok (.int .i64 x.u) w := fun x => run_part_plain w ki rfl
  have r0 := fun a b => run_equalIn_string (P := Try.prog) w 9998 9 a b Try.underlying9
  have r1 := fun a b => run_equalIn_int (P := Try.prog) w 9998 3 .i64 .i64 a b Try.underlying3
  have r2 := fun a b => run_equalIn_bool' (P := Try.prog) w 9998 4 a b Try.underlying4
  simp only [Nat.reduceAdd] at r0 r1 r2
  have r3 : ∀ a b : List UInt8, (Op.equalIn 9999 9 (.string (txt a)) (.string (txt b))).run Try.prog w = .ok (decide (a = b)) w := fun a b => by rw [r0, txt_beq]
  clear r0
  simp only [Op.eqFields, a0, a1, a2, a3, a4, a5, b0, b1, b2, b3, b4, b5, c0, c1, c2, c3, c4, c5, ne_eq, not_false_eq_true, if_true, Sem.run_bind, Sem.run_ite, Sem.run_pure, q0, q1, q2, q3, q4, q5, Result.andThen_ok, r1, r2, r3]
  generalize decide (a.n = b.n) = x1
  generalize decide (a.v = b.v) = x2
  generalize decide (a.d = b.d) = x3
  generalize (a.o == b.o) = x4
  generalize decide (a.p = b.p) = x5
  generalize (a.u == b.u) = x6
  cases x1 <;> cases x2 <;> cases x3 <;> cases x4 <;> cases x5 <;> cases x6 <;> rfl

end Ck
end Go.Proofs.Ytdgfiebehnfpgaa
