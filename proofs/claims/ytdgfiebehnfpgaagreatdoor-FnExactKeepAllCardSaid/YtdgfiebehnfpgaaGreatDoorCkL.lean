/- CONTRACTS of the laws' own helpers over cookies: sz, to, eq; opening an argument that is a cookie. -/
import Derived.Test.YtdgfiebehnfpgaaGreatDoorCkN
namespace Go.Proofs.YtdgfiebehnfpgaaGreatDoor
set_option linter.unusedVariables false
set_option maxRecDepth 4000
open Go.ChangeShapes Go.WideShapes Go.ChangeAt Go.RowKit
open Go.ChangeMaps (open_string shut_string)

namespace Ck
open Ht

/-- texts that a machine can hold -/
def CkW (c : CkL) : Prop := c.n.length ≤ 9223372036854775807 ∧ c.v.length ≤ 9223372036854775807 ∧ c.d.length ≤ 9223372036854775807 ∧ c.p.length ≤ 9223372036854775807

/-- a cookie's weight -/
def CkS1 (c : CkL) : Prop := c.n.length + c.v.length + c.d.length + c.p.length ≤ 1048576

theorem ckS_of {c : CkL} (h : CkS1 c) : CkS c := by
  unfold CkS1 at h
  unfold CkS
  omega

set_option maxHeartbeats 1600000 in
theorem szCookie_call (c : CkL) (w : World) (hw : CkW c) :
    Calls Tryz.prog 53 #[ckV c, .int .i64 1048576] w fun e w' => (∃ x : Int, e = .returned (.int .i64 x) ∧ (0 ≤ x → CkS1 c)) ∧ Below w.heap.size w w' := by
  obtain ⟨w1, w2, w3, w4⟩ := hw
  have z1 := txt_size c.n
  have z2 := txt_size c.v
  have z3 := txt_size c.d
  have z4 := txt_size c.p
  have HW := Lib.hid (show CkS1 c ↔ c.n.length + c.v.length + c.d.length + c.p.length ≤ 1048576 from Iff.rfl)
  generalize CkS1 c = Q at HW ⊢
  unfold ckV
  have ba := Lib.hid ((Below.refl w.heap.size w).alloc (Nat.le_refl _) (.cells #[.string (txt c.n), .string (txt c.v), .string (txt c.d), .bool c.o, .string (txt c.p), .int .i64 c.u] 81))
  by_cases h1 : c.n.length ≤ 1048576
  · obtain ⟨L1, hL1⟩ : ∃ L1, 1048576 - c.n.length = L1 := ⟨_, rfl⟩
    have e1 : ((1048576 : Int) - (c.n.length : Int)) = (L1 : Int) := by omega
    have j1 : ¬ ((L1 : Int) < 0) := by omega
    by_cases h2 : c.v.length ≤ L1
    · obtain ⟨L2, hL2⟩ : ∃ L2, L1 - c.v.length = L2 := ⟨_, rfl⟩
      have e2 : ((L1 : Int) - (c.v.length : Int)) = (L2 : Int) := by omega
      have j2 : ¬ ((L2 : Int) < 0) := by omega
      by_cases h3 : c.d.length ≤ L2
      · obtain ⟨L3, hL3⟩ : ∃ L3, L2 - c.d.length = L3 := ⟨_, rfl⟩
        have e3 : ((L2 : Int) - (c.d.length : Int)) = (L3 : Int) := by omega
        have j3 : ¬ ((L3 : Int) < 0) := by omega
        by_cases h4 : c.p.length ≤ L3
        · obtain ⟨L4, hL4⟩ : ∃ L4, L3 - c.p.length = L4 := ⟨_, rfl⟩
          have e4 : ((L3 : Int) - (c.p.length : Int)) = (L4 : Int) := by omega
          have j4 : ¬ ((L4 : Int) < 0) := by omega
          have hq : Q := HW.out.2 (by omega)
          go_enter Tryz.func53, Tryz.ntmps53
          go_wp2
          go_ret
          exact ⟨⟨_, rfl, fun _ => hq⟩, ba.out⟩
        · have j4 : ((L3 : Int) - (c.p.length : Int)) < 0 := by omega
          go_enter Tryz.func53, Tryz.ntmps53
          go_wp2
          go_ret
          exact ⟨⟨_, rfl, fun h => by omega⟩, ba.out⟩
      · have j3 : ((L2 : Int) - (c.d.length : Int)) < 0 := by omega
        go_enter Tryz.func53, Tryz.ntmps53
        go_wp2
        go_ret
        exact ⟨⟨_, rfl, fun h => by omega⟩, ba.out⟩
    · have j2 : ((L1 : Int) - (c.v.length : Int)) < 0 := by omega
      go_enter Tryz.func53, Tryz.ntmps53
      go_wp2
      go_ret
      exact ⟨⟨_, rfl, fun h => by omega⟩, ba.out⟩
  · have j1 : ((1048576 : Int) - (c.n.length : Int)) < 0 := by omega
    go_enter Tryz.func53, Tryz.ntmps53
    go_wp2
    go_ret
    exact ⟨⟨_, rfl, fun h => by omega⟩, ba.out⟩

theorem alloc3c (w : World) (A B C : Obj) : (((w.alloc A).alloc B).alloc C).heap[w.heap.size]? = some A ∧ (((w.alloc A).alloc B).alloc C).heap[w.heap.size + 1]? = some B ∧ (((w.alloc A).alloc B).alloc C).heap[w.heap.size + 1 + 1]? = some C := by
  refine ⟨?_, ?_, ?_⟩
  · show (((w.heap.push A).push B).push C)[w.heap.size]? = _
    rw [Array.getElem?_push, if_neg (by simp; omega), Array.getElem?_push, if_neg (by simp), Array.getElem?_push, if_pos rfl]
  · show (((w.heap.push A).push B).push C)[w.heap.size + 1]? = _
    rw [Array.getElem?_push, if_neg (by simp), Array.getElem?_push, if_pos (by simp)]
  · show (((w.heap.push A).push B).push C)[w.heap.size + 1 + 1]? = _
    rw [Array.getElem?_push, if_pos (by simp)]

theorem ck_info : (Tryz.prog.info? 87).map (·.size) = some 6 := by kernel_rfl

set_option maxHeartbeats 1600000 in
theorem toCookie_call (c : CkL) (w : World) :
    Calls Tryz.prog 59 #[ckV c] w fun e w' => e = .returned (ckV c) ∧ Below w.heap.size w w' := by
  unfold ckV
  obtain ⟨_, g1, _⟩ := alloc3c w (.cells #[.string (txt c.n), .string (txt c.v), .string (txt c.d), .bool c.o, .string (txt c.p), .int .i64 c.u] 81) (.cells #[.string (txt c.n), .string (txt c.v), .string (txt c.d), .bool c.o, .string (txt c.p), .int .i64 c.u] 87) (.cells #[.string (txt c.n), .string (txt c.v), .string (txt c.d), .bool c.o, .string (txt c.p), .int .i64 c.u] 87)
  have hba := Lib.hid ((((Below.refl w.heap.size w).alloc (Nat.le_refl _) (.cells #[.string (txt c.n), .string (txt c.v), .string (txt c.d), .bool c.o, .string (txt c.p), .int .i64 c.u] 81)).alloc (by simp) (.cells #[.string (txt c.n), .string (txt c.v), .string (txt c.d), .bool c.o, .string (txt c.p), .int .i64 c.u] 87)).alloc (by simp; omega) (.cells #[.string (txt c.n), .string (txt c.v), .string (txt c.d), .bool c.o, .string (txt c.p), .int .i64 c.u] 87))
  have G1 := Lib.hid g1
  clear g1
  go_enter Tryz.func59, Tryz.ntmps59
  go_wp2
  refine bodyPost_ret (v := .agg #[.string (txt c.n), .string (txt c.v), .string (txt c.d), .bool c.o, .string (txt c.p), .int .i64 c.u]) ?_ rfl ⟨rfl, hba.out⟩
  rw [results_cell_one rfl]
  have hld := run_loadVar_row (P := Tryz.prog) _ (w.heap.size + 1) 87 87 _ (0, 0) _ G1.out Tryz.underlying87 rfl (by rw [ck_info]; rfl)
  simp [asAddr, Result.andThen, hld]

set_option maxHeartbeats 1600000 in
theorem eqCookie_call (c : CkL) (w : World) :
    Calls Tryz.prog 66 #[ckV c, ckV c] w fun e w' => e = .returned (.bool true) ∧ Below w.heap.size w w' := by
  unfold ckV
  have ba := Lib.hid (((Below.refl w.heap.size w).alloc (Nat.le_refl _) (.cells #[.string (txt c.n), .string (txt c.v), .string (txt c.d), .bool c.o, .string (txt c.p), .int .i64 c.u] 87)).alloc (by simp) (.cells #[.string (txt c.n), .string (txt c.v), .string (txt c.d), .bool c.o, .string (txt c.p), .int .i64 c.u] 87))
  go_enter Tryz.func66, Tryz.ntmps66
  go_wp2
  go_ret
  exact ⟨rfl, ba.out⟩

section
variable {H : Type} {enc : TypeId × Value → H} {P : Program} {w : World} {base : Nat} {spare : Nat → Bool} {held : Bool}

theorem open_cookie {t : TypeId} {f0 f1 f2 f3 f4 f5 : Field} {fuel : Nat} {v : Value} {x : DataW H × List MemPlace} (ht : P.underlying t = some (.struct #[f0, f1, f2, f3, f4, f5])) (ct : P.cellsOf t = 6)
    (o : f0.offset = 0 ∧ f1.offset = 1 ∧ f2.offset = 2 ∧ f3.offset = 3 ∧ f4.offset = 4 ∧ f5.offset = 5) (c : P.cellsOf f0.type = 1 ∧ P.cellsOf f1.type = 1 ∧ P.cellsOf f2.type = 1 ∧ P.cellsOf f3.type = 1 ∧ P.cellsOf f4.type = 1 ∧ P.cellsOf f5.type = 1)
    (s0 : P.underlying f0.type = some .string) (s1 : P.underlying f1.type = some .string) (s2 : P.underlying f2.type = some .string) (s3 : P.underlying f3.type = some .bool) (s4 : P.underlying f4.type = some .string) (s5 : P.underlying f5.type = some (.int .i64))
    (hv : ∃ cs, v = .agg cs ∧ cs.size = P.cellsOf t) (h : DataW.trod enc P w base spare held fuel t v.cells.toList = some x) :
    ∃ k : CkL, v = ckV k ∧ CkW k ∧ -9223372036854775808 ≤ k.u ∧ k.u ≤ 9223372036854775807 := by
  obtain ⟨cs, rfl, hsz⟩ := hv
  have h' : DataW.trod enc P w base spare held fuel t cs.toList = some x := h
  obtain ⟨xs, m, _, _, hlen, hxl, hf⟩ := DataW.trod_struct ht h'
  obtain ⟨o0, o1, o2, o3, o4, o5⟩ := o
  obtain ⟨c0, c1, c2, c3, c4, c5⟩ := c
  rw [ct] at hlen hsz
  obtain ⟨l, hl⟩ : ∃ l, cs = List.toArray l := ⟨cs.toList, rfl⟩
  subst hl
  simp only [List.size_toArray] at hsz
  match l, hsz with
  | [v0, v1, v2, v3, v4, v5], _ =>
    match xs, hxl with
    | [y0, y1, y2, y3, y4, y5], _ =>
      have k0 := hf 0 f0 rfl
      have k1 := hf 1 f1 rfl
      have k2 := hf 2 f2 rfl
      have k3 := hf 3 f3 rfl
      have k4 := hf 4 f4 rfl
      have k5 := hf 5 f5 rfl
      simp [o0, o1, o2, o3, o4, o5, c0, c1, c2, c3, c4, c5] at k0 k1 k2 k3 k4 k5
      obtain ⟨sa, ha, _, la⟩ := DataW.trod_string s0 k0
      obtain ⟨sb, hb, _, lb⟩ := DataW.trod_string s1 k1
      obtain ⟨sc, hc, _, lc⟩ := DataW.trod_string s2 k2
      obtain ⟨b, hb3, _⟩ := DataW.trod_bool s3 k3
      obtain ⟨sd, hd, _, ld⟩ := DataW.trod_string s4 k4
      obtain ⟨i, hi, _, li⟩ := DataW.trod_int s5 k5
      simp only [List.cons.injEq, and_true] at ha hb hc hd hi hb3
      subst ha hb hc hd hi hb3
      unfold maxLen at la lb lc ld
      have hr := bounds_i64 li
      refine ⟨⟨sa.data.toList, sb.data.toList, sc.data.toList, b, sd.data.toList, i⟩, ?_, ⟨?_, ?_, ?_, ?_⟩, ?_, ?_⟩
      · unfold ckV
        simp only [txt_of]
      · show sa.data.toList.length ≤ _
        rw [data_length]; exact la
      · show sb.data.toList.length ≤ _
        rw [data_length]; exact lb
      · show sc.data.toList.length ≤ _
        rw [data_length]; exact lc
      · show sd.data.toList.length ≤ _
        rw [data_length]; exact ld
      · show _ ≤ i
        omega
      · show i ≤ _
        omega

end

end Ck
end Go.Proofs.YtdgfiebehnfpgaaGreatDoor
