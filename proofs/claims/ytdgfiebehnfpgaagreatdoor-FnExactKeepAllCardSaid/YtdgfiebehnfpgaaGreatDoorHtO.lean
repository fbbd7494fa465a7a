/- OPENING an argument that is a request or an answer. -/
import Derived.Test.YtdgfiebehnfpgaaGreatDoorHtL
namespace Go.Proofs.YtdgfiebehnfpgaaGreatDoor
set_option linter.unusedVariables false
set_option maxRecDepth 4000
open Go.ChangeShapes Go.WideShapes Go.ChangeAt Go.RowKit

namespace Ht

section
variable {H : Type} {enc : TypeId × Value → H} {P : Program} {w : World} {base : Nat} {spare : Nat → Bool} {held : Bool}

theorem open_any {t e : TypeId} {f0 f1 : Field} {fuel : Nat} {v : Value} {x : DataW H × List MemPlace} (ht : P.underlying t = some (.slice e)) (he : P.underlying e = some (.struct #[f0, f1]))
    (ce : P.cellsOf e = 2) (o0 : f0.offset = 0) (o1 : f1.offset = 1) (c0 : P.cellsOf f0.type = 1) (c1 : P.cellsOf f1.type = 1) (s0 : P.underlying f0.type = some .string) (s1 : P.underlying f1.type = some .string)
    (h : DataW.trod enc P w base spare held fuel t [v] = some x) : ∃ l : List PairL, PAt w v l ∧ Wd l := by
  obtain ⟨a, len, cap, rfl⟩ : ∃ a len cap, v = .slice a len cap := by
    rcases Deep.open_slice ht h with ⟨hcs, _⟩ | ⟨ad, len', cap', m, n, D, Pl, hcs, _⟩
    · simp only [List.cons.injEq, and_true] at hcs
      exact ⟨_, _, _, hcs⟩
    · simp only [List.cons.injEq, and_true] at hcs
      exact ⟨_, _, _, hcs⟩
  obtain ⟨l, h1, h2, h3⟩ := open_pairs ht he ce o0 o1 c0 c1 s0 s1 h
  unfold maxLen at h2 h3
  exact ⟨l, h1, h2, h3⟩

theorem open_req {t e : TypeId} {f0 f1 f2 f3 f4 g0 g1 : Field} {fuel : Nat} {v : Value} {x : DataW H × List MemPlace} (ht : P.underlying t = some (.struct #[f0, f1, f2, f3, f4])) (ct : P.cellsOf t = 5)
    (o : f0.offset = 0 ∧ f1.offset = 1 ∧ f2.offset = 2 ∧ f3.offset = 3 ∧ f4.offset = 4) (c : P.cellsOf f0.type = 1 ∧ P.cellsOf f1.type = 1 ∧ P.cellsOf f2.type = 1 ∧ P.cellsOf f3.type = 1 ∧ P.cellsOf f4.type = 1)
    (s0 : P.underlying f0.type = some .string) (s1 : P.underlying f1.type = some .string) (s2 : P.underlying f2.type = some (.slice e)) (s3 : P.underlying f3.type = some (.slice e)) (s4 : P.underlying f4.type = some .string)
    (he : P.underlying e = some (.struct #[g0, g1])) (ce : P.cellsOf e = 2) (p0 : g0.offset = 0) (p1 : g1.offset = 1) (d0 : P.cellsOf g0.type = 1) (d1 : P.cellsOf g1.type = 1) (u0 : P.underlying g0.type = some .string) (u1 : P.underlying g1.type = some .string)
    (hv : ∃ cs, v = .agg cs ∧ cs.size = P.cellsOf t) (h : DataW.trod enc P w base spare held fuel t v.cells.toList = some x) :
    ∃ (r : ReqL) (vq vh : Value), v = reqV r vq vh ∧ PAt w vq r.q ∧ PAt w vh r.h ∧ Wr r := by
  obtain ⟨cs, rfl, hsz⟩ := hv
  have h' : DataW.trod enc P w base spare held fuel t cs.toList = some x := h
  obtain ⟨xs, m, _, _, hlen, hxl, hf⟩ := DataW.trod_struct ht h'
  obtain ⟨o0, o1, o2, o3, o4⟩ := o
  obtain ⟨c0, c1, c2, c3, c4⟩ := c
  rw [ct] at hlen hsz
  obtain ⟨l, hl⟩ : ∃ l, cs = List.toArray l := ⟨cs.toList, rfl⟩
  subst hl
  simp only [List.size_toArray] at hsz
  match l, hsz with
  | [v0, v1, v2, v3, v4], _ =>
    match xs, hxl with
    | [y0, y1, y2, y3, y4], _ =>
      have k0 := hf 0 f0 rfl
      have k1 := hf 1 f1 rfl
      have k2 := hf 2 f2 rfl
      have k3 := hf 3 f3 rfl
      have k4 := hf 4 f4 rfl
      simp [o0, o1, o2, o3, o4, c0, c1, c2, c3, c4] at k0 k1 k2 k3 k4
      obtain ⟨sa, ha, _, la⟩ := DataW.trod_string s0 k0
      obtain ⟨sb, hb, _, lb⟩ := DataW.trod_string s1 k1
      obtain ⟨sc, hc, _, lc⟩ := DataW.trod_string s4 k4
      obtain ⟨q, hq, wq⟩ := open_any s2 he ce p0 p1 d0 d1 u0 u1 k2
      obtain ⟨hd, hh, wh⟩ := open_any s3 he ce p0 p1 d0 d1 u0 u1 k3
      simp only [List.cons.injEq, and_true] at ha hb hc
      subst ha hb hc
      unfold maxLen at la lb lc
      refine ⟨⟨sa.data.toList, sb.data.toList, q, hd, sc.data.toList⟩, v2, v3, ?_, hq, hh, ?_, ?_, wq, wh, ?_⟩
      · unfold reqV
        simp only [txt_of]
      · show sa.data.toList.length ≤ _
        rw [data_length]; exact la
      · show sb.data.toList.length ≤ _
        rw [data_length]; exact lb
      · show sc.data.toList.length ≤ _
        rw [data_length]; exact lc

theorem open_resp {t e : TypeId} {f0 f1 f2 g0 g1 : Field} {fuel : Nat} {v : Value} {x : DataW H × List MemPlace} (ht : P.underlying t = some (.struct #[f0, f1, f2])) (ct : P.cellsOf t = 3)
    (o : f0.offset = 0 ∧ f1.offset = 1 ∧ f2.offset = 2) (c : P.cellsOf f0.type = 1 ∧ P.cellsOf f1.type = 1 ∧ P.cellsOf f2.type = 1)
    (s0 : P.underlying f0.type = some (.int .i64)) (s1 : P.underlying f1.type = some (.slice e)) (s2 : P.underlying f2.type = some .string)
    (he : P.underlying e = some (.struct #[g0, g1])) (ce : P.cellsOf e = 2) (p0 : g0.offset = 0) (p1 : g1.offset = 1) (d0 : P.cellsOf g0.type = 1) (d1 : P.cellsOf g1.type = 1) (u0 : P.underlying g0.type = some .string) (u1 : P.underlying g1.type = some .string)
    (hv : ∃ cs, v = .agg cs ∧ cs.size = P.cellsOf t) (h : DataW.trod enc P w base spare held fuel t v.cells.toList = some x) :
    ∃ (r : RespL) (vh : Value), v = respV r vh ∧ PAt w vh r.h ∧ Wa r := by
  obtain ⟨cs, rfl, hsz⟩ := hv
  have h' : DataW.trod enc P w base spare held fuel t cs.toList = some x := h
  obtain ⟨xs, m, _, _, hlen, hxl, hf⟩ := DataW.trod_struct ht h'
  obtain ⟨o0, o1, o2⟩ := o
  obtain ⟨c0, c1, c2⟩ := c
  rw [ct] at hlen hsz
  obtain ⟨l, hl⟩ : ∃ l, cs = List.toArray l := ⟨cs.toList, rfl⟩
  subst hl
  simp only [List.size_toArray] at hsz
  match l, hsz with
  | [v0, v1, v2], _ =>
    match xs, hxl with
    | [y0, y1, y2], _ =>
      have k0 := hf 0 f0 rfl
      have k1 := hf 1 f1 rfl
      have k2 := hf 2 f2 rfl
      simp [o0, o1, o2, c0, c1, c2] at k0 k1 k2
      obtain ⟨i, ha, _, la⟩ := DataW.trod_int s0 k0
      obtain ⟨sc, hc, _, lc⟩ := DataW.trod_string s2 k2
      obtain ⟨hd, hh, wh⟩ := open_any s1 he ce p0 p1 d0 d1 u0 u1 k1
      simp only [List.cons.injEq, and_true] at ha hc
      subst ha hc
      unfold maxLen at lc
      refine ⟨⟨i, hd, sc.data.toList⟩, v1, ?_, hh, wh, ?_⟩
      · unfold respV
        simp only [txt_of]
      · show sc.data.toList.length ≤ _
        rw [data_length]; exact lc

end

end Ht
end Go.Proofs.YtdgfiebehnfpgaaGreatDoor
