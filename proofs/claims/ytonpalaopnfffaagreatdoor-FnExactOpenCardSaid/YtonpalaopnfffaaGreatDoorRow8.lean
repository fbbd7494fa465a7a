/- A row of bytes that a call owns, whatever lies frozen behind its room ('[]byte(s)' is such a one); a byte appended to it. -/
import Derived.Test.YtonpalaopnfffaaGreatDoorLem
import Derived.Maps.AppendAt
import Derived.ArgAppend

namespace Go.Proofs.YtonpalaopnfffaaGreatDoor
set_option linter.unusedVariables false
set_option maxRecDepth 4000
open Go.ChangeShapes Go.WideShapes Go.ChangeAt Go.RowKit

/-- the row l at the slice v -/
def Row8 (w : World) (base : Nat) (v : Value) (l : List UInt8) : Prop :=
  ∃ g cap, v = .slice (some ⟨g, 0, none⟩) l.length cap ∧ base ≤ g ∧ g < w.heap.size ∧ l.length ≤ cap ∧ cap ≤ maxLen ∧
    (∀ j u, (cells8 l)[j]? = some u → w.cell? ⟨g, j, none⟩ = some u) ∧ (∀ j, j < cap → (w.cell? ⟨g, j, none⟩).isSome = true) ∧ (∀ j, j < cap → w.frozen? ⟨g, j, none⟩ = false)

theorem row8_own {w : World} {base : Nat} {e : TypeId} {v : Value} {l : List UInt8} (h : w.ownsRow base e 1 v l.length (cells8 l)) (hp : 0 < l.length) : Row8 w base v l := by
  have hlt := h.lt
  have hc := fun g hg => h.cells (g := g) hg
  rcases h.2 with ⟨rfl, h0⟩ | ⟨g, cap, cur, rfl, hb, hg, hnc, hcm, hcs, htake⟩
  · omega
  · have hadd : ∀ j, (⟨g, 0, none⟩ : Addr).add j = ⟨g, j, none⟩ := fun j => by unfold Addr.add; split <;> simp_all
    refine ⟨g, cap, rfl, hb, (hlt g rfl).2, hnc, hcm, fun j u hj => ?_, fun j hj => ?_, fun j hj => frozen_of_row w g j _ _ hg⟩
    · have := hc g rfl j u hj
      rwa [hadd] at this
    · rw [cell_of_row w g j _ _ _ hg, Array.getElem?_eq_getElem (by omega)]; rfl

theorem row8_below {w w' : World} {base : Nat} {v : Value} {l : List UInt8} (h : Row8 w base v l) (hb : Below w.heap.size w w') : Row8 w' base v l := by
  obtain ⟨g, cap, hv, hbg, hg, hl, hm, hc, hs, hf⟩ := h
  exact ⟨g, cap, hv, hbg, Nat.lt_of_lt_of_le hg hb.size, hl, hm, fun j u hj => (hb.cell (p := ⟨g, j, none⟩) hg).trans (hc j u hj), fun j hj => by rw [hb.cell (p := ⟨g, j, none⟩) hg]; exact hs j hj, fun j hj => (hb.frozen (p := ⟨g, j, none⟩) hg).trans (hf j hj)⟩

theorem row8_drew {w : World} {base : Nat} {v : Value} {l : List UInt8} (h : Row8 w base v l) : Row8 w.drew base v l := h

theorem row8_push {P : Program} (w : World) (base : Nat) (t ty e : TypeId) (i : TypeInfo) (ht : P.underlying t = some (.slice e)) (hi : P.info? e = some i) (hz : i.zero = some (.int .u8 0))
    (hsize : i.size = 1) (hby : i.bytes = 1) (v : Value) (l : List UInt8) (h : Row8 w base v l) (ad : Addr) (c : Nat) (x : UInt8) (hx : w.cell? ad = some (.int .u8 ((x.toNat : Nat) : Int))) (h63 : l.length + 1 ≤ 1048576 * 64) (hbase : base ≤ w.heap.size) :
    ∃ v' w', (Builtin.append_ #[t, t] ty #[v, .slice (some ad) 1 c]).run P w = .ok v' w' ∧ Row8 w' base v' (l ++ [x]) ∧ w.grownBy w' v.ownBlock := by
  obtain ⟨g, cap, rfl, hbg, hg, hl, hm, hc, hs, hf⟩ := h
  have hadd : ∀ (g j : Nat), (⟨g, 0, none⟩ : Addr).add j = ⟨g, j, none⟩ := fun g j => by unfold Addr.add; split <;> simp_all
  have hn : ∀ j u, [Value.int .u8 ((x.toNat : Nat) : Int)][j]? = some u → w.cell? (ad.add j) = some u := by
    intro j u hj
    match j, hj with
    | 0, hj =>
      simp at hj
      subst hj
      have : ad.add 0 = ad := by unfold Addr.add; split <;> simp_all
      rw [this]; exact hx
  have hlen8 := cells8_len l
  by_cases hroom : l.length + 1 ≤ cap
  · have hr := run_append_room_cells (P := P) w t ty e i ht hi g 0 l.length cap ad 1 c [.int .u8 ((x.toNat : Nat) : Int)] (by rw [hsize]; rfl) hn (by simp [Value.oneCell']) hroom
      (fun j hj => by simp at hj; subst hj; rw [hsize]; simpa using hs l.length (by omega)) (fun j hj => by simp at hj; subst hj; rw [hsize]; simpa using hf l.length (by omega))
    have e1 : w.setCells g (0 + l.length * i.size) [.int .u8 ((x.toNat : Nat) : Int)] = w.setCell ⟨g, l.length, none⟩ (.int .u8 ((x.toNat : Nat) : Int)) := by rw [hsize, Nat.mul_one, Nat.zero_add]; rfl
    rw [e1] at hr
    obtain ⟨old, hold⟩ := Option.isSome_iff_exists.1 (hs l.length (by omega))
    refine ⟨_, _, hr, ⟨g, cap, by rw [List.length_append]; rfl, hbg, by simpa using hg, by rw [List.length_append]; exact hroom, hm, fun j u hj => ?_, fun j hj => ?_, fun j hj => ?_⟩, ⟨rfl, rfl, rfl, by simp, fun k hk hne => heap_setCell_other w ⟨g, l.length, none⟩ k _ (fun e => hne (by rw [e]; rfl))⟩⟩
    · rw [cells8_append] at hj
      by_cases e : j = l.length
      · subst e
        rw [List.getElem?_append_right (by omega), hlen8, Nat.sub_self] at hj
        rw [World.cell?_setCell_same w _ _ hold]
        exact hj
      · rw [World.cell?_setCell_other w _ _ _ (by intro e2; injection e2 with _ e2 _; exact e e2.symm)]
        refine hc j u ?_
        by_cases h2 : j < l.length
        · rwa [List.getElem?_append_left (by omega)] at hj
        · rw [List.getElem?_eq_none (by simp [cells8]; omega)] at hj; cases hj
    · by_cases e : j = l.length
      · subst e; rw [World.cell?_setCell_same w _ _ hold]; rfl
      · rw [World.cell?_setCell_other w _ _ _ (by intro e2; injection e2 with _ e2 _; exact e e2.symm)]; exact hs j hj
    · rw [World.frozen?_setCell]; exact hf j hj
  · have hr := run_append_grow (P := P) w t ty e i (.int .u8 0) ht hi hz ⟨g, 0, none⟩ l.length cap (cells8 l) (by rw [hsize, Nat.mul_one, hlen8]) (fun j u hj => by rw [hadd]; exact hc j u hj) ad 1 c [.int .u8 ((x.toNat : Nat) : Int)] (by rw [hsize]; rfl) hn (by omega) (by omega) (growslice_fits (by omega) (by rw [hby]; omega))
    have hge := grownCap_ge w (l.length + 1) cap e
    have hcm : grownCap w (l.length + 1) cap e ≤ maxLen := grownCap_le_maxLen w (l.length + 1) cap e (by unfold maxLen; omega)
    refine ⟨_, _, hr, ?_, ⟨rfl, rfl, rfl, by simp, fun k hk _ => heap_alloc_old w.drew _ hk⟩⟩
    have e2 : (l ++ [x]).length = l.length + 1 := by simp
    refine row8_own (e := e) ?_ (by omega)
    rw [e2]
    refine ⟨by rw [cells8_len, e2, Nat.mul_one], .inr ⟨w.heap.size, _, _, rfl, hbase, heap_alloc_new w.drew _, hge, hcm, ?_, ?_⟩⟩
    · simp only [Array.size_append, List.size_toArray, size_zeroCells, hlen8, List.length_cons, List.length_nil]
      show l.length + (0 + 1) + (_ - (l.length + 1)) * 1 = _
      omega
    · simp only [Array.toList_append, List.append_assoc]
      rw [← List.append_assoc]
      have e3 : (cells8 l).toArray.toList ++ [Value.int .u8 ((x.toNat : Nat) : Int)].toArray.toList = cells8 (l ++ [x]) := by rw [cells8_append]; rfl
      rw [e3, List.take_left' (by rw [cells8_len, e2, Nat.mul_one])]

theorem row8_conv {P : Program} (w : World) (src dst e : TypeId) (s : ByteArray) (hs : P.underlying src = some .string) (hd : P.underlying dst = some (.slice e)) (he : P.underlying e = some (.int .u8)) (hsz : s.size ≤ 16777216) :
    ∃ cap w1, (convert src dst (.string s)).run P w = .ok (.slice (some ⟨w.heap.size, 0, none⟩) s.size cap) w1 ∧ Row8 w1 w.heap.size (.slice (some ⟨w.heap.size, 0, none⟩) s.size cap) s.data.toList ∧ Below w.heap.size w w1 := by
  have hc : grownCap w s.size 0 e ≥ s.size := grownCap_ge _ _ _ _
  have hm : grownCap w s.size 0 e ≤ maxLen := grownCap_le_maxLen w s.size 0 e (by unfold maxLen; omega)
  have hl : s.data.toList.length = s.size := Array.length_toList
  have hN : (bytesRow s (grownCap w s.size 0 e)).size = grownCap w s.size 0 e := by
    unfold bytesRow
    rw [Array.size_append, Array.size_map, Array.size_replicate]
    show s.size + _ = _
    omega
  have hn : (w.drew.alloc (.cells (bytesRow s (grownCap w s.size 0 e)) e ((bytesRow s (grownCap w s.size 0 e)).size, (bytesRow s (grownCap w s.size 0 e)).size + 1))).heap[w.heap.size]? = some (.cells (bytesRow s (grownCap w s.size 0 e)) e ((bytesRow s (grownCap w s.size 0 e)).size, (bytesRow s (grownCap w s.size 0 e)).size + 1)) := heap_alloc_new w.drew _
  refine ⟨_, _, run_bytes_of_string w src dst e s hs hd he, ⟨w.heap.size, _, by rw [hl], Nat.le_refl _, by simp, by rw [hl]; exact hc, hm, fun j u hj => ?_, fun j hj => ?_, fun j hj => ?_⟩, (Below.refl _ _).drew.alloc (Nat.le_refl _) _⟩
  · obtain ⟨h1, _⟩ := List.getElem?_eq_some_iff.1 hj
    rw [cells8_len, hl] at h1
    rw [cell_of_row _ _ j _ _ _ hn, bytesRow_at s _ j h1]
    rw [← hj]
    unfold cells8
    rw [List.getElem?_map, List.getElem?_eq_getElem (by rw [hl]; exact h1)]
    rfl
  · rw [cell_of_row _ _ j _ _ _ hn, Array.getElem?_eq_getElem (by rw [hN]; exact hj)]; rfl
  · unfold World.frozen?
    simp only [hn]
    rw [hN]
    simp
    omega

theorem wpList_push8 {P : Program} (w : World) {ops : Array Oper} {rest : List Oper} {o : Oper} {a : Act} {Q : Exit → Act → World → Prop} (hgd : o.guard = none) (s xop : Operand) (t : TypeId)
    (ho : o.op = .call { callee := .builtin .append, args := #[s, xop], argTypes := #[t, t] })
    (base : Nat) (e : TypeId) (i : TypeInfo) (ht : P.underlying t = some (.slice e)) (hi : P.info? e = some i) (hz : i.zero = some (.int .u8 0)) (hsize : i.size = 1) (hby : i.bytes = 1)
    (v : Value) (l : List UInt8) (hs : a.eval s = v) (hrow : Row8 w base v l) (ad : Addr) (c : Nat) (x : UInt8) (hx : a.eval xop = .slice (some ad) 1 c) (hcell : w.cell? ad = some (.int .u8 ((x.toNat : Nat) : Int))) (h63 : l.length + 1 ≤ 1048576 * 64) (hbase : base ≤ w.heap.size)
    (h : ∀ v' w', Row8 w' base v' (l ++ [x]) → w.grownBy w' v.ownBlock → wpList P ops Q rest (a.put o.dst v') w') : wpList P ops Q (o :: rest) a w := by
  refine wpList_plain hgd fun K hK => ?_
  obtain ⟨v', w', hr, h2, h3⟩ := row8_push (P := P) w base t o.type e i ht hi hz hsize hby v l hrow ad c x hcell h63 hbase
  unfold Oper.wp execOp
  simp only [ho, resolve, invoke, builtin, Sem.run_bind, Sem.run_pure, Result.andThen_ok, List.map_toArray, List.map_cons, List.map_nil, hs, hx, hr]
  exact hK _ _ (h v' w' h2 h3)

theorem row8_len {w : World} {base : Nat} {v : Value} {l : List UInt8} (h : Row8 w base v l) : ∃ g cap, v = .slice (some ⟨g, 0, none⟩) l.length cap ∧ base ≤ g ∧ g < w.heap.size := by
  obtain ⟨g, cap, hv, hb, hg, _⟩ := h
  exact ⟨g, cap, hv, hb, hg⟩

end Go.Proofs.YtonpalaopnfffaaGreatDoor
