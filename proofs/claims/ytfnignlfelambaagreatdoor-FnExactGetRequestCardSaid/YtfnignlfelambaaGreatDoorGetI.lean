/- CONTRACT of GetForm: the program's, by its range over a function. -/
import Derived.Test.YtfnignlfelambaaGreatDoorGet
import Derived.Deep.MidRow
namespace Go.Proofs.YtfnignlfelambaaGreatDoor
set_option linter.unusedVariables false
set_option maxRecDepth 4000
open Go.RowKit Go.Shelf
open Go.ChangeShapes Go.WideShapes Go.ChangeAt
attribute [local go_sem] Oper.semAt_some

def zero30 : Array Value := (List.replicate 60 (Value.string ⟨#[]⟩)).toArray

theorem zeroPairs : (Tryz.prog.info? 99).map (fun i => (i.zero, i.size)) = some (some (.agg zero30), 60) := by kernel_rfl

theorem getA_snoc (pre : List (List UInt8)) (x : List UInt8) : ∀ acc, getA acc (pre ++ [x]) = (getA acc pre).bind fun L => (partL x).map fun p => L ++ [p] := by
  induction pre with
  | nil =>
    intro acc
    rw [List.nil_append, getA]
    cases h : partL x <;> simp [getA, h]
  | cons y r ih =>
    intro acc
    rw [List.cons_append, getA, getA]
    cases h : partL y
    · simp
    · simp [ih]

theorem getA_stop (pre : List (List UInt8)) (r : List (List UInt8)) : ∀ acc, getA acc pre = none → getA acc (pre ++ r) = none := by
  induction pre with
  | nil => intro acc h; simp [getA] at h
  | cons y q ih =>
    intro acc h
    rw [getA] at h
    rw [List.cons_append, getA]
    cases hy : partL y
    · rfl
    · rw [hy] at h
      exact ih _ h

theorem getL_stop (s : List UInt8) (pre : List (List UInt8)) (hp : pre <+: splitL 38 s) (h : getA [] pre = none ∨ 30 < pre.length) : getL s = none := by
  obtain ⟨r, hr⟩ := hp
  unfold getL
  by_cases hl : (splitL 38 s).length > 30
  · rw [if_pos hl]
  · rw [if_neg hl]
    rcases h with h | h
    · rw [← hr]; exact getA_stop pre r [] h
    · rw [← hr, List.length_append] at hl; omega

/-- what lies in the boxes while parts come -/
def RoomAt (W : World) (g : Nat) (L : List PairL) : Prop := ∃ cur : Array Value, W.heap[g]? = some (.cells cur 99 (0, 0)) ∧ cur.size = 60 ∧ cur.toList.take (L.length * 2) = pcells L

theorem room_put {W : World} {g : Nat} {L : List PairL} (h : RoomAt W g L) (p : PairL) (hl : L.length < 30) :
    RoomAt ((W.setCell ⟨g, L.length * 2, none⟩ (.string (txt p.1))).setCell ⟨g, L.length * 2 + 1, none⟩ (.string (txt p.2))) g (L ++ [p]) := by
  obtain ⟨cur, h1, h2, h3⟩ := h
  refine ⟨_, box_set (box_set h1 _ _) _ _, by simp [h2], ?_⟩
  have hlen : cur.toList.length = 60 := by rw [Array.length_toList, h2]
  rw [List.length_append, List.length_singleton, pcells_append, Array.toList_setIfInBounds, Array.toList_setIfInBounds]
  have hp : (pcells L).length = L.length * 2 := pcells_len L
  rw [← h3]
  generalize L.length = n at *
  apply List.ext_getElem?
  intro i
  by_cases hi : i < n * 2
  · rw [List.getElem?_take_of_lt (by omega), List.getElem?_set_ne (by omega), List.getElem?_set_ne (by omega), List.getElem?_append_left (by rw [List.length_take]; omega), List.getElem?_take_of_lt hi]
  · rw [List.getElem?_append_right (by rw [List.length_take]; omega), List.length_take, Nat.min_eq_left (by omega)]
    by_cases h0 : i = n * 2
    · subst h0
      rw [List.getElem?_take_of_lt (by omega), List.getElem?_set_ne (by omega), List.getElem?_set_self (by omega), Nat.sub_self]
      rfl
    · by_cases h1 : i = n * 2 + 1
      · subst h1
        rw [List.getElem?_take_of_lt (by omega), List.getElem?_set_self (by simp; omega), show n * 2 + 1 - n * 2 = 1 by omega]
        rfl
      · rw [List.getElem?_eq_none (by rw [List.length_take]; omega), List.getElem?_eq_none (by simp [pcells]; omega)]

theorem RoomAt.heap {W W' : World} {g : Nat} {L : List PairL} (h : RoomAt W g L) (e : W'.heap[g]? = W.heap[g]?) : RoomAt W' g L := by
  obtain ⟨cur, h1, h2, h3⟩ := h
  exact ⟨cur, e.trans h1, h2, h3⟩

structure GetI (w : World) (pre : List (List UInt8)) (L : List PairL) (W : World) : Prop where
  read : getA [] pre = some L
  len : L.length = pre.length
  le : pre.length ≤ 30
  res : Boxed W w.heap.size 24 (.slice none 0 0)
  ok : Boxed W (w.heap.size + 1) 4 (.bool false)
  room : RoomAt W (w.heap.size + 1 + 1) L
  num : Boxed W (w.heap.size + 1 + 1 + 1) 3 (.int .i64 (pre.length : Int))
  sep : Boxed W (w.heap.size + 1 + 1 + 1 + 1 + 1) 5 (.int .u8 38)
  hm : HM W
  below : Below w.heap.size w W

theorem GetI.kept {w W W' : World} {pre : List (List UInt8)} {L : List PairL} (h : GetI w pre L W) {row : Option Nat} (hg : W.grownBy W' row) (hr : ∀ r, row = some r → w.heap.size + 6 ≤ r) (hlow : HM w) : GetI w pre L W' := by
  have hb : ∀ k, k < w.heap.size + 6 → W'.heap[k]? = W.heap[k]? := fun k hk => by
    by_cases hs : k < W.heap.size
    · exact hg.block k hs (fun e => by have := hr k e.symm; omega)
    · have := h.sep.lt; omega
  have hbel : Below w.heap.size w W' := h.below.grown hg h.below.size (fun r e => by have := hr r e; omega)
  exact ⟨h.read, h.len, h.le, (hb _ (by omega)).trans h.res, (hb _ (by omega)).trans h.ok, h.room.heap (hb _ (by omega)), (hb _ (by omega)).trans h.num, (hb _ (by omega)).trans h.sep, hlow.below hbel, hbel⟩

theorem run_sliceAt_three {P : Program} (t e : TypeId) (N : Nat) (i : TypeInfo) (ht : P.underlying t = some (.array N e)) (hi : P.info? e = some i) (g n : Nat) (hn : n ≤ N) (w : World) :
    (Instr.sliceAt t (.pointer (some ⟨g, 0, none⟩)) none (some (.int .i64 (n : Int))) (some (.int .i64 (n : Int)))).run P w = .ok (.slice (some ⟨g, 0, none⟩) n n) w := by
  have h1 : (n : Int) ≤ (N : Int) := by omega
  have h2 : ¬ ((N : Int) < (n : Int)) := by omega
  simp [Instr.sliceAt, Instr.sureAddr, slicedAt, run_underlying ht, Instr.sliceBounds, run_sliceBound, sliced, sizeOf, typeInfo, hi, h1, h2, Result.andThen]
  intro _
  simp [Addr.add]

theorem run_loadVar_boxed {P : Program} {W : World} {g : Nat} {t : TypeId} {v : Value} {d : TypeDesc} (h : Boxed W g t v) (hu : P.underlying t = some d) (hd : (match d with | .struct _ | .array _ _ => true | _ => false) = false) :
    (loadVar t ⟨g, 0, none⟩).run P W = .ok v W := by
  have hc := h.cell
  have ha : (isAgg t).run P W = .ok false W := by
    unfold isAgg
    simp only [Sem.run_bind, run_underlying hu, Result.andThen]
    cases d <;> simp_all
  unfold loadVar
  simp only [Sem.run_bind, ha, Result.andThen]
  simp [hc]

theorem results_cells2 {P : Program} {fn : Func} {p q : Tmp} {t1 t2 : TypeId} (h : fn.results = #[.cell p t1, .cell q t2]) (tmps : Array Value) (W : World) (a1 a2 : Addr) (v1 v2 : Value) (h1 : tmps.getD p undef = .pointer (some a1)) (h2 : tmps.getD q undef = .pointer (some a2))
    (l1 : (loadVar t1 a1).run P W = .ok v1 W) (l2 : (loadVar t2 a2).run P W = .ok v2 W) : (results fn tmps).run P W = .ok (.tuple #[v1, v2]) W := by
  have e : (results fn tmps).run P W = ((asAddr (tmps.getD p undef)).run P W).andThen fun a w1 => ((loadVar t1 a).run P w1).andThen fun v w2 => ((asAddr (tmps.getD q undef)).run P w2).andThen fun b w3 => ((loadVar t2 b).run P w3).andThen fun u w4 => .ok (.tuple #[v, u]) w4 := by
    simp only [results, h]
    simp [Sem.run_bind, Result.andThen]
  rw [e, h1]
  simp only [asAddr, Sem.run_pure, Result.andThen, l1, h2, l2]

theorem boxed_putD {W : World} {g D : Nat} {t : TypeId} {v : Value} {o : Obj} (h : Boxed W g t v) (hne : g ≠ D) : Boxed (W.putObj D o) g t v := (World.putObj_heap_other hne).trans h

theorem boxed_other {W : World} {g B k : Nat} {t : TypeId} {v : Value} (h : Boxed W g t v) (hne : g ≠ B) (v' : Value) : Boxed (W.setCell ⟨B, k, none⟩ v') g t v := (Below.heap_setCell _ _ _ _ hne).trans h

/-- behind an early end -/
structure GetX (w : World) (c : Code) (pre : List (List UInt8)) (W : World) : Prop where
  ret : c = .ret
  why : getA [] pre = none ∨ 30 < pre.length
  res : Boxed W w.heap.size 24 (.slice none 0 0)
  ok : Boxed W (w.heap.size + 1) 4 (.bool false)
  below : Below w.heap.size w W

theorem GetX.kept {w W W' : World} {c : Code} {pre : List (List UInt8)} (h : GetX w c pre W) {row : Option Nat} (hg : W.grownBy W' row) (hr : ∀ r, row = some r → w.heap.size + 6 ≤ r) : GetX w c pre W' := by
  have hs2 := h.ok.lt
  have hb : ∀ k, k < w.heap.size + 2 → W'.heap[k]? = W.heap[k]? := fun k hk => hg.block k (by omega) (fun e => by have := hr k e.symm; omega)
  exact ⟨h.ret, h.why, (hb _ (by omega)).trans h.res, (hb _ (by omega)).trans h.ok, h.below.grown hg h.below.size (fun r e => by have := hr r e; omega)⟩

set_option maxRecDepth 100000 in
set_option maxHeartbeats 4000000 in
theorem getform_impl (s : List UInt8) (w : World) (hs : s.length ≤ 1048576) (hm : HM w) :
    Calls Tryz.prog 66 #[.string (txt s)] w fun e w' => ∃ a cap cap' e', e = .returned (getV (.slice a ((getL s).getD []).length cap) (getL s)) ∧ w'.ownsRow w.heap.size e' 2 (.slice a ((getL s).getD []).length cap') ((getL s).getD []).length (pcells ((getL s).getD [])) ∧ Below w.heap.size w w' := by
  obtain ⟨hz, hi⟩ := zero_of_info zeroPairs
  generalize hZ : zero30 = Z at hz
  have HZ := Lib.hid hZ
  clear hZ
  refine (callsIn_wide (n := 3)).1 ?_
  refine callsIn_of_wp_marks Tryz.func66 rfl trivial ?_ rfl
  simp only [Tryz.ntmps66, List.size_toArray, List.length_cons, List.length_nil, Nat.reduceAdd, Nat.reduceSub, Array.replicate_succ, Array.replicate_zero, List.push_toArray, List.append_toArray, List.nil_append, List.cons_append]
  gi_wp2_with (refine ⟨trivial, ?_⟩; gi_at_call 92; refine (callsIn_wide.2 (parts_call _ _ 38)).mono ?_; rintro e w' ⟨rfl, rfl⟩)
  have b0 := Boxed.new w 24 (.slice none 0 0)
  have b1 := Boxed.new (w.alloc (.cells #[.slice none 0 0] 24)) 4 (.bool false)
  have b2 : ((w.alloc (.cells #[.slice none 0 0] 24)).alloc (.cells #[.bool false] 4)).alloc (.cells Z 99) |>.heap[((w.alloc (.cells #[.slice none 0 0] 24)).alloc (.cells #[.bool false] 4)).heap.size]? = some (.cells Z 99 (0, 0)) := heap_alloc_last _ _
  have b3 := Boxed.new (((w.alloc (.cells #[.slice none 0 0] 24)).alloc (.cells #[.bool false] 4)).alloc (.cells Z 99)) 3 (.int .i64 0)
  have b4 := Boxed.new ((((w.alloc (.cells #[.slice none 0 0] 24)).alloc (.cells #[.bool false] 4)).alloc (.cells Z 99)).alloc (.cells #[.int .i64 0] 3)) 9 (.string (txt s))
  have b5 := Boxed.new (((((w.alloc (.cells #[.slice none 0 0] 24)).alloc (.cells #[.bool false] 4)).alloc (.cells Z 99)).alloc (.cells #[.int .i64 0] 3)).alloc (.cells #[.string (txt s)] 9)) 5 (.int .u8 38)
  simp only [World.size_alloc] at b1 b2 b3 b4 b5
  have hB0 : Below w.heap.size w ((((((w.alloc (.cells #[.slice none 0 0] 24)).alloc (.cells #[.bool false] 4)).alloc (.cells Z 99)).alloc (.cells #[.int .i64 0] 3)).alloc (.cells #[.string (txt s)] 9)).alloc (.cells #[.int .u8 38] 5)) :=
    ((((((Below.refl _ w).alloc (Nat.le_refl _) _).alloc (by simp) _).alloc (by simp; omega) _).alloc (by simp; omega) _).alloc (by simp; omega) _).alloc (by simp; omega) _
  have hS1 := (b4.alloc (.cells #[.int .u8 38] 5)).cell
  have hC1 := b5.cell
  have hI0 : GetI w [] [] ((((((w.alloc (.cells #[.slice none 0 0] 24)).alloc (.cells #[.bool false] 4)).alloc (.cells Z 99)).alloc (.cells #[.int .i64 0] 3)).alloc (.cells #[.string (txt s)] 9)).alloc (.cells #[.int .u8 38] 5)) := by
    refine ⟨rfl, rfl, by simp, ((((b0.alloc _).alloc _).alloc _).alloc _).alloc _, (((b1.alloc _).alloc _).alloc _).alloc _, ⟨Z, ?_, by rw [← HZ.out]; simp [zero30], by simp [pcells]⟩, (b3.alloc _).alloc _, b5, hm.below hB0, hB0⟩
    rw [Below.heap_alloc _ _ _ (by simp), Below.heap_alloc _ _ _ (by simp), Below.heap_alloc _ _ _ (by simp)]
    exact b2
  have hsz6 : ((((((w.alloc (.cells #[.slice none 0 0] 24)).alloc (.cells #[.bool false] 4)).alloc (.cells Z 99)).alloc (.cells #[.int .i64 0] 3)).alloc (.cells #[.string (txt s)] 9)).alloc (.cells #[.int .u8 38] 5)).heap.size = w.heap.size + 6 := by simp
  clear b0 b1 b2 b3 b4 b5 hB0
  generalize ((((((w.alloc (.cells #[.slice none 0 0] 24)).alloc (.cells #[.bool false] 4)).alloc (.cells Z 99)).alloc (.cells #[.int .i64 0] 3)).alloc (.cells #[.string (txt s)] 9)).alloc (.cells #[.int .u8 38] 5)) = w6 at hS1 hC1 hI0 hsz6 ⊢
  refine wpIn_rangeFunc_ownG rfl (by omega) (gf := 110) (lb := #[.pointer (some ⟨w.heap.size + 1 + 1 + 1 + 1, 0, none⟩), .pointer (some ⟨w.heap.size + 1 + 1 + 1 + 1 + 1, 0, none⟩)]) rfl trivial (enters_of Tryz.func110 (by kernel_rfl) rfl)
    (parts_stops_short _ (by omega) (w.heap.size + 1 + 1 + 1 + 1) (w.heap.size + 1 + 1 + 1 + 1 + 1) s 38 _ hS1 hC1 hs (fun x hx => Nat.le_trans (splitL_part 38 s x hx) hs)) keepB_t (keepB_b (by omega)) (Below.refl _ _) (fun _ => rfl)
    (fun (pre : List Short) (W : World) => ∃ L, GetI w (pre.map (fun x : Short => x.1)) L W)
    (fun (c : Code) (pre : List Short) (W : World) => GetX w c (pre.map (fun x : Short => x.1)) W)
    (fun (pre : List Short) W W' row h hg hr => h.elim fun L h => ⟨L, h.kept hg (fun r e => by have := (hr r e).1; omega) hm⟩)
    (fun c (pre : List Short) W W' row h hg hr => h.kept hg (fun r e => by have := (hr r e).1; omega))
    ⟨[], hI0⟩
    (fun x => { tmps := #[.string (txt s), undef, .pointer (some ⟨w.heap.size, 0, none⟩), .pointer (some ⟨w.heap.size + 1, 0, none⟩), .pointer (some ⟨w.heap.size + 1 + 1, 0, none⟩), .pointer (some ⟨w.heap.size + 1 + 1 + 1, 0, none⟩), .string (txt x.1), undef, undef, .string (txt s), .func (.func 110) #[] #[.pointer (some ⟨w.heap.size + 1 + 1 + 1 + 1, 0, none⟩), .pointer (some ⟨w.heap.size + 1 + 1 + 1 + 1 + 1, 0, none⟩)], .string (txt x.1), undef, undef, undef, undef, undef, undef, undef, undef, undef, undef, undef, undef, undef, undef, undef, undef, undef, undef, undef], defers := [] }) ?assign ?body ?done ?stop
  case assign =>
    intro l x W K hK
    gi_wp2
    exact hK
  case body =>
    rintro l pre x W ⟨L, hI⟩ hlt
    obtain ⟨x, hx⟩ := x
    have hread := hI.read
    have hsn := getA_snoc (pre.map (fun x : Short => x.1)) x []
    rw [hread] at hsn
    simp only [Option.bind_some] at hsn
    have hmap : (pre ++ [(⟨x, hx⟩ : Short)]).map (fun x : Short => x.1) = pre.map (fun x : Short => x.1) ++ [x] := by simp
    have hle := hI.le
    have hlen := hI.len
    have hw6 : w6.heap.size = w.heap.size + 6 := hsz6
    have hkeep : ∀ {w1 : World} {o : Obj} {v1 v2 : Value} {q : List (List UInt8)} {L' : List PairL}, Below W.heap.size W w1 → KeepsFrom w6.heap.size W (((w1.alloc o).setCell ⟨w.heap.size, 0, none⟩ v1).setCell ⟨w.heap.size + 1, 0, none⟩ v2) := fun {w1 o v1 v2 _ _} hb1 => ⟨by simp; have := hb1.size; omega, fun k o' hB hk _ => by
      have hlt := (Array.getElem?_eq_some_iff.1 hk).1
      have hs1 := hb1.size
      rw [Below.heap_setCell _ _ _ _ (by show k ≠ w.heap.size + 1; omega), Below.heap_setCell _ _ _ _ (by show k ≠ w.heap.size; omega), Below.heap_alloc _ _ _ (by omega), hb1.block k hlt]
      exact hk⟩
    cases hp : partL x with
    | none =>
      rw [hp] at hsn
      gi_wp2_with (refine ⟨trivial, ?_⟩; gi_at_call 93; refine (callsIn_wide.2 (readPair_call x _ hx hI.hm)).mono ?_; rintro e w1 ⟨rfl, hb1⟩; rw [hp, pairR]; have hI1 := hI.kept (grown_below hb1 none) (fun r e => by cases e) hm; have hI2 := hI1.kept (World.grownBy_alloc w1 (.cells #[.string ⟨#[]⟩, .string ⟨#[]⟩] 67) none) (fun r e => by cases e) hm; have r1 := hI2.res.cell; have r2 := hI2.res.frozen; have o1 := hI2.ok.cell; have o2 := hI2.ok.frozen)
      exact ⟨hkeep (q := []) (L' := []) hb1, rfl, .inl (by rw [hmap, hsn]; rfl), (boxed_other (hI2.res.set _) (by omega) _), (Boxed.set _ (boxed_other hI2.ok (by omega) _)), (hI2.below.setCell (Nat.le_refl _) _).setCell (Nat.le_succ _) _⟩
    | some p =>
      rw [hp] at hsn
      obtain ⟨pk, pv⟩ := p
      by_cases h30 : (pre.map (fun x : Short => x.1)).length = 30
      · gi_wp2_with (refine ⟨trivial, ?_⟩; gi_at_call 93; refine (callsIn_wide.2 (readPair_call x _ hx hI.hm)).mono ?_; rintro e w1 ⟨rfl, hb1⟩; rw [hp, pairR]; have hI1 := hI.kept (grown_below hb1 none) (fun r e => by cases e) hm; have hI2 := hI1.kept (World.grownBy_alloc w1 (.cells #[.string (txt pk), .string (txt pv)] 67) none) (fun r e => by cases e) hm; have r1 := hI2.res.cell; have r2 := hI2.res.frozen; have o1 := hI2.ok.cell; have o2 := hI2.ok.frozen; have n1 := hI2.num.cell; rw [h30] at n1)
        exact ⟨hkeep (q := []) (L' := []) hb1, rfl, .inr (by rw [hmap, List.length_append, h30]; simp), (boxed_other (hI2.res.set _) (by omega) _), (Boxed.set _ (boxed_other hI2.ok (by omega) _)), (hI2.below.setCell (Nat.le_refl _) _).setCell (Nat.le_succ _) _⟩
      · have hcur := hI.room
        obtain ⟨cur, q1, q2, q3⟩ := hcur
        have hn30 : (pre.map (fun x : Short => x.1)).length < 30 := by omega
        generalize hnn : (pre.map (fun x : Short => x.1)).length = n at h30 hle hlen hn30
        have ui0 : (0 : Int) ≤ (n : Int) := by omega
        have ui1 : (n : Int) < 30 := by omega
        have une : ((n : Int) == 30) = false := by simp; omega
        gi_wp2_with (refine ⟨trivial, ?_⟩; gi_at_call 93; refine (callsIn_wide.2 (readPair_call x _ hx hI.hm)).mono ?_; rintro e w1 ⟨rfl, hb1⟩; rw [hp, pairR]; have hI1 := hI.kept (grown_below hb1 none) (fun r e => by cases e) hm; have hI2 := hI1.kept (World.grownBy_alloc w1 (.cells #[.string (txt pk), .string (txt pv)] 67) none) (fun r e => by cases e) hm; have n1 := hI2.num.cell; have n2 := hI2.num.frozen; rw [hnn] at n1; obtain ⟨cur2, q1', q2', _⟩ := hI2.room; have m1 := (box_cell q1' (n * 2)).trans (Array.getElem?_eq_getElem (by omega)); have m2 := (box_cell q1' (n * 2 + 1)).trans (Array.getElem?_eq_getElem (by omega)); have f1 := box_free q1' (n * 2); have f2 := box_free q1' (n * 2 + 1))
        have hLn : L.length = n := hlen
        have hs9 := hb1.size
        have hsep := hI2.sep.lt
        have hroom := room_put hI2.room (pk, pv) (by omega)
        rw [hLn] at hroom
        have hbelow := ((hI2.below.setCell (p := ⟨w.heap.size + 1 + 1, n * 2, none⟩) (by show w.heap.size ≤ w.heap.size + 1 + 1; omega) (.string (txt pk))).setCell (p := ⟨w.heap.size + 1 + 1, n * 2 + 1, none⟩) (by show w.heap.size ≤ w.heap.size + 1 + 1; omega) (.string (txt pv))).setCell (p := ⟨w.heap.size + 1 + 1 + 1, 0, none⟩) (by show w.heap.size ≤ w.heap.size + 1 + 1 + 1; omega) (.int .i64 ((n : Int) + 1))
        refine ⟨⟨by simp; omega, fun k o' hB hk _ => ?_⟩, ?_, L ++ [(pk, pv)], ?_⟩
        · have hlt := (Array.getElem?_eq_some_iff.1 hk).1
          rw [Below.heap_setCell _ _ _ _ (by show k ≠ w.heap.size + 1 + 1 + 1; omega), Below.heap_setCell _ _ _ _ (by show k ≠ w.heap.size + 1 + 1; omega), Below.heap_setCell _ _ _ _ (by show k ≠ w.heap.size + 1 + 1; omega), Below.heap_alloc _ _ _ (by omega), hb1.block k hlt]
          exact hk
        · exact (boxed_other (boxed_other (boxed_other hI2.sep (by omega) _) (by omega) _) (by omega) _).trans hI.sep.symm
        · refine ⟨by rw [hmap, hsn]; rfl, by rw [hmap, List.length_append, List.length_append, hnn, hLn]; rfl, by rw [hmap, List.length_append, hnn]; simp; omega, ?_, ?_, ?_, ?_, ?_, hm.below hbelow, hbelow⟩
          · exact boxed_other (boxed_other (boxed_other hI2.res (by omega) _) (by omega) _) (by omega) _
          · exact boxed_other (boxed_other (boxed_other hI2.ok (by omega) _) (by omega) _) (by omega) _
          · exact hroom.heap (Below.heap_setCell _ _ _ _ (by show w.heap.size + 1 + 1 ≠ w.heap.size + 1 + 1 + 1; omega))
          · rw [hmap, List.length_append, hnn]
            have := Boxed.set (.int .i64 ((n : Int) + 1)) (boxed_other (k := n * 2 + 1) (boxed_other (k := n * 2) hI2.num (show w.heap.size + 1 + 1 + 1 ≠ w.heap.size + 1 + 1 by omega) (.string (txt pk))) (show w.heap.size + 1 + 1 + 1 ≠ w.heap.size + 1 + 1 by omega) (.string (txt pv)))
            simpa using this
          · exact boxed_other (boxed_other (boxed_other hI2.sep (by omega) _) (by omega) _) (by omega) _
  case done =>
    rintro D ys W hD hys ⟨L, hI⟩ hK
    have n1 := hI.num.cell
    have n2 := hI.num.frozen
    have r1 := hI.res.cell
    have r2 := hI.res.frozen
    have o1 := hI.ok.cell
    have o2 := hI.ok.frozen
    have hle := hI.le
    obtain ⟨i0, hi0, _, _, _⟩ := info_parts pair_info
    have hsl := run_sliceAt_three (P := Tryz.prog) 99 67 30 i0 Tryz.underlying99 hi0 (w.heap.size + 1 + 1) _ hle W
    have hys2 : ys.map (fun x : Short => x.1) = splitL 38 s := hys
    have HYS := Lib.hid hys2
    have HG := Lib.hid (show getL s = some L by unfold getL; rw [← hys2, if_neg (by omega)]; exact hI.read)
    have HLen := Lib.hid hI.len
    clear hys hys2
    generalize (ys.map (fun x : Short => x.1)).length = n at n1 hle hsl HLen
    gi_wp2
    have hD2 : D ≠ w.heap.size := by omega
    have hD3 : D ≠ w.heap.size + 1 := by omega
    have hK9 : ((W.setCell ⟨w.heap.size, 0, none⟩ (.slice (some ⟨w.heap.size + 1 + 1, 0, none⟩) n n)).setCell ⟨w.heap.size + 1, 0, none⟩ (.bool true)).heap[D]? = some (.deferred (some [])) := by
      rw [Below.heap_setCell _ _ _ _ hD3, Below.heap_setCell _ _ _ _ hD2]
      exact hK
    have bR := boxed_other (k := 0) (Boxed.set (.slice (some ⟨w.heap.size + 1 + 1, 0, none⟩) n n) hI.res) (show w.heap.size ≠ w.heap.size + 1 by omega) (.bool true)
    have bO := Boxed.set (.bool true) (boxed_other (k := 0) hI.ok (show w.heap.size + 1 ≠ w.heap.size by omega) (.slice (some ⟨w.heap.size + 1 + 1, 0, none⟩) n n))
    have hb9 := (hI.below.setCell (p := ⟨w.heap.size, 0, none⟩) (Nat.le_refl _) (.slice (some ⟨w.heap.size + 1 + 1, 0, none⟩) n n)).setCell (p := ⟨w.heap.size + 1, 0, none⟩) (Nat.le_succ _) (.bool true)
    obtain ⟨cur, q1, q2, q3⟩ := hI.room
    have q9 : ((W.setCell ⟨w.heap.size, 0, none⟩ (.slice (some ⟨w.heap.size + 1 + 1, 0, none⟩) n n)).setCell ⟨w.heap.size + 1, 0, none⟩ (.bool true)).heap[w.heap.size + 1 + 1]? = some (.cells cur 99 (0, 0)) := by
      rw [Below.heap_setCell _ _ _ _ (by show w.heap.size + 1 + 1 ≠ w.heap.size + 1; omega), Below.heap_setCell _ _ _ _ (by show w.heap.size + 1 + 1 ≠ w.heap.size; omega)]
      exact q1
    have hln := HLen.out
    rw [HG.out]
    simp only [Option.getD_some]
    rw [hln] at q3 ⊢
    refine ⟨by simp, .inl ⟨_, _, rfl, run_takeDeferred hK9, ?_⟩⟩
    exact ⟨_, results_cells2 rfl _ _ _ _ _ _ rfl rfl (run_loadVar_boxed (boxed_putD bR (by omega)) Tryz.underlying24 rfl) (run_loadVar_boxed (boxed_putD bO (by omega)) Tryz.underlying4 rfl), some ⟨w.heap.size + 1 + 1, 0, none⟩, n, 30, 99, rfl,
      ⟨by rw [pcells_len, hln], .inr ⟨w.heap.size + 1 + 1, 30, cur, rfl, by omega, (World.putObj_heap_other (by omega)).trans q9, hle, by unfold maxLen; omega, q2, q3⟩⟩, hb9.trans (belowK_b (w := w) (Nat.le_refl _) _ D _ _ (by omega) hK9 rfl rfl)⟩
  case stop =>
    rintro D c pre W hD hpre hX hK
    obtain rfl := hX.ret
    have hno : getL s = none := getL_stop s _ hpre hX.why
    gi_wp2
    refine ⟨by simp, .inl ⟨_, _, rfl, run_takeDeferred hK, ?_⟩⟩
    have hlt := hX.ok.lt
    exact ⟨_, results_cells2 rfl _ _ _ _ _ _ rfl rfl (run_loadVar_boxed (boxed_putD hX.res (by omega)) Tryz.underlying24 rfl) (run_loadVar_boxed (boxed_putD hX.ok (by omega)) Tryz.underlying4 rfl), none, 0, 0, 0, by rw [hno]; rfl, by rw [hno]; exact World.ownsRow_nil _ _ _ _, hX.below.trans (belowK_b (w := w) (Nat.le_refl _) W D _ _ (by omega) hK rfl rfl)⟩

end Go.Proofs.YtfnignlfelambaaGreatDoor
