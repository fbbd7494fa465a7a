/- CONTRACTS of SplitAt: the program's, by its range over a function. -/
import Derived.Test.YtonpalaopnfffaaGreatDoorSplit
import Derived.RangeFuncNested
import Derived.RangeFuncBound
import Derived.RangeFuncCalls
import Derived.RangeFuncLeaves
import Derived.RangeFuncBox
import Derived.RangeFuncWrites
import Derived.Shelf.Abstract
import Derived.Shelf.RegionOpen
import Derived.WalkKit
import Derived.OwnWalkIn
import Derived.TacticsInMore
import Derived.LoopNIn
import Derived.LoopIn
import Derived.Maps.AppendAt
import Derived.Sort.QuietIn

namespace Go.Proofs.YtonpalaopnfffaaGreatDoor
set_option linter.unusedVariables false
set_option maxRecDepth 4000
open Go.RowKit Go.Shelf
attribute [local go_sem] Oper.semAt_some

theorem sAux_no (c : UInt8) (r : List UInt8) : ∀ cur, c ∉ r → sAux c cur r = [cur ++ r] := by
  induction r with
  | nil => intro cur _; simp [sAux]
  | cons x r ih =>
    intro cur h
    rw [sAux, if_neg (fun e => h (by simp [e])), ih _ (fun h2 => h (by simp [h2]))]
    simp

theorem sAux_yes (c : UInt8) (q : List UInt8) (p : List UInt8) : ∀ cur, c ∉ p → sAux c cur (p ++ c :: q) = (cur ++ p) :: sAux c [] q := by
  induction p with
  | nil => intro cur _; simp [sAux]
  | cons x p ih =>
    intro cur h
    rw [List.cons_append, sAux, if_neg (fun e => h (by simp [e])), ih _ (fun h2 => h (by simp [h2]))]
    simp

theorem cut_l_no (r : List UInt8) (c : UInt8) (w : World) (h : c ∉ r) :
    Calls Tryz.prog 96 #[.string (txt r), .int .u8 c.toNat] w fun e w' => e = .returned (.tuple #[.string (txt r), .string (txt []), .bool false]) ∧ Below w.heap.size w w' := by
  refine cut_impl_no (txt r) c w fun j hj e => h ?_
  have hj' : j < r.length := by rw [← txt_size r]; exact hj
  have : (txt r)[j] = r[j] := rfl
  rw [← e]
  exact this ▸ List.getElem_mem hj'

theorem cut_l_yes (p q : List UInt8) (c : UInt8) (w : World) (h : c ∉ p) (hs : (p ++ c :: q).length ≤ 1048576) :
    Calls Tryz.prog 96 #[.string (txt (p ++ c :: q)), .int .u8 c.toNat] w fun e w' => e = .returned (.tuple #[.string (txt p), .string (txt q), .bool true]) ∧ Below w.heap.size w w' := by
  have hsz := txt_size (p ++ c :: q)
  have hl : (p ++ c :: q).length = p.length + (q.length + 1) := by simp
  have hn : p.length < (txt (p ++ c :: q)).size := by omega
  have hget : ∀ j (hj : j < (txt (p ++ c :: q)).size), (txt (p ++ c :: q))[j] = (p ++ c :: q)[j]'(by omega) := fun _ _ => rfl
  have hc : (txt (p ++ c :: q))[p.length] = c := by rw [hget]; simp
  have hd : ∀ j (hj : j < p.length), (txt (p ++ c :: q))[j] ≠ c := by
    intro j hj e
    rw [hget, List.getElem_append_left hj] at e
    exact h (by rw [← e]; exact List.getElem_mem hj)
  refine (cut_impl_yes (txt (p ++ c :: q)) c w (by omega) p.length hn hc hd).mono fun e w' ⟨he, hb⟩ => ⟨?_, hb⟩
  rw [he, extract_seg, extract_seg]
  have e1 : seg (txt (p ++ c :: q)) 0 p.length = p := by
    show ((p ++ c :: q).take p.length).drop 0 = p
    simp
  have e2 : seg (txt (p ++ c :: q)) (p.length + 1) (txt (p ++ c :: q)).size = q := by
    rw [hsz]
    show ((p ++ c :: q).take (p ++ c :: q).length).drop (p.length + 1) = q
    rw [List.take_length]
    have : p ++ c :: q = (p ++ [c]) ++ q := by simp
    rw [this, List.drop_left' (by simp)]
  rw [e1, e2]

theorem grown_drewS {a w : World} {row : Option Nat} (h : a.grownBy w row) (n : Nat) : a.grownBy (w.drewN n) row := ⟨h.os, h.tape, h.output, h.size, h.block⟩

/-- one block lies as it lay -/
def KeepB (B : Nat) (A A' : World) : Prop := A'.heap[B]? = A.heap[B]?

theorem keepB_t {B : Nat} {X Y Z : World} (h : KeepB B X Y) (k : KeepB B Y Z) : KeepB B X Z := Eq.trans k h

theorem keepB_b {B : Nat} {w : World} (hn : B < w.heap.size) (W : World) (l : Nat) (o o' : Obj) (hl : w.heap.size ≤ l) (h : W.heap[l]? = some o) (_ : o.isCells = false) (_ : o.isWalk = false) : KeepB B W (W.putObj l o') := World.putObj_heap_other (by omega)

/-- how many rounds may still come -/
def leftS (r m : Value) : Nat := match r, m with
  | .string s, .bool true => s.size + 1
  | _, _ => 0

set_option maxRecDepth 100000 in
set_option maxHeartbeats 1000000 in
theorem parts1_in (n : Nat) (hn : 1 ≤ n) (l Bs Bc n1 : Nat) (s : List UInt8) (c : UInt8) (J Jx : List (List UInt8) → World → Prop) (hJ : AbidesFrom n1 J)
    (hY : ∀ pre x W, J pre W → pre ++ [x] <+: splitL c s → YieldAt Fence.wide (n - 1) Tryz.prog l #[.string (txt x)] W fun e W' =>
      (e = .returned (.bool true) ∧ J (pre ++ [x]) W' ∧ KeepB Bc W W') ∨ (e = .returned (.bool false) ∧ Jx (pre ++ [x]) W'))
    (W : World) (hBs : W.cell? ⟨Bs, 0, none⟩ = some (.string (txt s))) (hBc : W.cell? ⟨Bc, 0, none⟩ = some (.int .u8 ((c.toNat : Nat) : Int))) (hs : s.length ≤ 1048576) (h0 : J [] W) :
    CallsIn Fence.wide n Tryz.prog 95 #[.func (.yield l) #[] #[], .pointer (some ⟨Bs, 0, none⟩), .pointer (some ⟨Bc, 0, none⟩)] W fun e W' => (∃ v, e = .returned v) ∧
      ((∃ ys, ys = splitL c s ∧ J ys W') ∨ (∃ pre, pre <+: splitL c s ∧ Jx pre W')) := by
  have hc256 := c.toNat_lt
  have hemp : (txt s).toList.isEmpty = decide (s = []) := by
    rw [Lib.toList_data, txt_toList]
    cases s <;> simp
  obtain ⟨m0, hm0⟩ : ∃ m0, m0 = decide (s = []) := ⟨_, rfl⟩
  rw [← hm0] at hemp
  have hx0 : (m0 = false → splitL c s = sAux c [] s) ∧ (m0 = true → splitL c s = []) := by
    refine ⟨fun e => ?_, fun e => ?_⟩
    · unfold splitL
      rw [if_neg]
      rw [e] at hm0
      exact of_decide_eq_false hm0.symm
    · unfold splitL
      rw [if_pos]
      rw [e] at hm0
      exact of_decide_eq_true hm0.symm
  have HX0 := Lib.hid hx0
  clear hm0 hx0
  refine callsIn_of_wp Tryz.func95 rfl trivial ?_ rfl
  simp only [Tryz.ntmps95, List.size_toArray, List.length_cons, List.length_nil, Nat.reduceAdd, Nat.reduceSub, Array.replicate_succ, Array.replicate_zero, List.push_toArray, List.append_toArray, List.nil_append, List.cons_append]
  gi_wp2
  gi_quiet (fail)
  gi_wp2
  gi_loopw [4, 5, 6] (fun r m _ wr => ∃ (pre : List (List UInt8)) (rest : List UInt8) (b : Bool), r = .string (txt rest) ∧ m = .bool b ∧ rest.length ≤ 1048576 ∧ Hid ((b = true → splitL c s = pre ++ sAux c [] rest) ∧ (b = false → splitL c s = pre)) ∧ wr.cell? ⟨Bc, 0, none⟩ = some (.int .u8 ((c.toNat : Nat) : Int)) ∧ J pre wr)
    (fun r m _ _ => leftS r m)
  case atStart =>
    refine ⟨[], s, !m0, rfl, ?_, hs, Lib.hid ⟨fun e => ?_, fun e => ?_⟩, ?_, hJ [] W _ none h0 (grown_drewS (World.grownBy.refl _ _) _) (fun r e => by cases e)⟩
    · rfl
    · exact HX0.out.1 (by simpa using e)
    · exact HX0.out.2 (by simpa using e)
    · exact hBc
  case round =>
    obtain ⟨pre, rest, b, rfl, rfl, hrl, HX, hcw, hJw⟩ := hrel
    cases b with
    | false =>
      gi_wp2
      go_end0
      exact ⟨⟨_, rfl⟩, .inl (by rw [HX.out.2 trivial]; exact hJw)⟩
    | true =>
      have hxs := HX.out.1 rfl
      clear HX
      by_cases hcr : c ∈ rest
      · obtain ⟨p, q, rfl, hcp⟩ := List.eq_append_cons_of_mem hcr
        rw [sAux_yes c q p [] hcp, List.nil_append] at hxs
        have hlen : pre ++ [p] <+: splitL c s := ⟨sAux c [] q, by rw [hxs]; simp⟩
        have HX := Lib.hid hxs
        clear hxs
        gi_wp2_with (refine ⟨trivial, ?_⟩; gi_at_call 96; refine (callsIn_wide.2 (cut_l_yes p q c _ hcp hrl)).mono ?_; rintro e w1 ⟨rfl, hb1⟩; obtain ⟨fn, tmps, assign, body, hy, hR⟩ := hY pre p w1 (hJ pre wr w1 none hJw (grown_below hb1 none) (fun r e => by cases e)) hlen)
        refine hR.mono ?_
        rintro e W3 (⟨rfl, hJ3, hk3⟩ | ⟨rfl, hJx3⟩)
        · gi_wp2
          go_roundw
          case rel =>
            refine ⟨pre ++ [p], q, true, rfl, rfl, by simp at hrl; omega, Lib.hid ⟨fun _ => by rw [HX.out]; simp, fun e => by cases e⟩, ?_, hJ3⟩
            exact ((World.cell?_of_block (w := w1) (w' := W3) (a := ⟨Bc, 0, none⟩) hk3).trans (hb1.cell (p := ⟨Bc, 0, none⟩) (World.block_lt_of_cell? _ _ hcw))).trans hcw
          case measure => simp [leftS, txt_size]; omega
        · gi_wp2
          refine bodyPost_ret (results_none rfl _ _ _) rfl ?_
          exact ⟨⟨_, rfl⟩, .inr ⟨pre ++ [p], ⟨sAux c [] q, by rw [HX.out]; simp⟩, hJx3⟩⟩
      · rw [sAux_no c rest [] hcr, List.nil_append] at hxs
        have hlen : pre ++ [rest] <+: splitL c s := ⟨[], by rw [hxs]; simp⟩
        have HX := Lib.hid hxs
        clear hxs
        gi_wp2_with (refine ⟨trivial, ?_⟩; gi_at_call 96; refine (callsIn_wide.2 (cut_l_no rest c _ hcr)).mono ?_; rintro e w1 ⟨rfl, hb1⟩; obtain ⟨fn, tmps, assign, body, hy, hR⟩ := hY pre rest w1 (hJ pre wr w1 none hJw (grown_below hb1 none) (fun r e => by cases e)) hlen)
        refine hR.mono ?_
        rintro e W3 (⟨rfl, hJ3, hk3⟩ | ⟨rfl, hJx3⟩)
        · gi_wp2
          go_roundw
          case rel =>
            refine ⟨pre ++ [rest], [], false, rfl, rfl, by simp, Lib.hid ⟨fun e => by (cases e), fun _ => by rw [HX.out]⟩, ?_, hJ3⟩
            exact ((World.cell?_of_block (w := w1) (w' := W3) (a := ⟨Bc, 0, none⟩) hk3).trans (hb1.cell (p := ⟨Bc, 0, none⟩) (World.block_lt_of_cell? _ _ hcw))).trans hcw
          case measure => simp [leftS, txt_size]
        · gi_wp2
          refine bodyPost_ret (results_none rfl _ _ _) rfl ?_
          exact ⟨⟨_, rfl⟩, .inr ⟨pre ++ [rest], ⟨[], by rw [HX.out]; simp⟩, hJx3⟩⟩

theorem parts_call (w : World) (s : ByteArray) (c : UInt8) :
    Calls Tryz.prog 85 #[.string s, .int .u8 c.toNat] w fun e w' => e = .returned (.func (.func 95) #[] #[.pointer (some ⟨w.heap.size, 0, none⟩), .pointer (some ⟨w.heap.size + 1, 0, none⟩)]) ∧ w' = (w.alloc (.cells #[.string s] 9)).alloc (.cells #[.int .u8 c.toNat] 5) := by
  go_enter Tryz.func85, Tryz.ntmps85
  go_wp2
  go_ret
  exact ⟨rfl, rfl⟩

theorem parts_stops (n : Nat) (hn : 1 ≤ n) (Bs Bc : Nat) (s : List UInt8) (c : UInt8) (w : World) (hBs : w.cell? ⟨Bs, 0, none⟩ = some (.string (txt s))) (hBc : w.cell? ⟨Bc, 0, none⟩ = some (.int .u8 ((c.toNat : Nat) : Int))) (hs : s.length ≤ 1048576) :
    SeqStopsK Fence.wide n Tryz.prog 95 #[.pointer (some ⟨Bs, 0, none⟩), .pointer (some ⟨Bc, 0, none⟩)] (fun x : List UInt8 => #[Value.string (txt x)]) (KeepB Bc) (fun ys => ys = splitL c s) (fun pre => pre <+: splitL c s) (splitL c s).length w := fun l J Jx W hW hJ _ hY h0 =>
  parts1_in n hn l Bs Bc _ s c J Jx hJ (fun pre x W hj hp => hY pre x W hj (by have := hp.length_le; simp at this; omega)) W ((hW.cell (p := ⟨Bs, 0, none⟩) (World.block_lt_of_cell? _ _ hBs)).trans hBs) ((hW.cell (p := ⟨Bc, 0, none⟩) (World.block_lt_of_cell? _ _ hBc)).trans hBc) hs h0

/-- a part of a text that is not too long -/
abbrev Short := { x : List UInt8 // x.length ≤ 1048576 }

theorem parts_stops_short (n : Nat) (hn : 1 ≤ n) (Bs Bc : Nat) (s : List UInt8) (c : UInt8) (w : World) (hBs : w.cell? ⟨Bs, 0, none⟩ = some (.string (txt s))) (hBc : w.cell? ⟨Bc, 0, none⟩ = some (.int .u8 ((c.toNat : Nat) : Int))) (hs : s.length ≤ 1048576) (hpart : ∀ x ∈ splitL c s, x.length ≤ 1048576) :
    SeqStopsK Fence.wide n Tryz.prog 95 #[.pointer (some ⟨Bs, 0, none⟩), .pointer (some ⟨Bc, 0, none⟩)] (fun x : Short => #[Value.string (txt x.1)]) (KeepB Bc) (fun ys => ys.map (·.1) = splitL c s) (fun pre => pre.map (·.1) <+: splitL c s) (splitL c s).length w := fun l J Jx W hW hJ _ hY h0 => by
  refine (parts1_in n hn l Bs Bc W.heap.size s c (fun pre W => ∃ p' : List Short, p'.map (·.1) = pre ∧ J p' W) (fun pre W => ∃ p' : List Short, p'.map (·.1) = pre ∧ Jx p' W) ?_ ?_ W ((hW.cell (p := ⟨Bs, 0, none⟩) (World.block_lt_of_cell? _ _ hBs)).trans hBs) ((hW.cell (p := ⟨Bc, 0, none⟩) (World.block_lt_of_cell? _ _ hBc)).trans hBc) hs ⟨[], rfl, h0⟩).mono ?_
  · rintro pre X X' row ⟨p', hp, hj⟩ hg hr
    exact ⟨p', hp, hJ p' X X' row hj hg hr⟩
  · rintro pre x X ⟨p', rfl, hj⟩ hp
    have hx : x ∈ splitL c s := hp.subset (by simp)
    have hlen : p'.length < (splitL c s).length := by have := hp.length_le; simp at this; omega
    obtain ⟨fn, tmps, assign, body, hy, hR⟩ := hY p' ⟨x, hpart x hx⟩ X hj hlen
    refine ⟨fn, tmps, assign, body, hy, hR.mono ?_⟩
    rintro e X' (⟨rfl, h1, h2⟩ | ⟨rfl, h1⟩)
    · exact .inl ⟨rfl, ⟨_, by simp, h1⟩, h2⟩
    · exact .inr ⟨rfl, ⟨_, by simp, h1⟩⟩
  · rintro e X ⟨hv, ⟨ys, rfl, p', hp, hj⟩ | ⟨pre, hpre, p', hp, hj⟩⟩
    · exact ⟨hv, .inl ⟨p', hp, hj⟩⟩
    · exact ⟨hv, .inr ⟨p', by show p'.map (·.1) <+: _; rw [hp]; exact hpre, hj⟩⟩

set_option maxRecDepth 100000 in
set_option maxHeartbeats 2000000 in
theorem split_impl_l (s : List UInt8) (c : UInt8) (w : World) (hs : s.length ≤ 1048576) :
    Calls Tryz.prog 75 #[.string (txt s), .int .u8 c.toNat] w fun e W' => ∃ v, e = .returned v ∧ W'.ownsRow w.heap.size 9 1 v (splitL c s).length (strs (splitL c s)) ∧ Below w.heap.size w W' := by
  obtain ⟨i0, hi, hz0, hz1, hz2⟩ := info_parts Tryz.info9
  have hlen := splitL_len c s
  have hc256 := c.toNat_lt
  refine (callsIn_wide (n := 3)).1 ?_
  refine callsIn_of_wp_marks Tryz.func75 rfl trivial ?_ rfl
  simp only [Tryz.ntmps75, List.size_toArray, List.length_cons, List.length_nil, Nat.reduceAdd, Nat.reduceSub, Array.replicate_succ, Array.replicate_zero, List.push_toArray, List.append_toArray, List.nil_append, List.cons_append]
  gi_wp2_with (refine ⟨trivial, ?_⟩; gi_at_call 85; refine (callsIn_wide.2 (parts_call _ _ c)).mono ?_; rintro e w' ⟨rfl, rfl⟩)
  have bO := Boxed.new w 47 (.slice none 0 0)
  have bS := Boxed.new (w.alloc (.cells #[.slice none 0 0] 47)) 9 (.string (txt s))
  have bC := Boxed.new ((w.alloc (.cells #[.slice none 0 0] 47)).alloc (.cells #[.string (txt s)] 9)) 5 (.int .u8 c.toNat)
  simp only [World.size_alloc] at bS bC
  have hB0 : Below w.heap.size w (((w.alloc (.cells #[.slice none 0 0] 47)).alloc (.cells #[.string (txt s)] 9)).alloc (.cells #[.int .u8 c.toNat] 5)) := (((Below.refl _ w).alloc (Nat.le_refl _) _).alloc (by simp) _).alloc (by simp; omega) _
  have hS1 := (bS.alloc (.cells #[.int .u8 c.toNat] 5)).cell
  have hC1 := bC.cell
  refine wpIn_rangeFunc_ownG rfl (by omega) (gf := 95) (lb := #[.pointer (some ⟨w.heap.size + 1, 0, none⟩), .pointer (some ⟨w.heap.size + 1 + 1, 0, none⟩)]) rfl trivial (enters_of Tryz.func95 (by kernel_rfl) rfl)
    (parts_stops _ (by omega) (w.heap.size + 1) (w.heap.size + 1 + 1) s c _ hS1 hC1 hs) keepB_t (keepB_b (by simp)) (Below.refl _ _) (fun _ => rfl)
    (fun pre W => ((∃ v, Boxed W w.heap.size 47 v ∧ W.ownsRow w.heap.size 9 1 v pre.length (strs pre) ∧ True) ∧ Boxed W (w.heap.size + 1 + 1) 5 (.int .u8 c.toNat)) ∧ Below w.heap.size w W)
    (fun _ _ _ => False)
    (OwnFrom.and (OwnFrom.and (Own.from (holdsRow_own w.heap.size w.heap.size 47 9 1 (fun pre => pre.length) (fun pre => strs pre) (fun _ _ => True)) _) (Own.from (boxed_own _ _ _) _)) (ownFrom_below (Nat.le_refl _) (by simp; omega)))
    (fun _ _ _ _ _ hs _ _ => hs)
    ⟨⟨⟨_, (bO.alloc _).alloc _, World.ownsRow_nil _ _ _ _, trivial⟩, bC⟩, hB0⟩
    (fun x => { tmps := #[.string (txt s), .int .u8 c.toNat, undef, undef, .slice none 0 0, .pointer (some ⟨w.heap.size, 0, none⟩), .string (txt x), .string (txt s), .int .u8 c.toNat, .func (.func 95) #[] #[.pointer (some ⟨w.heap.size + 1, 0, none⟩), .pointer (some ⟨w.heap.size + 1 + 1, 0, none⟩)], .string (txt x), undef, undef, undef, undef, undef], defers := [] }) ?assign ?body ?done ?stop
  case assign =>
    intro l x W K hK
    gi_wp2
    exact hK
  case body =>
    rintro l pre x W ⟨⟨⟨v, hv, hrow, _⟩, hbc⟩, hB⟩ hlt
    have hc := hv.cell
    gi_wp2_with (gi_at_builtin; refine wpListIn_append_own _ rfl _ _ 47 rfl w.heap.size 9 i0 _ 1 16 Tryz.underlying47 hi hz0 hz1 hz2 rfl (by decide) _ _ _ rfl (hrow.alloc _) ⟨W.heap.size, 0, none⟩ 1 1 [.string (txt x)] rfl rfl (cell_one_new _ _ _) (by simp [Value.oneCell']) (by unfold maxLen; omega) (by omega) (by have := hB.size; simp; omega) ?_; intro v' w1 hown' hgrow _; obtain ⟨g', cap', rfl⟩ := ownsRow_succ hown'; obtain ⟨hv1, hv2, hr2, hk2, hb2⟩ := hv.appended (by decide) hrow hB.size (Nat.le_refl _) hown' hgrow; have hbc1 := (hbc.alloc (.cells #[.string (txt x)] 9)).kept hgrow (hbc.not_row (by decide) hrow); have hc1 := hv1.cell; have hf1 := hv1.frozen)
    have hbc2 := hbc1.other (B' := w.heap.size) (by omega) (.slice (some ⟨g', 0, none⟩) (pre.length + 1) cap')
    exact ⟨hk2.from _, Eq.trans hbc2 hbc.symm, ⟨⟨_, hv2, by rw [strs_append, List.length_append]; exact hr2, trivial⟩, hbc2⟩, hB.trans hb2⟩
  case done =>
    rintro D ys W hD rfl ⟨⟨⟨v, hv, hrow, _⟩, hbc⟩, hB⟩ hK
    have hc := hv.cell
    gi_wp2
    refine ⟨by simp, .inl ⟨_, _, rfl, run_takeDeferred hK, ?_⟩⟩
    exact ⟨_, results_tmp rfl _ _ _, v, rfl, ownsRow_putObj hrow _ hK rfl, hB.trans (belowK_b (w := w) (Nat.le_refl _) W D _ _ (by simp at hD; omega) hK rfl rfl)⟩
  case stop =>
    rintro D c pre W _ _ h _
    exact h.elim

theorem split_impl (s : ByteArray) (c : UInt8) (w : World) (hs : s.size ≤ 1048576) :
    Calls Tryz.prog 75 #[.string s, .int .u8 c.toNat] w fun e w' => ∃ v, e = .returned v ∧ w'.ownsRow w.heap.size 9 1 v (splitL c s.data.toList).length (strs (splitL c s.data.toList)) ∧ Below w.heap.size w w' := by
  have h := split_impl_l s.data.toList c w (by rw [data_length]; exact hs)
  rw [txt_of] at h
  exact h

end Go.Proofs.YtonpalaopnfffaaGreatDoor
