/- CONTRACT: the model's Open. -/
import Derived.Test.YtonpalaopnfffaaGreatDoorSlI
import Derived.Test.YtonpalaopnfffaaGreatDoorSameT
import Derived.Test.YtonpalaopnfffaaGreatDoorB64U
import Derived.Test.YtonpalaopnfffaaGreatDoorSplitI
namespace Go.Proofs.YtonpalaopnfffaaGreatDoor
set_option linter.unusedVariables false
set_option maxRecDepth 4000
open Go.ChangeShapes Go.WideShapes Go.ChangeAt Go.RowKit

namespace Sl
open Ht Ck Ky Mk

theorem read_len {s : List UInt8} (h : (splitL 46 s).length ≠ 3) : readS s = none := by
  unfold readS
  split
  · rename_i hs
    rw [hs] at h
    exact absurd rfl h
  · rfl

theorem read_three {s p0 p1 p2 : List UInt8} (h : splitL 46 s = [p0, p1, p2]) : readS s = if p0.head? = some 116 ∧ 0 ≤ rdV (p0.drop 1) then
      (match unb64 p1 with
      | some t => if t.length ≤ 300 then some (rdV (p0.drop 1), t, p2) else none
      | none => none) else none := by
  unfold readS
  rw [h]
  rfl

theorem three_of {α : Type} {l : List α} (h : l.length = 3) : ∃ a b c, l = [a, b, c] := by
  match l, h with
  | [a, b, c], _ => exact ⟨a, b, c, rfl⟩

theorem open_form {l : List KeyL} {s : List UInt8} {now : Int} (h : readS s = none) : openL l s now = ([], 1) := by
  unfold openL
  rw [h]

theorem open_noring {l : List KeyL} {s t m : List UInt8} {id now : Int} (h : readS s = some (id, t, m)) (hr : ringR l = false) : openL l s now = ([], 2) := by
  unfold openL
  rw [h]
  simp [hr]

theorem open_ring {l : List KeyL} {s t m : List UInt8} {id now : Int} (h : readS s = some (id, t, m)) (hr : ringR l = true) : openL l s now = match l.find? (fun c => decide (c.i = id) && liveB now c) with
      | some c => if sealT c t = s then (t, 0) else ([], 3)
      | none => ([], 2) := by
  unfold openL
  rw [h]
  simp only [hr, if_true]
  rfl

theorem ext_one (p : List UInt8) (n : Nat) (h : n = p.length) : (txt p).extract 1 n = txt (p.drop 1) := by
  rw [← txt_of ((txt p).extract 1 n)]
  congr 1
  simp only [ByteArray.data_extract, Array.toList_extract]
  rw [txt_toList, h]
  rw [List.extract_eq_take_drop]
  exact List.take_of_length_le (by simp)

theorem txt_at (x : UInt8) (r : List UInt8) (h : 0 < (txt (x :: r)).size) : (txt (x :: r))[0] = x := rfl

/-- the first key that fits, ahead of place k there is none -/
theorem find_none {l : List KeyL} {q : KeyL → Bool} (h : ∀ j (hj : j < l.length), q l[j] = false) : l.find? q = none := by
  rw [List.find?_eq_none]
  intro x hx
  obtain ⟨j, hj, rfl⟩ := List.getElem_of_mem hx
  rw [h j hj]
  simp

theorem find_at {l : List KeyL} {q : KeyL → Bool} (k : Nat) (hk : k < l.length) (h : ∀ j (hj : j < l.length), j < k → q l[j] = false) (hq : q l[k] = true) : l.find? q = some l[k] := by
  rw [List.find?_eq_some_iff_getElem]
  refine ⟨hq, k, hk, rfl, fun j hj => ?_⟩
  rw [h j (by omega) hj]
  rfl

set_option maxHeartbeats 6400000 in
theorem open_spec (v : Value) (l : List KeyL) (s : List UInt8) (now : Int) (w : World) (h : At w v l) (hn : l.length ≤ 1048576) (hS : ∀ c ∈ l, Sm c) (hs : s.length ≤ 1048576) :
    Calls Tryz.prog 7 #[.agg #[v], .string (txt s), .int .i64 now] w fun e w' => e = .returned (.tuple #[.string (txt (openL l s now).1), .int .i64 (openL l s now).2]) ∧ Below w.heap.size w w' := by
  obtain ⟨RT, RC, hR⟩ : ∃ RT RC, openL l s now = (RT, RC) := ⟨_, _, rfl⟩
  rw [hR]
  simp only
  have HR := Lib.hid hR
  clear hR
  obtain ⟨a, cap, rfl⟩ := h.form
  have ba := (Below.refl w.heap.size w).alloc (Nat.le_refl _) (.cells #[.slice a l.length cap] 30)
  have HF := Lib.hid (Grid.GAt.below h ba)
  have BA := Lib.hid ba
  have G0 := Lib.hid (heap_alloc_new w (.cells #[.slice a l.length cap] 30))
  have SP := Lib.hid (fun wx => split_spec (txt s) 46 wx (by rw [txt_size]; exact hs))
  rw [txt_toList] at SP
  have HPL := Lib.hid (fun x (hx : x ∈ splitL 46 s) => Nat.le_trans (splitL_part 46 s x hx) hs)
  clear ba h
  by_cases h3 : (splitL 46 s).length = 3
  · obtain ⟨p0, p1, p2, hp⟩ := three_of h3
    have HP := Lib.hid hp
    rw [hp] at SP HPL
    have l0 := HPL.out p0 (by simp)
    have l1 := HPL.out p1 (by simp)
    have z0 := txt_size p0
    have HRD := Lib.hid (read_three hp)
    clear h3 hp
    rcases p0 with _ | ⟨x, r⟩
    · have HR2 := Lib.hid (show RT = [] ∧ RC = 1 by
        have := HR.out
        rw [open_form (by rw [HRD.out]; rfl)] at this
        simp only [Prod.mk.injEq] at this
        exact ⟨this.1.symm, this.2.symm⟩)
      have eE : (txt ([] : List UInt8)).toList.isEmpty = true := by rw [Lib.toList_data, txt_toList]; rfl
      go_enter Tryz.func7, Tryz.ntmps7
      go_wp2_with fail
      refine (SP.out _).mono ?_
      rintro e w1 ⟨v1, rfl, o1, b1⟩
      obtain ⟨a1, cap1, rfl⟩ := Grid.own_val o1
      obtain ⟨g, rfl, hg1, hg2⟩ := Grid.own_at o1 (by simp)
      have c1 := Lib.hid (bstep BA.out b1)
      have r0 := o1.cellAt 0 (by simp)
      have r1 := o1.cellAt 1 (by simp)
      simp only [strs, List.map_cons, List.map_nil, List.getElem?_cons_zero, List.getElem?_cons_succ] at r0 r1
      have R0 := Lib.hid r0
      have R1 := Lib.hid r1
      go_wp2
      go_ret2
      exact ⟨by rw [HR2.out.1, HR2.out.2]; rfl, c1.out⟩
    · have eE : (txt (x :: r)).toList.isEmpty = false := not_empty (txt (x :: r)) (by rw [txt_size]; simp)
      have hsz : 0 < (txt (x :: r)).size := by rw [txt_size]; simp
      have hget := txt_at x r hsz
      by_cases hx : x = 116
      · subst hx
        have hext : (txt (116 :: r)).extract 1 (r.length + 1) = txt r := ext_one (116 :: r) _ rfl
        have zr := txt_size r
        have RD := Lib.hid (fun wx => readdec_spec (txt r) wx (by rw [txt_size]; simp at l0; omega))
        rw [txt_toList] at RD
        have rng := rd_range r
        have U := Lib.hid (fun wx => unb64_spec (txt p1) wx (by rw [txt_size]; exact l1))
        rw [txt_toList] at U
        simp only [List.drop_succ_cons, List.drop_zero, List.head?_cons, true_and] at HRD
        by_cases hid : 0 ≤ rdV r
        · have HRD2 := Lib.hid (show readS s = _ from HRD.trans (if_pos hid))
          have e1 : ¬ ((rdV r) < 0) := by omega
          have hin : rdV r ≤ 999999999999 := rng.2
          clear HRD hid rng
          generalize rdV r = id at RD e1 hin HRD2
          cases hu : unb64 p1 with
          | none =>
            rw [hu] at HRD2 U
            unfold unR at U
            have HR2 := Lib.hid (show RT = [] ∧ RC = 1 by
              have := HR.out
              rw [open_form HRD2.out] at this
              simp only [Prod.mk.injEq] at this
              exact ⟨this.1.symm, this.2.symm⟩)
            clear hu
            go_enter Tryz.func7, Tryz.ntmps7
            go_wp2_with fail
            refine (SP.out _).mono ?_
            rintro e w1 ⟨v1, rfl, o1, b1⟩
            obtain ⟨a1, cap1, rfl⟩ := Grid.own_val o1
            obtain ⟨g, rfl, hg1, hg2⟩ := Grid.own_at o1 (by simp)
            have c1 := Lib.hid (bstep BA.out b1)
            have r0 := o1.cellAt 0 (by simp)
            have r1 := o1.cellAt 1 (by simp)
            simp only [strs, List.map_cons, List.map_nil, List.getElem?_cons_zero, List.getElem?_cons_succ] at r0 r1
            have R0 := Lib.hid r0
            have R1 := Lib.hid r1
            go_wp2_with fail
            refine (RD.out _).mono ?_
            rintro e w2 ⟨rfl, b2⟩
            have c2 := Lib.hid (bstep c1.out b2)
            have q1 := (b2.cell (p := ⟨g, 1, none⟩) hg2).trans R1.out
            go_wp2_with fail
            refine (U.out _).mono ?_
            rintro e w3 ⟨rfl, b3⟩
            have c3 := Lib.hid (bstep c2.out b3)
            have BG := Lib.hid (bstep b2 b3)
            go_wp2
            go_ret2
            exact ⟨by rw [HR2.out.1, HR2.out.2]; rfl, c3.out⟩
          | some t =>
            rw [hu] at HRD2 U
            unfold unR at U
            have zt := txt_size t
            clear hu
            by_cases ht : t.length ≤ 300
            · have HRS := Lib.hid (show readS s = some (id, t, p2) from HRD2.out.trans (if_pos ht))
              have e4 : ¬ ((300 : Int) < (t.length : Int)) := by omega
              cases hrg : ringR l with
              | false =>
                have HR2 := Lib.hid (show RT = [] ∧ RC = 2 by
                  have := HR.out
                  rw [open_noring HRS.out hrg] at this
                  simp only [Prod.mk.injEq] at this
                  exact ⟨this.1.symm, this.2.symm⟩)
                have RO := Lib.hid (fun wx hx => ringOk_spec (.slice a l.length cap) l wx hx (by omega) hS)
                rw [hrg] at RO
                clear hrg ht
                go_enter Tryz.func7, Tryz.ntmps7
                go_wp2_with fail
                refine (SP.out _).mono ?_
                rintro e w1 ⟨v1, rfl, o1, b1⟩
                obtain ⟨a1, cap1, rfl⟩ := Grid.own_val o1
                obtain ⟨g, rfl, hg1, hg2⟩ := Grid.own_at o1 (by simp)
                have c1 := Lib.hid (bstep BA.out b1)
                have r0 := o1.cellAt 0 (by simp)
                have r1 := o1.cellAt 1 (by simp)
                simp only [strs, List.map_cons, List.map_nil, List.getElem?_cons_zero, List.getElem?_cons_succ] at r0 r1
                have R0 := Lib.hid r0
                have R1 := Lib.hid r1
                go_wp2_with fail
                refine (RD.out _).mono ?_
                rintro e w2 ⟨rfl, b2⟩
                have c2 := Lib.hid (bstep c1.out b2)
                have q1 := (b2.cell (p := ⟨g, 1, none⟩) hg2).trans R1.out
                go_wp2_with fail
                refine (U.out _).mono ?_
                rintro e w3 ⟨rfl, b3⟩
                have c3 := Lib.hid (bstep c2.out b3)
                have BG := Lib.hid (bstep b2 b3)
                go_wp2
                go_loopw [11] (fun i wr => i = .int .i64 0 ∧ wr = w3) (fun _ _ => 0)
                case atStart => exact ⟨rfl, rfl⟩
                case round =>
                  obtain ⟨rfl, rfl⟩ := hrel
                  have kb := ((BG.out.block w.heap.size (lt_of_block ((b1.block w.heap.size (by simp)).trans G0.out))).trans ((b1.block w.heap.size (by simp)).trans G0.out))
                  obtain ⟨x0, _⟩ := box1 kb
                  by_cases hlt : 0 < l.length
                  · have hi : (0 : Int) < (l.length : Int) := by omega
                    go_wp2_with fail
                    refine (RO.out _ (Grid.GAt.below HF.out (bstep b1 BG.out))).mono ?_
                    rintro e w4 ⟨rfl, b4⟩
                    have c4 := bstep c3.out b4
                    go_wp2
                    go_ret2
                    exact ⟨by rw [HR2.out.1, HR2.out.2]; rfl, c4⟩
                  · have hi : ¬ (0 : Int) < (l.length : Int) := by omega
                    go_wp2
                    go_ret2
                    exact ⟨by rw [HR2.out.1, HR2.out.2]; rfl, c3.out⟩
              | true =>
                have HOP := Lib.hid (open_ring HRS.out hrg (now := now))
                have RO := Lib.hid (fun wx hx => ringOk_spec (.slice a l.length cap) l wx hx (by omega) hS)
                rw [hrg] at RO
                clear hrg
                go_enter Tryz.func7, Tryz.ntmps7
                go_wp2_with fail
                refine (SP.out _).mono ?_
                rintro e w1 ⟨v1, rfl, o1, b1⟩
                obtain ⟨a1, cap1, rfl⟩ := Grid.own_val o1
                obtain ⟨g, rfl, hg1, hg2⟩ := Grid.own_at o1 (by simp)
                have c1 := Lib.hid (bstep BA.out b1)
                have r0 := o1.cellAt 0 (by simp)
                have r1 := o1.cellAt 1 (by simp)
                simp only [strs, List.map_cons, List.map_nil, List.getElem?_cons_zero, List.getElem?_cons_succ] at r0 r1
                have R0 := Lib.hid r0
                have R1 := Lib.hid r1
                go_wp2_with fail
                refine (RD.out _).mono ?_
                rintro e w2 ⟨rfl, b2⟩
                have c2 := Lib.hid (bstep c1.out b2)
                have q1 := (b2.cell (p := ⟨g, 1, none⟩) hg2).trans R1.out
                go_wp2_with fail
                refine (U.out _).mono ?_
                rintro e w3 ⟨rfl, b3⟩
                have c3 := Lib.hid (bstep c2.out b3)
                have BG := Lib.hid (bstep b2 b3)
                have KB := Lib.hid ((BG.out.block w.heap.size (lt_of_block ((b1.block w.heap.size (by simp)).trans G0.out))).trans ((b1.block w.heap.size (by simp)).trans G0.out))
                have HF3 := Lib.hid (Grid.GAt.below HF.out (bstep b1 BG.out))
                have n3 := Lib.hid (Nat.lt_of_lt_of_le hg2 BG.out.size)
                have Q0 := Lib.hid ((BG.out.cell (p := ⟨g, 0, none⟩) hg2).trans R0.out)
                clear r0 r1 q1 b1 b2 b3 o1
                go_wp2
                go_loopw [11] (fun i wr => ∃ k : Nat, k ≤ l.length ∧ i = .int .i64 k ∧ Hid (∀ j (hj : j < l.length), j < k → (decide (l[j].i = id) && liveB now l[j]) = false) ∧ Below w3.heap.size w3 wr) (fun i _ => l.length - (intOf i).toNat)
                case atStart => exact ⟨0, by omega, rfl, Lib.hid (fun j hj h0 => by omega), Below.refl _ _⟩
                case round =>
                  obtain ⟨k, hk, rfl, hno, hbel⟩ := hrel
                  obtain ⟨x0, _⟩ := box1 ((hbel.block w.heap.size (lt_of_block KB.out)).trans KB.out)
                  by_cases hlt : k < l.length
                  · have hi0 : (0 : Int) ≤ (k : Int) := by omega
                    have hi1 : (k : Int) < (l.length : Int) := by omega
                    go_wp2_with fail
                    refine (RO.out _ (Grid.GAt.below HF3.out hbel)).mono ?_
                    rintro e w4 ⟨rfl, b4⟩
                    have B4 := Lib.hid (bstep hbel b4)
                    have hg4 := Lib.hid (Nat.lt_of_lt_of_le n3.out B4.out.size)
                    obtain ⟨x4, _⟩ := box1 ((B4.out.block w.heap.size (lt_of_block KB.out)).trans KB.out)
                    obtain ⟨g', off, rfl, hg', c0, c1', c2', c3'⟩ := At.cells (Grid.GAt.below HF3.out B4.out) k hlt
                    have HFA := Lib.hid (fun h => find_at (q := fun c => decide (c.i = id) && liveB now c) k hlt hno.out h)
                    have HNX := Lib.hid (fun (h : (decide (l[k].i = id) && liveB now l[k]) = false) => (show ∀ j (hj : j < l.length), j < k + 1 → (decide (l[j].i = id) && liveB now l[j]) = false from fun j hj hjk => by
                      by_cases h2 : j = k
                      · subst h2; exact h
                      · exact hno.out j hj (by omega)))
                    have hpS := hS l[k] (List.getElem_mem hlt)
                    generalize l[k] = p at c0 c1' c2' c3' HFA HNX hpS
                    obtain ⟨y0, y1, y2, y3⟩ := box4K (heap_alloc_new w4 (.cells #[.int .i64 p.i, .string (txt p.s), .int .i64 p.f, .int .i64 p.t] 39))
                    have d4 := (Below.refl w4.heap.size w4).alloc (Nat.le_refl _) (.cells #[.int .i64 p.i, .string (txt p.s), .int .i64 p.f, .int .i64 p.t] 39)
                    have HB5 := Lib.hid (B4.out.trans (d4.mono B4.out.size))
                    have dR0 := ((d4.cell (p := ⟨g, 0, none⟩) hg4.out).trans ((B4.out.cell (p := ⟨g, 0, none⟩) n3.out).trans Q0.out))
                    have I1 := Lib.hid (fun wx => in_call now p.f p.t wx)
                    have HI1 : (decide (p.f ≤ now) && decide (now ≤ p.t)) = liveB now p := rfl
                    rw [HI1] at I1
                    have SS := Lib.hid (fun wx => seal1_spec p t wx hpS.2.1 hpS.1 ht)
                    unfold V at SS
                    clear HI1 d4 b4 hbel x0
                    by_cases hid : p.i = id
                    · have hne : (p.i != id) = false := by simpa using hid
                      cases hlv : liveB now p with
                      | false =>
                        have HNO2 := Lib.hid (HNX.out (by rw [hlv]; simp))
                        rw [hlv] at I1
                        clear hid hlv
                        go_wp2
                        refine Inv.region_tab 17 93 [(0, 69, .pointer (some ⟨w4.heap.size, 0, none⟩)), (1, 70, .int .i64 p.i), (2, 71, .slice (some ⟨g, 0, none⟩) 3 cap1), (3, 72, .pointer (some ⟨g, 0, none⟩)), (4, 73, .string (txt (116 :: r))), (5, 74, .string (txt r)), (6, 75, .int .i64 id), (7, 76, .bool false), (8, 77, .bool false), (9, 78, .int .i64 now), (10, 79, .pointer (some ⟨w4.heap.size, 2, none⟩)), (11, 80, .int .i64 p.f), (12, 81, .pointer (some ⟨w4.heap.size, 3, none⟩)), (13, 82, .int .i64 p.t), (14, 83, .bool false), (15, 84, .bool true), (16, 85, .bool true)] (fun W => Below (w4.heap.size + 1) (w4.alloc (.cells #[.int .i64 p.i, .string (txt p.s), .int .i64 p.f, .int .i64 p.t] 39)) W) (by kernel_rfl) rfl (by kernel_rfl) ⟨by simp, rfl⟩ (by rfl) (show ([69, 70, 71, 72, 73, 74, 75, 76, 77, 78, 79, 80, 81, 82, 83, 84, 85] : List Nat).Nodup by decide) (by simp) (by simpa using (Below.refl (w4.alloc (.cells #[.int .i64 p.i, .string (txt p.s), .int .i64 p.f, .int .i64 p.t] 39)).heap.size (w4.alloc (.cells #[.int .i64 p.i, .string (txt p.s), .int .i64 p.f, .int .i64 p.t] 39))).drew) ?_ ?_
                        · intro a b t W hW ht htab hfr p hp hafter K SP
                          have F := fun q hq hb => (ht q.2.1).trans (htab q hq hb)
                          have G2 := (ht 2).trans (hfr 2 (by simp))
                          have G8 := (ht 8).trans (hfr 8 (by simp))
                          have G12 := (ht 12).trans (hfr 12 (by simp))
                          simp only [List.mem_cons, List.not_mem_nil, or_false] at hp F
                          have HF := Lib.hid F
                          clear F ht htab hfr
                          rcases hp with rfl | rfl | rfl | rfl | rfl | rfl | rfl | rfl | rfl | rfl | rfl | rfl | rfl | rfl | rfl | rfl | rfl
                          · clear hafter
                            clear G2 G8
                            refine Inv.wpOp_at rfl rfl ?_
                            go_simp
                            exact SP _ hW
                          · have ha := hafter _ rfl
                            clear hafter
                            simp [Region.binds] at ha
                            have f69 := HF.out _ (by left; rfl) (by simp_all)
                            clear ha
                            clear G2 G8 G12
                            refine Inv.wpOp_at rfl rfl ?_
                            have d0 := (hW.cell (p := ⟨w4.heap.size, 0, none⟩) (Nat.lt_succ_self _)).trans y0
                            go_simp
                            exact SP _ hW
                          · clear hafter
                            clear G2 G12
                            refine Inv.wpOp_at rfl rfl ?_
                            go_simp
                            exact SP _ hW
                          · have ha := hafter _ rfl
                            clear hafter
                            simp [Region.binds] at ha
                            have f71 := HF.out _ (by right; right; left; rfl) (by simp_all)
                            clear ha
                            clear G2 G8 G12
                            refine Inv.wpOp_at rfl rfl ?_
                            go_simp
                            exact SP _ hW
                          · have ha := hafter _ rfl
                            clear hafter
                            simp [Region.binds] at ha
                            have f72 := HF.out _ (by right; right; right; left; rfl) (by simp_all)
                            clear ha
                            clear G2 G8 G12
                            refine Inv.wpOp_at rfl rfl ?_
                            have d0 := (hW.cell (p := ⟨g, 0, none⟩) (Nat.lt_succ_of_lt hg4.out)).trans dR0
                            go_simp
                            exact SP _ hW
                          · have ha := hafter _ rfl
                            clear hafter
                            simp [Region.binds] at ha
                            have f73 := HF.out _ (by right; right; right; right; left; rfl) (by simp_all)
                            clear ha
                            clear G2 G8 G12
                            refine Inv.wpOp_at rfl rfl ?_
                            have hle : (1 : Int) ≤ (r.length : Int) + 1 := by omega
                            go_simp
                            exact SP _ hW
                          · have ha := hafter _ rfl
                            clear hafter
                            simp [Region.binds] at ha
                            have f74 := HF.out _ (by right; right; right; right; right; left; rfl) (by simp_all)
                            clear ha
                            clear G2 G8 G12
                            refine Inv.wpOp_at rfl rfl ?_
                            go_simp
                            refine (RD.out _).mono ?_
                            rintro e wa ⟨rfl, hba⟩
                            exact SP _ (hW.trans (hba.mono (by simpa using hW.size)))
                          · have ha := hafter _ rfl
                            clear hafter
                            simp [Region.binds] at ha
                            have f70 := HF.out _ (by right; left; rfl) (by simp_all)
                            have f75 := HF.out _ (by right; right; right; right; right; right; left; rfl) (by simp_all)
                            clear ha
                            clear G2 G8 G12
                            refine Inv.wpOp_at rfl rfl ?_
                            go_simp
                            exact SP _ hW
                          · have ha := hafter _ rfl
                            clear hafter
                            simp [Region.binds] at ha
                            have f76 := HF.out _ (by right; right; right; right; right; right; right; left; rfl) (by simp_all)
                            clear ha
                            clear G2 G8 G12
                            refine Inv.wpOp_at rfl rfl ?_
                            go_simp
                            exact SP _ hW
                          · have ha := hafter _ rfl
                            clear hafter
                            simp [Region.binds] at ha
                            have f77 := HF.out _ (by right; right; right; right; right; right; right; right; left; rfl) (by simp_all)
                            clear ha
                            clear G8 G12
                            refine Inv.wpOp_want rfl rfl rfl f77 ?_
                            clear f77
                            go_simp
                            exact SP _ hW
                          · have ha := hafter _ rfl
                            clear hafter
                            simp [Region.binds] at ha
                            have f77 := HF.out _ (by right; right; right; right; right; right; right; right; left; rfl) (by simp_all)
                            clear ha
                            clear G2 G8
                            refine Inv.wpOp_want rfl rfl rfl f77 ?_
                            clear f77
                            go_simp
                            exact SP _ hW
                          · have ha := hafter _ rfl
                            clear hafter
                            simp [Region.binds] at ha
                            have f79 := HF.out _ (by right; right; right; right; right; right; right; right; right; right; left; rfl) (by simp_all)
                            have f77 := HF.out _ (by right; right; right; right; right; right; right; right; left; rfl) (by simp_all)
                            clear ha
                            clear G2 G8 G12
                            refine Inv.wpOp_want rfl rfl rfl f77 ?_
                            clear f77
                            have d0 := (hW.cell (p := ⟨w4.heap.size, 2, none⟩) (Nat.lt_succ_self _)).trans y2
                            go_simp
                            exact SP _ hW
                          · have ha := hafter _ rfl
                            clear hafter
                            simp [Region.binds] at ha
                            have f77 := HF.out _ (by right; right; right; right; right; right; right; right; left; rfl) (by simp_all)
                            clear ha
                            clear G2 G8
                            refine Inv.wpOp_want rfl rfl rfl f77 ?_
                            clear f77
                            go_simp
                            exact SP _ hW
                          · have ha := hafter _ rfl
                            clear hafter
                            simp [Region.binds] at ha
                            have f81 := HF.out _ (by right; right; right; right; right; right; right; right; right; right; right; right; left; rfl) (by simp_all)
                            have f77 := HF.out _ (by right; right; right; right; right; right; right; right; left; rfl) (by simp_all)
                            clear ha
                            clear G2 G8 G12
                            refine Inv.wpOp_want rfl rfl rfl f77 ?_
                            clear f77
                            have d0 := (hW.cell (p := ⟨w4.heap.size, 3, none⟩) (Nat.lt_succ_self _)).trans y3
                            go_simp
                            exact SP _ hW
                          · have ha := hafter _ rfl
                            clear hafter
                            simp [Region.binds] at ha
                            have f78 := HF.out _ (by right; right; right; right; right; right; right; right; right; left; rfl) (by simp_all)
                            have f80 := HF.out _ (by right; right; right; right; right; right; right; right; right; right; right; left; rfl) (by simp_all)
                            have f82 := HF.out _ (by right; right; right; right; right; right; right; right; right; right; right; right; right; left; rfl) (by simp_all)
                            have f77 := HF.out _ (by right; right; right; right; right; right; right; right; left; rfl) (by simp_all)
                            clear ha
                            clear G2 G8 G12
                            refine Inv.wpOp_want rfl rfl rfl f77 ?_
                            clear f77
                            go_simp
                            refine (I1.out _).mono ?_
                            rintro e wa ⟨rfl, rfl⟩
                            exact SP _ hW
                          · have ha := hafter _ rfl
                            clear hafter
                            simp [Region.binds] at ha
                            have f83 := HF.out _ (by right; right; right; right; right; right; right; right; right; right; right; right; right; right; left; rfl) (by simp_all)
                            have f77 := HF.out _ (by right; right; right; right; right; right; right; right; left; rfl) (by simp_all)
                            clear ha
                            clear G2 G8 G12
                            refine Inv.wpOp_want rfl rfl rfl f77 ?_
                            clear f77
                            go_simp
                            exact SP _ hW
                          · have ha := hafter _ rfl
                            clear hafter
                            simp [Region.binds] at ha
                            have f77 := HF.out _ (by right; right; right; right; right; right; right; right; left; rfl) (by simp_all)
                            have f84 := HF.out _ (by right; right; right; right; right; right; right; right; right; right; right; right; right; right; right; left; rfl) (by simp_all)
                            clear ha
                            clear G2 G8 G12
                            refine Inv.wpOp_at rfl rfl ?_
                            go_simp
                            exact SP _ hW
                        · intro W hW
                          have HW := Lib.hid hW
                          simp only [List.range, List.range.loop, List.map_cons, List.map_nil, Inv.tabAt]
                          simp
                          clear hW
                          go_wp2
                          go_roundw
                          case rel => exact ⟨k + 1, by omega, by go_num, HNO2, HB5.out.trans (HW.out.mono (by have := HB5.out.size; simp at this ⊢; omega))⟩
                          case measure => simp [intOf]; omega
                      | true =>
                        have HF5 := Lib.hid (HFA.out (by rw [hlv, decide_eq_true hid]; rfl))
                        rw [hlv] at I1
                        clear hlv
                        have ST := Lib.hid (fun wx => sametext_spec (txt (sealT p t)) (txt s) wx)
                        by_cases hq : sealT p t = s
                        · have et : decide (txt (sealT p t) = txt s) = true := by rw [hq]; simp
                          have HR2 := Lib.hid (show RT = t ∧ RC = 0 by
                            have := HR.out
                            rw [HOP.out, HF5.out] at this
                            simp only [if_pos hq] at this
                            simp only [Prod.mk.injEq] at this
                            exact ⟨this.1.symm, this.2.symm⟩)
                          rw [et] at ST
                          clear hid hq et
                          go_wp2
                          refine Inv.region_tab 17 93 [(0, 69, .pointer (some ⟨w4.heap.size, 0, none⟩)), (1, 70, .int .i64 p.i), (2, 71, .slice (some ⟨g, 0, none⟩) 3 cap1), (3, 72, .pointer (some ⟨g, 0, none⟩)), (4, 73, .string (txt (116 :: r))), (5, 74, .string (txt r)), (6, 75, .int .i64 id), (7, 76, .bool false), (8, 77, .bool false), (9, 78, .int .i64 now), (10, 79, .pointer (some ⟨w4.heap.size, 2, none⟩)), (11, 80, .int .i64 p.f), (12, 81, .pointer (some ⟨w4.heap.size, 3, none⟩)), (13, 82, .int .i64 p.t), (14, 83, .bool true), (15, 84, .bool false), (16, 85, .bool false)] (fun W => Below (w4.heap.size + 1) (w4.alloc (.cells #[.int .i64 p.i, .string (txt p.s), .int .i64 p.f, .int .i64 p.t] 39)) W) (by kernel_rfl) rfl (by kernel_rfl) ⟨by simp, rfl⟩ (by rfl) (show ([69, 70, 71, 72, 73, 74, 75, 76, 77, 78, 79, 80, 81, 82, 83, 84, 85] : List Nat).Nodup by decide) (by simp) (by simpa using (Below.refl (w4.alloc (.cells #[.int .i64 p.i, .string (txt p.s), .int .i64 p.f, .int .i64 p.t] 39)).heap.size (w4.alloc (.cells #[.int .i64 p.i, .string (txt p.s), .int .i64 p.f, .int .i64 p.t] 39))).drew) ?_ ?_
                          · intro a b t W hW ht htab hfr p hp hafter K SP
                            have F := fun q hq hb => (ht q.2.1).trans (htab q hq hb)
                            have G2 := (ht 2).trans (hfr 2 (by simp))
                            have G8 := (ht 8).trans (hfr 8 (by simp))
                            have G12 := (ht 12).trans (hfr 12 (by simp))
                            simp only [List.mem_cons, List.not_mem_nil, or_false] at hp F
                            have HF := Lib.hid F
                            clear F ht htab hfr
                            rcases hp with rfl | rfl | rfl | rfl | rfl | rfl | rfl | rfl | rfl | rfl | rfl | rfl | rfl | rfl | rfl | rfl | rfl
                            · clear hafter
                              clear G2 G8
                              refine Inv.wpOp_at rfl rfl ?_
                              go_simp
                              exact SP _ hW
                            · have ha := hafter _ rfl
                              clear hafter
                              simp [Region.binds] at ha
                              have f69 := HF.out _ (by left; rfl) (by simp_all)
                              clear ha
                              clear G2 G8 G12
                              refine Inv.wpOp_at rfl rfl ?_
                              have d0 := (hW.cell (p := ⟨w4.heap.size, 0, none⟩) (Nat.lt_succ_self _)).trans y0
                              go_simp
                              exact SP _ hW
                            · clear hafter
                              clear G2 G12
                              refine Inv.wpOp_at rfl rfl ?_
                              go_simp
                              exact SP _ hW
                            · have ha := hafter _ rfl
                              clear hafter
                              simp [Region.binds] at ha
                              have f71 := HF.out _ (by right; right; left; rfl) (by simp_all)
                              clear ha
                              clear G2 G8 G12
                              refine Inv.wpOp_at rfl rfl ?_
                              go_simp
                              exact SP _ hW
                            · have ha := hafter _ rfl
                              clear hafter
                              simp [Region.binds] at ha
                              have f72 := HF.out _ (by right; right; right; left; rfl) (by simp_all)
                              clear ha
                              clear G2 G8 G12
                              refine Inv.wpOp_at rfl rfl ?_
                              have d0 := (hW.cell (p := ⟨g, 0, none⟩) (Nat.lt_succ_of_lt hg4.out)).trans dR0
                              go_simp
                              exact SP _ hW
                            · have ha := hafter _ rfl
                              clear hafter
                              simp [Region.binds] at ha
                              have f73 := HF.out _ (by right; right; right; right; left; rfl) (by simp_all)
                              clear ha
                              clear G2 G8 G12
                              refine Inv.wpOp_at rfl rfl ?_
                              have hle : (1 : Int) ≤ (r.length : Int) + 1 := by omega
                              go_simp
                              exact SP _ hW
                            · have ha := hafter _ rfl
                              clear hafter
                              simp [Region.binds] at ha
                              have f74 := HF.out _ (by right; right; right; right; right; left; rfl) (by simp_all)
                              clear ha
                              clear G2 G8 G12
                              refine Inv.wpOp_at rfl rfl ?_
                              go_simp
                              refine (RD.out _).mono ?_
                              rintro e wa ⟨rfl, hba⟩
                              exact SP _ (hW.trans (hba.mono (by simpa using hW.size)))
                            · have ha := hafter _ rfl
                              clear hafter
                              simp [Region.binds] at ha
                              have f70 := HF.out _ (by right; left; rfl) (by simp_all)
                              have f75 := HF.out _ (by right; right; right; right; right; right; left; rfl) (by simp_all)
                              clear ha
                              clear G2 G8 G12
                              refine Inv.wpOp_at rfl rfl ?_
                              go_simp
                              exact SP _ hW
                            · have ha := hafter _ rfl
                              clear hafter
                              simp [Region.binds] at ha
                              have f76 := HF.out _ (by right; right; right; right; right; right; right; left; rfl) (by simp_all)
                              clear ha
                              clear G2 G8 G12
                              refine Inv.wpOp_at rfl rfl ?_
                              go_simp
                              exact SP _ hW
                            · have ha := hafter _ rfl
                              clear hafter
                              simp [Region.binds] at ha
                              have f77 := HF.out _ (by right; right; right; right; right; right; right; right; left; rfl) (by simp_all)
                              clear ha
                              clear G8 G12
                              refine Inv.wpOp_want rfl rfl rfl f77 ?_
                              clear f77
                              go_simp
                              exact SP _ hW
                            · have ha := hafter _ rfl
                              clear hafter
                              simp [Region.binds] at ha
                              have f77 := HF.out _ (by right; right; right; right; right; right; right; right; left; rfl) (by simp_all)
                              clear ha
                              clear G2 G8
                              refine Inv.wpOp_want rfl rfl rfl f77 ?_
                              clear f77
                              go_simp
                              exact SP _ hW
                            · have ha := hafter _ rfl
                              clear hafter
                              simp [Region.binds] at ha
                              have f79 := HF.out _ (by right; right; right; right; right; right; right; right; right; right; left; rfl) (by simp_all)
                              have f77 := HF.out _ (by right; right; right; right; right; right; right; right; left; rfl) (by simp_all)
                              clear ha
                              clear G2 G8 G12
                              refine Inv.wpOp_want rfl rfl rfl f77 ?_
                              clear f77
                              have d0 := (hW.cell (p := ⟨w4.heap.size, 2, none⟩) (Nat.lt_succ_self _)).trans y2
                              go_simp
                              exact SP _ hW
                            · have ha := hafter _ rfl
                              clear hafter
                              simp [Region.binds] at ha
                              have f77 := HF.out _ (by right; right; right; right; right; right; right; right; left; rfl) (by simp_all)
                              clear ha
                              clear G2 G8
                              refine Inv.wpOp_want rfl rfl rfl f77 ?_
                              clear f77
                              go_simp
                              exact SP _ hW
                            · have ha := hafter _ rfl
                              clear hafter
                              simp [Region.binds] at ha
                              have f81 := HF.out _ (by right; right; right; right; right; right; right; right; right; right; right; right; left; rfl) (by simp_all)
                              have f77 := HF.out _ (by right; right; right; right; right; right; right; right; left; rfl) (by simp_all)
                              clear ha
                              clear G2 G8 G12
                              refine Inv.wpOp_want rfl rfl rfl f77 ?_
                              clear f77
                              have d0 := (hW.cell (p := ⟨w4.heap.size, 3, none⟩) (Nat.lt_succ_self _)).trans y3
                              go_simp
                              exact SP _ hW
                            · have ha := hafter _ rfl
                              clear hafter
                              simp [Region.binds] at ha
                              have f78 := HF.out _ (by right; right; right; right; right; right; right; right; right; left; rfl) (by simp_all)
                              have f80 := HF.out _ (by right; right; right; right; right; right; right; right; right; right; right; left; rfl) (by simp_all)
                              have f82 := HF.out _ (by right; right; right; right; right; right; right; right; right; right; right; right; right; left; rfl) (by simp_all)
                              have f77 := HF.out _ (by right; right; right; right; right; right; right; right; left; rfl) (by simp_all)
                              clear ha
                              clear G2 G8 G12
                              refine Inv.wpOp_want rfl rfl rfl f77 ?_
                              clear f77
                              go_simp
                              refine (I1.out _).mono ?_
                              rintro e wa ⟨rfl, rfl⟩
                              exact SP _ hW
                            · have ha := hafter _ rfl
                              clear hafter
                              simp [Region.binds] at ha
                              have f83 := HF.out _ (by right; right; right; right; right; right; right; right; right; right; right; right; right; right; left; rfl) (by simp_all)
                              have f77 := HF.out _ (by right; right; right; right; right; right; right; right; left; rfl) (by simp_all)
                              clear ha
                              clear G2 G8 G12
                              refine Inv.wpOp_want rfl rfl rfl f77 ?_
                              clear f77
                              go_simp
                              exact SP _ hW
                            · have ha := hafter _ rfl
                              clear hafter
                              simp [Region.binds] at ha
                              have f77 := HF.out _ (by right; right; right; right; right; right; right; right; left; rfl) (by simp_all)
                              have f84 := HF.out _ (by right; right; right; right; right; right; right; right; right; right; right; right; right; right; right; left; rfl) (by simp_all)
                              clear ha
                              clear G2 G8 G12
                              refine Inv.wpOp_at rfl rfl ?_
                              go_simp
                              exact SP _ hW
                          · intro W hW
                            have HW := Lib.hid hW
                            simp only [List.range, List.range.loop, List.map_cons, List.map_nil, Inv.tabAt]
                            simp
                            clear hW
                            obtain ⟨u0, u1, u2, u3⟩ := box4K ((HW.out.block w4.heap.size (Nat.lt_succ_self _)).trans (heap_alloc_new w4 (.cells #[.int .i64 p.i, .string (txt p.s), .int .i64 p.f, .int .i64 p.t] 39)))
                            go_wp2_with fail
                            refine (SS.out _).mono ?_
                            rintro e w5 ⟨rfl, b5⟩
                            go_wp2_with fail
                            refine (ST.out _).mono ?_
                            rintro e w6 ⟨rfl, rfl⟩
                            have c6 := bstep (bstep c3.out (HB5.out.trans (HW.out.mono (by have := HB5.out.size; simp at this ⊢; omega)))) b5
                            go_wp2
                            go_ret2
                            exact ⟨by rw [HR2.out.1, HR2.out.2]; rfl, c6⟩
                        · have et : decide (txt (sealT p t) = txt s) = false := decide_eq_false (fun e => hq (by rw [← txt_toList (sealT p t), e, txt_toList]))
                          have HR2 := Lib.hid (show RT = [] ∧ RC = 3 by
                            have := HR.out
                            rw [HOP.out, HF5.out] at this
                            simp only [if_neg hq] at this
                            simp only [Prod.mk.injEq] at this
                            exact ⟨this.1.symm, this.2.symm⟩)
                          rw [et] at ST
                          clear hid hq et
                          go_wp2
                          refine Inv.region_tab 17 93 [(0, 69, .pointer (some ⟨w4.heap.size, 0, none⟩)), (1, 70, .int .i64 p.i), (2, 71, .slice (some ⟨g, 0, none⟩) 3 cap1), (3, 72, .pointer (some ⟨g, 0, none⟩)), (4, 73, .string (txt (116 :: r))), (5, 74, .string (txt r)), (6, 75, .int .i64 id), (7, 76, .bool false), (8, 77, .bool false), (9, 78, .int .i64 now), (10, 79, .pointer (some ⟨w4.heap.size, 2, none⟩)), (11, 80, .int .i64 p.f), (12, 81, .pointer (some ⟨w4.heap.size, 3, none⟩)), (13, 82, .int .i64 p.t), (14, 83, .bool true), (15, 84, .bool false), (16, 85, .bool false)] (fun W => Below (w4.heap.size + 1) (w4.alloc (.cells #[.int .i64 p.i, .string (txt p.s), .int .i64 p.f, .int .i64 p.t] 39)) W) (by kernel_rfl) rfl (by kernel_rfl) ⟨by simp, rfl⟩ (by rfl) (show ([69, 70, 71, 72, 73, 74, 75, 76, 77, 78, 79, 80, 81, 82, 83, 84, 85] : List Nat).Nodup by decide) (by simp) (by simpa using (Below.refl (w4.alloc (.cells #[.int .i64 p.i, .string (txt p.s), .int .i64 p.f, .int .i64 p.t] 39)).heap.size (w4.alloc (.cells #[.int .i64 p.i, .string (txt p.s), .int .i64 p.f, .int .i64 p.t] 39))).drew) ?_ ?_
                          · intro a b t W hW ht htab hfr p hp hafter K SP
                            have F := fun q hq hb => (ht q.2.1).trans (htab q hq hb)
                            have G2 := (ht 2).trans (hfr 2 (by simp))
                            have G8 := (ht 8).trans (hfr 8 (by simp))
                            have G12 := (ht 12).trans (hfr 12 (by simp))
                            simp only [List.mem_cons, List.not_mem_nil, or_false] at hp F
                            have HF := Lib.hid F
                            clear F ht htab hfr
                            rcases hp with rfl | rfl | rfl | rfl | rfl | rfl | rfl | rfl | rfl | rfl | rfl | rfl | rfl | rfl | rfl | rfl | rfl
                            · clear hafter
                              clear G2 G8
                              refine Inv.wpOp_at rfl rfl ?_
                              go_simp
                              exact SP _ hW
                            · have ha := hafter _ rfl
                              clear hafter
                              simp [Region.binds] at ha
                              have f69 := HF.out _ (by left; rfl) (by simp_all)
                              clear ha
                              clear G2 G8 G12
                              refine Inv.wpOp_at rfl rfl ?_
                              have d0 := (hW.cell (p := ⟨w4.heap.size, 0, none⟩) (Nat.lt_succ_self _)).trans y0
                              go_simp
                              exact SP _ hW
                            · clear hafter
                              clear G2 G12
                              refine Inv.wpOp_at rfl rfl ?_
                              go_simp
                              exact SP _ hW
                            · have ha := hafter _ rfl
                              clear hafter
                              simp [Region.binds] at ha
                              have f71 := HF.out _ (by right; right; left; rfl) (by simp_all)
                              clear ha
                              clear G2 G8 G12
                              refine Inv.wpOp_at rfl rfl ?_
                              go_simp
                              exact SP _ hW
                            · have ha := hafter _ rfl
                              clear hafter
                              simp [Region.binds] at ha
                              have f72 := HF.out _ (by right; right; right; left; rfl) (by simp_all)
                              clear ha
                              clear G2 G8 G12
                              refine Inv.wpOp_at rfl rfl ?_
                              have d0 := (hW.cell (p := ⟨g, 0, none⟩) (Nat.lt_succ_of_lt hg4.out)).trans dR0
                              go_simp
                              exact SP _ hW
                            · have ha := hafter _ rfl
                              clear hafter
                              simp [Region.binds] at ha
                              have f73 := HF.out _ (by right; right; right; right; left; rfl) (by simp_all)
                              clear ha
                              clear G2 G8 G12
                              refine Inv.wpOp_at rfl rfl ?_
                              have hle : (1 : Int) ≤ (r.length : Int) + 1 := by omega
                              go_simp
                              exact SP _ hW
                            · have ha := hafter _ rfl
                              clear hafter
                              simp [Region.binds] at ha
                              have f74 := HF.out _ (by right; right; right; right; right; left; rfl) (by simp_all)
                              clear ha
                              clear G2 G8 G12
                              refine Inv.wpOp_at rfl rfl ?_
                              go_simp
                              refine (RD.out _).mono ?_
                              rintro e wa ⟨rfl, hba⟩
                              exact SP _ (hW.trans (hba.mono (by simpa using hW.size)))
                            · have ha := hafter _ rfl
                              clear hafter
                              simp [Region.binds] at ha
                              have f70 := HF.out _ (by right; left; rfl) (by simp_all)
                              have f75 := HF.out _ (by right; right; right; right; right; right; left; rfl) (by simp_all)
                              clear ha
                              clear G2 G8 G12
                              refine Inv.wpOp_at rfl rfl ?_
                              go_simp
                              exact SP _ hW
                            · have ha := hafter _ rfl
                              clear hafter
                              simp [Region.binds] at ha
                              have f76 := HF.out _ (by right; right; right; right; right; right; right; left; rfl) (by simp_all)
                              clear ha
                              clear G2 G8 G12
                              refine Inv.wpOp_at rfl rfl ?_
                              go_simp
                              exact SP _ hW
                            · have ha := hafter _ rfl
                              clear hafter
                              simp [Region.binds] at ha
                              have f77 := HF.out _ (by right; right; right; right; right; right; right; right; left; rfl) (by simp_all)
                              clear ha
                              clear G8 G12
                              refine Inv.wpOp_want rfl rfl rfl f77 ?_
                              clear f77
                              go_simp
                              exact SP _ hW
                            · have ha := hafter _ rfl
                              clear hafter
                              simp [Region.binds] at ha
                              have f77 := HF.out _ (by right; right; right; right; right; right; right; right; left; rfl) (by simp_all)
                              clear ha
                              clear G2 G8
                              refine Inv.wpOp_want rfl rfl rfl f77 ?_
                              clear f77
                              go_simp
                              exact SP _ hW
                            · have ha := hafter _ rfl
                              clear hafter
                              simp [Region.binds] at ha
                              have f79 := HF.out _ (by right; right; right; right; right; right; right; right; right; right; left; rfl) (by simp_all)
                              have f77 := HF.out _ (by right; right; right; right; right; right; right; right; left; rfl) (by simp_all)
                              clear ha
                              clear G2 G8 G12
                              refine Inv.wpOp_want rfl rfl rfl f77 ?_
                              clear f77
                              have d0 := (hW.cell (p := ⟨w4.heap.size, 2, none⟩) (Nat.lt_succ_self _)).trans y2
                              go_simp
                              exact SP _ hW
                            · have ha := hafter _ rfl
                              clear hafter
                              simp [Region.binds] at ha
                              have f77 := HF.out _ (by right; right; right; right; right; right; right; right; left; rfl) (by simp_all)
                              clear ha
                              clear G2 G8
                              refine Inv.wpOp_want rfl rfl rfl f77 ?_
                              clear f77
                              go_simp
                              exact SP _ hW
                            · have ha := hafter _ rfl
                              clear hafter
                              simp [Region.binds] at ha
                              have f81 := HF.out _ (by right; right; right; right; right; right; right; right; right; right; right; right; left; rfl) (by simp_all)
                              have f77 := HF.out _ (by right; right; right; right; right; right; right; right; left; rfl) (by simp_all)
                              clear ha
                              clear G2 G8 G12
                              refine Inv.wpOp_want rfl rfl rfl f77 ?_
                              clear f77
                              have d0 := (hW.cell (p := ⟨w4.heap.size, 3, none⟩) (Nat.lt_succ_self _)).trans y3
                              go_simp
                              exact SP _ hW
                            · have ha := hafter _ rfl
                              clear hafter
                              simp [Region.binds] at ha
                              have f78 := HF.out _ (by right; right; right; right; right; right; right; right; right; left; rfl) (by simp_all)
                              have f80 := HF.out _ (by right; right; right; right; right; right; right; right; right; right; right; left; rfl) (by simp_all)
                              have f82 := HF.out _ (by right; right; right; right; right; right; right; right; right; right; right; right; right; left; rfl) (by simp_all)
                              have f77 := HF.out _ (by right; right; right; right; right; right; right; right; left; rfl) (by simp_all)
                              clear ha
                              clear G2 G8 G12
                              refine Inv.wpOp_want rfl rfl rfl f77 ?_
                              clear f77
                              go_simp
                              refine (I1.out _).mono ?_
                              rintro e wa ⟨rfl, rfl⟩
                              exact SP _ hW
                            · have ha := hafter _ rfl
                              clear hafter
                              simp [Region.binds] at ha
                              have f83 := HF.out _ (by right; right; right; right; right; right; right; right; right; right; right; right; right; right; left; rfl) (by simp_all)
                              have f77 := HF.out _ (by right; right; right; right; right; right; right; right; left; rfl) (by simp_all)
                              clear ha
                              clear G2 G8 G12
                              refine Inv.wpOp_want rfl rfl rfl f77 ?_
                              clear f77
                              go_simp
                              exact SP _ hW
                            · have ha := hafter _ rfl
                              clear hafter
                              simp [Region.binds] at ha
                              have f77 := HF.out _ (by right; right; right; right; right; right; right; right; left; rfl) (by simp_all)
                              have f84 := HF.out _ (by right; right; right; right; right; right; right; right; right; right; right; right; right; right; right; left; rfl) (by simp_all)
                              clear ha
                              clear G2 G8 G12
                              refine Inv.wpOp_at rfl rfl ?_
                              go_simp
                              exact SP _ hW
                          · intro W hW
                            have HW := Lib.hid hW
                            simp only [List.range, List.range.loop, List.map_cons, List.map_nil, Inv.tabAt]
                            simp
                            clear hW
                            obtain ⟨u0, u1, u2, u3⟩ := box4K ((HW.out.block w4.heap.size (Nat.lt_succ_self _)).trans (heap_alloc_new w4 (.cells #[.int .i64 p.i, .string (txt p.s), .int .i64 p.f, .int .i64 p.t] 39)))
                            go_wp2_with fail
                            refine (SS.out _).mono ?_
                            rintro e w5 ⟨rfl, b5⟩
                            go_wp2_with fail
                            refine (ST.out _).mono ?_
                            rintro e w6 ⟨rfl, rfl⟩
                            have c6 := bstep (bstep c3.out (HB5.out.trans (HW.out.mono (by have := HB5.out.size; simp at this ⊢; omega)))) b5
                            go_wp2
                            go_ret2
                            exact ⟨by rw [HR2.out.1, HR2.out.2]; rfl, c6⟩
                    · have hne : (p.i != id) = true := by simpa using hid
                      have HNO2 := Lib.hid (HNX.out (by rw [decide_eq_false hid]; rfl))
                      clear hid
                      go_wp2
                      refine Inv.region_tab 17 93 [(0, 69, .pointer (some ⟨w4.heap.size, 0, none⟩)), (1, 70, .int .i64 p.i), (2, 71, .slice (some ⟨g, 0, none⟩) 3 cap1), (3, 72, .pointer (some ⟨g, 0, none⟩)), (4, 73, .string (txt (116 :: r))), (5, 74, .string (txt r)), (6, 75, .int .i64 id), (7, 76, .bool true), (8, 77, .bool true), (9, 78, undef), (10, 79, undef), (11, 80, undef), (12, 81, undef), (13, 82, undef), (14, 83, undef), (15, 84, undef), (16, 85, .bool true)] (fun W => Below (w4.heap.size + 1) (w4.alloc (.cells #[.int .i64 p.i, .string (txt p.s), .int .i64 p.f, .int .i64 p.t] 39)) W) (by kernel_rfl) rfl (by kernel_rfl) ⟨by simp, rfl⟩ (by rfl) (show ([69, 70, 71, 72, 73, 74, 75, 76, 77, 78, 79, 80, 81, 82, 83, 84, 85] : List Nat).Nodup by decide) (by simp) (by simpa using (Below.refl (w4.alloc (.cells #[.int .i64 p.i, .string (txt p.s), .int .i64 p.f, .int .i64 p.t] 39)).heap.size (w4.alloc (.cells #[.int .i64 p.i, .string (txt p.s), .int .i64 p.f, .int .i64 p.t] 39))).drew) ?_ ?_
                      · intro a b t W hW ht htab hfr p hp hafter K SP
                        have F := fun q hq hb => (ht q.2.1).trans (htab q hq hb)
                        have G8 := (ht 8).trans (hfr 8 (by simp))
                        have G12 := (ht 12).trans (hfr 12 (by simp))
                        simp only [List.mem_cons, List.not_mem_nil, or_false] at hp F
                        have HF := Lib.hid F
                        clear F ht htab hfr
                        rcases hp with rfl | rfl | rfl | rfl | rfl | rfl | rfl | rfl | rfl | rfl | rfl | rfl | rfl | rfl | rfl | rfl | rfl
                        · clear hafter
                          clear G8
                          refine Inv.wpOp_at rfl rfl ?_
                          go_simp
                          exact SP _ hW
                        · have ha := hafter _ rfl
                          clear hafter
                          simp [Region.binds] at ha
                          have f69 := HF.out _ (by left; rfl) (by simp_all)
                          clear ha
                          clear G8 G12
                          refine Inv.wpOp_at rfl rfl ?_
                          have d0 := (hW.cell (p := ⟨w4.heap.size, 0, none⟩) (Nat.lt_succ_self _)).trans y0
                          go_simp
                          exact SP _ hW
                        · clear hafter
                          clear G12
                          refine Inv.wpOp_at rfl rfl ?_
                          go_simp
                          exact SP _ hW
                        · have ha := hafter _ rfl
                          clear hafter
                          simp [Region.binds] at ha
                          have f71 := HF.out _ (by right; right; left; rfl) (by simp_all)
                          clear ha
                          clear G8 G12
                          refine Inv.wpOp_at rfl rfl ?_
                          go_simp
                          exact SP _ hW
                        · have ha := hafter _ rfl
                          clear hafter
                          simp [Region.binds] at ha
                          have f72 := HF.out _ (by right; right; right; left; rfl) (by simp_all)
                          clear ha
                          clear G8 G12
                          refine Inv.wpOp_at rfl rfl ?_
                          have d0 := (hW.cell (p := ⟨g, 0, none⟩) (Nat.lt_succ_of_lt hg4.out)).trans dR0
                          go_simp
                          exact SP _ hW
                        · have ha := hafter _ rfl
                          clear hafter
                          simp [Region.binds] at ha
                          have f73 := HF.out _ (by right; right; right; right; left; rfl) (by simp_all)
                          clear ha
                          clear G8 G12
                          refine Inv.wpOp_at rfl rfl ?_
                          have hle : (1 : Int) ≤ (r.length : Int) + 1 := by omega
                          go_simp
                          exact SP _ hW
                        · have ha := hafter _ rfl
                          clear hafter
                          simp [Region.binds] at ha
                          have f74 := HF.out _ (by right; right; right; right; right; left; rfl) (by simp_all)
                          clear ha
                          clear G8 G12
                          refine Inv.wpOp_at rfl rfl ?_
                          go_simp
                          refine (RD.out _).mono ?_
                          rintro e wa ⟨rfl, hba⟩
                          exact SP _ (hW.trans (hba.mono (by simpa using hW.size)))
                        · have ha := hafter _ rfl
                          clear hafter
                          simp [Region.binds] at ha
                          have f70 := HF.out _ (by right; left; rfl) (by simp_all)
                          have f75 := HF.out _ (by right; right; right; right; right; right; left; rfl) (by simp_all)
                          clear ha
                          clear G8 G12
                          refine Inv.wpOp_at rfl rfl ?_
                          go_simp
                          exact SP _ hW
                        · have ha := hafter _ rfl
                          clear hafter
                          simp [Region.binds] at ha
                          have f76 := HF.out _ (by right; right; right; right; right; right; right; left; rfl) (by simp_all)
                          clear ha
                          clear G8 G12
                          refine Inv.wpOp_at rfl rfl ?_
                          go_simp
                          exact SP _ hW
                        · have ha := hafter _ rfl
                          clear hafter
                          simp [Region.binds] at ha
                          have f77 := HF.out _ (by right; right; right; right; right; right; right; right; left; rfl) (by simp_all)
                          clear ha
                          clear G8 G12
                          exact Inv.wpOp_skip rfl rfl rfl f77 (by decide) (SP _ hW)
                        · have ha := hafter _ rfl
                          clear hafter
                          simp [Region.binds] at ha
                          have f77 := HF.out _ (by right; right; right; right; right; right; right; right; left; rfl) (by simp_all)
                          clear ha
                          clear G8 G12
                          exact Inv.wpOp_skip rfl rfl rfl f77 (by decide) (SP _ hW)
                        · have ha := hafter _ rfl
                          clear hafter
                          simp [Region.binds] at ha
                          have f77 := HF.out _ (by right; right; right; right; right; right; right; right; left; rfl) (by simp_all)
                          clear ha
                          clear G8 G12
                          exact Inv.wpOp_skip rfl rfl rfl f77 (by decide) (SP _ hW)
                        · have ha := hafter _ rfl
                          clear hafter
                          simp [Region.binds] at ha
                          have f77 := HF.out _ (by right; right; right; right; right; right; right; right; left; rfl) (by simp_all)
                          clear ha
                          clear G8 G12
                          exact Inv.wpOp_skip rfl rfl rfl f77 (by decide) (SP _ hW)
                        · have ha := hafter _ rfl
                          clear hafter
                          simp [Region.binds] at ha
                          have f77 := HF.out _ (by right; right; right; right; right; right; right; right; left; rfl) (by simp_all)
                          clear ha
                          clear G8 G12
                          exact Inv.wpOp_skip rfl rfl rfl f77 (by decide) (SP _ hW)
                        · have ha := hafter _ rfl
                          clear hafter
                          simp [Region.binds] at ha
                          have f77 := HF.out _ (by right; right; right; right; right; right; right; right; left; rfl) (by simp_all)
                          clear ha
                          clear G8 G12
                          exact Inv.wpOp_skip rfl rfl rfl f77 (by decide) (SP _ hW)
                        · have ha := hafter _ rfl
                          clear hafter
                          simp [Region.binds] at ha
                          have f77 := HF.out _ (by right; right; right; right; right; right; right; right; left; rfl) (by simp_all)
                          clear ha
                          clear G8 G12
                          exact Inv.wpOp_skip rfl rfl rfl f77 (by decide) (SP _ hW)
                        · have ha := hafter _ rfl
                          clear hafter
                          simp [Region.binds] at ha
                          have f77 := HF.out _ (by right; right; right; right; right; right; right; right; left; rfl) (by simp_all)
                          have f84 := HF.out _ (by right; right; right; right; right; right; right; right; right; right; right; right; right; right; right; left; rfl) (by simp_all)
                          clear ha
                          clear G8 G12
                          refine Inv.wpOp_at rfl rfl ?_
                          go_simp
                          exact SP _ hW
                      · intro W hW
                        have HW := Lib.hid hW
                        simp only [List.range, List.range.loop, List.map_cons, List.map_nil, Inv.tabAt]
                        simp
                        clear hW
                        go_wp2
                        go_roundw
                        case rel => exact ⟨k + 1, by omega, by go_num, HNO2, HB5.out.trans (HW.out.mono (by have := HB5.out.size; simp at this ⊢; omega))⟩
                        case measure => simp [intOf]; omega
                  · have hi1 : ¬ (k : Int) < (l.length : Int) := by omega
                    have HR2 := Lib.hid (show RT = [] ∧ RC = 2 by
                      have := HR.out
                      rw [HOP.out, find_none (fun j hj => hno.out j hj (by omega))] at this
                      simp only [Prod.mk.injEq] at this
                      exact ⟨this.1.symm, this.2.symm⟩)
                    clear hno
                    go_wp2
                    go_ret2
                    exact ⟨by rw [HR2.out.1, HR2.out.2]; rfl, (bstep c3.out hbel)⟩
            · have HR2 := Lib.hid (show RT = [] ∧ RC = 1 by
                have := HR.out
                rw [open_form (HRD2.out.trans (if_neg ht))] at this
                simp only [Prod.mk.injEq] at this
                exact ⟨this.1.symm, this.2.symm⟩)
              have e4 : (300 : Int) < (t.length : Int) := by omega
              clear ht
              go_enter Tryz.func7, Tryz.ntmps7
              go_wp2_with fail
              refine (SP.out _).mono ?_
              rintro e w1 ⟨v1, rfl, o1, b1⟩
              obtain ⟨a1, cap1, rfl⟩ := Grid.own_val o1
              obtain ⟨g, rfl, hg1, hg2⟩ := Grid.own_at o1 (by simp)
              have c1 := Lib.hid (bstep BA.out b1)
              have r0 := o1.cellAt 0 (by simp)
              have r1 := o1.cellAt 1 (by simp)
              simp only [strs, List.map_cons, List.map_nil, List.getElem?_cons_zero, List.getElem?_cons_succ] at r0 r1
              have R0 := Lib.hid r0
              have R1 := Lib.hid r1
              go_wp2_with fail
              refine (RD.out _).mono ?_
              rintro e w2 ⟨rfl, b2⟩
              have c2 := Lib.hid (bstep c1.out b2)
              have q1 := (b2.cell (p := ⟨g, 1, none⟩) hg2).trans R1.out
              go_wp2_with fail
              refine (U.out _).mono ?_
              rintro e w3 ⟨rfl, b3⟩
              have c3 := Lib.hid (bstep c2.out b3)
              have BG := Lib.hid (bstep b2 b3)
              go_wp2
              go_ret2
              exact ⟨by rw [HR2.out.1, HR2.out.2]; rfl, c3.out⟩
        · have HR2 := Lib.hid (show RT = [] ∧ RC = 1 by
            have := HR.out
            rw [open_form (by rw [HRD.out]; exact if_neg hid)] at this
            simp only [Prod.mk.injEq] at this
            exact ⟨this.1.symm, this.2.symm⟩)
          have e1 : (rdV r) < 0 := by omega
          clear hid
          generalize rdV r = id at RD e1
          go_enter Tryz.func7, Tryz.ntmps7
          go_wp2_with fail
          refine (SP.out _).mono ?_
          rintro e w1 ⟨v1, rfl, o1, b1⟩
          obtain ⟨a1, cap1, rfl⟩ := Grid.own_val o1
          obtain ⟨g, rfl, hg1, hg2⟩ := Grid.own_at o1 (by simp)
          have c1 := Lib.hid (bstep BA.out b1)
          have r0 := o1.cellAt 0 (by simp)
          have r1 := o1.cellAt 1 (by simp)
          simp only [strs, List.map_cons, List.map_nil, List.getElem?_cons_zero, List.getElem?_cons_succ] at r0 r1
          have R0 := Lib.hid r0
          have R1 := Lib.hid r1
          go_wp2_with fail
          refine (RD.out _).mono ?_
          rintro e w2 ⟨rfl, b2⟩
          have c2 := bstep c1.out b2
          go_wp2
          go_ret2
          exact ⟨by rw [HR2.out.1, HR2.out.2]; rfl, c2⟩
      · have HR2 := Lib.hid (show RT = [] ∧ RC = 1 by
          have := HR.out
          rw [open_form (by rw [HRD.out]; exact if_neg (fun h => hx (by have := h.1; simpa using this)))] at this
          simp only [Prod.mk.injEq] at this
          exact ⟨this.1.symm, this.2.symm⟩)
        have hne : (((x.toNat : Nat) : Int) != 116) = true := by
          have : x.toNat ≠ 116 := fun e => hx (UInt8.toNat_inj.1 e)
          simpa using fun e => this (by exact_mod_cast e)
        go_enter Tryz.func7, Tryz.ntmps7
        go_wp2_with fail
        refine (SP.out _).mono ?_
        rintro e w1 ⟨v1, rfl, o1, b1⟩
        obtain ⟨a1, cap1, rfl⟩ := Grid.own_val o1
        obtain ⟨g, rfl, hg1, hg2⟩ := Grid.own_at o1 (by simp)
        have c1 := Lib.hid (bstep BA.out b1)
        have r0 := o1.cellAt 0 (by simp)
        have r1 := o1.cellAt 1 (by simp)
        simp only [strs, List.map_cons, List.map_nil, List.getElem?_cons_zero, List.getElem?_cons_succ] at r0 r1
        have R0 := Lib.hid r0
        have R1 := Lib.hid r1
        go_wp2
        go_ret2
        exact ⟨by rw [HR2.out.1, HR2.out.2]; rfl, c1.out⟩
  · have HR2 := Lib.hid (show RT = [] ∧ RC = 1 by
      have := HR.out
      rw [open_form (read_len h3)] at this
      simp only [Prod.mk.injEq] at this
      exact ⟨this.1.symm, this.2.symm⟩)
    have e3 : ((((splitL 46 s).length : Nat) : Int) != 3) = true := by simpa using fun e => h3 (by exact_mod_cast e)
    generalize (splitL 46 s).length = n at SP e3
    clear h3
    go_enter Tryz.func7, Tryz.ntmps7
    go_wp2_with fail
    refine (SP.out _).mono ?_
    rintro e w1 ⟨v1, rfl, o1, b1⟩
    obtain ⟨a1, cap1, rfl⟩ := Grid.own_val o1
    have c1 := bstep BA.out b1
    go_wp2
    go_ret2
    exact ⟨by rw [HR2.out.1, HR2.out.2]; rfl, c1⟩

end Sl
end Go.Proofs.YtonpalaopnfffaaGreatDoor
