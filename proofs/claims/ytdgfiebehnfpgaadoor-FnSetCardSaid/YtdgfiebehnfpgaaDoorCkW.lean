/- CONTRACT of the program's PutSet. -/
import Derived.Test.YtdgfiebehnfpgaaDoorCkV
namespace Go.Proofs.YtdgfiebehnfpgaaDoor
set_option linter.unusedVariables false
set_option maxRecDepth 4000
open Go.ChangeShapes Go.WideShapes Go.ChangeAt Go.RowKit
open Go.ChangeMaps (open_string shut_string)

namespace Ck
open Ht

set_option maxHeartbeats 3200000 in
theorem putSet_impl (c : CkL) (now : Int) (w : World) (hc : CkS c) (hn1 : -9223372036854775808 ≤ now) (hn2 : now ≤ 9223372036854775807) (hN : Nm w) (hP : Pt w) :
    Calls Tryd.prog 8 #[ckV c, .int .i64 now] w fun e w' => e = .returned (.string (txt (putSet c now))) ∧ Below w.heap.size w w' := by
  have CO := Lib.hid (fun wx => ckOk_impl c wx hc)
  have CT := Lib.hid (fun wx => time_impl now wx)
  have G0 := Lib.hid (heap_alloc_new w (.cells #[.string (txt c.n), .string (txt c.v), .string (txt c.d), .bool c.o, .string (txt c.p), .int .i64 c.u] 25))
  have BA := Lib.hid ((Below.refl w.heap.size w).alloc (Nat.le_refl _) (.cells #[.string (txt c.n), .string (txt c.v), .string (txt c.d), .bool c.o, .string (txt c.p), .int .i64 c.u] 25))
  have hsz : w.heap.size < (w.alloc (.cells #[.string (txt c.n), .string (txt c.v), .string (txt c.d), .bool c.o, .string (txt c.p), .int .i64 c.u] 25)).heap.size := by simp
  have HR := Lib.hid (show putSet c now = if ckOk c && timeB now then setL c now else [] from rfl)
  have HB := Lib.hid (show ckOk c = true → c.n.length ≤ 30 ∧ c.v.length ≤ 600 ∧ c.d.length ≤ 60 ∧ c.p.length ≤ 61 ∧ -1 ≤ c.u ∧ c.u ≤ 999999999999 from fun h => ⟨(ck_small h).1, (ck_small h).2.1, (ck_small h).2.2.1, (ck_small h).2.2.2, (ck_parts h).2.2.2.2⟩)
  have HT := Lib.hid (show timeB now = true → 0 ≤ now ∧ now ≤ 999999999999 from fun h => by unfold timeB at h; simpa using h)
  have HNm := Lib.hid hN
  have HPt := Lib.hid hP
  clear hN hP
  unfold ckV at CO ⊢
  generalize putSet c now = R at HR ⊢
  generalize ckOk c = A at CO HR HB
  generalize timeB now = B at CT HR HT
  go_enter Tryd.func8, Tryd.ntmps8
  go_wp2_with fail
  refine (CO.out _).mono ?_
  rintro e w1 ⟨rfl, b1⟩
  have k1 := (b1.block w.heap.size hsz).trans G0.out
  have c1 := BA.out.trans (b1.mono BA.out.size)
  cases A with
  | false =>
    have HR2 := Lib.hid (show R = [] by rw [HR.out]; rfl)
    clear k1
    go_wp2
    go_ret
    exact ⟨by rw [HR2.out]; rfl, c1⟩
  | true =>
    go_wp2_with fail
    refine (CT.out _).mono ?_
    rintro e w2 ⟨rfl, rfl⟩
    cases B with
    | false =>
      have HR2 := Lib.hid (show R = [] by rw [HR.out]; rfl)
      clear k1
      go_wp2
      go_ret
      exact ⟨by rw [HR2.out]; rfl, c1⟩
    | true =>
      have HR2 := Lib.hid (show R = setL c now by rw [HR.out]; rfl)
      obtain ⟨l1, l2, l3, l4, u1, u2⟩ := HB.out (by trivial)
      obtain ⟨t1, t2⟩ := HT.out (by trivial)
      obtain ⟨x0, x1, x2, x3, x4, x5, _⟩ := box6 k1
      have hNm1 := nm_below HNm.out c1
      have P0 := Lib.hid (fun k => put_call 0 0 pathT c.p (w1.drewN k) (by omega) rfl hNm1.2.1 (by decide) (by omega))
      have P1 := Lib.hid (fun k => put_call 1 1 domT c.d (w1.drewN k) (by omega) rfl hNm1.2.2.1 (by decide) (by omega))
      have HNm1 := Lib.hid hNm1
      clear k1 HR HB HT CO CT G0 BA hsz b1 hNm1
      have HS := Lib.hid (show setL c now = (c.n ++ [61] ++ c.v ++ atL pathT c.p) ++ (if c.o then [] else atL domT c.d) ++ (if c.u = -1 then [] else atL ageT (Lib.itoa (ageL c.u now))) by
        simp [setL, eqL])
      have hap : (atL pathT c.p).length ≤ 100 := by simp [atL, pathT]; omega
      have had : (atL domT c.d).length ≤ 100 := by simp [atL, domT]; omega
      generalize atL pathT c.p = ap at P0 HS hap
      generalize atL domT c.d = ad at P1 HS had
      have hadd1 : ∀ wx : World, (Op.stringOp .add (txt c.n) { data := #[61] }).run Tryd.prog wx = .ok (.string (txt (c.n ++ [61]))) wx := add_txt (P := Tryd.prog) c.n [61] (by simp; omega)
      have hadd2 : ∀ wx : World, (Op.stringOp .add (txt (c.n ++ [61])) (txt c.v)).run Tryd.prog wx = .ok (.string (txt (c.n ++ [61] ++ c.v))) wx := add_txt (P := Tryd.prog) (c.n ++ [61]) c.v (by simp; omega)
      have hadd3 : ∀ wx : World, (Op.stringOp .add (txt (c.n ++ [61] ++ c.v)) (txt ap)).run Tryd.prog wx = .ok (.string (txt (c.n ++ [61] ++ c.v ++ ap))) wx := add_txt (P := Tryd.prog) (c.n ++ [61] ++ c.v) ap (by simp; omega)
      have hl4 : (c.n ++ [61] ++ c.v ++ ap).length ≤ 1000 := by simp; omega
      generalize c.n ++ [61] ++ c.v ++ ap = S1 at hadd3 hl4 HS
      generalize c.n ++ [61] ++ c.v = z2 at hadd2 hadd3
      generalize c.n ++ [61] = z1 at hadd1 hadd2
      have hadd5 : ∀ wx : World, (Op.stringOp .add (txt S1) (txt ad)).run Tryd.prog wx = .ok (.string (txt (S1 ++ ad))) wx := add_txt (P := Tryd.prog) S1 ad (by omega)
      have hl6 : (S1 ++ ad).length ≤ 2000 := by simp; omega
      -- the age
      have hg : 0 ≤ ageL c.u now ∧ ageL c.u now ≤ 999999999999 := by unfold ageL; split <;> omega
      have hil := Lib.itoa_length_le (ageL c.u now) (by omega) (by omega)
      have HAg := Lib.hid (show ageL c.u now = max (c.u - now) 0 by unfold ageL; split <;> omega)
      have D := Lib.hid (fun wx (hx : Below w.heap.size w wx) => dectext_impl (ageL c.u now) (by omega) (by omega) wx (HPt.out wx hx))
      have haa : (atL ageT (Lib.itoa (ageL c.u now))).length ≤ 100 := by simp [atL, ageT]; omega
      have P2 := Lib.hid (fun wx (hx : Nm wx) => put_call 2 2 ageT (Lib.itoa (ageL c.u now)) wx (by omega) rfl hx.2.2.2 (by decide) (by omega))
      generalize Lib.itoa (ageL c.u now) = it at D hil HS haa P2
      generalize ageL c.u now = ag at D HAg hg
      generalize atL ageT it = aa at HS haa P2
      rw [HAg.out] at D
      go_wp2
      go_quiet ((go_at_call 21; exact Calls.quiet_of_same (P0.out _)))
      have c1d : Below w.heap.size w (w1.drewN nq) := below_drewN c1 nq
      have HNd := Lib.hid (show Nm (w1.drewN nq) from HNm1.out)
      have y2 : (w1.drewN nq).cell? ⟨w.heap.size, 2, none⟩ = some (.string (txt c.d)) := x2
      have y3 : (w1.drewN nq).cell? ⟨w.heap.size, 3, none⟩ = some (.bool c.o) := x3
      have y5 : (w1.drewN nq).cell? ⟨w.heap.size, 5, none⟩ = some (.int .i64 c.u) := x5
      have Q1 := Lib.hid (P1.out nq)
      clear x0 x1 x2 x3 x4 x5 P0 P1 HNm1
      generalize w1.drewN nq = W at c1d HNd y2 y3 y5 Q1 ⊢
      cases ho : c.o with
      | true =>
        rw [ho] at y3
        have HS2 := Lib.hid (show R = S1 ++ (if c.u = -1 then [] else aa) by rw [HR2.out, HS.out, ho]; simp)
        have hadd8 : ∀ wx : World, (Op.stringOp .add (txt S1) (txt aa)).run Tryd.prog wx = .ok (.string (txt (S1 ++ aa))) wx := add_txt (P := Tryd.prog) S1 aa (by omega)
        by_cases hu : c.u = -1
        · have HS3 := Lib.hid (show R = S1 by rw [HS2.out, if_pos hu, List.append_nil])
          have hu0 : (c.u == -1) = true := by simpa using hu
          clear hu ho hadd8
          go_wp2
          go_ret
          exact ⟨by rw [HS3.out]; rfl, c1d⟩
        · have HS3 := Lib.hid (show R = S1 ++ aa by rw [HS2.out, if_neg hu])
          rw [← HS3.out] at hadd8
          have hu0 : (c.u == -1) = false := by simpa using hu
          clear hu ho
          go_wp2_with fail
          refine (D.out _ c1d).mono ?_
          rintro e w3 ⟨rfl, b3⟩
          go_wp2_with fail
          refine (P2.out _ (nm_below HNd.out (b3.mono (Nat.le_refl _)))).mono ?_
          rintro e w4 ⟨rfl, rfl⟩
          go_wp2
          go_ret
          exact ⟨rfl, bstep c1d b3⟩
      | false =>
        rw [ho] at y3
        have HS2 := Lib.hid (show R = S1 ++ ad ++ (if c.u = -1 then [] else aa) by rw [HR2.out, HS.out, ho]; simp)
        generalize S1 ++ ad = S2 at hadd5 hl6 HS2
        have hadd8 : ∀ wx : World, (Op.stringOp .add (txt S2) (txt aa)).run Tryd.prog wx = .ok (.string (txt (S2 ++ aa))) wx := add_txt (P := Tryd.prog) S2 aa (by omega)
        by_cases hu : c.u = -1
        · have HS3 := Lib.hid (show R = S2 by rw [HS2.out, if_pos hu, List.append_nil])
          have hu0 : (c.u == -1) = true := by simpa using hu
          clear hu ho hadd8
          go_wp2_with fail
          refine Q1.out.mono ?_
          rintro e w3 ⟨rfl, rfl⟩
          go_wp2
          go_ret
          exact ⟨by rw [HS3.out]; rfl, c1d⟩
        · have HS3 := Lib.hid (show R = S2 ++ aa by rw [HS2.out, if_neg hu])
          rw [← HS3.out] at hadd8
          have hu0 : (c.u == -1) = false := by simpa using hu
          clear hu ho
          go_wp2_with fail
          refine Q1.out.mono ?_
          rintro e w3 ⟨rfl, rfl⟩
          go_wp2_with fail
          refine (D.out _ c1d).mono ?_
          rintro e w3 ⟨rfl, b3⟩
          go_wp2_with fail
          refine (P2.out _ (nm_below HNd.out (b3.mono (Nat.le_refl _)))).mono ?_
          rintro e w4 ⟨rfl, rfl⟩
          go_wp2
          go_ret
          exact ⟨rfl, bstep c1d b3⟩

end Ck
end Go.Proofs.YtdgfiebehnfpgaaDoor
