/- CONTRACTS of PutSet, the model's and the program's; the attributes' names. -/
import Derived.Test.YtdgfiebehnfpgaaDoorCkL
import Derived.Test.YtdgfiebehnfpgaaDoorCkB
import Derived.Test.YtdgfiebehnfpgaaDoorDec
import Derived.Lib.LaidTab
import Derived.Lib.AppendIntMem
namespace Go.Proofs.YtdgfiebehnfpgaaDoor
set_option linter.unusedVariables false
set_option maxRecDepth 4000
open Go.ChangeShapes Go.WideShapes Go.ChangeAt Go.RowKit
open Go.ChangeMaps (open_string shut_string)

namespace Ck
open Ht

/-- the attributes' names lie in their variable -/
def Nm (w : World) : Prop := 0 < w.heap.size ∧ w.cell? ⟨0, 0, none⟩ = some (.string (txt pathT)) ∧ w.cell? ⟨0, 1, none⟩ = some (.string (txt domT)) ∧ w.cell? ⟨0, 2, none⟩ = some (.string (txt ageT))

theorem nm_below {w w' : World} (h : Nm w) (hb : Below w.heap.size w w') : Nm w' := by
  obtain ⟨h1, h2, h3, h4⟩ := h
  exact ⟨Nat.lt_of_lt_of_le h1 hb.size, (hb.cell (p := ⟨_, 0, none⟩) h1).trans h2, (hb.cell (p := ⟨_, 1, none⟩) h1).trans h3, (hb.cell (p := ⟨_, 2, none⟩) h1).trans h4⟩

/-- the pow table is there, and stays -/
def Pt (w : World) : Prop := ∀ w', Below w.heap.size w w' → Lib.TabIs Tryd.prog w' "internal/strconv.uint64pow10" .u64 Lib.pow10Tab

theorem pt_below {w w' : World} (h : Pt w) (hb : Below w.heap.size w w') : Pt w' := fun w'' h2 => h w'' (bstep hb h2)

theorem pt_of {w : World} (h : Lib.TabIs Tryd.prog w "internal/strconv.uint64pow10" .u64 Lib.pow10Tab) : Pt w := Lib.tabBelow_of_tabIs h

set_option maxHeartbeats 800000 in
theorem put_call (i : Nat) (k : Int) (nm v : List UInt8) (w : World) (hi : i < 3) (hk : k = (i : Int)) (hc : w.cell? ⟨0, i, none⟩ = some (.string (txt nm))) (hn : nm.length ≤ 100) (hv : v.length ≤ 1048576) :
    Calls Tryd.prog 21 #[.int .i64 k, .string (txt v)] w fun e w' => e = .returned (.string (txt (atL nm v))) ∧ w' = w := by
  subst hk
  have hadd1 : ∀ wx : World, (Op.stringOp .add ({ data := #[59, 32] } : ByteArray) (txt nm)).run Tryd.prog wx = .ok (.string (txt ([59, 32] ++ nm))) wx := add_txt (P := Tryd.prog) [59, 32] nm (by simp; omega)
  have hadd2 : ∀ wx : World, (Op.stringOp .add (txt ([59, 32] ++ nm)) { data := #[61] }).run Tryd.prog wx = .ok (.string (txt ([59, 32] ++ nm ++ [61]))) wx := add_txt (P := Tryd.prog) ([59, 32] ++ nm) [61] (by simp; omega)
  have hadd3 : ∀ wx : World, (Op.stringOp .add (txt ([59, 32] ++ nm ++ [61])) (txt v)).run Tryd.prog wx = .ok (.string (txt ([59, 32] ++ nm ++ [61] ++ v))) wx := add_txt (P := Tryd.prog) ([59, 32] ++ nm ++ [61]) v (by simp; omega)
  have HN := Lib.hid (show [59, 32] ++ nm ++ [61] ++ v = atL nm v by simp [atL])
  rw [HN.out] at hadd3
  generalize [59, 32] ++ nm ++ [61] = y at hadd2 hadd3
  generalize [59, 32] ++ nm = x at hadd1 hadd2
  generalize atL nm v = r at hadd3 ⊢
  clear HN
  have hi0 : (0 : Int) ≤ (i : Int) := by omega
  have hi1 : (i : Int) < 3 := by omega
  go_enter Tryd.func21, Tryd.ntmps21
  go_wp2
  go_ret
  exact ⟨rfl, rfl⟩

theorem ck_small {c : CkL} (h : ckOk c = true) : c.n.length ≤ 30 ∧ c.v.length ≤ 600 ∧ c.d.length ≤ 60 ∧ c.p.length ≤ 61 := by
  obtain ⟨h1, h2, h3, h4, _⟩ := ck_parts h
  unfold nmL at h1
  unfold vlL at h2
  unfold hostL at h3
  unfold pathL at h4
  simp only [Bool.and_eq_true, decide_eq_true_eq] at h1 h2 h3 h4
  exact ⟨h1.2.2, h2.2, h3.2.2, h4.1.1⟩

set_option maxHeartbeats 3200000 in
theorem putSet_spec (c : CkL) (now : Int) (w : World) (hc : CkS c) (hn1 : -9223372036854775808 ≤ now) (hn2 : now ≤ 9223372036854775807) :
    Calls Tryd.prog 9 #[ckV c, .int .i64 now] w fun e w' => e = .returned (.string (txt (putSet c now))) ∧ Below w.heap.size w w' := by
  have CO := Lib.hid (fun wx => ckOk_spec c wx hc)
  have CT := Lib.hid (fun wx => time_spec now wx)
  have G0 := Lib.hid (heap_alloc_new w (.cells #[.string (txt c.n), .string (txt c.v), .string (txt c.d), .bool c.o, .string (txt c.p), .int .i64 c.u] 25))
  have BA := Lib.hid ((Below.refl w.heap.size w).alloc (Nat.le_refl _) (.cells #[.string (txt c.n), .string (txt c.v), .string (txt c.d), .bool c.o, .string (txt c.p), .int .i64 c.u] 25))
  have hsz : w.heap.size < (w.alloc (.cells #[.string (txt c.n), .string (txt c.v), .string (txt c.d), .bool c.o, .string (txt c.p), .int .i64 c.u] 25)).heap.size := by simp
  have HR := Lib.hid (show putSet c now = if ckOk c && timeB now then setL c now else [] from rfl)
  have HB := Lib.hid (show ckOk c = true → c.n.length ≤ 30 ∧ c.v.length ≤ 600 ∧ c.d.length ≤ 60 ∧ c.p.length ≤ 61 ∧ -1 ≤ c.u ∧ c.u ≤ 999999999999 from fun h => ⟨(ck_small h).1, (ck_small h).2.1, (ck_small h).2.2.1, (ck_small h).2.2.2, (ck_parts h).2.2.2.2⟩)
  have HT := Lib.hid (show timeB now = true → 0 ≤ now ∧ now ≤ 999999999999 from fun h => by unfold timeB at h; simpa using h)
  unfold ckV at CO ⊢
  generalize putSet c now = R at HR ⊢
  generalize ckOk c = A at CO HR HB
  generalize timeB now = B at CT HR HT
  go_enter Tryd.func9, Tryd.ntmps9
  go_wp2_with fail
  refine (CO.out _).mono ?_
  rintro e w1 ⟨rfl, b1⟩
  have k1 := (b1.block w.heap.size hsz).trans G0.out
  have c1 := BA.out.trans (b1.mono BA.out.size)
  cases A with
  | false =>
    have HR2 := Lib.hid (show R = [] by rw [HR.out]; rfl)
    clear k1
    go_wp2
    go_ret
    exact ⟨by rw [HR2.out]; rfl, c1⟩
  | true =>
    go_wp2_with fail
    refine (CT.out _).mono ?_
    rintro e w2 ⟨rfl, rfl⟩
    cases B with
    | false =>
      have HR2 := Lib.hid (show R = [] by rw [HR.out]; rfl)
      clear k1
      go_wp2
      go_ret
      exact ⟨by rw [HR2.out]; rfl, c1⟩
    | true =>
      have HR2 := Lib.hid (show R = setL c now by rw [HR.out]; rfl)
      obtain ⟨l1, l2, l3, l4, u1, u2⟩ := HB.out (by trivial)
      obtain ⟨t1, t2⟩ := HT.out (by trivial)
      obtain ⟨x0, x1, x2, x3, x4, x5, _⟩ := box6 k1
      clear k1 HR HB HT CO CT G0 BA hsz b1
      have HS := Lib.hid (show setL c now = (c.n ++ [61] ++ c.v ++ [59, 32, 80, 97, 116, 104, 61] ++ c.p) ++ (if c.o then [] else atL domT c.d) ++ (if c.u = -1 then [] else atL ageT (Lib.itoa (ageL c.u now))) by
        simp [setL, eqL, atL, pathT])
      have hadd1 : ∀ wx : World, (Op.stringOp .add (txt c.n) { data := #[61] }).run Tryd.prog wx = .ok (.string (txt (c.n ++ [61]))) wx := add_txt (P := Tryd.prog) c.n [61] (by simp; omega)
      have hadd2 : ∀ wx : World, (Op.stringOp .add (txt (c.n ++ [61])) (txt c.v)).run Tryd.prog wx = .ok (.string (txt (c.n ++ [61] ++ c.v))) wx := add_txt (P := Tryd.prog) (c.n ++ [61]) c.v (by simp; omega)
      have hadd3 : ∀ wx : World, (Op.stringOp .add (txt (c.n ++ [61] ++ c.v)) { data := #[59, 32, 80, 97, 116, 104, 61] }).run Tryd.prog wx = .ok (.string (txt (c.n ++ [61] ++ c.v ++ [59, 32, 80, 97, 116, 104, 61]))) wx := add_txt (P := Tryd.prog) (c.n ++ [61] ++ c.v) [59, 32, 80, 97, 116, 104, 61] (by simp; omega)
      have hadd4 : ∀ wx : World, (Op.stringOp .add (txt (c.n ++ [61] ++ c.v ++ [59, 32, 80, 97, 116, 104, 61])) (txt c.p)).run Tryd.prog wx = .ok (.string (txt (c.n ++ [61] ++ c.v ++ [59, 32, 80, 97, 116, 104, 61] ++ c.p))) wx := add_txt (P := Tryd.prog) (c.n ++ [61] ++ c.v ++ [59, 32, 80, 97, 116, 104, 61]) c.p (by simp; omega)
      have hl4 : (c.n ++ [61] ++ c.v ++ [59, 32, 80, 97, 116, 104, 61] ++ c.p).length ≤ 1000 := by simp; omega
      generalize c.n ++ [61] ++ c.v ++ [59, 32, 80, 97, 116, 104, 61] ++ c.p = S1 at hadd4 hl4 HS
      generalize c.n ++ [61] ++ c.v ++ [59, 32, 80, 97, 116, 104, 61] = z3 at hadd3 hadd4
      generalize c.n ++ [61] ++ c.v = z2 at hadd2 hadd3
      generalize c.n ++ [61] = z1 at hadd1 hadd2
      have HD := Lib.hid (show S1 ++ [59, 32, 68, 111, 109, 97, 105, 110, 61] ++ c.d = S1 ++ atL domT c.d by simp [atL, domT])
      have hadd5 : ∀ wx : World, (Op.stringOp .add (txt S1) { data := #[59, 32, 68, 111, 109, 97, 105, 110, 61] }).run Tryd.prog wx = .ok (.string (txt (S1 ++ [59, 32, 68, 111, 109, 97, 105, 110, 61]))) wx := add_txt (P := Tryd.prog) S1 [59, 32, 68, 111, 109, 97, 105, 110, 61] (by simp; omega)
      have hadd6 : ∀ wx : World, (Op.stringOp .add (txt (S1 ++ [59, 32, 68, 111, 109, 97, 105, 110, 61])) (txt c.d)).run Tryd.prog wx = .ok (.string (txt (S1 ++ [59, 32, 68, 111, 109, 97, 105, 110, 61] ++ c.d))) wx := add_txt (P := Tryd.prog) (S1 ++ [59, 32, 68, 111, 109, 97, 105, 110, 61]) c.d (by simp; omega)
      have hl6 : (S1 ++ [59, 32, 68, 111, 109, 97, 105, 110, 61] ++ c.d).length ≤ 2000 := by simp; omega
      rw [HD.out] at hadd6 hl6
      generalize S1 ++ [59, 32, 68, 111, 109, 97, 105, 110, 61] = z5 at hadd5 hadd6
      generalize atL domT c.d = ad at HS hadd6 hl6
      clear HD
      -- the age
      have hg : 0 ≤ ageL c.u now ∧ ageL c.u now ≤ 999999999999 := by unfold ageL; split <;> omega
      have D := Lib.hid (fun wx => dec_all (ageL c.u now) wx (by omega) (by omega))
      have hil := Lib.itoa_length_le (ageL c.u now) (by omega) (by omega)
      have HG := Lib.hid (show ∀ S : List UInt8, S ++ [59, 32, 77, 97, 120, 45, 65, 103, 101, 61] ++ Lib.itoa (ageL c.u now) = S ++ atL ageT (Lib.itoa (ageL c.u now)) from fun S => by simp [atL, ageT])
      have HAg := Lib.hid (show ageL c.u now = if c.u - now < 0 then 0 else c.u - now from rfl)
      generalize Lib.itoa (ageL c.u now) = it at D hil HG HS
      generalize ageL c.u now = ag at D HAg hg
      generalize atL ageT it = aa at HG HS
      cases ho : c.o with
      | true =>
        rw [ho] at x3
        have HS2 := Lib.hid (show R = S1 ++ (if c.u = -1 then [] else aa) by rw [HR2.out, HS.out, ho]; simp)
        have hadd7 : ∀ wx : World, (Op.stringOp .add (txt S1) { data := #[59, 32, 77, 97, 120, 45, 65, 103, 101, 61] }).run Tryd.prog wx = .ok (.string (txt (S1 ++ [59, 32, 77, 97, 120, 45, 65, 103, 101, 61]))) wx := add_txt (P := Tryd.prog) S1 [59, 32, 77, 97, 120, 45, 65, 103, 101, 61] (by simp; omega)
        have hadd8 : ∀ wx : World, (Op.stringOp .add (txt (S1 ++ [59, 32, 77, 97, 120, 45, 65, 103, 101, 61])) (txt it)).run Tryd.prog wx = .ok (.string (txt (S1 ++ [59, 32, 77, 97, 120, 45, 65, 103, 101, 61] ++ it))) wx := add_txt (P := Tryd.prog) (S1 ++ [59, 32, 77, 97, 120, 45, 65, 103, 101, 61]) it (by simp; omega)
        rw [HG.out] at hadd8
        generalize S1 ++ [59, 32, 77, 97, 120, 45, 65, 103, 101, 61] = z7 at hadd7 hadd8
        by_cases hu : c.u = -1
        · have HS3 := Lib.hid (show R = S1 by rw [HS2.out, if_pos hu, List.append_nil])
          have hu0 : ¬ (0 : Int) ≤ c.u := by omega
          clear hu ho
          go_wp2
          go_ret
          exact ⟨by rw [HS3.out]; rfl, c1⟩
        · have HS3 := Lib.hid (show R = S1 ++ aa by rw [HS2.out, if_neg hu])
          rw [← HS3.out] at hadd8
          have hu0 : (0 : Int) ≤ c.u := by omega
          clear hu ho
          by_cases hneg : c.u - now < 0
          · have HA2 := Lib.hid (show ag = 0 by rw [HAg.out, if_pos hneg])
            rw [HA2.out] at D
            go_wp2_with fail
            refine (D.out _).mono ?_
            rintro e w3 ⟨rfl, b3⟩
            go_wp2
            go_ret
            exact ⟨rfl, bstep c1 b3⟩
          · have HA2 := Lib.hid (show ag = c.u - now by rw [HAg.out, if_neg hneg])
            rw [HA2.out] at D
            go_wp2_with fail
            refine (D.out _).mono ?_
            rintro e w3 ⟨rfl, b3⟩
            go_wp2
            go_ret
            exact ⟨rfl, bstep c1 b3⟩
      | false =>
        rw [ho] at x3
        have HS2 := Lib.hid (show R = S1 ++ ad ++ (if c.u = -1 then [] else aa) by rw [HR2.out, HS.out, ho]; simp)
        generalize S1 ++ ad = S2 at hadd6 hl6 HS2
        have hadd7 : ∀ wx : World, (Op.stringOp .add (txt S2) { data := #[59, 32, 77, 97, 120, 45, 65, 103, 101, 61] }).run Tryd.prog wx = .ok (.string (txt (S2 ++ [59, 32, 77, 97, 120, 45, 65, 103, 101, 61]))) wx := add_txt (P := Tryd.prog) S2 [59, 32, 77, 97, 120, 45, 65, 103, 101, 61] (by simp; omega)
        have hadd8 : ∀ wx : World, (Op.stringOp .add (txt (S2 ++ [59, 32, 77, 97, 120, 45, 65, 103, 101, 61])) (txt it)).run Tryd.prog wx = .ok (.string (txt (S2 ++ [59, 32, 77, 97, 120, 45, 65, 103, 101, 61] ++ it))) wx := add_txt (P := Tryd.prog) (S2 ++ [59, 32, 77, 97, 120, 45, 65, 103, 101, 61]) it (by simp; omega)
        rw [HG.out] at hadd8
        generalize S2 ++ [59, 32, 77, 97, 120, 45, 65, 103, 101, 61] = z7 at hadd7 hadd8
        by_cases hu : c.u = -1
        · have HS3 := Lib.hid (show R = S2 by rw [HS2.out, if_pos hu, List.append_nil])
          have hu0 : ¬ (0 : Int) ≤ c.u := by omega
          clear hu ho
          go_wp2
          go_ret
          exact ⟨by rw [HS3.out]; rfl, c1⟩
        · have HS3 := Lib.hid (show R = S2 ++ aa by rw [HS2.out, if_neg hu])
          rw [← HS3.out] at hadd8
          have hu0 : (0 : Int) ≤ c.u := by omega
          clear hu ho
          by_cases hneg : c.u - now < 0
          · have HA2 := Lib.hid (show ag = 0 by rw [HAg.out, if_pos hneg])
            rw [HA2.out] at D
            go_wp2_with fail
            refine (D.out _).mono ?_
            rintro e w3 ⟨rfl, b3⟩
            go_wp2
            go_ret
            exact ⟨rfl, bstep c1 b3⟩
          · have HA2 := Lib.hid (show ag = c.u - now by rw [HAg.out, if_neg hneg])
            rw [HA2.out] at D
            go_wp2_with fail
            refine (D.out _).mono ?_
            rintro e w3 ⟨rfl, b3⟩
            go_wp2
            go_ret
            exact ⟨rfl, bstep c1 b3⟩

end Ck
end Go.Proofs.YtdgfiebehnfpgaaDoor
