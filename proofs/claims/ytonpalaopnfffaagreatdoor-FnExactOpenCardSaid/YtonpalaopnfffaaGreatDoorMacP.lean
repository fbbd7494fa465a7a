/- CONTRACTS of the program's Mac, Stretch, NewName. -/
import Derived.Test.YtonpalaopnfffaaGreatDoorMacI
import Derived.Test.YtonpalaopnfffaaGreatDoorDec
namespace Go.Proofs.YtonpalaopnfffaaGreatDoor
set_option linter.unusedVariables false
set_option maxRecDepth 4000
open Go.ChangeShapes Go.WideShapes Go.ChangeAt Go.RowKit
open Go.ChangeMaps (open_string shut_string)
open Sh

namespace Mk

theorem step_load_of {P : Program} {ops : Array Oper} {w : World} {o : Oper} {a : Act} {K : Act → World → Prop} {Q : Exit → Act → World → Prop} {E : Prop} (hgd : o.guard = none) (t : TypeId) (x : Operand) (ho : o.op = .load t x) (p v : Value) (hx : a.eval x = p)
    (h : (Instr.loadAt t p).run P w = .ok v w) (hk : K (a.put o.dst v) w) : if Region.wanted o (yielded ops a.tmps) = true then Oper.wp P o a w K Q else E := by
  have hw : Region.wanted o (yielded ops a.tmps) = true := by simp [Region.wanted, hgd]
  rw [if_pos hw]
  exact wp_load_of t x ho p v hx h hk

/-- a box that holds a state -/
def StAt (w : World) (b : Nat) (st : St) : Prop := w.heap[b]? = some (.cells (cells32 (stL st)).toArray 143 (0, 0))

theorem StAt.below {w w' : World} {b : Nat} {st : St} (h : StAt w b st) (hb : Below w.heap.size w w') : StAt w' b st := (hb.block _ (heap_lt h)).trans h

theorem StAt.load {w : World} {b : Nat} {st : St} (h : StAt w b st) : (Instr.loadAt 143 (.pointer (some ⟨b, 0, none⟩))).run Tryz.prog w = .ok (aggS st) w :=
  run_loadAt_row (P := Tryz.prog) w b 143 (cells32 (stL st)).toArray 8 132 h Tryz.underlying143 size8

theorem keyS_ok (k : List UInt8) (m : UInt8) : okS (keyS k m) := cmp_ok _ _

def macF (b3 b4 : Nat) : Value := .func (.func 90) #[] #[.pointer (some ⟨b4, 0, none⟩), .pointer (some ⟨b3, 0, none⟩)]

theorem aggS_is (st : St) : aggS st = .agg #[.int .u32 ((st.a : Nat) : Int), .int .u32 ((st.b : Nat) : Int), .int .u32 ((st.c : Nat) : Int), .int .u32 ((st.d : Nat) : Int), .int .u32 ((st.e : Nat) : Int), .int .u32 ((st.f : Nat) : Int), .int .u32 ((st.g : Nat) : Int), .int .u32 ((st.h : Nat) : Int)] := rfl

theorem StAt.cells {w : World} {b : Nat} {st : St} (h : StAt w b st) : w.cell? ⟨b, 0, none⟩ = some (.int .u32 ((st.a : Nat) : Int)) ∧ w.cell? ⟨b, 1, none⟩ = some (.int .u32 ((st.b : Nat) : Int)) ∧ w.cell? ⟨b, 2, none⟩ = some (.int .u32 ((st.c : Nat) : Int)) ∧ w.cell? ⟨b, 3, none⟩ = some (.int .u32 ((st.d : Nat) : Int)) ∧ w.cell? ⟨b, 4, none⟩ = some (.int .u32 ((st.e : Nat) : Int)) ∧ w.cell? ⟨b, 5, none⟩ = some (.int .u32 ((st.f : Nat) : Int)) ∧ w.cell? ⟨b, 6, none⟩ = some (.int .u32 ((st.g : Nat) : Int)) ∧ w.cell? ⟨b, 7, none⟩ = some (.int .u32 ((st.h : Nat) : Int)) := by
  have hc := fun j => cell_of_row w b j (cells32 (stL st)).toArray _ _ h
  exact ⟨hc 0, hc 1, hc 2, hc 3, hc 4, hc 5, hc 6, hc 7⟩

theorem keepM {w W : World} {b3 b4 : Nat} {s3 s4 : St} (h3 : StAt W b3 s3) (h4 : StAt W b4 s4) (hK : W32At W 1 K) (hb : Below w.heap.size w W) : StAt W b3 s3 ∧ StAt W b4 s4 ∧ W32At W 1 K ∧ Below w.heap.size w W ∧ W.cell? ⟨b3, 0, none⟩ = some (.int .u32 ((s3.a : Nat) : Int)) ∧ W.cell? ⟨b3, 1, none⟩ = some (.int .u32 ((s3.b : Nat) : Int)) ∧ W.cell? ⟨b3, 2, none⟩ = some (.int .u32 ((s3.c : Nat) : Int)) ∧ W.cell? ⟨b3, 3, none⟩ = some (.int .u32 ((s3.d : Nat) : Int)) ∧ W.cell? ⟨b3, 4, none⟩ = some (.int .u32 ((s3.e : Nat) : Int)) ∧ W.cell? ⟨b3, 5, none⟩ = some (.int .u32 ((s3.f : Nat) : Int)) ∧ W.cell? ⟨b3, 6, none⟩ = some (.int .u32 ((s3.g : Nat) : Int)) ∧ W.cell? ⟨b3, 7, none⟩ = some (.int .u32 ((s3.h : Nat) : Int)) ∧ W.cell? ⟨b4, 0, none⟩ = some (.int .u32 ((s4.a : Nat) : Int)) ∧ W.cell? ⟨b4, 1, none⟩ = some (.int .u32 ((s4.b : Nat) : Int)) ∧ W.cell? ⟨b4, 2, none⟩ = some (.int .u32 ((s4.c : Nat) : Int)) ∧ W.cell? ⟨b4, 3, none⟩ = some (.int .u32 ((s4.d : Nat) : Int)) ∧ W.cell? ⟨b4, 4, none⟩ = some (.int .u32 ((s4.e : Nat) : Int)) ∧ W.cell? ⟨b4, 5, none⟩ = some (.int .u32 ((s4.f : Nat) : Int)) ∧ W.cell? ⟨b4, 6, none⟩ = some (.int .u32 ((s4.g : Nat) : Int)) ∧ W.cell? ⟨b4, 7, none⟩ = some (.int .u32 ((s4.h : Nat) : Int)) := by
  obtain ⟨c0, c1, c2, c3, c4, c5, c6, c7⟩ := h3.cells
  obtain ⟨d0, d1, d2, d3, d4, d5, d6, d7⟩ := h4.cells
  exact ⟨h3, h4, hK, hb, c0, c1, c2, c3, c4, c5, c6, c7, d0, d1, d2, d3, d4, d5, d6, d7⟩

theorem keepM2 {w W W' : World} {b3 b4 : Nat} {s3 s4 : St} (hbc : Below W.heap.size W W') (h3 : StAt W b3 s3) (h4 : StAt W b4 s4) (hK : W32At W 1 K) (hb : Below w.heap.size w W) : StAt W' b3 s3 ∧ StAt W' b4 s4 ∧ W32At W' 1 K ∧ Below w.heap.size w W' ∧ W'.cell? ⟨b3, 0, none⟩ = some (.int .u32 ((s3.a : Nat) : Int)) ∧ W'.cell? ⟨b3, 1, none⟩ = some (.int .u32 ((s3.b : Nat) : Int)) ∧ W'.cell? ⟨b3, 2, none⟩ = some (.int .u32 ((s3.c : Nat) : Int)) ∧ W'.cell? ⟨b3, 3, none⟩ = some (.int .u32 ((s3.d : Nat) : Int)) ∧ W'.cell? ⟨b3, 4, none⟩ = some (.int .u32 ((s3.e : Nat) : Int)) ∧ W'.cell? ⟨b3, 5, none⟩ = some (.int .u32 ((s3.f : Nat) : Int)) ∧ W'.cell? ⟨b3, 6, none⟩ = some (.int .u32 ((s3.g : Nat) : Int)) ∧ W'.cell? ⟨b3, 7, none⟩ = some (.int .u32 ((s3.h : Nat) : Int)) ∧ W'.cell? ⟨b4, 0, none⟩ = some (.int .u32 ((s4.a : Nat) : Int)) ∧ W'.cell? ⟨b4, 1, none⟩ = some (.int .u32 ((s4.b : Nat) : Int)) ∧ W'.cell? ⟨b4, 2, none⟩ = some (.int .u32 ((s4.c : Nat) : Int)) ∧ W'.cell? ⟨b4, 3, none⟩ = some (.int .u32 ((s4.d : Nat) : Int)) ∧ W'.cell? ⟨b4, 4, none⟩ = some (.int .u32 ((s4.e : Nat) : Int)) ∧ W'.cell? ⟨b4, 5, none⟩ = some (.int .u32 ((s4.f : Nat) : Int)) ∧ W'.cell? ⟨b4, 6, none⟩ = some (.int .u32 ((s4.g : Nat) : Int)) ∧ W'.cell? ⟨b4, 7, none⟩ = some (.int .u32 ((s4.h : Nat) : Int)) :=
  keepM (h3.below hbc) (h4.below hbc) (hK.below hbc) (bstep hb hbc)

set_option maxHeartbeats 1600000 in
theorem under_call (s : ByteArray) (hs : s.size ≤ 16777216) (w : World) (hK : W32At w 1 K) :
    Calls Tryz.prog 82 #[.string s] w fun e w' => ∃ b3 b4, e = .returned (macF b3 b4) ∧ StAt w' b3 (keyS s.data.toList 54) ∧ StAt w' b4 (keyS s.data.toList 92) ∧ Below w.heap.size w w' := by
  have hmf : ∀ (fn : Fn) (first cap : Array Value) (w : World), (Instr.makeFunc fn first cap).run Tryz.prog w = .ok (.func fn first cap) w := fun _ _ _ _ => rfl
  have HKK := Lib.hid hK
  clear hK
  have e1 : (((92 : UInt8).toNat : Nat) : Int) = 92 := rfl
  have e2 : (((54 : UInt8).toNat : Nat) : Int) = 54 := rfl
  by_cases h64 : 64 < s.size
  · have S1 := Lib.hid (fun wx hk => sha_impl s hs wx hk)
    have hkl : keyL s.data.toList = shaL s.data.toList := by unfold keyL; rw [if_pos (by rw [data_length]; exact h64)]
    have hsz : (txt (shaL s.data.toList)).size ≤ 64 := by rw [txt_size, sha_len]; omega
    have C1 := Lib.hid (fun wx hk => keyState_call (txt (shaL s.data.toList)) 54 (.inl rfl) hsz wx hk)
    have C2 := Lib.hid (fun wx hk => keyState_call (txt (shaL s.data.toList)) 92 (.inr rfl) hsz wx hk)
    have k1 : stK (shaL s.data.toList) 54 = keyS s.data.toList 54 := by rw [← hkl]; rfl
    have k2 : stK (shaL s.data.toList) 92 = keyS s.data.toList 92 := by rw [← hkl]; rfl
    simp only [txt_toList, k1, k2, e1, e2] at C1 C2
    generalize txt (shaL s.data.toList) = S at S1 C1 C2 hsz
    generalize keyS s.data.toList 54 = s3 at C1 ⊢
    generalize keyS s.data.toList 92 = s4 at C2 ⊢
    rw [aggS_is] at C1 C2
    clear k1 k2 hkl e1 e2
    go_enter Tryz.func82, Tryz.ntmps82
    go_wp2_with fail
    refine (S1.out _ HKK.out).mono ?_
    rintro e w1 ⟨rfl, b1⟩
    go_wp2_with fail
    refine (C1.out _ (HKK.out.below b1)).mono ?_
    rintro e w2 ⟨rfl, b2⟩
    have b12 := bstep b1 b2
    go_wp2_with fail
    refine (C2.out _ (HKK.out.below b12)).mono ?_
    rintro e w3 ⟨rfl, b3⟩
    have b13 := bstep b12 b3
    go_wp2
    go_ret
    refine ⟨_, _, rfl, ?_, ?_, (b13.alloc b13.size _).alloc (by have := b13.size; simp; omega) _⟩
    · exact (heap_alloc_old _ _ (by simp)).trans (heap_alloc_new w3 _)
    · have hx := heap_alloc_new (w3.alloc (.cells (cells32 (stL s3)).toArray 143)) (.cells (cells32 (stL s4)).toArray 143)
      rw [show (w3.alloc (.cells (cells32 (stL s3)).toArray 143)).heap.size = w3.heap.size + 1 by simp] at hx
      exact hx
  · have hkl : keyL s.data.toList = s.data.toList := by unfold keyL; rw [if_neg (by rw [data_length]; exact h64)]
    have C1 := Lib.hid (fun wx hk => keyState_call s 54 (.inl rfl) (by omega) wx hk)
    have C2 := Lib.hid (fun wx hk => keyState_call s 92 (.inr rfl) (by omega) wx hk)
    have k1 : stK s.data.toList 54 = keyS s.data.toList 54 := by unfold keyS; rw [show padK s.data.toList 54 = (filL s.data.toList).map (· ^^^ 54) by unfold padK; rw [hkl]; rfl]; rfl
    have k2 : stK s.data.toList 92 = keyS s.data.toList 92 := by unfold keyS; rw [show padK s.data.toList 92 = (filL s.data.toList).map (· ^^^ 92) by unfold padK; rw [hkl]; rfl]; rfl
    simp only [k1, k2, e1, e2] at C1 C2
    generalize keyS s.data.toList 54 = s3 at C1 ⊢
    generalize keyS s.data.toList 92 = s4 at C2 ⊢
    rw [aggS_is] at C1 C2
    clear k1 k2 hkl e1 e2
    go_enter Tryz.func82, Tryz.ntmps82
    go_wp2_with fail
    refine (C1.out _ HKK.out).mono ?_
    rintro e w2 ⟨rfl, b2⟩
    go_wp2_with fail
    refine (C2.out _ (HKK.out.below b2)).mono ?_
    rintro e w3 ⟨rfl, b3⟩
    have b13 := bstep b2 b3
    go_wp2
    go_ret
    refine ⟨_, _, rfl, ?_, ?_, (b13.alloc b13.size _).alloc (by have := b13.size; simp; omega) _⟩
    · exact (heap_alloc_old _ _ (by simp)).trans (heap_alloc_new w3 _)
    · have hx := heap_alloc_new (w3.alloc (.cells (cells32 (stL s3)).toArray 143)) (.cells (cells32 (stL s4)).toArray 143)
      rw [show (w3.alloc (.cells (cells32 (stL s3)).toArray 143)).heap.size = w3.heap.size + 1 by simp] at hx
      exact hx

set_option maxHeartbeats 1600000 in
theorem clos_call (k : List UInt8) (s : ByteArray) (hs : s.size ≤ 1048576) (b3 b4 : Nat) (w : World) (h3 : StAt w b3 (keyS k 54)) (h4 : StAt w b4 (keyS k 92)) (hK : W32At w 1 K) :
    Calls Tryz.prog 90 #[.string s, .pointer (some ⟨b4, 0, none⟩), .pointer (some ⟨b3, 0, none⟩)] w fun e w' => e = .returned (.string (txt (macL k s.data.toList))) ∧ Below w.heap.size w w' := by
  obtain ⟨R, hR⟩ : ∃ R, R = macL k s.data.toList := ⟨_, rfl⟩
  have HR := Lib.hid (show R = endL (keyS k 92) 64 (endL (keyS k 54) 64 s.data.toList) by rw [hR, mac_end])
  rw [← hR]
  clear hR
  have hel := end_len (keyS k 54) 64 s.data.toList
  have EC := Lib.hid (fun (st : St) (hst : okS st) (x : ByteArray) (hx : x.size ≤ 16777216) wx hk => end_call st hst 64 (by omega) (by omega) x hx wx hk)
  simp only [aggS_is] at EC
  have o3 := keyS_ok k 54
  have o4 := keyS_ok k 92
  generalize keyS k 54 = s3 at HR hel h3 o3
  generalize keyS k 92 = s4 at HR h4 o4
  have hs2 : s.size ≤ 16777216 := by omega
  have hD2 : (txt (endL s3 64 s.data.toList)).size ≤ 16777216 := by rw [txt_size, hel]; omega
  clear hel
  have h0 := keepM (w := w) (W := w.drew) h3 h4 hK (Below.refl _ w).drew
  go_enter Tryz.func90, Tryz.ntmps90
  go_wp2
  go_region_held3 (fun W => StAt W b3 s3 ∧ StAt W b4 s4 ∧ W32At W 1 K ∧ Below w.heap.size w W ∧ W.cell? ⟨b3, 0, none⟩ = some (.int .u32 ((s3.a : Nat) : Int)) ∧ W.cell? ⟨b3, 1, none⟩ = some (.int .u32 ((s3.b : Nat) : Int)) ∧ W.cell? ⟨b3, 2, none⟩ = some (.int .u32 ((s3.c : Nat) : Int)) ∧ W.cell? ⟨b3, 3, none⟩ = some (.int .u32 ((s3.d : Nat) : Int)) ∧ W.cell? ⟨b3, 4, none⟩ = some (.int .u32 ((s3.e : Nat) : Int)) ∧ W.cell? ⟨b3, 5, none⟩ = some (.int .u32 ((s3.f : Nat) : Int)) ∧ W.cell? ⟨b3, 6, none⟩ = some (.int .u32 ((s3.g : Nat) : Int)) ∧ W.cell? ⟨b3, 7, none⟩ = some (.int .u32 ((s3.h : Nat) : Int)) ∧ W.cell? ⟨b4, 0, none⟩ = some (.int .u32 ((s4.a : Nat) : Int)) ∧ W.cell? ⟨b4, 1, none⟩ = some (.int .u32 ((s4.b : Nat) : Int)) ∧ W.cell? ⟨b4, 2, none⟩ = some (.int .u32 ((s4.c : Nat) : Int)) ∧ W.cell? ⟨b4, 3, none⟩ = some (.int .u32 ((s4.d : Nat) : Int)) ∧ W.cell? ⟨b4, 4, none⟩ = some (.int .u32 ((s4.e : Nat) : Int)) ∧ W.cell? ⟨b4, 5, none⟩ = some (.int .u32 ((s4.f : Nat) : Int)) ∧ W.cell? ⟨b4, 6, none⟩ = some (.int .u32 ((s4.g : Nat) : Int)) ∧ W.cell? ⟨b4, 7, none⟩ = some (.int .u32 ((s4.h : Nat) : Int)))
    (first
      | exact h0
      | (go_split_ands; exact keepM (by assumption) (by assumption) (by assumption) (by assumption))
      | (go_split_ands; exact keepM2 hbc (by assumption) (by assumption) (by assumption) (by assumption)))
    (first
      | (go_simp; go_at_call 91; refine Calls.mono (EC.out _ (by first | exact o3 | exact o4) _ (by first | exact hs2 | exact hD2) _ (by go_split_ands; assumption)) ?_; rintro e wc ⟨rfl, hbc⟩))
  all_goals
    have hb5 : Below w.heap.size w wc := by
      go_split_ands
      assumption
    go_wp2
    go_ret
    exact ⟨by rw [HR.out]; first | rfl | (rw [txt_toList]; rfl), hb5⟩

end Mk

end Go.Proofs.YtonpalaopnfffaaGreatDoor

namespace Go.Proofs.YtonpalaopnfffaaGreatDoor
set_option linter.unusedVariables false
set_option maxRecDepth 4000
open Go.ChangeShapes Go.WideShapes Go.ChangeAt Go.RowKit
open Go.ChangeMaps (open_string shut_string)
open Sh

namespace Mk

theorem mac_impl (k s : ByteArray) (hk : k.size ≤ 1048576) (hs : s.size ≤ 1048576) (w : World) (hK : W32At w 1 K) :
    Calls Tryz.prog 68 #[.string k, .string s] w fun e w' => e = .returned (.string (txt (macL k.data.toList s.data.toList))) ∧ Below w.heap.size w w' := by
  have U := Lib.hid (fun wx hk2 => under_call k (by omega) wx hk2)
  have C := Lib.hid (fun b3 b4 wx h3 h4 hk2 => clos_call k.data.toList s hs b3 b4 wx h3 h4 hk2)
  have HKK := Lib.hid hK
  clear hK
  generalize macL k.data.toList s.data.toList = R at C
  go_enter Tryz.func68, Tryz.ntmps68
  go_wp2_with fail
  refine (U.out _ HKK.out).mono ?_
  rintro e w1 ⟨b3, b4, rfl, h3, h4, b1⟩
  unfold macF
  go_wp2_with fail
  refine (C.out _ _ _ h3 h4 (HKK.out.below b1)).mono ?_
  rintro e w2 ⟨rfl, b2⟩
  go_wp2
  go_ret
  exact ⟨rfl, bstep b1 b2⟩

end Mk

end Go.Proofs.YtonpalaopnfffaaGreatDoor
