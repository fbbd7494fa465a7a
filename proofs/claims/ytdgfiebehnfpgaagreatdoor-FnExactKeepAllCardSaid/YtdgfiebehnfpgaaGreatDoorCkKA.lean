/- CONTRACTS: KeepAll, the model's and the program's. -/
import Derived.Test.YtdgfiebehnfpgaaGreatDoorHtOk3
import Derived.Test.YtdgfiebehnfpgaaGreatDoorCkJL
import Derived.Test.YtdgfiebehnfpgaaGreatDoorCkGS
import Derived.Test.YtdgfiebehnfpgaaGreatDoorHtL
namespace Go.Proofs.YtdgfiebehnfpgaaGreatDoor
set_option linter.unusedVariables false
set_option maxRecDepth 4000
open Go.ChangeShapes Go.WideShapes Go.ChangeAt Go.RowKit
open Go.ChangeMaps (open_string shut_string)

namespace Ht

theorem low_length (l : List UInt8) : (lowL l).length = l.length := by simp [lowL]

set_option maxHeartbeats 800000 in
theorem sameHead_call (a b : List UInt8) (w : World) (ha : a.length ≤ 1048576) (hb : b.length ≤ 1048576) :
    Calls Tryz.prog 63 #[.string (txt a), .string (txt b)] w fun e w' => e = .returned (.bool (decide (lowL a = lowL b))) ∧ Below w.heap.size w w' := by
  have za := txt_size a
  have zb := txt_size b
  have CA := Lib.hid (fun wx => lower_impl (txt a) wx (by omega))
  have CB := Lib.hid (fun wx => lower_impl (txt b) wx (by omega))
  have he := txt_beq (lowL a) (lowL b)
  rw [txt_toList] at CA CB
  by_cases hl : a.length = b.length
  · have il : (a.length : Int) = (b.length : Int) := by omega
    generalize decide (lowL a = lowL b) = R at he ⊢
    generalize lowL a = x at CA he
    generalize lowL b = y at CB he
    go_enter Tryz.func63, Tryz.ntmps63
    go_wp2_with fail
    refine (CA.out _).mono ?_
    rintro e w1 ⟨rfl, b1⟩
    go_wp2_with fail
    refine (CB.out _).mono ?_
    rintro e w2 ⟨rfl, b2⟩
    go_wp2
    go_ret
    exact ⟨rfl, bstep b1 b2⟩
  · have il : ((a.length : Int) == (b.length : Int)) = false := by
      rw [Bool.eq_false_iff]
      intro e
      have := eq_of_beq e
      omega
    have HR := Lib.hid (show decide (lowL a = lowL b) = false from decide_eq_false fun e => hl (by rw [← low_length a, ← low_length b, e]))
    generalize decide (lowL a = lowL b) = R at HR ⊢
    go_enter Tryz.func63, Tryz.ntmps63
    go_wp2
    go_ret
    exact ⟨ret_bool HR.out.symm, Below.refl _ _⟩

theorem headV_eq (key : List UInt8) (l : List PairL) (k : Nat) (hk : k < l.length) : headV key (l.drop k) = if lowL l[k].1 = lowL key then some l[k].2 else headV key (l.drop (k + 1)) := by
  rw [List.drop_eq_getElem_cons hk, headV]

end Ht
end Go.Proofs.YtdgfiebehnfpgaaGreatDoor

namespace Go.Proofs.YtdgfiebehnfpgaaGreatDoor
set_option linter.unusedVariables false
set_option maxRecDepth 4000
open Go.ChangeShapes Go.WideShapes Go.ChangeAt Go.RowKit
open Go.ChangeMaps (open_string shut_string)

namespace Ck
open Ht

def scLow : List UInt8 := [115, 101, 116, 45, 99, 111, 111, 107, 105, 101]

def scT : List UInt8 := [83, 101, 116, 45, 67, 111, 111, 107, 105, 101]

theorem scT_low : lowL scT = scLow := by decide

/-- one head taken into a jar -/
def oneA (host : List UInt8) (now : Int) (l : List CkL) (p : PairL) : List CkL :=
  if lowL p.1 = scLow then (match getSet p.2 host now with
    | some c => keepV l c now
    | none => l) else l

def allA (host : List UInt8) (now : Int) (l : List CkL) (h : List PairL) : List CkL := h.foldl (oneA host now) l

def keepAllL (host : List UInt8) (now : Int) (l : List CkL) (h : List PairL) : List CkL := if jarR l then allA host now l h else []

theorem oneA_jar (host : List UInt8) (now : Int) (l : List CkL) (p : PairL) (hj : jarR l = true) : jarR (oneA host now l p) = true := by
  unfold oneA
  split
  · split
    · rename_i c hg
      exact keepV_jar l c now hj (told_is p.2 host now c hg).1
    · exact hj
  · exact hj

theorem allA_jar (host : List UInt8) (now : Int) (h : List PairL) : ∀ l : List CkL, jarR l = true → jarR (allA host now l h) = true := by
  induction h with
  | nil => exact fun l hj => hj
  | cons p r ih => exact fun l hj => ih _ (oneA_jar host now l p hj)

theorem allA_take (host : List UInt8) (now : Int) (l : List CkL) (h : List PairL) (k : Nat) (hk : k < h.length) : allA host now l (h.take (k + 1)) = oneA host now (allA host now l (h.take k)) h[k] := by
  rw [List.take_succ_eq_append_getElem hk]
  unfold allA
  rw [List.foldl_append]
  rfl

theorem keepAllL_len (host : List UInt8) (now : Int) (l : List CkL) (h : List PairL) : (keepAllL host now l h).length ≤ 40 := by
  unfold keepAllL
  split
  · rename_i hj
    exact jarR_len (allA_jar host now h l hj)
  · exact Nat.zero_le _

theorem ckS_ok {c : CkL} (h : ckOk c = true) : CkS c := by
  unfold ckOk nmL vlL hostL at h
  simp only [Bool.and_eq_true, decide_eq_true_eq] at h
  have hp := path_len h.1.2
  unfold CkS
  omega

theorem jarR_S {l : List CkL} (h : jarR l = true) : ∀ x ∈ l, CkS x := fun x hx => ckS_ok (jarR_ok h x hx)

theorem low_sc (l : List UInt8) : ((txt (lowL l)).toList == [115, 101, 116, 45, 99, 111, 111, 107, 105, 101]) = decide (lowL l = scLow) := by
  rw [Lib.toList_data, txt_toList]
  show (lowL l == scLow) = decide (lowL l = scLow)
  rw [Bool.eq_iff_iff, beq_iff_eq, decide_eq_true_eq]

theorem ownC_form {w : World} {base : Nat} {v : Value} {l : List CkL} (h : OwnC w base v l) : ∃ a cap, v = .slice a l.length cap := by
  obtain ⟨a, cap, rfl, _⟩ := h.src.at
  exact ⟨a, cap, rfl⟩

set_option maxHeartbeats 6400000 in
theorem keepAll_spec (v vh : Value) (l : List CkL) (r : RespL) (host : ByteArray) (now : Int) (w : World) (h : JSrc w v l) (hn : l.length ≤ 1048576) (hS : ∀ x ∈ l, CkS x) (hp : PAt w vh r.h) (hpl : r.h.length ≤ 2097152) (hps : ∀ p ∈ r.h, p.1.length ≤ 1048576 ∧ p.2.length ≤ 1048576) (hh : host.size ≤ 1048576) :
    Calls Tryz.prog 18 #[v, respV r vh, .string host, .int .i64 now] w fun e w' => ∃ v', e = .returned v' ∧ OwnC w' w.heap.size v' (keepAllL host.data.toList now l r.h) ∧ Below w.heap.size w w' := by
  have JO := Lib.hid (fun wx hx => jarOk_spec v l wx hx (by omega) hS)
  have HP := Lib.hid hps
  have GS := Lib.hid (fun (p : PairL) (hp : p ∈ r.h) wx => getSet_spec (txt p.2) host now wx (by rw [txt_size]; exact (hps p hp).2) hh)
  have KP := Lib.hid (fun (L : List CkL) (c : CkL) (hj : jarR L = true) (hc : ckOk c = true) (v : Value) (wx : World) (hx : JSrc wx v L) => keep_spec v L c now wx hx (by have := jarR_len hj; omega) (jarR_S hj) (ckS_ok hc))
  obtain ⟨ah, ch, rfl⟩ := pat_form hp
  unfold respV
  have ba := Lib.hid ((Below.refl w.heap.size w).alloc (Nat.le_refl _) (.cells #[.int .i64 r.c, .slice ah r.h.length ch, .string (txt r.b)] 44))
  have g0 := Lib.hid (heap_alloc_new w (.cells #[.int .i64 r.c, .slice ah r.h.length ch, .string (txt r.b)] 44))
  have sa := Lib.hid (show (w.alloc (.cells #[.int .i64 r.c, .slice ah r.h.length ch, .string (txt r.b)] 44)).heap.size = w.heap.size + 1 by simp)
  have HJ := Lib.hid (h.below ((Below.refl w.heap.size w).alloc (Nat.le_refl _) (.cells #[.int .i64 r.c, .slice ah r.h.length ch, .string (txt r.b)] 44)))
  have OM := Lib.hid (World.ownsRow_made (w.alloc (.cells #[.int .i64 r.c, .slice ah r.h.length ch, .string (txt r.b)] 44)) #[] 0 (Nat.le_refl _) (by simp) rfl (e := 87) (size := 6))
  have ba2 := Lib.hid (ba.out.alloc (by rw [sa.out]; omega) (.cells #[] 87))
  have da2 := Lib.hid ((Below.refl (w.alloc (.cells #[.int .i64 r.c, .slice ah r.h.length ch, .string (txt r.b)] 44)).heap.size (w.alloc (.cells #[.int .i64 r.c, .slice ah r.h.length ch, .string (txt r.b)] 44))).alloc (Nat.le_refl _) (.cells #[] 87))
  have sa2 := Lib.hid (show ((w.alloc (.cells #[.int .i64 r.c, .slice ah r.h.length ch, .string (txt r.b)] 44)).alloc (.cells #[] 87)).heap.size = w.heap.size + 2 by simp)
  have K0 := Lib.hid ((da2.out.block w.heap.size (by rw [sa.out]; omega)).trans g0.out)
  have HJ2 := Lib.hid (HJ.out.below da2.out)
  have HPA := Lib.hid hp
  obtain ⟨RL, hRL⟩ : ∃ RL, RL = keepAllL host.data.toList now l r.h := ⟨_, rfl⟩
  have HRL := Lib.hid hRL
  rw [← hRL]
  have HJ0 := Lib.hid h
  clear hRL h hS ba g0 HJ da2 hps hp
  have hv : ∃ a cap, v = .slice a l.length cap := by
    obtain ⟨a, cap, rfl, _⟩ := HJ0.out.at
    exact ⟨a, cap, rfl⟩
  obtain ⟨a0, cap0, rfl⟩ := hv
  go_enter Tryz.func18, Tryz.ntmps18
  go_wp2_with fail
  refine (JO.out _ HJ2.out.at).mono ?_
  rintro e w1 ⟨rfl, b1⟩
  have s1 := b1.size
  rw [sa2.out] at s1
  have B1 := Lib.hid (bstep ba2.out b1)
  have K1 := Lib.hid ((b1.block w.heap.size (by rw [sa2.out]; omega)).trans K0.out)
  have O1 := Lib.hid (ownsRow_below OM.out b1)
  rw [sa.out] at O1
  have J1 := Lib.hid (HJ2.out.below b1)
  clear b1
  cases hj : jarR l with
  | false =>
    have HR := Lib.hid (show RL = [] by rw [HRL.out]; unfold keepAllL; rw [hj]; rfl)
    clear hj
    go_wp2
    go_ret
    exact ⟨_, rfl, by rw [HR.out]; exact (OwnC.of (l := []) O1.out).lower (by omega), B1.out⟩
  | true =>
    have HR := Lib.hid (show RL = allA host.data.toList now l r.h by rw [HRL.out]; unfold keepAllL; rw [hj]; rfl)
    have HJR := Lib.hid hj
    have hl40 := jarR_len hj
    clear hj HRL
    go_wp2_with (at_builtin; refine wpList_append_src rfl _ _ rfl (w.heap.size + 1) _ 0 [] rfl O1.out _ l rfl J1.out (by omega) (by omega) (by omega) ?_; intro v' w3 hown3 hgr3)
    have B3 := Lib.hid (B1.out.grown hgr3 (by omega) (fun j e => Nat.le_trans (Nat.le_succ _) (O1.out.lt j e).1))
    have K3 := Lib.hid ((hgr3.block w.heap.size (by omega) (fun e => by have := (O1.out.lt _ e.symm).1; omega)).trans K1.out)
    have s3 := hgr3.size
    rw [List.nil_append, Nat.zero_add] at hown3
    have O3 := Lib.hid (OwnC.of hown3)
    clear hown3 hgr3
    go_loopw [9, 10] (fun o i wr => ∃ k : Nat, k ≤ r.h.length ∧ i = .int .i64 k ∧ OwnC wr (w.heap.size + 1) o (allA host.data.toList now l (r.h.take k)) ∧ Hid (wr.heap[w.heap.size]? = some (.cells #[.int .i64 r.c, .slice ah r.h.length ch, .string (txt r.b)] 44 (0, 0))) ∧ Below w.heap.size w wr ∧ w.heap.size < wr.heap.size) (fun _ i _ => r.h.length - (intOf i).toNat)
    case atStart => exact ⟨0, by omega, rfl, by rw [List.take_zero]; exact O3.out, K3, B3.out, by omega⟩
    case round =>
      clear K3 O3 B3 K1 O1 J1 B1 K0 OM
      obtain ⟨k, hk, rfl, hown, hbox, hbel, hbz⟩ := hrel
      have hjk := allA_jar host.data.toList now (r.h.take k) l HJR.out
      by_cases hlt : k < r.h.length
      · obtain ⟨g, off, cap', hv, hg, c1, c2⟩ := PAt.cells (HPA.out.below hbel) k hlt
        simp only [Value.slice.injEq] at hv
        obtain ⟨rfl, _, rfl⟩ := hv
        have HA := Lib.hid (allA_take host.data.toList now l r.h k hlt)
        have hmem := List.getElem_mem hlt
        have hi0 : (0 : Int) ≤ (k : Int) := by omega
        have hi1 : (k : Int) < (r.h.length : Int) := by omega
        have CA := Lib.hid (fun wx => lower_spec (txt r.h[k].1) wx (by rw [txt_size]; exact (HP.out _ hmem).1))
        have CG := Lib.hid (fun wx => GS.out _ hmem wx)
        rw [txt_toList] at CA CG
        obtain ⟨x0, x1, x2, x3, x4, x5⟩ := box3 hbox.out
        have he := low_sc r.h[k].1
        have HT := Lib.hid (fun (kk : CkL) (hg : getSet r.h[k].2 host.data.toList now = some kk) => (told_is r.h[k].2 host.data.toList now kk hg).1)
        generalize hL : allA host.data.toList now l (r.h.take k) = L at hown HA hjk
        clear hL
        unfold oneA at HA
        generalize r.h[k] = p at c1 c2 CA CG he HA HT
        have KJ := Lib.hid (fun (c : CkL) (hc : ckOk c = true) => KP.out L c hjk hc)
        have HKL := Lib.hid (fun (c : CkL) (hc : ckOk c = true) => (show keepL L c now = keepV L c now by unfold keepL; rw [hjk, hc]; rfl))
        have HOWN := Lib.hid hown
        obtain ⟨aL, capL, rfl⟩ := ownC_form hown
        clear hmem hown hjk
        by_cases hs : lowL p.1 = scLow
        · rw [decide_eq_true hs] at he
          rw [if_pos hs] at HA
          clear hs
          go_wp2_with fail
          refine (CA.out _).mono ?_
          rintro e w4 ⟨rfl, b4⟩
          have y1 := (b4.cell (p := ⟨w.heap.size, 1, none⟩) hbz).trans x1
          have d2 := (b4.cell (p := ⟨g, off + k * 2 + 1, none⟩) hg).trans c2
          have s4 := b4.size
          have h4 := Lib.hid (hbel.trans (b4.mono hbel.size))
          have O4 := Lib.hid (HOWN.out.below b4)
          have K4 := Lib.hid ((b4.block w.heap.size hbz).trans hbox.out)
          clear b4 x0 x1 x2 x3 x4 x5 c1 c2
          go_wp2_with fail
          refine (CG.out _).mono ?_
          rintro e w5 ⟨rfl, b5⟩
          have s5 := b5.size
          have h5 := Lib.hid (h4.out.trans (b5.mono h4.out.size))
          have O5 := Lib.hid (O4.out.below b5)
          have K5 := Lib.hid ((b5.block w.heap.size (by omega)).trans K4.out)
          clear b5 y1 d2
          cases hgs : getSet p.2 host.data.toList now with
          | none =>
            rw [hgs] at HA
            unfold ckR ckV zeroC
            go_wp2
            exact ⟨⟨k + 1, by omega, by go_num, by rw [HA.out]; exact O5.out.below ((Below.refl w5.heap.size w5).alloc (Nat.le_refl _) _), Lib.hid ((((Below.refl w5.heap.size w5).alloc (Nat.le_refl _) _).block w.heap.size (by omega)).trans K5.out), h5.out.alloc h5.out.size _, by simp; omega⟩, by simp [intOf]; omega⟩
          | some c =>
            rw [hgs] at HA
            unfold ckR ckV
            have hc := HT.out c hgs
            have KC := Lib.hid (KJ.out c hc)
            have HKC := Lib.hid (HKL.out c hc)
            unfold ckV at KC
            have bA := Lib.hid ((Below.refl w5.heap.size w5).alloc (Nat.le_refl _) (.cells #[.string (txt c.n), .string (txt c.v), .string (txt c.d), .bool c.o, .string (txt c.p), .int .i64 c.u] 87))
            have sA : (w5.alloc (.cells #[.string (txt c.n), .string (txt c.v), .string (txt c.d), .bool c.o, .string (txt c.p), .int .i64 c.u] 87)).heap.size = w5.heap.size + 1 := by simp
            go_wp2_with fail
            refine (KC.out _ _ (O5.out.below bA.out).src).mono ?_
            rintro e w6 ⟨v6, rfl, o6, b6⟩
            have s6 := b6.size
            rw [sA] at s6
            have b56 := bstep bA.out b6
            have h6 := Lib.hid (h5.out.trans (b56.mono h5.out.size))
            have K6 := Lib.hid ((b56.block w.heap.size (by omega)).trans K5.out)
            rw [HKC.out] at o6
            have O6 := Lib.hid (o6.lower (show w.heap.size + 1 ≤ _ by omega))
            clear o6 b6 b56
            go_wp2
            exact ⟨⟨k + 1, by omega, by go_num, by rw [HA.out]; exact O6.out, K6, h6.out, by omega⟩, by simp [intOf]; omega⟩
        · rw [decide_eq_false hs] at he
          rw [if_neg hs] at HA
          clear hs
          go_wp2_with fail
          refine (CA.out _).mono ?_
          rintro e w4 ⟨rfl, b4⟩
          have h4 := Lib.hid (hbel.trans (b4.mono hbel.size))
          have O4 := Lib.hid (HOWN.out.below b4)
          have K4 := Lib.hid ((b4.block w.heap.size hbz).trans hbox.out)
          have s4 := b4.size
          go_wp2
          go_roundw
          case rel => exact ⟨k + 1, by omega, by go_num, by rw [HA.out]; exact O4.out, K4, h4.out, by omega⟩
          case measure => simp [intOf]; omega
      · have he : r.h.take k = r.h := List.take_of_length_le (by omega)
        rw [he] at hown
        obtain ⟨x0, x1, x2, x3, x4, x5⟩ := box3 hbox.out
        have HOWN := Lib.hid hown
        obtain ⟨aL, capL, rfl⟩ := ownC_form hown
        clear hown
        go_wp2
        go_ret
        exact ⟨_, rfl, by rw [HR.out]; exact HOWN.out.lower (by omega), hbel⟩

set_option maxHeartbeats 6400000 in
theorem keepAll_impl (v vh : Value) (l : List CkL) (r : RespL) (host : ByteArray) (now : Int) (w : World) (h : JSrc w v l) (hn : l.length ≤ 1048576) (hS : ∀ x ∈ l, CkS x) (hp : PAt w vh r.h) (hpl : r.h.length ≤ 2097152) (hps : ∀ p ∈ r.h, p.1.length ≤ 1048576 ∧ p.2.length ≤ 1048576) (hh : host.size ≤ 1048576) (hN : Nm w) :
    Calls Tryz.prog 21 #[v, respV r vh, .string host, .int .i64 now] w fun e w' => ∃ v', e = .returned v' ∧ OwnC w' w.heap.size v' (keepAllL host.data.toList now l r.h) ∧ Below w.heap.size w w' := by
  have JO := Lib.hid (fun wx hx => jarOk_impl v l wx hx (by omega) hS)
  have CL := Lib.hid (fun wx hx => clone_call v l wx hx (by omega))
  have HNm := Lib.hid hN
  have HP := Lib.hid hps
  have GS := Lib.hid (fun (p : PairL) (hp : p ∈ r.h) wx hx => getSet_impl (txt p.2) host now wx (by rw [txt_size]; exact (hps p hp).2) hh hx)
  have KP := Lib.hid (fun (L : List CkL) (c : CkL) (hj : jarR L = true) (hc : ckOk c = true) (v : Value) (wx : World) (hx : JSrc wx v L) => keepValid_call v L c now wx hx (by have := jarR_len hj; omega) (jarR_S hj) (ckS_ok hc) (jarR_nodup hj))
  obtain ⟨ah, ch, rfl⟩ := pat_form hp
  unfold respV
  have ba := Lib.hid ((Below.refl w.heap.size w).alloc (Nat.le_refl _) (.cells #[.int .i64 r.c, .slice ah r.h.length ch, .string (txt r.b)] 44))
  have g0 := Lib.hid (heap_alloc_new w (.cells #[.int .i64 r.c, .slice ah r.h.length ch, .string (txt r.b)] 44))
  have sa := Lib.hid (show (w.alloc (.cells #[.int .i64 r.c, .slice ah r.h.length ch, .string (txt r.b)] 44)).heap.size = w.heap.size + 1 by simp)
  have HJ := Lib.hid (h.below ((Below.refl w.heap.size w).alloc (Nat.le_refl _) (.cells #[.int .i64 r.c, .slice ah r.h.length ch, .string (txt r.b)] 44)))
  have HPA := Lib.hid hp
  obtain ⟨RL, hRL⟩ : ∃ RL, RL = keepAllL host.data.toList now l r.h := ⟨_, rfl⟩
  have HRL := Lib.hid hRL
  rw [← hRL]
  have HJ0 := Lib.hid h
  clear hRL h hS hps hp hN
  have hv : ∃ a cap, v = .slice a l.length cap := by
    obtain ⟨a, cap, rfl, _⟩ := HJ0.out.at
    exact ⟨a, cap, rfl⟩
  obtain ⟨a0, cap0, rfl⟩ := hv
  go_enter Tryz.func21, Tryz.ntmps21
  go_wp2_with fail
  refine (JO.out _ HJ.out.at).mono ?_
  rintro e w1 ⟨rfl, b1⟩
  have s1 := b1.size
  rw [sa.out] at s1
  have B1 := Lib.hid (bstep ba.out b1)
  have K1 := Lib.hid ((b1.block w.heap.size (by rw [sa.out]; omega)).trans g0.out)
  have J1 := Lib.hid (HJ.out.below b1)
  clear b1 ba g0 HJ
  cases hj : jarR l with
  | false =>
    have HR := Lib.hid (show RL = [] by rw [HRL.out]; unfold keepAllL; rw [hj]; rfl)
    clear hj
    go_wp2
    go_ret
    exact ⟨_, rfl, by rw [HR.out]; exact .inl ⟨rfl, rfl⟩, B1.out⟩
  | true =>
    have HR := Lib.hid (show RL = allA host.data.toList now l r.h by rw [HRL.out]; unfold keepAllL; rw [hj]; rfl)
    have HJR := Lib.hid hj
    have hl40 := jarR_len hj
    clear hj HRL
    go_wp2_with fail
    refine (CL.out _ J1.out).mono ?_
    rintro e w3 ⟨v3, rfl, o3, b3⟩
    have s3 := b3.size
    have B3 := Lib.hid (bstep B1.out b3)
    have K3 := Lib.hid ((b3.block w.heap.size (by omega)).trans K1.out)
    have O3 := Lib.hid ((OwnC.of o3).lower (show w.heap.size + 1 ≤ w1.heap.size by omega))
    obtain ⟨x0, x1, x2, x3, x4, x5⟩ := box3 K3.out
    clear o3 b3
    go_wp2
    go_loopw [9, 22] (fun o i wr => ∃ k : Nat, k ≤ r.h.length ∧ i = .int .i64 k ∧ OwnC wr (w.heap.size + 1) o (allA host.data.toList now l (r.h.take k)) ∧ Hid (wr.heap[w.heap.size]? = some (.cells #[.int .i64 r.c, .slice ah r.h.length ch, .string (txt r.b)] 44 (0, 0))) ∧ Below w.heap.size w wr ∧ w.heap.size < wr.heap.size) (fun _ i _ => r.h.length - (intOf i).toNat)
    case atStart => exact ⟨0, by omega, rfl, by rw [List.take_zero]; exact O3.out, K3, B3.out, by omega⟩
    case round =>
      clear K3 O3 B3 K1 J1 B1 x0 x1 x2 x3 x4 x5
      obtain ⟨k, hk, rfl, hown, hbox, hbel, hbz⟩ := hrel
      have hjk := allA_jar host.data.toList now (r.h.take k) l HJR.out
      by_cases hlt : k < r.h.length
      · obtain ⟨g, off, cap', hv, hg, c1, c2⟩ := PAt.cells (HPA.out.below hbel) k hlt
        simp only [Value.slice.injEq] at hv
        obtain ⟨rfl, _, rfl⟩ := hv
        have HA := Lib.hid (allA_take host.data.toList now l r.h k hlt)
        have hmem := List.getElem_mem hlt
        have hi0 : (0 : Int) ≤ (k : Int) := by omega
        have hi1 : (k : Int) < (r.h.length : Int) := by omega
        have CS := Lib.hid (fun wx => sameHead_call r.h[k].1 scT wx (HP.out _ hmem).1 (by decide))
        have CG := Lib.hid (fun wx hx => GS.out _ hmem wx hx)
        rw [txt_toList] at CG
        rw [scT_low] at CS
        change Hid (∀ wx : World, Calls Tryz.prog 63 #[.string (txt r.h[k].1), .string ⟨#[83, 101, 116, 45, 67, 111, 111, 107, 105, 101]⟩] wx _) at CS
        have HT := Lib.hid (fun (kk : CkL) (hg : getSet r.h[k].2 host.data.toList now = some kk) => (told_is r.h[k].2 host.data.toList now kk hg).1)
        generalize hL : allA host.data.toList now l (r.h.take k) = L at hown HA hjk
        clear hL
        unfold oneA at HA
        generalize r.h[k] = p at c1 c2 CS CG HA HT
        have KJ := Lib.hid (fun (c : CkL) (hc : ckOk c = true) => KP.out L c hjk hc)
        have HOWN := Lib.hid hown
        obtain ⟨aL, capL, rfl⟩ := ownC_form hown
        have ha := Lib.hid (hbel.alloc hbel.size (.cells #[.string (txt p.1), .string (txt p.2)] 86))
        have hb := Lib.hid ((Below.refl wr.heap.size wr).alloc (Nat.le_refl _) (.cells #[.string (txt p.1), .string (txt p.2)] 86))
        have sp : (wr.alloc (.cells #[.string (txt p.1), .string (txt p.2)] 86)).heap.size = wr.heap.size + 1 := by simp
        have z2 := (by simp : (wr.alloc (.cells #[.string (txt p.1), .string (txt p.2)] 86)).cell? ⟨wr.heap.size, 1, none⟩ = some (.string (txt p.2)))
        clear hmem hown hjk
        by_cases hs : lowL p.1 = scLow
        · rw [decide_eq_true hs] at CS
          rw [if_pos hs] at HA
          clear hs
          go_wp2_with fail
          refine (CS.out _).mono ?_
          rintro e w4 ⟨rfl, b4⟩
          have y2 := (b4.cell (p := ⟨wr.heap.size, 1, none⟩) (by simp)).trans z2
          have s4 := b4.size
          rw [sp] at s4
          have h4 := Lib.hid (ha.out.trans (b4.mono ha.out.size))
          have O4 := Lib.hid ((HOWN.out.below hb.out).below b4)
          have K4 := Lib.hid (((bstep hb.out b4).block w.heap.size hbz).trans hbox.out)
          clear b4 c1 c2 z2
          go_wp2_with fail
          refine (CG.out _ (nm_below HNm.out h4.out)).mono ?_
          rintro e w5 ⟨rfl, b5⟩
          have s5 := b5.size
          have h5 := Lib.hid (h4.out.trans (b5.mono h4.out.size))
          have O5 := Lib.hid (O4.out.below b5)
          have K5 := Lib.hid ((b5.block w.heap.size (by omega)).trans K4.out)
          clear b5 y2
          cases hgs : getSet p.2 host.data.toList now with
          | none =>
            rw [hgs] at HA
            unfold ckR ckV zeroC
            go_wp2
            exact ⟨⟨k + 1, by omega, by go_num, by rw [HA.out]; exact O5.out.below ((Below.refl w5.heap.size w5).alloc (Nat.le_refl _) _), Lib.hid ((((Below.refl w5.heap.size w5).alloc (Nat.le_refl _) _).block w.heap.size (by omega)).trans K5.out), h5.out.alloc h5.out.size _, by simp; omega⟩, by simp [intOf]; omega⟩
          | some c =>
            rw [hgs] at HA
            unfold ckR ckV
            have hc := HT.out c hgs
            have KC := Lib.hid (KJ.out c hc)
            unfold ckV at KC
            have bA := Lib.hid ((Below.refl w5.heap.size w5).alloc (Nat.le_refl _) (.cells #[.string (txt c.n), .string (txt c.v), .string (txt c.d), .bool c.o, .string (txt c.p), .int .i64 c.u] 87))
            have sA : (w5.alloc (.cells #[.string (txt c.n), .string (txt c.v), .string (txt c.d), .bool c.o, .string (txt c.p), .int .i64 c.u] 87)).heap.size = w5.heap.size + 1 := by simp
            go_wp2_with fail
            refine (KC.out _ _ (O5.out.below bA.out).src).mono ?_
            rintro e w6 ⟨v6, rfl, o6, b6⟩
            have s6 := b6.size
            rw [sA] at s6
            have b56 := bstep bA.out b6
            have h6 := Lib.hid (h5.out.trans (b56.mono h5.out.size))
            have K6 := Lib.hid ((b56.block w.heap.size (by omega)).trans K5.out)
            have O6 := Lib.hid (o6.lower (show w.heap.size + 1 ≤ _ by omega))
            clear o6 b6 b56
            go_wp2
            exact ⟨⟨k + 1, by omega, by go_num, by rw [HA.out]; exact O6.out, K6, h6.out, by omega⟩, by simp [intOf]; omega⟩
        · rw [decide_eq_false hs] at CS
          rw [if_neg hs] at HA
          clear hs
          go_wp2_with fail
          refine (CS.out _).mono ?_
          rintro e w4 ⟨rfl, b4⟩
          have s4 := b4.size
          rw [sp] at s4
          have h4 := Lib.hid (ha.out.trans (b4.mono ha.out.size))
          have O4 := Lib.hid ((HOWN.out.below hb.out).below b4)
          have K4 := Lib.hid (((bstep hb.out b4).block w.heap.size hbz).trans hbox.out)
          go_wp2
          go_roundw
          case rel => exact ⟨k + 1, by omega, by go_num, by rw [HA.out]; exact O4.out, K4, h4.out, by omega⟩
          case measure => simp [intOf]; omega
      · have he : r.h.take k = r.h := List.take_of_length_le (by omega)
        rw [he] at hown
        have HOWN := Lib.hid hown
        obtain ⟨aL, capL, rfl⟩ := ownC_form hown
        clear hown
        go_wp2
        go_ret
        exact ⟨_, rfl, by rw [HR.out]; exact HOWN.out.lower (by omega), hbel⟩

end Ck
end Go.Proofs.YtdgfiebehnfpgaaGreatDoor
