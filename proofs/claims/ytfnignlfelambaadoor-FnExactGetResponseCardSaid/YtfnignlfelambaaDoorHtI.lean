/- CONTRACTS of the program's reading: cutMessage, readRequestLine, readTarget, readHeads. -/
import Derived.Test.YtfnignlfelambaaDoorHtGS
import Derived.Test.YtfnignlfelambaaDoorHtIn
import Derived.Test.YtfnignlfelambaaDoorGetI
import Derived.Shelf.Strings.SlTrimAscii
namespace Go.Proofs.YtfnignlfelambaaDoor
set_option linter.unusedVariables false
set_option maxRecDepth 4000
open Go.ChangeShapes Go.WideShapes Go.ChangeAt Go.RowKit
open Go.ChangeMaps (open_string shut_string)

namespace Ht

theorem cut_len (r : List UInt8) (h : (Lib.cut r [13, 10]).2.2 = true) : (Lib.cut r [13, 10]).1.length + 2 + (Lib.cut r [13, 10]).2.1.length = r.length := by
  unfold Lib.cut at h ⊢
  by_cases h0 : 0 ≤ Lib.index r [13, 10]
  · rw [if_pos h0]
    have := Lib.index_room r [13, 10] h0
    simp at this ⊢
    omega
  · rw [if_neg h0] at h
    cases h

/-- what cutMessage hands back -/
def CutP (base : Nat) (e : Ending) (w : World) : Option (List (List UInt8) × List UInt8) → Prop
  | some (ls, b) => ∃ v, e = .returned (.tuple #[v, .string (txt b), .bool (decide (0 < ls.length))]) ∧ w.ownsRow base 9 1 v ls.length (strs ls)
  | none => e = .returned (.tuple #[.slice none 0 0, .string ⟨#[]⟩, .bool false])

set_option maxHeartbeats 3200000 in
theorem cutMsg_call (s : List UInt8) (w : World) (hs : s.length ≤ 1048576) (hm : HM w) :
    Calls Tryd.prog 56 #[.string (txt s)] w fun e w' => CutP w.heap.size e w' (scanL s) ∧ Below w.heap.size w w' := by
  obtain ⟨i0, hi, hz0, hz1, hz2⟩ := info_parts Tryd.info9
  have HMM := Lib.hid hm
  have HR := Lib.hid (show scanL s = scanA [] [] s from rfl)
  generalize scanL s = R at HR ⊢
  clear hm
  go_enter Tryd.func56, Tryd.ntmps56
  go_wp2
  go_loopw [0, 5] (fun sv v wr => ∃ (acc : List (List UInt8)) (r : List UInt8), r.length + acc.length ≤ 1048576 ∧ sv = .string (txt r) ∧ Hid (R = scanA acc [] r) ∧ wr.ownsRow w.heap.size 9 1 v acc.length (strs acc) ∧ Below w.heap.size w wr) (fun sv _ _ => Lib.strSize sv)
  case atStart => exact ⟨[], s, by simpa using hs, rfl, HR, World.ownsRow_nil _ _ _ _, Below.refl _ _⟩
  case round =>
    obtain ⟨acc, r, hra, rfl, hr, hrow, hbel⟩ := hrel
    have hbs := hbel.size
    have hr2 := hr.out
    rw [scan_cut] at hr2
    have hcl := cut_len r
    obtain ⟨m, hmm⟩ := HM.below HMM.out hbel
    have C := Lib.hid (Tryd.strings_Cut (txt r) (txt [13, 10]) m wr (by rw [txt_size]; omega) hmm)
    simp only [txt_toList] at C
    have HR2 := Lib.hid hr2
    clear hr2 hr hmm
    change Hid (Calls Tryd.prog 99 #[.string (txt r), .string ⟨#[13, 10]⟩] wr fun e w' => e = .returned (.tuple #[.string (txt (Lib.cut r [13, 10]).1), .string (txt (Lib.cut r [13, 10]).2.1), .bool (Lib.cut r [13, 10]).2.2]) ∧ ∃ n, w' = wr.drewN n) at C
    generalize Lib.cut r [13, 10] = CR at C HR2 hcl
    obtain ⟨x, rest, found⟩ := CR
    simp only at C HR2 hcl
    go_wp2_with fail
    refine C.out.mono ?_
    rintro e w1 ⟨rfl, nn, rfl⟩
    have hrow1 : (wr.drewN nn).ownsRow w.heap.size 9 1 u5 acc.length (strs acc) := hrow
    have hbel1 := below_drewN hbel nn
    have hbs1 : w.heap.size ≤ (wr.drewN nn).heap.size := hbs
    generalize wr.drewN nn = w1 at hrow1 hbel1 hbs1 ⊢
    clear C hrow hbel hbs
    cases found with
    | false =>
      have HR3 := Lib.hid (show R = none by rw [HR2.out]; rfl)
      clear hcl
      go_wp2
      go_ret3
      exact ⟨by rw [HR3.out]; rfl, hbel1⟩
    | true =>
      have hl := hcl rfl
      clear hcl
      by_cases hx : x = []
      · have HR3 := Lib.hid (show R = some (acc, rest) by rw [HR2.out, if_pos rfl, if_pos (by rw [hx]; rfl)])
        have hxt : (txt x).toList.isEmpty = true := by rw [hx, Lib.toList_data, txt_toList]; rfl
        clear hx
        obtain ⟨a5, cap5, rfl⟩ := own_val hrow1
        go_wp2
        go_ret3
        exact ⟨by rw [HR3.out]; exact ⟨_, by simp, hrow1⟩, hbel1⟩
      · have HR3 := Lib.hid (show R = scanA (acc ++ [x]) [] rest by rw [HR2.out, if_pos rfl, if_neg (by simpa using hx)]; rfl)
        have hxt := txt_ne x hx
        have hxl : 1 ≤ x.length := List.length_pos_iff.2 hx
        clear hx
        go_wp2_with (at_builtin; (refine wpList_append_lies _ rfl _ _ _ rfl w.heap.size 9 i0 _ 1 16 Tryd.underlying69 hi hz0 hz1 hz2 rfl (by omega) u5 acc.length _ rfl (hrow1.alloc _) ⟨w1.heap.size, 0, none⟩ 1 1 [.string (txt x)] rfl rfl (World.news_of_block (cs := #[.string (txt x)]) (t := 9) (fr := (0, 0)) (heap_alloc_new w1 _)) (by simp [Value.oneCell']) (by omega) (by unfold maxLen; omega) (by omega) (by simp; omega) (w1.heap.size + 1) (by simp) ?_; intro g2 cap2 w2 hown2 hgrow2 hat2 hlt2))
        have b2 : Below w.heap.size w w2 := (hbel1.alloc hbs1 _).grown hgrow2 (by simp; omega) (fun j e => (hrow1.lt j e).1)
        exact ⟨⟨acc ++ [x], rest, by rw [List.length_append]; simp; omega, rfl, HR3, by rw [strs_append, List.length_append]; exact hown2, b2⟩, by simp [Lib.strSize, txt_size]; omega⟩

def lineV : Option (List UInt8 × List UInt8) → Value
  | some (m, t) => .tuple #[.string (txt m), .string (txt t), .bool true]
  | none => .tuple #[.string ⟨#[]⟩, .string ⟨#[]⟩, .bool false]

theorem own_base2 {w : World} {b b' : Nat} {e : TypeId} {size : Nat} {v : Value} {n : Nat} {xs : List Value} (h : w.ownsRow b e size v n xs) (hb : b' ≤ b) : w.ownsRow b' e size v n xs := by
  refine ⟨h.1, ?_⟩
  rcases h.2 with h0 | ⟨g, cap, cur, hv, hg, rest⟩
  · exact .inl h0
  · exact .inr ⟨g, cap, cur, hv, Nat.le_trans hb hg, rest⟩

/-- what readTarget hands back -/
def TarP (base : Nat) (e : Ending) (w : World) : Option (List UInt8 × List PairL) → Prop
  | some (p, q) => ∃ a cap cap' e', e = .returned (.tuple #[.string (txt p), .slice a q.length cap, .bool true]) ∧ w.ownsRow base e' 2 (.slice a q.length cap') q.length (pcells q)
  | none => e = .returned (.tuple #[.string ⟨#[]⟩, .slice none 0 0, .bool false])

theorem cutR_target (t : List UInt8) : ∃ b, cutR t (cutL 63 t) = .tuple #[.string (txt (targetOf t).1), .string (txt (targetOf t).2), .bool b] ∧ (targetOf t).1.length ≤ t.length ∧ (targetOf t).2.length ≤ t.length := by
  unfold targetOf
  cases h : cutL 63 t with
  | none => exact ⟨false, rfl, Nat.le_refl _, Nat.zero_le _⟩
  | some x =>
    obtain ⟨l1, l2⟩ := cutL_len 63 t x.1 x.2 h
    exact ⟨true, rfl, l1, l2⟩

theorem trim_call (s : List UInt8) (w : World) (hs : s.length ≤ 1048576) :
    Calls Tryd.prog 101 #[.string (txt s), .string ⟨#[32, 9]⟩] w fun e w' => e = .returned (.string (txt (trimL s))) ∧ Below w.heap.size w w' := by
  have h := Any.strings_Trim_laid Tryd.lays160 (by kernel_rfl) (txt s) ⟨#[32, 9]⟩ w (by rw [txt_size]; omega) (by decide) (ascii_of_all (by decide))
  rw [txt_toList] at h
  exact h

set_option maxHeartbeats 3200000 in
theorem readHeads_call (v : Value) (ls : List (List UInt8)) (w : World) (h : TAt w v ls) (hn : ls.length ≤ 1048576) (hm : ∀ x ∈ ls, x.length ≤ 1048576) :
    Calls Tryd.prog 58 #[v] w fun e w' => (∃ v', e = .returned (.tuple #[v', .int .i64 (lenOf (takeA [] none ls).2.1), .bool ((takeA [] none ls).2.2 && headsL (takeA [] none ls).1)]) ∧ w'.ownsRow w.heap.size 71 2 v' (takeA [] none ls).1.length (pcells (takeA [] none ls).1)) ∧ Below w.heap.size w w' := by
  obtain ⟨i0, hi, hz0, hz1, hz2⟩ := info_parts pair_info
  have HF := Lib.hid h
  have HM := Lib.hid hm
  have HPT := Lib.hid (take_parts 1048576 ls [] none hm (fun p hp => by cases hp) (Nat.zero_le _)).1
  have HLT := Lib.hid (takeA_len ls [] none)
  obtain ⟨a, cap, rfl, _⟩ := h
  have HR := Lib.hid (show takeA [] none ls = takeA [] none (ls.drop 0) by rw [List.drop_zero])
  generalize takeA [] none ls = R at HR HPT HLT ⊢
  clear hm
  go_enter Tryd.func58, Tryd.ntmps58
  go_wp2
  go_step3
  go_wp2
  go_step3
  go_wp2
  go_loopw [5, 6, 7, 8, 16] (fun v x t wv i wr => ∃ (hs : List PairL) (tt : Option (List UInt8)) (k : Nat), k ≤ ls.length ∧ hs.length ≤ k ∧ i = .int .i64 k ∧ wv = .bool true ∧ x = .int .i64 (lenOf tt) ∧ t = .bool tt.isSome ∧ Hid (R = takeA hs tt (ls.drop k)) ∧ wr.ownsRow w.heap.size 71 2 v hs.length (pcells hs) ∧ Below w.heap.size w wr) (fun _ _ _ _ i _ => ls.length - (intOf i).toNat)
  case atStart => exact ⟨[], none, 0, by omega, by simp, rfl, rfl, rfl, rfl, HR, World.ownsRow_nil _ _ _ _, Below.refl _ _⟩
  case round =>
    obtain ⟨hs, tt, k, hk, hhk, rfl, rfl, rfl, rfl, hr, hrow, hbel⟩ := hrel
    have hbs := hbel.size
    by_cases hlt : k < ls.length
    · obtain ⟨g, off, cap', hv, _, hg, c1⟩ := tat_cell (tat_below HF.out hbel) k hlt
      simp only [Value.slice.injEq] at hv
      obtain ⟨rfl, _, rfl⟩ := hv
      have hm := HM.out ls[k] (List.getElem_mem hlt)
      have hr2 := hr.out
      rw [List.drop_eq_getElem_cons hlt, takeA] at hr2
      have HR2 := Lib.hid hr2
      clear hr2 hr
      generalize ls[k] = y at c1 hm HR2
      have hi0 : (0 : Int) ≤ (k : Int) := by omega
      have hi1 : (k : Int) < (ls.length : Int) := by omega
      have C := Lib.hid (fun wx => cut_impl_l y 58 wx hm)
      obtain ⟨ka, vb, ok, hcr, l1, l2, hcc⟩ := cutR_form 58 y
      rw [hcr] at C
      have TR := Lib.hid (fun wx => trim_call vb wx (by omega))
      clear hcr
      go_wp2_with fail
      refine (C.out _).mono ?_
      rintro e w1 ⟨rfl, b1⟩
      have hrow1 := ownsRow_below hrow b1
      have hbel1 := hbel.trans (b1.mono hbs)
      have hbs1 := hbel1.size
      clear C c1 hrow b1
      go_wp2_with fail
      refine (TR.out _).mono ?_
      rintro e w2 ⟨rfl, b2⟩
      have hrow2 := ownsRow_below hrow1 b2
      have hbel2 := hbel1.trans (b2.mono hbs1)
      have hbs2 := hbel2.size
      have trl := trimL_len vb
      clear TR hrow1 b2
      rcases hcc with ⟨rfl, hc⟩ | ⟨rfl, hc⟩
      · have hr3 := HR2.out
        rw [hc] at hr3
        have HR3 := Lib.hid (show R = if isLen ka = true then takeA hs (some (tt.getD (trimL vb))) (ls.drop (k + 1)) else takeA (hs ++ [(ka, trimL vb)]) tt (ls.drop (k + 1)) from hr3)
        have SH := Lib.hid (fun wx => sameHead_call ka lenT wx (by omega) (by decide))
        rw [lenT_low] at SH
        have hil : decide (lowL ka = lenLow) = isLen ka := by
          unfold isLen
          rw [Bool.eq_iff_iff, decide_eq_true_eq, beq_iff_eq]
        rw [hil] at SH
        change Hid (∀ wx : World, Calls Tryd.prog 55 #[.string (txt ka), .string ⟨#[67, 111, 110, 116, 101, 110, 116, 45, 76, 101, 110, 103, 116, 104]⟩] wx fun e w' => e = .returned (.bool (isLen ka)) ∧ Below wx.heap.size wx w') at SH
        have RD := Lib.hid (fun wx => readdec_impl (txt (trimL vb)) wx (by rw [txt_size]; omega))
        rw [txt_toList] at RD
        generalize trimL vb = tr at HR3 trl RD ⊢
        clear hr3 hc HR2 hil
        go_wp2_with fail
        refine (SH.out _).mono ?_
        rintro e w3 ⟨rfl, b3⟩
        have hrow3 := ownsRow_below hrow2 b3
        have hbel3 := hbel2.trans (b3.mono hbs2)
        have hbs3 := hbel3.size
        clear SH hrow2 b3
        by_cases hl : isLen ka = true
        · have hr4 := HR3.out
          rw [if_pos hl] at hr4
          have HR4 := Lib.hid hr4
          rw [hl]
          clear hr4 hl HR3
          cases tt with
          | none =>
            have HR5 := Lib.hid (show R = takeA hs (some tr) (ls.drop (k + 1)) from HR4.out)
            have HLO := Lib.hid (show lenOf (some tr) = rdV tr from rfl)
            have hsome : (none : Option (List UInt8)).isSome = false := rfl
            rw [hsome]
            clear hsome
            go_wp2_with fail
            refine (RD.out _).mono ?_
            rintro e w4 ⟨rfl, b4⟩
            have hrow4 := ownsRow_below hrow3 b4
            have hbel4 := hbel3.trans (b4.mono hbs3)
            clear hrow3 b4
            go_wp2
            exact ⟨⟨hs, some tr, k + 1, by omega, by omega, by go_num, rfl, rfl, rfl, HR5, hrow4, hbel4⟩, by simp [intOf]; omega⟩
          | some u =>
            have HR5 := Lib.hid (show R = takeA hs (some u) (ls.drop (k + 1)) from HR4.out)
            have hsome : (some u).isSome = true := rfl
            rw [hsome]
            clear hsome RD
            go_wp2
            exact ⟨⟨hs, some u, k + 1, by omega, by omega, by go_num, rfl, rfl, rfl, HR5, hrow3, hbel3⟩, by simp [intOf]; omega⟩
        · have hr4 := HR3.out
          rw [if_neg hl] at hr4
          have HR4 := Lib.hid hr4
          rw [Bool.not_eq_true] at hl
          rw [hl]
          clear hr4 hl HR3 RD
          go_wp2_with (at_builtin; (refine wpList_append_lies _ rfl _ _ _ rfl w.heap.size 71 i0 _ 2 32 Tryd.underlying24 hi hz0 hz1 hz2 rfl (by omega) u5 hs.length _ rfl (hrow3.alloc _) ⟨w3.heap.size, 0, none⟩ 1 1 [.string (txt ka), .string (txt tr)] rfl rfl (World.news_of_block (cs := #[.string (txt ka), .string (txt tr)]) (t := 71) (fr := (0, 0)) (heap_alloc_new w3 _)) (by simp [Value.oneCell']) (by omega) (by unfold maxLen; omega) (by omega) (by simp; omega) (w3.heap.size + 1) (by simp) ?_; intro g2 cap2 w4 hown2 hgrow2 hat2 hlt2))
          have b4 : Below w.heap.size w w4 := (hbel3.alloc hbs3 _).grown hgrow2 (by simp; omega) (fun j e => (hrow3.lt j e).1)
          exact ⟨⟨hs ++ [(ka, tr)], tt, k + 1, by omega, by rw [List.length_append]; simp; omega, by go_num, rfl, rfl, rfl, HR4, by rw [pcells_append, List.length_append]; exact hown2, b4⟩, by simp [intOf]; omega⟩
      · have hr3 := HR2.out
        rw [hc] at hr3
        have HR3 := Lib.hid (show R = (hs, tt, false) from hr3)
        clear hr3 hc HR2
        go_wp2
        (try rw [Exit.noGoto_ret])
        go_ret3
        exact ⟨by rw [HR3.out]; exact ⟨_, rfl, hrow2⟩, hbel2⟩
    · have hr2 := hr.out
      rw [List.drop_eq_nil_of_le (by omega)] at hr2
      have HR2 := Lib.hid (show R = (hs, tt, true) from hr2)
      have hpt := HPT.out
      have hlt2 := HLT.out
      rw [HR2.out] at hpt hlt2
      have HH := Lib.hid (headsOk_call u5 hs wr (PAt.own hrow) ⟨by simp at hlt2; omega, fun p hp => by have := hpt p hp; omega⟩)
      clear hr2 hr hpt hlt2
      go_wp2_with fail
      refine HH.out.mono ?_
      rintro e w1 ⟨rfl, b1⟩
      go_wp2
      (try rw [Exit.noGoto_ret])
      go_ret3
      exact ⟨by rw [HR2.out]; exact ⟨_, rfl, ownsRow_below hrow b1⟩, hbel.trans (b1.mono hbs)⟩

end Ht
end Go.Proofs.YtfnignlfelambaaDoor
