/- CONTRACTS of the model's l05Trim, l05Take, l05Body. -/
import Derived.Test.YtdgfiebehnfpgaaGreatDoorHtLn
import Derived.Laws.AppendOwn
import Derived.Deep.AppendLies
namespace Go.Proofs.YtdgfiebehnfpgaaGreatDoor
set_option linter.unusedVariables false
set_option maxRecDepth 4000
open Go.ChangeShapes Go.WideShapes Go.ChangeAt Go.RowKit
open Go.ChangeMaps (open_string shut_string)

namespace Ht

theorem blank_set (c : UInt8) : ([32, 9] : List UInt8).contains c = blank c := by
  simp only [List.contains, List.elem, blank]
  cases (c == 32) <;> cases (c == 9) <;> rfl

theorem trim_at (s : ByteArray) (a b : Nat) (hab : a ≤ b) (hb : b ≤ s.size) (h1 : ∀ j (h : j < s.size), j < a → blank s[j] = true) (h2 : ∀ j (h : j < s.size), b ≤ j → blank s[j] = true)
    (h3 : ∀ (h : a < b), blank (s[a]'(by omega)) = false ∧ blank (s[b - 1]'(by omega)) = false) : trimL s.data.toList = seg s a b := by
  have hat : ∀ j c, s.data.toList[j]? = some c → ∃ h : j < s.size, c = s[j] := fun j c hc => by
    obtain ⟨h, e⟩ := List.getElem?_eq_some_iff.1 hc
    rw [data_length] at h
    exact ⟨h, e.symm⟩
  by_cases h : a < b
  · obtain ⟨q1, q2⟩ := h3 h
    have e1 : Lib.trimRightS s.data.toList [32, 9] = s.data.toList.take b := Lib.trimRightS_take _ _ b (by rw [data_length]; exact hb)
      (fun j c hj hc => by obtain ⟨hx, rfl⟩ := hat j c hc; rw [blank_set]; exact h2 j hx hj)
      (fun c _ hc => by obtain ⟨hx, rfl⟩ := hat _ c hc; rw [blank_set]; exact q2)
    unfold trimL Lib.trimS
    rw [e1, Lib.trimLeftS_drop _ _ a (by rw [List.length_take, data_length]; omega) (fun j c hj hc => ?_) (fun c hc => ?_)]
    · rfl
    · rw [List.getElem?_take_of_lt (by omega)] at hc
      obtain ⟨hx, rfl⟩ := hat j c hc
      rw [blank_set]
      exact h1 j hx hj
    · rw [List.getElem?_take_of_lt h] at hc
      obtain ⟨hx, rfl⟩ := hat a c hc
      rw [blank_set]
      exact q1
  · obtain rfl : a = b := by omega
    have e1 : Lib.trimRightS s.data.toList [32, 9] = s.data.toList.take 0 := Lib.trimRightS_take _ _ 0 (by omega)
      (fun j c _ hc => by
        obtain ⟨hx, rfl⟩ := hat j c hc
        rw [blank_set]
        by_cases hja : j < a
        · exact h1 j hx hja
        · exact h2 j hx (by omega))
      (fun c hc _ => by omega)
    unfold trimL Lib.trimS
    rw [e1, List.take_zero, seg_nil]
    rfl

set_option maxHeartbeats 1600000 in
theorem trim_spec (s : ByteArray) (w : World) (hs : s.size ≤ 1048576) :
    Calls Tryz.prog 96 #[.string s] w fun e w' => e = .returned (.string (txt (trimL s.data.toList))) ∧ w = w' := by
  have HT := Lib.hid (trim_at s)
  generalize trimL s.data.toList = R at HT ⊢
  go_enter Tryz.func96, Tryz.ntmps96
  go_wp2
  go_loopw [3] (fun i wr => ∃ k : Nat, k ≤ s.size ∧ i = .int .i64 k ∧ Hid (∀ j (h : j < s.size), j < k → blank s[j] = true) ∧ w = wr) (fun i _ => s.size - (intOf i).toNat)
  case atStart => exact ⟨0, by omega, rfl, Lib.hid (fun j _ h => by omega), rfl⟩
  case round =>
    obtain ⟨k, hk, rfl, h1, rfl⟩ := hrel
    by_cases hlt : k < s.size
    · have h256 : s[k].toNat < 256 := s[k].toNat_lt
      have hi0 : (0 : Int) ≤ (k : Int) := by omega
      have hi1 : (k : Int) < (s.size : Int) := by omega
      go_wp2_with fail
      refine (blank_call _ _).mono ?_
      rintro e w1 ⟨rfl, rfl⟩
      cases hbl : blank s[k] with
      | true =>
        have H1 := Lib.hid (show ∀ j (h : j < s.size), j < k + 1 → blank s[j] = true from fun j h hj => by
          by_cases hjk : j = k
          · subst hjk; exact hbl
          · exact h1.out j h (by omega))
        clear hbl
        go_wp2
        exact ⟨⟨k + 1, by omega, by go_num, H1, trivial⟩, by simp [intOf]; omega⟩
      | false =>
        have HB := Lib.hid hbl
        clear hbl
        go_wp2
        go_loopw [4] (fun i wr => ∃ m : Nat, k < m ∧ m ≤ s.size ∧ i = .int .i64 m ∧ Hid (∀ j (h : j < s.size), m ≤ j → blank s[j] = true) ∧ w = wr) (fun i _ => (intOf i).toNat)
        case atStart => exact ⟨s.size, by omega, by omega, rfl, Lib.hid (fun j h hj => by omega), rfl⟩
        case round =>
          obtain ⟨m, hkm, hm, rfl, h2, rfl⟩ := hrel
          have hj0 : (0 : Int) ≤ (m : Int) - 1 := by omega
          have hj1 : (m : Int) - 1 < (s.size : Int) := by omega
          have hjt : ((m : Int) - 1).toNat = m - 1 := by omega
          have hgt : (k : Int) < (m : Int) := by omega
          go_wp2_with fail
          refine (blank_call (s[m - 1]'(by omega)) _).mono ?_
          rintro e w1 ⟨rfl, rfl⟩
          cases hb2 : blank (s[m - 1]'(by omega)) with
          | true =>
            have H2 := Lib.hid (show ∀ j (h : j < s.size), m - 1 ≤ j → blank s[j] = true from fun j h hj => by
              by_cases hjk : j = m - 1
              · subst hjk; exact hb2
              · exact h2.out j h (by omega))
            have hkm2 : k < m - 1 := by
              by_cases hkm3 : m - 1 = k
              · subst hkm3
                rw [HB.out] at hb2
                cases hb2
              · omega
            have hmc : ((m : Int) - 1) = ((m - 1 : Nat) : Int) := by omega
            clear hb2
            go_wp2
            exact ⟨⟨m - 1, hkm2, by omega, by first | exact hmc ▸ rfl | go_num, H2, trivial⟩, by simp [intOf]; omega⟩
          | false =>
            have HF := Lib.hid (HT.out k m (by omega) hm h1.out h2.out (fun _ => ⟨HB.out, hb2⟩))
            have hsl : ∀ wx, (Instr.slice 9 (.string s) (some (.int .i64 (k : Int))) (some (.int .i64 (m : Int))) none).run Tryz.prog wx = .ok (.string (txt (seg s k m))) wx := fun wx => by
              rw [run_slice_string wx 9 s .i64 .i64 _ _ Tryz.underlying9 (by omega) (by omega) (by omega)]
              have e1 : ((k : Int)).toNat = k := by omega
              have e2 : ((m : Int)).toNat = m := by omega
              rw [e1, e2, extract_seg]
            clear hb2
            go_wp2
            go_ret
            exact ⟨ret_str (by rw [HF.out]), rfl⟩
    · have HF := Lib.hid (HT.out s.size s.size (Nat.le_refl _) (Nat.le_refl _) (fun j h hj => h1.out j h (by omega)) (fun j h hj => by omega) (fun h => by omega))
      obtain rfl : k = s.size := by omega
      have hsl : ∀ wx, (Instr.slice 9 (.string s) (some (.int .i64 (s.size : Int))) (some (.int .i64 (s.size : Int))) none).run Tryz.prog wx = .ok (.string (txt (seg s s.size s.size))) wx := fun wx => by
        rw [run_slice_string wx 9 s .i64 .i64 _ _ Tryz.underlying9 (by omega) (by omega) (by omega)]
        have e1 : ((s.size : Int)).toNat = s.size := by omega
        rw [e1, extract_seg]
      go_wp2
      go_loopw [4] (fun i wr => i = .int .i64 (s.size : Int) ∧ w = wr) (fun i _ => (intOf i).toNat)
      case atStart => exact ⟨rfl, rfl⟩
      case round =>
        obtain ⟨rfl, rfl⟩ := hrel
        go_wp2
        go_ret
        exact ⟨ret_str (by rw [HF.out]), rfl⟩

theorem results_tmp4 {fn : Func} {p q u v : Tmp} (h : fn.results = #[.tmp p, .tmp q, .tmp u, .tmp v]) (tmps : Array Value) (P : Program) (w : World) :
    (results fn tmps).run P w = .ok (.tuple #[tmps.getD p undef, tmps.getD q undef, tmps.getD u undef, tmps.getD v undef]) w := by
  simp [results, h]

/-- what the first length says, as the model keeps it -/
def tolT (t : Option (List UInt8)) : List UInt8 := t.getD []

theorem takeA_good (ls : List (List UInt8)) : ∀ hs t, (∀ x ∈ ls, (cutL 58 x).isSome = true) → (takeA hs t ls).2.2 = true := by
  induction ls with
  | nil => intro hs t _; rfl
  | cons x r ih =>
    intro hs t h
    have h1 := h x List.mem_cons_self
    have h2 := fun y hy => h y (List.mem_cons_of_mem _ hy)
    unfold takeA
    cases hc : cutL 58 x with
    | none => rw [hc] at h1; cases h1
    | some y =>
      simp only
      split
      · exact ih _ _ h2
      · exact ih _ _ h2

/-- what the model's reading of heads hands back -/
def TakeP (base : Nat) (e : Ending) (w : World) (R : List PairL × Option (List UInt8) × Bool) : Prop :=
  ∃ v, w.ownsRow base 86 2 v R.1.length (pcells R.1) ∧ ∃ x t, e = .returned (.tuple #[v, .string (txt x), .bool t, .bool R.2.2]) ∧ (R.2.2 = true → x = tolT R.2.1 ∧ t = R.2.1.isSome)

theorem low_neq (l : List UInt8) : ((txt (lowL l)).toList == [99, 111, 110, 116, 101, 110, 116, 45, 108, 101, 110, 103, 116, 104]) = isLen l := low_lit l

theorem takeA_len (ls : List (List UInt8)) : ∀ hs t, (takeA hs t ls).1.length ≤ hs.length + ls.length := by
  induction ls with
  | nil => intro hs t; exact Nat.le_refl _
  | cons x r ih =>
    intro hs t
    unfold takeA
    cases cutL 58 x with
    | none => exact Nat.le_add_right _ _
    | some y =>
      simp only
      split
      · have := ih hs (some (t.getD (trimL y.2))); simp; omega
      · have := ih (hs ++ [(y.1, trimL y.2)]) t; simp at this ⊢; omega

set_option maxHeartbeats 3200000 in
theorem take_spec (v : Value) (ls : List (List UInt8)) (w : World) (h : TAt w v ls) (hn : ls.length ≤ 1048576) (hm : ∀ x ∈ ls, x.length ≤ 1048576) :
    Calls Tryz.prog 51 #[v] w fun e w' => TakeP w.heap.size e w' (takeA [] none ls) ∧ Below w.heap.size w w' := by
  obtain ⟨i0, hi, hz0, hz1, hz2⟩ := info_parts pair_info
  have HF := Lib.hid h
  have HM := Lib.hid hm
  obtain ⟨a, cap, rfl, _⟩ := h
  have HR := Lib.hid (show takeA [] none ls = takeA [] none (ls.drop 0) by rw [List.drop_zero])
  generalize takeA [] none ls = R at HR ⊢
  clear hm
  go_enter Tryz.func51, Tryz.ntmps51
  go_wp2
  go_loopw [6, 7, 8, 9] (fun v x t i wr => ∃ (hs : List PairL) (tt : Option (List UInt8)) (k : Nat), k ≤ ls.length ∧ hs.length ≤ k ∧ i = .int .i64 k ∧ x = .string (txt (tolT tt)) ∧ t = .bool tt.isSome ∧ Hid (R = takeA hs tt (ls.drop k)) ∧ wr.ownsRow w.heap.size 86 2 v hs.length (pcells hs) ∧ Below w.heap.size w wr) (fun _ _ _ i _ => ls.length - (intOf i).toNat)
  case atStart => exact ⟨[], none, 0, by omega, by simp, rfl, rfl, rfl, HR, World.ownsRow_made w #[] 0 (Nat.le_refl _) (by simp) rfl, (Below.refl _ w).alloc (Nat.le_refl _) _⟩
  case round =>
    obtain ⟨hs, tt, k, hk, hhk, rfl, rfl, rfl, hr, hrow, hbel⟩ := hrel
    have hbs := hbel.size
    by_cases hlt : k < ls.length
    · obtain ⟨g, off, cap', hv, _, hg, c1⟩ := tat_cell (tat_below HF.out hbel) k hlt
      simp only [Value.slice.injEq] at hv
      obtain ⟨rfl, _, rfl⟩ := hv
      have hm := HM.out ls[k] (List.getElem_mem hlt)
      have hr2 := hr.out
      rw [List.drop_eq_getElem_cons hlt, takeA] at hr2
      have HR2 := Lib.hid hr2
      clear hr2 hr
      generalize ls[k] = y at c1 hm HR2
      have hi0 : (0 : Int) ≤ (k : Int) := by omega
      have hi1 : (k : Int) < (ls.length : Int) := by omega
      have C := Lib.hid (fun wx => cut_spec_l y 58 wx hm)
      obtain ⟨ka, vb, ok, hcr, l1, l2, hcc⟩ := cutR_form 58 y
      rw [hcr] at C
      clear hcr
      go_wp2_with fail
      refine (C.out _).mono ?_
      rintro e w1 ⟨rfl, b1⟩
      have hrow1 := ownsRow_below hrow b1
      have hbel1 := hbel.trans (b1.mono hbs)
      have hbs1 := hbel1.size
      clear C c1 hrow b1
      rcases hcc with ⟨rfl, hc⟩ | ⟨rfl, hc⟩
      · have hr3 := HR2.out
        rw [hc] at hr3
        have HR3 := Lib.hid (show R = if isLen ka = true then takeA hs (some (tt.getD (trimL vb))) (ls.drop (k + 1)) else takeA (hs ++ [(ka, trimL vb)]) tt (ls.drop (k + 1)) from hr3)
        have L := Lib.hid (fun wx => lower_spec (txt ka) wx (by rw [txt_size]; omega))
        have T := Lib.hid (fun wx => trim_spec (txt vb) wx (by rw [txt_size]; omega))
        rw [txt_toList] at L T
        have HLow := low_neq ka
        generalize trimL vb = tr at T HR3
        clear hr3 hc HR2
        by_cases hl : isLen ka = true
        · have hr4 := HR3.out
          rw [if_pos hl] at hr4
          have HR4 := Lib.hid hr4
          rw [hl] at HLow
          clear hr4 hl HR3
          cases tt with
          | none =>
            have HR5 := Lib.hid (show R = takeA hs (some tr) (ls.drop (k + 1)) from HR4.out)
            have htx : tolT (some tr) = tr := rfl
            have HTX := Lib.hid htx
            have hsome : (none : Option (List UInt8)).isSome = false := rfl
            rw [hsome]
            clear hsome htx
            go_wp2_with fail
            refine (L.out _).mono ?_
            rintro e w2 ⟨rfl, b2⟩
            have hrow2 := ownsRow_below hrow1 b2
            have hbel2 := hbel1.trans (b2.mono hbs1)
            clear hrow1 b2
            go_wp2_with fail
            refine (T.out _).mono ?_
            rintro e w3 ⟨rfl, rfl⟩
            go_wp2
            exact ⟨⟨hs, some tr, k + 1, by omega, by omega, by go_num, rfl, rfl, HR5, hrow2, hbel2⟩, by simp [intOf]; omega⟩
          | some u =>
            have HR5 := Lib.hid (show R = takeA hs (some u) (ls.drop (k + 1)) from HR4.out)
            have hsome : (some u).isSome = true := rfl
            rw [hsome]
            clear hsome
            go_wp2_with fail
            refine (L.out _).mono ?_
            rintro e w2 ⟨rfl, b2⟩
            have hrow2 := ownsRow_below hrow1 b2
            have hbel2 := hbel1.trans (b2.mono hbs1)
            clear hrow1 b2
            go_wp2
            exact ⟨⟨hs, some u, k + 1, by omega, by omega, by go_num, rfl, rfl, HR5, hrow2, hbel2⟩, by simp [intOf]; omega⟩
        · have hr4 := HR3.out
          rw [if_neg hl] at hr4
          have HR4 := Lib.hid hr4
          rw [Bool.not_eq_true] at hl
          rw [hl] at HLow
          clear hr4 hl HR3
          go_wp2_with fail
          refine (L.out _).mono ?_
          rintro e w2 ⟨rfl, b2⟩
          have hrow2 := ownsRow_below hrow1 b2
          have hbel2 := hbel1.trans (b2.mono hbs1)
          have hbs2 := hbel2.size
          clear hrow1 b2
          go_wp2_with (first
            | (go_at_call 96; refine (T.out _).mono ?_; rintro e w3 ⟨rfl, rfl⟩)
            | (at_builtin; (refine wpList_append_lies _ rfl _ _ _ rfl w.heap.size 86 i0 _ 2 32 Tryz.underlying24 hi hz0 hz1 hz2 rfl (by omega) u6 hs.length _ rfl (hrow2.alloc _) ⟨w2.heap.size, 0, none⟩ 1 1 [.string (txt ka), .string (txt tr)] rfl rfl (World.news_of_block (cs := #[.string (txt ka), .string (txt tr)]) (t := 86) (fr := (0, 0)) (heap_alloc_new w2 _)) (by simp [Value.oneCell']) (by omega) (by unfold maxLen; omega) (by omega) (by simp; omega) (w2.heap.size + 1) (by simp) ?_; intro g2 cap2 w4 hown2 hgrow2 hat2 hlt2)))
          have b4 : Below w.heap.size w w4 := (hbel2.alloc hbs2 _).grown hgrow2 (by simp; omega) (fun j e => (hrow2.lt j e).1)
          exact ⟨⟨hs ++ [(ka, tr)], tt, k + 1, by omega, by rw [List.length_append]; simp; omega, by go_num, rfl, rfl, HR4, by rw [pcells_append, List.length_append]; exact hown2, b4⟩, by simp [intOf]; omega⟩
      · have hr3 := HR2.out
        rw [hc] at hr3
        have HR3 := Lib.hid (show R = (hs, tt, false) from hr3)
        clear hr3 hc HR2
        go_wp2
        (try simp only [Exit.inBlock, Exit.then])
        refine bodyPost_ret (results_tmp4 rfl _ _ _) rfl ?_
        exact ⟨by rw [HR3.out]; exact ⟨_, hrow1, [], false, rfl, fun h => by cases h⟩, hbel1⟩
    · have hr2 := hr.out
      rw [List.drop_eq_nil_of_le (by omega)] at hr2
      have HR2 := Lib.hid (show R = (hs, tt, true) from hr2)
      clear hr2 hr
      go_wp2
      (try simp only [Exit.inBlock, Exit.then])
      refine bodyPost_ret (results_tmp4 rfl _ _ _) rfl ?_
      exact ⟨by rw [HR2.out]; exact ⟨_, hrow, tolT tt, tt.isSome, rfl, fun _ => ⟨rfl, rfl⟩⟩, hbel⟩

set_option maxHeartbeats 1600000 in
theorem body_spec (b x : List UInt8) (t : Bool) (w : World) (hb : b.length ≤ 1048576) (hx : x.length ≤ 1048576) :
    Calls Tryz.prog 52 #[.string (txt b), .string (txt x), .bool t] w fun e w' => e = .returned (.bool (if t = true then decide (rdV x = (b.length : Int)) && decide (b.length ≤ 4000) else decide (b = []))) ∧ Below w.heap.size w w' := by
  have hbz := txt_size b
  cases t with
  | false =>
    have he : (txt b).toList.isEmpty = decide (b = []) := by
      rw [Lib.toList_data, txt_toList]
      cases b <;> simp
    rw [if_neg (by simp)]
    generalize decide (b = []) = R at he ⊢
    go_enter Tryz.func52, Tryz.ntmps52
    go_wp2
    go_ret
    exact ⟨rfl, Below.refl _ _⟩
  | true =>
    rw [if_pos rfl]
    have D := Lib.hid (fun wx => readdec_spec (txt x) wx (by rw [txt_size]; exact hx))
    rw [txt_toList] at D
    generalize rdV x = n at D ⊢
    by_cases hn : n = (b.length : Int)
    · have HN := Lib.hid hn
      subst hn
      go_enter Tryz.func52, Tryz.ntmps52
      go_wp2_with fail
      refine (D.out _).mono ?_
      rintro e w1 ⟨rfl, b1⟩
      go_wp2
      go_ret
      exact ⟨ret_bool (by simp; omega), b1⟩
    · have hne : (n == (b.length : Int)) = false := by
        rw [Bool.eq_false_iff]
        intro e
        exact hn (eq_of_beq e)
      have HN := Lib.hid (decide_eq_false hn)
      clear hn
      go_enter Tryz.func52, Tryz.ntmps52
      go_wp2_with fail
      refine (D.out _).mono ?_
      rintro e w1 ⟨rfl, b1⟩
      go_wp2
      go_ret
      exact ⟨ret_bool (by rw [HN.out]; rfl), b1⟩

end Ht
end Go.Proofs.YtdgfiebehnfpgaaGreatDoor
