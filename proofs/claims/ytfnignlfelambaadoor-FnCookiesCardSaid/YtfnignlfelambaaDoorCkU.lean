/- CONTRACT of the program's GetCookies. -/
import Derived.Test.YtfnignlfelambaaDoorCkT
namespace Go.Proofs.YtfnignlfelambaaDoor
set_option linter.unusedVariables false
set_option maxRecDepth 4000
open Go.ChangeShapes Go.WideShapes Go.ChangeAt Go.RowKit
open Go.ChangeMaps (open_string shut_string)

namespace Ck
open Ht

theorem own_lower2 {w : World} {b b' : Nat} {e : TypeId} {size : Nat} {v : Value} {n : Nat} {xs : List Value} (h : w.ownsRow b e size v n xs) (hb : b' ≤ b) : w.ownsRow b' e size v n xs := by
  refine ⟨h.1, ?_⟩
  rcases h.2 with h | ⟨g, cap, cur, h1, h2, h3⟩
  · exact .inl h
  · exact .inr ⟨g, cap, cur, h1, Nat.le_trans hb h2, h3⟩

theorem part_len (s x : List UInt8) (h : x ∈ partsOf s) : x.length ≤ s.length := by
  unfold partsOf at h
  obtain ⟨y, hy, rfl⟩ := List.mem_map.1 h
  have h1 := trimL_len y
  have h2 := splitL_part 59 s y hy
  omega

theorem parts_len (s : List UInt8) : (partsOf s).length ≤ s.length + 1 := by
  unfold partsOf
  rw [List.length_map]
  exact splitL_len 59 s

theorem fm_snoc (P : List (List UInt8)) (k : Nat) (hk : k < P.length) (acc : List PairL) (ha : acc = ((P.take k).filterMap onePair).take 30) :
    ((P.take (k + 1)).filterMap onePair).take 30 = match onePair P[k] with | some p => if acc.length < 30 then acc ++ [p] else acc | none => acc := by
  rw [List.take_succ_eq_append_getElem hk, List.filterMap_append]
  generalize (P.take k).filterMap onePair = X at ha
  have hl : acc.length = min 30 X.length := by rw [ha, List.length_take]
  cases h : onePair P[k] with
  | none =>
    simp only [List.filterMap_cons, List.filterMap_nil, h, List.append_nil]
    exact ha.symm
  | some p =>
    simp only [List.filterMap_cons, List.filterMap_nil, h]
    by_cases h30 : acc.length < 30
    · rw [if_pos h30]
      have e : X.take 30 = X := List.take_of_length_le (by omega)
      rw [e] at ha
      rw [ha]
      exact List.take_of_length_le (by rw [List.length_append, List.length_singleton]; omega)
    · rw [if_neg h30, ha, List.take_append_of_le_length (by omega)]

set_option maxHeartbeats 3200000 in
theorem getCk_impl (s : ByteArray) (w : World) (hs : s.size ≤ 1048576) :
    Calls Tryd.prog 35 #[.string s] w fun e w' => ∃ v, e = .returned v ∧ w'.ownsRow w.heap.size 71 2 v (getCk s.data.toList).length (pcells (getCk s.data.toList)) ∧ Below w.heap.size w w' := by
  obtain ⟨i0, hi, hz0, hz1, hz2⟩ := info_parts pair_info
  have C := Lib.hid (fun wx => parts_impl s wx hs)
  have hlen := parts_len s.data.toList
  rw [data_length] at hlen
  have HM := Lib.hid (show ∀ x ∈ partsOf s.data.toList, x.length ≤ 1048576 from fun x hx => by have := part_len s.data.toList x hx; rw [data_length] at this; omega)
  have HR := Lib.hid (show getCk s.data.toList = ((partsOf s.data.toList).filterMap onePair).take 30 from rfl)
  generalize getCk s.data.toList = R at HR ⊢
  generalize partsOf s.data.toList = L at C hlen HM HR
  go_enter Tryd.func35, Tryd.ntmps35
  go_wp2_with fail
  refine (C.out _).mono ?_
  rintro e w1 ⟨v, rfl, o1, b1⟩
  have hs1 := b1.size
  obtain ⟨a, cap, rfl⟩ := own_val o1
  go_wp2
  go_loopw [3, 12] (fun v i wr => ∃ (k : Nat) (acc : List PairL), k ≤ L.length ∧ i = .int .i64 k ∧ Hid (acc = ((L.take k).filterMap onePair).take 30) ∧ acc.length ≤ 30 ∧ wr.ownsRow w1.heap.size 71 2 v acc.length (pcells acc) ∧ Below w1.heap.size w1 wr) (fun _ i _ => L.length - (intOf i).toNat)
  case atStart => exact ⟨0, [], by omega, rfl, Lib.hid rfl, by simp, World.ownsRow_nil _ _ _ _, Below.refl _ _⟩
  case round =>
    obtain ⟨k, acc, hk, rfl, ha, ha30, hown, hbel⟩ := hrel
    have hbs := hbel.size
    obtain ⟨a3, cap3, rfl⟩ := own_val2 hown
    by_cases hlt : k < L.length
    · have hpar := ownsRow_below o1 (hbel.mono (Nat.le_refl _))
      obtain ⟨g, rfl, hg1, hg2⟩ := own_at hpar (by omega)
      have c1 := own_cell hpar k hlt rfl
      clear hpar
      have hi0 : (0 : Int) ≤ (k : Int) := by omega
      have hi1 : (k : Int) < (L.length : Int) := by omega
      have hml := HM.out L[k] (List.getElem_mem hlt)
      have HN := Lib.hid (fm_snoc L k hlt acc ha.out)
      generalize L[k] = x at c1 hml HN
      have K := Lib.hid (fun wx => cutI 61 x wx (by omega))
      obtain ⟨hx1, hx2⟩ := cutA_len 61 x
      have HP := Lib.hid (show onePair x = if (cutA 61 x).2.2 && nmL (cutA 61 x).1 && vlL (cutA 61 x).2.1 then some ((cutA 61 x).1, (cutA 61 x).2.1) else none from rfl)
      generalize onePair x = op at HP HN
      generalize (cutA 61 x).2.2 = ok at K HP
      generalize (cutA 61 x).2.1 = pv at K HP hx2
      generalize (cutA 61 x).1 = pn at K HP hx1
      have N := Lib.hid (fun wx => name_impl (txt pn) wx (by rw [txt_size]; omega))
      have V := Lib.hid (fun wx => value_impl (txt pv) wx (by rw [txt_size]; omega))
      rw [txt_toList] at N V
      generalize nmL pn = nn at N HP
      generalize vlL pv = vv at V HP
      change Hid (∀ wx, Calls Tryd.prog 77 #[.string (txt x), .int .u8 61] wx _) at K
      go_wp2_with fail
      refine (K.out _).mono ?_
      rintro e w3 ⟨rfl, b3⟩
      have hown3 := ownsRow_below hown b3
      have hbel3 := hbel.trans (b3.mono hbs)
      have hbs3 := hbel3.size
      clear hown hbel c1 b3
      by_cases hall : (ok && nn && vv) = true
      · have HP2 := Lib.hid (show op = some (pn, pv) by rw [HP.out, if_pos hall])
        simp only [Bool.and_eq_true] at hall
        obtain ⟨⟨rfl, rfl⟩, rfl⟩ := hall
        clear HP
        go_wp2_with fail
        refine (N.out _).mono ?_
        rintro e w4 ⟨rfl, rfl⟩
        go_wp2_with fail
        refine (V.out _).mono ?_
        rintro e w4 ⟨rfl, rfl⟩
        by_cases h30 : acc.length < 30
        · have HA := Lib.hid (show acc ++ [(pn, pv)] = ((L.take (k + 1)).filterMap onePair).take 30 by
            rw [HN.out, HP2.out]
            show _ = if acc.length < 30 then acc ++ [(pn, pv)] else acc
            rw [if_pos h30])
          have i30 : (acc.length : Int) < 30 := by omega
          clear HP2 HN
          go_wp2_with (at_builtin; refine wpList_append_lies _ rfl _ _ _ rfl w1.heap.size 71 i0 _ 2 32 Tryd.underlying24 hi hz0 hz1 hz2 rfl (by omega) _ acc.length _ rfl (hown3.alloc _) ⟨w3.heap.size, 0, none⟩ 1 1 [.string (txt pn), .string (txt pv)] rfl rfl (World.news_of_block (cs := #[.string (txt pn), .string (txt pv)]) (t := 71) (fr := (0, 0)) (heap_alloc_new w3 _)) (by simp [Value.oneCell']) (by omega) (by unfold maxLen; omega) (by omega) (by simp; omega) (w3.heap.size + 1) (by simp) ?_; intro gg cap5 w5 hown5 hgrow hat hlt2)
          have hb5 : Below w1.heap.size w1 w5 := (hbel3.alloc hbs3 _).grown hgrow (by simp; omega) (fun j e => (hown3.lt j e).1)
          go_roundw
          case rel => exact ⟨k + 1, acc ++ [(pn, pv)], by omega, by go_num, HA, by rw [List.length_append, List.length_singleton]; omega, by rw [pcells_append, List.length_append]; exact hown5, hb5⟩
          case measure => simp [intOf]; omega
        · have HA := Lib.hid (show acc = ((L.take (k + 1)).filterMap onePair).take 30 by
            rw [HN.out, HP2.out]
            show _ = if acc.length < 30 then acc ++ [(pn, pv)] else acc
            rw [if_neg h30])
          have i30 : ¬ (acc.length : Int) < 30 := by omega
          clear HP2 HN h30
          go_wp2
          go_roundw
          case rel => exact ⟨k + 1, acc, by omega, by go_num, HA, ha30, hown3, hbel3⟩
          case measure => simp [intOf]; omega
      · have HP2 := Lib.hid (show op = none by rw [HP.out, if_neg hall])
        have HA := Lib.hid (show acc = ((L.take (k + 1)).filterMap onePair).take 30 by rw [HN.out, HP2.out])
        clear HP HP2 HN
        cases ok with
        | false =>
          go_wp2
          go_roundw
          case rel => exact ⟨k + 1, acc, by omega, by go_num, HA, ha30, hown3, hbel3⟩
          case measure => simp [intOf]; omega
        | true =>
          go_wp2_with fail
          refine (N.out _).mono ?_
          rintro e w4 ⟨rfl, rfl⟩
          cases nn with
          | false =>
            go_wp2
            go_roundw
            case rel => exact ⟨k + 1, acc, by omega, by go_num, HA, ha30, hown3, hbel3⟩
            case measure => simp [intOf]; omega
          | true =>
            have hvv : vv = false := by simpa using hall
            subst hvv
            go_wp2_with fail
            refine (V.out _).mono ?_
            rintro e w4 ⟨rfl, rfl⟩
            go_wp2
            go_roundw
            case rel => exact ⟨k + 1, acc, by omega, by go_num, HA, ha30, hown3, hbel3⟩
            case measure => simp [intOf]; omega
    · have he : L.take k = L := List.take_of_length_le (by omega)
      have HA := Lib.hid (show R = acc by
        have h1 := ha.out
        rw [he] at h1
        rw [HR.out, ← h1])
      clear he
      go_wp2
      go_ret
      exact ⟨_, rfl, by rw [HA.out]; exact own_lower2 hown hs1, b1.trans (hbel.mono hs1)⟩

end Ck
end Go.Proofs.YtfnignlfelambaaDoor
