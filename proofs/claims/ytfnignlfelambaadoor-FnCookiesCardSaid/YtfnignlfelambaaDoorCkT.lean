/- CONTRACTS of GetCookies, the model's and the program's; the trimmed parts of a text. -/
import Derived.Test.YtfnignlfelambaaDoorCkN
import Derived.Test.YtfnignlfelambaaDoorCkB
import Derived.Test.YtfnignlfelambaaDoorHtTk
import Derived.Test.YtfnignlfelambaaDoorHtG
import Derived.Test.YtfnignlfelambaaDoorGet
import Derived.Shelf.Strings.SlTrimAscii
namespace Go.Proofs.YtfnignlfelambaaDoor
set_option linter.unusedVariables false
set_option maxRecDepth 4000
open Go.ChangeShapes Go.WideShapes Go.ChangeAt Go.RowKit
open Go.ChangeMaps (open_string shut_string)

namespace Ck
open Ht

theorem cutA_R (c : UInt8) (l : List UInt8) : cutR l (cutL c l) = .tuple #[.string (txt (cutA c l).1), .string (txt (cutA c l).2.1), .bool (cutA c l).2.2] := by
  unfold cutA
  cases cutL c l with
  | none => rfl
  | some p => rfl

theorem cutA_len (c : UInt8) (l : List UInt8) : (cutA c l).1.length ≤ l.length ∧ (cutA c l).2.1.length ≤ l.length := by
  unfold cutA
  cases h : cutL c l with
  | none => exact ⟨Nat.le_refl _, Nat.zero_le _⟩
  | some p => exact cutL_len c l p.1 p.2 h

theorem cutS (c : UInt8) (l : List UInt8) (w : World) (hs : l.length ≤ 1048576) :
    Calls Tryd.prog 83 #[.string (txt l), .int .u8 c.toNat] w fun e w' => e = .returned (.tuple #[.string (txt (cutA c l).1), .string (txt (cutA c l).2.1), .bool (cutA c l).2.2]) ∧ Below w.heap.size w w' := by
  have := cut_spec_l l c w hs
  rwa [cutA_R] at this

theorem cutI (c : UInt8) (l : List UInt8) (w : World) (hs : l.length ≤ 1048576) :
    Calls Tryd.prog 77 #[.string (txt l), .int .u8 c.toNat] w fun e w' => e = .returned (.tuple #[.string (txt (cutA c l).1), .string (txt (cutA c l).2.1), .bool (cutA c l).2.2]) ∧ Below w.heap.size w w' := by
  have := cut_impl_l l c w hs
  rwa [cutA_R] at this

theorem trimI (s : List UInt8) (w : World) (hs : s.length ≤ 1048576) :
    Calls Tryd.prog 101 #[.string (txt s), .string ⟨#[32, 9]⟩] w fun e w' => e = .returned (.string (txt (trimL s))) ∧ Below w.heap.size w w' := by
  have h := Any.strings_Trim_laid Tryd.lays160 (by kernel_rfl) (txt s) ⟨#[32, 9]⟩ w (by rw [txt_size]; omega) (by decide) (ascii_of_all (by decide))
  rw [txt_toList] at h
  exact h

theorem trimS (s : List UInt8) (w : World) (hs : s.length ≤ 1048576) :
    Calls Tryd.prog 84 #[.string (txt s)] w fun e w' => e = .returned (.string (txt (trimL s))) ∧ w = w' := by
  have h := trim_spec (txt s) w (by rw [txt_size]; exact hs)
  rwa [txt_toList] at h

theorem trim_set (L : List (List UInt8)) (k : Nat) (hk : k < L.length) : ((L.take k).map trimL ++ L.drop k).set k (trimL L[k]) = (L.take (k + 1)).map trimL ++ L.drop (k + 1) := by
  have h1 : ((L.take k).map trimL).length = k := by rw [List.length_map, List.length_take]; omega
  rw [List.set_append, if_neg (by omega), h1, Nat.sub_self, List.drop_eq_getElem_cons hk, List.set_cons_zero, List.take_succ_eq_append_getElem hk, List.map_append]
  simp

theorem trim_get (L : List (List UInt8)) (k : Nat) (hk : k < L.length) (h : k < ((L.take k).map trimL ++ L.drop k).length) : ((L.take k).map trimL ++ L.drop k)[k] = L[k] := by
  have h1 : ((L.take k).map trimL).length = k := by rw [List.length_map, List.length_take]; omega
  rw [List.getElem_append_right (by omega)]
  have e : k - ((L.take k).map trimL).length = 0 := by omega
  simp only [e, List.getElem_drop, Nat.add_zero]

set_option maxHeartbeats 1600000 in
theorem parts_impl (s : ByteArray) (w : World) (hs : s.size ≤ 1048576) :
    Calls Tryd.prog 76 #[.string s] w fun e w' => ∃ v, e = .returned v ∧ w'.ownsRow w.heap.size 9 1 v (partsOf s.data.toList).length (strs (partsOf s.data.toList)) ∧ Below w.heap.size w w' := by
  have C := Lib.hid (fun wx => split_impl s 59 wx hs)
  have hlen := splitL_len 59 s.data.toList
  rw [data_length] at hlen
  have HM := Lib.hid (show ∀ x ∈ splitL 59 s.data.toList, x.length ≤ 1048576 from fun x hx => by have := splitL_part 59 s.data.toList x hx; rw [data_length] at this; omega)
  change Hid (∀ wx, Calls Tryd.prog 106 #[.string s, .int .u8 59] wx _) at C
  unfold partsOf
  generalize splitL 59 s.data.toList = L at C hlen HM ⊢
  go_enter Tryd.func76, Tryd.ntmps76
  go_wp2_with fail
  refine (C.out _).mono ?_
  rintro e w1 ⟨v, rfl, o1, b1⟩
  obtain ⟨a, cap, rfl⟩ := own_val o1
  go_wp2
  go_loopw [10] (fun i wr => ∃ k : Nat, k ≤ L.length ∧ i = .int .i64 k ∧ wr.ownsRow w.heap.size 9 1 (.slice a L.length cap) L.length (strs ((L.take k).map trimL ++ L.drop k)) ∧ Below w.heap.size w wr) (fun i _ => L.length - (intOf i).toNat)
  case atStart => exact ⟨0, by omega, rfl, by simpa using o1, b1⟩
  case round =>
    obtain ⟨k, hk, rfl, hown, hbel⟩ := hrel
    have hll : ((L.take k).map trimL ++ L.drop k).length = L.length := by rw [List.length_append, List.length_map, List.length_take, List.length_drop]; omega
    by_cases hlt : k < L.length
    · obtain ⟨g, rfl, hg1, hg2⟩ := own_at hown (by omega)
      have c1 := own_cell hown k (by rw [hll]; exact hlt) hll
      rw [trim_get L k hlt] at c1
      have T := Lib.hid (fun wx => trimI L[k] wx (HM.out L[k] (List.getElem_mem hlt)))
      have hi0 : (0 : Int) ≤ (k : Int) := by omega
      have hi1 : (k : Int) < (L.length : Int) := by omega
      clear o1
      go_wp2_with fail
      refine (T.out _).mono ?_
      rintro e w2 ⟨rfl, hb2⟩
      have hown2 := ownsRow_below hown (hb2.mono (Nat.le_refl _))
      obtain ⟨u, hc2⟩ : ∃ u, w2.cell? ⟨g, k, none⟩ = some u := ⟨_, own_cell hown2 k (by rw [hll]; exact hlt) hll⟩
      have hf2 := hown2.frozenAt k
      have hst := hown2.stored k (.string (txt (trimL L[k])))
      rw [strs_set, trim_set L k hlt] at hst
      have hbel2 := (hbel.trans (hb2.mono hbel.size)).setCell (p := ⟨g, k, none⟩) hg1 (.string (txt (trimL L[k])))
      have hown3 := hst.1
      clear hst hll c1
      generalize txt (trimL L[k]) = t at hown3 hbel2 ⊢
      go_wp2
      go_roundw
      case rel => exact ⟨k + 1, by omega, by go_num, hown3, hbel2⟩
      case measure => simp [intOf]; omega
    · have he : L.drop k = [] := List.drop_eq_nil_of_le (by omega)
      have he2 : L.take k = L := List.take_of_length_le (by omega)
      rw [he, he2, List.append_nil] at hown
      clear he he2 hll
      go_wp2
      go_ret
      exact ⟨_, rfl, by rw [List.length_map]; exact hown, hbel⟩

/- the rows of pairs -/

def pk (L : List (List UInt8)) : List PairL := (L.map trimL).filterMap onePair

theorem pk_snoc (L : List (List UInt8)) (k : Nat) (hk : k < L.length) : pk (L.take (k + 1)) = pk (L.take k) ++ (match onePair (trimL L[k]) with | some p => [p] | none => []) := by
  unfold pk
  rw [List.take_succ_eq_append_getElem hk, List.map_append, List.filterMap_append]
  congr 1
  simp only [List.map_cons, List.map_nil, List.filterMap_cons, List.filterMap_nil]
  cases onePair (trimL L[k]) <;> rfl

theorem pk_pre (L : List (List UInt8)) (k : Nat) : ∃ r, pk L = pk (L.take k) ++ r := by
  refine ⟨pk (L.drop k), ?_⟩
  unfold pk
  rw [← List.filterMap_append, ← List.map_append, List.take_append_drop]

theorem getCk_pk (s : List UInt8) : getCk s = (pk (splitL 59 s)).take 30 := rfl

theorem pk_len (L : List (List UInt8)) : (pk L).length ≤ L.length := by
  unfold pk
  have := List.length_filterMap_le onePair (L.map trimL)
  rw [List.length_map] at this
  exact this

set_option maxHeartbeats 3200000 in
theorem getCk_spec (s : ByteArray) (w : World) (hs : s.size ≤ 1048576) :
    Calls Tryd.prog 38 #[.string s] w fun e w' => ∃ v, e = .returned v ∧ w'.ownsRow w.heap.size 71 2 v (getCk s.data.toList).length (pcells (getCk s.data.toList)) ∧ Below w.heap.size w w' := by
  obtain ⟨i0, hi, hz0, hz1, hz2⟩ := info_parts pair_info
  have C := Lib.hid (fun wx => split_spec s 59 wx hs)
  have hlen := splitL_len 59 s.data.toList
  rw [data_length] at hlen
  have HM := Lib.hid (show ∀ x ∈ splitL 59 s.data.toList, x.length ≤ 1048576 from fun x hx => by have := splitL_part 59 s.data.toList x hx; rw [data_length] at this; omega)
  change Hid (∀ wx, Calls Tryd.prog 82 #[.string s, .int .u8 59] wx _) at C
  have HR := Lib.hid (getCk_pk s.data.toList)
  generalize getCk s.data.toList = R at HR ⊢
  generalize splitL 59 s.data.toList = L at C hlen HM HR
  have ho0 : (w.alloc (.cells #[] 71)).ownsRow w.heap.size 71 2 (.slice (some ⟨w.heap.size, 0, none⟩) 0 0) 0 (pcells []) := World.ownsRow_made w #[] 0 (Nat.le_refl _) (by simp) rfl
  have HO0 := Lib.hid ho0
  clear ho0
  go_enter Tryd.func38, Tryd.ntmps38
  go_wp2_with fail
  refine (C.out _).mono ?_
  rintro e w1 ⟨v, rfl, o1, b1⟩
  have hs0 : (w.alloc (.cells #[] 71)).heap.size = w.heap.size + 1 := by simp
  rw [hs0] at o1 b1
  have b01 : Below w.heap.size w w1 := ((Below.refl w.heap.size w).alloc (Nat.le_refl _) _).trans (b1.mono (by omega))
  have oo1 := ownsRow_below HO0.out (by rw [hs0]; exact b1)
  obtain ⟨a, cap, rfl⟩ := own_val o1
  have hlo := fun j e => (o1.lt j e).1
  go_wp2
  go_loopw [3, 5] (fun v i wr => ∃ (k : Nat) (acc : List PairL), k ≤ L.length ∧ i = .int .i64 k ∧ Hid (acc = pk (L.take k)) ∧ acc.length ≤ 30 ∧ wr.ownsRow w.heap.size 71 2 v acc.length (pcells acc) ∧ wr.ownsRow (w.heap.size + 1) 9 1 (.slice a L.length cap) L.length (strs L) ∧ Hid (∀ j, (Value.slice a L.length cap).ownBlock = some j → v.ownBlock ≠ some j) ∧ Below w.heap.size w wr) (fun _ i _ => L.length - (intOf i).toNat)
  case atStart => exact ⟨0, [], by omega, rfl, Lib.hid rfl, by simp, oo1, o1, Lib.hid (fun j e1 e2 => by have := hlo j e1; simp [Value.ownBlock] at e2; omega), b01⟩
  case round =>
    obtain ⟨k, acc, hk, rfl, ha, ha30, hown, hpar, hne, hbel⟩ := hrel
    have hbs := hbel.size
    obtain ⟨a3, cap3, rfl⟩ := own_val2 hown
    by_cases hlt : k < L.length
    · by_cases h30 : acc.length < 30
      · obtain ⟨g, rfl, hg1, hg2⟩ := own_at hpar (by omega)
        have c1 := own_cell hpar k hlt rfl
        have hi0 : (0 : Int) ≤ (k : Int) := by omega
        have hi1 : (k : Int) < (L.length : Int) := by omega
        have hml := HM.out L[k] (List.getElem_mem hlt)
        have T := Lib.hid (fun wx => trimS L[k] wx hml)
        have htl := trimL_len L[k]
        have HN := Lib.hid (pk_snoc L k hlt)
        generalize trimL L[k] = x at T htl HN
        generalize L[k] = y at c1 T hml htl
        have K := Lib.hid (fun wx => cutS 61 x wx (by omega))
        obtain ⟨hx1, hx2⟩ := cutA_len 61 x
        have HP := Lib.hid (show onePair x = if (cutA 61 x).2.2 && nmL (cutA 61 x).1 && vlL (cutA 61 x).2.1 then some ((cutA 61 x).1, (cutA 61 x).2.1) else none from rfl)
        generalize onePair x = op at HP HN
        generalize (cutA 61 x).2.2 = ok at K HP
        generalize (cutA 61 x).2.1 = pv at K HP hx2
        generalize (cutA 61 x).1 = pn at K HP hx1
        have N := Lib.hid (fun wx => name_spec (txt pn) wx (by rw [txt_size]; omega))
        have V := Lib.hid (fun wx => value_spec (txt pv) wx (by rw [txt_size]; omega))
        rw [txt_toList] at N V
        generalize nmL pn = nn at N HP
        generalize vlL pv = vv at V HP
        change Hid (∀ wx, Calls Tryd.prog 83 #[.string (txt x), .int .u8 61] wx _) at K
        go_wp2_with fail
        refine (T.out _).mono ?_
        rintro e w2 ⟨rfl, rfl⟩
        go_wp2_with fail
        refine (K.out _).mono ?_
        rintro e w3 ⟨rfl, b3⟩
        have hown3 := ownsRow_below hown b3
        have hpar3 := ownsRow_below hpar b3
        have hbel3 := hbel.trans (b3.mono hbs)
        have hbs3 := hbel3.size
        clear hown hpar hbel c1 b3
        by_cases hall : (ok && nn && vv) = true
        · have HP2 := Lib.hid (show op = some (pn, pv) by rw [HP.out, if_pos hall])
          simp only [Bool.and_eq_true] at hall
          obtain ⟨⟨rfl, rfl⟩, rfl⟩ := hall
          have HA := Lib.hid (show acc ++ [(pn, pv)] = pk (L.take (k + 1)) by rw [HN.out, HP2.out, ha.out])
          clear HP HP2 HN
          go_wp2_with fail
          refine (N.out _).mono ?_
          rintro e w4 ⟨rfl, rfl⟩
          go_wp2_with fail
          refine (V.out _).mono ?_
          rintro e w4 ⟨rfl, rfl⟩
          go_wp2_with (at_builtin; refine wpList_append_lies _ rfl _ _ _ rfl w.heap.size 71 i0 _ 2 32 Tryd.underlying24 hi hz0 hz1 hz2 rfl (by omega) _ acc.length _ rfl (hown3.alloc _) ⟨w3.heap.size, 0, none⟩ 1 1 [.string (txt pn), .string (txt pv)] rfl rfl (World.news_of_block (cs := #[.string (txt pn), .string (txt pv)]) (t := 71) (fr := (0, 0)) (heap_alloc_new w3 _)) (by simp [Value.oneCell']) (by omega) (by unfold maxLen; omega) (by omega) (by simp; omega) (w3.heap.size + 1) (by simp) ?_; intro gg cap5 w5 hown5 hgrow hat hlt2)
          have hpar5 := (hpar3.alloc (.cells #[.string (txt pn), .string (txt pv)] 71)).kept hgrow (.inr (fun e => hne.out g rfl (e.symm.trans rfl)))
          have hb5 : Below w.heap.size w w5 := (hbel3.alloc hbs3 _).grown hgrow (by simp; omega) (fun j e => (hown3.lt j e).1)
          have hne5 := Lib.hid (show ∀ j, (Value.slice (some ⟨g, 0, none⟩) L.length cap).ownBlock = some j → (Value.slice (some ⟨gg, 0, none⟩) (acc.length + 1) cap5).ownBlock ≠ some j from fun j e1 e2 => by
            have h2 := (hpar3.lt j e1).2
            simp [Value.ownBlock] at e2
            subst e2
            rcases hat with e | e
            · exact hne.out _ e1 e
            · omega)
          go_roundw
          case rel => exact ⟨k + 1, acc ++ [(pn, pv)], by omega, by go_num, HA, by rw [List.length_append, List.length_singleton]; omega, by rw [pcells_append, List.length_append]; exact hown5, hpar5, hne5, hb5⟩
          case measure => simp [intOf]; omega
        · have HP2 := Lib.hid (show op = none by rw [HP.out, if_neg hall])
          have HA := Lib.hid (show acc = pk (L.take (k + 1)) by rw [HN.out, HP2.out, ha.out, List.append_nil])
          clear HP HP2 HN
          cases ok with
          | false =>
            go_wp2
            go_roundw
            case rel => exact ⟨k + 1, acc, by omega, by go_num, HA, ha30, hown3, hpar3, hne, hbel3⟩
            case measure => simp [intOf]; omega
          | true =>
            go_wp2_with fail
            refine (N.out _).mono ?_
            rintro e w4 ⟨rfl, rfl⟩
            cases nn with
            | false =>
              go_wp2
              go_roundw
              case rel => exact ⟨k + 1, acc, by omega, by go_num, HA, ha30, hown3, hpar3, hne, hbel3⟩
              case measure => simp [intOf]; omega
            | true =>
              have hvv : vv = false := by simpa using hall
              subst hvv
              go_wp2_with fail
              refine (V.out _).mono ?_
              rintro e w4 ⟨rfl, rfl⟩
              go_wp2
              go_roundw
              case rel => exact ⟨k + 1, acc, by omega, by go_num, HA, ha30, hown3, hpar3, hne, hbel3⟩
              case measure => simp [intOf]; omega
      · have h30e : acc.length = 30 := by omega
        have i30 : ¬ (acc.length : Int) < 30 := by omega
        have HA := Lib.hid (show R = acc by
          obtain ⟨r, hr⟩ := pk_pre L k
          rw [HR.out, hr, ← ha.out, List.take_append_of_le_length (by omega), List.take_of_length_le (by omega)])
        clear h30e h30
        go_wp2
        go_ret
        exact ⟨_, rfl, by rw [HA.out]; exact hown, hbel⟩
    · have he : L.take k = L := List.take_of_length_le (by omega)
      have HA := Lib.hid (show R = acc by
        have h1 := ha.out
        rw [he] at h1
        rw [HR.out, ← h1, List.take_of_length_le (by omega)])
      clear he
      go_wp2
      go_ret
      exact ⟨_, rfl, by rw [HA.out]; exact hown, hbel⟩

end Ck
end Go.Proofs.YtfnignlfelambaaDoor
