/- CONTRACTS of the program's readFields, GetFields. -/
import Derived.Test.YtljifooeokhgeaaFldG
import Derived.Test.YtljifooeokhgeaaFldsI
import Derived.Test.YtljifooeokhgeaaGridA
namespace Go.Proofs.Ytljifooeokhgeaa
set_option linter.unusedVariables false
set_option maxRecDepth 4000
open Go.ChangeShapes Go.WideShapes Go.ChangeAt Go.RowKit
open Go.ChangeMaps (open_string shut_string)

namespace Fld

theorem suf_head (l : List UInt8) (c : UInt8) : Lib.hasSuffix l [c] = decide (l.getLast? = some c) := by
  have h := cut_head l.reverse c
  rw [List.head?_reverse] at h
  rw [← h]
  rfl

theorem suf_rest (l : List UInt8) (c : UInt8) (h : l.getLast? = some c) : Lib.trimSuffix l [c] = l.dropLast := by
  unfold Lib.trimSuffix
  rw [suf_head, decide_eq_true h, if_pos rfl, List.dropLast_eq_take]
  rfl

def strSize : Value → Nat
  | .string s => s.size
  | _ => 0

def isTrue : Value → Bool
  | .bool b => b
  | _ => false

theorem fc_one1 (p : FieldL) : ∀ u ∈ fc p, u.oneCell' = true := by
  intro u hu
  simp only [fc, List.mem_cons, List.not_mem_nil, or_false] at hu
  rcases hu with rfl | rfl | rfl | rfl <;> rfl

/-- what reading fields has found -/
def RP (base : Nat) (w' : World) (v : Value) (b : Bool) (sz : Nat) (R : Option (List FieldL)) : Prop := match R with
  | some l => b = true ∧ w'.ownsRow base 32 4 v l.length (l.flatMap fc) ∧ l.length ≤ sz ∧ ∀ p ∈ l, okM p
  | none => b = false

theorem RP.none_is {base : Nat} {w' : World} {v : Value} {sz : Nat} {R : Option (List FieldL)} (h : R = none) : RP base w' v false sz R := by rw [h]; rfl

theorem RP.some_is {base : Nat} {w' : World} {v : Value} {sz : Nat} {R : Option (List FieldL)} {l : List FieldL} (h : R = some l) (ho : w'.ownsRow base 32 4 v l.length (l.flatMap fc)) (hl : l.length ≤ sz) (hm : ∀ p ∈ l, okM p) : RP base w' v true sz R := by rw [h]; exact ⟨rfl, ho, hl, hm⟩

set_option maxHeartbeats 1600000 in
theorem readFields_call (s : ByteArray) (hs : s.size ≤ 1048576) (w : World) :
    Calls Try.prog 35 #[.string s] w fun e w' => ∃ v b, e = .returned (.tuple #[v, .bool b]) ∧ Below w.heap.size w w' ∧ RP w.heap.size w' v b s.size (rdAll s.data.toList) := by
  obtain ⟨i0, hi, hz0, hz1, hz2⟩ := info_parts Try.info32
  obtain ⟨R, hR⟩ : ∃ R, R = rdAll s.data.toList := ⟨_, rfl⟩
  have HR := Lib.hid hR
  rw [← hR]
  clear hR
  have hdl := data_length s
  have CP := Lib.hid (fun wx => Try.strings_CutPrefix s (txt [123]) wx)
  simp only [txt_toList, cut_head, cut_rest] at CP
  have e123 : txt [123] = ⟨#[123]⟩ := rfl
  rw [e123] at CP
  have CS := Lib.hid (fun (x : ByteArray) (hx : x.size ≤ 9223372036854775807) wx => Try.strings_CutSuffix x (txt [125]) wx hx)
  simp only [txt_toList, suf_head] at CS
  have e125 : txt [125] = ⟨#[125]⟩ := rfl
  rw [e125] at CS
  clear e123 e125
  by_cases hh : s.data.toList.head? = some 123
  · rw [if_pos hh, decide_eq_true hh] at CP
    have hdl1 : (s.data.toList.drop 1).length ≤ s.size := by rw [List.length_drop]; omega
    change Hid (∀ wx, Calls Try.prog 54 #[.string s, .string ⟨#[123]⟩] wx fun e w' => e = .returned (.tuple #[.string (txt (s.data.toList.drop 1)), .bool true]) ∧ w' = wx) at CP
    have C2 := Lib.hid (fun wx => CS.out (txt (s.data.toList.drop 1)) (by rw [txt_size]; omega) wx)
    simp only [txt_toList] at C2
    by_cases h2 : (s.data.toList.drop 1).getLast? = some 125
    · rw [suf_rest _ _ h2, decide_eq_true h2] at C2
      have hbl : (s.data.toList.drop 1).dropLast.length ≤ s.size := by rw [List.length_dropLast]; omega
      have HR2 := Lib.hid (show R = if (s.data.toList.drop 1).dropLast = [] then some [] else rdFs ((s.data.toList.drop 1).dropLast.length + 1) [] (s.data.toList.drop 1).dropLast by rw [HR.out]; unfold rdAll; rw [if_pos ⟨hh, h2⟩])
      change Hid (∀ wx, Calls Try.prog 55 #[.string (txt (s.data.toList.drop 1)), .string ⟨#[125]⟩] wx fun e w' => e = .returned (.tuple #[.string (txt (s.data.toList.drop 1).dropLast), .bool true]) ∧ w' = wx) at C2
      generalize (s.data.toList.drop 1).dropLast = B at C2 HR2 hbl
      generalize s.data.toList.drop 1 = B1 at CP C2
      have RF := Lib.hid (fun (x : List UInt8) (hx : x.length ≤ 1048576) wx => readField_call (txt x) (by rw [txt_size]; exact hx) wx)
      simp only [txt_toList] at RF
      have CC := Lib.hid (fun (x : List UInt8) wx => Try.strings_CutPrefix (txt x) (txt [44]) wx)
      simp only [txt_toList, cut_head, cut_rest] at CC
      have e44 : txt [44] = ⟨#[44]⟩ := rfl
      rw [e44] at CC
      have hne : (txt B).toList.isEmpty = decide (B = []) := by
        by_cases h : B = []
        · subst h; rw [Lib.toList_data]; rfl
        · rw [decide_eq_false h]; exact not_empty _ (by rw [txt_size]; intro h0; exact h (List.eq_nil_of_length_eq_zero h0))
      clear e44 hh h2 CS HR
      go_enter Try.func35, Try.ntmps35
      go_wp2_with fail
      refine (CP.out _).mono ?_
      rintro e w1 ⟨rfl, rfl⟩
      go_wp2_with fail
      refine (C2.out _).mono ?_
      rintro e w0 ⟨rfl, rfl⟩
      go_wp2
      go_loopw [4, 7, 8] (fun rv v m wr => ∃ (S : List UInt8) (acc : List FieldL), rv = .string (txt S) ∧ acc.length + S.length ≤ s.size ∧ Hid (∀ p ∈ acc, okM p) ∧ wr.ownsRow w0.heap.size 32 4 v acc.length (acc.flatMap fc) ∧ Below w0.heap.size w0 wr ∧
        ((m = .bool true ∧ ∃ n, S.length < n ∧ Hid (R = rdFs n acc S)) ∨ (m = .bool false ∧ Hid (R = if S = [] then some acc else none)))) (fun rv _ m _ => if isTrue m then strSize rv + 1 else 0)
      case atStart =>
        refine ⟨B, [], rfl, by simpa using hbl, Lib.hid (by simp), World.ownsRow_nil w0 _ _ _, Below.refl _ _, ?_⟩
        by_cases hB : B = []
        · exact .inr ⟨by rw [decide_eq_true hB]; rfl, Lib.hid (by rw [HR2.out, if_pos hB, if_pos hB])⟩
        · exact .inl ⟨by rw [decide_eq_false hB]; rfl, B.length + 1, by omega, Lib.hid (by rw [HR2.out, if_neg hB])⟩
      case round =>
        clear CP C2 HR2 hne hbl
        obtain ⟨S, acc, rfl, hlen, hok, hown, hbel, ⟨rfl, n, hn, hr⟩ | ⟨rfl, hr⟩⟩ := hrel
        · have RFS := Lib.hid (fun wx => RF.out S (by omega) wx)
          have hbs := hbel.size
          cases n with
          | zero => omega
          | succ n =>
            have hr2 := hr.out
            rw [rdFs] at hr2
            cases hq : rdF S with
            | none =>
              rw [hq] at hr2 RFS
              simp only [fldV, fc, z0] at RFS
              simp only at hr2
              have HR3 := Lib.hid hr2
              clear hr2 hr
              go_wp2_with fail
              refine (RFS.out _).mono ?_
              rintro e w2 ⟨rfl, b2⟩
              go_wp2
              go_ret2
              exact ⟨_, _, rfl, (bstep hbel b2).alloc (by have := b2.size; omega) _, RP.none_is HR3.out⟩
            | some x =>
              obtain ⟨p, r⟩ := x
              have hrl := rdF_len _ _ _ hq
              have hpok := rdF_okM _ _ _ hq (by omega)
              rw [hq] at hr2 RFS
              simp only [fldV] at RFS
              simp only at hr2
              have HR3 := Lib.hid hr2
              have HOK := Lib.hid (show ∀ q ∈ acc ++ [p], okM q from fun q hq => by
                rcases List.mem_append.1 hq with h | h
                · exact hok.out q h
                · have : q = p := by simpa using h
                  exact this ▸ hpok)
              have C3 := Lib.hid (fun wx => CC.out r wx)
              obtain ⟨pk, pt, pn, pb⟩ := p
              simp only [fc] at RFS
              clear hr2 hr hq hpok hok
              go_wp2_with fail
              refine (RFS.out _).mono ?_
              rintro e w2 ⟨rfl, b2⟩
              have hown2 := ownsRow_below hown b2
              have hbel2 := bstep hbel b2
              clear hown hbel b2
              have HNEW := Lib.hid (show ((w2.alloc (Obj.cells #[.string (txt pk), .string (txt pt), .int .i64 pn, .bool pb] 32)).alloc (Obj.cells #[.string (txt pk), .string (txt pt), .int .i64 pn, .bool pb] 32)).heap[w2.heap.size + 1]? = some (.cells (fc (pk, pt, pn, pb)).toArray 32 (0, 0)) by
                have hx := heap_alloc_new (w2.alloc (Obj.cells #[.string (txt pk), .string (txt pt), .int .i64 pn, .bool pb] 32)) (Obj.cells #[.string (txt pk), .string (txt pt), .int .i64 pn, .bool pb] 32)
                rw [show (w2.alloc (Obj.cells #[.string (txt pk), .string (txt pt), .int .i64 pn, .bool pb] 32)).heap.size = w2.heap.size + 1 by simp] at hx
                exact hx)
              have hbs2 := hbel2.size
              by_cases h44 : r.head? = some 44
              · rw [if_pos h44] at HR3
                have hr1 : (r.drop 1).length < r.length := by
                  cases r with
                  | nil => simp at h44
                  | cons a b => simp
                rw [if_pos h44, decide_eq_true h44] at C3
                change Hid (∀ wx, Calls Try.prog 54 #[.string (txt r), .string ⟨#[44]⟩] wx fun e w' => e = .returned (.tuple #[.string (txt (r.drop 1)), .bool true]) ∧ w' = wx) at C3
                generalize r.drop 1 = r1 at C3 HR3 hr1
                clear h44
                go_wp2_with (at_builtin; refine wpList_append_lies _ rfl _ _ _ rfl w0.heap.size 32 i0 _ 4 48 Try.underlying24 hi hz0 hz1 hz2 rfl (by omega) u7 acc.length (acc.flatMap fc) rfl ((hown2.alloc _).alloc _) ⟨w2.heap.size + 1, 0, none⟩ 1 1 (fc (pk, pt, pn, pb)) rfl rfl (World.news_of_block (cs := (fc (pk, pt, pn, pb)).toArray) (t := 32) (fr := (0, 0)) HNEW.out) (fc_one1 _) (by omega) (by unfold maxLen; omega) (by omega) (by simp; omega) (w2.heap.size + 2) (by simp) ?_; intro gg cap3 w3 own3 hgr3 hat hlt3)
                have own4 : w3.ownsRow w0.heap.size 32 4 (.slice (some ⟨gg, 0, none⟩) (acc.length + 1) cap3) (acc ++ [(pk, pt, pn, pb)]).length ((acc ++ [(pk, pt, pn, pb)]).flatMap fc) := by rw [List.length_append, List.flatMap_append]; simpa using own3
                have hbel3 := ((hbel2.alloc hbs2 (Obj.cells #[.string (txt pk), .string (txt pt), .int .i64 pn, .bool pb] 32)).alloc (by simp; omega) (Obj.cells #[.string (txt pk), .string (txt pt), .int .i64 pn, .bool pb] 32)).grown hgr3 (by simp; omega) (fun j e => (hown2.lt j e).1)
                refine (C3.out _).mono ?_
                rintro e w4 ⟨rfl, rfl⟩
                go_wp2
                go_roundw
                case rel => exact ⟨r1, acc ++ [(pk, pt, pn, pb)], rfl, by rw [List.length_append, List.length_singleton]; omega, HOK, own4, hbel3, .inl ⟨rfl, n, by omega, HR3⟩⟩
                case measure => simp [isTrue, strSize, txt_size]; omega
              · rw [if_neg h44] at HR3
                rw [if_neg h44, decide_eq_false h44] at C3
                change Hid (∀ wx, Calls Try.prog 54 #[.string (txt r), .string ⟨#[44]⟩] wx fun e w' => e = .returned (.tuple #[.string (txt r), .bool false]) ∧ w' = wx) at C3
                clear h44
                go_wp2_with (at_builtin; refine wpList_append_lies _ rfl _ _ _ rfl w0.heap.size 32 i0 _ 4 48 Try.underlying24 hi hz0 hz1 hz2 rfl (by omega) u7 acc.length (acc.flatMap fc) rfl ((hown2.alloc _).alloc _) ⟨w2.heap.size + 1, 0, none⟩ 1 1 (fc (pk, pt, pn, pb)) rfl rfl (World.news_of_block (cs := (fc (pk, pt, pn, pb)).toArray) (t := 32) (fr := (0, 0)) HNEW.out) (fc_one1 _) (by omega) (by unfold maxLen; omega) (by omega) (by simp; omega) (w2.heap.size + 2) (by simp) ?_; intro gg cap3 w3 own3 hgr3 hat hlt3)
                have own4 : w3.ownsRow w0.heap.size 32 4 (.slice (some ⟨gg, 0, none⟩) (acc.length + 1) cap3) (acc ++ [(pk, pt, pn, pb)]).length ((acc ++ [(pk, pt, pn, pb)]).flatMap fc) := by rw [List.length_append, List.flatMap_append]; simpa using own3
                have hbel3 := ((hbel2.alloc hbs2 (Obj.cells #[.string (txt pk), .string (txt pt), .int .i64 pn, .bool pb] 32)).alloc (by simp; omega) (Obj.cells #[.string (txt pk), .string (txt pt), .int .i64 pn, .bool pb] 32)).grown hgr3 (by simp; omega) (fun j e => (hown2.lt j e).1)
                refine (C3.out _).mono ?_
                rintro e w4 ⟨rfl, rfl⟩
                go_wp2
                go_roundw
                case rel => exact ⟨r, acc ++ [(pk, pt, pn, pb)], rfl, by rw [List.length_append, List.length_singleton]; omega, HOK, own4, hbel3, .inr ⟨rfl, HR3⟩⟩
                case measure => simp [isTrue]
        · by_cases hS : S = []
          · rw [if_pos hS] at hr
            subst hS
            have e0 : txt [] = ⟨#[]⟩ := rfl
            rw [e0]
            go_wp2
            go_ret2
            exact ⟨_, _, rfl, hbel, RP.some_is hr.out hown (by simp at hlen; exact hlen) hok.out⟩
          · rw [if_neg hS] at hr
            have hne2 := not_empty (txt S) (by rw [txt_size]; intro h0; exact hS (List.eq_nil_of_length_eq_zero h0))
            clear hS
            go_wp2
            go_ret2
            exact ⟨_, _, rfl, hbel, RP.none_is hr.out⟩
    · rw [decide_eq_false h2] at C2
      have HR2 := Lib.hid (show R = none by rw [HR.out]; unfold rdAll; rw [if_neg (fun h => h2 h.2)])
      clear h2 hdl1
      generalize s.data.toList.drop 1 = B1 at CP C2
      generalize (⟨(Lib.trimSuffix B1 [125]).toArray⟩ : ByteArray) = S2 at C2
      go_enter Try.func35, Try.ntmps35
      go_wp2_with fail
      refine (CP.out _).mono ?_
      rintro e w1 ⟨rfl, rfl⟩
      go_wp2_with fail
      refine (C2.out _).mono ?_
      rintro e w0 ⟨rfl, rfl⟩
      go_wp2
      go_ret2
      exact ⟨_, _, rfl, Below.refl _ _, RP.none_is HR2.out⟩
  · have HR2 := Lib.hid (show R = none by rw [HR.out]; unfold rdAll; rw [if_neg (fun h => hh h.1)])
    rw [if_neg hh, decide_eq_false hh] at CP
    have C2 := Lib.hid (fun wx => CS.out (⟨s.data.toList.toArray⟩) (by show s.data.toList.toArray.size ≤ _; simp; show s.size ≤ _; omega) wx)
    generalize (⟨s.data.toList.toArray⟩ : ByteArray) = S1 at CP C2
    go_enter Try.func35, Try.ntmps35
    go_wp2_with fail
    refine (CP.out _).mono ?_
    rintro e w1 ⟨rfl, rfl⟩
    go_wp2_with fail
    refine (C2.out _).mono ?_
    rintro e w0 ⟨rfl, rfl⟩
    go_wp2
    go_ret2
    exact ⟨_, _, rfl, Below.refl _ _, RP.none_is HR2.out⟩

theorem getF_none {s : List UInt8} (h : s.length ≤ 8000) (hq : rdAll s = none) : getF s = none := by unfold getF; rw [if_pos h, hq]

theorem getF_some {s : List UInt8} {l : List FieldL} (h : s.length ≤ 8000) (hq : rdAll s = some l) : getF s = if fieldsR l then some l else none := by unfold getF; rw [if_pos h, hq]

def gotL (s : List UInt8) : List FieldL := (getF s).getD []

set_option maxHeartbeats 800000 in
theorem getFields_impl (s : ByteArray) (hs : s.size ≤ 1048576) (w : World) :
    Calls Try.prog 20 #[.string s] w fun e w' => ∃ v, e = .returned (.tuple #[v, .bool (getF s.data.toList).isSome]) ∧ w'.ownsRow w.heap.size 32 4 v (gotL s.data.toList).length ((gotL s.data.toList).flatMap fc) ∧ Below w.heap.size w w' := by
  have hdl := data_length s
  obtain ⟨L, hL⟩ : ∃ L, L = gotL s.data.toList := ⟨_, rfl⟩
  obtain ⟨B, hB⟩ : ∃ B, B = (getF s.data.toList).isSome := ⟨_, rfl⟩
  rw [← hL, ← hB]
  have HL := Lib.hid hL
  have HB := Lib.hid hB
  clear hL hB
  by_cases h8 : s.size ≤ 8000
  · have RF := Lib.hid (fun wx => readFields_call s hs wx)
    cases hq : rdAll s.data.toList with
    | none =>
      have HG := Lib.hid (getF_none (s := s.data.toList) (by omega) hq)
      rw [hq] at RF
      have HL2 := Lib.hid (show L = [] by rw [HL.out, gotL, HG.out]; rfl)
      have HB2 := Lib.hid (show B = false by rw [HB.out, HG.out]; rfl)
      clear HG hq HL HB
      go_enter Try.func20, Try.ntmps20
      go_wp2_with fail
      refine (RF.out _).mono ?_
      rintro e w1 ⟨v, b, rfl, b1, hb⟩
      have hb : b = false := hb
      subst hb
      go_wp2
      go_ret2
      exact ⟨_, by rw [HB2.out]; rfl, by rw [HL2.out]; exact World.ownsRow_nil w1 _ _ _, b1⟩
    | some l =>
      have HG := Lib.hid (getF_some (s := s.data.toList) (by omega) hq)
      rw [hq] at RF
      cases hf : fieldsR l with
      | true =>
        have HL2 := Lib.hid (show L = l by rw [HL.out, gotL, HG.out]; simp [hf])
        have HB2 := Lib.hid (show B = true by rw [HB.out, HG.out]; simp [hf])
        clear HG hq HL HB
        go_enter Try.func20, Try.ntmps20
        go_wp2_with fail
        refine (RF.out _).mono ?_
        rintro e w1 ⟨v, b, rfl, b1, hb⟩
        obtain ⟨rfl, hown, hll, hm⟩ : b = true ∧ w1.ownsRow w.heap.size 32 4 v l.length (l.flatMap fc) ∧ l.length ≤ s.size ∧ ∀ p ∈ l, okM p := hb
        have F := Lib.hid (fun wx hx => fieldsOk_impl v l wx hx (by omega) hm)
        rw [hf] at F
        clear hf hm
        go_wp2_with fail
        refine (F.out _ (Grid.GAt.own fc_len hown)).mono ?_
        rintro e w2 ⟨rfl, b2⟩
        go_wp2
        go_ret2
        exact ⟨_, by rw [HB2.out]; rfl, by rw [HL2.out]; exact ownsRow_below hown b2, bstep b1 b2⟩
      | false =>
        have HL2 := Lib.hid (show L = [] by rw [HL.out, gotL, HG.out]; simp [hf])
        have HB2 := Lib.hid (show B = false by rw [HB.out, HG.out]; simp [hf])
        clear HG hq HL HB
        go_enter Try.func20, Try.ntmps20
        go_wp2_with fail
        refine (RF.out _).mono ?_
        rintro e w1 ⟨v, b, rfl, b1, hb⟩
        obtain ⟨rfl, hown, hll, hm⟩ : b = true ∧ w1.ownsRow w.heap.size 32 4 v l.length (l.flatMap fc) ∧ l.length ≤ s.size ∧ ∀ p ∈ l, okM p := hb
        have F := Lib.hid (fun wx hx => fieldsOk_impl v l wx hx (by omega) hm)
        rw [hf] at F
        clear hf hm
        go_wp2_with fail
        refine (F.out _ (Grid.GAt.own fc_len hown)).mono ?_
        rintro e w2 ⟨rfl, b2⟩
        go_wp2
        go_ret2
        exact ⟨_, by rw [HB2.out]; rfl, by rw [HL2.out]; exact World.ownsRow_nil w2 _ _ _, bstep b1 b2⟩
  · have HG := Lib.hid (show getF s.data.toList = none by unfold getF; rw [if_neg (by omega)])
    have HL2 := Lib.hid (show L = [] by rw [HL.out, gotL, HG.out]; rfl)
    have HB2 := Lib.hid (show B = false by rw [HB.out, HG.out]; rfl)
    go_enter Try.func20, Try.ntmps20
    go_wp2
    go_ret2
    exact ⟨_, by rw [HB2.out]; rfl, by rw [HL2.out]; exact World.ownsRow_nil w _ _ _, Below.refl _ _⟩

end Fld

end Go.Proofs.Ytljifooeokhgeaa
