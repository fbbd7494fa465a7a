/- CONTRACT of the model's GetFields. -/
import Derived.Test.YtljifooeokhgeaaFldV
namespace Go.Proofs.Ytljifooeokhgeaa
set_option linter.unusedVariables false
set_option maxRecDepth 4000
open Go.ChangeShapes Go.WideShapes Go.ChangeAt Go.RowKit
open Go.ChangeMaps (open_string shut_string)

namespace Fld

set_option maxHeartbeats 1600000 in
theorem getFields_spec (s : ByteArray) (hs : s.size ≤ 1048576) (w : World) :
    Calls Try.prog 19 #[.string s] w fun e w' => ∃ v, e = .returned (.tuple #[v, .bool (getF s.data.toList).isSome]) ∧ w'.ownsRow w.heap.size 32 4 v (gotL s.data.toList).length ((gotL s.data.toList).flatMap fc) ∧ Below w.heap.size w w' := by
  obtain ⟨i0, hi, hz0, hz1, hz2⟩ := info_parts Try.info32
  have hdl := data_length s
  have HST := Lib.hid (show s = txt s.data.toList from rfl)
  have own0 : (w.alloc (.cells #[] 32)).ownsRow w.heap.size 32 4 (.slice (some ⟨w.heap.size, 0, none⟩) 0 0) 0 [] := World.ownsRow_made w #[] 0 (Nat.le_refl _) (by simp) rfl
  have bel0 : Below w.heap.size w (w.alloc (.cells #[] 32)) := (Below.refl _ w).alloc (Nat.le_refl _) _
  have OWN0 := Lib.hid own0
  have BEL0 := Lib.hid bel0
  clear own0 bel0
  obtain ⟨L, hL⟩ : ∃ L, L = gotL s.data.toList := ⟨_, rfl⟩
  obtain ⟨B, hB⟩ : ∃ B, B = (getF s.data.toList).isSome := ⟨_, rfl⟩
  rw [← hL, ← hB]
  have HL := Lib.hid hL
  have HB := Lib.hid hB
  clear hL hB
  by_cases hem : s.data.toList = [123, 125]
  · have HL2 := Lib.hid (show L = [] by rw [HL.out, gotL, hem]; rfl)
    have HB2 := Lib.hid (show B = true by rw [HB.out, hem]; rfl)
    have hbeq0 : (s.toList == [123, 125]) = true := by
      rw [Lib.toList_data, hem]; rfl
    clear hem
    go_enter Try.func19, Try.ntmps19
    go_wp2
    go_ret2
    exact ⟨_, by rw [HB2.out]; rfl, by rw [HL2.out]; exact OWN0.out, BEL0.out⟩
  · have hbeq0 : (s.toList == [123, 125]) = false := by
      rw [Lib.toList_data]; exact beq_eq_false_iff_ne.2 hem
    clear hem
    by_cases hgo : 2 ≤ s.size ∧ s.size ≤ 8000 ∧ s.data.toList.head? = some 123
    · obtain ⟨h2, h8, hh⟩ := hgo
      have hlt0 : 0 < s.size := by omega
      have h256 : s[0].toNat < 256 := s[0].toNat_lt
      have hh0 : s[0] = 123 := by
        have := drop_cons s 0 hlt0
        rw [List.drop_zero] at this
        rw [this, List.head?_cons] at hh
        simpa using hh
      have h123 : (((s[0].toNat : Nat) : Int) != 123) = false := by rw [hh0]; rfl
      have hc1 : ¬ ((s.size : Int) < 2) := by omega
      have hc2 : ¬ ((8000 : Int) < (s.size : Int)) := by omega
      have hc3 : (0 : Int) < (s.size : Int) := by omega
      have own1 : ((w.alloc (.cells #[] 32)).alloc (.cells #[] 32)).ownsRow (w.heap.size + 1) 32 4 (.slice (some ⟨w.heap.size + 1, 0, none⟩) 0 0) 0 [] := by
        have := World.ownsRow_made (base := w.heap.size + 1) (e := 32) (size := 4) (w.alloc (.cells #[] 32)) #[] 0 (by simp) (by simp) rfl
        simpa using this
      have OWN1 := Lib.hid own1
      clear own1 hh hh0
      go_enter Try.func19, Try.ntmps19
      go_wp2
      clear hbeq0 h123 h256 hc1 hc2
      go_loopw [5, 6] (fun v q wr => ∃ (acc : List FieldL) (k : Nat), k ≤ s.size ∧ q = .int .i64 k ∧ acc.length ≤ 21 ∧ Hid (Inv s.data.toList acc k) ∧ Hid (∀ p ∈ acc, okM p) ∧ wr.ownsRow (w.heap.size + 1) 32 4 v acc.length (acc.flatMap fc) ∧ Below (w.heap.size + 1) (w.alloc (.cells #[] 32)) wr) (fun _ q _ => s.size - (intOf q).toNat)
      case atStart => exact ⟨[], 1, by omega, rfl, by simp, Lib.hid (Inv.start _), Lib.hid (by simp), OWN1.out, (Below.refl _ (w.alloc (.cells #[] 32))).alloc (by simp) _⟩
      case round =>
        clear OWN1
        obtain ⟨acc, k, hk, rfl, hacc, hinv, hok, hown, hbel⟩ := hrel
        obtain ⟨a, cap, rfl⟩ := Grid.own_val hown
        have hbs : w.heap.size + 1 ≤ wr.heap.size := by have := hbel.size; simpa using this
        by_cases hlt : k < s.size
        · have h256 : s[k].toNat < 256 := s[k].toNat_lt
          have hk0 : (0 : Int) ≤ (k : Int) := by omega
          have hk1 : (k : Int) < (s.size : Int) := by omega
          by_cases hc : s[k] = 125
          · have hci : (((s[k].toNat : Nat) : Int) != 125) = false := by rw [hc]; rfl
            have HD := Lib.hid (hinv.out.done (.inr (.inl ⟨by omega, hc⟩)))
            have P := Lib.hid (fun wx hx => put_spec (.slice a acc.length cap) acc wx hx (by omega) hok.out)
            clear hinv hok hc
            by_cases hp : putFL acc = s.data.toList
            · have HG := Lib.hid (fin_yes hp (by omega) (by omega))
              have HL2 := Lib.hid (show L = acc by rw [HL.out, gotL, HG.out]; rfl)
              have HB2 := Lib.hid (show B = true by rw [HB.out, HG.out]; rfl)
              have hbeq : ((txt (putFL acc)).toList == s.toList) = true := by
                conv => lhs; rw [HST.out]
                rw [txt_beq, decide_eq_true hp]
              clear hp HG HL HB HD
              generalize putFL acc = z at P hbeq
              go_wp2_with fail
              refine (P.out _ (Grid.GAt.own fc_len hown)).mono ?_
              rintro e w2 ⟨rfl, b2⟩
              go_wp2
              go_ret2
              exact ⟨_, by rw [HB2.out]; rfl, by rw [HL2.out]; exact Grid.own_lower (ownsRow_below hown b2) (by omega), BEL0.out.trans ((hbel.trans (b2.mono hbs)).mono (by omega))⟩
            · have HG := Lib.hid (fin_no hp HD.out)
              have HL2 := Lib.hid (show L = [] by rw [HL.out, gotL, HG.out]; rfl)
              have HB2 := Lib.hid (show B = false by rw [HB.out, HG.out]; rfl)
              have hbeq : ((txt (putFL acc)).toList == s.toList) = false := by
                conv => lhs; rw [HST.out]
                rw [txt_beq, decide_eq_false hp]
              clear hp HG HL HB HD
              generalize putFL acc = z at P hbeq
              go_wp2_with fail
              refine (P.out _ (Grid.GAt.own fc_len hown)).mono ?_
              rintro e w2 ⟨rfl, b2⟩
              go_wp2
              go_ret2
              exact ⟨_, by rw [HB2.out]; rfl, by rw [HL2.out]; exact ownsRow_below OWN0.out (by rw [show (w.alloc (.cells #[] 32)).heap.size = w.heap.size + 1 by simp]; exact hbel.trans (b2.mono hbs)), BEL0.out.trans ((hbel.trans (b2.mono hbs)).mono (by omega))⟩
          · have hci : (((s[k].toNat : Nat) : Int) != 125) = true := by
              rw [bne_iff_ne]
              exact fun h => hc (UInt8.toNat_inj.1 (by show s[k].toNat = 125; omega))
            by_cases h21 : acc.length < 21
            · have hl21 : (acc.length : Int) < 21 := by omega
              have h125 : s.data.toList[k]'(by omega) ≠ 125 := hc
              clear hc
              by_cases ha : acc = []
              · have hl0 : ¬ ((0 : Int) < (acc.length : Int)) := by rw [ha]; simp
                have O := Lib.hid (fun wx => one_spec s k hs (by omega) wx)
                cases ho : oneM (s.data.toList.drop k) with
                | none =>
                  have HG := Lib.hid (hinv.out.no (by omega) h125 (by rw [if_pos ha]; exact ho))
                  have HL2 := Lib.hid (show L = [] by rw [HL.out, gotL, HG.out]; rfl)
                  have HB2 := Lib.hid (show B = false by rw [HB.out, HG.out]; rfl)
                  rw [ho] at O
                  clear ho HG HL HB h125 hinv ha
                  go_wp2_with fail
                  refine (O.out _).mono ?_
                  rintro e w2 ⟨⟨p, n, he, hn⟩, b2⟩
                  have hn : n = -1 := hn
                  subst hn
                  obtain ⟨pk, pt, pn, pb⟩ := p
                  simp only [fc] at he
                  subst he
                  have hbel2 := hbel.trans (b2.mono hbs)
                  have hbs2 := Nat.le_trans hbs b2.size
                  clear b2 O
                  go_wp2
                  go_ret2
                  have hbel3 := hbel2.alloc hbs2 (Obj.cells #[.string (txt pk), .string (txt pt), .int .i64 pn, .bool pb] 32)
                  exact ⟨_, by rw [HB2.out]; rfl, by rw [HL2.out]; exact ownsRow_below OWN0.out (by rw [show (w.alloc (.cells #[] 32)).heap.size = w.heap.size + 1 by simp]; exact hbel3), BEL0.out.trans (hbel3.mono (by omega))⟩
                | some x =>
                  obtain ⟨q, r⟩ := x
                  obtain ⟨hrl, hqok⟩ := oneM_len _ _ _ ho (by rw [List.length_drop]; omega)
                  rw [List.length_drop, hdl] at hrl
                  have HINV := Lib.hid (hinv.out.yes (by omega) h125 (by rw [if_pos ha]; exact ho))
                  have HOK := Lib.hid (show ∀ p ∈ acc ++ [q], okM p from fun p hp => by
                    rcases List.mem_append.1 hp with h | h
                    · exact hok.out p h
                    · have : p = q := by simpa using h
                      exact this ▸ hqok)
                  rw [hdl] at HINV
                  rw [ho] at O
                  obtain ⟨m, hm⟩ : ∃ m, m = s.size - r.length := ⟨_, rfl⟩
                  rw [← hm] at HINV
                  have HM := Lib.hid hm
                  have hm1 : m ≤ s.size := by omega
                  have hm2 : k < m := by omega
                  clear ho hqok hinv hok h125 hrl hm ha
                  go_wp2_with fail
                  refine (O.out _).mono ?_
                  rintro e w2 ⟨⟨p, n, he, hn⟩, b2⟩
                  obtain ⟨rfl, rfl⟩ : p = q ∧ n = ((s.size - r.length : Nat) : Int) := hn
                  rw [← HM.out] at he
                  obtain ⟨pk, pt, pn, pb⟩ := p
                  simp only [fc] at he
                  subst he
                  have hm0 : ¬ (m : Int) < 0 := by omega
                  have hown2 := ownsRow_below hown b2
                  have hbel2 := hbel.trans (b2.mono hbs)
                  have hbs2 := Nat.le_trans hbs b2.size
                  clear hown hbel b2 O hbs
                  have HNEW := Lib.hid (show ((w2.alloc (Obj.cells #[.string (txt pk), .string (txt pt), .int .i64 pn, .bool pb] 32)).alloc (Obj.cells #[.string (txt pk), .string (txt pt), .int .i64 pn, .bool pb] 32)).heap[w2.heap.size + 1]? = some (.cells (fc (pk, pt, pn, pb)).toArray 32 (0, 0)) by
                    have hx := heap_alloc_new (w2.alloc (Obj.cells #[.string (txt pk), .string (txt pt), .int .i64 pn, .bool pb] 32)) (Obj.cells #[.string (txt pk), .string (txt pt), .int .i64 pn, .bool pb] 32)
                    rw [show (w2.alloc (Obj.cells #[.string (txt pk), .string (txt pt), .int .i64 pn, .bool pb] 32)).heap.size = w2.heap.size + 1 by simp] at hx
                    exact hx)
                  go_wp2_with (at_builtin; refine wpList_append_lies _ rfl _ _ _ rfl (w.heap.size + 1) 32 i0 _ 4 48 Try.underlying24 hi hz0 hz1 hz2 rfl (by omega) (.slice a acc.length cap) acc.length (acc.flatMap fc) rfl ((hown2.alloc _).alloc _) ⟨w2.heap.size + 1, 0, none⟩ 1 1 (fc (pk, pt, pn, pb)) rfl rfl (World.news_of_block (cs := (fc (pk, pt, pn, pb)).toArray) (t := 32) (fr := (0, 0)) HNEW.out) (fc_one1 _) (by omega) (by unfold maxLen; omega) (by omega) (by simp; omega) (w2.heap.size + 2) (by simp) ?_; intro gg cap3 w3 own3 hgr3 hat hlt3)
                  have own4 : w3.ownsRow (w.heap.size + 1) 32 4 (.slice (some ⟨gg, 0, none⟩) (acc.length + 1) cap3) (acc ++ [(pk, pt, pn, pb)]).length ((acc ++ [(pk, pt, pn, pb)]).flatMap fc) := by rw [List.length_append, List.flatMap_append]; simpa using own3
                  have hbel3 := ((hbel2.alloc hbs2 (Obj.cells #[.string (txt pk), .string (txt pt), .int .i64 pn, .bool pb] 32)).alloc (by simp; omega) (Obj.cells #[.string (txt pk), .string (txt pt), .int .i64 pn, .bool pb] 32)).grown hgr3 (by simp; omega) (fun j e => (hown2.lt j e).1)
                  go_roundw
                  case rel => exact ⟨acc ++ [(pk, pt, pn, pb)], m, hm1, by go_num, by rw [List.length_append, List.length_singleton]; omega, HINV, HOK, own4, hbel3⟩
                  case measure => simp [intOf]; omega
              · have hl0 : (0 : Int) < (acc.length : Int) := by
                  have : acc.length ≠ 0 := fun h => ha (List.eq_nil_of_length_eq_zero h)
                  omega
                have O := Lib.hid (fun wx => one_spec s (k + 1) hs (by omega) wx)
                have hcast : ((k + 1 : Nat) : Int) = (k : Int) + 1 := by omega
                rw [hcast] at O
                cases ho : oneM (s.data.toList.drop (k + 1)) with
                | none =>
                  have HG := Lib.hid (hinv.out.no (by omega) h125 (by rw [if_neg ha]; exact ho))
                  have HL2 := Lib.hid (show L = [] by rw [HL.out, gotL, HG.out]; rfl)
                  have HB2 := Lib.hid (show B = false by rw [HB.out, HG.out]; rfl)
                  rw [ho] at O
                  clear ho HG HL HB h125 hinv ha
                  go_wp2_with fail
                  refine (O.out _).mono ?_
                  rintro e w2 ⟨⟨p, n, he, hn⟩, b2⟩
                  have hn : n = -1 := hn
                  subst hn
                  obtain ⟨pk, pt, pn, pb⟩ := p
                  simp only [fc] at he
                  subst he
                  have hbel2 := hbel.trans (b2.mono hbs)
                  have hbs2 := Nat.le_trans hbs b2.size
                  clear b2 O
                  go_wp2
                  go_ret2
                  have hbel3 := hbel2.alloc hbs2 (Obj.cells #[.string (txt pk), .string (txt pt), .int .i64 pn, .bool pb] 32)
                  exact ⟨_, by rw [HB2.out]; rfl, by rw [HL2.out]; exact ownsRow_below OWN0.out (by rw [show (w.alloc (.cells #[] 32)).heap.size = w.heap.size + 1 by simp]; exact hbel3), BEL0.out.trans (hbel3.mono (by omega))⟩
                | some x =>
                  obtain ⟨q, r⟩ := x
                  obtain ⟨hrl, hqok⟩ := oneM_len _ _ _ ho (by rw [List.length_drop]; omega)
                  rw [List.length_drop, hdl] at hrl
                  have HINV := Lib.hid (hinv.out.yes (by omega) h125 (by rw [if_neg ha]; exact ho))
                  have HOK := Lib.hid (show ∀ p ∈ acc ++ [q], okM p from fun p hp => by
                    rcases List.mem_append.1 hp with h | h
                    · exact hok.out p h
                    · have : p = q := by simpa using h
                      exact this ▸ hqok)
                  rw [hdl] at HINV
                  rw [ho] at O
                  obtain ⟨m, hm⟩ : ∃ m, m = s.size - r.length := ⟨_, rfl⟩
                  rw [← hm] at HINV
                  have HM := Lib.hid hm
                  have hm1 : m ≤ s.size := by omega
                  have hm2 : k < m := by omega
                  clear ho hqok hinv hok h125 hrl hm ha
                  go_wp2_with fail
                  refine (O.out _).mono ?_
                  rintro e w2 ⟨⟨p, n, he, hn⟩, b2⟩
                  obtain ⟨rfl, rfl⟩ : p = q ∧ n = ((s.size - r.length : Nat) : Int) := hn
                  rw [← HM.out] at he
                  obtain ⟨pk, pt, pn, pb⟩ := p
                  simp only [fc] at he
                  subst he
                  have hm0 : ¬ (m : Int) < 0 := by omega
                  have hown2 := ownsRow_below hown b2
                  have hbel2 := hbel.trans (b2.mono hbs)
                  have hbs2 := Nat.le_trans hbs b2.size
                  clear hown hbel b2 O hbs
                  have HNEW := Lib.hid (show ((w2.alloc (Obj.cells #[.string (txt pk), .string (txt pt), .int .i64 pn, .bool pb] 32)).alloc (Obj.cells #[.string (txt pk), .string (txt pt), .int .i64 pn, .bool pb] 32)).heap[w2.heap.size + 1]? = some (.cells (fc (pk, pt, pn, pb)).toArray 32 (0, 0)) by
                    have hx := heap_alloc_new (w2.alloc (Obj.cells #[.string (txt pk), .string (txt pt), .int .i64 pn, .bool pb] 32)) (Obj.cells #[.string (txt pk), .string (txt pt), .int .i64 pn, .bool pb] 32)
                    rw [show (w2.alloc (Obj.cells #[.string (txt pk), .string (txt pt), .int .i64 pn, .bool pb] 32)).heap.size = w2.heap.size + 1 by simp] at hx
                    exact hx)
                  go_wp2_with (at_builtin; refine wpList_append_lies _ rfl _ _ _ rfl (w.heap.size + 1) 32 i0 _ 4 48 Try.underlying24 hi hz0 hz1 hz2 rfl (by omega) (.slice a acc.length cap) acc.length (acc.flatMap fc) rfl ((hown2.alloc _).alloc _) ⟨w2.heap.size + 1, 0, none⟩ 1 1 (fc (pk, pt, pn, pb)) rfl rfl (World.news_of_block (cs := (fc (pk, pt, pn, pb)).toArray) (t := 32) (fr := (0, 0)) HNEW.out) (fc_one1 _) (by omega) (by unfold maxLen; omega) (by omega) (by simp; omega) (w2.heap.size + 2) (by simp) ?_; intro gg cap3 w3 own3 hgr3 hat hlt3)
                  have own4 : w3.ownsRow (w.heap.size + 1) 32 4 (.slice (some ⟨gg, 0, none⟩) (acc.length + 1) cap3) (acc ++ [(pk, pt, pn, pb)]).length ((acc ++ [(pk, pt, pn, pb)]).flatMap fc) := by rw [List.length_append, List.flatMap_append]; simpa using own3
                  have hbel3 := ((hbel2.alloc hbs2 (Obj.cells #[.string (txt pk), .string (txt pt), .int .i64 pn, .bool pb] 32)).alloc (by simp; omega) (Obj.cells #[.string (txt pk), .string (txt pt), .int .i64 pn, .bool pb] 32)).grown hgr3 (by simp; omega) (fun j e => (hown2.lt j e).1)
                  go_roundw
                  case rel => exact ⟨acc ++ [(pk, pt, pn, pb)], m, hm1, by go_num, by rw [List.length_append, List.length_singleton]; omega, HINV, HOK, own4, hbel3⟩
                  case measure => simp [intOf]; omega
            · have hl21 : ¬ ((acc.length : Int) < 21) := by omega
              clear hc
              have HD := Lib.hid (hinv.out.done (.inr (.inr (by omega))))
              have P := Lib.hid (fun wx hx => put_spec (.slice a acc.length cap) acc wx hx (by omega) hok.out)
              clear hinv hok
              by_cases hp : putFL acc = s.data.toList
              · have HG := Lib.hid (fin_yes hp (by omega) (by omega))
                have HL2 := Lib.hid (show L = acc by rw [HL.out, gotL, HG.out]; rfl)
                have HB2 := Lib.hid (show B = true by rw [HB.out, HG.out]; rfl)
                have hbeq : ((txt (putFL acc)).toList == s.toList) = true := by
                  conv => lhs; rw [HST.out]
                  rw [txt_beq, decide_eq_true hp]
                clear hp HG HL HB HD
                generalize putFL acc = z at P hbeq
                go_wp2_with fail
                refine (P.out _ (Grid.GAt.own fc_len hown)).mono ?_
                rintro e w2 ⟨rfl, b2⟩
                go_wp2
                go_ret2
                exact ⟨_, by rw [HB2.out]; rfl, by rw [HL2.out]; exact Grid.own_lower (ownsRow_below hown b2) (by omega), BEL0.out.trans ((hbel.trans (b2.mono hbs)).mono (by omega))⟩
              · have HG := Lib.hid (fin_no hp HD.out)
                have HL2 := Lib.hid (show L = [] by rw [HL.out, gotL, HG.out]; rfl)
                have HB2 := Lib.hid (show B = false by rw [HB.out, HG.out]; rfl)
                have hbeq : ((txt (putFL acc)).toList == s.toList) = false := by
                  conv => lhs; rw [HST.out]
                  rw [txt_beq, decide_eq_false hp]
                clear hp HG HL HB HD
                generalize putFL acc = z at P hbeq
                go_wp2_with fail
                refine (P.out _ (Grid.GAt.own fc_len hown)).mono ?_
                rintro e w2 ⟨rfl, b2⟩
                go_wp2
                go_ret2
                exact ⟨_, by rw [HB2.out]; rfl, by rw [HL2.out]; exact ownsRow_below OWN0.out (by rw [show (w.alloc (.cells #[] 32)).heap.size = w.heap.size + 1 by simp]; exact hbel.trans (b2.mono hbs)), BEL0.out.trans ((hbel.trans (b2.mono hbs)).mono (by omega))⟩
        · have hk0 : (0 : Int) ≤ (k : Int) := by omega
          have hk1 : ¬ ((k : Int) < (s.size : Int)) := by omega
          have HD := Lib.hid (hinv.out.done (.inl (by omega)))
          have P := Lib.hid (fun wx hx => put_spec (.slice a acc.length cap) acc wx hx (by omega) hok.out)
          clear hinv hok
          by_cases hp : putFL acc = s.data.toList
          · have HG := Lib.hid (fin_yes hp (by omega) (by omega))
            have HL2 := Lib.hid (show L = acc by rw [HL.out, gotL, HG.out]; rfl)
            have HB2 := Lib.hid (show B = true by rw [HB.out, HG.out]; rfl)
            have hbeq : ((txt (putFL acc)).toList == s.toList) = true := by
              conv => lhs; rw [HST.out]
              rw [txt_beq, decide_eq_true hp]
            clear hp HG HL HB HD
            generalize putFL acc = z at P hbeq
            go_wp2_with fail
            refine (P.out _ (Grid.GAt.own fc_len hown)).mono ?_
            rintro e w2 ⟨rfl, b2⟩
            go_wp2
            go_ret2
            exact ⟨_, by rw [HB2.out]; rfl, by rw [HL2.out]; exact Grid.own_lower (ownsRow_below hown b2) (by omega), BEL0.out.trans ((hbel.trans (b2.mono hbs)).mono (by omega))⟩
          · have HG := Lib.hid (fin_no hp HD.out)
            have HL2 := Lib.hid (show L = [] by rw [HL.out, gotL, HG.out]; rfl)
            have HB2 := Lib.hid (show B = false by rw [HB.out, HG.out]; rfl)
            have hbeq : ((txt (putFL acc)).toList == s.toList) = false := by
              conv => lhs; rw [HST.out]
              rw [txt_beq, decide_eq_false hp]
            clear hp HG HL HB HD
            generalize putFL acc = z at P hbeq
            go_wp2_with fail
            refine (P.out _ (Grid.GAt.own fc_len hown)).mono ?_
            rintro e w2 ⟨rfl, b2⟩
            go_wp2
            go_ret2
            exact ⟨_, by rw [HB2.out]; rfl, by rw [HL2.out]; exact ownsRow_below OWN0.out (by rw [show (w.alloc (.cells #[] 32)).heap.size = w.heap.size + 1 by simp]; exact hbel.trans (b2.mono hbs)), BEL0.out.trans ((hbel.trans (b2.mono hbs)).mono (by omega))⟩
    · have HG := Lib.hid (show getF s.data.toList = none from Classical.byContradiction fun h => hgo (by have := getF_head _ h; rw [hdl] at this; exact this))
      have HL2 := Lib.hid (show L = [] by rw [HL.out, gotL, HG.out]; rfl)
      have HB2 := Lib.hid (show B = false by rw [HB.out, HG.out]; rfl)
      clear HG HL HB
      by_cases h2 : 2 ≤ s.size
      · have hc1 : ¬ ((s.size : Int) < 2) := by omega
        by_cases h8 : s.size ≤ 8000
        · have hc2 : ¬ ((8000 : Int) < (s.size : Int)) := by omega
          have hc3 : (0 : Int) < (s.size : Int) := by omega
          have hlt0 : 0 < s.size := by omega
          have h256 : s[0].toNat < 256 := s[0].toNat_lt
          have h123 : (((s[0].toNat : Nat) : Int) != 123) = true := by
            rw [bne_iff_ne]
            intro h
            have h : s[0] = 123 := UInt8.toNat_inj.1 (by show s[0].toNat = 123; omega)
            apply hgo
            refine ⟨h2, h8, ?_⟩
            have := drop_cons s 0 hlt0
            rw [List.drop_zero] at this
            rw [this, List.head?_cons, h]
          clear hgo
          go_enter Try.func19, Try.ntmps19
          go_wp2
          go_ret2
          exact ⟨_, by rw [HB2.out]; rfl, by rw [HL2.out]; exact OWN0.out, BEL0.out⟩
        · have hc2 : (8000 : Int) < (s.size : Int) := by omega
          clear hgo
          go_enter Try.func19, Try.ntmps19
          go_wp2
          go_ret2
          exact ⟨_, by rw [HB2.out]; rfl, by rw [HL2.out]; exact OWN0.out, BEL0.out⟩
      · have hc1 : (s.size : Int) < 2 := by omega
        clear hgo
        go_enter Try.func19, Try.ntmps19
        go_wp2
        go_ret2
        exact ⟨_, by rw [HB2.out]; rfl, by rw [HL2.out]; exact OWN0.out, BEL0.out⟩

end Fld

end Go.Proofs.Ytljifooeokhgeaa
