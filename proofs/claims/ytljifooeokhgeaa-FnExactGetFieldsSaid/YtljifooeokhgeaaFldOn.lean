/- CONTRACT of the model's l04One. -/
import Derived.Test.YtljifooeokhgeaaFldO
namespace Go.Proofs.Ytljifooeokhgeaa
set_option linter.unusedVariables false
set_option maxRecDepth 4000
open Go.ChangeShapes Go.WideShapes Go.ChangeAt Go.RowKit
open Go.ChangeMaps (open_string shut_string)

namespace Fld

theorem OneP.none_is {sz : Nat} {R : Option (FieldL × List UInt8)} {p : FieldL} (h : R = none) : OneP sz R p (-1) := by rw [h]; rfl

theorem OneP.some_is {sz : Nat} {R : Option (FieldL × List UInt8)} {p : FieldL} {r : List UInt8} {n : Int} (h : R = some (p, r)) (hn : n = ((sz - r.length : Nat) : Int)) : OneP sz R p n := by rw [h]; exact ⟨rfl, hn⟩

theorem tw_seg (s : ByteArray) (a q : Nat) (haq : a ≤ q) (hq : q ≤ s.size) (h : ∀ c ∈ seg s a q, isDig c = true) (he : ∀ hx : q < s.size, isDig s[q] = false) : (s.data.toList.drop a).takeWhile isDig = seg s a q := by
  have hd := data_length s
  have e : s.data.toList.drop a = seg s a q ++ s.data.toList.drop q := by
    conv => lhs; rw [← List.take_append_drop q s.data.toList]
    rw [List.drop_append_of_le_length (by rw [List.length_take]; omega)]
    rfl
  rw [e, List.takeWhile_append_of_pos h]
  by_cases hx : q < s.size
  · rw [drop_cons s q hx, List.takeWhile_cons, he hx]
    simp
  · rw [List.drop_eq_nil_of_le (by omega)]
    simp

set_option maxHeartbeats 1600000 in
theorem one_spec (s : ByteArray) (i : Nat) (hs : s.size ≤ 1048576) (hii : i ≤ s.size) (w : World) :
    Calls Try.prog 33 #[.string s, .int .i64 (i : Int)] w fun e w' => (∃ p n, e = .returned (.tuple #[.agg (fc p).toArray, .int .i64 n]) ∧ OneP s.size (oneM (s.data.toList.drop i)) p n) ∧ Below w.heap.size w w' := by
  obtain ⟨i0, hi, _, hz1, _⟩ := info_parts Try.info32
  have hi8 : (Try.prog.info? 32).map (·.size) = some 4 := by rw [hi]; simp [hz1]
  have HLD := Lib.hid (fun (wx : World) (g : Nat) (cs : Array Value) (h4 : cs.size = 4) (hg : wx.heap[g]? = some (.cells cs 32 (0, 0))) => run_loadVar_row (P := Try.prog) wx g 32 32 cs (0, 0) _ hg Try.underlying32 rfl (by rw [hi8, h4]))
  clear hi8
  obtain ⟨R, hR⟩ : ∃ R, R = oneM (s.data.toList.drop i) := ⟨_, rfl⟩
  rw [← hR]
  have HR := Lib.hid hR
  clear hR
  have hdl := data_length s
  have RD := Lib.hid (fun wx => read_spec s i hs hii wx)
  cases hq : readM (s.data.toList.drop i) with
  | none =>
    have HR2 := Lib.hid (show R = none by rw [HR.out]; unfold oneM; rw [hq])
    rw [hq] at RD
    simp only [atV] at RD
    clear HR hq
    go_enter Try.func33, Try.ntmps33
    go_wp2_with fail
    refine (RD.out _).mono ?_
    rintro e w1 ⟨rfl, b1⟩
    have GF := (b1.block w.heap.size (by simp)).trans (heap_alloc_new w (.cells #[.string ⟨#[]⟩, .string ⟨#[]⟩, .int .i64 0, .bool false] 32))
    have BF := bstep ((Below.refl _ w).alloc (Nat.le_refl _) (.cells #[.string ⟨#[]⟩, .string ⟨#[]⟩, .int .i64 0, .bool false] 32)) b1
    clear b1
    obtain ⟨x0, x1, x2, x3, y0, y1, y2, y3⟩ := box4 GF
    go_wp2
    refine bodyPost_ret (v := .tuple #[.agg #[.string ⟨#[]⟩, .string ⟨#[]⟩, .int .i64 0, .bool false], .int .i64 (-1)]) ?_ rfl ⟨⟨z0, (-1), rfl, OneP.none_is HR2.out⟩, below4 BF (Nat.le_refl _) _ _ _ _⟩
    rw [results_cell_tmp rfl]
    have hfin := HLD.out _ _ _ rfl (put4 GF (.string ⟨#[]⟩) (.string ⟨#[]⟩) (.int .i64 0) (.bool false))
    simp [asAddr, Result.andThen, hfin]
  | some x =>
    obtain ⟨k, r⟩ := x
    have hrl := (readM_len _ _ _ hq).1
    rw [List.length_drop, hdl] at hrl
    have hsu := readM_suffix _ _ _ _ hq
    obtain ⟨a, ha⟩ : ∃ a, a = s.size - r.length := ⟨_, rfl⟩
    rw [hdl, ← ha] at hsu
    have HC1 := Lib.hid (show R = if a + 1 < s.size ∧ (s.data.toList.drop a).head? = some 58 then cM k (s.data.toList.drop (a + 1)) else none by
      rw [HR.out]; unfold oneM; rw [hq]; simp only
      have e1 : r.drop 1 = s.data.toList.drop (a + 1) := by rw [hsu, List.drop_drop]
      rw [e1, ← hsu]
      by_cases hc : r.head? = some 58
      · by_cases h2 : a + 1 < s.size
        · rw [if_pos ⟨by omega, hc⟩, if_pos ⟨h2, hc⟩]
        · rw [if_neg (fun h => h2 (by have := h.1; omega)), if_neg (fun h => h2 h.1)]
      · rw [if_neg (fun h => hc h.2), if_neg (fun h => hc h.2)])
    rw [hq] at RD
    simp only [atV, ← ha] at RD
    have has : a ≤ s.size := by omega
    clear hsu ha hrl hq HR
    have hneg : ¬ (a : Int) < 0 := by omega
    by_cases h1 : a + 1 < s.size
    · have hlt : a < s.size := by omega
      have h256 : s[a].toNat < 256 := s[a].toNat_lt
      have h256b : s[a + 1].toNat < 256 := s[a + 1].toNat_lt
      have hl1 : ¬ ((s.size : Int) ≤ (a : Int) + 1) := by omega
      have hl2 : (a : Int) < (s.size : Int) := by omega
      have hl3 : (a : Int) + 1 < (s.size : Int) := by omega
      have ha0 : (0 : Int) ≤ (a : Int) := by omega
      have ha1 : (0 : Int) ≤ (a : Int) + 1 := by omega
      have HC2 := HC1.out
      rw [drop_cons s a hlt, List.head?_cons] at HC2
      by_cases h58 : s[a] = 58
      · have h58i : (((s[a].toNat : Nat) : Int) != 58) = false := by rw [h58]; rfl
        rw [if_pos ⟨h1, by rw [h58]⟩] at HC2
        unfold cM at HC2
        rw [drop_cons s (a + 1) h1, List.head?_cons, ← drop_cons s (a + 1) h1] at HC2
        clear h58 HC1
        by_cases h34 : s[a + 1] = 34
        · rw [if_pos (by rw [h34])] at HC2
          have HC := Lib.hid HC2
          have h34i : (((s[a + 1].toNat : Nat) : Int) == 34) = true := by rw [h34]; rfl
          have R2 := Lib.hid (fun wx => read_spec s (a + 1) hs (by omega) wx)
          have hcast : ((a + 1 : Nat) : Int) = (a : Int) + 1 := by omega
          rw [hcast] at R2
          clear h34 HC2 hcast
          cases hq : readM (s.data.toList.drop (a + 1)) with
          | none =>
            have HR2 := Lib.hid (show R = none by rw [HC.out, hq])
            rw [hq] at R2
            simp only [atV] at R2
            clear hq HC
            go_enter Try.func33, Try.ntmps33
            go_wp2_with fail
            refine (RD.out _).mono ?_
            rintro e w1 ⟨rfl, b1⟩
            have GF := (b1.block w.heap.size (by simp)).trans (heap_alloc_new w (.cells #[.string ⟨#[]⟩, .string ⟨#[]⟩, .int .i64 0, .bool false] 32))
            have BF := bstep ((Below.refl _ w).alloc (Nat.le_refl _) (.cells #[.string ⟨#[]⟩, .string ⟨#[]⟩, .int .i64 0, .bool false] 32)) b1
            clear b1
            go_wp2_with fail
            refine (R2.out _).mono ?_
            rintro e w2 ⟨rfl, b2⟩
            have GF := (b2.block _ (by have := (Array.getElem?_eq_some_iff.1 GF).1; exact this)).trans GF
            have BF := bstep BF b2
            clear b2 R2 RD
            obtain ⟨x0, x1, x2, x3, y0, y1, y2, y3⟩ := box4 GF
            go_wp2
            refine bodyPost_ret (v := .tuple #[.agg #[.string (txt k), .string ⟨#[]⟩, .int .i64 0, .bool false], .int .i64 (-1)]) ?_ rfl ⟨⟨(k, [], 0, false), (-1), rfl, OneP.none_is HR2.out⟩, below4 BF (Nat.le_refl _) _ _ _ _⟩
            rw [results_cell_tmp rfl]
            have hfin := HLD.out _ _ _ rfl (put4 GF (.string (txt k)) (.string ⟨#[]⟩) (.int .i64 0) (.bool false))
            simp [asAddr, Result.andThen, hfin]
          | some y =>
            obtain ⟨t, r2⟩ := y
            have HR2 := Lib.hid (show OneP s.size R (k, t, 0, false) ((s.size - r2.length : Nat) : Int) from OneP.some_is (by rw [HC.out, hq]) rfl)
            rw [hq] at R2
            simp only [atV] at R2
            generalize s.size - r2.length = m at R2 HR2
            clear hq HC
            go_enter Try.func33, Try.ntmps33
            go_wp2_with fail
            refine (RD.out _).mono ?_
            rintro e w1 ⟨rfl, b1⟩
            have GF := (b1.block w.heap.size (by simp)).trans (heap_alloc_new w (.cells #[.string ⟨#[]⟩, .string ⟨#[]⟩, .int .i64 0, .bool false] 32))
            have BF := bstep ((Below.refl _ w).alloc (Nat.le_refl _) (.cells #[.string ⟨#[]⟩, .string ⟨#[]⟩, .int .i64 0, .bool false] 32)) b1
            clear b1
            go_wp2_with fail
            refine (R2.out _).mono ?_
            rintro e w2 ⟨rfl, b2⟩
            have GF := (b2.block _ (by have := (Array.getElem?_eq_some_iff.1 GF).1; exact this)).trans GF
            have BF := bstep BF b2
            clear b2 R2 RD
            obtain ⟨x0, x1, x2, x3, y0, y1, y2, y3⟩ := box4 GF
            go_wp2
            refine bodyPost_ret (v := .tuple #[.agg #[.string (txt k), .string (txt t), .int .i64 0, .bool false], .int .i64 (m : Int)]) ?_ rfl ⟨⟨(k, t, 0, false), (m : Int), rfl, HR2.out⟩, below4 BF (Nat.le_refl _) _ _ _ _⟩
            rw [results_cell_tmp rfl]
            have hfin := HLD.out _ _ _ rfl (put4 GF (.string (txt k)) (.string (txt t)) (.int .i64 0) (.bool false))
            simp [asAddr, Result.andThen, hfin]
        · rw [if_neg (by simpa using h34)] at HC2
          have HC := Lib.hid HC2
          have h34i : (((s[a + 1].toNat : Nat) : Int) == 34) = false := beq_eq_false_iff_ne.2 fun h => h34 (UInt8.toNat_inj.1 (by show s[a + 1].toNat = 34; omega))
          clear h34 HC2
          go_enter Try.func33, Try.ntmps33
          go_wp2_with fail
          refine (RD.out _).mono ?_
          rintro e w1 ⟨rfl, b1⟩
          have GF := (b1.block w.heap.size (by simp)).trans (heap_alloc_new w (.cells #[.string ⟨#[]⟩, .string ⟨#[]⟩, .int .i64 0, .bool false] 32))
          have BF := bstep ((Below.refl _ w).alloc (Nat.le_refl _) (.cells #[.string ⟨#[]⟩, .string ⟨#[]⟩, .int .i64 0, .bool false] 32)) b1
          clear b1
          go_wp2
          go_loopw [10] (fun v wr => ∃ q : Nat, a + 1 ≤ q ∧ q ≤ s.size ∧ v = .int .i64 q ∧ Hid (∀ c ∈ seg s (a + 1) q, isDig c = true) ∧ w1 = wr) (fun v _ => s.size - (intOf v).toNat)
          case atStart => exact ⟨a + 1, Nat.le_refl _, by omega, by go_num, Lib.hid (by rw [seg_nil]; simp), rfl⟩
          case round =>
            clear RD
            obtain ⟨q, haq, hq, rfl, hall, rfl⟩ := hrel
            by_cases hqlt : q < s.size
            · have h256 : s[q].toNat < 256 := s[q].toNat_lt
              have hq0 : (0 : Int) ≤ (q : Int) := by omega
              have hqs : (q : Int) < (s.size : Int) := by omega
              go_wp2_with fail
              refine (digit_call _ _).mono ?_
              rintro e w2 ⟨rfl, rfl⟩
              cases hdig : digC s[q] with
              | true =>
                have HALL := Lib.hid (show ∀ c ∈ seg s (a + 1) (q + 1), isDig c = true by
                  rw [seg_snoc s (a + 1) q haq hqlt]
                  intro c hc
                  rcases List.mem_append.1 hc with h | h
                  · exact hall.out c h
                  · have h : c = s[q] := by simpa using h
                    rw [h, ← dig_is, hdig])
                clear hdig hall
                go_wp2
                exact ⟨⟨q + 1, by omega, by omega, by go_num, HALL, trivial⟩, by simp [intOf]; omega⟩
              | false =>
                have hend : ∀ hx : q < s.size, isDig s[q] = false := fun _ => by rw [← dig_is, hdig]
                clear hdig
                have HT := Lib.hid (tw_seg s (a + 1) q (by omega) hq hall.out hend)
                have HR1 := Lib.hid (show R = if 0 ≤ rdV (seg s (a + 1) q) then some ((k, [], rdV (seg s (a + 1) q), true), (s.data.toList.drop (a + 1)).drop (seg s (a + 1) q).length) else none by rw [HC.out, HT.out])
                have hsl := seg_len s (a + 1) q hq
                have HD := Lib.hid (fun wx => readdec_spec (txt (seg s (a + 1) q)) wx (by rw [txt_size, hsl]; omega))
                simp only [txt_toList] at HD
                have hq0 : (0 : Int) ≤ (q : Int) := by omega
                have ha0 : (0 : Int) ≤ (a : Int) + 1 := by omega
                have haq : (a : Int) + 1 ≤ (q : Int) := by omega
                have hqs : (q : Int) ≤ (s.size : Int) := by omega
                have hex := extract_seg s (a + 1) q
                generalize seg s (a + 1) q = D at HR1 HD hsl hex
                generalize rdV D = n at HR1 HD
                clear HT HC hall
                by_cases hn : 0 ≤ n
                · have HR2 := Lib.hid (show OneP s.size R (k, [], n, true) (q : Int) from OneP.some_is (by rw [HR1.out, if_pos hn]) (by rw [List.length_drop, List.length_drop, hdl, hsl]; omega))
                  have hn2 : ¬ n < 0 := by omega
                  clear HR1 hsl
                  go_wp2_with fail
                  refine (HD.out _).mono ?_
                  rintro e w2 ⟨rfl, b2⟩
                  have GF := (b2.block _ (by have := (Array.getElem?_eq_some_iff.1 GF).1; exact this)).trans GF
                  have BF := bstep BF b2
                  clear b2 HD
                  obtain ⟨x0, x1, x2, x3, y0, y1, y2, y3⟩ := box4 GF
                  go_wp2
                  refine bodyPost_ret (v := .tuple #[.agg #[.string (txt k), .string ⟨#[]⟩, .int .i64 n, .bool true], .int .i64 (q : Int)]) ?_ rfl ⟨⟨(k, [], n, true), (q : Int), rfl, HR2.out⟩, below4 BF (Nat.le_refl _) _ _ _ _⟩
                  rw [results_cell_tmp rfl]
                  have hfin := HLD.out _ _ _ rfl (put4 GF (.string (txt k)) (.string ⟨#[]⟩) (.int .i64 n) (.bool true))
                  simp [asAddr, Result.andThen, hfin]
                · have HR2 := Lib.hid (show R = none by rw [HR1.out, if_neg hn])
                  have hn2 : n < 0 := by omega
                  clear HR1 hsl
                  go_wp2_with fail
                  refine (HD.out _).mono ?_
                  rintro e w2 ⟨rfl, b2⟩
                  have GF := (b2.block _ (by have := (Array.getElem?_eq_some_iff.1 GF).1; exact this)).trans GF
                  have BF := bstep BF b2
                  clear b2 HD
                  obtain ⟨x0, x1, x2, x3, y0, y1, y2, y3⟩ := box4 GF
                  go_wp2
                  refine bodyPost_ret (v := .tuple #[.agg #[.string ⟨#[]⟩, .string ⟨#[]⟩, .int .i64 0, .bool false], .int .i64 (-1)]) ?_ rfl ⟨⟨z0, (-1), rfl, OneP.none_is HR2.out⟩, below4 BF (Nat.le_refl _) _ _ _ _⟩
                  rw [results_cell_tmp rfl]
                  have hfin := HLD.out _ _ _ rfl (put4 GF (.string ⟨#[]⟩) (.string ⟨#[]⟩) (.int .i64 0) (.bool false))
                  simp [asAddr, Result.andThen, hfin]
            · 
              have HT := Lib.hid (tw_seg s (a + 1) q (by omega) hq hall.out (fun hx => absurd hx hqlt))
              have HR1 := Lib.hid (show R = if 0 ≤ rdV (seg s (a + 1) q) then some ((k, [], rdV (seg s (a + 1) q), true), (s.data.toList.drop (a + 1)).drop (seg s (a + 1) q).length) else none by rw [HC.out, HT.out])
              have hsl := seg_len s (a + 1) q hq
              have HD := Lib.hid (fun wx => readdec_spec (txt (seg s (a + 1) q)) wx (by rw [txt_size, hsl]; omega))
              simp only [txt_toList] at HD
              have hq0 : (0 : Int) ≤ (q : Int) := by omega
              have ha0 : (0 : Int) ≤ (a : Int) + 1 := by omega
              have haq : (a : Int) + 1 ≤ (q : Int) := by omega
              have hqs : (q : Int) ≤ (s.size : Int) := by omega
              have hex := extract_seg s (a + 1) q
              generalize seg s (a + 1) q = D at HR1 HD hsl hex
              generalize rdV D = n at HR1 HD
              clear HT HC hall
              by_cases hn : 0 ≤ n
              · have HR2 := Lib.hid (show OneP s.size R (k, [], n, true) (q : Int) from OneP.some_is (by rw [HR1.out, if_pos hn]) (by rw [List.length_drop, List.length_drop, hdl, hsl]; omega))
                have hn2 : ¬ n < 0 := by omega
                clear HR1 hsl
                go_wp2_with fail
                refine (HD.out _).mono ?_
                rintro e w2 ⟨rfl, b2⟩
                have GF := (b2.block _ (by have := (Array.getElem?_eq_some_iff.1 GF).1; exact this)).trans GF
                have BF := bstep BF b2
                clear b2 HD
                obtain ⟨x0, x1, x2, x3, y0, y1, y2, y3⟩ := box4 GF
                go_wp2
                refine bodyPost_ret (v := .tuple #[.agg #[.string (txt k), .string ⟨#[]⟩, .int .i64 n, .bool true], .int .i64 (q : Int)]) ?_ rfl ⟨⟨(k, [], n, true), (q : Int), rfl, HR2.out⟩, below4 BF (Nat.le_refl _) _ _ _ _⟩
                rw [results_cell_tmp rfl]
                have hfin := HLD.out _ _ _ rfl (put4 GF (.string (txt k)) (.string ⟨#[]⟩) (.int .i64 n) (.bool true))
                simp [asAddr, Result.andThen, hfin]
              · have HR2 := Lib.hid (show R = none by rw [HR1.out, if_neg hn])
                have hn2 : n < 0 := by omega
                clear HR1 hsl
                go_wp2_with fail
                refine (HD.out _).mono ?_
                rintro e w2 ⟨rfl, b2⟩
                have GF := (b2.block _ (by have := (Array.getElem?_eq_some_iff.1 GF).1; exact this)).trans GF
                have BF := bstep BF b2
                clear b2 HD
                obtain ⟨x0, x1, x2, x3, y0, y1, y2, y3⟩ := box4 GF
                go_wp2
                refine bodyPost_ret (v := .tuple #[.agg #[.string ⟨#[]⟩, .string ⟨#[]⟩, .int .i64 0, .bool false], .int .i64 (-1)]) ?_ rfl ⟨⟨z0, (-1), rfl, OneP.none_is HR2.out⟩, below4 BF (Nat.le_refl _) _ _ _ _⟩
                rw [results_cell_tmp rfl]
                have hfin := HLD.out _ _ _ rfl (put4 GF (.string ⟨#[]⟩) (.string ⟨#[]⟩) (.int .i64 0) (.bool false))
                simp [asAddr, Result.andThen, hfin]
      · have h58i : (((s[a].toNat : Nat) : Int) != 58) = true := by
          rw [bne_iff_ne]
          exact fun h => h58 (UInt8.toNat_inj.1 (by show s[a].toNat = 58; omega))
        have HR2 := Lib.hid (show R = none by rw [HC2, if_neg (fun h => h58 (by simpa using h.2))])
        clear h58 HC2 HC1
        go_enter Try.func33, Try.ntmps33
        go_wp2_with fail
        refine (RD.out _).mono ?_
        rintro e w1 ⟨rfl, b1⟩
        have GF := (b1.block w.heap.size (by simp)).trans (heap_alloc_new w (.cells #[.string ⟨#[]⟩, .string ⟨#[]⟩, .int .i64 0, .bool false] 32))
        have BF := bstep ((Below.refl _ w).alloc (Nat.le_refl _) (.cells #[.string ⟨#[]⟩, .string ⟨#[]⟩, .int .i64 0, .bool false] 32)) b1
        clear b1
        obtain ⟨x0, x1, x2, x3, y0, y1, y2, y3⟩ := box4 GF
        go_wp2
        refine bodyPost_ret (v := .tuple #[.agg #[.string ⟨#[]⟩, .string ⟨#[]⟩, .int .i64 0, .bool false], .int .i64 (-1)]) ?_ rfl ⟨⟨z0, (-1), rfl, OneP.none_is HR2.out⟩, below4 BF (Nat.le_refl _) _ _ _ _⟩
        rw [results_cell_tmp rfl]
        have hfin := HLD.out _ _ _ rfl (put4 GF (.string ⟨#[]⟩) (.string ⟨#[]⟩) (.int .i64 0) (.bool false))
        simp [asAddr, Result.andThen, hfin]
    · have hl1 : (s.size : Int) ≤ (a : Int) + 1 := by omega
      have HR2 := Lib.hid (show R = none by rw [HC1.out, if_neg (fun h => h1 h.1)])
      clear HC1
      go_enter Try.func33, Try.ntmps33
      go_wp2_with fail
      refine (RD.out _).mono ?_
      rintro e w1 ⟨rfl, b1⟩
      have GF := (b1.block w.heap.size (by simp)).trans (heap_alloc_new w (.cells #[.string ⟨#[]⟩, .string ⟨#[]⟩, .int .i64 0, .bool false] 32))
      have BF := bstep ((Below.refl _ w).alloc (Nat.le_refl _) (.cells #[.string ⟨#[]⟩, .string ⟨#[]⟩, .int .i64 0, .bool false] 32)) b1
      clear b1
      obtain ⟨x0, x1, x2, x3, y0, y1, y2, y3⟩ := box4 GF
      go_wp2
      refine bodyPost_ret (v := .tuple #[.agg #[.string ⟨#[]⟩, .string ⟨#[]⟩, .int .i64 0, .bool false], .int .i64 (-1)]) ?_ rfl ⟨⟨z0, (-1), rfl, OneP.none_is HR2.out⟩, below4 BF (Nat.le_refl _) _ _ _ _⟩
      rw [results_cell_tmp rfl]
      have hfin := HLD.out _ _ _ rfl (put4 GF (.string ⟨#[]⟩) (.string ⟨#[]⟩) (.int .i64 0) (.bool false))
      simp [asAddr, Result.andThen, hfin]

end Fld

end Go.Proofs.Ytljifooeokhgeaa
