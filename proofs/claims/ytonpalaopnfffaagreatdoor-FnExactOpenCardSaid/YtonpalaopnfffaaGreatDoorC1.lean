/- CONTRACTS of the functions of texts and numbers (the first layer), of the program and of its model: what each call gives back, and that what was there before stays. -/
import Derived.Test.YtonpalaopnfffaaGreatDoorLem
import Derived.Test.YtonpalaopnfffaaGreatDoorProg

namespace Go.Proofs.YtonpalaopnfffaaGreatDoor
set_option linter.unusedVariables false
set_option maxRecDepth 4000
open Go.ChangeShapes Go.WideShapes Go.ChangeAt Go.RowKit
open Go.ChangeMaps (open_string shut_string)

theorem Tryz.info5 : (Tryz.prog.info? 5).map (fun i => (i.zero, i.size, i.bytes)) = some (some (.int .u8 0), 1, 1) := by kernel_rfl

theorem index_wrap (s : ByteArray) (c : UInt8) (w : World) :
    Calls Tryz.prog 103 #[.string s, .int .u8 c.toNat] w fun e w' => e = .returned (.int .i64 (Lib.indexByte s.data.toList c)) ∧ w = w' := by
  have hc : ((c.toNat : Int)).toNat.toUInt8 = c := by simp
  go_enter Tryz.func103, Tryz.ntmps103
  go_wp2
  rw [run_callFunc_extern Tryz.func113 (by kernel_rfl) (by kernel_rfl) (by kernel_rfl) (e := Extern.BytealgIndexByte.indexByte) (by kernel_rfl), Lib.run_indexByteString, hc]
  simp only [Result.andThen]
  rw [Oper.upon_value]
  go_wp2
  go_ret
  exact ⟨rfl, rfl⟩

set_option maxHeartbeats 400000 in
theorem cut_impl_no (s : ByteArray) (c : UInt8) (w : World) (h : ∀ j (hj : j < s.size), s[j] ≠ c) :
    Calls Tryz.prog 96 #[.string s, .int .u8 c.toNat] w fun e w' => e = .returned (.tuple #[.string s, .string ⟨#[]⟩, .bool false]) ∧ Below w.heap.size w w' := by
  have H := Lib.hid (index_no s c h)
  clear h
  go_enter Tryz.func96, Tryz.ntmps96
  go_wp2_with fail
  refine (index_wrap s c _).mono ?_
  rintro e w1 ⟨rfl, rfl⟩
  rw [H.out]
  go_wp2
  go_ret3
  exact ⟨rfl, Below.refl _ _⟩

set_option maxHeartbeats 400000 in
theorem cut_impl_yes (s : ByteArray) (c : UInt8) (w : World) (hs : s.size ≤ 1048576) (n : Nat) (hn : n < s.size) (hc : s[n] = c) (h : ∀ j (hj : j < n), s[j] ≠ c) :
    Calls Tryz.prog 96 #[.string s, .int .u8 c.toNat] w fun e w' => e = .returned (.tuple #[.string (s.extract 0 n), .string (s.extract (n + 1) s.size), .bool true]) ∧ Below w.heap.size w w' := by
  have H := Lib.hid (index_yes s c n hn hc h)
  clear h hc
  go_enter Tryz.func96, Tryz.ntmps96
  go_wp2_with fail
  refine (index_wrap s c _).mono ?_
  rintro e w1 ⟨rfl, rfl⟩
  rw [H.out]
  go_wp2
  go_quiet (fail)
  go_wp2
  go_ret3
  exact ⟨rfl, below_drewN (Below.refl _ _) _⟩

set_option maxHeartbeats 400000 in
theorem dec_pos (n : Nat) (w : World) (h1 : 1 ≤ n) (h2 : n ≤ 9223372036854775807) :
    Calls Tryz.prog 52 #[.int .i64 n] w fun e w' => e = .returned (.string (txt (Lib.decDigits n))) ∧ Below w.heap.size w w' := by
  have h0 : ((n : Int) == 0) = false := by simp; omega
  go_enter Tryz.func52, Tryz.ntmps52
  go_wp2
  go_loop [3, 4] (fun o m => ∃ (l : List UInt8) (k : Nat), k ≤ n ∧ l.length ≤ 20 ∧ o = .string (txt l) ∧ m = .int .i64 k ∧ Hid (digs k ++ l = Lib.decDigits n)) (fun _ m => (intOf m).toNat)
  case atStart => exact ⟨[], n, by omega, by simp, rfl, rfl, by unfold Hid digs; rw [if_neg (by omega), List.append_nil]⟩
  case round =>
    obtain ⟨l, k, hk, hll, rfl, rfl, H⟩ := hrel
    by_cases hk0 : k = 0
    · subst hk0
      go_wp2
      go_ret
      have := H.out
      simp [digs] at this
      exact ⟨ret_str (by rw [this]), Below.refl _ _⟩
    · have hne : ((k : Int) != 0) = true := by simp; omega
      have hd : k % 10 < 10 := Nat.mod_lt _ (by omega)
      have hsl := digit_slice (P := Tryz.prog) 9 Tryz.underlying9 (k % 10) hd
      have e : ((k % 10 : Nat) : Int) = (k : Int) % 10 := by omega
      rw [e] at hsl
      clear e
      have hds := digs_step k hk0
      generalize UInt8.ofNat (48 + k % 10) = b at hsl hds
      have HDS := Lib.hid hds
      clear hds
      have hadd := add_txt (P := Tryz.prog) [b] l (by simp; omega)
      have hq : (k / 10 : Nat) < k := Nat.div_lt_self (by omega) (by omega)
      have hln : ([b] ++ l).length ≤ 20 := by
        have h20 := Lib.decDigits_length n
        have h21 := Lib.nDigits_le20 n (by omega)
        rw [← h20, ← H.out, HDS.out] at h21
        simp at h21 ⊢
        omega
      go_wp2
      go_round
      case rel => exact ⟨[b] ++ l, k / 10, by omega, hln, rfl, by go_num, by unfold Hid; rw [← H.out, HDS.out, List.append_assoc]⟩
      case measure => simp [intOf]; omega

set_option maxHeartbeats 400000 in
theorem dec_zero (w : World) :
    Calls Tryz.prog 52 #[.int .i64 0] w fun e w' => e = .returned (.string (txt (Lib.decDigits 0))) ∧ Below w.heap.size w w' := by
  go_enter Tryz.func52, Tryz.ntmps52
  go_wp2
  go_ret
  exact ⟨ret_str (by rw [Lib.decDigits_one (by omega)]; rfl), Below.refl _ _⟩

/-- SPEC's DecText at a number that is not below nought -/
theorem dec_nat (n : Nat) (w : World) (h2 : n ≤ 9223372036854775807) :
    Calls Tryz.prog 52 #[.int .i64 n] w fun e w' => e = .returned (.string (txt (Lib.decDigits n))) ∧ Below w.heap.size w w' := by
  by_cases h : n = 0
  · subst h; exact dec_zero w
  · exact dec_pos n w (by omega) h2

set_option maxHeartbeats 400000 in
theorem dec_neg (n : Nat) (w : World) (h1 : 1 ≤ n) (h2 : n ≤ 9223372036854775808) :
    Calls Tryz.prog 52 #[.int .i64 (-(n : Int))] w fun e w' => e = .returned (.string (txt (45 :: Lib.decDigits n))) ∧ Below w.heap.size w w' := by
  have h0 : ((-(n : Int)) == 0) = false := by rw [beq_eq_false_iff_ne]; omega
  go_enter Tryz.func52, Tryz.ntmps52
  go_wp2
  go_loop [3, 4] (fun o m => ∃ (l : List UInt8) (k : Nat), k ≤ n ∧ l.length ≤ 20 ∧ o = .string (txt l) ∧ m = .int .i64 (-(k : Int)) ∧ Hid (digs k ++ l = Lib.decDigits n)) (fun _ m => (-(intOf m)).toNat)
  case atStart => exact ⟨[], n, by omega, by simp, rfl, rfl, by unfold Hid digs; rw [if_neg (by omega), List.append_nil]⟩
  case round =>
    obtain ⟨l, k, hk, hll, rfl, rfl, H⟩ := hrel
    by_cases hk0 : k = 0
    · subst hk0
      have hx := H.out
      simp [digs] at hx
      have HX := Lib.hid hx
      clear hx
      have hneg : (-(n : Int)) < 0 := by omega
      have hadd := add_txt (P := Tryz.prog) [45] l (by simp; omega)
      have hs1 : ({ data := #[45] } : ByteArray) = txt [45] := rfl
      go_wp2
      go_ret
      exact ⟨ret_str (by rw [HX.out]), Below.refl _ _⟩
    · have hne : ((-(k : Int)) != 0) = true := by rw [bne_iff_ne]; omega
      have hd : k % 10 < 10 := Nat.mod_lt _ (by omega)
      have hmod : (-(k : Int)).tmod 10 = -((k % 10 : Nat) : Int) := by rw [Int.neg_tmod, Int.tmod_eq_emod_of_nonneg (by omega)]; omega
      have hdiv : (-(k : Int)).tdiv 10 = -((k / 10 : Nat) : Int) := by rw [Int.neg_tdiv, Int.tdiv_eq_ediv_of_nonneg (by omega)]; omega
      have hsl := digit_slice (P := Tryz.prog) 9 Tryz.underlying9 (k % 10) hd
      have hds := digs_step k hk0
      generalize UInt8.ofNat (48 + k % 10) = b at hsl hds
      have HDS := Lib.hid hds
      clear hds
      have hadd := add_txt (P := Tryz.prog) [b] l (by simp; omega)
      have hq : (k / 10 : Nat) < k := Nat.div_lt_self (by omega) (by omega)
      have hln : ([b] ++ l).length ≤ 20 := by
        have h20 := Lib.decDigits_length n
        have h21 := Lib.nDigits_le20 n (by omega)
        rw [← h20, ← H.out, HDS.out] at h21
        simp at h21 ⊢
        omega
      generalize k % 10 = p at hd hmod hsl
      generalize k / 10 = q at hdiv hq HDS
      rcases Nat.eq_zero_or_pos p with rfl | hp
      · have hmod0 : (-(k : Int)).tmod 10 = 0 := by simpa using hmod
        have hsl0 : ∀ w, (Instr.slice 9 (.string { data := #[48, 49, 50, 51, 52, 53, 54, 55, 56, 57] }) (some (.int .i64 0)) (some (.int .i64 1)) none).run Tryz.prog w = .ok (.string (txt [b])) w := hsl
        clear hmod hsl
        go_wp2
        go_round
        case rel => exact ⟨[b] ++ l, q, by omega, hln, rfl, rfl, by unfold Hid; rw [← H.out, HDS.out, List.append_assoc]⟩
        case measure => simp [intOf]; omega
      · go_wp2
        go_round
        case rel => exact ⟨[b] ++ l, q, by omega, hln, rfl, rfl, by unfold Hid; rw [← H.out, HDS.out, List.append_assoc]⟩
        case measure => simp [intOf]; omega

/-- SPEC's DecText at every number -/
theorem dec_all (n : Int) (w : World) (h1 : -9223372036854775808 ≤ n) (h2 : n ≤ 9223372036854775807) :
    Calls Tryz.prog 52 #[.int .i64 n] w fun e w' => e = .returned (.string (txt (Lib.itoa n))) ∧ Below w.heap.size w w' := by
  unfold Lib.itoa
  by_cases h : n < 0
  · rw [if_pos h]
    obtain ⟨k, hk⟩ : ∃ k : Nat, n = -(k : Int) := ⟨n.natAbs, by omega⟩
    subst hk
    have e : (-(k : Int)).natAbs = k := by omega
    rw [e]
    exact dec_neg k w (by omega) (by omega)
  · rw [if_neg h]
    obtain ⟨k, rfl⟩ := Int.eq_ofNat_of_zero_le (show 0 ≤ n by omega)
    have e : ((k : Nat) : Int).toNat = k := by omega
    rw [e]
    exact dec_nat k w (by omega)

set_option maxHeartbeats 400000 in
theorem readdec_spec (s : ByteArray) (w : World) (hs : s.size ≤ 1048576) :
    Calls Tryz.prog 24 #[.string s] w fun e w' => e = .returned (.int .i64 (rdV s.data.toList)) ∧ Below w.heap.size w w' := by
  go_enter Tryz.func24, Tryz.ntmps24
  go_wp2
  go_loop [3, 4] (fun n i => ∃ k : Nat, k ≤ s.size ∧ (0 < k → s.size ≤ 12) ∧ i = .int .i64 k ∧ n = .int .i64 (valL (s.data.toList.take k)) ∧ DigTo s k) (fun _ i => s.size - (intOf i).toNat)
  case atStart => exact ⟨0, by omega, by omega, rfl, rfl, by simp [DigTo]⟩
  case round =>
    obtain ⟨k, hk1, hk12, rfl, rfl, hd⟩ := hrel
    have HD := Lib.hid hd
    clear hd
    by_cases hlt : k < s.size
    · by_cases hd : 48 ≤ s[k].toNat ∧ s[k].toNat ≤ 57
      · obtain ⟨hd1, hd2⟩ := hd
        by_cases h12 : s.size ≤ 12
        · have hv := val_take_lt s k (by omega) HD.out
          have HV := Lib.hid (val_take s k hlt)
          generalize valL (s.data.toList.take k) = n at hv HV
          go_wp2
          go_round
          case rel => exact ⟨k + 1, by omega, fun _ => h12, by go_num, by rw [HV.out]; go_num, digTo_snoc s k hlt HD.out hd1 hd2⟩
          case measure => simp [intOf]; omega
        · have hr := rd_no s.data.toList (fun ⟨h1, _⟩ => h12 (by rw [← data_length]; exact h1))
          have HR := Lib.hid hr
          clear hr
          go_wp2
          all_goals
            go_ret
            exact ⟨ret_int (by rw [HR.out]), Below.refl _ _⟩
      · have hr := no_dig s k hlt hd
        have HR := Lib.hid hr
        clear hr
        have h256 : s[k].toNat < 256 := s[k].toNat_lt
        rcases (show s[k].toNat < 48 ∨ 57 < s[k].toNat by omega) with hd | hd
        all_goals
          go_wp2
          go_ret
          exact ⟨ret_int (by rw [HR.out]), Below.refl _ _⟩
    · by_cases h0 : s.size = 0
      · obtain rfl := empty_of s h0
        have hr := rd_no [] (fun ⟨_, h2, _⟩ => h2 rfl)
        have HR := Lib.hid hr
        clear hr
        go_wp2
        go_ret
        exact ⟨ret_int HR.out.symm, Below.refl _ _⟩
      · have hne := not_empty s h0
        have h12 := hk12 (by omega)
        have hv := val_take_lt s k (by omega) HD.out
        have he : s.data.toList.take k = s.data.toList := List.take_of_length_le (by rw [Array.length_toList]; show s.size ≤ k; omega)
        rw [he] at hv ⊢
        by_cases hdv : Lib.decDigits (valL s.data.toList) = s.data.toList
        · have hx : txt (Lib.decDigits (valL s.data.toList)) = s := by rw [hdv, txt_of]
          have hr := rd_yes s.data.toList (by rw [data_length]; exact h12) (by intro e; have := data_length s; rw [e] at this; simp at this; omega) (digTo_all s k (by omega) HD.out) hdv
          have HR := Lib.hid hr
          have HX := Lib.hid hx
          clear hr hx hdv he
          generalize valL s.data.toList = n at hv HR HX
          go_wp2_with fail
          refine (dec_nat n _ (by omega)).mono ?_
          rintro e w1 ⟨rfl, hb1⟩
          rw [HX.out]
          go_wp2
          go_ret
          exact ⟨ret_int HR.out.symm, hb1⟩
        · have hx : ((txt (Lib.decDigits (valL s.data.toList))).toList == s.toList) = false := by
            rw [Lib.toList_data, Lib.toList_data, txt_toList, beq_eq_false_iff_ne]; exact hdv
          have hr := rd_no s.data.toList (fun ⟨_, _, _, h4⟩ => hdv h4)
          have HR := Lib.hid hr
          clear hr hdv he
          generalize valL s.data.toList = n at hv hx
          generalize ht : txt (Lib.decDigits n) = t at hx
          have HT := Lib.hid ht
          clear ht
          go_wp2_with fail
          refine (dec_nat n _ (by omega)).mono ?_
          rintro e w1 ⟨rfl, hb1⟩
          rw [HT.out]
          go_wp2
          go_ret
          exact ⟨ret_int HR.out.symm, hb1⟩

set_option maxHeartbeats 400000 in
theorem readdec_impl (s : ByteArray) (w : World) (hs : s.size ≤ 1048576) :
    Calls Tryz.prog 77 #[.string s] w fun e w' => e = .returned (.int .i64 (rdV s.data.toList)) ∧ Below w.heap.size w w' := by
  by_cases h0 : s.size = 0
  · obtain rfl := empty_of s h0
    have hr := rd_no [] (fun ⟨_, h2, _⟩ => h2 rfl)
    have HR := Lib.hid hr
    clear hr
    go_enter Tryz.func77, Tryz.ntmps77
    go_wp2
    go_ret
    exact ⟨ret_int HR.out.symm, Below.refl _ _⟩
  · have hne := not_empty s h0
    have h01 : 0 < s.size := by omega
    by_cases h12 : s.size ≤ 12
    · by_cases hz : s[0].toNat = 48 ∧ 1 < s.size
      · obtain ⟨hz, h1⟩ := hz
        have hz1 : (((s[0].toNat : Nat) : Int) == 48) = true := by simp; omega
        have hr : rdV s.data.toList = -1 := rd_nought _ (by
          have := drop_cons s 0 h01
          rw [List.drop_zero] at this
          rw [this]
          simp only [List.head?_cons, Option.some.injEq]
          exact UInt8.toNat_inj.1 hz) (by rw [data_length]; exact h1)
        have HR := Lib.hid hr
        clear hr hz
        go_enter Tryz.func77, Tryz.ntmps77
        go_wp2
        go_ret
        exact ⟨ret_int HR.out.symm, Below.refl _ _⟩
      · have hgo : (∀ c ∈ s.data.toList, isDig c = true) → rdV s.data.toList = valL s.data.toList := by
          intro hall
          have hl := data_length s
          refine rd_yes _ (by omega) (by intro e; rw [e] at hl; simp at hl; omega) hall ?_
          refine (dec_val (s.size - 1) _ (by omega) hall ?_).1
          have hd := drop_cons s 0 h01
          rw [List.drop_zero] at hd
          by_cases h1 : s.size = 1
          · left; omega
          · right
            rw [hd]
            simp only [List.head?_cons, ne_eq, Option.some.injEq]
            intro e
            exact hz ⟨by rw [e]; rfl, by omega⟩
        have HG := Lib.hid hgo
        clear hgo
        have main : (((s[0].toNat : Nat) : Int) == 48) = false ∨ ((((s[0].toNat : Nat) : Int) == 48) = true ∧ s.size ≤ 1) := by
          by_cases h48 : s[0].toNat = 48
          · right; exact ⟨by simp; omega, by omega⟩
          · left; simp; omega
        clear hz
        have hdec : decide (12 < (s.size : Int)) = false := by simp; omega
        have hdec2 : s.size ≤ 1 → decide (1 < (s.size : Int)) = false := by simp; omega
        rcases main with hz | ⟨hz, h1⟩
        all_goals
          try (have hdec3 := hdec2 h1)
          clear hdec2
          go_enter Tryz.func77, Tryz.ntmps77
          go_wp2
          go_loopw [3] (fun n wr => ∃ k : Nat, k ≤ s.size ∧ n = .int .i64 (valL (s.data.toList.take k)) ∧ DigTo s k ∧ wr.heap[w.heap.size]? = some (.stringIter s k) ∧ Below w.heap.size w wr) (fun _ wr => s.size - wr.iterPos w.heap.size)
          case atStart => exact ⟨0, by omega, rfl, by simp [DigTo], World.iter_heap w s 0, (Below.refl _ w).alloc (Nat.le_refl _) _⟩
          case round =>
            obtain ⟨k, hk1, rfl, hd, hit, hbw⟩ := hrel
            have HD := Lib.hid hd
            clear hd
            by_cases hp : k < s.size
            · by_cases hd : 48 ≤ s[k].toNat ∧ s[k].toNat ≤ 57
              · obtain ⟨hd1, hd2⟩ := hd
                have hnx : ∀ ty, (Instr.next (.pointer (some ⟨w.heap.size, 0, none⟩)) true ty).run Tryz.prog wr = _ := fun ty => Lib.run_next_ascii_at wr w.heap.size s k ty hit hp (by omega)
                have hit2 := Lib.iterAt_heap wr w.heap.size s k (k + 1) hit
                have hbw2 := Lib.below_iterAt hbw (k := w.heap.size) (Nat.le_refl _) s (k + 1)
                have hv := val_take_lt s k (by omega) HD.out
                have HV := Lib.hid (val_take s k hp)
                generalize valL (s.data.toList.take k) = n at hv HV
                go_wp2
                go_roundw
                case rel => exact ⟨k + 1, by omega, by rw [HV.out]; go_num, digTo_snoc s k hp HD.out hd1 hd2, hit2, hbw2⟩
                case measure =>
                  simp only [World.iterPos, hit2, hit]
                  omega
              · have hnx : ∀ ty, (Instr.next (.pointer (some ⟨w.heap.size, 0, none⟩)) true ty).run Tryz.prog wr = _ := fun ty => Lib.run_next_any_at wr w.heap.size s k ty hit hp
                have hr := no_dig s k hp hd
                have HR := Lib.hid hr
                have hd2 := dec_lo s k hp hd
                have hd3 := decode_le s k
                clear hr hd
                have hbw2 := Lib.below_iterAt hbw (k := w.heap.size) (Nat.le_refl _) s (k + (Utf8.decode s k).2)
                rcases hd2 with hd2 | hd2
                all_goals
                  go_wp2
                  go_ret
                  exact ⟨ret_int HR.out.symm, hbw2⟩
            · have hnx : ∀ ty, (Instr.next (.pointer (some ⟨w.heap.size, 0, none⟩)) true ty).run Tryz.prog wr = _ := fun ty => Lib.run_next_end_at wr w.heap.size s k ty hit hp
              have he : s.data.toList.take k = s.data.toList := List.take_of_length_le (by rw [Array.length_toList]; show s.size ≤ k; omega)
              have hr := HG.out (digTo_all s k (by omega) HD.out)
              have HR := Lib.hid hr
              clear hr
              rw [he]
              go_wp2
              go_ret
              exact ⟨ret_int HR.out.symm, hbw⟩
    · have hr := rd_no s.data.toList (fun ⟨h1, _⟩ => h12 (by rw [← data_length]; exact h1))
      have HR := Lib.hid hr
      clear hr
      go_enter Tryz.func77, Tryz.ntmps77
      go_wp2
      go_ret
      exact ⟨ret_int HR.out.symm, Below.refl _ _⟩

theorem hexI_call (c : UInt8) (w : World) :
    Calls Tryz.prog 103 #[.string { data := #[48, 49, 50, 51, 52, 53, 54, 55, 56, 57, 97, 98, 99, 100, 101, 102] }, .int .u8 c.toNat] w fun e w' => e = .returned (.int .i64 (hexI c)) ∧ w = w' :=
  index_wrap hexs c w

end Go.Proofs.YtonpalaopnfffaaGreatDoor
