/- CONTRACTS: what a right field is: l04Key, l04Plain, l04Field of the model; fieldKeyOk, valid of the program. -/
import Derived.Test.YtljifooeokhgeaaFldC
import Derived.Test.YtljifooeokhgeaaAll
import Derived.Laws.StructEq
namespace Go.Proofs.Ytljifooeokhgeaa
set_option linter.unusedVariables false
set_option maxRecDepth 4000
open Go.ChangeShapes Go.WideShapes Go.ChangeAt Go.RowKit
open Go.ChangeMaps (open_string shut_string)

namespace Fld

def lowC (c : UInt8) : Bool := decide ((97 : Int) ≤ ((c.toNat : Nat) : Int)) && decide (((c.toNat : Nat) : Int) ≤ 122)
def digC (c : UInt8) : Bool := decide ((48 : Int) ≤ ((c.toNat : Nat) : Int)) && decide (((c.toNat : Nat) : Int) ≤ 57)
def keyB (c : UInt8) : Bool := lowC c || digC c || (((c.toNat : Nat) : Int) == 95)
def plainB (c : UInt8) : Bool := decide ((32 : Int) ≤ ((c.toNat : Nat) : Int)) && decide (((c.toNat : Nat) : Int) ≤ 126)
def keyOk (k : List UInt8) : Bool := k.all keyB && (decide ((1 : Int) ≤ (k.length : Int)) && decide ((k.length : Int) ≤ 30))
def plainL (t : List UInt8) : Bool := t.all plainB
def textOk (t : List UInt8) : Bool := decide (t.length ≤ 300) && plainL t
def numOk (n : Int) : Bool := decide (0 ≤ n) && decide (n ≤ 999999999999)
def fieldR (p : FieldL) : Bool := keyOk p.1 && (if p.2.2.2 then decide (p.2.1 = []) && numOk p.2.2.1 else decide (p.2.2.1 = 0) && textOk p.2.1)

theorem in_call (b lo hi : Int) (w : World) : Calls Try.prog 48 #[.int .i64 b, .int .i64 lo, .int .i64 hi] w fun e w' => e = .returned (.bool (decide (lo ≤ b) && decide (b ≤ hi))) ∧ w = w' := by
  by_cases h1 : lo ≤ b
  · by_cases h2 : b ≤ hi
    · go_enter Try.func48, Try.ntmps48
      go_wp2
      go_ret
      exact ⟨ret_bool (by simp; omega), rfl⟩
    · go_enter Try.func48, Try.ntmps48
      go_wp2
      go_ret
      exact ⟨ret_bool (decide_eq_false (by omega)).symm, rfl⟩
  · go_enter Try.func48, Try.ntmps48
    go_wp2
    go_ret
    exact ⟨ret_bool (by rw [decide_eq_false (by omega)]; rfl), rfl⟩

theorem digit_call (b : UInt8) (w : World) : Calls Try.prog 51 #[.int .u8 ((b.toNat : Nat) : Int)] w fun e w' => e = .returned (.bool (digC b)) ∧ w = w' := by
  have h256 : b.toNat < 256 := b.toNat_lt
  go_enter Try.func51, Try.ntmps51
  go_wp2_with fail
  refine (in_call _ _ _ _).mono ?_
  rintro e w1 ⟨rfl, rfl⟩
  go_wp2
  go_ret
  exact ⟨rfl, rfl⟩

theorem isDigit_call (b : UInt8) (w : World) : Calls Try.prog 64 #[.int .u8 ((b.toNat : Nat) : Int)] w fun e w' => e = .returned (.bool (digC b)) ∧ w = w' := by
  have h256 : b.toNat < 256 := b.toNat_lt
  have HD := Lib.hid (show digC b = (decide ((48 : Int) ≤ ((b.toNat : Nat) : Int)) && decide (((b.toNat : Nat) : Int) ≤ 57)) from rfl)
  generalize digC b = R at HD ⊢
  by_cases h1 : (48 : Int) ≤ ((b.toNat : Nat) : Int)
  · by_cases h2 : ((b.toNat : Nat) : Int) ≤ 57
    · go_enter Try.func64, Try.ntmps64
      go_wp2
      go_ret
      exact ⟨ret_bool (by rw [HD.out, decide_eq_true h1, decide_eq_true h2]; rfl), rfl⟩
    · go_enter Try.func64, Try.ntmps64
      go_wp2
      go_ret
      exact ⟨ret_bool (by rw [HD.out, decide_eq_true h1, decide_eq_false (by omega)]; rfl), rfl⟩
  · go_enter Try.func64, Try.ntmps64
    go_wp2
    go_ret
    exact ⟨ret_bool (by rw [HD.out, decide_eq_false (by omega)]; rfl), rfl⟩

theorem size_drop (s : ByteArray) (k : Nat) (h : ¬ k < s.size) : s.data.toList.drop k = [] := List.drop_eq_nil_of_le (by rw [Array.length_toList]; show s.size ≤ k; omega)

set_option maxHeartbeats 400000 in
theorem key_spec (s : ByteArray) (w : World) (hs : s.size ≤ 9223372036854775807) :
    Calls Try.prog 47 #[.string s] w fun e w' => e = .returned (.bool (keyOk s.data.toList)) ∧ w = w' := by
  obtain ⟨L, hL⟩ : ∃ L : Bool, L = (decide ((1 : Int) ≤ (s.size : Int)) && decide ((s.size : Int) ≤ 30)) := ⟨_, rfl⟩
  obtain ⟨R, hR⟩ : ∃ R, R = keyOk s.data.toList := ⟨_, rfl⟩
  have HR := Lib.hid (show R = (s.data.toList.all keyB && L) by rw [hR, hL]; unfold keyOk; rw [data_length])
  have HL := Lib.hid hL
  rw [← hR]
  clear hR hL
  go_enter Try.func47, Try.ntmps47
  go_wp2
  go_loopw [3] (fun i wr => ∃ k : Nat, k ≤ s.size ∧ i = .int .i64 k ∧ Hid (R = ((s.data.toList.drop k).all keyB && L)) ∧ w = wr) (fun i _ => s.size - (intOf i).toNat)
  case atStart => exact ⟨0, by omega, rfl, HR, rfl⟩
  case round =>
    obtain ⟨k, hk, rfl, hr, rfl⟩ := hrel
    by_cases hlt : k < s.size
    · have h256 : s[k].toNat < 256 := s[k].toNat_lt
      have hr2 := hr.out
      rw [drop_cons s k hlt, List.all_cons] at hr2
      have HK := Lib.hid (show keyB s[k] = (lowC s[k] || digC s[k] || (((s[k].toNat : Nat) : Int) == 95)) from rfl)
      have HR2 := Lib.hid hr2
      clear hr2 hr
      go_wp2_with fail
      refine (in_call _ _ _ _).mono ?_
      rintro e w1 ⟨rfl, rfl⟩
      rw [show (decide ((97 : Int) ≤ ((s[k].toNat : Nat) : Int)) && decide (((s[k].toNat : Nat) : Int) ≤ 122)) = lowC s[k] from rfl]
      cases hlow : lowC s[k] with
      | true =>
        have HR3 := Lib.hid (show R = ((s.data.toList.drop (k + 1)).all keyB && L) by rw [HR2.out, HK.out, hlow]; rfl)
        clear hlow
        go_wp2
        exact ⟨⟨k + 1, by omega, by go_num, HR3, trivial⟩, by simp [intOf]; omega⟩
      | false =>
        go_wp2_with fail
        refine (digit_call _ _).mono ?_
        rintro e w1 ⟨rfl, rfl⟩
        cases hdig : digC s[k] with
        | true =>
          have HR3 := Lib.hid (show R = ((s.data.toList.drop (k + 1)).all keyB && L) by rw [HR2.out, HK.out, hlow, hdig]; rfl)
          clear hlow hdig
          go_wp2
          exact ⟨⟨k + 1, by omega, by go_num, HR3, trivial⟩, by simp [intOf]; omega⟩
        | false =>
          cases hun : (((s[k].toNat : Nat) : Int) == 95) with
          | true =>
            have HR3 := Lib.hid (show R = ((s.data.toList.drop (k + 1)).all keyB && L) by rw [HR2.out, HK.out, hlow, hdig, hun]; rfl)
            clear hlow hdig
            go_wp2
            exact ⟨⟨k + 1, by omega, by go_num, HR3, trivial⟩, by simp [intOf]; omega⟩
          | false =>
            have HR3 := Lib.hid (show R = false by rw [HR2.out, HK.out, hlow, hdig, hun]; rfl)
            clear hlow hdig
            go_wp2
            go_ret
            exact ⟨ret_bool HR3.out.symm, rfl⟩
    · have hr2 := hr.out
      rw [size_drop s k hlt] at hr2
      have HR2 := Lib.hid (show R = L by rw [hr2]; rfl)
      clear hr2 hr
      go_wp2_with fail
      refine (in_call _ _ _ _).mono ?_
      rintro e w1 ⟨rfl, rfl⟩
      go_wp2
      go_ret
      exact ⟨ret_bool (by rw [HR2.out, HL.out]), rfl⟩

set_option maxHeartbeats 400000 in
theorem plain_spec (s : ByteArray) (w : World) (hs : s.size ≤ 9223372036854775807) :
    Calls Try.prog 49 #[.string s] w fun e w' => e = .returned (.bool (plainL s.data.toList)) ∧ w = w' := by
  obtain ⟨R, hR⟩ : ∃ R, R = plainL s.data.toList := ⟨_, rfl⟩
  have HR := Lib.hid (show R = s.data.toList.all plainB from hR)
  rw [← hR]
  clear hR
  go_enter Try.func49, Try.ntmps49
  go_wp2
  go_loopw [3] (fun i wr => ∃ k : Nat, k ≤ s.size ∧ i = .int .i64 k ∧ Hid (R = (s.data.toList.drop k).all plainB) ∧ w = wr) (fun i _ => s.size - (intOf i).toNat)
  case atStart => exact ⟨0, by omega, rfl, HR, rfl⟩
  case round =>
    obtain ⟨k, hk, rfl, hr, rfl⟩ := hrel
    by_cases hlt : k < s.size
    · have h256 : s[k].toNat < 256 := s[k].toNat_lt
      have hr2 := hr.out
      rw [drop_cons s k hlt, List.all_cons] at hr2
      have HR2 := Lib.hid hr2
      clear hr2 hr
      go_wp2_with fail
      refine (in_call _ _ _ _).mono ?_
      rintro e w1 ⟨rfl, rfl⟩
      rw [show (decide ((32 : Int) ≤ ((s[k].toNat : Nat) : Int)) && decide (((s[k].toNat : Nat) : Int) ≤ 126)) = plainB s[k] from rfl]
      cases hp : plainB s[k] with
      | true =>
        have HR3 := Lib.hid (show R = (s.data.toList.drop (k + 1)).all plainB by rw [HR2.out, hp]; rfl)
        clear hp
        go_wp2
        exact ⟨⟨k + 1, by omega, by go_num, HR3, trivial⟩, by simp [intOf]; omega⟩
      | false =>
        have HR3 := Lib.hid (show R = false by rw [HR2.out, hp]; rfl)
        clear hp
        go_wp2
        go_ret
        exact ⟨ret_bool HR3.out.symm, rfl⟩
    · have hr2 := hr.out
      rw [size_drop s k hlt] at hr2
      have HR2 := Lib.hid (show R = true by rw [hr2]; rfl)
      clear hr2 hr
      go_wp2
      go_ret
      exact ⟨ret_bool HR2.out.symm, rfl⟩

set_option maxHeartbeats 1600000 in
theorem isFieldKeyByte_call (b : UInt8) (w : World) : Calls Try.prog 59 #[.int .u8 ((b.toNat : Nat) : Int)] w fun e w' => e = .returned (.bool (keyB b)) ∧ w = w' := by
  have h256 : b.toNat < 256 := b.toNat_lt
  have HK := Lib.hid (show keyB b = (lowC b || digC b || (((b.toNat : Nat) : Int) == 95)) from rfl)
  have HLo := Lib.hid (show lowC b = (decide ((97 : Int) ≤ ((b.toNat : Nat) : Int)) && decide (((b.toNat : Nat) : Int) ≤ 122)) from rfl)
  generalize keyB b = R at HK ⊢
  cases hdig : digC b with
  | true =>
    have HR := Lib.hid (show R = true by rw [HK.out, hdig, Bool.or_true]; rfl)
    go_enter Try.func59, Try.ntmps59
    go_wp2_with fail
    refine (isDigit_call _ _).mono ?_
    rintro e w1 ⟨rfl, rfl⟩
    rw [hdig]
    clear hdig
    go_wp2
    go_ret
    exact ⟨ret_bool HR.out.symm, rfl⟩
  | false =>
    by_cases hun : ((b.toNat : Nat) : Int) = 95
    · have HR := Lib.hid (show R = true by rw [HK.out, hun]; simp)
      have HUN := Lib.hid hun
      clear hun
      go_enter Try.func59, Try.ntmps59
      go_wp2_with fail
      refine (isDigit_call _ _).mono ?_
      rintro e w1 ⟨rfl, rfl⟩
      rw [hdig]
      clear hdig
      have hun := HUN.out
      go_wp2
      go_ret
      exact ⟨ret_bool HR.out.symm, rfl⟩
    · have hune : (((b.toNat : Nat) : Int) == 95) = false := by simpa using hun
      by_cases h1 : (97 : Int) ≤ ((b.toNat : Nat) : Int)
      · have HR := Lib.hid (show R = decide (((b.toNat : Nat) : Int) ≤ 122) by rw [HK.out, hdig, hune, HLo.out, decide_eq_true h1]; simp)
        have HU := Lib.hid hune
        clear hune
        go_enter Try.func59, Try.ntmps59
        go_wp2_with fail
        refine (isDigit_call _ _).mono ?_
        rintro e w1 ⟨rfl, rfl⟩
        rw [hdig]
        clear hdig
        go_wp2
        go_ret
        exact ⟨ret_bool (by rw [HU.out, HR.out]; rfl), rfl⟩
      · have HR := Lib.hid (show R = false by rw [HK.out, hdig, hune, HLo.out, decide_eq_false h1]; rfl)
        have HU := Lib.hid hune
        clear hune
        go_enter Try.func59, Try.ntmps59
        go_wp2_with fail
        refine (isDigit_call _ _).mono ?_
        rintro e w1 ⟨rfl, rfl⟩
        rw [hdig]
        clear hdig
        go_wp2
        go_ret
        exact ⟨ret_bool (by rw [HU.out, HR.out]), rfl⟩

theorem fieldKey_all (s : ByteArray) (w : World) (hs : s.size ≤ 9223372036854775807) :
    Calls Try.prog 58 #[.string s, .func (.func 59) #[] #[]] w fun e w' => e = .returned (.bool (s.data.toList.all keyB)) ∧ w = w' :=
  all_call 59 keyB s w hs (fun _ _ => by kernel_rfl) isFieldKeyByte_call

set_option maxHeartbeats 400000 in
theorem key_impl (s : ByteArray) (w : World) (hs : s.size ≤ 9223372036854775807) :
    Calls Try.prog 45 #[.string s] w fun e w' => e = .returned (.bool (keyOk s.data.toList)) ∧ w = w' := by
  obtain ⟨R, hR⟩ : ∃ R, R = keyOk s.data.toList := ⟨_, rfl⟩
  have HR := Lib.hid (show R = (s.data.toList.all keyB && (decide ((1 : Int) ≤ (s.size : Int)) && decide ((s.size : Int) ≤ 30))) by rw [hR]; unfold keyOk; rw [data_length])
  have C := Lib.hid (fun wx => fieldKey_all s wx hs)
  rw [← hR]
  clear hR
  generalize s.data.toList.all keyB = A at HR C
  by_cases h0 : s.size = 0
  · have HR1 := Lib.hid (show R = false by rw [HR.out, decide_eq_false (show ¬ (1 : Int) ≤ (s.size : Int) by omega)]; simp)
    clear C
    obtain rfl := empty_of s h0
    go_enter Try.func45, Try.ntmps45
    go_wp2
    go_ret
    exact ⟨ret_bool HR1.out.symm, rfl⟩
  · have hne := not_empty s h0
    by_cases h30 : s.size ≤ 30
    · have HR1 := Lib.hid (show R = A by rw [HR.out, decide_eq_true (show (1 : Int) ≤ (s.size : Int) by omega), decide_eq_true (show (s.size : Int) ≤ 30 by omega)]; simp)
      clear HR
      go_enter Try.func45, Try.ntmps45
      go_wp2_with fail
      refine (C.out _).mono ?_
      rintro e w1 ⟨rfl, rfl⟩
      go_wp2
      go_ret
      exact ⟨ret_bool HR1.out.symm, rfl⟩
    · have HR1 := Lib.hid (show R = false by rw [HR.out, decide_eq_false (show ¬ (s.size : Int) ≤ 30 by omega)]; simp)
      clear HR C
      go_enter Try.func45, Try.ntmps45
      go_wp2
      go_ret
      exact ⟨ret_bool HR1.out.symm, rfl⟩

theorem numValid_call (n : Int) (w : World) : Calls Try.prog 90 #[.int .i64 n] w fun e w' => e = .returned (.bool (numOk n)) ∧ w = w' := by
  have HN := Lib.hid (show numOk n = (decide (0 ≤ n) && decide (n ≤ 999999999999)) from rfl)
  generalize numOk n = R at HN ⊢
  by_cases h1 : 0 ≤ n
  · by_cases h2 : n ≤ 999999999999
    · go_enter Try.func90, Try.ntmps90
      go_wp2
      go_ret
      exact ⟨ret_bool (by rw [HN.out, decide_eq_true h1, decide_eq_true h2]; rfl), rfl⟩
    · go_enter Try.func90, Try.ntmps90
      go_wp2
      go_ret
      exact ⟨ret_bool (by rw [HN.out, decide_eq_true h1, decide_eq_false (by omega)]; rfl), rfl⟩
  · go_enter Try.func90, Try.ntmps90
    go_wp2
    go_ret
    exact ⟨ret_bool (by rw [HN.out, decide_eq_false (by omega)]; rfl), rfl⟩

theorem prB_plain : prB = plainB := by
  funext c
  unfold prB plainB
  congr 1 <;> simp <;> omega

set_option maxHeartbeats 400000 in
theorem textValid_call (s : ByteArray) (w : World) (hs : s.size ≤ 9223372036854775807) :
    Calls Try.prog 92 #[.string s] w fun e w' => e = .returned (.bool (textOk s.data.toList)) ∧ w = w' := by
  obtain ⟨R, hR⟩ : ∃ R, R = textOk s.data.toList := ⟨_, rfl⟩
  have HR := Lib.hid (show R = (decide (s.size ≤ 300) && s.data.toList.all prB) by rw [hR, prB_plain]; unfold textOk plainL; rw [data_length])
  have C := Lib.hid (fun wx => printable_all s wx hs)
  rw [← hR]
  clear hR
  generalize s.data.toList.all prB = A at HR C
  by_cases h30 : s.size ≤ 300
  · have HR1 := Lib.hid (show R = A by rw [HR.out, decide_eq_true h30]; simp)
    clear HR
    go_enter Try.func92, Try.ntmps92
    go_wp2_with fail
    refine (C.out _).mono ?_
    rintro e w1 ⟨rfl, rfl⟩
    go_wp2
    go_ret
    exact ⟨ret_bool HR1.out.symm, rfl⟩
  · have HR1 := Lib.hid (show R = false by rw [HR.out, decide_eq_false h30]; simp)
    clear HR C
    go_enter Try.func92, Try.ntmps92
    go_wp2
    go_ret
    exact ⟨ret_bool HR1.out.symm, rfl⟩

set_option maxHeartbeats 400000 in
theorem contentOf_call (p : FieldL) (w : World) :
    Calls Try.prog 44 #[.agg (fc p).toArray] w fun e w' => e = .returned (if p.2.2.2 then .iface 83 (.int .i64 p.2.2.1) else .iface 84 (.string (txt p.2.1))) ∧ Below w.heap.size w w' := by
  obtain ⟨pk, pv, pn, pb⟩ := p
  simp only [fc]
  cases pb
  · go_enter Try.func44, Try.ntmps44
    go_wp2
    go_ret
    exact ⟨rfl, (Below.refl _ w).alloc (Nat.le_refl _) _⟩
  · go_enter Try.func44, Try.ntmps44
    go_wp2
    go_ret
    exact ⟨rfl, (Below.refl _ w).alloc (Nat.le_refl _) _⟩

theorem Try.info84 : (Try.prog.info? 84).map (fun i => (i.zero, i.size, i.bytes)) = some (some (.string ⟨#[]⟩), 1, 16) := by kernel_rfl

theorem Try.info83 : (Try.prog.info? 83).map (fun i => (i.zero, i.size, i.bytes)) = some (some (.int .i64 0), 1, 8) := by kernel_rfl

theorem is_text (s : ByteArray) (w : World) : (Instr.typeAssert (.iface 84 (.string s)) 69 84 true).run Try.prog w = .ok (.tuple #[.string s, .bool true]) w := by
  simp [Instr.typeAssert, run_underlying Try.underlying84, go_sem, Result.andThen]

theorem no_text (n : Int) (w : World) : (Instr.typeAssert (.iface 83 (.int .i64 n)) 69 84 true).run Try.prog w = .ok (.tuple #[.string ⟨#[]⟩, .bool false]) w := by
  obtain ⟨i0, hi, hz, _, _⟩ := info_parts Try.info84
  simp [Instr.typeAssert, run_underlying Try.underlying84, go_sem, Result.andThen, zeroValue, hi, hz, typeInfo]

theorem is_num (n : Int) (w : World) : (Instr.typeAssert (.iface 83 (.int .i64 n)) 69 83 true).run Try.prog w = .ok (.tuple #[.int .i64 n, .bool true]) w := by
  simp [Instr.typeAssert, run_underlying Try.underlying83, go_sem, Result.andThen]

set_option maxHeartbeats 400000 in
theorem fieldWithT_call (k t : List UInt8) (w : World) :
    Calls Try.prog 46 #[.string (txt k), .iface 84 (.string (txt t))] w fun e w' => e = .returned (.agg (fc (k, t, 0, false)).toArray) ∧ Below w.heap.size w w' := by
  simp only [fc]
  have h1 := is_text (txt t)
  go_enter Try.func46, Try.ntmps46
  go_wp2
  refine bodyPost_ret (v := .agg #[.string (txt k), .string (txt t), .int .i64 0, .bool false]) ?_ rfl ⟨rfl, ?_⟩
  · rw [results_cell_one rfl]
    obtain ⟨i0, hi, _, hs, _⟩ := info_parts Try.info32
    have hld := run_loadVar_row (P := Try.prog) _ w.heap.size 32 32 #[.string (txt k), .string (txt t), .int .i64 0, .bool false] (0, 0) _ (heap_alloc_new w _) Try.underlying32 rfl (by rw [hi]; simp [hs])
    simp [asAddr, Result.andThen, hld]
  · exact (Below.refl _ w).alloc (Nat.le_refl _) _

set_option maxHeartbeats 400000 in
theorem fieldWithN_call (k : List UInt8) (n : Int) (w : World) :
    Calls Try.prog 46 #[.string (txt k), .iface 83 (.int .i64 n)] w fun e w' => e = .returned (.agg (fc (k, [], n, true)).toArray) ∧ Below w.heap.size w w' := by
  simp only [fc]
  have h1 := no_text n
  have h2 := is_num n
  go_enter Try.func46, Try.ntmps46
  go_wp2
  refine bodyPost_ret (v := .agg #[.string (txt k), .string (txt []), .int .i64 n, .bool true]) ?_ rfl ⟨rfl, ?_⟩
  · rw [results_cell_one rfl]
    obtain ⟨i0, hi, _, hs, _⟩ := info_parts Try.info32
    have hld := run_loadVar_row (P := Try.prog) _ w.heap.size 32 32 #[.string (txt k), .string ⟨#[]⟩, .int .i64 n, .bool true] (0, 0) _ (heap_alloc_new w _) Try.underlying32 rfl (by rw [hi]; simp [hs])
    simp [asAddr, Result.andThen, hld]
    rfl
  · exact (Below.refl _ w).alloc (Nat.le_refl _) _

/-- the field that is built anew from what a field holds -/
def again (p : FieldL) : FieldL := if p.2.2.2 then (p.1, [], p.2.2.1, true) else (p.1, p.2.1, 0, false)

def content (p : FieldL) : Value := if p.2.2.2 then .iface 83 (.int .i64 p.2.2.1) else .iface 84 (.string (txt p.2.1))

theorem fieldWith_call (p : FieldL) (w : World) :
    Calls Try.prog 46 #[.string (txt p.1), content p] w fun e w' => e = .returned (.agg (fc (again p)).toArray) ∧ Below w.heap.size w w' := by
  unfold content again
  cases p.2.2.2
  · exact fieldWithT_call p.1 p.2.1 w
  · exact fieldWithN_call p.1 p.2.2.1 w

theorem fieldR_eq (p : FieldL) : fieldR p = (keyOk p.1 && ((if p.2.2.2 then numOk p.2.2.1 else textOk p.2.1) && decide (again p = p))) := by
  obtain ⟨k, t, n, b⟩ := p
  cases b
  · simp only [fieldR, again, Bool.false_eq_true, if_false]
    congr 1
    rw [Bool.and_comm]
    congr 1
    simp only [Prod.mk.injEq, true_and, and_true, decide_eq_decide]
    exact eq_comm
  · simp only [fieldR, again, if_true]
    congr 1
    rw [Bool.and_comm]
    congr 1
    simp only [Prod.mk.injEq, true_and, and_true, decide_eq_decide]
    exact eq_comm

theorem field_eql (p q : FieldL) (w : World) : (Op.equalIn 10000 32 (.agg (fc p).toArray) (.agg (fc q).toArray)).run Try.prog w = .ok (decide (p = q)) w := by
  obtain ⟨k1, t1, n1, b1⟩ := p
  obtain ⟨k2, t2, n2, b2⟩ := q
  have e1 := txt_beq k1 k2
  have e2 := txt_beq t1 t2
  have hd : decide ((k1, t1, n1, b1) = (k2, t2, n2, b2)) = (decide (k1 = k2) && (decide (t1 = t2) && ((n1 == n2) && (b1 == b2)))) := by
    rw [Bool.eq_iff_iff]; simp
  rw [hd]
  obtain ⟨fs, hu, hfs⟩ : ∃ fs, Try.prog.underlying 32 = some (.struct fs) ∧ Try.prog.fieldsOf 32 = fs := ⟨_, Try.underlying32, by unfold Program.fieldsOf; rw [Try.underlying32]⟩
  rw [run_equalIn_struct w 9999 _ _ _ (by rw [hfs]; exact hu) (by kernel_rfl)]
  clear hu hfs
  have hl : (Try.prog.fieldsOf 32).toList.map (fun f => (f.name != "_", f.type, f.offset)) = [(true, 9, 0), (true, 9, 1), (true, 3, 2), (true, 4, 3)] := by kernel_rfl
  generalize (Try.prog.fieldsOf 32).toList = fs at hl
  obtain ⟨f0, f1, f2, f3, rfl⟩ : ∃ f0 f1 f2 f3, fs = [f0, f1, f2, f3] := by
    have hlen := congrArg List.length hl
    rw [List.length_map] at hlen
    match fs, hlen with
    | [f0, f1, f2, f3], _ => exact ⟨f0, f1, f2, f3, rfl⟩
  simp only [List.map_cons, List.map_nil, List.cons.injEq, Prod.mk.injEq, bne_iff_ne, and_true] at hl
  obtain ⟨⟨a0, b0, c0⟩, ⟨a1, b1', c1⟩, ⟨a2, b2', c2⟩, ⟨a3, b3, c3⟩⟩ := hl
  have ks : Try.prog.plainKey 9 = true := by kernel_rfl
  have ki : Try.prog.plainKey 3 = true := by kernel_rfl
  have kb : Try.prog.plainKey 4 = true := by kernel_rfl
  have q0 : ∀ x : FieldL, (part 9 (fc x).toArray 0).run Try.prog w = .ok (.string (txt x.1)) w := fun x => run_part_plain w ks rfl
  have q1 : ∀ x : FieldL, (part 9 (fc x).toArray 1).run Try.prog w = .ok (.string (txt x.2.1)) w := fun x => run_part_plain w ks rfl
  have q2 : ∀ x : FieldL, (part 3 (fc x).toArray 2).run Try.prog w = .ok (.int .i64 x.2.2.1) w := fun x => run_part_plain w ki rfl
  have q3 : ∀ x : FieldL, (part 4 (fc x).toArray 3).run Try.prog w = .ok (.bool x.2.2.2) w := fun x => run_part_plain w kb rfl
  have r0 := fun a b => run_equalIn_string (P := Try.prog) w 9998 9 a b Try.underlying9
  have r1 := fun a b => run_equalIn_int (P := Try.prog) w 9998 3 .i64 .i64 a b Try.underlying3
  have r2 := fun a b => run_equalIn_bool' (P := Try.prog) w 9998 4 a b Try.underlying4
  simp only [Nat.reduceAdd] at r0 r1 r2
  have r3 : ∀ a b : List UInt8, (Op.equalIn 9999 9 (.string (txt a)) (.string (txt b))).run Try.prog w = .ok (decide (a = b)) w := fun a b => by rw [r0, txt_beq]
  clear r0
  simp only [Op.eqFields, a0, a1, a2, a3, b0, b1', b2', b3, c0, c1, c2, c3, ne_eq, not_false_eq_true, if_true, Sem.run_bind, Sem.run_ite, Sem.run_pure, q0, q1, q2, q3, Result.andThen_ok, r1, r2, r3]
  generalize decide (k1 = k2) = x1
  generalize decide (t1 = t2) = x2
  generalize (n1 == n2) = x3
  generalize (b1 == b2) = x4
  cases x1 <;> cases x2 <;> cases x3 <;> cases x4 <;> rfl

theorem m_text (s : ByteArray) (w : World) : (method 211 84 (.string s) "loop.example/g00716/impl.valid").run Try.prog w = .ok (92, .string s) w := by kernel_rfl

theorem m_num (n : Int) (w : World) : (method 211 83 (.int .i64 n) "loop.example/g00716/impl.valid").run Try.prog w = .ok (90, .int .i64 n) w := by kernel_rfl

theorem calls_q {P : Program} {f : FuncId} {args : Array Value} {w : World} {v : Value} (h : Calls P f args w fun e w' => e = .returned v ∧ w = w') : Calls P f args w fun e w' => e = .returned v ∧ w' = w := h.mono fun _ _ ⟨he, hw⟩ => ⟨he, hw.symm⟩

set_option maxHeartbeats 1600000 in
theorem fieldOkT_call (pk pv : List UInt8) (pn : Int) (w : World) (h1 : pk.length ≤ 9223372036854775807) (h2 : pv.length ≤ 9223372036854775807) :
    Calls Try.prog 28 #[.agg #[.string (txt pk), .string (txt pv), .int .i64 pn, .bool false]] w fun e w' => e = .returned (.bool (fieldR (pk, pv, pn, false))) ∧ Below w.heap.size w w' := by
  rw [fieldR_eq]
  have C := Lib.hid (fun wx => contentOf_call (pk, pv, pn, false) wx)
  have C2 := Lib.hid (fun wx => fieldWithT_call pk pv wx)
  have K := Lib.hid (fun wx => calls_q (key_impl (txt pk) wx (by rw [txt_size]; exact h1)))
  have V := Lib.hid (fun wx => calls_q (textValid_call (txt pv) wx (by rw [txt_size]; exact h2)))
  simp only [txt_toList, fc, Bool.false_eq_true, if_false] at K V C C2 ⊢
  have hm := m_text (txt pv)
  have hE := field_eql (pk, pv, 0, false) (pk, pv, pn, false)
  simp only [fc] at hE
  generalize hq : decide ((pk, pv, (0 : Int), false) = (pk, pv, pn, false)) = q at hE
  have HQ := Lib.hid (show decide (again (pk, pv, pn, false) = (pk, pv, pn, false)) = q from hq)
  clear hq
  cases hk : keyOk pk with
  | false =>
    rw [hk] at K
    go_enter Try.func28, Try.ntmps28
    go_wp2_with fail
    refine (C.out _).mono ?_
    rintro e w1 ⟨rfl, hb1⟩
    have c0 : w1.cell? ⟨w.heap.size, 0, none⟩ = some (.string (txt pk)) := (hb1.cell (p := ⟨w.heap.size, 0, none⟩) (by simp)).trans (by simp)
    have hb1' := bstep ((Below.refl _ w).alloc (Nat.le_refl _) _) hb1
    clear hb1
    go_wp2
    go_quiet ((go_at_call 45; exact Calls.quiet_of_same (K.out _)))
    go_wp2
    go_ret
    exact ⟨rfl, below_drewN hb1' _⟩
  | true =>
    rw [hk] at K
    cases hv : textOk pv with
    | false =>
      rw [hv] at V
      go_enter Try.func28, Try.ntmps28
      go_wp2_with fail
      refine (C.out _).mono ?_
      rintro e w1 ⟨rfl, hb1⟩
      have c0 : w1.cell? ⟨w.heap.size, 0, none⟩ = some (.string (txt pk)) := (hb1.cell (p := ⟨w.heap.size, 0, none⟩) (by simp)).trans (by simp)
      have hb1' := bstep ((Below.refl _ w).alloc (Nat.le_refl _) _) hb1
      clear hb1
      go_wp2
      go_quiet (first | (go_at_call 45; exact Calls.quiet_of_same (K.out _)) | (go_at_call 92; exact Calls.quiet_of_same (V.out _)))
      go_wp2
      go_ret
      exact ⟨rfl, below_drewN hb1' _⟩
    | true =>
      rw [hv] at V
      go_enter Try.func28, Try.ntmps28
      go_wp2_with fail
      refine (C.out _).mono ?_
      rintro e w1 ⟨rfl, hb1⟩
      have c0 : w1.cell? ⟨w.heap.size, 0, none⟩ = some (.string (txt pk)) := (hb1.cell (p := ⟨w.heap.size, 0, none⟩) (by simp)).trans (by simp)
      have c1 : w1.cell? ⟨w.heap.size, 1, none⟩ = some (.string (txt pv)) := (hb1.cell (p := ⟨w.heap.size, 1, none⟩) (by simp)).trans (by simp)
      have c2 : w1.cell? ⟨w.heap.size, 2, none⟩ = some (.int .i64 pn) := (hb1.cell (p := ⟨w.heap.size, 2, none⟩) (by simp)).trans (by simp)
      have c3 : w1.cell? ⟨w.heap.size, 3, none⟩ = some (.bool false) := (hb1.cell (p := ⟨w.heap.size, 3, none⟩) (by simp)).trans (by simp)
      have hb1' := bstep ((Below.refl _ w).alloc (Nat.le_refl _) _) hb1
      have hlt : w.heap.size < w1.heap.size := Nat.lt_of_lt_of_le (by simp) hb1.size
      clear hb1
      go_wp2
      go_region_held3 (fun W => W.cell? ⟨w.heap.size, 0, none⟩ = some (.string (txt pk)) ∧ W.cell? ⟨w.heap.size, 1, none⟩ = some (.string (txt pv)) ∧ W.cell? ⟨w.heap.size, 2, none⟩ = some (.int .i64 pn) ∧ W.cell? ⟨w.heap.size, 3, none⟩ = some (.bool false) ∧ Below w.heap.size w W ∧ w.heap.size < W.heap.size)
        (first
          | exact ⟨c0, c1, c2, c3, hb1'.drew, hlt⟩
          | (go_split_ands; exact ⟨by assumption, by assumption, by assumption, by assumption, by assumption, by assumption⟩)
          | (go_split_ands; exact ⟨(hbc.cell (p := ⟨w.heap.size, _, none⟩) (by assumption)).trans (by assumption), (hbc.cell (p := ⟨w.heap.size, _, none⟩) (by assumption)).trans (by assumption), (hbc.cell (p := ⟨w.heap.size, _, none⟩) (by assumption)).trans (by assumption), (hbc.cell (p := ⟨w.heap.size, _, none⟩) (by assumption)).trans (by assumption), Below.trans (by assumption) (hbc.mono (Below.size (by assumption))), Nat.lt_of_lt_of_le (by assumption) hbc.size⟩))
        (first
          | (go_simp; go_at_call 45; refine (K.out _).mono ?_; rintro e wc ⟨rfl, rfl⟩)
          | (go_simp; go_at_call 92; refine (V.out _).mono ?_; rintro e wc ⟨rfl, rfl⟩)
          | (go_simp; go_at_call 46; refine (C2.out _).mono ?_; rintro e wc ⟨rfl, hbc⟩))
      all_goals
        have hb5 : Below w.heap.size w wc := by
          go_split_ands
          assumption
        go_wp2
        go_ret
        exact ⟨by rw [HQ.out]; rfl, hb5⟩

set_option maxHeartbeats 1600000 in
theorem fieldOkN_call (pk pv : List UInt8) (pn : Int) (w : World) (h1 : pk.length ≤ 9223372036854775807) (h2 : pv.length ≤ 9223372036854775807) :
    Calls Try.prog 28 #[.agg #[.string (txt pk), .string (txt pv), .int .i64 pn, .bool true]] w fun e w' => e = .returned (.bool (fieldR (pk, pv, pn, true))) ∧ Below w.heap.size w w' := by
  rw [fieldR_eq]
  have C := Lib.hid (fun wx => contentOf_call (pk, pv, pn, true) wx)
  have C2 := Lib.hid (fun wx => fieldWithN_call pk pn wx)
  have K := Lib.hid (fun wx => calls_q (key_impl (txt pk) wx (by rw [txt_size]; exact h1)))
  have V := Lib.hid (fun wx => calls_q (numValid_call pn wx))
  simp only [txt_toList, fc, if_true] at K V C C2 ⊢
  have hm := m_num pn
  have hE := field_eql (pk, [], pn, true) (pk, pv, pn, true)
  simp only [fc] at hE
  generalize hq : decide ((pk, ([] : List UInt8), pn, true) = (pk, pv, pn, true)) = q at hE
  have HQ := Lib.hid (show decide (again (pk, pv, pn, true) = (pk, pv, pn, true)) = q from hq)
  clear hq
  cases hk : keyOk pk with
  | false =>
    rw [hk] at K
    go_enter Try.func28, Try.ntmps28
    go_wp2_with fail
    refine (C.out _).mono ?_
    rintro e w1 ⟨rfl, hb1⟩
    have c0 : w1.cell? ⟨w.heap.size, 0, none⟩ = some (.string (txt pk)) := (hb1.cell (p := ⟨w.heap.size, 0, none⟩) (by simp)).trans (by simp)
    have hb1' := bstep ((Below.refl _ w).alloc (Nat.le_refl _) _) hb1
    clear hb1
    go_wp2
    go_quiet ((go_at_call 45; exact Calls.quiet_of_same (K.out _)))
    go_wp2
    go_ret
    exact ⟨rfl, below_drewN hb1' _⟩
  | true =>
    rw [hk] at K
    cases hv : numOk pn with
    | false =>
      rw [hv] at V
      go_enter Try.func28, Try.ntmps28
      go_wp2_with fail
      refine (C.out _).mono ?_
      rintro e w1 ⟨rfl, hb1⟩
      have c0 : w1.cell? ⟨w.heap.size, 0, none⟩ = some (.string (txt pk)) := (hb1.cell (p := ⟨w.heap.size, 0, none⟩) (by simp)).trans (by simp)
      have hb1' := bstep ((Below.refl _ w).alloc (Nat.le_refl _) _) hb1
      clear hb1
      go_wp2
      go_quiet (first | (go_at_call 45; exact Calls.quiet_of_same (K.out _)) | (go_at_call 90; exact Calls.quiet_of_same (V.out _)))
      go_wp2
      go_ret
      exact ⟨rfl, below_drewN hb1' _⟩
    | true =>
      rw [hv] at V
      go_enter Try.func28, Try.ntmps28
      go_wp2_with fail
      refine (C.out _).mono ?_
      rintro e w1 ⟨rfl, hb1⟩
      have c0 : w1.cell? ⟨w.heap.size, 0, none⟩ = some (.string (txt pk)) := (hb1.cell (p := ⟨w.heap.size, 0, none⟩) (by simp)).trans (by simp)
      have c1 : w1.cell? ⟨w.heap.size, 1, none⟩ = some (.string (txt pv)) := (hb1.cell (p := ⟨w.heap.size, 1, none⟩) (by simp)).trans (by simp)
      have c2 : w1.cell? ⟨w.heap.size, 2, none⟩ = some (.int .i64 pn) := (hb1.cell (p := ⟨w.heap.size, 2, none⟩) (by simp)).trans (by simp)
      have c3 : w1.cell? ⟨w.heap.size, 3, none⟩ = some (.bool true) := (hb1.cell (p := ⟨w.heap.size, 3, none⟩) (by simp)).trans (by simp)
      have hb1' := bstep ((Below.refl _ w).alloc (Nat.le_refl _) _) hb1
      have hlt : w.heap.size < w1.heap.size := Nat.lt_of_lt_of_le (by simp) hb1.size
      clear hb1
      go_wp2
      go_region_held3 (fun W => W.cell? ⟨w.heap.size, 0, none⟩ = some (.string (txt pk)) ∧ W.cell? ⟨w.heap.size, 1, none⟩ = some (.string (txt pv)) ∧ W.cell? ⟨w.heap.size, 2, none⟩ = some (.int .i64 pn) ∧ W.cell? ⟨w.heap.size, 3, none⟩ = some (.bool true) ∧ Below w.heap.size w W ∧ w.heap.size < W.heap.size)
        (first
          | exact ⟨c0, c1, c2, c3, hb1'.drew, hlt⟩
          | (go_split_ands; exact ⟨by assumption, by assumption, by assumption, by assumption, by assumption, by assumption⟩)
          | (go_split_ands; exact ⟨(hbc.cell (p := ⟨w.heap.size, _, none⟩) (by assumption)).trans (by assumption), (hbc.cell (p := ⟨w.heap.size, _, none⟩) (by assumption)).trans (by assumption), (hbc.cell (p := ⟨w.heap.size, _, none⟩) (by assumption)).trans (by assumption), (hbc.cell (p := ⟨w.heap.size, _, none⟩) (by assumption)).trans (by assumption), Below.trans (by assumption) (hbc.mono (Below.size (by assumption))), Nat.lt_of_lt_of_le (by assumption) hbc.size⟩))
        (first
          | (go_simp; go_at_call 45; refine (K.out _).mono ?_; rintro e wc ⟨rfl, rfl⟩)
          | (go_simp; go_at_call 90; refine (V.out _).mono ?_; rintro e wc ⟨rfl, rfl⟩)
          | (go_simp; go_at_call 46; refine (C2.out _).mono ?_; rintro e wc ⟨rfl, hbc⟩))
      all_goals
        have hb5 : Below w.heap.size w wc := by
          go_split_ands
          assumption
        go_wp2
        go_ret
        exact ⟨by rw [HQ.out]; rfl, hb5⟩

theorem fieldOk_call (p : FieldL) (w : World) (hp : okM p) :
    Calls Try.prog 28 #[.agg (fc p).toArray] w fun e w' => e = .returned (.bool (fieldR p)) ∧ Below w.heap.size w w' := by
  obtain ⟨pk, pv, pn, pb⟩ := p
  cases pb
  · exact fieldOkT_call pk pv pn w hp.1 hp.2.1
  · exact fieldOkN_call pk pv pn w hp.1 hp.2.1

end Fld

end Go.Proofs.Ytljifooeokhgeaa
