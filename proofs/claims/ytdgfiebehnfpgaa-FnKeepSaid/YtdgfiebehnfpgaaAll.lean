/- CONTRACTS: allBytes over any test of a byte; the tests. -/
import Derived.Test.YtdgfiebehnfpgaaPctI
namespace Go.Proofs.Ytdgfiebehnfpgaa
set_option linter.unusedVariables false
set_option maxRecDepth 4000
open Go.ChangeShapes Go.WideShapes Go.ChangeAt Go.RowKit
open Go.ChangeMaps (open_string shut_string)

set_option maxHeartbeats 400000 in
theorem all_call (F : FuncId) (p : UInt8 → Bool) (s : ByteArray) (w : World) (hs : s.size ≤ 9223372036854775807) (hF : ∀ (args : Array Value) (wx : World), (callFunc F args).run Try.prog wx = .ok (.enter F args) wx)
    (hc : ∀ (b : UInt8) (wx : World), Calls Try.prog F #[.int .u8 ((b.toNat : Nat) : Int)] wx fun e w' => e = .returned (.bool (p b)) ∧ wx = w') :
    Calls Try.prog 71 #[.string s, .func (.func F) #[] #[]] w fun e w' => e = .returned (.bool (s.data.toList.all p)) ∧ w = w' := by
  obtain ⟨R, hR⟩ : ∃ R, R = s.data.toList.all p := ⟨_, rfl⟩
  have HR := Lib.hid hR
  have HC := Lib.hid hc
  rw [← hR]
  clear hR hc
  go_enter Try.func71, Try.ntmps71
  go_wp2
  go_loopw [8] (fun i wr => ∃ k : Nat, k ≤ s.size ∧ i = .int .i64 k ∧ Hid (R = (s.data.toList.drop k).all p) ∧ w = wr) (fun i _ => s.size - (intOf i).toNat)
  case atStart => exact ⟨0, by omega, rfl, HR, rfl⟩
  case round =>
    obtain ⟨k, hk, rfl, hr, rfl⟩ := hrel
    by_cases hlt : k < s.size
    · have h256 : s[k].toNat < 256 := s[k].toNat_lt
      have hr2 := hr.out
      rw [drop_cons s k hlt, List.all_cons] at hr2
      have HR2 := Lib.hid hr2
      clear hr2 hr
      have hi0 : (0 : Int) ≤ (k : Int) := by omega
      have hi1 : (k : Int) < (s.size : Int) := by omega
      go_wp2_with fail
      refine (HC.out _ _).mono ?_
      rintro e w1 ⟨rfl, rfl⟩
      cases hp : p s[k] with
      | true =>
        have HR3 := Lib.hid (show R = (s.data.toList.drop (k + 1)).all p by rw [HR2.out, hp]; rfl)
        clear hp
        go_wp2
        exact ⟨⟨k + 1, by omega, by go_num, HR3, trivial⟩, by simp [intOf]; omega⟩
      | false =>
        have HR3 := Lib.hid (show R = false by rw [HR2.out, hp]; rfl)
        clear hp
        go_wp2
        go_ret
        exact ⟨ret_bool HR3.out.symm, rfl⟩
    · have hr2 := hr.out
      rw [List.drop_eq_nil_of_le (by rw [data_length]; omega)] at hr2
      have HR2 := Lib.hid (show R = true by rw [hr2]; rfl)
      clear hr2 hr
      go_wp2
      go_ret
      exact ⟨ret_bool HR2.out.symm, rfl⟩

def prB (c : UInt8) : Bool := decide (32 ≤ c.toNat) && decide (c.toNat ≤ 126)

theorem isPrintable_call (b : UInt8) (w : World) : Calls Try.prog 86 #[.int .u8 ((b.toNat : Nat) : Int)] w fun e w' => e = .returned (.bool (prB b)) ∧ w = w' := by
  have HN := Lib.hid (show prB b = (decide (32 ≤ b.toNat) && decide (b.toNat ≤ 126)) from rfl)
  generalize prB b = R at HN ⊢
  by_cases h1 : 32 ≤ b.toNat
  · by_cases h2 : b.toNat ≤ 126
    · have HR := Lib.hid (show R = true by rw [HN.out, decide_eq_true h1, decide_eq_true h2]; rfl)
      go_enter Try.func86, Try.ntmps86
      go_wp2
      go_ret
      exact ⟨ret_bool (by rw [HR.out]; simp; omega), rfl⟩
    · have HR := Lib.hid (show R = false by rw [HN.out, decide_eq_true h1, decide_eq_false h2]; rfl)
      go_enter Try.func86, Try.ntmps86
      go_wp2
      go_ret
      exact ⟨ret_bool (by rw [HR.out]; simp; omega), rfl⟩
  · have HR := Lib.hid (show R = false by rw [HN.out, decide_eq_false h1]; rfl)
    go_enter Try.func86, Try.ntmps86
    go_wp2
    go_ret
    exact ⟨ret_bool HR.out.symm, rfl⟩

theorem printable_all (s : ByteArray) (w : World) (hs : s.size ≤ 9223372036854775807) :
    Calls Try.prog 71 #[.string s, .func (.func 86) #[] #[]] w fun e w' => e = .returned (.bool (s.data.toList.all prB)) ∧ w = w' :=
  all_call 86 prB s w hs (fun _ _ => by kernel_rfl) isPrintable_call

theorem prB_int (c : UInt8) : (decide ((32 : Int) ≤ ((c.toNat : Nat) : Int)) && decide (((c.toNat : Nat) : Int) ≤ 126)) = prB c := by
  unfold prB
  congr 1 <;> simp <;> omega

/-- bytes of a path, of a head's key -/
def pathB (c : UInt8) : Bool := letterB c || digitB c || c == 45 || c == 95 || c == 46 || c == 47

def hkB (c : UInt8) : Bool := letterB c || c == 45

theorem signs_fin : ∀ n : Fin 256, decide (0 ≤ Lib.indexByte [45, 95, 46, 47] (UInt8.ofNat n.val)) = (UInt8.ofNat n.val == 45 || UInt8.ofNat n.val == 95 || UInt8.ofNat n.val == 46 || UInt8.ofNat n.val == 47) := by decide +kernel

theorem signs_at (c : UInt8) : decide (0 ≤ Lib.indexByte [45, 95, 46, 47] c) = (c == 45 || c == 95 || c == 46 || c == 47) := by
  have h := signs_fin ⟨c.toNat, c.toNat_lt⟩
  have e : UInt8.ofNat (⟨c.toNat, c.toNat_lt⟩ : Fin 256).val = c := by simp
  rw [e] at h
  exact h

theorem byte_eq (c n : UInt8) : (c == n) = (((c.toNat : Nat) : Int) == ((n.toNat : Nat) : Int)) := by
  rw [Bool.eq_iff_iff, beq_iff_eq, beq_iff_eq]
  exact ⟨fun h => by rw [h], fun h => UInt8.toNat_inj.1 (by omega)⟩

set_option maxHeartbeats 400000 in
theorem isPathByte_call (b : UInt8) (w : World) : Calls Try.prog 77 #[.int .u8 ((b.toNat : Nat) : Int)] w fun e w' => e = .returned (.bool (pathB b)) ∧ w = w' := by
  have HN := Lib.hid (show pathB b = (letterB b || digitB b || decide (0 ≤ Lib.indexByte [45, 95, 46, 47] b)) by unfold pathB; rw [signs_at]; simp [Bool.or_assoc])
  have I := Lib.hid (fun wx => index_wrap ⟨#[45, 95, 46, 47]⟩ b wx)
  have hge : -1 ≤ Lib.indexByte [45, 95, 46, 47] b := Lib.indexByte_ge _ _
  change Hid (∀ wx, Calls Try.prog 87 #[.string ⟨#[45, 95, 46, 47]⟩, .int .u8 b.toNat] wx fun e w' => e = .returned (.int .i64 (Lib.indexByte [45, 95, 46, 47] b)) ∧ wx = w') at I
  generalize Lib.indexByte [45, 95, 46, 47] b = n at HN I hge
  generalize pathB b = R at HN ⊢
  cases hl : letterB b with
  | true =>
    have HR := Lib.hid (show R = true by rw [HN.out, hl]; rfl)
    clear hge
    go_enter Try.func77, Try.ntmps77
    go_wp2_with fail
    refine (isLetter_call _ _).mono ?_
    rintro e w1 ⟨rfl, rfl⟩
    rw [hl]
    go_wp2
    go_ret
    exact ⟨ret_bool HR.out.symm, rfl⟩
  | false =>
    cases hd : digitB b with
    | true =>
      have HR := Lib.hid (show R = true by rw [HN.out, hl, hd]; rfl)
      clear hge
      go_enter Try.func77, Try.ntmps77
      go_wp2_with fail
      refine (isLetter_call _ _).mono ?_
      rintro e w1 ⟨rfl, rfl⟩
      rw [hl]
      go_wp2_with fail
      refine (isDigit_call _ _).mono ?_
      rintro e w1 ⟨rfl, rfl⟩
      rw [hd]
      go_wp2
      go_ret
      exact ⟨ret_bool HR.out.symm, rfl⟩
    | false =>
      have HR := Lib.hid (show R = decide (0 ≤ n) by rw [HN.out, hl, hd]; rfl)
      go_enter Try.func77, Try.ntmps77
      go_wp2_with fail
      refine (isLetter_call _ _).mono ?_
      rintro e w1 ⟨rfl, rfl⟩
      rw [hl]
      go_wp2_with fail
      refine (isDigit_call _ _).mono ?_
      rintro e w1 ⟨rfl, rfl⟩
      rw [hd]
      go_wp2_with fail
      refine (I.out _).mono ?_
      rintro e w1 ⟨rfl, rfl⟩
      go_wp2
      go_ret
      exact ⟨ret_bool (by rw [HR.out]), rfl⟩

theorem path_all (s : ByteArray) (w : World) (hs : s.size ≤ 9223372036854775807) :
    Calls Try.prog 71 #[.string s, .func (.func 77) #[] #[]] w fun e w' => e = .returned (.bool (s.data.toList.all pathB)) ∧ w = w' :=
  all_call 77 pathB s w hs (fun _ _ => by kernel_rfl) isPathByte_call

end Go.Proofs.Ytdgfiebehnfpgaa
