/- CONTRACTS of the drawing of words and of pairs of texts, and what joins words. -/
import Derived.Test.YtlbjahnihphckaaDraw
namespace Go.Proofs.Ytlbjahnihphckaa
set_option linter.unusedVariables false
open Go.ChangeShapes Go.WideShapes Go.ChangeAt Go.RowKit
open Go.ChangeMaps (open_string shut_string)

/-- the next byte that is drawn -/
def dB (z : Nat → UInt8) (n i : Nat) (h : Int) : Int := if i < n then bits .and .i64 (fxb (lcg h) + (((z i).toNat : Nat) : Int)) 255 else fxb (lcg h)
theorem dB_range (z : Nat → UInt8) (n i : Nat) (h : Int) : 0 ≤ dB z n i h ∧ dB z n i h ≤ 255 := by
  unfold dB
  split
  · exact and255 _
  · exact and255 _

set_option maxHeartbeats 400000 in
theorem byte_more_x (B g : Nat) (av : Option Addr) (n c i : Nat) (h : Int) (w : World) (z : Nat → UInt8) (hZ : CodeZ w av n z) (hC : Cur w B g av n c i h) (hin : i < n) :
    Calls Try.prog 56 #[.pointer (some ⟨g, 0, none⟩)] w fun e w' => e = .returned (.int .i64 (dB z n i h)) ∧ Cur w' B g av n c (i + 1) (lcg h) ∧ w.grownBy w' (some g) := by
  have hglt := lt_of_block hC.box
  obtain ⟨b, off, rfl, hbB⟩ : ∃ b off, av = some ⟨b, off, none⟩ ∧ b < B := by
    rcases hC.code with h0 | ⟨b, off, h1, h2, _⟩
    · omega
    · exact ⟨b, off, h1, h2⟩
  have hz := hZ b off rfl i hin
  have hzz : (z i).toNat < 256 := (z i).toNat_lt
  have hdB : dB z n i h = bits .and .i64 (fxb (lcg h) + (((z i).toNat : Nat) : Int)) 255 := by unfold dB; rw [if_pos hin]
  have HD := Lib.hid hdB
  clear hdB
  generalize z i = z at hz hzz HD
  have hbg : b ≠ g := by have := hC.base; omega
  have c0 := box_cell hC.box 0
  have c1 := box_cell hC.box 1
  have c2 := box_cell hC.box 2
  have f2 := box_free hC.box 2
  have hb := box_set hC.box 2 (.int .i64 (lcg h))
  simp at c0 c1 c2 hb
  have d0 := box_cell hb 0
  have d1 := box_cell hb 1
  have d2 := box_cell hb 2
  have e1 := box_free hb 1
  simp at d0 d1 d2
  have hb2 := box_set hb 1 (.int .i64 ((i : Int) + 1))
  simp at hb2
  have hl : wrap64 (wrap64 (h * 6364136223846793005) + 1442695040888963407) = lcg h := rfl
  have hx : bits .and .i64 (bits .xor .i64 (lcg h / 8589934592) (lcg h / 35184372088832)) 255 = fxb (lcg h) := rfl
  have HL := Lib.hid hl
  clear hl
  have hgr := box_grown w g 2 (.int .i64 (lcg h)) hglt
  have hz1 : (w.setCell ⟨g, 2, none⟩ (.int .i64 (lcg h))).cell? ⟨b, off + i, none⟩ = some (.int .u8 ((z.toNat : Nat) : Int)) := by
    rw [World.cell?_setCell_other w _ _ _ (by intro e; injection e with e1 e2; exact hbg e1.symm)]
    exact hz
  go_enter Try.func56, Try.ntmps56
  go_wp2
  rw [HL.out]
  have hs1 : (w.setCell ⟨g, 2, none⟩ (.int .i64 (lcg h))).heap.size = w.heap.size := by simp
  generalize w.setCell ⟨g, 2, none⟩ (.int .i64 (lcg h)) = W1 at hb hb2 d0 d1 d2 e1 hgr hz1 hs1 ⊢
  clear c0 c1 c2 f2 HL
  have hr := lcg_range h
  have hfx : 0 ≤ fxb (lcg h) ∧ fxb (lcg h) ≤ 255 := and255 _
  have hi1 := hC.small
  have hdec : decide ((i : Int) < (n : Int)) = true := by simp; omega
  have hi0 : (0 : Int) ≤ (i : Int) := by omega
  have hi2 : (i : Int) < (n : Int) := by omega
  go_quiet (fail)
  go_wp2
  go_quiet (fail)
  go_wp2
  go_quiet (fail)
  go_wp2
  go_ret
  refine ⟨ret_int HD.out.symm, ⟨?_, ?_, by omega, hC.small, hr.1, hr.2, hC.base⟩, ?_⟩
  · exact hb2
  · refine hC.code.keep fun k hk => ?_
    have hkg : k < w.heap.size := Nat.lt_of_lt_of_le (Nat.lt_of_lt_of_le hk hC.base) (Nat.le_of_lt hglt)
    have hkn : k ≠ g := by have := hC.base; omega
    exact (Below.heap_setCell W1 ⟨g, 1, none⟩ _ k hkn).trans (hgr.block k hkg (fun e => hkn (Option.some.inj e)))
  · exact grown_trans (grown_drewN hgr _) (box_grown (W1.drewN _) g 1 (.int .i64 ((i : Int) + 1)) (by show g < W1.heap.size; rw [hs1]; exact hglt))

theorem byte_x (B g : Nat) (av : Option Addr) (n c i : Nat) (h : Int) (w : World) (z : Nat → UInt8) (hZ : CodeZ w av n z) (hC : Cur w B g av n c i h) :
    Calls Try.prog 56 #[.pointer (some ⟨g, 0, none⟩)] w fun e w' => e = .returned (.int .i64 (dB z n i h)) ∧ Cur w' B g av n c (min n (i + 1)) (lcg h) ∧ w.grownBy w' (some g) := by
  by_cases hin : i < n
  · refine (byte_more_x B g av n c i h w z hZ hC hin).mono fun e w' ⟨he, hC', hg⟩ => ⟨he, ?_, hg⟩
    rw [Nat.min_eq_right (by omega)]
    exact hC'
  · have hle := hC.le
    obtain rfl : i = n := by omega
    refine (byte_end B g av i c h w hC).mono fun e w' ⟨he, hC', hg⟩ => ⟨by rw [he, dB, if_neg hin], ?_, hg⟩
    rw [Nat.min_eq_left (by omega)]
    exact hC'

theorem below_x (B g : Nat) (av : Option Addr) (n c i : Nat) (h k : Int) (w : World) (z : Nat → UInt8) (hZ : CodeZ w av n z) (hC : Cur w B g av n c i h) (k1 : 1 ≤ k) (k2 : k ≤ 256) :
    Calls Try.prog 45 #[.pointer (some ⟨g, 0, none⟩), .int .i64 k] w fun e w' => e = .returned (.int .i64 (dB z n i h % k)) ∧ Cur w' B g av n c (min n (i + 1)) (lcg h) ∧ w.grownBy w' (some g) := by
  go_enter Try.func45, Try.ntmps45
  go_wp2_with fail
  refine (byte_x B g av n c i h _ z hZ hC).mono ?_
  rintro e w1 ⟨rfl, hC1, hg1⟩
  have hx := dB_range z n i h
  obtain ⟨x, hxe⟩ : ∃ x, x = dB z n i h := ⟨_, rfl⟩
  rw [← hxe] at hx ⊢
  have HX := Lib.hid hxe
  clear hxe
  have x0 := hx.1
  have x1 := hx.2
  have hk0 : (k == 0) = false := by rw [beq_eq_false_iff_ne]; omega
  have hmod : x.tmod k = x % k := Int.tmod_eq_emod_of_nonneg x0
  go_wp2
  go_ret
  exact ⟨ret_int (by rw [HX.out]), hC1, hg1⟩

theorem pick_x (B g base : Nat) (av : Option Addr) (n c i : Nat) (h : Int) (v : Value) (l : List (List UInt8)) (w : World) (z : Nat → UInt8) (hZ : CodeZ w av n z) (hC : Cur w B g av n c i h) (hown : w.ownsRow base 9 1 v l.length (strs l)) (hl1 : 1 ≤ l.length) (hl2 : l.length ≤ 256) (hgb : g < base) :
    Calls Try.prog 40 #[.pointer (some ⟨g, 0, none⟩), v] w fun e w' => e = .returned (.string (txt (l[(dB z n i h % (l.length : Int)).toNat]?.getD []))) ∧ Cur w' B g av n c (min n (i + 1)) (lcg h) ∧ w.grownBy w' (some g) := by
  obtain ⟨a, cap, rfl⟩ := own_val hown
  obtain ⟨b, rfl, hb1, hb2⟩ := own_at hown (by omega)
  have hx := dB_range z n i h
  go_enter Try.func40, Try.ntmps40
  go_wp2_with fail
  refine (below_x B g av n c _ _ _ _ z hZ hC (by omega) (by omega)).mono ?_
  rintro e w1 ⟨rfl, hC1, hg1⟩
  have r0 := Int.emod_nonneg (dB z n i h) (show (l.length : Int) ≠ 0 by omega)
  have r1 := Int.emod_lt_of_pos (dB z n i h) (show (0 : Int) < (l.length : Int) by omega)
  have hown1 := hown.kept hg1 (.inr (fun e => by simp [Value.ownBlock] at e; omega))
  obtain ⟨k, hke⟩ := Int.eq_ofNat_of_zero_le r0
  rw [hke] at r0 r1 ⊢
  have HK := Lib.hid hke
  clear hke
  have hk : k < l.length := by omega
  have hc := own_cell hown1 k hk rfl
  have hmem : l[((k : Nat) : Int).toNat]?.getD [] = l[k] := by simp [hk]
  have HM := Lib.hid hmem
  clear hmem
  generalize l[k] = x at hc HM
  go_wp2
  go_ret
  exact ⟨ret_str (by rw [HK.out, HM.out]), hC1, hg1⟩

/-- the state that a cursor begins with -/
def hz (z : Nat → UInt8) (h0 : Int) : Nat → Int
  | 0 => h0
  | k + 1 => bits .and .i64 (hz z h0 k * 131 + (((z k).toNat : Nat) : Int) + 7) 1073741823
theorem hz_range (z : Nat → UInt8) (h0 : Int) (b : Int) (hb0 : 0 ≤ h0) (hb1 : h0 ≤ b) (hb2 : 1073741823 ≤ b) (k : Nat) : 0 ≤ hz z h0 k ∧ hz z h0 k ≤ b := by
  cases k with
  | zero => exact ⟨hb0, hb1⟩
  | succ k => have := and30_range (hz z h0 k * 131 + (((z k).toNat : Nat) : Int) + 7); exact ⟨this.1, by have := this.2; unfold hz; omega⟩
def newH (z : Nat → UInt8) (n : Nat) : Int := hz z (716716 + (n : Int)) (min n 4000)

set_option maxRecDepth 100000 in
set_option maxHeartbeats 400000 in
theorem new_x (B : Nat) (av : Option Addr) (n c : Nat) (w : World) (z : Nat → UInt8) (hZ : CodeZ w av n z) (hcode : CodeIs w B av n) (hn : n ≤ 1048576) (hB : B ≤ w.heap.size) :
    Calls Try.prog 39 #[.slice av n c] w fun e w' => e = .returned (.pointer (some ⟨w.heap.size, 0, none⟩)) ∧ Cur w' B w.heap.size av n c 0 (newH z n) ∧ Below w.heap.size w w' := by
  go_enter Try.func39, Try.ntmps39
  go_wp2
  go_loop [3, 4] (fun q i => ∃ (k : Nat) (h : Int), k ≤ n ∧ k ≤ 4000 ∧ i = .int .i64 k ∧ q = .int .i64 h ∧ 0 ≤ h ∧ h ≤ 1073741823 ∧ Hid (h = hz z (716716 + (n : Int)) k)) (fun _ i => n - (intOf i).toNat)
  case atStart => exact ⟨0, 716716 + (n : Int), by omega, by omega, rfl, rfl, by omega, by omega, rfl⟩
  case round =>
    obtain ⟨k, h, hk, hk4, rfl, rfl, h0, h1, HH⟩ := hrel
    by_cases hlt : k < n
    · by_cases hlt4 : k < 4000
      · obtain ⟨b, off, rfl, hbB, hc⟩ : ∃ b off, av = some ⟨b, off, none⟩ ∧ b < B ∧ ∀ j, j < n → ∃ z : UInt8, w.cell? ⟨b, off + j, none⟩ = some (.int .u8 ((z.toNat : Nat) : Int)) := by
          rcases hcode with h0 | h0
          · omega
          · exact h0
        have hzc := hZ b off rfl k hlt
        have hz256 : (z k).toNat < 256 := (z k).toNat_lt
        have HH2 := Lib.hid (show hz z (716716 + (n : Int)) (k + 1) = bits .and .i64 (h * 131 + (((z k).toNat : Nat) : Int) + 7) 1073741823 by rw [hz, ← HH.out])
        generalize z k = zk at hzc hz256 HH2
        have hi0 : (0 : Int) ≤ (k : Int) := by omega
        have hi1 : (k : Int) < (n : Int) := by omega
        go_wp2
        have hr := and30_range (h * 131 + (zk.toNat : Int) + 7)
        go_round
        case rel => exact ⟨k + 1, _, by omega, by omega, by go_num, rfl, hr.1, hr.2, Lib.hid HH2.out.symm⟩
        case measure => simp [intOf]; omega
      · have hE : h = newH z n := by rw [HH.out, newH]; congr 1; omega
        have HE := Lib.hid hE
        clear hE
        go_wp2
        go_ret
        exact ⟨rfl, by rw [← HE.out]; exact cur_new B av n c h w hcode hn hB (by omega) (by omega), (Below.refl _ w).alloc (Nat.le_refl _) _⟩
    · have hE : h = newH z n := by rw [HH.out, newH]; congr 1; omega
      have HE := Lib.hid hE
      clear hE
      go_wp2
      go_ret
      exact ⟨rfl, by rw [← HE.out]; exact cur_new B av n c h w hcode hn hB (by omega) (by omega), (Below.refl _ w).alloc (Nat.le_refl _) _⟩

def wList : List (List UInt8) := [[97], [32], [98, 99], [9], [], [10]]
def wPick (z : Nat → UInt8) (n i : Nat) (h : Int) : List UInt8 := wList[(dB z n i h % ((6 : Nat) : Int)).toNat]?.getD []
theorem wPick_len (z : Nat → UInt8) (n i : Nat) (h : Int) : (wPick z n i h).length ≤ 2 := by
  have key : ∀ k : Nat, (wList[k]?.getD []).length ≤ 2 := by
    intro k
    by_cases hk : k < 6
    · have : ∀ k : Fin 6, (wList[k.val]?.getD []).length ≤ 2 := by decide
      exact this ⟨k, hk⟩
    · have : wList[k]? = none := List.getElem?_eq_none (by show wList.length ≤ k; have : wList.length = 6 := rfl; omega)
      rw [this]
      simp
  exact key _
def wText (z : Nat → UInt8) (n : Nat) : Nat → List UInt8
  | 0 => []
  | j + 1 => wText z n j ++ wPick z n (min n (j + 1)) (iter lcg (j + 1) (newH z n))
theorem wText_len (z : Nat → UInt8) (n j : Nat) : (wText z n j).length ≤ 2 * j := by
  induction j with
  | zero => simp [wText]
  | succ j ih =>
    have := wPick_len z n (min n (j + 1)) (iter lcg (j + 1) (newH z n))
    simp [wText]; omega
def wDraw (z : Nat → UInt8) (n : Nat) : List UInt8 := wText z n (dB z n 0 (newH z n) % 7).toNat
theorem wDraw_len (z : Nat → UInt8) (n : Nat) : (wDraw z n).length ≤ 14 := by
  have := wText_len z n (dB z n 0 (newH z n) % 7).toNat
  have h1 := Int.emod_lt_of_pos (dB z n 0 (newH z n)) (show (0 : Int) < 7 by omega)
  unfold wDraw; omega

set_option maxRecDepth 100000 in
set_option maxHeartbeats 400000 in
theorem drawWords_x (B : Nat) (av : Option Addr) (n c : Nat) (w : World) (z : Nat → UInt8) (hZ : CodeZ w av n z) (hcode : CodeIs w B av n) (hn : n ≤ 1048576) (hB : B ≤ w.heap.size) :
    Calls Try.prog 23 #[.slice av n c] w fun e w' => e = .returned (.string (txt (wDraw z n))) ∧ Below w.heap.size w w' := by
  go_enter Try.func23, Try.ntmps23
  go_wp2_with fail
  refine (new_x B av n c _ z hZ hcode hn hB).mono ?_
  rintro e w1 ⟨rfl, hC1, hb1⟩
  have hZ1 := hZ.keep hcode (fun k hk => hb1.block k (by omega))
  go_wp2_with fail
  refine (below_x B w.heap.size av n c _ _ 7 _ z hZ1 hC1 (by omega) (by omega)).mono ?_
  rintro e w2 ⟨rfl, hC2, hg2⟩
  have hZ2 := hZ1.grown hC1 hg2 (fun k e => by simp at e; omega)
  have hb2 : Below w.heap.size w w2 := hb1.grown hg2 hb1.size (fun k e => by simp at e; omega)
  have r0 := Int.emod_nonneg (dB z n 0 (newH z n)) (show (7 : Int) ≠ 0 by omega)
  have r1 := Int.emod_lt_of_pos (dB z n 0 (newH z n)) (show (0 : Int) < 7 by omega)
  obtain ⟨m, hm⟩ := Int.eq_ofNat_of_zero_le r0
  have HW := Lib.hid (show wDraw z n = wText z n m by unfold wDraw; rw [hm]; rfl)
  rw [hm] at r0 r1 ⊢
  clear hm
  have hm7 : m < 7 := by omega
  go_wp2
  go_loopw [4, 6] (fun s q wr => ∃ (j : Nat) (t : List UInt8), s = .string (txt t) ∧ q = .int .i64 j ∧ j ≤ m ∧ Hid (t = wText z n j) ∧ t.length ≤ 2 * j ∧ Cur wr B w.heap.size av n c (min n (j + 1)) (iter lcg (j + 1) (newH z n)) ∧ CodeZ wr av n z ∧ Below w.heap.size w wr) (fun _ q _ => m - (intOf q).toNat)
  case atStart => exact ⟨0, [], rfl, rfl, by omega, rfl, by simp, hC2, hZ2, hb2⟩
  case round =>
    obtain ⟨j, t, rfl, rfl, hj, ht, htl, hCj, hZj, hbj⟩ := hrel
    have hgl := lt_of_block hCj.box
    by_cases hjm : j < m
    · have hCl := hCj.below ((Below.refl _ wr).alloc (Nat.le_refl _) (.cells #[.string (txt [97]), .string (txt [32]), .string (txt [98, 99]), .string (txt [9]), .string (txt []), .string (txt [10])] 9))
      have hZl : CodeZ (wr.alloc (.cells #[.string (txt [97]), .string (txt [32]), .string (txt [98, 99]), .string (txt [9]), .string (txt []), .string (txt [10])] 9)) av n z := hZj.keep hCj.code (fun k hk => Below.heap_alloc wr _ k (by have := hCj.base; omega))
      have hown : (wr.alloc (.cells #[.string (txt [97]), .string (txt [32]), .string (txt [98, 99]), .string (txt [9]), .string (txt []), .string (txt [10])] 9)).ownsRow wr.heap.size 9 1 (.slice (some ⟨wr.heap.size, 0, none⟩) 6 6) wList.length (strs wList) := World.ownsRow_lit (base := wr.heap.size) (e := 9) (size := 1) wr _ 6 (Nat.le_refl _) (by unfold maxLen; omega) rfl
      go_wp2_with fail
      refine (pick_x B w.heap.size wr.heap.size av n c _ _ _ wList _ z hZl hCl hown (by decide) (by decide) hgl).mono ?_
      rintro e w3 ⟨rfl, hC3, hg3⟩
      have hZ3 := hZl.grown hCl hg3 (fun k e => by simp at e; omega)
      have hb3 := (hbj.alloc hbj.size (.cells #[.string (txt [97]), .string (txt [32]), .string (txt [98, 99]), .string (txt [9]), .string (txt []), .string (txt [10])] 9)).grown hg3 (by simp; have := hbj.size; omega) (fun k e => by simp at e; omega)
      have HP := Lib.hid (show wList[(dB z n (min n (j + 1)) (iter lcg (j + 1) (newH z n)) % (wList.length : Int)).toNat]?.getD [] = wPick z n (min n (j + 1)) (iter lcg (j + 1) (newH z n)) from rfl)
      rw [HP.out]
      have hpl := wPick_len z n (min n (j + 1)) (iter lcg (j + 1) (newH z n))
      have HT := Lib.hid (show t ++ wPick z n (min n (j + 1)) (iter lcg (j + 1) (newH z n)) = wText z n (j + 1) by rw [ht.out]; rfl)
      have HI := Lib.hid (show lcg (iter lcg (j + 1) (newH z n)) = iter lcg (j + 1 + 1) (newH z n) from (iter_one lcg (j + 1) (newH z n)).symm)
      rw [HI.out, min_min] at hC3
      clear HP HI hown hZl hCl
      generalize wPick z n (min n (j + 1)) (iter lcg (j + 1) (newH z n)) = pk at hpl HT ⊢
      have hadd := add_txt (P := Try.prog) t pk (by omega)
      go_wp2_with (rw [hadd])
      go_roundw
      case rel => exact ⟨j + 1, t ++ pk, rfl, by go_num, by omega, HT, by simp; omega, hC3, hZ3, hb3⟩
      case measure => simp [intOf]; omega
    · obtain rfl : j = m := by omega
      go_wp2
      go_ret
      exact ⟨ret_str (by rw [HW.out, ht.out]), hbj⟩

def dotList : List (List UInt8) := [[], [97], [46]]

set_option maxRecDepth 100000 in
set_option maxHeartbeats 400000 in
theorem drawBefore_call (B : Nat) (av : Option Addr) (n c : Nat) (w : World) (hcode : CodeIs w B av n) (hn : n ≤ 1048576) (hB : B ≤ w.heap.size) :
    Calls Try.prog 24 #[.slice av n c] w fun e w' => ∃ a b : List UInt8, a.length ≤ 4 ∧ b.length ≤ 8 ∧ e = .returned (.tuple #[.string (txt a), .string (txt b)]) ∧ Below w.heap.size w w' := by
  go_enter Try.func24, Try.ntmps24
  go_wp2_with fail
  refine (new_call B av n c _ hcode hn hB).mono ?_
  rintro e w1 ⟨h, rfl, hC1, hb1⟩
  have hC1 : CurE w1 B w.heap.size av n c := ⟨_, _, hC1⟩
  go_wp2_with fail
  refine (below_any B w.heap.size av n c 4 _ hC1 (by omega) (by omega)).mono ?_
  rintro e w2 ⟨r, rfl, r0, r1, hC2, hg2⟩
  have hb2 := grown_below_new hb1 hg2
  obtain ⟨r, rfl⟩ := Int.eq_ofNat_of_zero_le r0
  go_wp2_with fail
  refine (text_call B w.heap.size av n c r _ hC2 (by omega)).mono ?_
  rintro e w3 ⟨a, hal, rfl, hC3, hg3⟩
  have hb3 := grown_below_new hb2 hg3
  go_wp2_with fail
  refine (once_call B w.heap.size av n c 3 _ hC3 (by omega) (by omega)).mono ?_
  rintro e w4 ⟨q, rfl, hC4, hg4⟩
  have hb4 := grown_below_new hb3 hg4
  have hal4 : a.length ≤ 4 := by omega
  clear hal
  cases q
  · go_wp2_with fail
    refine (below_any B w.heap.size av n c 4 _ hC4 (by omega) (by omega)).mono ?_
    rintro e w5 ⟨s, rfl, s0, s1, hC5, hg5⟩
    have hb5 := grown_below_new hb4 hg5
    obtain ⟨s, rfl⟩ := Int.eq_ofNat_of_zero_le s0
    go_wp2_with fail
    refine (text_call B w.heap.size av n c s _ hC5 (by omega)).mono ?_
    rintro e w6 ⟨b, hbl, rfl, hC6, hg6⟩
    have hb6 := grown_below_new hb5 hg6
    have hbl4 : b.length ≤ 8 := by omega
    clear hbl
    go_wp2
    go_ret2
    exact ⟨a, b, hal4, hbl4, rfl, hb6⟩
  · go_wp2_with fail
    refine (pick_lit B w.heap.size av n c dotList _ _ rfl hC4 (by decide) (by decide)).mono ?_
    rintro e w5 ⟨x, hx, rfl, hC5, hg5⟩
    have hb5 := grown_below_new hb4 hg5
    have hxl : x.length ≤ 1 := by
      have : ∀ x ∈ dotList, x.length ≤ 1 := by decide
      exact this x hx
    have hadd := add_txt (P := Try.prog) a x (by omega)
    go_wp2_with (rw [hadd])
    go_ret2
    exact ⟨a, a ++ x, hal4, by simp; omega, rfl, hb5⟩

/-- words with a blank behind each -/
def joinL : List (List UInt8) → List UInt8
  | [] => []
  | x :: r => x ++ 32 :: joinL r
theorem wAux_over (x r : List UInt8) : ∀ cur, (∀ c ∈ x, blank c = false) → wAux cur (x ++ 32 :: r) = (if cur ++ x = [] then [] else [cur ++ x]) ++ wAux [] r := by
  induction x with
  | nil => intro cur _; simp [wAux, blank]
  | cons c x ih =>
    intro cur h
    have hc : blank c = false := h c (by simp)
    rw [List.cons_append, wAux, if_neg (by rw [hc]; simp), ih _ (fun d hd => h d (by simp [hd]))]
    simp
theorem words_join (L : List (List UInt8)) (h : ∀ x ∈ L, x ≠ [] ∧ ∀ c ∈ x, blank c = false) : wordsL (joinL L) = L := by
  unfold wordsL
  induction L with
  | nil => rfl
  | cons x L ih =>
    have hx := h x (by simp)
    rw [joinL, wAux_over x _ [] hx.2, ih (fun y hy => h y (by simp [hy]))]
    simp [hx.1]
theorem wAux_good (l : List UInt8) : ∀ cur, (∀ c ∈ cur, blank c = false) → ∀ x ∈ wAux cur l, x ≠ [] ∧ ∀ c ∈ x, blank c = false := by
  induction l with
  | nil =>
    intro cur hc x hx
    rw [wAux] at hx
    split at hx
    · simp at hx
    · simp at hx; subst hx; exact ⟨by assumption, hc⟩
  | cons b l ih =>
    intro cur hc x hx
    rw [wAux] at hx
    split at hx
    · rw [List.mem_append] at hx
      rcases hx with hx | hx
      · split at hx
        · simp at hx
        · simp at hx; subst hx; exact ⟨by assumption, hc⟩
      · exact ih [] (by simp) x hx
    · refine ih (cur ++ [b]) ?_ x hx
      intro c hcc
      rw [List.mem_append] at hcc
      rcases hcc with hcc | hcc
      · exact hc c hcc
      · simp at hcc; subst hcc; simp_all
theorem words_again (l : List UInt8) : wordsL (joinL (wordsL l)) = wordsL l := words_join _ (wAux_good l [] (by simp))
theorem joinL_append (a b : List (List UInt8)) : joinL (a ++ b) = joinL a ++ joinL b := by
  induction a with
  | nil => rfl
  | cons x a ih => simp [joinL, ih]
theorem joinL_len (l : List UInt8) : ∀ cur, (joinL (wAux cur l)).length ≤ cur.length + 2 * l.length + 1 := by
  induction l with
  | nil =>
    intro cur
    rw [wAux]
    split
    · simp [joinL]
    · simp [joinL]
  | cons b l ih =>
    intro cur
    rw [wAux]
    split
    · rw [joinL_append, List.length_append]
      have h2 := ih []
      have h1 : (joinL (if cur = [] then [] else [cur])).length ≤ cur.length + 1 := by split <;> simp [joinL]
      simp at h2 ⊢
      omega
    · have h2 := ih (cur ++ [b])
      simp at h2 ⊢
      omega

theorem less_self (a : List UInt8) : Op.bytesLess a a = false := by
  induction a with
  | nil => rfl
  | cons x a ih => simp [Op.bytesLess, ih]
theorem less_tri (a : List UInt8) : ∀ b, a ≠ b → (Op.bytesLess a b = true ∧ Op.bytesLess b a = false) ∨ (Op.bytesLess a b = false ∧ Op.bytesLess b a = true) := by
  induction a with
  | nil =>
    intro b h
    cases b with
    | nil => simp at h
    | cons y b => left; exact ⟨rfl, rfl⟩
  | cons x a ih =>
    intro b h
    cases b with
    | nil => right; exact ⟨rfl, rfl⟩
    | cons y b =>
      by_cases hxy : x = y
      · subst hxy
        have := ih b (by intro e; exact h (by rw [e]))
        simpa [Op.bytesLess] using this
      · by_cases hlt : x < y
        · have h2 : ¬ y < x := by
            intro h3
            rw [UInt8.lt_iff_toNat_lt] at h3 hlt
            omega
          simp [Op.bytesLess, hlt, h2, Ne.symm hxy]
        · have h2 : y < x := by
            rw [UInt8.lt_iff_toNat_lt] at hlt ⊢
            have : x.toNat ≠ y.toNat := fun e => hxy (UInt8.toNat_inj.1 e)
            omega
          simp [Op.bytesLess, hxy, hlt, h2]

theorem words_impl_l (l : List UInt8) (w : World) (hl : l.length ≤ 1048576) :
    Calls Try.prog 22 #[.string (txt l)] w fun e w' => ∃ v, e = .returned v ∧ w'.ownsRow w.heap.size 9 1 v (wordsL l).length (strs (wordsL l)) ∧ Below w.heap.size w w' :=
  words_impl (txt l) w (by rw [txt_size]; exact hl)
theorem words_spec_l (l : List UInt8) (w : World) (hl : l.length ≤ 1048576) :
    Calls Try.prog 27 #[.string (txt l)] w fun e w' => ∃ v, e = .returned v ∧ w'.ownsRow w.heap.size 9 1 v (wordsL l).length (strs (wordsL l)) ∧ Below w.heap.size w w' :=
  words_spec (txt l) w (by rw [txt_size]; exact hl)
theorem before_impl_l (a b : List UInt8) (w : World) : Calls Try.prog 25 #[.string (txt a), .string (txt b)] w fun e w' => e = .returned (.bool (Op.bytesLess a b)) ∧ Below w.heap.size w w' := before_impl (txt a) (txt b) w
theorem before_spec_l (a b : List UInt8) (w : World) (ha : a.length ≤ 1048576) (hb : b.length ≤ 1048576) : Calls Try.prog 26 #[.string (txt a), .string (txt b)] w fun e w' => e = .returned (.bool (Op.bytesLess a b)) ∧ Below w.heap.size w w' :=
  before_spec (txt a) (txt b) w (by rw [txt_size]; exact ha) (by rw [txt_size]; exact hb)

theorem same_call (b1 b2 : Nat) (v1 v2 : Value) (l : List (List UInt8)) (w : World) (h1 : w.ownsRow b1 9 1 v1 l.length (strs l)) (h2 : w.ownsRow b2 9 1 v2 l.length (strs l)) (hn : l.length ≤ 2097152) :
    Calls Try.prog 16 #[v1, v2] w fun e w' => e = .returned (.bool true) ∧ Below w.heap.size w w' := by
  obtain ⟨a1, c1, rfl⟩ := own_val h1
  obtain ⟨a2, c2, rfl⟩ := own_val h2
  have hne : ((l.length : Int) != (l.length : Int)) = false := by simp
  go_enter Try.func16, Try.ntmps16
  go_wp2
  go_loopw [5] (fun i wr => ∃ k : Nat, k ≤ l.length ∧ i = .int .i64 k ∧ Below w.heap.size w wr) (fun i _ => l.length - (intOf i).toNat)
  case atStart => exact ⟨0, by omega, rfl, Below.refl _ _⟩
  case round =>
    obtain ⟨k, hk1, rfl, hbel⟩ := hrel
    by_cases hlt : k < l.length
    · obtain ⟨g1, rfl, hb1, hg1⟩ := own_at h1 (by omega)
      obtain ⟨g2, rfl, hb2, hg2⟩ := own_at h2 (by omega)
      have e1 : wr.cell? ⟨g1, k, none⟩ = some (.string (txt l[k])) := (hbel.cell (p := ⟨g1, k, none⟩) hg1).trans (own_cell h1 k hlt rfl)
      have e2 : wr.cell? ⟨g2, k, none⟩ = some (.string (txt l[k])) := (hbel.cell (p := ⟨g2, k, none⟩) hg2).trans (own_cell h2 k hlt rfl)
      generalize txt l[k] = t at e1 e2
      have i0 : (0 : Int) ≤ (k : Int) := by omega
      have i1 : (k : Int) < (l.length : Int) := by omega
      go_wp2
      go_quiet (fail)
      go_wp2
      go_roundw
      case rel => exact ⟨k + 1, by omega, by go_num, below_drewN hbel _⟩
      case measure => simp [intOf]; omega
    · go_wp2
      go_ret
      exact ⟨rfl, hbel⟩

end Go.Proofs.Ytlbjahnihphckaa
