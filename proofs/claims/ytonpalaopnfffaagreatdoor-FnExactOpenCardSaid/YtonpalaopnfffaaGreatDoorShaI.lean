/- CONTRACTS of the program's hashing. -/
import Derived.Test.YtonpalaopnfffaaGreatDoorRow32
import Derived.Test.YtonpalaopnfffaaGreatDoorArr
import Derived.StillTailTactics
import Derived.Deep.WholeRow
import Derived.Deep.LoopGhost
import Derived.Laws.ResultCell
import Derived.Laws.CopyOwn

namespace Go.Proofs.YtonpalaopnfffaaGreatDoor
set_option linter.unusedVariables false
set_option maxRecDepth 4000
open Go.ChangeShapes Go.WideShapes Go.ChangeAt Go.RowKit
open Go.ChangeMaps (open_string shut_string)
open Sh

def aggS (s : St) : Value := .agg (cells32 (stL s)).toArray

theorem size8 : (Tryz.prog.info? 143).map (·.size) = some 8 := by kernel_rfl

theorem start_call (w : World) : Calls Tryz.prog 98 #[] w fun e w' => e = .returned (aggS H0) ∧ Below w.heap.size w w' := by
  go_enter Tryz.func98, Tryz.ntmps98
  go_wp2
  refine bodyPost_ret (v := aggS H0) ?_ rfl ⟨rfl, (Below.refl _ w).alloc (Nat.le_refl _) _⟩
  rw [results_cell_one rfl]
  have hld := run_loadVar_row (P := Tryz.prog) _ w.heap.size 143 143 (cells32 (stL H0)).toArray (0, 0) _ (heap_alloc_new w (.cells (cells32 (stL H0)).toArray 143)) Tryz.underlying143 rfl size8
  exact hld

theorem row_bytes {w : World} {base : Nat} {t : TypeId} {v : Value} {n : Nat} {L : List UInt8} (h : w.ownsRow base t 1 v n (cells8 L)) (hn : n = L.length) (hp : 0 < n) :
    ∃ g cap, v = .slice (some ⟨g, 0, none⟩) n cap ∧ base ≤ g ∧ g < w.heap.size := by
  have hlt := h.lt
  rcases h.2 with ⟨rfl, h0⟩ | ⟨g, cap, cur, rfl, hb, hg, hnc, hcm, hcs, htake⟩
  · omega
  · exact ⟨g, cap, rfl, (hlt g rfl).1, (hlt g rfl).2⟩

theorem grown_new (w : World) (o : Obj) (row : Option Nat) : w.grownBy (w.alloc o) row :=
  ⟨rfl, rfl, rfl, by simp, fun k hk _ => heap_alloc_old w _ hk⟩

theorem wB_mod (x : Nat) : wB (x % 4294967296) = wB x := by
  have h : ∀ a b : Nat, a % 256 = b % 256 → UInt8.ofNat a = UInt8.ofNat b := fun a b h => by
    apply UInt8.toNat_inj.1; rw [UInt8.toNat_ofNat', UInt8.toNat_ofNat']; exact h
  unfold wB
  rw [h (x % 4294967296 / 16777216) (x / 16777216) (by omega), h (x % 4294967296 / 65536) (x / 65536) (by omega), h (x % 4294967296 / 256) (x / 256) (by omega), h (x % 4294967296) x (by omega)]

theorem wB_cells (x : Nat) (hx : x < 4294967296) : cells8 (wB x) = [.int .u8 ((x : Int) / 16777216), .int .u8 ((x : Int) / 65536 % 256), .int .u8 ((x : Int) / 256 % 256), .int .u8 ((x : Int) % 256)] := by
  have e1 : (((UInt8.ofNat (x / 16777216)).toNat : Nat) : Int) = (x : Int) / 16777216 := by rw [UInt8.toNat_ofNat']; omega
  have e2 : (((UInt8.ofNat (x / 65536)).toNat : Nat) : Int) = (x : Int) / 65536 % 256 := by rw [UInt8.toNat_ofNat']; omega
  have e3 : (((UInt8.ofNat (x / 256)).toNat : Nat) : Int) = (x : Int) / 256 % 256 := by rw [UInt8.toNat_ofNat']; omega
  have e4 : (((UInt8.ofNat x).toNat : Nat) : Int) = (x : Int) % 256 := by rw [UInt8.toNat_ofNat']; omega
  simp only [cells8, wB, List.map_cons, List.map_nil, e1, e2, e3, e4]

theorem appendWord_call (base : Nat) (v : Value) (o : List UInt8) (x : Nat) (hx : x < 4294967296) (w : World) (hown : w.ownsRow base 5 1 v o.length (cells8 o)) (hb : base ≤ w.heap.size) (ho : o.length ≤ 4194304) :
    Calls Tryz.prog 101 #[v, .int .u32 (x : Int)] w fun e w' => ∃ v2, e = .returned v2 ∧ w'.ownsRow base 5 1 v2 (o ++ wB x).length (cells8 (o ++ wB x)) ∧ w.grownBy w' v.ownBlock := by
  obtain ⟨i0, hi, hz0, hz1, hz2⟩ := info_parts Tryz.info5
  have HB := Lib.hid (wB_cells x hx)
  have HG := Lib.hid (grown_new w)
  go_enter Tryz.func101, Tryz.ntmps101
  go_wp2_with (at_builtin; refine wpList_append_lies _ rfl _ _ _ rfl base 5 i0 _ 1 1 Tryz.underlying34 hi hz0 hz1 hz2 rfl (by omega) v o.length _ rfl (hown.alloc _) ⟨w.heap.size, 0, none⟩ 4 4 [.int .u8 ((x : Int) / 16777216), .int .u8 ((x : Int) / 65536 % 256), .int .u8 ((x : Int) / 256 % 256), .int .u8 ((x : Int) % 256)] rfl rfl (World.news_of_block (cs := #[.int .u8 ((x : Int) / 16777216), .int .u8 ((x : Int) / 65536 % 256), .int .u8 ((x : Int) / 256 % 256), .int .u8 ((x : Int) % 256)]) (t := 5) (fr := (0, 0)) (heap_alloc_new w _)) (by simp [Value.oneCell']) (by omega) (by unfold maxLen; omega) (by omega) (by simp; omega) (w.heap.size + 1) (by simp) ?_; intro gg cap w1 hown1 hgrow hat hlt)
  go_ret
  exact ⟨_, rfl, by rw [cells8_append, HB.out, List.length_append]; exact hown1, (HG.out _ _).trans hgrow⟩

def padZ (j : Nat) : List UInt8 := 128 :: List.replicate j 0

theorem padZ_len (j : Nat) : (padZ j).length = j + 1 := by simp [padZ]

theorem padZ_snoc (j : Nat) : padZ (j + 1) = padZ j ++ [0] := by simp [padZ, List.replicate_succ']

theorem padding_call (n : Nat) (hn : n ≤ 1099511627776) (w : World) :
    Calls Tryz.prog 100 #[.int .i64 (n : Int)] w fun e w' => e = .returned (.string (txt (padL n))) ∧ Below w.heap.size w w' := by
  obtain ⟨i0, hi, hz0, hz1, hz2⟩ := info_parts Tryz.info5
  obtain ⟨z, hz⟩ : ∃ z, z = (119 - n % 64) % 64 := ⟨_, rfl⟩
  have HZ := Lib.hid hz
  have hz64 : z < 64 := by omega
  have HP := Lib.hid (show padL n = padZ z ++ (wB (8 * n / 4294967296) ++ wB (8 * n)) by rw [hz]; rfl)
  have HM := Lib.hid (show ∀ j, j ≤ z → ((n + (j + 1)) % 64 = 56 ↔ j = z) by intro j hj; omega)
  clear hz
  go_enter Tryz.func100, Tryz.ntmps100
  go_wp2
  go_loopg [3] z (fun g v wx => ∃ j : Nat, j + g = z ∧ wx.ownsRow w.heap.size 5 1 v (j + 1) (cells8 (padZ j)) ∧ Below w.heap.size w wx)
  case atStart => exact ⟨0, by omega, row_built w _ 5 #[.int .u8 128] 1 (Nat.le_refl _) rfl (by unfold maxLen; omega), (Below.refl _ w).alloc (Nat.le_refl _) _⟩
  case round =>
    obtain ⟨j, hj, hown, hbel⟩ := hrel
    obtain ⟨gr, cr, hv, hgb, hg⟩ := row_bytes hown (by rw [padZ_len]) (by omega)
    subst hv
    have hM := HM.out j (by omega)
    have hbs := hbel.size
    cases gk with
    | zero =>
      have hz : j = z := by omega
      have ht : (((n : Int) + ((j : Int) + 1)) % 64 != 56) = false := by
        have := hM.2 hz
        simp; omega
      have e1 : (n : Int) * 8 / 4294967296 = ((8 * n / 4294967296 : Nat) : Int) := by omega
      have e2 : (n : Int) * 8 % 4294967296 = ((8 * n % 4294967296 : Nat) : Int) := by omega
      have ew : wB (8 * n % 4294967296) = wB (8 * n) := wB_mod _
      have HP2 := Lib.hid (show padL n = (padZ j ++ wB (8 * n / 4294967296)) ++ wB (8 * n % 4294967296) by rw [HP.out, ew, hz, List.append_assoc])
      have C1 := Lib.hid (fun wx ho hb => appendWord_call w.heap.size (.slice (some ⟨gr, 0, none⟩) (j + 1) cr) (padZ j) (8 * n / 4294967296) (by omega) wx ho hb (by rw [padZ_len]; omega))
      have C2 := Lib.hid (fun v wx ho hb => appendWord_call w.heap.size v (padZ j ++ wB (8 * n / 4294967296)) (8 * n % 4294967296) (Nat.mod_lt _ (by omega)) wx ho hb (by rw [List.length_append, padZ_len, wB_len]; omega))
      rw [← e1] at C1
      rw [← e2] at C2
      clear hM hz e1 e2 ew hg
      go_wp2_with fail
      refine (C1.out _ (by rw [padZ_len]; exact hown) hbs).mono ?_
      rintro e w1 ⟨v2, rfl, hown1, hg1⟩
      have hb1 := hbel.grown hg1 hbs (fun k e => by injection e with e; subst e; exact hgb)
      have hbs1 := hb1.size
      go_wp2_with fail
      refine (C2.out _ _ hown1 hbs1).mono ?_
      rintro e w2 ⟨v3, rfl, hown2, hg2⟩
      have hb2 := hb1.grown hg2 hbs1 (fun k e => (hown1.lt k e).1)
      rw [← HP2.out] at hown2
      have hcv := bytes_back_own (P := Tryz.prog) w2 34 9 5 w.heap.size v3 _ (padL n) rfl Tryz.underlying34 Tryz.underlying5 Tryz.underlying9 hown2
      generalize (padL n).length = pl at hcv hown2
      go_wp2
      go_ret
      exact ⟨rfl, hb2⟩
    | succ g =>
      have ht : (((n : Int) + ((j : Int) + 1)) % 64 != 56) = true := by
        have : ¬ j = z := by omega
        have h2 := fun h => this (hM.1 h)
        simp; omega
      have HO := Lib.hid (padZ_snoc j)
      clear hM
      go_wp2_with (at_builtin; refine wpList_append_lies _ rfl _ _ _ rfl w.heap.size 5 i0 _ 1 1 Tryz.underlying34 hi hz0 hz1 hz2 rfl (by omega) (.slice (some ⟨gr, 0, none⟩) (j + 1) cr) (j + 1) _ rfl (hown.alloc _) ⟨wr.heap.size, 0, none⟩ 1 1 [.int .u8 0] rfl rfl (World.news_of_block (cs := #[.int .u8 0]) (t := 5) (fr := (0, 0)) (heap_alloc_new wr _)) (by simp [Value.oneCell']) (by omega) (by unfold maxLen; omega) (by omega) (by simp; omega) (wr.heap.size + 1) (by simp) ?_; intro gg cap w1 hown1 hgrow hat hlt2)
      go_roundg g
      case measure => omega
      case rel => exact ⟨j + 1, by omega, by rw [HO.out, cells8_append]; exact hown1, (hbel.alloc hbs _).grown hgrow (by simp; omega) (fun k e => by injection e with e; subst e; exact hgb)⟩

/-- an array of sixty-four words -/
def arrW (f : Nat → Nat) : Array Value := ((List.range 64).map fun c => Value.int .u32 ((f c : Nat) : Int)).toArray

theorem arrW_size (f : Nat → Nat) : (arrW f).size = 64 := by simp [arrW]

theorem arrW_set (f : Nat → Nat) (k v : Nat) : (arrW f).setIfInBounds k (.int .u32 ((v : Nat) : Int)) = arrW fun c => if c = k then v else f c := by
  unfold arrW
  rw [List.setIfInBounds_toArray]
  congr 1
  apply List.ext_getElem
  · simp
  · intro i h1 h2
    simp only [List.getElem_set, List.getElem_map, List.getElem_range]
    by_cases e : k = i
    · simp [e]
    · rw [if_neg e, if_neg (fun h => e h.symm)]

theorem arrW_one (f : Nat → Nat) : (arrW f).all (·.oneCell') = true := by
  rw [Array.all_eq_true]
  intro i hi
  simp [arrW, Value.oneCell']

theorem arrW_get (f : Nat → Nat) (k : Nat) (hk : k < 64) : (arrW f)[k]? = some (.int .u32 ((f k : Nat) : Int)) := by
  unfold arrW
  rw [List.getElem?_toArray, List.getElem?_map, List.getElem?_range hk]; rfl

theorem arrW_congr (f g : Nat → Nat) (h : ∀ c, c < 64 → f c = g c) : arrW f = arrW g := by
  unfold arrW
  congr 1
  apply List.map_congr_left
  intro c hc
  rw [h c (by simpa using hc)]

theorem arrW_snoc (G : List Nat) (z t : Nat) (h : G.length = t) : (arrW fun c => G.getD c 0).setIfInBounds t (.int .u32 ((z : Nat) : Int)) = arrW fun c => (G ++ [z]).getD c 0 := by
  rw [arrW_set]
  refine arrW_congr _ _ fun c _ => ?_
  have e : (G ++ [z]).getD c 0 = if c = t then z else G.getD c 0 := by
    rw [List.getD_eq_getElem?_getD, List.getD_eq_getElem?_getD, List.getElem?_append, h]
    by_cases h1 : c < t
    · rw [if_pos h1, if_neg (by omega)]
    · rw [if_neg h1]
      by_cases h2 : c = t
      · rw [if_pos h2, h2, Nat.sub_self]; rfl
      · rw [if_neg h2, List.getElem?_eq_none (by simp; omega), List.getElem?_eq_none (by omega)]
  exact e.symm

/-- the number that so many bytes make -/
def part (l : List UInt8) (p : Nat) : Nat → Nat
  | 0 => 0
  | m + 1 => part l p m * 256 + (l.getD (p + m) 0).toNat

theorem part_lt (l : List UInt8) (p m : Nat) : part l p m < 256 ^ m := by
  induction m with
  | zero => simp [part]
  | succ m ih =>
    have := (l.getD (p + m) 0).toNat_lt
    rw [part, Nat.pow_succ]
    omega

theorem part_four (l : List UInt8) (i : Nat) : part l (4 * i) 4 = wAt l i := by
  simp [part, wAt, w4]

theorem w16_get (l : List UInt8) (n c : Nat) (h : c < n) : (w16 l n).getD c 0 = wAt l c := by
  unfold w16
  rw [List.getD_eq_getElem?_getD, List.getElem?_map, List.getElem?_range h]; rfl

/-- what a cell holds, if it is there -/
def cellOr (W : World) (a : Addr) : Value := (W.cell? a).getD undef

theorem cell_or {W : World} {a : Addr} {v : Value} (h : W.cell? a = some v) : W.cell? a = some (cellOr W a) := by
  unfold cellOr; rw [h]; rfl

theorem zero64 : (Tryz.prog.info? 156).map (fun i => (i.zero, i.size)) = some (some (.agg (arrW fun _ => 0)), 64) := by kernel_rfl

/-- one more byte -/
theorem part_or (A b : Nat) (hA : A < 16777216) (hb : b < 256) : bits .or .u32 ((A : Int) * 256) (b : Int) = ((A * 256 + b : Nat) : Int) := by
  have e1 : ((A : Int) * 256) = ((A * 256 : Nat) : Int) := by omega
  rw [e1, u32_or_nat _ _ (by omega) (by omega)]
  congr 1
  have := or_low A b 8 (by omega)
  rw [show A * 256 = 2 ^ 8 * A by omega]
  exact this

theorem part_step (l : List UInt8) (f : Nat → Nat) (k : Nat) (hf : ∀ c, f c = part l (4 * c) (min 4 (k - 4 * c))) :
    ∀ c, (if c = k / 4 then f (k / 4) * 256 + (l.getD k 0).toNat else f c) = part l (4 * c) (min 4 (k + 1 - 4 * c)) := by
  intro c
  by_cases e : c = k / 4
  · subst e
    have e1 : min 4 (k - 4 * (k / 4)) = k % 4 := by omega
    have e2 : min 4 (k + 1 - 4 * (k / 4)) = k % 4 + 1 := by omega
    have e3 : 4 * (k / 4) + k % 4 = k := by omega
    rw [if_pos rfl, hf, e1, e2, part, e3]
  · rw [if_neg e, hf]
    congr 1
    omega

set_option maxHeartbeats 1600000 in
theorem words_call (s : ByteArray) (hs : s.size = 64) (w : World) :
    Calls Tryz.prog 104 #[.string s] w fun e w' => e = .returned (.agg (arrW fun c => (grow 48 (w16 s.data.toList 16)).getD c 0)) ∧ Below w.heap.size w w' := by
  obtain ⟨hz, hi⟩ := zero_of_info zero64
  obtain ⟨A0, HA⟩ : ∃ A0, Hid (A0 = arrW fun _ => 0) := ⟨_, Lib.hid rfl⟩
  rw [← HA.out] at hz
  have H0 := Lib.hid (heap_alloc_new w (.cells A0 156))
  have H1 := Lib.hid (heap_alloc_new (w.alloc (.cells A0 156)) (.cells A0 156))
  go_enter Tryz.func104, Tryz.ntmps104
  go_wp2
  have HB := Lib.hid (((Below.refl _ w).alloc (Nat.le_refl _) (.cells A0 156)).alloc (by simp) (.cells A0 156))
  have hg0 : ((w.alloc (.cells A0 156)).alloc (.cells A0 156)).heap[w.heap.size]? = some (.cells A0 156 (0, 0)) := by
    rw [heap_alloc_old _ _ (by simp)]; exact H0.out
  have hg1 : ((w.alloc (.cells A0 156)).alloc (.cells A0 156)).heap[w.heap.size + 1]? = some (.cells A0 156 (0, 0)) := by
    have := H1.out
    simpa using this
  have HG0 := Lib.hid hg0
  have HG1 := Lib.hid hg1
  clear hg0 hg1
  generalize (w.alloc (.cells A0 156)).alloc (.cells A0 156) = W0 at HB HG0 HG1 ⊢
  go_loopg [4, 10] 64 (fun g _ i wx => ∃ (k : Nat) (f : Nat → Nat), k + g = 64 ∧ i = .int .i64 (k : Int) ∧ Hid (wx.heap[w.heap.size]? = some (.cells A0 156 (0, 0))) ∧ Hid (wx.heap[w.heap.size + 1]? = some (.cells (arrW f) 156 (0, 0))) ∧ Hid (∀ c, f c = part s.data.toList (4 * c) (min 4 (k - 4 * c))) ∧ Below w.heap.size w wx)
  case atStart => exact ⟨0, fun _ => 0, by omega, rfl, HG0, Lib.hid (by rw [← HA.out]; exact HG1.out), Lib.hid (fun c => by simp [part]), HB.out⟩
  case round =>
    obtain ⟨k, f, hk, rfl, G0, G1, hf, hbel⟩ := hrel
    cases gk with
    | zero =>
      have hk64 : k = 64 := by omega
      have HF := Lib.hid (arrW_congr f (fun c => (w16 s.data.toList 16).getD c 0) (fun c hc => by
        rw [hf.out c, hk64]
        by_cases h : c < 16
        · rw [show min 4 (64 - 4 * c) = 4 by omega, part_four, w16_get _ _ _ h]
        · rw [show min 4 (64 - 4 * c) = 0 by omega, getD_big _ _ (by rw [w16_len]; omega)]; rfl))
      rw [HF.out] at G1
      have HL := Lib.hid (w16_len s.data.toList 16)
      have HLs := Lib.hid (w16_small s.data.toList 16)
      have HK64 := Lib.hid hk64
      clear hf HF hk64
      generalize hl0 : w16 s.data.toList 16 = L0 at G1 HL HLs
      have HL0 := Lib.hid hl0
      clear hl0
      go_wp2
      go_loopg [5, 6, 7] 48 (fun g i _ _ wx => ∃ (t : Nat) (G : List Nat), t + g = 64 ∧ 16 ≤ t ∧ i = .int .i64 (t : Int) ∧ Hid (G = grow (t - 16) L0) ∧ Hid (G.length = t) ∧ Hid (∀ j, G.getD j 0 < 4294967296) ∧ Hid (wx.heap[w.heap.size]? = some (.cells A0 156 (0, 0))) ∧ Hid (wx.heap[w.heap.size + 1]? = some (.cells (arrW fun c => G.getD c 0) 156 (0, 0))) ∧ Below w.heap.size w wx)
      case atStart => exact ⟨16, L0, by omega, by omega, rfl, rfl, HL, HLs, G0, G1, hbel⟩
      case round =>
        clear hbel hk
        obtain ⟨t, G, ht, ht16, rfl, HG, HGl, HGs, G0, G1, hbel⟩ := hrel
        cases gk with
        | zero =>
          have ht64 : t = 64 := by omega
          have HE := Lib.hid (show G = grow 48 L0 by rw [HG.out, ht64])
          have hld := run_loadAt_row (P := Tryz.prog) wr (w.heap.size + 1) 156 (arrW fun c => G.getD c 0) 64 132 G1.out Tryz.underlying156 (by rw [arrW_size]; exact hi)
          have hst := run_storeAt_row (P := Tryz.prog) wr w.heap.size 156 A0 (arrW fun c => G.getD c 0) G0.out (by rw [arrW_size]; exact hi) (by rw [HA.out, arrW_size, arrW_size]) (arrW_one _)
          have hg3 := setRow_heap _ _ A0 (arrW fun c => G.getD c 0) _ _ G0.out
          have hld3 := run_loadVar_row (P := Tryz.prog) _ w.heap.size 156 156 (arrW fun c => G.getD c 0) (0, 0) _ hg3 Tryz.underlying156 rfl (by rw [arrW_size]; exact hi)
          have HLD3 := Lib.hid hld3
          have HAW := Lib.hid (show (arrW fun c => G.getD c 0) = arrW fun c => (grow 48 (w16 s.data.toList 16)).getD c 0 by rw [HE.out, HL0.out])
          clear hg3 hld3 hi hz
          generalize (arrW fun c => G.getD c 0) = AW at hld hst HLD3 HAW
          go_wp2_with (first | refine wpList_load_of rfl _ _ rfl _ _ rfl hld ?_ | refine wpList_store_of rfl _ _ _ rfl _ _ rfl rfl hst ?_)
          refine bodyPost_ret (v := .agg AW) ?_ rfl ⟨by rw [HAW.out], below_setRow hbel (Nat.le_refl _) _⟩
          rw [results_cell_one rfl]
          exact HLD3.out
        | succ g =>
          have HN := Lib.hid (grow_drop G (t - 16) (by have := HGl.out; omega))
          have v2 : IntKind.i64.wrap ((t : Int) - 2) = (t : Int) - 2 := IntWalk.i64_in _ (by omega)
          have v7 : IntKind.i64.wrap ((t : Int) - 7) = (t : Int) - 7 := IntWalk.i64_in _ (by omega)
          have v15 : IntKind.i64.wrap ((t : Int) - 15) = (t : Int) - 15 := IntWalk.i64_in _ (by omega)
          have v16 : IntKind.i64.wrap ((t : Int) - 16) = (t : Int) - 16 := IntWalk.i64_in _ (by omega)
          have q2 : ((t : Int) - 2).toNat = t - 2 := by omega
          have q7 : ((t : Int) - 7).toNat = t - 7 := by omega
          have q15 : ((t : Int) - 15).toNat = t - 15 := by omega
          have q16 : ((t : Int) - 16).toNat = t - 16 := by omega
          have n2 : 0 ≤ (t : Int) - 2 := by omega
          have n7 : 0 ≤ (t : Int) - 7 := by omega
          have n15 : 0 ≤ (t : Int) - 15 := by omega
          have n16 : 0 ≤ (t : Int) - 16 := by omega
          have m2 : (t : Int) - 2 < 64 := by omega
          have m7 : (t : Int) - 7 < 64 := by omega
          have m15 : (t : Int) - 15 < 64 := by omega
          have m16 : (t : Int) - 16 < 64 := by omega
          have mt : (t : Int) < 64 := by omega
          have o7 : (7 : Int) ≤ (t : Int) := by omega
          have o16 : (16 : Int) ≤ (t : Int) := by omega
          have l2 : G.getD (t - 2) 0 < 4294967296 := HGs.out _
          have l15 : G.getD (t - 15) 0 < 4294967296 := HGs.out _
          have hcell : ∀ j, j < 64 → wr.cell? ⟨w.heap.size + 1, j, none⟩ = some (.int .u32 ((G.getD j 0 : Nat) : Int)) := fun j hj => by rw [cell_of_row _ _ _ _ _ _ G1.out]; exact arrW_get _ _ hj
          have x2 := hcell (t - 2) (by omega)
          have x7 := hcell (t - 7) (by omega)
          have x15 := hcell (t - 15) (by omega)
          have x16 := hcell (t - 16) (by omega)
          have xt := hcell t (by omega)
          have hfz := frozen_of_row wr (w.heap.size + 1) t _ _ G1.out
          have e9 : t - 16 + 9 = t - 7 := by omega
          have e1 : t - 16 + 1 = t - 15 := by omega
          have e14 : t - 16 + 14 = t - 2 := by omega
          rw [e9, e1, e14] at HN
          clear e9 e1 e14 hcell
          generalize G.getD (t - 2) 0 = y at x2 HN l2
          generalize G.getD (t - 15) 0 = x at x15 HN l15
          generalize G.getD (t - 7) 0 = q at x7 HN
          generalize G.getD (t - 16) 0 = p at x16 HN
          have hA1 := xor_one _ _ (rr_lt x 7) (rr_lt x 18)
          have hA2 := s0_bits x l15
          have hB1 := xor_one _ _ (rr_lt y 17) (rr_lt y 19)
          have hB2 := s1_bits y l2
          have hsum := next_word p q x y l15 l2
          have N1 : ((p + q + s0 1 x + s1 1 y) % 4294967296) < 4294967296 := Nat.mod_lt _ (by omega)
          generalize (p + q + s0 1 x + s1 1 y) % 4294967296 = z at hsum HN N1
          generalize rr x 7 ^^^ rr x 18 = A1 at hA1 hA2
          generalize rr y 17 ^^^ rr y 19 = B1 at hB1 hB2
          generalize s0 1 x = A2 at hA2 hsum
          generalize s1 1 y = B2 at hB2 hsum
          go_wp2
          go_quiet (fail)
          go_wp2
          generalize hwd : wr.drewN nq = we
          have HWD := Lib.hid hwd
          clear hwd
          have x7' : we.cell? ⟨w.heap.size + 1, t - 7, none⟩ = some (.int .u32 (q : Int)) := by rw [← HWD.out]; exact x7
          have x16' : we.cell? ⟨w.heap.size + 1, t - 16, none⟩ = some (.int .u32 (p : Int)) := by rw [← HWD.out]; exact x16
          have xt' := cell_or (show we.cell? ⟨w.heap.size + 1, t, none⟩ = some (.int .u32 ((G.getD t 0 : Nat) : Int)) by rw [← HWD.out]; exact xt)
          have hfz' : we.frozen? ⟨w.heap.size + 1, t, none⟩ = false := by rw [← HWD.out]; exact hfz
          have G0' := Lib.hid (show we.heap[w.heap.size]? = some (.cells A0 156 (0, 0)) by rw [← HWD.out]; exact G0.out)
          have G1' := Lib.hid (show we.heap[w.heap.size + 1]? = some (.cells (arrW fun c => G.getD c 0) 156 (0, 0)) by rw [← HWD.out]; exact G1.out)
          have hbel' : Below w.heap.size w we := by rw [← HWD.out]; exact below_drewN hbel _
          have ne7 : (⟨w.heap.size + 1, t - 7, none⟩ : Addr) ≠ ⟨w.heap.size + 1, t, none⟩ := by intro e; injection e with _ e _; omega
          have ne16 : (⟨w.heap.size + 1, t - 16, none⟩ : Addr) ≠ ⟨w.heap.size + 1, t, none⟩ := by intro e; injection e with _ e _; omega
          have N7 := Lib.hid ne7.symm
          have N16 := Lib.hid ne16.symm
          clear x2 x7 x15 x16 xt hfz hbel ne7 ne16
          go_region_held3 (fun W => W.cell? ⟨w.heap.size + 1, t - 7, none⟩ = some (.int .u32 (q : Int)) ∧ W.cell? ⟨w.heap.size + 1, t - 16, none⟩ = some (.int .u32 (p : Int)) ∧ W.cell? ⟨w.heap.size + 1, t, none⟩ = some (cellOr W ⟨w.heap.size + 1, t, none⟩) ∧ W.frozen? ⟨w.heap.size + 1, t, none⟩ = false)
            (first | exact ⟨x7', x16', xt', hfz'⟩ | (go_split_ands; exact ⟨by assumption, by assumption, by assumption, by assumption⟩) | (go_split_ands; exact ⟨(World.cell?_setCell_other _ _ _ _ N7.out).trans (by assumption), (World.cell?_setCell_other _ _ _ _ N16.out).trans (by assumption), cell_or (World.cell?_setCell_same _ _ _ (by assumption)), (World.frozen?_setCell _ _ _ _).trans (by assumption)⟩) | go_keep)
            (first | (go_simp; go_at_call 105; refine (rotr_i _ _ (by first | exact l2 | exact l15) (by omega) (by omega) _).mono ?_; rintro e wc ⟨rfl, rfl⟩))
          have HG2 := Lib.hid (show G ++ [z] = grow (t + 1 - 16) L0 by
            have e : t + 1 - 16 = (t - 16) + 1 := by omega
            rw [e, grow_succ, ← HG.out, ext, HGl.out, HN.out])
          have HGl2 := Lib.hid (show (G ++ [z]).length = t + 1 by rw [List.length_append, HGl.out]; rfl)
          have HGs2 := Lib.hid (small_append G z HGs.out N1)
          have HA2 := Lib.hid (arrW_snoc G z t HGl.out)
          clear hA1 hA2 hB1 hB2 hsum x7' x16'
          go_wp2
          go_roundg g
          case measure => omega
          case rel => exact ⟨t + 1, G ++ [z], by omega, by omega, by go_num, HG2, HGl2, HGs2, Lib.hid ((heap_setCell_other we ⟨w.heap.size + 1, t, none⟩ w.heap.size _ (by simp)).trans G0'.out), Lib.hid (by rw [← HA2.out]; exact heap_setCell_same we (w.heap.size + 1) t _ _ _ G1'.out), (hbel'.setCell (p := ⟨w.heap.size + 1, t, none⟩) (by simp) _).drew⟩
    | succ g =>
      have hlt : k < 64 := by omega
      have h256 : s[k].toNat < 256 := s[k].toNat_lt
      have q4 : ((k : Int) / 4).toNat = k / 4 := by omega
      have n4 : 0 ≤ (k : Int) / 4 := by omega
      have m4 : (k : Int) / 4 < 64 := by omega
      have hc : wr.cell? ⟨w.heap.size + 1, k / 4, none⟩ = some (.int .u32 ((f (k / 4) : Nat) : Int)) := by
        rw [cell_of_row _ _ _ _ _ _ G1.out]; exact arrW_get f _ (by omega)
      have hfk : f (k / 4) = part s.data.toList (4 * (k / 4)) (k % 4) := by
        rw [hf.out]; congr 1; omega
      have hA : f (k / 4) < 16777216 := by
        rw [hfk]
        refine Nat.lt_of_lt_of_le (part_lt _ _ _) ?_
        exact Nat.le_trans (Nat.pow_le_pow_right (by omega) (show k % 4 ≤ 3 by omega)) (by decide)
      have hor := part_or (f (k / 4)) s[k].toNat hA h256
      have hfz := frozen_of_row wr (w.heap.size + 1) (k / 4) _ _ G1.out
      have hget : s[k] = s.data.toList.getD k 0 := by rw [List.getD_eq_getElem?_getD, List.getElem?_eq_getElem (by rw [data_length]; omega)]; rfl
      have HN := Lib.hid (part_step s.data.toList f k hf.out)
      rw [← hget] at HN
      have HS := Lib.hid (show (arrW f).setIfInBounds (k / 4) (.int .u32 ((f (k / 4) : Int) * 256 + (s[k].toNat : Int))) = arrW fun c => if c = k / 4 then f (k / 4) * 256 + s[k].toNat else f c by
        rw [← arrW_set, Int.natCast_add, Int.natCast_mul]; rfl)
      clear hfk hget
      generalize f (k / 4) = AA at hc hor HN HS hA
      go_wp2
      go_region
      go_wp2
      go_roundg g
      case measure => omega
      case rel => exact ⟨k + 1, _, by omega, by go_num, Lib.hid ((heap_setCell_other wr ⟨w.heap.size + 1, k / 4, none⟩ w.heap.size _ (by simp)).trans G0.out), Lib.hid (by rw [← HS.out]; exact heap_setCell_same wr (w.heap.size + 1) (k / 4) (arrW f) _ _ G1.out), HN, (hbel.setCell (p := ⟨w.heap.size + 1, k / 4, none⟩) (by simp) _).drew⟩

end Go.Proofs.YtonpalaopnfffaaGreatDoor
