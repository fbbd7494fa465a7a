/- CONTRACTS: a seal made: the model's l08Seal, Seal; the program's claim.head, claim.macWith, sealing.notation, Seal. -/
import Derived.Test.YtonpalaopnfffaaGreatDoorSlP
import Derived.Test.YtonpalaopnfffaaGreatDoorMacP
import Derived.Test.YtonpalaopnfffaaGreatDoorDec
import Derived.Test.YtonpalaopnfffaaGreatDoorB64I
import Derived.Test.YtonpalaopnfffaaGreatDoorKyL2
namespace Go.Proofs.YtonpalaopnfffaaGreatDoor
set_option linter.unusedVariables false
set_option maxRecDepth 4000
open Go.ChangeShapes Go.WideShapes Go.ChangeAt Go.RowKit

namespace Sl
open Ht Ck Ky Mk

/-- the tables that a seal wants -/
def Tb (w : World) : Prop := W32At w 1 Sh.K ∧ ∀ w', Below w.heap.size w w' → Lib.TabIs Tryz.prog w' "internal/strconv.uint64pow10" .u64 Lib.pow10Tab

theorem Tb.below {w w' : World} (h : Tb w) (hb : Below w.heap.size w w') : Tb w' := ⟨h.1.below hb, fun w2 h2 => h.2 w2 (bstep hb h2)⟩

theorem b64_l (t : List UInt8) (w : World) (h : t.length ≤ 1048576) : Calls Tryz.prog 54 #[.string (txt t)] w fun e w' => e = .returned (.string (txt (b64 t))) ∧ Below w.heap.size w w' := by
  have := b64_spec (txt t) w (by rw [txt_size]; exact h)
  rwa [txt_toList] at this

theorem b64_li (t : List UInt8) (w : World) (h : t.length ≤ 1048576) : Calls Tryz.prog 67 #[.string (txt t)] w fun e w' => e = .returned (.string (txt (b64 t))) ∧ Below w.heap.size w w' := by
  have := b64_impl (txt t) w (by rw [txt_size]; exact h)
  rwa [txt_toList] at this

theorem mac_l (k t : List UInt8) (w : World) (h1 : k.length ≤ 1048576) (h2 : t.length ≤ 1048576) : Calls Tryz.prog 55 #[.string (txt k), .string (txt t)] w fun e w' => e = .returned (.string (txt (macL k t))) ∧ Below w.heap.size w w' := by
  have := mac_spec (txt k) (txt t) (by rw [txt_size]; exact h1) (by rw [txt_size]; exact h2) w
  rwa [txt_toList, txt_toList] at this

theorem mac_li (k t : List UInt8) (w : World) (h1 : k.length ≤ 1048576) (h2 : t.length ≤ 1048576) (hT : Tb w) : Calls Tryz.prog 68 #[.string (txt k), .string (txt t)] w fun e w' => e = .returned (.string (txt (macL k t))) ∧ Below w.heap.size w w' := by
  have := mac_impl (txt k) (txt t) (by rw [txt_size]; exact h1) (by rw [txt_size]; exact h2) w hT.1
  rwa [txt_toList, txt_toList] at this

set_option maxHeartbeats 1600000 in
theorem seal1_spec (c : KeyL) (t : List UInt8) (w : World) (hi : inR c.i) (hs : c.s.length ≤ 1048576) (ht : t.length ≤ 300) :
    Calls Tryz.prog 28 #[V c, .string (txt t)] w fun e w' => e = .returned (.string (txt (sealT c t))) ∧ Below w.heap.size w w' := by
  obtain ⟨i1, i2⟩ := hi
  have hl := head_len c.i t i1 i2 ht
  have il := itoa_short c.i i1 i2
  have BA := Lib.hid ((Below.refl w.heap.size w).alloc (Nat.le_refl _) (.cells #[.int .i64 c.i, .string (txt c.s), .int .i64 c.f, .int .i64 c.t] 39))
  have G0 := Lib.hid (heap_alloc_new w (.cells #[.int .i64 c.i, .string (txt c.s), .int .i64 c.f, .int .i64 c.t] 39))
  have HS := Lib.hid (show sealT c t = headT c.i t ++ [46] ++ b64 (macL c.s (headT c.i t)) from rfl)
  have HH := Lib.hid (show headT c.i t = [116] ++ Lib.itoa c.i ++ [46] ++ b64 t from rfl)
  have D := Lib.hid (fun wx => dec_all c.i wx i1 i2)
  have B1 := Lib.hid (fun wx => b64_l t wx (by omega))
  have M := Lib.hid (fun wx => mac_l c.s (headT c.i t) wx hs (by omega))
  have ml := mac_len c.s (headT c.i t)
  have B2 := Lib.hid (fun wx => b64_l (macL c.s (headT c.i t)) wx (by omega))
  have bl := b64_len (macL c.s (headT c.i t))
  rw [ml] at bl
  have btl := b64_len t
  unfold V
  generalize Lib.itoa c.i = it at D HH il
  generalize sealT c t = R at HS ⊢
  generalize headT c.i t = h at HS HH M B2 hl ml bl
  generalize macL c.s h = m at HS M B2 ml bl
  generalize b64 m = bm at HS B2 bl
  generalize b64 t = bt at HH B1 btl
  have a1 : ∀ wx : World, (Op.stringOp .add { data := #[116] } (txt it)).run Tryz.prog wx = .ok (.string (txt ([116] ++ it))) wx := add_txt (P := Tryz.prog) [116] it (by simp; omega)
  have a2 : ∀ wx : World, (Op.stringOp .add (txt ([116] ++ it)) { data := #[46] }).run Tryz.prog wx = .ok (.string (txt ([116] ++ it ++ [46]))) wx := add_txt (P := Tryz.prog) ([116] ++ it) [46] (by simp; omega)
  have a3 : ∀ wx : World, (Op.stringOp .add (txt ([116] ++ it ++ [46])) (txt bt)).run Tryz.prog wx = .ok (.string (txt h)) wx := fun wx => by
    have := add_txt (P := Tryz.prog) ([116] ++ it ++ [46]) bt (by simp; omega) wx
    rw [← HH.out] at this
    exact this
  have a4 : ∀ wx : World, (Op.stringOp .add (txt h) { data := #[46] }).run Tryz.prog wx = .ok (.string (txt (h ++ [46]))) wx := add_txt (P := Tryz.prog) h [46] (by simp; omega)
  have a5 : ∀ wx : World, (Op.stringOp .add (txt (h ++ [46])) (txt bm)).run Tryz.prog wx = .ok (.string (txt R)) wx := fun wx => by
    have := add_txt (P := Tryz.prog) (h ++ [46]) bm (by simp; omega) wx
    rw [← HS.out] at this
    exact this
  generalize hA : txt ([116] ++ it) = A1 at a1 a2
  generalize hB : txt ([116] ++ it ++ [46]) = A2 at a2 a3
  generalize hC : txt (h ++ [46]) = A4 at a4 a5
  clear hA hB hC
  go_enter Tryz.func28, Tryz.ntmps28
  go_wp2_with fail
  refine (D.out _).mono ?_
  rintro e w1 ⟨rfl, b1⟩
  have c1 := Lib.hid (bstep BA.out b1)
  have k1 := Lib.hid ((b1.block w.heap.size (by simp)).trans G0.out)
  have n1 := lt_of_block k1.out
  go_wp2_with fail
  refine (B1.out _).mono ?_
  rintro e w2 ⟨rfl, b2⟩
  have c2 := Lib.hid (bstep c1.out b2)
  obtain ⟨x0, x1, x2, x3⟩ := box4K ((b2.block w.heap.size n1).trans k1.out)
  go_wp2_with fail
  refine (M.out _).mono ?_
  rintro e w3 ⟨rfl, b3⟩
  go_wp2_with fail
  refine (B2.out _).mono ?_
  rintro e w4 ⟨rfl, b4⟩
  go_wp2
  go_ret
  exact ⟨rfl, bstep (bstep c2.out b3) b4⟩

-- THE PROGRAM

theorem dec_li (n : Int) (w : World) (h0 : -9223372036854775808 ≤ n) (h1 : n ≤ 9223372036854775807) (hT : Tb w) : Calls Tryz.prog 83 #[.int .i64 n] w fun e w' => e = .returned (.string (txt (Lib.itoa n))) ∧ Below w.heap.size w w' :=
  dectext_impl n h0 h1 w (hT.2 w (Below.refl _ _))

theorem box2S {W : World} {b : Nat} {t : TypeId} {a0 a1 : Value} (h : W.heap[b]? = some (.cells #[a0, a1] t (0, 0))) : W.cell? ⟨b, 0, none⟩ = some a0 ∧ W.cell? ⟨b, 1, none⟩ = some a1 :=
  ⟨cell_of_row W b 0 _ _ _ h, cell_of_row W b 1 _ _ _ h⟩

theorem box3S {W : World} {b : Nat} {t : TypeId} {a0 a1 a2 : Value} (h : W.heap[b]? = some (.cells #[a0, a1, a2] t (0, 0))) : W.cell? ⟨b, 0, none⟩ = some a0 ∧ W.cell? ⟨b, 1, none⟩ = some a1 ∧ W.cell? ⟨b, 2, none⟩ = some a2 :=
  ⟨cell_of_row W b 0 _ _ _ h, cell_of_row W b 1 _ _ _ h, cell_of_row W b 2 _ _ _ h⟩

set_option maxHeartbeats 3200000 in
theorem head_call (id : Int) (t : List UInt8) (w : World) (hi : inR id) (ht : t.length ≤ 300) (hT : Tb w) :
    Calls Tryz.prog 69 #[.agg #[.int .i64 id, .string (txt t)]] w fun e w' => e = .returned (.string (txt (headT id t))) ∧ Below w.heap.size w w' := by
  obtain ⟨i1, i2⟩ := hi
  have il := itoa_short id i1 i2
  have btl := b64_len t
  have HT := Lib.hid hT
  have BA := Lib.hid ((Below.refl w.heap.size w).alloc (Nat.le_refl _) (.cells #[.int .i64 id, .string (txt t)] 73))
  obtain ⟨y0, y1⟩ := box2S (heap_alloc_new w (.cells #[.int .i64 id, .string (txt t)] 73))
  have HH := Lib.hid (show headT id t = [116] ++ Lib.itoa id ++ [46] ++ b64 t from rfl)
  have DD := Lib.hid (fun wx hx => dec_li id wx i1 i2 hx)
  have B1 := Lib.hid (fun wx => b64_li t wx (by omega))
  generalize headT id t = R at HH ⊢
  generalize Lib.itoa id = it at DD HH il
  generalize b64 t = bt at B1 HH btl
  have a1 : ∀ wx : World, (Op.stringOp .add { data := #[116] } (txt it)).run Tryz.prog wx = .ok (.string (txt ([116] ++ it))) wx := add_txt (P := Tryz.prog) [116] it (by simp; omega)
  have a2 : ∀ wx : World, (Op.stringOp .add (txt ([116] ++ it)) { data := #[46] }).run Tryz.prog wx = .ok (.string (txt ([116] ++ it ++ [46]))) wx := add_txt (P := Tryz.prog) ([116] ++ it) [46] (by simp; omega)
  have a3 : ∀ wx : World, (Op.stringOp .add (txt ([116] ++ it ++ [46])) (txt bt)).run Tryz.prog wx = .ok (.string (txt R)) wx := fun wx => by
    have := add_txt (P := Tryz.prog) ([116] ++ it ++ [46]) bt (by simp; omega) wx
    rw [← HH.out] at this
    exact this
  generalize txt ([116] ++ it) = A1 at a1 a2
  generalize txt ([116] ++ it ++ [46]) = A2 at a2 a3
  clear hT
  go_enter Tryz.func69, Tryz.ntmps69
  go_wp2
  refine Inv.region_tab 10 12 [(0, 3, .pointer (some ⟨w.heap.size, 0, none⟩)), (1, 4, .int .i64 id), (2, 5, .string (txt it)), (3, 6, .string A1), (4, 7, .string A2), (5, 8, .pointer (some ⟨w.heap.size, 1, none⟩)), (6, 9, .string (txt t)), (7, 10, .string (txt bt)), (8, 11, .string (txt R)), (9, 2, .string (txt R))] (fun W => Below (w.heap.size + 1) (w.alloc (.cells #[.int .i64 id, .string (txt t)] 73)) W) (by kernel_rfl) rfl (by kernel_rfl) ⟨by simp, rfl⟩ (by rfl) (show ([3, 4, 5, 6, 7, 8, 9, 10, 11, 2] : List Nat).Nodup by decide) (by simp) (by simpa using (Below.refl (w.alloc (.cells #[.int .i64 id, .string (txt t)] 73)).heap.size (w.alloc (.cells #[.int .i64 id, .string (txt t)] 73))).drew) ?_ ?_
  · intro a b t W hW ht htab hfr p hp hafter K SP
    have F := fun q hq hb => (ht q.2.1).trans (htab q hq hb)
    have G1 := (ht 1).trans (hfr 1 (by simp))
    simp only [List.mem_cons, List.not_mem_nil, or_false] at hp F
    have HF := Lib.hid F
    clear F ht htab hfr
    rcases hp with rfl | rfl | rfl | rfl | rfl | rfl | rfl | rfl | rfl | rfl
    · clear hafter
      refine Inv.wpOp_at rfl rfl ?_
      go_simp
      exact SP _ hW
    · have ha := hafter _ rfl
      clear hafter
      simp [Region.binds] at ha
      have f3 := HF.out _ (by left; rfl) (by simp_all)
      clear ha
      clear G1
      refine Inv.wpOp_at rfl rfl ?_
      have d0 := (hW.cell (p := ⟨w.heap.size, 0, none⟩) (Nat.lt_succ_self _)).trans y0
      go_simp
      exact SP _ hW
    · have ha := hafter _ rfl
      clear hafter
      simp [Region.binds] at ha
      have f4 := HF.out _ (by right; left; rfl) (by simp_all)
      clear ha
      clear G1
      refine Inv.wpOp_at rfl rfl ?_
      go_simp
      refine (DD.out _ (HT.out.below (bstep BA.out (by simpa using hW)))).mono ?_
      rintro e wa ⟨rfl, hba⟩
      exact SP _ (hW.trans (hba.mono (by simpa using hW.size)))
    · have ha := hafter _ rfl
      clear hafter
      simp [Region.binds] at ha
      have f5 := HF.out _ (by right; right; left; rfl) (by simp_all)
      clear ha
      clear G1
      refine Inv.wpOp_at rfl rfl ?_
      go_simp
      exact SP _ hW
    · have ha := hafter _ rfl
      clear hafter
      simp [Region.binds] at ha
      have f6 := HF.out _ (by right; right; right; left; rfl) (by simp_all)
      clear ha
      clear G1
      refine Inv.wpOp_at rfl rfl ?_
      go_simp
      exact SP _ hW
    · clear hafter
      refine Inv.wpOp_at rfl rfl ?_
      go_simp
      exact SP _ hW
    · have ha := hafter _ rfl
      clear hafter
      simp [Region.binds] at ha
      have f8 := HF.out _ (by right; right; right; right; right; left; rfl) (by simp_all)
      clear ha
      clear G1
      refine Inv.wpOp_at rfl rfl ?_
      have d1 := (hW.cell (p := ⟨w.heap.size, 1, none⟩) (Nat.lt_succ_self _)).trans y1
      go_simp
      exact SP _ hW
    · have ha := hafter _ rfl
      clear hafter
      simp [Region.binds] at ha
      have f9 := HF.out _ (by right; right; right; right; right; right; left; rfl) (by simp_all)
      clear ha
      clear G1
      refine Inv.wpOp_at rfl rfl ?_
      go_simp
      refine (B1.out _).mono ?_
      rintro e wa ⟨rfl, hba⟩
      exact SP _ (hW.trans (hba.mono (by simpa using hW.size)))
    · have ha := hafter _ rfl
      clear hafter
      simp [Region.binds] at ha
      have f7 := HF.out _ (by right; right; right; right; left; rfl) (by simp_all)
      have f10 := HF.out _ (by right; right; right; right; right; right; right; left; rfl) (by simp_all)
      clear ha
      clear G1
      refine Inv.wpOp_at rfl rfl ?_
      go_simp
      exact SP _ hW
    · have ha := hafter _ rfl
      clear hafter
      simp [Region.binds] at ha
      have f11 := HF.out _ (by right; right; right; right; right; right; right; right; left; rfl) (by simp_all)
      clear ha
      clear G1
      refine Inv.wpOp_at rfl rfl ?_
      go_simp
      exact SP _ hW
  · intro W hW
    have HW := Lib.hid hW
    simp only [List.range, List.range.loop, List.map_cons, List.map_nil, Inv.tabAt]
    simp
    clear hW
    go_wp2
    go_ret
    exact ⟨rfl, bstep BA.out (by simpa using HW.out)⟩

set_option maxHeartbeats 1600000 in
theorem macWith_call (id : Int) (t k : List UInt8) (w : World) (hi : inR id) (ht : t.length ≤ 300) (hk : k.length ≤ 1048576) (hT : Tb w) :
    Calls Tryz.prog 40 #[.agg #[.int .i64 id, .string (txt t)], .string (txt k)] w fun e w' => e = .returned (.string (txt (b64 (macL k (headT id t))))) ∧ Below w.heap.size w w' := by
  have hl := head_len id t hi.1 hi.2 ht
  have ml := mac_len k (headT id t)
  have BA := Lib.hid ((Below.refl w.heap.size w).alloc (Nat.le_refl _) (.cells #[.int .i64 id, .string (txt t)] 73))
  have HT := Lib.hid (hT.below BA.out)
  have H := Lib.hid (fun wx hx => head_call id t wx hi ht hx)
  generalize headT id t = h at H hl ml ⊢
  go_enter Tryz.func40, Tryz.ntmps40
  go_wp2_with fail
  refine (H.out _ HT.out).mono ?_
  rintro e w1 ⟨rfl, b1⟩
  go_wp2_with fail
  refine (mac_li k h _ hk (by omega) (HT.out.below b1)).mono ?_
  rintro e w2 ⟨rfl, b2⟩
  go_wp2_with fail
  refine (b64_li (macL k h) _ (by omega)).mono ?_
  rintro e w3 ⟨rfl, b3⟩
  have c3 := bstep (bstep (bstep BA.out b1) b2) b3
  go_wp2
  go_ret
  exact ⟨rfl, c3⟩

set_option maxHeartbeats 3200000 in
theorem notation_call (id : Int) (t m : List UInt8) (w : World) (hi : inR id) (ht : t.length ≤ 300) (hm : m.length ≤ 1048576) (hT : Tb w) :
    Calls Tryz.prog 41 #[.agg #[.int .i64 id, .string (txt t), .string (txt m)]] w fun e w' => e = .returned (.string (txt (headT id t ++ [46] ++ m))) ∧ Below w.heap.size w w' := by
  have hl := head_len id t hi.1 hi.2 ht
  have HT := Lib.hid hT
  have BA := Lib.hid ((Below.refl w.heap.size w).alloc (Nat.le_refl _) (.cells #[.int .i64 id, .string (txt t), .string (txt m)] 76))
  obtain ⟨y0, y1, y2⟩ := box3S (heap_alloc_new w (.cells #[.int .i64 id, .string (txt t), .string (txt m)] 76))
  have HC := Lib.hid (fun wx hx => head_call id t wx hi ht hx)
  generalize headT id t = h at HC hl ⊢
  have a1 : ∀ wx : World, (Op.stringOp .add (txt h) { data := #[46] }).run Tryz.prog wx = .ok (.string (txt (h ++ [46]))) wx := add_txt (P := Tryz.prog) h [46] (by simp; omega)
  have a2 : ∀ wx : World, (Op.stringOp .add (txt (h ++ [46])) (txt m)).run Tryz.prog wx = .ok (.string (txt (h ++ [46] ++ m))) wx := add_txt (P := Tryz.prog) (h ++ [46]) m (by simp; omega)
  generalize txt (h ++ [46]) = A1 at a1 a2
  generalize h ++ [46] ++ m = R at a2 ⊢
  clear hT
  go_enter Tryz.func41, Tryz.ntmps41
  go_wp2
  refine Inv.region_tab 8 10 [(0, 3, .pointer (some ⟨w.heap.size, 0, none⟩)), (1, 4, .agg #[.int .i64 id, .string (txt t)]), (2, 5, .string (txt h)), (3, 6, .string A1), (4, 7, .pointer (some ⟨w.heap.size, 2, none⟩)), (5, 8, .string (txt m)), (6, 9, .string (txt R)), (7, 2, .string (txt R))] (fun W => Below (w.heap.size + 1) (w.alloc (.cells #[.int .i64 id, .string (txt t), .string (txt m)] 76)) W) (by kernel_rfl) rfl (by kernel_rfl) ⟨by simp, rfl⟩ (by rfl) (show ([3, 4, 5, 6, 7, 8, 9, 2] : List Nat).Nodup by decide) (by simp) (by simpa using (Below.refl (w.alloc (.cells #[.int .i64 id, .string (txt t), .string (txt m)] 76)).heap.size (w.alloc (.cells #[.int .i64 id, .string (txt t), .string (txt m)] 76))).drew) ?_ ?_
  · intro a b t W hW ht htab hfr p hp hafter K SP
    have F := fun q hq hb => (ht q.2.1).trans (htab q hq hb)
    have G1 := (ht 1).trans (hfr 1 (by simp))
    simp only [List.mem_cons, List.not_mem_nil, or_false] at hp F
    have HF := Lib.hid F
    clear F ht htab hfr
    rcases hp with rfl | rfl | rfl | rfl | rfl | rfl | rfl | rfl
    · clear hafter
      refine Inv.wpOp_at rfl rfl ?_
      go_simp
      exact SP _ hW
    · have ha := hafter _ rfl
      clear hafter
      simp [Region.binds] at ha
      have f3 := HF.out _ (by left; rfl) (by simp_all)
      clear ha
      clear G1
      refine Inv.wpOp_at rfl rfl ?_
      have d0 := (hW.cell (p := ⟨w.heap.size, 0, none⟩) (Nat.lt_succ_self _)).trans y0
      have d1 := (hW.cell (p := ⟨w.heap.size, 1, none⟩) (Nat.lt_succ_self _)).trans y1
      go_simp
      exact SP _ hW
    · have ha := hafter _ rfl
      clear hafter
      simp [Region.binds] at ha
      have f4 := HF.out _ (by right; left; rfl) (by simp_all)
      clear ha
      clear G1
      refine Inv.wpOp_at rfl rfl ?_
      go_simp
      refine (HC.out _ (HT.out.below (bstep BA.out (by simpa using hW)))).mono ?_
      rintro e wa ⟨rfl, hba⟩
      exact SP _ (hW.trans (hba.mono (by simpa using hW.size)))
    · have ha := hafter _ rfl
      clear hafter
      simp [Region.binds] at ha
      have f5 := HF.out _ (by right; right; left; rfl) (by simp_all)
      clear ha
      clear G1
      refine Inv.wpOp_at rfl rfl ?_
      go_simp
      exact SP _ hW
    · clear hafter
      refine Inv.wpOp_at rfl rfl ?_
      go_simp
      exact SP _ hW
    · have ha := hafter _ rfl
      clear hafter
      simp [Region.binds] at ha
      have f7 := HF.out _ (by right; right; right; right; left; rfl) (by simp_all)
      clear ha
      clear G1
      refine Inv.wpOp_at rfl rfl ?_
      have d2 := (hW.cell (p := ⟨w.heap.size, 2, none⟩) (Nat.lt_succ_self _)).trans y2
      go_simp
      exact SP _ hW
    · have ha := hafter _ rfl
      clear hafter
      simp [Region.binds] at ha
      have f6 := HF.out _ (by right; right; right; left; rfl) (by simp_all)
      have f8 := HF.out _ (by right; right; right; right; right; left; rfl) (by simp_all)
      clear ha
      clear G1
      refine Inv.wpOp_at rfl rfl ?_
      go_simp
      exact SP _ hW
    · have ha := hafter _ rfl
      clear hafter
      simp [Region.binds] at ha
      have f9 := HF.out _ (by right; right; right; right; right; right; left; rfl) (by simp_all)
      clear ha
      clear G1
      refine Inv.wpOp_at rfl rfl ?_
      go_simp
      exact SP _ hW
  · intro W hW
    have HW := Lib.hid hW
    simp only [List.range, List.range.loop, List.map_cons, List.map_nil, Inv.tabAt]
    simp
    clear hW
    go_wp2
    go_ret
    exact ⟨rfl, bstep BA.out (by simpa using HW.out)⟩

theorem live_cases (l : List KeyL) (now : Int) : liveKeyL l now = -1 ∨ ∃ k : Nat, ∃ h : k < l.length, liveKeyL l now = (k : Int) := by
  unfold liveKeyL
  split
  · have := liveI_lt l now l.length
    rcases Int.lt_or_le (liveI l now l.length) 0 with h | h
    · left; omega
    · right
      exact ⟨(liveI l now l.length).toNat, by omega, by omega⟩
  · exact .inl rfl

theorem seal_none {l : List KeyL} {t : List UInt8} {now : Int} (h : liveKeyL l now = -1) : sealL l t now = [] := by
  unfold sealL
  rw [if_pos (.inl (by omega))]

theorem seal_long {l : List KeyL} {t : List UInt8} {now : Int} (h : 300 < t.length) : sealL l t now = [] := by
  unfold sealL
  rw [if_pos (.inr h)]

theorem seal_some {l : List KeyL} {t : List UInt8} {now : Int} {k : Nat} (hk : k < l.length) (h : liveKeyL l now = (k : Int)) (ht : t.length ≤ 300) : sealL l t now = sealT l[k] t := by
  unfold sealL
  rw [if_neg (by omega), h, Int.toNat_natCast, List.getElem?_eq_getElem hk]

set_option maxHeartbeats 3200000 in
theorem seal_spec (v : Value) (l : List KeyL) (t : List UInt8) (now : Int) (w : World) (h : At w v l) (hn : l.length ≤ 1048576) (hS : ∀ c ∈ l, Sm c) (ht : t.length ≤ 1048576) :
    Calls Tryz.prog 21 #[.agg #[v], .string (txt t), .int .i64 now] w fun e w' => e = .returned (.string (txt (sealL l t now))) ∧ Below w.heap.size w w' := by
  obtain ⟨a, cap, rfl⟩ := h.form
  have ba := (Below.refl w.heap.size w).alloc (Nat.le_refl _) (.cells #[.slice a l.length cap] 30)
  have HF := Lib.hid (Grid.GAt.below h ba)
  have BA := Lib.hid ba
  have G0 := Lib.hid (heap_alloc_new w (.cells #[.slice a l.length cap] 30))
  have zt := txt_size t
  have LK := Lib.hid (fun wx hx => liveKey_spec (.slice a l.length cap) l now wx hx (by omega) hS)
  obtain ⟨R, HR⟩ : ∃ R, Hid (R = sealL l t now) := ⟨_, Lib.hid rfl⟩
  rw [← HR.out]
  clear ba
  rcases live_cases l now with hc | ⟨k, hk, hc⟩
  · rw [hc] at LK
    have HR2 := Lib.hid (show R = [] by rw [HR.out]; exact seal_none hc)
    clear hc
    go_enter Tryz.func21, Tryz.ntmps21
    go_wp2_with fail
    refine (LK.out _ HF.out).mono ?_
    rintro e w1 ⟨rfl, b1⟩
    have c1 := bstep BA.out b1
    go_wp2
    go_ret
    exact ⟨by rw [HR2.out]; rfl, c1⟩
  · rw [hc] at LK
    have e0 : ¬ ((k : Int) < 0) := by omega
    by_cases h3 : t.length ≤ 300
    · have HR2 := Lib.hid (show R = sealT l[k] t by rw [HR.out]; exact seal_some hk hc h3)
      have e3 : ¬ ((300 : Int) < (t.length : Int)) := by omega
      have hpS := hS l[k] (List.getElem_mem hk)
      have hi1 : (0 : Int) ≤ (k : Int) := by omega
      have hi2 : (k : Int) < (l.length : Int) := by omega
      clear hc h
      go_enter Tryz.func21, Tryz.ntmps21
      go_wp2_with fail
      refine (LK.out _ HF.out).mono ?_
      rintro e w1 ⟨rfl, b1⟩
      have c1 := Lib.hid (bstep BA.out b1)
      obtain ⟨x0, _⟩ := box1 ((b1.block w.heap.size (by simp)).trans G0.out)
      obtain ⟨g, off, rfl, hg, q0, q1, q2, q3⟩ := At.cells (Grid.GAt.below HF.out b1) k hk
      generalize l[k] = p at q0 q1 q2 q3 hpS HR2
      have SS := Lib.hid (fun wx => seal1_spec p t wx hpS.2.1 hpS.1 h3)
      unfold V at SS
      clear b1
      go_wp2_with fail
      refine (SS.out _).mono ?_
      rintro e w2 ⟨rfl, b2⟩
      have c2 := bstep c1.out b2
      go_wp2
      go_ret
      exact ⟨by rw [HR2.out]; rfl, c2⟩
    · have HR2 := Lib.hid (show R = [] by rw [HR.out]; exact seal_long (by omega))
      have e3 : (300 : Int) < (t.length : Int) := by omega
      clear hc
      go_enter Tryz.func21, Tryz.ntmps21
      go_wp2_with fail
      refine (LK.out _ HF.out).mono ?_
      rintro e w1 ⟨rfl, b1⟩
      have c1 := bstep BA.out b1
      go_wp2
      go_ret
      exact ⟨by rw [HR2.out]; rfl, c1⟩

set_option maxHeartbeats 3200000 in
theorem seal_impl (v : Value) (l : List KeyL) (t : List UInt8) (now : Int) (w : World) (h : At w v l) (hn : l.length ≤ 1048576) (hS : ∀ c ∈ l, Sm c) (ht : t.length ≤ 1048576) (hT : Tb w) :
    Calls Tryz.prog 13 #[.agg #[v], .string (txt t), .int .i64 now] w fun e w' => e = .returned (.string (txt (sealL l t now))) ∧ Below w.heap.size w w' := by
  obtain ⟨a, cap, rfl⟩ := h.form
  have ba := (Below.refl w.heap.size w).alloc (Nat.le_refl _) (.cells #[.slice a l.length cap] 30)
  have HF := Lib.hid (Grid.GAt.below h ba)
  have BA := Lib.hid ba
  have HT := Lib.hid hT
  have G0 := Lib.hid (heap_alloc_new w (.cells #[.slice a l.length cap] 30))
  have zt := txt_size t
  have LK := Lib.hid (fun wx hx => liveKey_impl (.slice a l.length cap) l now wx hx (by omega) hS)
  obtain ⟨R, HR⟩ : ∃ R, Hid (R = sealL l t now) := ⟨_, Lib.hid rfl⟩
  rw [← HR.out]
  clear ba
  rcases live_cases l now with hc | ⟨k, hk, hc⟩
  · rw [hc] at LK
    have HR2 := Lib.hid (show R = [] by rw [HR.out]; exact seal_none hc)
    clear hc
    go_enter Tryz.func13, Tryz.ntmps13
    go_wp2_with fail
    refine (LK.out _ HF.out).mono ?_
    rintro e w1 ⟨rfl, b1⟩
    have c1 := bstep BA.out b1
    go_wp2
    go_ret
    exact ⟨by rw [HR2.out]; rfl, c1⟩
  · rw [hc] at LK
    have e0 : ¬ ((k : Int) < 0) := by omega
    by_cases h3 : t.length ≤ 300
    · have HR2 := Lib.hid (show R = sealT l[k] t by rw [HR.out]; exact seal_some hk hc h3)
      have e3 : ¬ ((300 : Int) < (t.length : Int)) := by omega
      have hpS := hS l[k] (List.getElem_mem hk)
      have hi1 : (0 : Int) ≤ (k : Int) := by omega
      have hi2 : (k : Int) < (l.length : Int) := by omega
      clear hc h
      go_enter Tryz.func13, Tryz.ntmps13
      go_wp2_with fail
      refine (LK.out _ HF.out).mono ?_
      rintro e w1 ⟨rfl, b1⟩
      have c1 := Lib.hid (bstep BA.out b1)
      obtain ⟨x0, _⟩ := box1 ((b1.block w.heap.size (by simp)).trans G0.out)
      obtain ⟨g, off, rfl, hg, q0, q1, q2, q3⟩ := At.cells (Grid.GAt.below HF.out b1) k hk
      generalize l[k] = p at q0 q1 q2 q3 hpS HR2
      have d1 := (Below.refl w1.heap.size w1).alloc (Nat.le_refl _) (.cells #[.int .i64 p.i, .string (txt p.s), .int .i64 p.f, .int .i64 p.t] 39)
      have d2 := (Below.refl (w1.alloc (.cells #[.int .i64 p.i, .string (txt p.s), .int .i64 p.f, .int .i64 p.t] 39)).heap.size (w1.alloc (.cells #[.int .i64 p.i, .string (txt p.s), .int .i64 p.f, .int .i64 p.t] 39))).alloc (Nat.le_refl _) (.cells #[.int .i64 p.i, .string (txt t)] 73)
      have c3 := Lib.hid (bstep (bstep c1.out d1) d2)
      have HT1 := Lib.hid (((HT.out.below c1.out).below d1).below d2)
      obtain ⟨y0, y1, y2, y3⟩ := box4K ((d2.block w1.heap.size (by simp)).trans (heap_alloc_new w1 (.cells #[.int .i64 p.i, .string (txt p.s), .int .i64 p.f, .int .i64 p.t] 39)))
      have hz := heap_alloc_new (w1.alloc (.cells #[.int .i64 p.i, .string (txt p.s), .int .i64 p.f, .int .i64 p.t] 39)) (.cells #[.int .i64 p.i, .string (txt t)] 73)
      rw [show (w1.alloc (.cells #[.int .i64 p.i, .string (txt p.s), .int .i64 p.f, .int .i64 p.t] 39)).heap.size = w1.heap.size + 1 by simp] at hz
      obtain ⟨z0, z1⟩ := box2S hz
      have HS := Lib.hid (show sealT p t = headT p.i t ++ [46] ++ b64 (macL p.s (headT p.i t)) from rfl)
      have ml := mac_len p.s (headT p.i t)
      have bl := b64_len (macL p.s (headT p.i t))
      rw [ml] at bl
      have MW := Lib.hid (fun wx hx => macWith_call p.i t p.s wx hpS.2.1 h3 hpS.1 hx)
      have NO := Lib.hid (fun wx hx => notation_call p.i t (b64 (macL p.s (headT p.i t))) wx hpS.2.1 h3 (by omega) hx)
      generalize b64 (macL p.s (headT p.i t)) = m at MW NO HS bl
      generalize headT p.i t ++ [46] ++ m = R2 at NO HS
      clear b1 d1 d2 hz
      go_wp2
      refine Inv.region_tab 8 36 [(0, 29, .agg #[.int .i64 p.i, .string (txt t)]), (1, 30, .agg #[.int .i64 p.i, .string (txt t)]), (2, 31, .pointer (some ⟨w1.heap.size, 1, none⟩)), (3, 32, .string (txt p.s)), (4, 33, .string (txt m)), (5, 34, .agg #[.int .i64 p.i, .string (txt t), .string (txt m)]), (6, 35, .string (txt R2)), (7, 6, .string (txt R2))] (fun W => Below (w1.heap.size + 1 + 1) ((w1.alloc (.cells #[.int .i64 p.i, .string (txt p.s), .int .i64 p.f, .int .i64 p.t] 39)).alloc (.cells #[.int .i64 p.i, .string (txt t)] 73)) W) (by kernel_rfl) rfl (by kernel_rfl) ⟨by simp, rfl⟩ (by rfl) (show ([29, 30, 31, 32, 33, 34, 35, 6] : List Nat).Nodup by decide) (by simp) (by simpa using (Below.refl ((w1.alloc (.cells #[.int .i64 p.i, .string (txt p.s), .int .i64 p.f, .int .i64 p.t] 39)).alloc (.cells #[.int .i64 p.i, .string (txt t)] 73)).heap.size ((w1.alloc (.cells #[.int .i64 p.i, .string (txt p.s), .int .i64 p.f, .int .i64 p.t] 39)).alloc (.cells #[.int .i64 p.i, .string (txt t)] 73))).drew) ?_ ?_
      · intro a b t W hW ht htab hfr p hp hafter K SP
        have F := fun q hq hb => (ht q.2.1).trans (htab q hq hb)
        have G8 := (ht 8).trans (hfr 8 (by simp))
        have G9 := (ht 9).trans (hfr 9 (by simp))
        simp only [List.mem_cons, List.not_mem_nil, or_false] at hp F
        have HF := Lib.hid F
        clear F ht htab hfr
        rcases hp with rfl | rfl | rfl | rfl | rfl | rfl | rfl | rfl
        · clear hafter
          clear G8
          refine Inv.wpOp_at rfl rfl ?_
          have d0 := (hW.cell (p := ⟨w1.heap.size + 1, 0, none⟩) (Nat.lt_succ_self _)).trans z0
          have d1 := (hW.cell (p := ⟨w1.heap.size + 1, 1, none⟩) (Nat.lt_succ_self _)).trans z1
          go_simp
          exact SP _ hW
        · clear hafter
          clear G8
          refine Inv.wpOp_at rfl rfl ?_
          have d0 := (hW.cell (p := ⟨w1.heap.size + 1, 0, none⟩) (Nat.lt_succ_self _)).trans z0
          have d1 := (hW.cell (p := ⟨w1.heap.size + 1, 1, none⟩) (Nat.lt_succ_self _)).trans z1
          go_simp
          exact SP _ hW
        · clear hafter
          clear G9
          refine Inv.wpOp_at rfl rfl ?_
          go_simp
          exact SP _ hW
        · have ha := hafter _ rfl
          clear hafter
          simp [Region.binds] at ha
          have f31 := HF.out _ (by right; right; left; rfl) (by simp_all)
          clear ha
          clear G8 G9
          refine Inv.wpOp_at rfl rfl ?_
          have d1 := (hW.cell (p := ⟨w1.heap.size, 1, none⟩) (Nat.lt_succ_of_lt (Nat.lt_succ_self _))).trans y1
          go_simp
          exact SP _ hW
        · have ha := hafter _ rfl
          clear hafter
          simp [Region.binds] at ha
          have f30 := HF.out _ (by right; left; rfl) (by simp_all)
          have f32 := HF.out _ (by right; right; right; left; rfl) (by simp_all)
          clear ha
          clear G8 G9
          refine Inv.wpOp_at rfl rfl ?_
          go_simp
          refine (MW.out _ (HT1.out.below (by have := hW; simpa using this))).mono ?_
          rintro e wa ⟨rfl, hba⟩
          exact SP _ (hW.trans (hba.mono (by simpa using hW.size)))
        · have ha := hafter _ rfl
          clear hafter
          simp [Region.binds] at ha
          have f29 := HF.out _ (by left; rfl) (by simp_all)
          have f33 := HF.out _ (by right; right; right; right; left; rfl) (by simp_all)
          clear ha
          clear G8 G9
          refine Inv.wpOp_at rfl rfl ?_
          go_simp
          exact SP _ hW
        · have ha := hafter _ rfl
          clear hafter
          simp [Region.binds] at ha
          have f34 := HF.out _ (by right; right; right; right; right; left; rfl) (by simp_all)
          clear ha
          clear G8 G9
          refine Inv.wpOp_at rfl rfl ?_
          go_simp
          refine (NO.out _ (HT1.out.below (by have := hW; simpa using this))).mono ?_
          rintro e wa ⟨rfl, hba⟩
          exact SP _ (hW.trans (hba.mono (by simpa using hW.size)))
        · have ha := hafter _ rfl
          clear hafter
          simp [Region.binds] at ha
          have f35 := HF.out _ (by right; right; right; right; right; right; left; rfl) (by simp_all)
          clear ha
          clear G8 G9
          refine Inv.wpOp_at rfl rfl ?_
          go_simp
          exact SP _ hW
      · intro W hW
        have HW := Lib.hid hW
        simp only [List.range, List.range.loop, List.map_cons, List.map_nil, Inv.tabAt]
        simp
        clear hW
        go_wp2
        go_ret
        exact ⟨by rw [HR2.out]; exact (congrArg (fun x => Ending.returned (.string (txt x))) HS.out).symm, bstep c3.out (by simpa using HW.out)⟩
    · have HR2 := Lib.hid (show R = [] by rw [HR.out]; exact seal_long (by omega))
      have e3 : (300 : Int) < (t.length : Int) := by omega
      clear hc
      go_enter Tryz.func13, Tryz.ntmps13
      go_wp2_with fail
      refine (LK.out _ HF.out).mono ?_
      rintro e w1 ⟨rfl, b1⟩
      have c1 := bstep BA.out b1
      go_wp2
      go_ret
      exact ⟨by rw [HR2.out]; rfl, c1⟩

end Sl
end Go.Proofs.YtonpalaopnfffaaGreatDoor
