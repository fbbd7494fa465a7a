/- CONTRACT of the program's GetRequest. -/
import Derived.Test.YtfnignlfelambaaGreatDoorHtI
import Derived.ScopeJumps
namespace Go.Proofs.YtfnignlfelambaaGreatDoor
set_option linter.unusedVariables false
set_option maxRecDepth 4000
open Go.ChangeShapes Go.WideShapes Go.ChangeAt Go.RowKit
open Go.ChangeMaps (open_string shut_string)

namespace Ht

/-- what the program's reading of a request hands back: its rows are its own, apart from each other -/
def ReqI (base : Nat) (e : Ending) (w : World) (R : ReqL × Int) : Prop := ∃ aq cq cq' eq vh, e = .returned (.tuple #[reqV R.1 (.slice aq R.1.q.length cq) vh, .int .i64 R.2]) ∧
  w.ownsRow base eq 2 (.slice aq R.1.q.length cq') R.1.q.length (pcells R.1.q) ∧ w.ownsRow base 67 2 vh R.1.h.length (pcells R.1.h) ∧ (∀ g, (Value.slice aq R.1.q.length cq).ownBlock = some g → vh.ownBlock ≠ some g)

theorem zero_exitI (base : Nat) (R : ReqL × Int) (c : Int) (h : R = (zeroR, c)) {W : World} {v : Value} (hv : v = .tuple #[.agg #[.string ⟨#[]⟩, .string ⟨#[]⟩, .slice none 0 0, .slice none 0 0, .string ⟨#[]⟩], .int .i64 c]) : ReqI base (.returned v) W R := by
  subst h hv
  exact ⟨none, 0, 0, 67, .slice none 0 0, rfl, World.ownsRow_nil _ _ _ _, World.ownsRow_nil _ _ _ _, fun g e => by cases e⟩

theorem tat_set {w : World} {v : Value} {l : List (List UInt8)} (h : TAt w v l) (b k : Nat) (x : Value) (hne : ∀ g, v.ownBlock = some g → g ≠ b) : TAt (w.setCell ⟨b, k, none⟩ x) v l := by
  obtain ⟨a, cap, rfl, hc, h0 | ⟨g, off, rfl, hg, hcc⟩⟩ := h
  · exact ⟨a, cap, rfl, hc, .inl h0⟩
  · exact ⟨_, cap, rfl, hc, .inr ⟨g, off, rfl, by simpa using hg, fun i hi => (World.cell?_of_block (a := ⟨g, off + i, none⟩) (Below.heap_setCell w ⟨b, k, none⟩ x g (hne g rfl))).trans (hcc i hi)⟩⟩

theorem tail_block {g n cap : Nat} {v : Value} (h : ∀ wx, (Instr.slice 43 (.slice (some ⟨g, 0, none⟩) (n + 1) cap) (some (.int .i64 1)) none none).run Tryz.prog wx = .ok v wx) (w : World) : ∀ j, v.ownBlock = some j → j = g := by
  have h1 := h w
  rw [run_slice_l (P := Tryz.prog) (w := w) (t := 43) (ht := by kernel_rfl) (kl := .i64) (l := 1) (h0 := by omega) (h1 := by omega)] at h1
  have e : Tryz.prog.elem 43 = 9 := by kernel_rfl
  rw [e, Tryz.sizeOf9] at h1
  simp only [Result.andThen, Result.ok.injEq, and_true] at h1
  subst h1
  intro j hj
  unfold sliced at hj
  split at hj <;> simp [Value.ownBlock, Addr.add] at hj <;> omega

theorem readF_len {f m t : List UInt8} (h : readF f = some (m, t)) : t.length ≤ f.length := by
  unfold readF at h
  split at h
  · rename_i m' t' p' hs
    split at h
    · simp only [Option.some.injEq, Prod.mk.injEq] at h
      obtain ⟨_, rfl⟩ := h
      exact splitL_part 32 f _ (by rw [hs]; simp)
    · cases h
  · cases h

theorem body_prog (b : List UInt8) (n : Option (List UInt8)) (h : (b.length : Int) = lenOf n) : bodyOk b n = decide (lenOf n ≤ 4000) := by
  unfold bodyOk
  rw [decide_eq_true h, Bool.true_and, ← h]
  simp
  omega

set_option maxHeartbeats 40000000 in
theorem getReq_impl (s : List UInt8) (w : World) (hs : s.length ≤ 1048576) (hm : HM w) :
    Calls Tryz.prog 12 #[.string (txt s)] w fun e w' => ReqI w.heap.size e w' (getReq s) ∧ Below w.heap.size w w' := by
  have hz := txt_size s
  have HMM := Lib.hid hm
  have ba := Lib.hid (((Below.refl w.heap.size w).alloc (Nat.le_refl _) (.cells #[.string ⟨#[]⟩, .string ⟨#[]⟩, .slice none 0 0, .slice none 0 0, .string ⟨#[]⟩] 26)).alloc (by simp) (.cells #[.string ⟨#[]⟩, .string ⟨#[]⟩, .slice none 0 0, .slice none 0 0, .string ⟨#[]⟩] 26))
  obtain ⟨g0', g1'⟩ := alloc2 w (.cells #[.string ⟨#[]⟩, .string ⟨#[]⟩, .slice none 0 0, .slice none 0 0, .string ⟨#[]⟩] 26) (.cells #[.string ⟨#[]⟩, .string ⟨#[]⟩, .slice none 0 0, .slice none 0 0, .string ⟨#[]⟩] 26)
  have g0 := Lib.hid g0'
  have g1 := Lib.hid g1'
  have z0 : ((w.alloc (.cells #[.string ⟨#[]⟩, .string ⟨#[]⟩, .slice none 0 0, .slice none 0 0, .string ⟨#[]⟩] 26)).alloc (.cells #[.string ⟨#[]⟩, .string ⟨#[]⟩, .slice none 0 0, .slice none 0 0, .string ⟨#[]⟩] 26)).heap.size = w.heap.size + 1 + 1 := by simp
  have Z0 := Lib.hid z0
  clear z0 g0' g1' hm
  obtain ⟨R, hR⟩ : ∃ R, R = getReq s := ⟨_, rfl⟩
  rw [← hR]
  have HRR := Lib.hid hR
  clear hR
  go_enter Tryz.func12, Tryz.ntmps12
  go_wp2
  refine wp_scope_jumps 0 (fun a' w' => ∃ (code : Int) (u0 u1 u3 u4 u5 u6 u7 u8 u10 u11 u12 u13 u14 u15 u16 u17 u18 u19 u20 u21 u22 u23 u24 u25 u26 u27 u28 u29 u30 u31 u32 u33 u34 u35 u36 u37 u38 u39 u40 u41 u42 u43 u44 u45 u46 u47 u48 u49 u50 u51 u52 u53 u54 u55 u56 u57 u58 u59 u60 u61 u62 u63 u64 : Value), a' = { tmps := #[u0, u1, .pointer (some ⟨w.heap.size, 0, none⟩), u3, u4, u5, u6, u7, u8, .int .i64 code, u10, u11, u12, u13, u14, u15, u16, u17, u18, u19, u20, u21, u22, u23, u24, u25, u26, u27, u28, u29, u30, u31, u32, u33, u34, u35, u36, u37, u38, u39, u40, u41, u42, u43, u44, u45, u46, u47, u48, u49, u50, u51, u52, u53, u54, u55, u56, u57, u58, u59, u60, u61, u62, u63, u64], defers := [] } ∧ R = (zeroR, code) ∧ w'.heap[w.heap.size]? = some (.cells #[.string ⟨#[]⟩, .string ⟨#[]⟩, .slice none 0 0, .slice none 0 0, .string ⟨#[]⟩] 26 (0, 0)) ∧ Below w.heap.size w w') (fun _ _ => 0) rfl ?_ ?_
  · by_cases h8 : 8000 < s.length
    · have HR : R = (zeroR, 5) := by rw [HRR.out]; unfold getReq; rw [if_pos h8]
      have HRH := Lib.hid HR
      have i8 : (8000 : Int) < (s.length : Int) := by omega
      clear HR
      go_wp2
      go_step3
      exact ⟨rfl, 5, _, _, _, _, _, _, _, _, _, _, _, _, _, _, _, _, _, _, _, _, _, _, _, _, _, _, _, _, _, _, _, _, _, _, _, _, _, _, _, _, _, _, _, _, _, _, _, _, _, _, _, _, _, _, _, _, _, _, _, _, _, _, _, rfl, HRH.out, g0.out, ba.out⟩
    · have i8 : ¬ (8000 : Int) < (s.length : Int) := by omega
      have HG := Lib.hid (show R = match scanL s with
        | none => (zeroR, 1)
        | some (ls, b) => readR ls b by rw [HRR.out]; exact getReq_mid h8)
      have CM := Lib.hid (fun wx h => cutMsg_call s wx hs h)
      clear h8 HRR
      go_wp2_with fail
      refine (CM.out _ (HMM.out.below ba.out)).mono ?_
      rintro e w1 ⟨hL, b1⟩
      have c1 := ba.out.trans (b1.mono ba.out.size)
      have s1 := b1.size
      rw [Z0.out] at s1
      have k1 := (b1.block w.heap.size (by rw [Z0.out]; omega)).trans g0.out
      have kb1 := (b1.block (w.heap.size + 1) (by rw [Z0.out]; omega)).trans g1.out
      obtain ⟨x0, x1, x2, x3, x4, y0, y1, y2, y3, y4⟩ := box5 kb1
      have K1 := Lib.hid k1
      cases hsc : scanL s with
      | none =>
        rw [hsc] at hL
        have HR := Lib.hid (show R = (zeroR, 1) by rw [HG.out, hsc])
        have hL' : e = _ := hL
        subst hL'
        have J1 := Lib.hid ((Below.heap_setCell w1 ⟨w.heap.size + 1, 4, none⟩ (.string ⟨#[]⟩) w.heap.size (by show w.heap.size ≠ w.heap.size + 1; omega)).trans k1)
        have D1 := Lib.hid (c1.setCell (p := ⟨w.heap.size + 1, 4, none⟩) (by show w.heap.size ≤ w.heap.size + 1; omega) (.string ⟨#[]⟩))
        clear hsc CM HG k1 kb1 hL
        go_wp2
        go_step3
        exact ⟨rfl, 1, _, _, _, _, _, _, _, _, _, _, _, _, _, _, _, _, _, _, _, _, _, _, _, _, _, _, _, _, _, _, _, _, _, _, _, _, _, _, _, _, _, _, _, _, _, _, _, _, _, _, _, _, _, _, _, _, _, _, _, _, _, _, _, rfl, HR.out, J1.out, D1.out⟩
      | some pr =>
        obtain ⟨ls, b⟩ := pr
        rw [hsc] at hL
        obtain ⟨v, rfl, o1⟩ := hL
        have hg := HG.out
        rw [hsc] at hg
        have hparts := scanL_parts hsc
        have M1 := Lib.hid (heap_setCell_same w1 (w.heap.size + 1) 4 _ _ (.string (txt b)) kb1)
        have J1 := Lib.hid ((Below.heap_setCell w1 ⟨w.heap.size + 1, 4, none⟩ (.string (txt b)) w.heap.size (by show w.heap.size ≠ w.heap.size + 1; omega)).trans k1)
        have D1 := Lib.hid (c1.setCell (p := ⟨w.heap.size + 1, 4, none⟩) (by show w.heap.size ≤ w.heap.size + 1; omega) (.string (txt b)))
        clear HG hsc CM k1 kb1
        cases ls with
        | nil =>
          have HR := Lib.hid (show R = (zeroR, 1) from hg)
          clear hg hparts o1
          go_wp2
          go_step3
          exact ⟨rfl, 1, _, _, _, _, _, _, _, _, _, _, _, _, _, _, _, _, _, _, _, _, _, _, _, _, _, _, _, _, _, _, _, _, _, _, _, _, _, _, _, _, _, _, _, _, _, _, _, _, _, _, _, _, _, _, _, _, _, _, _, _, _, _, _, rfl, HR.out, J1.out, D1.out⟩
        | cons f hs' =>
          have HG := Lib.hid (show R = readR (f :: hs') b from hg)
          have T1 := tat_own o1
          have L1 := Lib.hid (own_low o1)
          obtain ⟨a1, cap1, rfl⟩ := own_val o1
          obtain ⟨q1, rfl, hq1a, hq1⟩ := own_at o1 (by simp)
          have d1 := own_cell o1 0 (by simp) rfl
          have hp1 := hparts.1 f List.mem_cons_self
          have HP := Lib.hid hparts
          simp only [List.getElem_cons_zero] at d1
          have hlen : (f :: hs').length = hs'.length + 1 := rfl
          rw [hlen] at T1 ⊢
          obtain ⟨v1, tv1, hsl1⟩ := tail_row T1
          have hq1b : w.heap.size + 1 < q1 := by have := hq1a; rw [Z0.out] at this; omega
          obtain ⟨X, hX⟩ : ∃ X, X = w1.setCell ⟨w.heap.size + 1, 4, none⟩ (.string (txt b)) := ⟨_, rfl⟩
          have XK : X.heap[w.heap.size]? = some (.cells #[.string ⟨#[]⟩, .string ⟨#[]⟩, .slice none 0 0, .slice none 0 0, .string ⟨#[]⟩] 26 (0, 0)) := by rw [hX]; exact J1.out
          have XB : X.heap[w.heap.size + 1]? = some (.cells #[.string ⟨#[]⟩, .string ⟨#[]⟩, .slice none 0 0, .slice none 0 0, .string (txt b)] 26 (0, 0)) := by rw [hX]; exact M1.out
          have dX : Below w.heap.size w X := by rw [hX]; exact D1.out
          have sX : w.heap.size + 1 < X.heap.size := by rw [hX]; simp; omega
          have XT : TAt X v1 hs' := by
            rw [hX]
            exact tat_set tv1 (w.heap.size + 1) 4 _ (fun g e => by
              have := tail_block hsl1 w1 g e
              omega)
          have dc : decide (0 < hs'.length + 1) = true := by simp
          rw [dc]
          have HX := Lib.hid hX
          have RL := Lib.hid (fun wx => readLine_call f wx (by omega))
          have hd1 : X.cell? ⟨q1, 0, none⟩ = some (.string (txt f)) := by
            rw [hX]
            exact (World.cell?_of_block (a := ⟨q1, 0, none⟩) (Below.heap_setCell w1 ⟨w.heap.size + 1, 4, none⟩ _ q1 (by show q1 ≠ w.heap.size + 1; omega))).trans d1
          have HD1 := Lib.hid hd1
          clear hg hparts o1 T1 tv1 hlen dc
          go_wp2_with fail
          rw [← HX.out]
          clear x0 x1 x2 x3 x4 y0 y1 y2 y3 y4 d1 hX HX HD1 hd1
          refine (RL.out _).mono ?_
          rintro e w2 ⟨rfl, b2⟩
          have d2 := dX.trans (b2.mono dX.size)
          have s2 := b2.size
          have k2 := (b2.block w.heap.size (by omega)).trans XK
          have kb2 := (b2.block (w.heap.size + 1) (by omega)).trans XB
          have XT2 := tat_below XT b2
          obtain ⟨x0, x1, x2, x3, x4, y0, y1, y2, y3, y4⟩ := box5 kb2
          clear RL XK XB XT dX b2
          cases hrf : readF f with
          | none =>
            have HR := Lib.hid (show R = (zeroR, 1) by rw [HG.out]; exact readR_f hrf)
            simp only [lineV]
            have J2 := Lib.hid ((Below.heap_setCell w2 ⟨w.heap.size + 1, 0, none⟩ (.string ⟨#[]⟩) w.heap.size (by show w.heap.size ≠ w.heap.size + 1; omega)).trans k2)
            have D2 := Lib.hid (d2.setCell (p := ⟨w.heap.size + 1, 0, none⟩) (by show w.heap.size ≤ w.heap.size + 1; omega) (.string ⟨#[]⟩))
            clear hrf k2 kb2 d2 XT2
            go_wp2
            go_step3
            exact ⟨rfl, 1, _, _, _, _, _, _, _, _, _, _, _, _, _, _, _, _, _, _, _, _, _, _, _, _, _, _, _, _, _, _, _, _, _, _, _, _, _, _, _, _, _, _, _, _, _, _, _, _, _, _, _, _, _, _, _, _, _, _, _, _, _, _, _, rfl, HR.out, J2.out, D2.out⟩
          | some mt =>
            obtain ⟨m, t⟩ := mt
            have htl := readF_len hrf
            simp only [lineV]
            obtain ⟨X, hX⟩ : ∃ X, X = w2.setCell ⟨w.heap.size + 1, 0, none⟩ (.string (txt m)) := ⟨_, rfl⟩
            have XK : X.heap[w.heap.size]? = some (.cells #[.string ⟨#[]⟩, .string ⟨#[]⟩, .slice none 0 0, .slice none 0 0, .string ⟨#[]⟩] 26 (0, 0)) := by
              rw [hX]
              exact (Below.heap_setCell w2 ⟨w.heap.size + 1, 0, none⟩ _ w.heap.size (by show w.heap.size ≠ w.heap.size + 1; omega)).trans k2
            have XB : X.heap[w.heap.size + 1]? = some (.cells #[.string (txt m), .string ⟨#[]⟩, .slice none 0 0, .slice none 0 0, .string (txt b)] 26 (0, 0)) := by
              rw [hX]
              exact heap_setCell_same w2 (w.heap.size + 1) 0 _ _ (.string (txt m)) kb2
            have dX : Below w.heap.size w X := by
              rw [hX]
              exact d2.setCell (p := ⟨w.heap.size + 1, 0, none⟩) (by show w.heap.size ≤ w.heap.size + 1; omega) (.string (txt m))
            have sX : w.heap.size + 1 < X.heap.size := by rw [hX]; simp; omega
            have XT : TAt X v1 hs' := by
              rw [hX]
              exact tat_set XT2 (w.heap.size + 1) 0 _ (fun g e => by
                have := tail_block hsl1 w1 g e
                omega)
            have HX := Lib.hid hX
            have RT := Lib.hid (fun wx h => readTarget_call t wx (by omega) h)
            clear k2 kb2 d2 XT2 hX
            go_wp2_with fail
            rw [← HX.out]
            clear x0 x1 x2 x3 x4 y0 y1 y2 y3 y4 HX
            refine (RT.out _ (HMM.out.below dX)).mono ?_
            rintro e w3 ⟨hT, b3⟩
            have d3 := dX.trans (b3.mono dX.size)
            have s3 := b3.size
            have k3 := (b3.block w.heap.size (by omega)).trans XK
            have kb3 := (b3.block (w.heap.size + 1) (by omega)).trans XB
            have XT3 := tat_below XT b3
            obtain ⟨x0, x1, x2, x3, x4, y0, y1, y2, y3, y4⟩ := box5 kb3
            clear RT XK XB XT dX b3
            cases hrt : readT t with
            | none =>
              rw [hrt] at hT
              have hT' : e = _ := hT
              subst hT'
              have HR := Lib.hid (show R = (zeroR, 2) by rw [HG.out]; exact readR_t hrf hrt)
              have J3 := Lib.hid ((Below.heap_setCell _ ⟨w.heap.size + 1, 2, none⟩ (.slice none 0 0) w.heap.size (by show w.heap.size ≠ w.heap.size + 1; omega)).trans ((Below.heap_setCell w3 ⟨w.heap.size + 1, 1, none⟩ (.string ⟨#[]⟩) w.heap.size (by show w.heap.size ≠ w.heap.size + 1; omega)).trans k3))
              have D3 := Lib.hid ((d3.setCell (p := ⟨w.heap.size + 1, 1, none⟩) (by show w.heap.size ≤ w.heap.size + 1; omega) (.string ⟨#[]⟩)).setCell (p := ⟨w.heap.size + 1, 2, none⟩) (by show w.heap.size ≤ w.heap.size + 1; omega) (.slice none 0 0))
              clear hrf hrt k3 kb3 d3 XT3 hT
              go_wp2
              go_step3
              exact ⟨rfl, 2, _, _, _, _, _, _, _, _, _, _, _, _, _, _, _, _, _, _, _, _, _, _, _, _, _, _, _, _, _, _, _, _, _, _, _, _, _, _, _, _, _, _, _, _, _, _, _, _, _, _, _, _, _, _, _, _, _, _, _, _, _, _, _, rfl, HR.out, J3.out, D3.out⟩
            | some pq =>
              obtain ⟨pa, q⟩ := pq
              rw [hrt] at hT
              obtain ⟨aq, cq, cq', eq, rfl, oq⟩ := hT
              obtain ⟨X, hX⟩ : ∃ X, X = (w3.setCell ⟨w.heap.size + 1, 1, none⟩ (.string (txt pa))).setCell ⟨w.heap.size + 1, 2, none⟩ (.slice aq q.length cq) := ⟨_, rfl⟩
              have hkeep : ∀ g, g ≠ w.heap.size + 1 → X.heap[g]? = w3.heap[g]? := fun g hg => by
                rw [hX]
                exact (Below.heap_setCell _ ⟨w.heap.size + 1, 2, none⟩ _ g hg).trans (Below.heap_setCell w3 ⟨w.heap.size + 1, 1, none⟩ _ g hg)
              have XK : X.heap[w.heap.size]? = some (.cells #[.string ⟨#[]⟩, .string ⟨#[]⟩, .slice none 0 0, .slice none 0 0, .string ⟨#[]⟩] 26 (0, 0)) := (hkeep _ (by omega)).trans k3
              have XB : X.heap[w.heap.size + 1]? = some (.cells #[.string (txt m), .string (txt pa), .slice aq q.length cq, .slice none 0 0, .string (txt b)] 26 (0, 0)) := by
                rw [hX]
                exact heap_setCell_same _ (w.heap.size + 1) 2 _ _ (.slice aq q.length cq) (heap_setCell_same w3 (w.heap.size + 1) 1 _ _ (.string (txt pa)) kb3)
              have dX : Below w.heap.size w X := by
                rw [hX]
                exact (d3.setCell (p := ⟨w.heap.size + 1, 1, none⟩) (by show w.heap.size ≤ w.heap.size + 1; omega) _).setCell (p := ⟨w.heap.size + 1, 2, none⟩) (by show w.heap.size ≤ w.heap.size + 1; omega) _
              have sX : w.heap.size + 1 < X.heap.size := by rw [hX]; simp; omega
              have sX3 : X.heap.size = w3.heap.size := by rw [hX]; simp
              have XT : TAt X v1 hs' := by
                rw [hX]
                exact tat_set (tat_set XT3 (w.heap.size + 1) 1 _ (fun g e => by
                  have := tail_block hsl1 w1 g e
                  omega)) (w.heap.size + 1) 2 _ (fun g e => by
                  have := tail_block hsl1 w1 g e
                  omega)
              have lq := own_low oq
              have oqX : X.ownsRow w.heap.size eq 2 (.slice aq q.length cq') q.length (pcells q) := own_base2 (own_heap oq (fun g e => hkeep g (by have := (lq g e).1; omega))) (by omega)
              have LQ := Lib.hid (show ∀ g, (Value.slice aq q.length cq').ownBlock = some g → w.heap.size + 1 < g ∧ g < X.heap.size from fun g e => by have := lq g e; omega)
              have OQ := Lib.hid oqX
              have HX := Lib.hid hX
              have RH := Lib.hid (fun wx h => readHeads_call v1 hs' wx h (by have := HP.out.2.2; simp at this; omega) (fun x hx => by have := HP.out.1 x (List.mem_cons_of_mem _ hx); omega))
              have RHH := Lib.hid (show readH hs' = if (takeA [] none hs').2.2 = true ∧ headsL (takeA [] none hs').1 = true then some ((takeA [] none hs').1, (takeA [] none hs').2.1) else none from rfl)
              clear k3 kb3 d3 XT3 hX hkeep oq lq oqX
              go_wp2_with fail
              rw [← HX.out]
              clear x0 x1 x2 x3 x4 y0 y1 y2 y3 y4 HX
              refine (RH.out _ XT).mono ?_
              rintro e w4 ⟨⟨v', rfl, oh⟩, b4⟩
              have d4 := dX.trans (b4.mono dX.size)
              have s4 := b4.size
              have k4 := (b4.block w.heap.size (by omega)).trans XK
              have kb4 := (b4.block (w.heap.size + 1) (by omega)).trans XB
              have OQ4 := Lib.hid (ownsRow_below OQ.out b4)
              have lh := own_low oh
              have OH := Lib.hid oh
              have LH := Lib.hid lh
              obtain ⟨ah, ch, rfl⟩ := own_val2 oh
              obtain ⟨x0, x1, x2, x3, x4, y0, y1, y2, y3, y4⟩ := box5 kb4
              have M4 := Lib.hid (heap_setCell_same w4 (w.heap.size + 1) 3 _ _ (.slice ah (takeA [] none hs').1.length ch) kb4)
              have J4 := Lib.hid ((Below.heap_setCell w4 ⟨w.heap.size + 1, 3, none⟩ (.slice ah (takeA [] none hs').1.length ch) w.heap.size (by show w.heap.size ≠ w.heap.size + 1; omega)).trans k4)
              have D4 := Lib.hid (d4.setCell (p := ⟨w.heap.size + 1, 3, none⟩) (by show w.heap.size ≤ w.heap.size + 1; omega) (.slice ah (takeA [] none hs').1.length ch))
              have HRF := Lib.hid hrf
              have HRT := Lib.hid hrt
              clear RH XK XB XT dX b4 lh oh k4 d4 kb4 hrf hrt
              generalize takeA [] none hs' = TA at RHH OH LH M4 J4 D4 ⊢
              obtain ⟨hh, tt, gd⟩ := TA
              simp only at RHH OH LH M4 J4 D4 ⊢
              by_cases hgh : gd = true ∧ headsL hh = true
              · have HRH := Lib.hid (show readH hs' = some (hh, tt) by rw [RHH.out, if_pos hgh])
                have hb1 : (gd && headsL hh) = true := by rw [hgh.1, hgh.2]; rfl
                rw [hb1]
                have hbz := txt_size b
                clear hgh hb1 RHH
                by_cases hlen : (b.length : Int) = lenOf tt
                · have hbp := body_prog b tt hlen
                  have HBP := Lib.hid hbp
                  have HLN := Lib.hid hlen
                  have hne : ((b.length : Int) != lenOf tt) = false := by rw [hlen]; simp
                  clear hbp hlen
                  generalize lenOf tt = ln at HBP HLN hne ⊢
                  by_cases h4 : ln ≤ 4000
                  · have HR := Lib.hid (show R = (⟨m, pa, q, hh, b⟩, 0) by rw [HG.out, readR_b HRF.out HRT.out HRH.out, if_pos (by rw [HBP.out, decide_eq_true h4])])
                    have n4 : ¬ (4000 : Int) < ln := by omega
                    obtain ⟨X, hX⟩ : ∃ X, X = w4.setCell ⟨w.heap.size + 1, 3, none⟩ (.slice ah hh.length ch) := ⟨_, rfl⟩
                    rw [← hX] at M4 J4 D4
                    have hkeep : ∀ g, g ≠ w.heap.size + 1 → X.heap[g]? = w4.heap[g]? := fun g hg => by
                      rw [hX]
                      exact Below.heap_setCell w4 ⟨w.heap.size + 1, 3, none⟩ _ g hg
                    have OQX := Lib.hid (own_heap OQ4.out (fun g e => hkeep g (by have := (LQ.out g e).1; omega)))
                    have OHX := Lib.hid (own_heap OH.out (fun g e => hkeep g (by have := (LH.out g e).1; omega)))
                    have HX := Lib.hid hX
                    have L9 := Lib.hid (req_load J4.out (.string (txt m)) (.string (txt pa)) (.slice aq q.length cq) (.slice ah hh.length ch) (.string (txt b)))
                    obtain ⟨X0, X1, X2, X3, X4, Y0, Y1, Y2, Y3, Y4⟩ := box5 J4.out
                    obtain ⟨Z0', Z1, Z2, Z3, Z4, _⟩ := box5 M4.out
                    rw [hX] at X0 X1 X2 X3 X4 Y0 Y1 Y2 Y3 Y4 Z0' Z1 Z2 Z3 Z4
                    clear hkeep h4 hX
                    go_wp2
                    simp only [Exit.jump]
                    rw [← HX.out]
                    refine bodyPost_ret (v := .tuple #[.agg #[.string (txt m), .string (txt pa), .slice aq q.length cq, .slice ah hh.length ch, .string (txt b)], .int .i64 0]) ?_ rfl ⟨?_, set5_below D4.out (Nat.le_refl _) _ _ _ _ _⟩
                    · rw [results_cell_tmp1 rfl]
                      simp [asAddr, Result.andThen, L9.out]
                    · rw [HR.out]
                      refine ⟨aq, cq, cq', eq, .slice ah hh.length ch, rfl, own_heap OQX.out (fun g e => set5_heap _ _ g _ _ _ _ _ (by have := (LQ.out g e).1; omega)), own_base2 (own_heap OHX.out (fun g e => set5_heap _ _ g _ _ _ _ _ (by have := (LH.out g e).1; omega))) (by omega), fun g e h => ?_⟩
                      have h1 := (LH.out g h).1
                      have h2 := (LQ.out g (by cases aq with | none => cases e | some ad => exact e)).2
                      omega
                  · have HR := Lib.hid (show R = (zeroR, 4) by rw [HG.out, readR_b HRF.out HRT.out HRH.out, if_neg (by rw [HBP.out, decide_eq_false h4]; simp)])
                    have n4 : (4000 : Int) < ln := by omega
                    clear h4
                    go_wp2
                    go_step3
                    exact ⟨rfl, 4, _, _, _, _, _, _, _, _, _, _, _, _, _, _, _, _, _, _, _, _, _, _, _, _, _, _, _, _, _, _, _, _, _, _, _, _, _, _, _, _, _, _, _, _, _, _, _, _, _, _, _, _, _, _, _, _, _, _, _, _, _, _, _, rfl, HR.out, J4.out, D4.out⟩
                · have HR := Lib.hid (show R = (zeroR, 4) by rw [HG.out, readR_b HRF.out HRT.out HRH.out, if_neg (by unfold bodyOk; rw [decide_eq_false hlen]; simp)])
                  have hne : ((b.length : Int) != lenOf tt) = true := by rw [bne_iff_ne]; exact hlen
                  clear hlen
                  generalize lenOf tt = ln at hne ⊢
                  go_wp2
                  go_step3
                  exact ⟨rfl, 4, _, _, _, _, _, _, _, _, _, _, _, _, _, _, _, _, _, _, _, _, _, _, _, _, _, _, _, _, _, _, _, _, _, _, _, _, _, _, _, _, _, _, _, _, _, _, _, _, _, _, _, _, _, _, _, _, _, _, _, _, _, _, _, rfl, HR.out, J4.out, D4.out⟩
              · have HR := Lib.hid (show R = (zeroR, 3) by rw [HG.out]; exact readR_h HRF.out HRT.out (by rw [RHH.out, if_neg hgh]))
                have hb1 : (gd && headsL hh) = false := by
                  rw [Bool.eq_false_iff]
                  intro h
                  rw [Bool.and_eq_true] at h
                  exact hgh h
                rw [hb1]
                clear hgh hb1 RHH
                go_wp2
                go_step3
                exact ⟨rfl, 3, _, _, _, _, _, _, _, _, _, _, _, _, _, _, _, _, _, _, _, _, _, _, _, _, _, _, _, _, _, _, _, _, _, _, _, _, _, _, _, _, _, _, _, _, _, _, _, _, _, _, _, _, _, _, _, _, _, _, _, _, _, _, _, rfl, HR.out, J4.out, D4.out⟩
  · rintro a' w' ⟨code, u0, u1, u3, u4, u5, u6, u7, u8, u10, u11, u12, u13, u14, u15, u16, u17, u18, u19, u20, u21, u22, u23, u24, u25, u26, u27, u28, u29, u30, u31, u32, u33, u34, u35, u36, u37, u38, u39, u40, u41, u42, u43, u44, u45, u46, u47, u48, u49, u50, u51, u52, u53, u54, u55, u56, u57, u58, u59, u60, u61, u62, u63, u64, rfl, hRc, hk, hb⟩
    have HR := Lib.hid hRc
    obtain ⟨x0, x1, x2, x3, x4, y0, y1, y2, y3, y4⟩ := box5 hk
    clear hRc
    go_wp2
    simp only [Exit.jump]
    refine bodyPost_ret (v := .tuple #[.agg #[.string ⟨#[]⟩, .string ⟨#[]⟩, .slice none 0 0, .slice none 0 0, .string ⟨#[]⟩], .int .i64 code]) ?_ rfl ⟨zero_exitI _ R code HR.out rfl, set5_below hb (Nat.le_refl _) _ _ _ _ _⟩
    rw [results_cell_tmp1 rfl]
    simp [asAddr, Result.andThen, req_load hk]

end Ht
end Go.Proofs.YtfnignlfelambaaGreatDoor
