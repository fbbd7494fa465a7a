/- CONTRACT of the program's attributeSetters: a map of functions. -/
import Derived.Test.YtdgfiebehnfpgaaGreatDoorCkS
import Derived.Test.YtdgfiebehnfpgaaGreatDoorCkGI
import Derived.Test.YtdgfiebehnfpgaaGreatDoorInv
import Derived.Maps.OwnSet
namespace Go.Proofs.YtdgfiebehnfpgaaGreatDoor
set_option linter.unusedVariables false
set_option maxRecDepth 4000
open Go.ChangeShapes Go.WideShapes Go.ChangeAt Go.RowKit
open Go.ChangeMaps (open_string shut_string)
open Go.Maps Go.WideMaps

namespace Ck
open Ht

/-- how a function value reads: by its number -/
def fnR (v : Value) : Option (DataW Unit × List MemPlace) := match v with
  | .func (.func F) a b => if a.size = 0 ∧ b.size = 0 then some (.lit (.int .i64 F), []) else some (.nil, [])
  | _ => some (.nil, [])

theorem fnR_inv {v : Value} {F : Nat} {ps : List MemPlace} (h : fnR v = some (.lit (.int .i64 F), ps)) : v = .func (.func F) #[] #[] := by
  unfold fnR at h
  split at h
  · rename_i F' a b
    split at h
    · rename_i hs
      simp only [Option.some.injEq, Prod.mk.injEq, DataW.lit.injEq, Lit.int.injEq, true_and] at h
      have e : F' = F := Int.ofNat.inj h.1
      rw [e, Array.eq_empty_of_size_eq_zero hs.1, Array.eq_empty_of_size_eq_zero hs.2]
    · simp at h
  · simp at h

/-- an entry put into a map of the call's own, at a step of a region that draws its order -/
theorem step_insert {P : Program} {w : World} {ops : Array Oper} {o : Oper} {a : Act} {K : Act → World → Prop} {Q : Exit → Act → World → Prop} {E : Prop} (hgd : o.guard = none) (m k x : Operand) (t : TypeId)
    (ho : o.op = .insert t m k x) (kt e : TypeId) (KK : Keyed P kt) (ht : P.underlying t = some (.map kt e)) (R : Value → Option (DataW Unit × List MemPlace)) (b n : Nat) (D : DataW Unit)
    (hm : a.eval m = .map (some b)) (hown : w.ownsMap P kt R b n D) (hn : n < maxLen) (key val : Value) (hk : a.eval k = key) (hx : a.eval x = val) (kl : Lit) (hkey : keyOf P kt key = some kl) (d : DataW Unit) (ps : List MemPlace) (hv : R val = some (d, ps))
    (h : ∀ w', w'.ownsMap P kt R b (n + 1) (D.put kl d) → w.grownBy w' (some b) → K (a.put o.dst undef) w') :
    if Region.wanted o (yielded ops a.tmps) = true then Oper.wp P o a w K Q else E := by
  have hw : Region.wanted o (yielded ops a.tmps) = true := by simp [Region.wanted, hgd]
  rw [if_pos hw]
  obtain ⟨w', hr, h2, h3⟩ := hown.update KK ht hn hkey hv
  unfold Oper.wp execOp
  simp only [ho, Sem.run_bind, Sem.run_pure, Result.andThen_ok, hm, hk, hx, hr]
  exact h w' h2 h3

theorem keyS : Keyed Tryz.prog 9 := string_keyed Tryz.underlying9

def setsD : DataW Unit := (((DataW.map []).put (.string (lowL pathT)) (.lit (.int .i64 144))).put (.string (lowL domT)) (.lit (.int .i64 145))).put (.string (lowL ageT)) (.lit (.int .i64 146))

theorem key_of (l : List UInt8) (h : l.length ≤ 1048576) : keyOf Tryz.prog 9 (.string (txt l)) = some (.string l) := by
  have := keyOf_string_mk (P := Tryz.prog) (s := txt l) Tryz.underlying9 (by rw [txt_size]; unfold maxLen; omega)
  rw [txt_toList] at this
  exact this

theorem lowerT (l : List UInt8) (w : World) (hl : l.length ≤ 1048576) :
    Calls Tryz.prog 108 #[.string (txt l)] w fun e w' => e = .returned (.string (txt (lowL l))) ∧ Below w.heap.size w w' := by
  have := lower_impl (txt l) w (by rw [txt_size]; exact hl)
  rwa [txt_toList] at this

/-- which attributes have been put into the map so far -/
def DS (b1 b2 b3 : Bool) (D : DataW Unit) : Prop := IsMap D ∧ (∀ k, k ≠ kPath → k ≠ kDom → k ≠ kAge → has D (.string k) = false) ∧
  (b1 = true → has D (.string kPath) = true ∧ ∀ z, D.atKey (.string kPath) z = .lit (.int .i64 144)) ∧ (b2 = true → has D (.string kDom) = true ∧ ∀ z, D.atKey (.string kDom) z = .lit (.int .i64 145)) ∧ (b3 = true → has D (.string kAge) = true ∧ ∀ z, D.atKey (.string kAge) z = .lit (.int .i64 146))

theorem ds_start : DS false false false (.map []) := by
  refine ⟨isMap_empty, fun k _ _ _ => rfl, ?_, ?_, ?_⟩
  all_goals (intro h; cases h)

theorem lit_key (l : List UInt8) : WideAt.IsKeyLit (.string l) := trivial

theorem lit_ne {a b : List UInt8} (h : a ≠ b) : Lit.string a ≠ Lit.string b := fun e => h (Lit.string.inj e)

theorem ds_path {b1 b2 b3 : Bool} {D : DataW Unit} (h : DS b1 b2 b3 D) : DS true b2 b3 (D.put (.string kPath) (.lit (.int .i64 144))) := by
  obtain ⟨h0, h1, h2, h3, h4⟩ := h
  refine ⟨h0.put _ _, fun k k1 k2 k3 => ?_, fun _ => ⟨has_put_same h0 (lit_key kPath) _, fun z => atKey_put_same h0 (lit_key kPath) _ z⟩, fun hb => ?_, fun hb => ?_⟩
  · rw [has_put_other (lit_ne k1)]; exact h1 k k1 k2 k3
  · rw [has_put_other (lit_ne (by decide))]
    exact ⟨(h3 hb).1, fun z => by rw [atKey_put_other (lit_ne (by decide))]; exact (h3 hb).2 z⟩
  · rw [has_put_other (lit_ne (by decide))]
    exact ⟨(h4 hb).1, fun z => by rw [atKey_put_other (lit_ne (by decide))]; exact (h4 hb).2 z⟩

theorem ds_dom {b1 b2 b3 : Bool} {D : DataW Unit} (h : DS b1 b2 b3 D) : DS b1 true b3 (D.put (.string kDom) (.lit (.int .i64 145))) := by
  obtain ⟨h0, h1, h2, h3, h4⟩ := h
  refine ⟨h0.put _ _, fun k k1 k2 k3 => ?_, fun hb => ?_, fun _ => ⟨has_put_same h0 (lit_key kDom) _, fun z => atKey_put_same h0 (lit_key kDom) _ z⟩, fun hb => ?_⟩
  · rw [has_put_other (lit_ne k2)]; exact h1 k k1 k2 k3
  · rw [has_put_other (lit_ne (by decide))]
    exact ⟨(h2 hb).1, fun z => by rw [atKey_put_other (lit_ne (by decide))]; exact (h2 hb).2 z⟩
  · rw [has_put_other (lit_ne (by decide))]
    exact ⟨(h4 hb).1, fun z => by rw [atKey_put_other (lit_ne (by decide))]; exact (h4 hb).2 z⟩

theorem ds_age {b1 b2 b3 : Bool} {D : DataW Unit} (h : DS b1 b2 b3 D) : DS b1 b2 true (D.put (.string kAge) (.lit (.int .i64 146))) := by
  obtain ⟨h0, h1, h2, h3, h4⟩ := h
  refine ⟨h0.put _ _, fun k k1 k2 k3 => ?_, fun hb => ?_, fun hb => ?_, fun _ => ⟨has_put_same h0 (lit_key kAge) _, fun z => atKey_put_same h0 (lit_key kAge) _ z⟩⟩
  · rw [has_put_other (lit_ne k3)]; exact h1 k k1 k2 k3
  · rw [has_put_other (lit_ne (by decide))]
    exact ⟨(h2 hb).1, fun z => by rw [atKey_put_other (lit_ne (by decide))]; exact (h2 hb).2 z⟩
  · rw [has_put_other (lit_ne (by decide))]
    exact ⟨(h3 hb).1, fun z => by rw [atKey_put_other (lit_ne (by decide))]; exact (h3 hb).2 z⟩

/-- what holds of the operations that have come up: b, which have; t, the slots -/
def SS (w : World) (b : Nat → Bool) (t : Nat → Value) (w' : World) : Prop := Below w.heap.size w w' ∧ (b 1 = true → t 2 = .pointer (some ⟨0, 0, none⟩)) ∧ (b 2 = true → t 3 = .string (txt pathT)) ∧ (b 3 = true → t 4 = .string (txt kPath)) ∧ (b 5 = true → t 5 = .pointer (some ⟨0, 1, none⟩)) ∧ (b 6 = true → t 6 = .string (txt domT)) ∧ (b 7 = true → t 7 = .string (txt kDom)) ∧ (b 9 = true → t 8 = .pointer (some ⟨0, 2, none⟩)) ∧ (b 10 = true → t 9 = .string (txt ageT)) ∧ (b 11 = true → t 10 = .string (txt kAge)) ∧
  (b 0 = true → ∃ B n D, t 1 = .map (some B) ∧ w.heap.size ≤ B ∧ w'.ownsMap Tryz.prog 9 fnR B n D ∧ n ≤ (b 4).toNat + (b 8).toNat + (b 12).toNat ∧ DS (b 4) (b 8) (b 12) D ∧ (b 13 = true → t 11 = .map (some B)) ∧ (b 14 = true → t 0 = .map (some B))) ∧
  (b 0 = false → b 4 = false ∧ b 8 = false ∧ b 12 = false ∧ b 13 = false ∧ b 14 = false)

def SJ (w : World) (l : Array Bool) (a : Act) (w' : World) : Prop := l.size = 15 ∧ (a.tmps.size = 12 ∧ a.defers = []) ∧ SS w (fun k => l.getD k false) (fun k => a.tmps[k]?.getD undef) w'

theorem sj_put {w w' : World} {l : Array Bool} {a : Act} {i d : Nat} {v : Value} (h : l.size = 15) (hs : a.tmps.size = 12 ∧ a.defers = []) (hi : i < 15) (hd : d < 12) (hSS : SS w (Inv.upd (fun k => l.getD k false) i true) (Inv.upd (fun k => a.tmps[k]?.getD undef) d v) w') :
    SJ w (l.setIfInBounds i true) { tmps := a.tmps.setIfInBounds d v, defers := a.defers } w' := by
  refine ⟨by simp [h], ⟨by simp [hs.1], hs.2⟩, ?_⟩
  rw [Inv.upd_bits l i (by omega), Inv.upd_slots a.tmps d v (by rw [hs.1]; exact hd)]
  exact hSS

theorem sj_keep {w w' : World} {l : Array Bool} {a : Act} {i : Nat} (h : l.size = 15) (hs : a.tmps.size = 12 ∧ a.defers = []) (hi : i < 15) (hSS : SS w (Inv.upd (fun k => l.getD k false) i true) (fun k => a.tmps[k]?.getD undef) w') :
    SJ w (l.setIfInBounds i true) a w' := by
  refine ⟨by simp [h], hs, ?_⟩
  rw [Inv.upd_bits l i (by omega)]
  exact hSS

theorem run_makeMap_nil (w : World) : (Instr.makeMap 125 none).run Tryz.prog w = .ok (.map (some w.heap.size)) (w.alloc (.map #[] 0)) := by
  simp [Instr.makeMap, go_sem, Result.andThen]

theorem low_path : lowL pathT = kPath := by decide
theorem low_dom : lowL domT = kDom := by decide
theorem low_age : lowL ageT = kAge := by decide

theorem toNat_upd (b : Bool) (h : b = false) : b.toNat = 0 := by rw [h]; rfl

theorem ss_world {w w' w'' : World} {b : Nat → Bool} {t : Nat → Value} (h : SS w b t w') (hb : Below w'.heap.size w' w'') : SS w b t w'' := by
  obtain ⟨hbel, h1, h2, h3, h5, h6, h7, h9, h10, h11, hm, hz⟩ := h
  refine ⟨bstep hbel hb, h1, h2, h3, h5, h6, h7, h9, h10, h11, fun h0 => ?_, hz⟩
  obtain ⟨B, n, D, e1, e2, e3, e4, e5, e6, e7⟩ := hm h0
  exact ⟨B, n, D, e1, e2, e3.kept (grown_below hb none) (by simp), e4, e5, e6, e7⟩

theorem results_tmp_one {fn : Func} {u : Tmp} (h : fn.results = #[.tmp u]) (tmps : Array Value) (P : Program) (w : World) : (results fn tmps).run P w = .ok (tmps.getD u undef) w := by
  simp only [results, h]
  simp [Sem.run_bind, Result.andThen]

set_option maxHeartbeats 3200000 in
theorem setters_call (w : World) (hN : Nm w) :
    Calls Tryz.prog 111 #[] w fun e w' => ∃ B n D, e = .returned (.map (some B)) ∧ w.heap.size ≤ B ∧ w'.ownsMap Tryz.prog 9 fnR B n D ∧ DS true true true D ∧ Below w.heap.size w w' := by
  have HN := Lib.hid hN
  clear hN
  go_enter Tryz.func111, Tryz.ntmps111
  go_wp2
  refine Inv.region_inv (by kernel_rfl) (SJ w) (fun l a w' h => h.1) (by kernel_rfl) ?_ ?_ ?_
  · refine ⟨by simp, ⟨by simp, rfl⟩, ?_⟩
    refine ⟨(Below.refl _ w).drew, ?_⟩
    simp
  · intro l a w' hJ i hi0 hl ha0
    have hi : i < 15 := hi0
    clear hi0
    obtain ⟨hls, has, hSS⟩ := hJ
    have HLS := Lib.hid hls
    have HAS := Lib.hid has
    have hlf : l.getD i false = false := by
      have : i < l.size := by omega
      simpa [Array.getD, this] using hl
    clear hl hls has
    match i, hi, hlf, ha0 with
    | 0, _, hl, ha0 =>
      have ha := ha0 _ rfl
      clear ha0
      have SP := fun {d : Nat} {v : Value} {w'' : World} (hd : d < 12) h => sj_put (w := w) (w' := w'') (l := l) (a := a) (i := 0) (d := d) (v := v) HLS.out HAS.out (by omega) hd h
      have SK := fun {w'' : World} h => sj_keep (w := w) (w' := w'') (l := l) (a := a) (i := 0) HLS.out HAS.out (by omega) h
      obtain ⟨b, hb⟩ : ∃ b : Nat → Bool, b = fun k => l.getD k false := ⟨_, rfl⟩
      obtain ⟨t, ht⟩ : ∃ t : Nat → Value, t = fun k => a.tmps[k]?.getD undef := ⟨_, rfl⟩
      have hbk : ∀ k, l.getD k false = b k := fun k => by rw [hb]
      have HTK := Lib.hid (show ∀ k, a.tmps[k]?.getD undef = t k from fun k => by rw [ht])
      rw [← hb, ← ht] at hSS SP
      rw [← hb, ← ht] at SK
      simp only [hbk] at ha hl
      clear hb ht hbk
      refine Inv.wpOp_at rfl rfl ?_
      have HSS := Lib.hid hSS
      obtain ⟨hbel, h1, h2, h3, h5, h6, h7, h9, h10, h11, hm, hz⟩ := hSS
      simp [Region.binds] at ha
      have hmk := run_makeMap_nil w'
      clear h1 h2 h3 h5 h6 h7 h9 h10 h11 hm hz hbel
      go_simp
      refine SP (by omega) ?_
      obtain ⟨hbel, h1, h2, h3, h5, h6, h7, h9, h10, h11, hm, hz⟩ := HSS.out
      obtain ⟨z4, z8, z12, z13, z14⟩ := hz hl
      refine ⟨hbel.alloc hbel.size _, h1, h2, h3, h5, h6, h7, h9, h10, h11, fun _ => ⟨w'.heap.size, 0, .map [], rfl, hbel.size, World.ownsMap_made _ _ _ _, Nat.zero_le _, ?_, ?_, ?_⟩, fun h => by cases h⟩
      · show DS (b 4) (b 8) (b 12) _
        rw [z4, z8, z12]
        exact ds_start
      · intro h
        have h' : b 13 = true := h
        rw [z13] at h'
        cases h'
      · intro h
        have h' : b 14 = true := h
        rw [z14] at h'
        cases h'
    | 1, _, hl, ha0 =>
      have ha := ha0 _ rfl
      clear ha0
      have SP := fun {d : Nat} {v : Value} {w'' : World} (hd : d < 12) h => sj_put (w := w) (w' := w'') (l := l) (a := a) (i := 1) (d := d) (v := v) HLS.out HAS.out (by omega) hd h
      have SK := fun {w'' : World} h => sj_keep (w := w) (w' := w'') (l := l) (a := a) (i := 1) HLS.out HAS.out (by omega) h
      obtain ⟨b, hb⟩ : ∃ b : Nat → Bool, b = fun k => l.getD k false := ⟨_, rfl⟩
      obtain ⟨t, ht⟩ : ∃ t : Nat → Value, t = fun k => a.tmps[k]?.getD undef := ⟨_, rfl⟩
      have hbk : ∀ k, l.getD k false = b k := fun k => by rw [hb]
      have HTK := Lib.hid (show ∀ k, a.tmps[k]?.getD undef = t k from fun k => by rw [ht])
      rw [← hb, ← ht] at hSS SP
      rw [← hb, ← ht] at SK
      simp only [hbk] at ha hl
      clear hb ht hbk
      refine Inv.wpOp_at rfl rfl ?_
      have HSS := Lib.hid hSS
      obtain ⟨hbel, h1, h2, h3, h5, h6, h7, h9, h10, h11, hm, hz⟩ := hSS
      simp [Region.binds] at ha
      clear h1 h2 h3 h5 h6 h7 h9 h10 h11 hm hz hbel
      go_simp
      refine SP (by omega) ?_
      obtain ⟨hbel, h1, h2, h3, h5, h6, h7, h9, h10, h11, hm, hz⟩ := HSS.out
      exact ⟨hbel, fun _ => rfl, h2, h3, h5, h6, h7, h9, h10, h11, hm, hz⟩
    | 2, _, hl, ha0 =>
      have ha := ha0 _ rfl
      clear ha0
      have SP := fun {d : Nat} {v : Value} {w'' : World} (hd : d < 12) h => sj_put (w := w) (w' := w'') (l := l) (a := a) (i := 2) (d := d) (v := v) HLS.out HAS.out (by omega) hd h
      have SK := fun {w'' : World} h => sj_keep (w := w) (w' := w'') (l := l) (a := a) (i := 2) HLS.out HAS.out (by omega) h
      obtain ⟨b, hb⟩ : ∃ b : Nat → Bool, b = fun k => l.getD k false := ⟨_, rfl⟩
      obtain ⟨t, ht⟩ : ∃ t : Nat → Value, t = fun k => a.tmps[k]?.getD undef := ⟨_, rfl⟩
      have hbk : ∀ k, l.getD k false = b k := fun k => by rw [hb]
      have HTK := Lib.hid (show ∀ k, a.tmps[k]?.getD undef = t k from fun k => by rw [ht])
      rw [← hb, ← ht] at hSS SP
      rw [← hb, ← ht] at SK
      simp only [hbk] at ha hl
      clear hb ht hbk
      refine Inv.wpOp_at rfl rfl ?_
      have HSS := Lib.hid hSS
      obtain ⟨hbel, h1, h2, h3, h5, h6, h7, h9, h10, h11, hm, hz⟩ := hSS
      simp [Region.binds] at ha
      have f := (HTK.out 2).trans (h1 ha)
      have hc := (nm_below HN.out hbel).2.1
      clear h1 h2 h3 h5 h6 h7 h9 h10 h11 hm hz hbel
      go_simp
      refine SP (by omega) ?_
      obtain ⟨hbel, h1, h2, h3, h5, h6, h7, h9, h10, h11, hm, hz⟩ := HSS.out
      exact ⟨hbel, h1, fun _ => rfl, h3, h5, h6, h7, h9, h10, h11, hm, hz⟩
    | 3, _, hl, ha0 =>
      have ha := ha0 _ rfl
      clear ha0
      have SP := fun {d : Nat} {v : Value} {w'' : World} (hd : d < 12) h => sj_put (w := w) (w' := w'') (l := l) (a := a) (i := 3) (d := d) (v := v) HLS.out HAS.out (by omega) hd h
      have SK := fun {w'' : World} h => sj_keep (w := w) (w' := w'') (l := l) (a := a) (i := 3) HLS.out HAS.out (by omega) h
      obtain ⟨b, hb⟩ : ∃ b : Nat → Bool, b = fun k => l.getD k false := ⟨_, rfl⟩
      obtain ⟨t, ht⟩ : ∃ t : Nat → Value, t = fun k => a.tmps[k]?.getD undef := ⟨_, rfl⟩
      have hbk : ∀ k, l.getD k false = b k := fun k => by rw [hb]
      have HTK := Lib.hid (show ∀ k, a.tmps[k]?.getD undef = t k from fun k => by rw [ht])
      rw [← hb, ← ht] at hSS SP
      rw [← hb, ← ht] at SK
      simp only [hbk] at ha hl
      clear hb ht hbk
      refine Inv.wpOp_at rfl rfl ?_
      have HSS := Lib.hid hSS
      obtain ⟨hbel, h1, h2, h3, h5, h6, h7, h9, h10, h11, hm, hz⟩ := hSS
      simp [Region.binds] at ha
      have f := (HTK.out 3).trans (h2 ha)
      clear h1 h2 h3 h5 h6 h7 h9 h10 h11 hm hz hbel
      go_simp
      refine (lowerT pathT w' (by decide)).mono ?_
      rintro e w1 ⟨rfl, hb1⟩
      rw [low_path]
      refine SP (by omega) ?_
      obtain ⟨hbel, h1, h2, h3, h5, h6, h7, h9, h10, h11, hm, hz⟩ := ss_world HSS.out hb1
      exact ⟨hbel, h1, h2, fun _ => rfl, h5, h6, h7, h9, h10, h11, hm, hz⟩
    | 4, _, hl, ha0 =>
      have ha := ha0 _ rfl
      clear ha0
      have SP := fun {d : Nat} {v : Value} {w'' : World} (hd : d < 12) h => sj_put (w := w) (w' := w'') (l := l) (a := a) (i := 4) (d := d) (v := v) HLS.out HAS.out (by omega) hd h
      have SK := fun {w'' : World} h => sj_keep (w := w) (w' := w'') (l := l) (a := a) (i := 4) HLS.out HAS.out (by omega) h
      obtain ⟨b, hb⟩ : ∃ b : Nat → Bool, b = fun k => l.getD k false := ⟨_, rfl⟩
      obtain ⟨t, ht⟩ : ∃ t : Nat → Value, t = fun k => a.tmps[k]?.getD undef := ⟨_, rfl⟩
      have hbk : ∀ k, l.getD k false = b k := fun k => by rw [hb]
      have HTK := Lib.hid (show ∀ k, a.tmps[k]?.getD undef = t k from fun k => by rw [ht])
      rw [← hb, ← ht] at hSS SP
      rw [← hb, ← ht] at SK
      simp only [hbk] at ha hl
      clear hb ht hbk
      refine Inv.wpOp_at rfl rfl ?_
      have HSS := Lib.hid hSS
      obtain ⟨hbel, h1, h2, h3, h5, h6, h7, h9, h10, h11, hm, hz⟩ := hSS
      simp [Region.binds] at ha
      obtain ⟨B, n, D, e1, e2, e3, e4, e5, e6, e7⟩ := hm ha.1
      have f := (HTK.out 4).trans (h3 ha.2)
      have f1 := (HTK.out 1).trans e1
      have b4 : (b 4).toNat ≤ 1 := Bool.toNat_le _
      have b8 : (b 8).toNat ≤ 1 := Bool.toNat_le _
      have b12 : (b 12).toNat ≤ 1 := Bool.toNat_le _
      obtain ⟨w5, r5, o5, g5⟩ := e3.update keyS Tryz.underlying125 (by unfold maxLen; omega) (key_of kPath (by decide)) (show fnR (.func (.func 144) #[] #[]) = some (.lit (.int .i64 144), []) from rfl)
      have hb5 := hbel.grown g5 hbel.size (fun j e => by cases e; exact e2)
      have E4 := Lib.hid e4
      have E5 := Lib.hid e5
      have HB := Lib.hid (show n + 1 ≤ (Inv.upd b 4 true 4).toNat + (Inv.upd b 4 true 8).toNat + (Inv.upd b 4 true 12).toNat by
        have hu : ∀ q, q ≠ 4 → Inv.upd b 4 true q = b q := fun q hq => by unfold Inv.upd; rw [if_neg hq]
        have hs : Inv.upd b 4 true 4 = true := by unfold Inv.upd; rw [if_pos rfl]
        have hl' : (b 4).toNat = 0 := by rw [hl]; rfl
        rw [hs, hu 8 (by decide), hu 12 (by decide)]
        show n + 1 ≤ _
        simp only [Bool.toNat_true]
        omega)
      clear h1 h2 h3 h5 h6 h7 h9 h10 h11 hm hz hbel e4 e5 b4 b8 b12
      go_simp
      refine SK ?_
      obtain ⟨hbel, h1, h2, h3, h5, h6, h7, h9, h10, h11, hm, hz⟩ := HSS.out
      exact ⟨hb5, h1, h2, h3, h5, h6, h7, h9, h10, h11, fun _ => ⟨B, n + 1, _, e1, e2, o5, HB.out, ds_path E5.out, e6, e7⟩, fun h => by have h' : b 0 = false := h; rw [ha.1] at h'; cases h'⟩
    | 5, _, hl, ha0 =>
      have ha := ha0 _ rfl
      clear ha0
      have SP := fun {d : Nat} {v : Value} {w'' : World} (hd : d < 12) h => sj_put (w := w) (w' := w'') (l := l) (a := a) (i := 5) (d := d) (v := v) HLS.out HAS.out (by omega) hd h
      have SK := fun {w'' : World} h => sj_keep (w := w) (w' := w'') (l := l) (a := a) (i := 5) HLS.out HAS.out (by omega) h
      obtain ⟨b, hb⟩ : ∃ b : Nat → Bool, b = fun k => l.getD k false := ⟨_, rfl⟩
      obtain ⟨t, ht⟩ : ∃ t : Nat → Value, t = fun k => a.tmps[k]?.getD undef := ⟨_, rfl⟩
      have hbk : ∀ k, l.getD k false = b k := fun k => by rw [hb]
      have HTK := Lib.hid (show ∀ k, a.tmps[k]?.getD undef = t k from fun k => by rw [ht])
      rw [← hb, ← ht] at hSS SP
      rw [← hb, ← ht] at SK
      simp only [hbk] at ha hl
      clear hb ht hbk
      refine Inv.wpOp_at rfl rfl ?_
      have HSS := Lib.hid hSS
      obtain ⟨hbel, h1, h2, h3, h5, h6, h7, h9, h10, h11, hm, hz⟩ := hSS
      simp [Region.binds] at ha
      clear h1 h2 h3 h5 h6 h7 h9 h10 h11 hm hz hbel
      go_simp
      refine SP (by omega) ?_
      obtain ⟨hbel, h1, h2, h3, h5, h6, h7, h9, h10, h11, hm, hz⟩ := HSS.out
      exact ⟨hbel, h1, h2, h3, fun _ => rfl, h6, h7, h9, h10, h11, hm, hz⟩
    | 6, _, hl, ha0 =>
      have ha := ha0 _ rfl
      clear ha0
      have SP := fun {d : Nat} {v : Value} {w'' : World} (hd : d < 12) h => sj_put (w := w) (w' := w'') (l := l) (a := a) (i := 6) (d := d) (v := v) HLS.out HAS.out (by omega) hd h
      have SK := fun {w'' : World} h => sj_keep (w := w) (w' := w'') (l := l) (a := a) (i := 6) HLS.out HAS.out (by omega) h
      obtain ⟨b, hb⟩ : ∃ b : Nat → Bool, b = fun k => l.getD k false := ⟨_, rfl⟩
      obtain ⟨t, ht⟩ : ∃ t : Nat → Value, t = fun k => a.tmps[k]?.getD undef := ⟨_, rfl⟩
      have hbk : ∀ k, l.getD k false = b k := fun k => by rw [hb]
      have HTK := Lib.hid (show ∀ k, a.tmps[k]?.getD undef = t k from fun k => by rw [ht])
      rw [← hb, ← ht] at hSS SP
      rw [← hb, ← ht] at SK
      simp only [hbk] at ha hl
      clear hb ht hbk
      refine Inv.wpOp_at rfl rfl ?_
      have HSS := Lib.hid hSS
      obtain ⟨hbel, h1, h2, h3, h5, h6, h7, h9, h10, h11, hm, hz⟩ := hSS
      simp [Region.binds] at ha
      have f := (HTK.out 5).trans (h5 ha)
      have hc := (nm_below HN.out hbel).2.2.1
      clear h1 h2 h3 h5 h6 h7 h9 h10 h11 hm hz hbel
      go_simp
      refine SP (by omega) ?_
      obtain ⟨hbel, h1, h2, h3, h5, h6, h7, h9, h10, h11, hm, hz⟩ := HSS.out
      exact ⟨hbel, h1, h2, h3, h5, fun _ => rfl, h7, h9, h10, h11, hm, hz⟩
    | 7, _, hl, ha0 =>
      have ha := ha0 _ rfl
      clear ha0
      have SP := fun {d : Nat} {v : Value} {w'' : World} (hd : d < 12) h => sj_put (w := w) (w' := w'') (l := l) (a := a) (i := 7) (d := d) (v := v) HLS.out HAS.out (by omega) hd h
      have SK := fun {w'' : World} h => sj_keep (w := w) (w' := w'') (l := l) (a := a) (i := 7) HLS.out HAS.out (by omega) h
      obtain ⟨b, hb⟩ : ∃ b : Nat → Bool, b = fun k => l.getD k false := ⟨_, rfl⟩
      obtain ⟨t, ht⟩ : ∃ t : Nat → Value, t = fun k => a.tmps[k]?.getD undef := ⟨_, rfl⟩
      have hbk : ∀ k, l.getD k false = b k := fun k => by rw [hb]
      have HTK := Lib.hid (show ∀ k, a.tmps[k]?.getD undef = t k from fun k => by rw [ht])
      rw [← hb, ← ht] at hSS SP
      rw [← hb, ← ht] at SK
      simp only [hbk] at ha hl
      clear hb ht hbk
      refine Inv.wpOp_at rfl rfl ?_
      have HSS := Lib.hid hSS
      obtain ⟨hbel, h1, h2, h3, h5, h6, h7, h9, h10, h11, hm, hz⟩ := hSS
      simp [Region.binds] at ha
      have f := (HTK.out 6).trans (h6 ha.1)
      clear h1 h2 h3 h5 h6 h7 h9 h10 h11 hm hz hbel
      go_simp
      refine (lowerT domT w' (by decide)).mono ?_
      rintro e w1 ⟨rfl, hb1⟩
      rw [low_dom]
      refine SP (by omega) ?_
      obtain ⟨hbel, h1, h2, h3, h5, h6, h7, h9, h10, h11, hm, hz⟩ := ss_world HSS.out hb1
      exact ⟨hbel, h1, h2, h3, h5, h6, fun _ => rfl, h9, h10, h11, hm, hz⟩
    | 8, _, hl, ha0 =>
      have ha := ha0 _ rfl
      clear ha0
      have SP := fun {d : Nat} {v : Value} {w'' : World} (hd : d < 12) h => sj_put (w := w) (w' := w'') (l := l) (a := a) (i := 8) (d := d) (v := v) HLS.out HAS.out (by omega) hd h
      have SK := fun {w'' : World} h => sj_keep (w := w) (w' := w'') (l := l) (a := a) (i := 8) HLS.out HAS.out (by omega) h
      obtain ⟨b, hb⟩ : ∃ b : Nat → Bool, b = fun k => l.getD k false := ⟨_, rfl⟩
      obtain ⟨t, ht⟩ : ∃ t : Nat → Value, t = fun k => a.tmps[k]?.getD undef := ⟨_, rfl⟩
      have hbk : ∀ k, l.getD k false = b k := fun k => by rw [hb]
      have HTK := Lib.hid (show ∀ k, a.tmps[k]?.getD undef = t k from fun k => by rw [ht])
      rw [← hb, ← ht] at hSS SP
      rw [← hb, ← ht] at SK
      simp only [hbk] at ha hl
      clear hb ht hbk
      refine Inv.wpOp_at rfl rfl ?_
      have HSS := Lib.hid hSS
      obtain ⟨hbel, h1, h2, h3, h5, h6, h7, h9, h10, h11, hm, hz⟩ := hSS
      simp [Region.binds] at ha
      obtain ⟨B, n, D, e1, e2, e3, e4, e5, e6, e7⟩ := hm ha.1
      have f := (HTK.out 7).trans (h7 ha.2)
      have f1 := (HTK.out 1).trans e1
      have b4 : (b 4).toNat ≤ 1 := Bool.toNat_le _
      have b8 : (b 8).toNat ≤ 1 := Bool.toNat_le _
      have b12 : (b 12).toNat ≤ 1 := Bool.toNat_le _
      obtain ⟨w5, r5, o5, g5⟩ := e3.update keyS Tryz.underlying125 (by unfold maxLen; omega) (key_of kDom (by decide)) (show fnR (.func (.func 145) #[] #[]) = some (.lit (.int .i64 145), []) from rfl)
      have hb5 := hbel.grown g5 hbel.size (fun j e => by cases e; exact e2)
      have E4 := Lib.hid e4
      have E5 := Lib.hid e5
      have HB := Lib.hid (show n + 1 ≤ (Inv.upd b 8 true 4).toNat + (Inv.upd b 8 true 8).toNat + (Inv.upd b 8 true 12).toNat by
        have hu : ∀ q, q ≠ 8 → Inv.upd b 8 true q = b q := fun q hq => by unfold Inv.upd; rw [if_neg hq]
        have hs : Inv.upd b 8 true 8 = true := by unfold Inv.upd; rw [if_pos rfl]
        have hl' : (b 8).toNat = 0 := by rw [hl]; rfl
        rw [hs, hu 4 (by decide), hu 12 (by decide)]
        show n + 1 ≤ _
        simp only [Bool.toNat_true]
        omega)
      clear h1 h2 h3 h5 h6 h7 h9 h10 h11 hm hz hbel e4 e5 b4 b8 b12
      go_simp
      refine SK ?_
      obtain ⟨hbel, h1, h2, h3, h5, h6, h7, h9, h10, h11, hm, hz⟩ := HSS.out
      exact ⟨hb5, h1, h2, h3, h5, h6, h7, h9, h10, h11, fun _ => ⟨B, n + 1, _, e1, e2, o5, HB.out, ds_dom E5.out, e6, e7⟩, fun h => by have h' : b 0 = false := h; rw [ha.1] at h'; cases h'⟩
    | 9, _, hl, ha0 =>
      have ha := ha0 _ rfl
      clear ha0
      have SP := fun {d : Nat} {v : Value} {w'' : World} (hd : d < 12) h => sj_put (w := w) (w' := w'') (l := l) (a := a) (i := 9) (d := d) (v := v) HLS.out HAS.out (by omega) hd h
      have SK := fun {w'' : World} h => sj_keep (w := w) (w' := w'') (l := l) (a := a) (i := 9) HLS.out HAS.out (by omega) h
      obtain ⟨b, hb⟩ : ∃ b : Nat → Bool, b = fun k => l.getD k false := ⟨_, rfl⟩
      obtain ⟨t, ht⟩ : ∃ t : Nat → Value, t = fun k => a.tmps[k]?.getD undef := ⟨_, rfl⟩
      have hbk : ∀ k, l.getD k false = b k := fun k => by rw [hb]
      have HTK := Lib.hid (show ∀ k, a.tmps[k]?.getD undef = t k from fun k => by rw [ht])
      rw [← hb, ← ht] at hSS SP
      rw [← hb, ← ht] at SK
      simp only [hbk] at ha hl
      clear hb ht hbk
      refine Inv.wpOp_at rfl rfl ?_
      have HSS := Lib.hid hSS
      obtain ⟨hbel, h1, h2, h3, h5, h6, h7, h9, h10, h11, hm, hz⟩ := hSS
      simp [Region.binds] at ha
      clear h1 h2 h3 h5 h6 h7 h9 h10 h11 hm hz hbel
      go_simp
      refine SP (by omega) ?_
      obtain ⟨hbel, h1, h2, h3, h5, h6, h7, h9, h10, h11, hm, hz⟩ := HSS.out
      exact ⟨hbel, h1, h2, h3, h5, h6, h7, fun _ => rfl, h10, h11, hm, hz⟩
    | 10, _, hl, ha0 =>
      have ha := ha0 _ rfl
      clear ha0
      have SP := fun {d : Nat} {v : Value} {w'' : World} (hd : d < 12) h => sj_put (w := w) (w' := w'') (l := l) (a := a) (i := 10) (d := d) (v := v) HLS.out HAS.out (by omega) hd h
      have SK := fun {w'' : World} h => sj_keep (w := w) (w' := w'') (l := l) (a := a) (i := 10) HLS.out HAS.out (by omega) h
      obtain ⟨b, hb⟩ : ∃ b : Nat → Bool, b = fun k => l.getD k false := ⟨_, rfl⟩
      obtain ⟨t, ht⟩ : ∃ t : Nat → Value, t = fun k => a.tmps[k]?.getD undef := ⟨_, rfl⟩
      have hbk : ∀ k, l.getD k false = b k := fun k => by rw [hb]
      have HTK := Lib.hid (show ∀ k, a.tmps[k]?.getD undef = t k from fun k => by rw [ht])
      rw [← hb, ← ht] at hSS SP
      rw [← hb, ← ht] at SK
      simp only [hbk] at ha hl
      clear hb ht hbk
      refine Inv.wpOp_at rfl rfl ?_
      have HSS := Lib.hid hSS
      obtain ⟨hbel, h1, h2, h3, h5, h6, h7, h9, h10, h11, hm, hz⟩ := hSS
      simp [Region.binds] at ha
      have f := (HTK.out 8).trans (h9 ha)
      have hc := (nm_below HN.out hbel).2.2.2
      clear h1 h2 h3 h5 h6 h7 h9 h10 h11 hm hz hbel
      go_simp
      refine SP (by omega) ?_
      obtain ⟨hbel, h1, h2, h3, h5, h6, h7, h9, h10, h11, hm, hz⟩ := HSS.out
      exact ⟨hbel, h1, h2, h3, h5, h6, h7, h9, fun _ => rfl, h11, hm, hz⟩
    | 11, _, hl, ha0 =>
      have ha := ha0 _ rfl
      clear ha0
      have SP := fun {d : Nat} {v : Value} {w'' : World} (hd : d < 12) h => sj_put (w := w) (w' := w'') (l := l) (a := a) (i := 11) (d := d) (v := v) HLS.out HAS.out (by omega) hd h
      have SK := fun {w'' : World} h => sj_keep (w := w) (w' := w'') (l := l) (a := a) (i := 11) HLS.out HAS.out (by omega) h
      obtain ⟨b, hb⟩ : ∃ b : Nat → Bool, b = fun k => l.getD k false := ⟨_, rfl⟩
      obtain ⟨t, ht⟩ : ∃ t : Nat → Value, t = fun k => a.tmps[k]?.getD undef := ⟨_, rfl⟩
      have hbk : ∀ k, l.getD k false = b k := fun k => by rw [hb]
      have HTK := Lib.hid (show ∀ k, a.tmps[k]?.getD undef = t k from fun k => by rw [ht])
      rw [← hb, ← ht] at hSS SP
      rw [← hb, ← ht] at SK
      simp only [hbk] at ha hl
      clear hb ht hbk
      refine Inv.wpOp_at rfl rfl ?_
      have HSS := Lib.hid hSS
      obtain ⟨hbel, h1, h2, h3, h5, h6, h7, h9, h10, h11, hm, hz⟩ := hSS
      simp [Region.binds] at ha
      have f := (HTK.out 9).trans (h10 ha.1)
      clear h1 h2 h3 h5 h6 h7 h9 h10 h11 hm hz hbel
      go_simp
      refine (lowerT ageT w' (by decide)).mono ?_
      rintro e w1 ⟨rfl, hb1⟩
      rw [low_age]
      refine SP (by omega) ?_
      obtain ⟨hbel, h1, h2, h3, h5, h6, h7, h9, h10, h11, hm, hz⟩ := ss_world HSS.out hb1
      exact ⟨hbel, h1, h2, h3, h5, h6, h7, h9, h10, fun _ => rfl, hm, hz⟩
    | 12, _, hl, ha0 =>
      have ha := ha0 _ rfl
      clear ha0
      have SP := fun {d : Nat} {v : Value} {w'' : World} (hd : d < 12) h => sj_put (w := w) (w' := w'') (l := l) (a := a) (i := 12) (d := d) (v := v) HLS.out HAS.out (by omega) hd h
      have SK := fun {w'' : World} h => sj_keep (w := w) (w' := w'') (l := l) (a := a) (i := 12) HLS.out HAS.out (by omega) h
      obtain ⟨b, hb⟩ : ∃ b : Nat → Bool, b = fun k => l.getD k false := ⟨_, rfl⟩
      obtain ⟨t, ht⟩ : ∃ t : Nat → Value, t = fun k => a.tmps[k]?.getD undef := ⟨_, rfl⟩
      have hbk : ∀ k, l.getD k false = b k := fun k => by rw [hb]
      have HTK := Lib.hid (show ∀ k, a.tmps[k]?.getD undef = t k from fun k => by rw [ht])
      rw [← hb, ← ht] at hSS SP
      rw [← hb, ← ht] at SK
      simp only [hbk] at ha hl
      clear hb ht hbk
      refine Inv.wpOp_at rfl rfl ?_
      have HSS := Lib.hid hSS
      obtain ⟨hbel, h1, h2, h3, h5, h6, h7, h9, h10, h11, hm, hz⟩ := hSS
      simp [Region.binds] at ha
      obtain ⟨B, n, D, e1, e2, e3, e4, e5, e6, e7⟩ := hm ha.1
      have f := (HTK.out 10).trans (h11 ha.2)
      have f1 := (HTK.out 1).trans e1
      have b4 : (b 4).toNat ≤ 1 := Bool.toNat_le _
      have b8 : (b 8).toNat ≤ 1 := Bool.toNat_le _
      have b12 : (b 12).toNat ≤ 1 := Bool.toNat_le _
      obtain ⟨w5, r5, o5, g5⟩ := e3.update keyS Tryz.underlying125 (by unfold maxLen; omega) (key_of kAge (by decide)) (show fnR (.func (.func 146) #[] #[]) = some (.lit (.int .i64 146), []) from rfl)
      have hb5 := hbel.grown g5 hbel.size (fun j e => by cases e; exact e2)
      have E4 := Lib.hid e4
      have E5 := Lib.hid e5
      have HB := Lib.hid (show n + 1 ≤ (Inv.upd b 12 true 4).toNat + (Inv.upd b 12 true 8).toNat + (Inv.upd b 12 true 12).toNat by
        have hu : ∀ q, q ≠ 12 → Inv.upd b 12 true q = b q := fun q hq => by unfold Inv.upd; rw [if_neg hq]
        have hs : Inv.upd b 12 true 12 = true := by unfold Inv.upd; rw [if_pos rfl]
        have hl' : (b 12).toNat = 0 := by rw [hl]; rfl
        rw [hs, hu 4 (by decide), hu 8 (by decide)]
        show n + 1 ≤ _
        simp only [Bool.toNat_true]
        omega)
      clear h1 h2 h3 h5 h6 h7 h9 h10 h11 hm hz hbel e4 e5 b4 b8 b12
      go_simp
      refine SK ?_
      obtain ⟨hbel, h1, h2, h3, h5, h6, h7, h9, h10, h11, hm, hz⟩ := HSS.out
      exact ⟨hb5, h1, h2, h3, h5, h6, h7, h9, h10, h11, fun _ => ⟨B, n + 1, _, e1, e2, o5, HB.out, ds_age E5.out, e6, e7⟩, fun h => by have h' : b 0 = false := h; rw [ha.1] at h'; cases h'⟩
    | 13, _, hl, ha0 =>
      have ha := ha0 _ rfl
      clear ha0
      have SP := fun {d : Nat} {v : Value} {w'' : World} (hd : d < 12) h => sj_put (w := w) (w' := w'') (l := l) (a := a) (i := 13) (d := d) (v := v) HLS.out HAS.out (by omega) hd h
      have SK := fun {w'' : World} h => sj_keep (w := w) (w' := w'') (l := l) (a := a) (i := 13) HLS.out HAS.out (by omega) h
      obtain ⟨b, hb⟩ : ∃ b : Nat → Bool, b = fun k => l.getD k false := ⟨_, rfl⟩
      obtain ⟨t, ht⟩ : ∃ t : Nat → Value, t = fun k => a.tmps[k]?.getD undef := ⟨_, rfl⟩
      have hbk : ∀ k, l.getD k false = b k := fun k => by rw [hb]
      have HTK := Lib.hid (show ∀ k, a.tmps[k]?.getD undef = t k from fun k => by rw [ht])
      rw [← hb, ← ht] at hSS SP
      rw [← hb, ← ht] at SK
      simp only [hbk] at ha hl
      clear hb ht hbk
      refine Inv.wpOp_at rfl rfl ?_
      have HSS := Lib.hid hSS
      obtain ⟨hbel, h1, h2, h3, h5, h6, h7, h9, h10, h11, hm, hz⟩ := hSS
      simp [Region.binds] at ha
      have hb0 : b 0 = true := by simp_all
      have f := HTK.out 1
      clear h1 h2 h3 h5 h6 h7 h9 h10 h11 hm hz hbel ha
      go_simp
      refine SP (by omega) ?_
      obtain ⟨hbel, h1, h2, h3, h5, h6, h7, h9, h10, h11, hm, hz⟩ := HSS.out
      refine ⟨hbel, h1, h2, h3, h5, h6, h7, h9, h10, h11, fun _ => ?_, fun h => by have h' : b 0 = false := h; rw [hb0] at h'; cases h'⟩
      obtain ⟨B, n, D, e1, e2, e3, e4, e5, e6, e7⟩ := hm hb0
      exact ⟨B, n, D, e1, e2, e3, e4, e5, fun _ => e1, e7⟩
    | 14, _, hl, ha0 =>
      have ha := ha0 _ rfl
      clear ha0
      have SP := fun {d : Nat} {v : Value} {w'' : World} (hd : d < 12) h => sj_put (w := w) (w' := w'') (l := l) (a := a) (i := 14) (d := d) (v := v) HLS.out HAS.out (by omega) hd h
      have SK := fun {w'' : World} h => sj_keep (w := w) (w' := w'') (l := l) (a := a) (i := 14) HLS.out HAS.out (by omega) h
      obtain ⟨b, hb⟩ : ∃ b : Nat → Bool, b = fun k => l.getD k false := ⟨_, rfl⟩
      obtain ⟨t, ht⟩ : ∃ t : Nat → Value, t = fun k => a.tmps[k]?.getD undef := ⟨_, rfl⟩
      have hbk : ∀ k, l.getD k false = b k := fun k => by rw [hb]
      have HTK := Lib.hid (show ∀ k, a.tmps[k]?.getD undef = t k from fun k => by rw [ht])
      rw [← hb, ← ht] at hSS SP
      rw [← hb, ← ht] at SK
      simp only [hbk] at ha hl
      clear hb ht hbk
      refine Inv.wpOp_at rfl rfl ?_
      have HSS := Lib.hid hSS
      obtain ⟨hbel, h1, h2, h3, h5, h6, h7, h9, h10, h11, hm, hz⟩ := hSS
      simp [Region.binds] at ha
      have hb0 : b 0 = true ∧ b 13 = true := by simp_all
      have f := HTK.out 11
      clear h1 h2 h3 h5 h6 h7 h9 h10 h11 hm hz hbel ha
      go_simp
      refine SP (by omega) ?_
      obtain ⟨hbel, h1, h2, h3, h5, h6, h7, h9, h10, h11, hm, hz⟩ := HSS.out
      refine ⟨hbel, h1, h2, h3, h5, h6, h7, h9, h10, h11, fun _ => ?_, fun h => by have h' : b 0 = false := h; rw [hb0.1] at h'; cases h'⟩
      obtain ⟨B, n, D, e1, e2, e3, e4, e5, e6, e7⟩ := hm hb0.1
      exact ⟨B, n, D, e1, e2, e3, e4, e5, e6, fun _ => e6 hb0.2⟩
  · intro l a w' hJ hall
    rename_i hK
    obtain ⟨hls, has, hbel, h1, h2, h3, h5, h6, h7, h9, h10, h11, hm, hz⟩ := hJ
    have hb : ∀ k, k < 15 → l.getD k false = true := fun k hk => by
      have h1 := hall k hk
      have : k < l.size := by omega
      simpa [Array.getD, this] using h1
    clear h1 h2 h3 h5 h6 h7 h9 h10 h11 hz hall
    obtain ⟨B, n, D, e1, e2, e3, e4, e5, e6, e7⟩ := hm (hb 0 (by omega))
    have e8 := e7 (hb 14 (by omega))
    have e9 : DS true true true D := by
      have := e5
      simp only [hb 4 (by omega), hb 8 (by omega), hb 12 (by omega)] at this
      exact this
    clear hm e1 e4 e5 e6 e7 hb
    refine hK _ _ ?_
    have e8' : a.tmps.getD 0 undef = .map (some B) := by
      rw [Array.getD_eq_getD_getElem?]
      exact e8
    refine Go.wp_ret ?_
    refine bodyPost_ret (v := .map (some B)) ?_ has.2 ?_
    · rw [results_tmp_one rfl, e8']
    · exact ⟨B, n, D, rfl, e2, e3, e9, hbel⟩

end Ck
end Go.Proofs.YtdgfiebehnfpgaaGreatDoor
