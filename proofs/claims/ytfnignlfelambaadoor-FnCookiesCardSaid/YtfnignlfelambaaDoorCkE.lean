/- CONTRACTS of DrawPutCookies and DrawGetCookies. -/
import Derived.Test.YtfnignlfelambaaDoorCkD
import Derived.Test.YtfnignlfelambaaDoorCkC
import Derived.Test.YtfnignlfelambaaDoorCkU
import Derived.Test.YtfnignlfelambaaDoorStep
namespace Go.Proofs.YtfnignlfelambaaDoor
set_option linter.unusedVariables false
set_option maxRecDepth 4000
open Go.ChangeShapes Go.WideShapes Go.ChangeAt Go.RowKit
open Go.ChangeMaps (open_string shut_string)

namespace Ck
open Ht

theorem ckKeys_ok : ∀ x ∈ ckKeys, x.length ≤ 3 ∧ nmL x = true := by decide

theorem ckVals_ok : ∀ x ∈ ckVals, x.length ≤ 3 ∧ vlL x = true := by decide

/-- pairs that are drawn: right, few and short -/
def SmallC (L : List PairL) : Prop := L.length ≤ 3 ∧ ∀ p ∈ L, p.1.length ≤ 3 ∧ nmL p.1 = true ∧ p.2.length ≤ 3 ∧ vlL p.2 = true

theorem smallC_of {L : List PairL} (h : L.length ≤ 3) (h2 : ∀ p ∈ L, p.1 ∈ ckKeys ∧ p.2 ∈ ckVals) : SmallC L :=
  ⟨h, fun p hp => ⟨(ckKeys_ok _ (h2 p hp).1).1, (ckKeys_ok _ (h2 p hp).1).2, (ckVals_ok _ (h2 p hp).2).1, (ckVals_ok _ (h2 p hp).2).2⟩⟩

theorem wt_smallC (L : List PairL) (h : ∀ p ∈ L, p.1.length ≤ 3 ∧ nmL p.1 = true ∧ p.2.length ≤ 3 ∧ vlL p.2 = true) : wtL L ≤ 6 * L.length := by
  induction L with
  | nil => simp [wtL]
  | cons p r ih =>
    have hw : wtL (p :: r) = p.1.length + p.2.length + wtL r := by simp [wtL]
    have h1 := h p List.mem_cons_self
    have h2 := ih fun q hq => h q (List.mem_cons_of_mem _ hq)
    rw [hw, List.length_cons]
    omega

theorem putCk_smallC {L : List PairL} (h : SmallC L) : (putCk L).length ≤ 100 := by
  have h1 := putCk_len L
  have h2 := wt_smallC L h.2
  have h3 := h.1
  omega

theorem smallC_take {L : List PairL} (h : SmallC L) (k : Nat) : SmallC (L.take k) := ⟨by rw [List.length_take]; have := h.1; omega, fun p hp => h.2 p (List.mem_of_mem_take hp)⟩

theorem smallC_mem {L : List PairL} (h : SmallC L) : ∀ p ∈ L, p.1.length ≤ 1048576 ∧ p.2.length ≤ 1048576 := fun p hp => by have := h.2 p hp; omega

set_option maxRecDepth 100000 in
theorem drawPutCk_call (B : Nat) (av : Option Addr) (n c : Nat) (w : World) (hcode : CodeIs w B av n) (hn : n ≤ 1048576) (hB : B ≤ w.heap.size) :
    Calls Tryd.prog 32 #[.slice av n c] w fun e w' => ∃ (L : List PairL) (v : Value), SmallC L ∧ e = .returned v ∧ w'.ownsRow w.heap.size 71 2 v L.length (pcells L) ∧ Below w.heap.size w w' := by
  go_enter Tryd.func32, Tryd.ntmps32
  go_wp2_with fail
  refine (new_call B av n c _ hcode hn hB).mono ?_
  rintro e w1 ⟨h, rfl, hC1, hb1⟩
  go_wp2_with fail
  refine (ckPairs_call B w.heap.size av n c _ ⟨_, _, hC1⟩).mono ?_
  rintro e w2 ⟨L, v, hl, hS, rfl, ho, hC2, hg2⟩
  go_wp2
  go_ret
  exact ⟨L, _, smallC_of hl hS, rfl, own_lower2 ho hb1.size, grown_below_new hb1 hg2⟩

def getWords : List (List UInt8) := [[], [59], [97], [97, 61, 98, 59, 99, 61, 100], [32, 97, 61, 98, 32, 59, 32, 59, 32, 61, 120, 59, 32, 121, 61, 32, 122], [97, 32, 98, 61, 99, 59, 32, 100, 61, 34, 101, 34]]

theorem getWords_len : ∀ x ∈ getWords, x.length ≤ 100 := by decide

set_option maxRecDepth 100000 in
set_option maxHeartbeats 800000 in
theorem drawGetCk_call (B : Nat) (av : Option Addr) (n c : Nat) (w : World) (hcode : CodeIs w B av n) (hn : n ≤ 1048576) (hB : B ≤ w.heap.size) :
    Calls Tryd.prog 34 #[.slice av n c] w fun e w' => ∃ l : List UInt8, l.length ≤ 300 ∧ e = .returned (.string (txt l)) ∧ Below w.heap.size w w' := by
  go_enter Tryd.func34, Tryd.ntmps34
  go_wp2_with fail
  refine (new_call B av n c _ hcode hn hB).mono ?_
  rintro e w1 ⟨h, rfl, hC1, hb1⟩
  go_wp2_with fail
  refine (once_call B w.heap.size av n c 4 _ ⟨_, _, hC1⟩ (by omega) (by omega)).mono ?_
  rintro e w2 ⟨b, rfl, hC2, hg2⟩
  have hb2 := grown_below_new hb1 hg2
  cases b with
  | true =>
    go_wp2_with fail
    refine (pick_lit B w.heap.size av n c getWords _ _ rfl hC2 (by decide) (by decide)).mono ?_
    rintro e w3 ⟨x, hx, rfl, hC3, hg3⟩
    have hxl := getWords_len x hx
    clear hx
    go_wp2
    go_ret
    exact ⟨x, by omega, rfl, grown_below_new hb2 hg3⟩
  | false =>
    go_wp2_with fail
    refine (ckPairs_call B w.heap.size av n c _ hC2).mono ?_
    rintro e w3 ⟨L, v, hl, hS, rfl, ho, hC3, hg3⟩
    have hb3 := grown_below_new hb2 hg3
    have hSC := smallC_of hl hS
    have hpl := putCk_smallC hSC
    have C4 := Lib.hid (fun base v wx ho => putCk_spec base v L wx ho (by omega) (smallC_mem hSC) (fun k => by have := putCk_smallC (smallC_take hSC k); omega))
    generalize putCk L = pl at hpl C4
    clear hS hSC
    go_wp2_with fail
    refine (C4.out _ _ _ ho).mono ?_
    rintro e w4 ⟨rfl, b4⟩
    go_wp2_with fail
    refine (bent_call B w.heap.size av n c pl _ (hC3.below b4) (by omega)).mono ?_
    rintro e w5 ⟨x, hx, rfl, hC5, hg5⟩
    go_wp2
    go_ret
    exact ⟨x, by omega, rfl, grown_below_new (bstep hb3 b4) hg5⟩

end Ck
end Go.Proofs.YtfnignlfelambaaDoor
