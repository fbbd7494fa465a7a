/- CONTRACTS of the model's writing: l05Rest, PutRequest, PutResponse. -/
import Derived.Test.YtfnignlfelambaaDoorHtOk3
import Derived.Test.YtfnignlfelambaaDoorFormA
import Derived.Test.YtfnignlfelambaaDoorHtL
namespace Go.Proofs.YtfnignlfelambaaDoor
set_option linter.unusedVariables false
set_option maxRecDepth 4000
open Go.ChangeShapes Go.WideShapes Go.ChangeAt Go.RowKit
open Go.ChangeMaps (open_string shut_string)

namespace Ht

def lineB (p : PairL) : List UInt8 := lineL p ++ [13, 10]

theorem restL_eq (h : List PairL) (b : List UInt8) : restL h b = h.flatMap lineB ++ (if b = [] then [] else lenLine b ++ [13, 10]) ++ [13, 10] ++ b := by
  unfold restL linesOf
  rw [List.flatMap_append, List.flatMap_map]
  have e : (h.flatMap fun a => lineL a ++ [13, 10]) = h.flatMap lineB := rfl
  rw [e]
  by_cases hb : b = []
  · rw [if_pos hb, if_pos hb]; simp
  · rw [if_neg hb, if_neg hb]; simp

theorem lines_take (h : List PairL) (k : Nat) (hk : k < h.length) : (h.take (k + 1)).flatMap lineB = (h.take k).flatMap lineB ++ h[k].1 ++ [58, 32] ++ h[k].2 ++ [13, 10] := by
  rw [List.take_succ_eq_append_getElem hk, List.flatMap_append]
  simp [lineB, lineL]

theorem lines_small (h : List PairL) (hh : headsL h = true) (k : Nat) : ((h.take k).flatMap lineB).length ≤ 20000 := by
  obtain ⟨ha, hl⟩ := heads_all hh
  rw [List.all_eq_true] at ha
  have h1 : ∀ x ∈ (h.take k).map lineL, x.length ≤ 932 := by
    intro x hx
    rw [List.mem_map] at hx
    obtain ⟨p, hp, rfl⟩ := hx
    obtain ⟨_, _, q1, _, q2, _⟩ := head_parts (ha p (List.mem_of_mem_take hp))
    unfold lineL
    simp
    omega
  have h2 := lines_le 932 _ h1
  rw [List.flatMap_map] at h2
  have e : ((h.take k).flatMap fun a => lineL a ++ [13, 10]) = (h.take k).flatMap lineB := rfl
  rw [e, List.length_map, List.length_take] at h2
  have : min k h.length * (932 + 2) ≤ 20 * 934 := Nat.mul_le_mul_right _ (by omega)
  omega

/-- a sum of two texts, under a new name -/
theorem add_some {P : Program} (a b : List UInt8) (h : a.length + b.length ≤ 9223372036854775807) : ∃ c, (∀ w : World, (Op.stringOp .add (txt a) (txt b)).run P w = .ok (.string (txt c)) w) ∧ Hid (c = a ++ b) :=
  ⟨a ++ b, add_txt a b h, Lib.hid rfl⟩

theorem add_lit {P : Program} (a b : List UInt8) (h : a.length + b.length ≤ 9223372036854775807) : ∃ c, (∀ w : World, (Op.stringOp .add (txt a) { data := List.toArray b }).run P w = .ok (.string (txt c)) w) ∧ Hid (c = a ++ b) :=
  ⟨a ++ b, add_txt a b h, Lib.hid rfl⟩

set_option maxHeartbeats 1600000 in
theorem rest_spec (v : Value) (l : List PairL) (b : List UInt8) (w : World) (h : PAt w v l) (hh : headsL l = true) (hb : b.length ≤ 4000) :
    Calls Tryd.prog 49 #[v, .string (txt b)] w fun e w' => e = .returned (.string (txt (restL l b))) ∧ Below w.heap.size w w' := by
  have HF := Lib.hid h
  have HS := Lib.hid (lines_small l hh)
  have HA := Lib.hid (heads_all hh)
  have hn : l.length ≤ 20 := HA.out.2
  obtain ⟨a, cap, rfl, _⟩ := h
  have HR := Lib.hid (restL_eq l b)
  generalize restL l b = R at HR ⊢
  clear hh
  go_enter Tryd.func49, Tryd.ntmps49
  go_wp2
  go_loopw [5, 6] (fun o i wr => ∃ (k : Nat) (X : List UInt8), k ≤ l.length ∧ i = .int .i64 k ∧ o = .string (txt X) ∧ Hid (X = (l.take k).flatMap lineB) ∧ Below w.heap.size w wr) (fun _ i _ => l.length - (intOf i).toNat)
  case atStart => exact ⟨0, [], by omega, rfl, rfl, rfl, Below.refl _ _⟩
  case round =>
    obtain ⟨k, X, hk, rfl, rfl, hx, hbel⟩ := hrel
    have hxs := HS.out k
    rw [← hx.out] at hxs
    by_cases hlt : k < l.length
    · obtain ⟨g, off, cap', hv, hg, c1, c2⟩ := PAt.cells (HF.out.below hbel) k hlt
      simp only [Value.slice.injEq] at hv
      obtain ⟨rfl, _, rfl⟩ := hv
      have hp := head_parts (List.all_eq_true.1 HA.out.1 l[k] (List.getElem_mem hlt))
      have p1 := hp.2.2.1
      have p2 := hp.2.2.2.2.1
      have HN := Lib.hid (show X ++ l[k].1 ++ [58, 32] ++ l[k].2 ++ [13, 10] = (l.take (k + 1)).flatMap lineB by rw [lines_take l k hlt, hx.out])
      clear hp
      generalize l[k].1 = pk at c1 p1 HN
      generalize l[k].2 = pv at c2 p2 HN
      obtain ⟨Y1, a1, y1⟩ := add_some (P := Tryd.prog) X pk (by omega)
      obtain ⟨Y2, a2, y2⟩ := add_lit (P := Tryd.prog) Y1 [58, 32] (by rw [y1.out]; simp; omega)
      obtain ⟨Y3, a3, y3⟩ := add_some (P := Tryd.prog) Y2 pv (by rw [y2.out, y1.out]; simp; omega)
      obtain ⟨Y4, a4, y4⟩ := add_lit (P := Tryd.prog) Y3 [13, 10] (by rw [y3.out, y2.out, y1.out]; simp; omega)
      have HY := Lib.hid (show Y4 = (l.take (k + 1)).flatMap lineB by rw [← HN.out, y4.out, y3.out, y2.out, y1.out])
      have hi0 : (0 : Int) ≤ (k : Int) := by omega
      have hi1 : (k : Int) < (l.length : Int) := by omega
      go_wp2
      go_quiet (fail)
      go_wp2
      exact ⟨⟨k + 1, _, by omega, by go_num, rfl, HY, below_drewN hbel _⟩, by simp [intOf]; omega⟩
    · have he : l.take k = l := List.take_of_length_le (by omega)
      have hx2 := hx.out
      rw [he] at hx2
      have HX := Lib.hid hx2
      clear he hx2 hx
      have hbz := txt_size b
      by_cases hb0 : b = []
      · have HR2 := Lib.hid (show R = X ++ [13, 10] by rw [HR.out, HX.out, hb0]; simp)
        have hbt : txt b = ⟨#[]⟩ := by rw [hb0]; rfl
        obtain ⟨Y1, a1, y1⟩ := add_lit (P := Tryd.prog) X [13, 10] (by simp; omega)
        obtain ⟨Y2, a2, y2⟩ := add_lit (P := Tryd.prog) Y1 [] (by rw [y1.out]; simp; omega)
        have HY := Lib.hid (show R = Y2 by rw [HR2.out, y2.out, y1.out, List.append_nil])
        clear hb0 hbz
        rw [hbt]
        go_wp2
        go_ret
        exact ⟨ret_str (by rw [HY.out]), hbel⟩
      · have HR2 := Lib.hid (show R = X ++ (lenT ++ [58, 32]) ++ Lib.decDigits b.length ++ [13, 10] ++ [13, 10] ++ b by rw [HR.out, HX.out, if_neg hb0]; simp [lenLine])
        have hne := txt_ne b hb0
        have D := Lib.hid (fun wx => dec_nat b.length wx (by omega))
        have hd := dec_len b.length 4 (by omega) (by omega)
        generalize Lib.decDigits b.length = d at D hd HR2
        obtain ⟨Y1, a1, y1⟩ := add_lit (P := Tryd.prog) X (lenT ++ [58, 32]) (by simp [lenT]; omega)
        obtain ⟨Y2, a2, y2⟩ := add_some (P := Tryd.prog) Y1 d (by rw [y1.out]; simp [lenT]; omega)
        obtain ⟨Y3, a3, y3⟩ := add_lit (P := Tryd.prog) Y2 [13, 10] (by rw [y2.out, y1.out]; simp [lenT]; omega)
        obtain ⟨Y4, a4, y4⟩ := add_lit (P := Tryd.prog) Y3 [13, 10] (by rw [y3.out, y2.out, y1.out]; simp [lenT]; omega)
        obtain ⟨Y5, a5, y5⟩ := add_some (P := Tryd.prog) Y4 b (by rw [y4.out, y3.out, y2.out, y1.out]; simp [lenT]; omega)
        have HY := Lib.hid (show R = Y5 by rw [HR2.out, y5.out, y4.out, y3.out, y2.out, y1.out])
        change ∀ w, (Op.stringOp .add (txt X) ⟨#[67, 111, 110, 116, 101, 110, 116, 45, 76, 101, 110, 103, 116, 104, 58, 32]⟩).run Tryd.prog w = .ok (.string (txt Y1)) w at a1
        clear hb0
        go_wp2_with fail
        refine (D.out _).mono ?_
        rintro e w1 ⟨rfl, b1⟩
        go_wp2
        go_ret
        exact ⟨ret_str (by rw [HY.out]), hbel.trans (b1.mono hbel.size)⟩

theorem one_len_wt (p : PairL) : (oneL p).length ≤ 3 * (p.1.length + p.2.length) + 1 := by
  have h1 := pctL_len p.1
  have h2 := pctL_len p.2
  unfold oneL
  simp
  omega

theorem put_len_wt (l : List PairL) : (putL l).length ≤ 3 * wtL l + 2 * l.length := by
  have tail : ∀ r : List PairL, (r.flatMap fun q => 38 :: oneL q).length ≤ 3 * wtL r + 2 * r.length := by
    intro r
    induction r with
    | nil => simp
    | cons q r ih =>
      have h1 := one_len_wt q
      have e : wtL (q :: r) = (q.1.length + q.2.length) + wtL r := by simp [wtL]
      simp only [List.flatMap_cons, List.length_append, List.length_cons]
      omega
  cases l with
  | nil => simp [putL]
  | cons p r =>
    have h1 := one_len_wt p
    have h2 := tail r
    have e : wtL (p :: r) = (p.1.length + p.2.length) + wtL r := by simp [wtL]
    simp only [putL, List.length_append, List.length_cons]
    omega

/-- pairs of a form that can be written -/
def Qd (l : List PairL) : Prop := l.length ≤ 2097152 ∧ (∀ p ∈ l, p.1.length ≤ 1048576 ∧ p.2.length ≤ 1048576) ∧ ∀ k, (putL (l.take k)).length ≤ 16777216

theorem qd_of {l : List PairL} (h1 : l.length ≤ 2097152) (h2 : wtL l ≤ 1048576) : Qd l := by
  refine ⟨h1, fun p hp => by have := wt_mem l p hp; omega, fun k => ?_⟩
  have h3 := put_len_wt (l.take k)
  have h4 := wt_le l k
  rw [List.length_take] at h3
  have : min k l.length ≤ l.length := Nat.min_le_right _ _
  omega

theorem putReq_yes {r : ReqL} (h : reqOk r = true) : putReq r = (r.m ++ [32] ++ r.p ++ (if r.q = [] then [] else [63] ++ putL r.q)) ++ (32 :: protoT ++ [13, 10]) ++ restL r.h r.b := by
  unfold putReq
  rw [if_pos h]
  unfold firstL targetL
  by_cases h0 : r.q = []
  · rw [if_pos h0, if_pos h0]; simp
  · rw [if_neg h0, if_neg h0]; simp

theorem putReq_no {r : ReqL} (h : reqOk r = false) : putReq r = [] := by
  unfold putReq
  rw [if_neg (by rw [h]; simp)]

theorem putResp_yes {r : RespL} (h : respOk r = true) : putResp r = (protoT ++ [32]) ++ Lib.itoa r.c ++ [13, 10] ++ restL r.h r.b := by
  unfold putResp
  rw [if_pos h]
  unfold firstA
  simp

theorem putResp_no {r : RespL} (h : respOk r = false) : putResp r = [] := by
  unfold putResp
  rw [if_neg (by rw [h]; simp)]

set_option maxHeartbeats 3200000 in
theorem putResp_spec (r : RespL) (vh : Value) (w : World) (hh : PAt w vh r.h) (hb : Bd r.h) (hbb : r.b.length ≤ 9223372036854775807) :
    Calls Tryd.prog 12 #[respV r vh] w fun e w' => e = .returned (.string (txt (putResp r))) ∧ Below w.heap.size w w' := by
  have HH := Lib.hid hh
  have O := Lib.hid (fun h1 wx b => respOk_spec r h1 wx b hb hbb)
  obtain ⟨ah, ch, rfl⟩ := pat_form hh
  clear hh
  unfold respV at O ⊢
  have ba := Lib.hid ((Below.refl w.heap.size w).alloc (Nat.le_refl _) (.cells #[.int .i64 r.c, .slice ah r.h.length ch, .string (txt r.b)] 26))
  have g0 := Lib.hid (heap_alloc_new w (.cells #[.int .i64 r.c, .slice ah r.h.length ch, .string (txt r.b)] 26))
  by_cases hok : respOk r = true
  · obtain ⟨p1, p2, ph, pb⟩ := resp_parts hok
    have HR := Lib.hid (putResp_yes hok)
    have RS := Lib.hid (fun v wx a => rest_spec v r.h r.b wx a ph pb)
    have D := Lib.hid (fun wx => dec_all r.c wx (by omega) (by omega))
    have hdl : (Lib.itoa r.c).length = 3 := by rw [(itoa_code r.c p1 p2).1]; exact (itoa_code r.c p1 p2).2.1
    have hrl := rest_le ph pb
    rw [hok] at O
    generalize putResp r = R at HR ⊢
    generalize restL r.h r.b = RL at HR RS hrl
    generalize Lib.itoa r.c = DL at HR D hdl
    clear hok ph pb hb p1 p2
    obtain ⟨Y1, a1, y1⟩ := add_some (P := Tryd.prog) (protoT ++ [32]) DL (by simp [protoT]; omega)
    obtain ⟨Y2, a2, y2⟩ := add_lit (P := Tryd.prog) Y1 [13, 10] (by rw [y1.out]; simp [protoT]; omega)
    obtain ⟨Y3, a3, y3⟩ := add_some (P := Tryd.prog) Y2 RL (by rw [y2.out, y1.out]; simp [protoT]; omega)
    have HY := Lib.hid (show R = Y3 by rw [HR.out, y3.out, y2.out, y1.out])
    change ∀ w, (Op.stringOp .add ⟨#[72, 84, 84, 80, 47, 49, 46, 49, 32]⟩ (txt DL)).run Tryd.prog w = .ok (.string (txt Y1)) w at a1
    go_enter Tryd.func12, Tryd.ntmps12
    go_wp2_with fail
    refine (O.out _ _ (HH.out.below ba.out)).mono ?_
    rintro e w1 ⟨rfl, b1⟩
    have c1 := ba.out.trans (b1.mono ba.out.size)
    have k1 := (b1.block w.heap.size (by simp)).trans g0.out
    have n1 : w.heap.size < w1.heap.size := Nat.lt_of_lt_of_le (by simp) b1.size
    have K1 := Lib.hid k1
    obtain ⟨x0, x1, x2, _⟩ := box3 k1
    clear k1
    go_wp2
    go_region_held3 (fun W => W.cell? ⟨w.heap.size, 0, none⟩ = some (.int .i64 r.c) ∧ W.cell? ⟨w.heap.size, 1, none⟩ = some (.slice ah r.h.length ch) ∧ W.cell? ⟨w.heap.size, 2, none⟩ = some (.string (txt r.b)) ∧ Below w1.heap.size w1 W)
      (first
        | exact ⟨x0, x1, x2, (Below.refl _ _).drew⟩
        | (go_split_ands; exact ⟨(b3.cell (p := ⟨w.heap.size, _, none⟩) (Nat.lt_of_lt_of_le n1 (Below.size (by assumption)))).trans (by assumption), (b3.cell (p := ⟨w.heap.size, _, none⟩) (Nat.lt_of_lt_of_le n1 (Below.size (by assumption)))).trans (by assumption), (b3.cell (p := ⟨w.heap.size, _, none⟩) (Nat.lt_of_lt_of_le n1 (Below.size (by assumption)))).trans (by assumption), Below.trans (by assumption) (b3.mono (Below.size (by assumption)))⟩)
        | (go_split_ands; exact ⟨(b2.cell (p := ⟨w.heap.size, _, none⟩) (Nat.lt_of_lt_of_le n1 (Below.size (by assumption)))).trans (by assumption), (b2.cell (p := ⟨w.heap.size, _, none⟩) (Nat.lt_of_lt_of_le n1 (Below.size (by assumption)))).trans (by assumption), (b2.cell (p := ⟨w.heap.size, _, none⟩) (Nat.lt_of_lt_of_le n1 (Below.size (by assumption)))).trans (by assumption), Below.trans (by assumption) (b2.mono (Below.size (by assumption)))⟩))
      (first
        | (go_simp; go_at_call 48; refine (D.out _).mono ?_; rintro e w2 ⟨rfl, b2⟩)
        | (go_simp; go_at_call 49; go_split_ands; refine (RS.out _ _ (HH.out.below (c1.trans (Below.mono (by assumption) c1.size)))).mono ?_; rintro e w3 ⟨rfl, b3⟩))
    all_goals
      first
        | (have hfin : Below w1.heap.size w1 w3 := by
             go_split_ands
             assumption
           go_wp2
           go_ret
           exact ⟨ret_str (by rw [HY.out]), c1.trans (hfin.mono c1.size)⟩)
        | (have hfin : Below w1.heap.size w1 w2 := by
             go_split_ands
             assumption
           go_wp2
           go_ret
           exact ⟨ret_str (by rw [HY.out]), c1.trans (hfin.mono c1.size)⟩)
  · rw [Bool.not_eq_true] at hok
    rw [hok] at O
    have HR := Lib.hid (putResp_no hok)
    generalize putResp r = R at HR ⊢
    clear hok hb
    go_enter Tryd.func12, Tryd.ntmps12
    go_wp2_with fail
    refine (O.out _ _ (HH.out.below ba.out)).mono ?_
    rintro e w1 ⟨rfl, b1⟩
    go_wp2
    go_ret
    exact ⟨ret_str (by rw [HR.out]; rfl), ba.out.trans (b1.mono ba.out.size)⟩

end Ht
end Go.Proofs.YtfnignlfelambaaDoor
