/- CONTRACTS of Pct and UnPct: the program's. -/
import Derived.Test.YtonpalaopnfffaaPct
import Derived.Lib.AppendStr
namespace Go.Proofs.Ytonpalaopnfffaa
set_option linter.unusedVariables false
set_option maxRecDepth 4000
open Go.ChangeShapes Go.WideShapes Go.ChangeAt Go.RowKit
open Go.ChangeMaps (open_string shut_string)

def signs4 : ByteArray := { data := #[45, 95, 46, 126] }

theorem signs4_all : ∀ i : Fin 256, decide (0 ≤ Lib.indexByte signs4.data.toList (UInt8.ofNat i.val)) = (UInt8.ofNat i.val == 45 || UInt8.ofNat i.val == 95 || UInt8.ofNat i.val == 46 || UInt8.ofNat i.val == 126) := by decide +kernel

theorem signs4_at (b : UInt8) : decide (0 ≤ Lib.indexByte signs4.data.toList b) = (b == 45 || b == 95 || b == 46 || b == 126) := by
  have h := signs4_all ⟨b.toNat, b.toNat_lt⟩
  rwa [UInt8.ofNat_toNat] at h

theorem safe_split (b : UInt8) : safeB b = (letterB b || digitB b || decide (0 ≤ Lib.indexByte signs4.data.toList b)) := by
  rw [signs4_at]; unfold safeB; simp only [Bool.or_assoc]

theorem strCells_txtI (l : List UInt8) : Lib.strCells (txt l) = cells8 l := by simp [Lib.strCells, txt, cells8]

theorem low_hex_all : ∀ i : Fin 256, hexV (lowB (UInt8.ofNat i.val)) = hexV (UInt8.ofNat i.val) ∧ (0 ≤ hexV (UInt8.ofNat i.val) → hexD (hexV (UInt8.ofNat i.val)).toNat = lowB (UInt8.ofNat i.val)) := by decide +kernel

theorem low_hex (c : UInt8) : hexV (lowB c) = hexV c ∧ (0 ≤ hexV c → hexD (hexV c).toNat = lowB c) := by
  have h := low_hex_all ⟨c.toNat, c.toNat_lt⟩
  rwa [UInt8.ofNat_toNat] at h

theorem hex_two_yes (a b : UInt8) (ha : 0 ≤ hexV a) (hb : 0 ≤ hexV b) : hexL [unB a b] = lowL [a, b] := by
  have la := (hexV_le a).2
  have lb := (hexV_le b).2
  have h := nib_byte (hexV a).toNat (hexV b).toNat (by omega) (by omega)
  have e : unB a b = UInt8.ofNat (16 * (hexV a).toNat + (hexV b).toNat) := by
    unfold unB; congr 1; omega
  simp only [hexL, lowL, List.flatMap_cons, List.flatMap_nil, List.map_cons, List.map_nil, List.append_nil]
  rw [e, h.2.1, h.2.2, (low_hex a).2 ha, (low_hex b).2 hb]

theorem hex_two_no (a b : UInt8) (h : hexV a < 0 ∨ hexV b < 0) : ∀ r, hexL r ≠ lowL [a, b] := by
  intro r hr
  have hl : (hexL r).length = 2 := by rw [hr]; rfl
  rw [hexL_len] at hl
  match r, hl with
  | [x], _ =>
    have hx : x.toNat < 256 := x.toNat_lt
    simp only [hexL, lowL, List.flatMap_cons, List.flatMap_nil, List.map_cons, List.map_nil, List.append_nil, List.cons.injEq, and_true] at hr
    have h1 := hexV_hexD (x.toNat / 16) (by omega)
    have h2 := hexV_hexD (x.toNat % 16) (by omega)
    rw [hr.1, (low_hex a).1] at h1
    rw [hr.2, (low_hex b).1] at h2
    omega

theorem unp_code_end (acc : List UInt8) (s : ByteArray) (k : Nat) (h : k + 2 < s.size) (hp : s[k] = 37) :
    unpA acc (s.data.toList.drop k) = if hexV s[k + 1] < 0 ∨ hexV s[k + 2] < 0 then none else unpA (acc ++ [unB s[k + 1] s[k + 2]]) (s.data.toList.drop (k + 3)) := by
  rw [drop_three s k h, hp, unp_code]

theorem two_at (s : ByteArray) (k : Nat) (h : k + 2 < s.size) : (s.extract (k + 1) (k + 3)).data.toList = [s[k + 1], s[k + 2]] := by
  rw [extract_seg, txt_toList]
  have e1 := seg_snoc s (k + 1) (k + 1) (by omega) (by omega)
  have e2 := seg_snoc s (k + 1) (k + 2) (by omega) (by omega)
  rw [e2, e1, seg_nil]; rfl

end Go.Proofs.Ytonpalaopnfffaa
