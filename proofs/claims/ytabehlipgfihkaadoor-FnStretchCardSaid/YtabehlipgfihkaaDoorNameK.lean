/- The keys' states, as numbers; names of single numbers. -/
import Derived.Test.YtabehlipgfihkaaDoorNameI
namespace Go.Proofs.YtabehlipgfihkaaDoor
set_option linter.unusedVariables false
set_option maxRecDepth 10000
open Sh

def si0 : St := ⟨4099202733, 2535792975, 2430268064, 3742509290, 1692759311, 2744271233, 2185925419, 4175449650⟩

def so0 : St := ⟨3548727311, 2059101303, 935970104, 1574446183, 2382641778, 1966355632, 3736610840, 907888038⟩

theorem si0_is : keyS [] 54 = si0 := by kernel_rfl

theorem so0_is : keyS [] 92 = so0 := by kernel_rfl

theorem si0_ok : okS si0 := by rw [← si0_is]; exact cmp_ok _ _

theorem so0_ok : okS so0 := by rw [← so0_is]; exact cmp_ok _ _

def si1 : St := ⟨3465410435, 255654849, 1236869075, 537371361, 50789271, 94709730, 3524237796, 3504578919⟩

def so1 : St := ⟨1169789964, 4055874224, 3670031652, 1090428284, 2402464091, 106343986, 2599115555, 2867005931⟩

theorem si1_is : keyS [115, 101, 101, 100] 54 = si1 := by kernel_rfl

theorem so1_is : keyS [115, 101, 101, 100] 92 = so1 := by kernel_rfl

theorem si1_ok : okS si1 := by rw [← si1_is]; exact cmp_ok _ _

theorem so1_ok : okS so1 := by rw [← so1_is]; exact cmp_ok _ _

def si2 : St := ⟨4170179445, 3017233956, 3845531639, 2013976098, 2813381812, 895938755, 1307096266, 1089561373⟩

def so2 : St := ⟨2812555556, 3824779262, 3637850755, 2972524407, 3112678615, 3794667018, 831788734, 2905000641⟩

theorem si2_is : keyS [111, 116, 104, 101, 114] 54 = si2 := by kernel_rfl

theorem so2_is : keyS [111, 116, 104, 101, 114] 92 = so2 := by kernel_rfl

theorem si2_ok : okS si2 := by rw [← si2_is]; exact cmp_ok _ _

theorem so2_ok : okS so2 := by rw [← so2_is]; exact cmp_ok _ _

def si3 : St := ⟨1921011505, 2957115752, 80993954, 4108947874, 454854918, 3189118356, 2986539892, 2949172915⟩

def so3 : St := ⟨1518602026, 2872562210, 1974548909, 4155057508, 3354817726, 2565307801, 527394973, 702566981⟩

theorem si3_is : keyS [115, 101, 99, 114, 101, 116] 54 = si3 := by kernel_rfl

theorem so3_is : keyS [115, 101, 99, 114, 101, 116] 92 = so3 := by kernel_rfl

theorem si3_ok : okS si3 := by rw [← si3_is]; exact cmp_ok _ _

theorem so3_ok : okS so3 := by rw [← so3_is]; exact cmp_ok _ _

def si4 : St := ⟨1383535847, 2155511785, 3860199097, 2211558326, 1139673931, 1516071694, 3875827153, 1268663221⟩

def so4 : St := ⟨782642065, 158206721, 1286555435, 1048798974, 3685428959, 327431124, 3963136400, 2060051324⟩

theorem si4_is : keyS [108, 101, 116, 109, 101, 105, 110] 54 = si4 := by kernel_rfl

theorem so4_is : keyS [108, 101, 116, 109, 101, 105, 110] 92 = so4 := by kernel_rfl

theorem si4_ok : okS si4 := by rw [← si4_is]; exact cmp_ok _ _

theorem so4_ok : okS so4 := by rw [← so4_is]; exact cmp_ok _ _

theorem itoa_m9223372036854775808 : Lib.itoa (-9223372036854775808) = [45, 57, 50, 50, 51, 51, 55, 50, 48, 51, 54, 56, 53, 52, 55, 55, 53, 56, 48, 56] := by
  unfold Lib.itoa
  rw [if_pos (by decide)]
  show 45 :: Lib.decDigits 9223372036854775808 = _
  rw [Lib.decDigits, dif_neg (by decide)]
  rw [Lib.decDigits, dif_neg (by decide)]
  rw [Lib.decDigits, dif_neg (by decide)]
  rw [Lib.decDigits, dif_neg (by decide)]
  rw [Lib.decDigits, dif_neg (by decide)]
  rw [Lib.decDigits, dif_neg (by decide)]
  rw [Lib.decDigits, dif_neg (by decide)]
  rw [Lib.decDigits, dif_neg (by decide)]
  rw [Lib.decDigits, dif_neg (by decide)]
  rw [Lib.decDigits, dif_neg (by decide)]
  rw [Lib.decDigits, dif_neg (by decide)]
  rw [Lib.decDigits, dif_neg (by decide)]
  rw [Lib.decDigits, dif_neg (by decide)]
  rw [Lib.decDigits, dif_neg (by decide)]
  rw [Lib.decDigits, dif_neg (by decide)]
  rw [Lib.decDigits, dif_neg (by decide)]
  rw [Lib.decDigits, dif_neg (by decide)]
  rw [Lib.decDigits, dif_neg (by decide)]
  rw [Lib.decDigits, dif_pos (by decide)]
  rfl

theorem itoa_m4611686018427387903 : Lib.itoa (-4611686018427387903) = [45, 52, 54, 49, 49, 54, 56, 54, 48, 49, 56, 52, 50, 55, 51, 56, 55, 57, 48, 51] := by
  unfold Lib.itoa
  rw [if_pos (by decide)]
  show 45 :: Lib.decDigits 4611686018427387903 = _
  rw [Lib.decDigits, dif_neg (by decide)]
  rw [Lib.decDigits, dif_neg (by decide)]
  rw [Lib.decDigits, dif_neg (by decide)]
  rw [Lib.decDigits, dif_neg (by decide)]
  rw [Lib.decDigits, dif_neg (by decide)]
  rw [Lib.decDigits, dif_neg (by decide)]
  rw [Lib.decDigits, dif_neg (by decide)]
  rw [Lib.decDigits, dif_neg (by decide)]
  rw [Lib.decDigits, dif_neg (by decide)]
  rw [Lib.decDigits, dif_neg (by decide)]
  rw [Lib.decDigits, dif_neg (by decide)]
  rw [Lib.decDigits, dif_neg (by decide)]
  rw [Lib.decDigits, dif_neg (by decide)]
  rw [Lib.decDigits, dif_neg (by decide)]
  rw [Lib.decDigits, dif_neg (by decide)]
  rw [Lib.decDigits, dif_neg (by decide)]
  rw [Lib.decDigits, dif_neg (by decide)]
  rw [Lib.decDigits, dif_neg (by decide)]
  rw [Lib.decDigits, dif_pos (by decide)]
  rfl

theorem itoa_m1 : Lib.itoa (-1) = [45, 49] := by
  unfold Lib.itoa
  rw [if_pos (by decide)]
  show 45 :: Lib.decDigits 1 = _
  rw [Lib.decDigits, dif_pos (by decide)]
  rfl

theorem itoa_p0 : Lib.itoa (0) = [48] := by
  unfold Lib.itoa
  rw [if_neg (by decide)]
  show Lib.decDigits 0 = _
  rw [Lib.decDigits, dif_pos (by decide)]
  rfl

theorem itoa_p1 : Lib.itoa (1) = [49] := by
  unfold Lib.itoa
  rw [if_neg (by decide)]
  show Lib.decDigits 1 = _
  rw [Lib.decDigits, dif_pos (by decide)]
  rfl

theorem itoa_p500000000000 : Lib.itoa (500000000000) = [53, 48, 48, 48, 48, 48, 48, 48, 48, 48, 48, 48] := by
  unfold Lib.itoa
  rw [if_neg (by decide)]
  show Lib.decDigits 500000000000 = _
  rw [Lib.decDigits, dif_neg (by decide)]
  rw [Lib.decDigits, dif_neg (by decide)]
  rw [Lib.decDigits, dif_neg (by decide)]
  rw [Lib.decDigits, dif_neg (by decide)]
  rw [Lib.decDigits, dif_neg (by decide)]
  rw [Lib.decDigits, dif_neg (by decide)]
  rw [Lib.decDigits, dif_neg (by decide)]
  rw [Lib.decDigits, dif_neg (by decide)]
  rw [Lib.decDigits, dif_neg (by decide)]
  rw [Lib.decDigits, dif_neg (by decide)]
  rw [Lib.decDigits, dif_neg (by decide)]
  rw [Lib.decDigits, dif_pos (by decide)]
  rfl

theorem itoa_p500000000001 : Lib.itoa (500000000001) = [53, 48, 48, 48, 48, 48, 48, 48, 48, 48, 48, 49] := by
  unfold Lib.itoa
  rw [if_neg (by decide)]
  show Lib.decDigits 500000000001 = _
  rw [Lib.decDigits, dif_neg (by decide)]
  rw [Lib.decDigits, dif_neg (by decide)]
  rw [Lib.decDigits, dif_neg (by decide)]
  rw [Lib.decDigits, dif_neg (by decide)]
  rw [Lib.decDigits, dif_neg (by decide)]
  rw [Lib.decDigits, dif_neg (by decide)]
  rw [Lib.decDigits, dif_neg (by decide)]
  rw [Lib.decDigits, dif_neg (by decide)]
  rw [Lib.decDigits, dif_neg (by decide)]
  rw [Lib.decDigits, dif_neg (by decide)]
  rw [Lib.decDigits, dif_neg (by decide)]
  rw [Lib.decDigits, dif_pos (by decide)]
  rfl

theorem itoa_p999999999999 : Lib.itoa (999999999999) = [57, 57, 57, 57, 57, 57, 57, 57, 57, 57, 57, 57] := by
  unfold Lib.itoa
  rw [if_neg (by decide)]
  show Lib.decDigits 999999999999 = _
  rw [Lib.decDigits, dif_neg (by decide)]
  rw [Lib.decDigits, dif_neg (by decide)]
  rw [Lib.decDigits, dif_neg (by decide)]
  rw [Lib.decDigits, dif_neg (by decide)]
  rw [Lib.decDigits, dif_neg (by decide)]
  rw [Lib.decDigits, dif_neg (by decide)]
  rw [Lib.decDigits, dif_neg (by decide)]
  rw [Lib.decDigits, dif_neg (by decide)]
  rw [Lib.decDigits, dif_neg (by decide)]
  rw [Lib.decDigits, dif_neg (by decide)]
  rw [Lib.decDigits, dif_neg (by decide)]
  rw [Lib.decDigits, dif_pos (by decide)]
  rfl

theorem itoa_p1000000000000 : Lib.itoa (1000000000000) = [49, 48, 48, 48, 48, 48, 48, 48, 48, 48, 48, 48, 48] := by
  unfold Lib.itoa
  rw [if_neg (by decide)]
  show Lib.decDigits 1000000000000 = _
  rw [Lib.decDigits, dif_neg (by decide)]
  rw [Lib.decDigits, dif_neg (by decide)]
  rw [Lib.decDigits, dif_neg (by decide)]
  rw [Lib.decDigits, dif_neg (by decide)]
  rw [Lib.decDigits, dif_neg (by decide)]
  rw [Lib.decDigits, dif_neg (by decide)]
  rw [Lib.decDigits, dif_neg (by decide)]
  rw [Lib.decDigits, dif_neg (by decide)]
  rw [Lib.decDigits, dif_neg (by decide)]
  rw [Lib.decDigits, dif_neg (by decide)]
  rw [Lib.decDigits, dif_neg (by decide)]
  rw [Lib.decDigits, dif_neg (by decide)]
  rw [Lib.decDigits, dif_pos (by decide)]
  rfl

theorem itoa_p4611686018427387904 : Lib.itoa (4611686018427387904) = [52, 54, 49, 49, 54, 56, 54, 48, 49, 56, 52, 50, 55, 51, 56, 55, 57, 48, 52] := by
  unfold Lib.itoa
  rw [if_neg (by decide)]
  show Lib.decDigits 4611686018427387904 = _
  rw [Lib.decDigits, dif_neg (by decide)]
  rw [Lib.decDigits, dif_neg (by decide)]
  rw [Lib.decDigits, dif_neg (by decide)]
  rw [Lib.decDigits, dif_neg (by decide)]
  rw [Lib.decDigits, dif_neg (by decide)]
  rw [Lib.decDigits, dif_neg (by decide)]
  rw [Lib.decDigits, dif_neg (by decide)]
  rw [Lib.decDigits, dif_neg (by decide)]
  rw [Lib.decDigits, dif_neg (by decide)]
  rw [Lib.decDigits, dif_neg (by decide)]
  rw [Lib.decDigits, dif_neg (by decide)]
  rw [Lib.decDigits, dif_neg (by decide)]
  rw [Lib.decDigits, dif_neg (by decide)]
  rw [Lib.decDigits, dif_neg (by decide)]
  rw [Lib.decDigits, dif_neg (by decide)]
  rw [Lib.decDigits, dif_neg (by decide)]
  rw [Lib.decDigits, dif_neg (by decide)]
  rw [Lib.decDigits, dif_neg (by decide)]
  rw [Lib.decDigits, dif_pos (by decide)]
  rfl

theorem itoa_p9223372036854775807 : Lib.itoa (9223372036854775807) = [57, 50, 50, 51, 51, 55, 50, 48, 51, 54, 56, 53, 52, 55, 55, 53, 56, 48, 55] := by
  unfold Lib.itoa
  rw [if_neg (by decide)]
  show Lib.decDigits 9223372036854775807 = _
  rw [Lib.decDigits, dif_neg (by decide)]
  rw [Lib.decDigits, dif_neg (by decide)]
  rw [Lib.decDigits, dif_neg (by decide)]
  rw [Lib.decDigits, dif_neg (by decide)]
  rw [Lib.decDigits, dif_neg (by decide)]
  rw [Lib.decDigits, dif_neg (by decide)]
  rw [Lib.decDigits, dif_neg (by decide)]
  rw [Lib.decDigits, dif_neg (by decide)]
  rw [Lib.decDigits, dif_neg (by decide)]
  rw [Lib.decDigits, dif_neg (by decide)]
  rw [Lib.decDigits, dif_neg (by decide)]
  rw [Lib.decDigits, dif_neg (by decide)]
  rw [Lib.decDigits, dif_neg (by decide)]
  rw [Lib.decDigits, dif_neg (by decide)]
  rw [Lib.decDigits, dif_neg (by decide)]
  rw [Lib.decDigits, dif_neg (by decide)]
  rw [Lib.decDigits, dif_neg (by decide)]
  rw [Lib.decDigits, dif_neg (by decide)]
  rw [Lib.decDigits, dif_pos (by decide)]
  rfl

theorem mac0_m9223372036854775808 : macL [] [45, 57, 50, 50, 51, 51, 55, 50, 48, 51, 54, 56, 53, 52, 55, 55, 53, 56, 48, 56] = outB (stL ⟨2922925947, 2154430382, 828903457, 2480042559, 1563522696, 1162131825, 334358435, 1157353751⟩) := mac_by si0_is so0_is (p := [128, 0, 0, 0, 0, 0, 0, 0, 0, 0, 0, 0, 0, 0, 0, 0, 0, 0, 0, 0, 0, 0, 0, 0, 0, 0, 0, 0, 0, 0, 0, 0, 0, 0, 0, 0, 0, 0, 0, 0, 0, 0, 2, 160]) (by decide +kernel) (by decide +kernel) (W := [758723122, 858994482, 808662584, 892614455, 892874808, 2147483648, 0, 0, 0, 0, 0, 0, 0, 0, 0, 672]) (by decide +kernel) (t := ⟨3051197895, 2541756759, 3772374259, 1890426701, 3568831164, 2896023558, 460398632, 594827835⟩) (by kernel_rfl) (by kernel_rfl)

theorem mac0_m4611686018427387903 : macL [] [45, 52, 54, 49, 49, 54, 56, 54, 48, 49, 56, 52, 50, 55, 51, 56, 55, 57, 48, 51] = outB (stL ⟨134275765, 3986428687, 3844525273, 3420371239, 2221978495, 1094247341, 283985581, 3180542483⟩) := mac_by si0_is so0_is (p := [128, 0, 0, 0, 0, 0, 0, 0, 0, 0, 0, 0, 0, 0, 0, 0, 0, 0, 0, 0, 0, 0, 0, 0, 0, 0, 0, 0, 0, 0, 0, 0, 0, 0, 0, 0, 0, 0, 0, 0, 0, 0, 2, 160]) (by decide +kernel) (by decide +kernel) (W := [758396465, 825636918, 808532020, 842478392, 926494771, 2147483648, 0, 0, 0, 0, 0, 0, 0, 0, 0, 672]) (by decide +kernel) (t := ⟨1790379707, 1968276975, 1285135907, 1878610443, 1111707356, 2556154252, 2208889016, 1514345117⟩) (by kernel_rfl) (by kernel_rfl)

theorem mac0_m1 : macL [] [45, 49] = outB (stL ⟨4140612840, 2598178499, 2110567624, 2980744714, 259996220, 30608269, 1105756187, 786512152⟩) := mac_by si0_is so0_is (p := [128, 0, 0, 0, 0, 0, 0, 0, 0, 0, 0, 0, 0, 0, 0, 0, 0, 0, 0, 0, 0, 0, 0, 0, 0, 0, 0, 0, 0, 0, 0, 0, 0, 0, 0, 0, 0, 0, 0, 0, 0, 0, 0, 0, 0, 0, 0, 0, 0, 0, 0, 0, 0, 0, 0, 0, 0, 0, 0, 0, 2, 16]) (by decide +kernel) (by decide +kernel) (W := [758218752, 0, 0, 0, 0, 0, 0, 0, 0, 0, 0, 0, 0, 0, 0, 528]) (by decide +kernel) (t := ⟨208348109, 1810078154, 4239869598, 29101184, 3972411673, 1887587677, 19520453, 1000884011⟩) (by kernel_rfl) (by kernel_rfl)

theorem mac0_p0 : macL [] [48] = outB (stL ⟨2574902467, 3994654303, 2664197578, 1798919345, 202949055, 2701509906, 3426411915, 3898455836⟩) := mac_by si0_is so0_is (p := [128, 0, 0, 0, 0, 0, 0, 0, 0, 0, 0, 0, 0, 0, 0, 0, 0, 0, 0, 0, 0, 0, 0, 0, 0, 0, 0, 0, 0, 0, 0, 0, 0, 0, 0, 0, 0, 0, 0, 0, 0, 0, 0, 0, 0, 0, 0, 0, 0, 0, 0, 0, 0, 0, 0, 0, 0, 0, 0, 0, 0, 2, 8]) (by decide +kernel) (by decide +kernel) (W := [813694976, 0, 0, 0, 0, 0, 0, 0, 0, 0, 0, 0, 0, 0, 0, 520]) (by decide +kernel) (t := ⟨2357375259, 2081498703, 1781537211, 434322667, 209291542, 1292459328, 3548797037, 7621487⟩) (by kernel_rfl) (by kernel_rfl)

theorem mac0_p1 : macL [] [49] = outB (stL ⟨1105242436, 2408705466, 1258669762, 4228832029, 1679338025, 727394626, 1669065795, 2728105251⟩) := mac_by si0_is so0_is (p := [128, 0, 0, 0, 0, 0, 0, 0, 0, 0, 0, 0, 0, 0, 0, 0, 0, 0, 0, 0, 0, 0, 0, 0, 0, 0, 0, 0, 0, 0, 0, 0, 0, 0, 0, 0, 0, 0, 0, 0, 0, 0, 0, 0, 0, 0, 0, 0, 0, 0, 0, 0, 0, 0, 0, 0, 0, 0, 0, 0, 0, 2, 8]) (by decide +kernel) (by decide +kernel) (W := [830472192, 0, 0, 0, 0, 0, 0, 0, 0, 0, 0, 0, 0, 0, 0, 520]) (by decide +kernel) (t := ⟨473917695, 977640650, 2580098761, 2669878079, 2875226440, 2752230156, 1990004993, 4001785965⟩) (by kernel_rfl) (by kernel_rfl)

theorem mac0_p500000000000 : macL [] [53, 48, 48, 48, 48, 48, 48, 48, 48, 48, 48, 48] = outB (stL ⟨145689214, 1040027764, 3986630016, 2769858042, 1885405064, 3720856851, 2918741786, 1745187337⟩) := mac_by si0_is so0_is (p := [128, 0, 0, 0, 0, 0, 0, 0, 0, 0, 0, 0, 0, 0, 0, 0, 0, 0, 0, 0, 0, 0, 0, 0, 0, 0, 0, 0, 0, 0, 0, 0, 0, 0, 0, 0, 0, 0, 0, 0, 0, 0, 0, 0, 0, 0, 0, 0, 0, 0, 2, 96]) (by decide +kernel) (by decide +kernel) (W := [892350512, 808464432, 808464432, 2147483648, 0, 0, 0, 0, 0, 0, 0, 0, 0, 0, 0, 608]) (by decide +kernel) (t := ⟨2067982756, 3981028993, 39361714, 3959730082, 1614417573, 3775646953, 1134360102, 2207544822⟩) (by kernel_rfl) (by kernel_rfl)

theorem mac0_p500000000001 : macL [] [53, 48, 48, 48, 48, 48, 48, 48, 48, 48, 48, 49] = outB (stL ⟨269106699, 3477311568, 2045321, 1479169691, 3130722576, 339628735, 1085492816, 329829197⟩) := mac_by si0_is so0_is (p := [128, 0, 0, 0, 0, 0, 0, 0, 0, 0, 0, 0, 0, 0, 0, 0, 0, 0, 0, 0, 0, 0, 0, 0, 0, 0, 0, 0, 0, 0, 0, 0, 0, 0, 0, 0, 0, 0, 0, 0, 0, 0, 0, 0, 0, 0, 0, 0, 0, 0, 2, 96]) (by decide +kernel) (by decide +kernel) (W := [892350512, 808464432, 808464433, 2147483648, 0, 0, 0, 0, 0, 0, 0, 0, 0, 0, 0, 608]) (by decide +kernel) (t := ⟨1343231738, 3294886824, 2054754867, 2625251847, 4283980642, 1955330659, 621513988, 2391569826⟩) (by kernel_rfl) (by kernel_rfl)

theorem mac0_p999999999999 : macL [] [57, 57, 57, 57, 57, 57, 57, 57, 57, 57, 57, 57] = outB (stL ⟨1587650500, 799872580, 3151206090, 3845744583, 2638402183, 2347662592, 1124616904, 1877531525⟩) := mac_by si0_is so0_is (p := [128, 0, 0, 0, 0, 0, 0, 0, 0, 0, 0, 0, 0, 0, 0, 0, 0, 0, 0, 0, 0, 0, 0, 0, 0, 0, 0, 0, 0, 0, 0, 0, 0, 0, 0, 0, 0, 0, 0, 0, 0, 0, 0, 0, 0, 0, 0, 0, 0, 0, 2, 96]) (by decide +kernel) (by decide +kernel) (W := [960051513, 960051513, 960051513, 2147483648, 0, 0, 0, 0, 0, 0, 0, 0, 0, 0, 0, 608]) (by decide +kernel) (t := ⟨1695141194, 3017546687, 1341805385, 444151587, 91057863, 587902061, 3406630371, 2189083813⟩) (by kernel_rfl) (by kernel_rfl)

theorem mac0_p1000000000000 : macL [] [49, 48, 48, 48, 48, 48, 48, 48, 48, 48, 48, 48, 48] = outB (stL ⟨1011487801, 1971328964, 560806340, 3036451934, 3167444843, 3719216959, 2520345658, 1486628778⟩) := mac_by si0_is so0_is (p := [128, 0, 0, 0, 0, 0, 0, 0, 0, 0, 0, 0, 0, 0, 0, 0, 0, 0, 0, 0, 0, 0, 0, 0, 0, 0, 0, 0, 0, 0, 0, 0, 0, 0, 0, 0, 0, 0, 0, 0, 0, 0, 0, 0, 0, 0, 0, 0, 0, 2, 104]) (by decide +kernel) (by decide +kernel) (W := [825241648, 808464432, 808464432, 813694976, 0, 0, 0, 0, 0, 0, 0, 0, 0, 0, 0, 616]) (by decide +kernel) (t := ⟨3375304649, 1269496148, 3592312217, 83246612, 800957505, 2750799647, 3707950765, 2463971488⟩) (by kernel_rfl) (by kernel_rfl)

theorem mac0_p4611686018427387904 : macL [] [52, 54, 49, 49, 54, 56, 54, 48, 49, 56, 52, 50, 55, 51, 56, 55, 57, 48, 52] = outB (stL ⟨3290398829, 6847900, 1857966343, 3972698158, 4191135028, 1097731363, 2116057685, 3993018963⟩) := mac_by si0_is so0_is (p := [128, 0, 0, 0, 0, 0, 0, 0, 0, 0, 0, 0, 0, 0, 0, 0, 0, 0, 0, 0, 0, 0, 0, 0, 0, 0, 0, 0, 0, 0, 0, 0, 0, 0, 0, 0, 0, 0, 0, 0, 0, 0, 0, 2, 152]) (by decide +kernel) (by decide +kernel) (W := [875966769, 909653552, 825766962, 926103607, 959460480, 0, 0, 0, 0, 0, 0, 0, 0, 0, 0, 664]) (by decide +kernel) (t := ⟨3059926021, 2971489928, 2555893951, 2478701719, 1028446850, 1240522421, 2223816412, 2835656615⟩) (by kernel_rfl) (by kernel_rfl)

theorem mac0_p9223372036854775807 : macL [] [57, 50, 50, 51, 51, 55, 50, 48, 51, 54, 56, 53, 52, 55, 55, 53, 56, 48, 55] = outB (stL ⟨3825070183, 2368373315, 916727839, 1410849763, 3087656575, 2504516282, 3751122138, 1131399099⟩) := mac_by si0_is so0_is (p := [128, 0, 0, 0, 0, 0, 0, 0, 0, 0, 0, 0, 0, 0, 0, 0, 0, 0, 0, 0, 0, 0, 0, 0, 0, 0, 0, 0, 0, 0, 0, 0, 0, 0, 0, 0, 0, 0, 0, 0, 0, 0, 0, 2, 152]) (by decide +kernel) (by decide +kernel) (W := [959590963, 859255344, 859191349, 876033845, 942684032, 0, 0, 0, 0, 0, 0, 0, 0, 0, 0, 664]) (by decide +kernel) (t := ⟨1890438281, 1559138272, 2445679987, 3185934102, 3255455390, 1710404105, 246902713, 3158763651⟩) (by kernel_rfl) (by kernel_rfl)

theorem ne0_p0 : nameL [] (Lib.itoa (0)) ≠ nameL [] (Lib.itoa (1)) := by
  rw [itoa_p0, itoa_p1]
  intro h
  exact absurd (name_inj mac0_p0 mac0_p1 (by unfold okS; decide) (by unfold okS; decide) h).1 (by decide)

theorem ne0_m1 : nameL [] (Lib.itoa (-1)) ≠ nameL [] (Lib.itoa (1)) := by
  rw [itoa_m1, itoa_p1]
  intro h
  exact absurd (name_inj mac0_m1 mac0_p1 (by unfold okS; decide) (by unfold okS; decide) h).1 (by decide)

theorem ne0_p999999999999 : nameL [] (Lib.itoa (999999999999)) ≠ nameL [] (Lib.itoa (500000000000)) := by
  rw [itoa_p999999999999, itoa_p500000000000]
  intro h
  exact absurd (name_inj mac0_p999999999999 mac0_p500000000000 (by unfold okS; decide) (by unfold okS; decide) h).1 (by decide)

theorem ne0_p1000000000000 : nameL [] (Lib.itoa (1000000000000)) ≠ nameL [] (Lib.itoa (500000000001)) := by
  rw [itoa_p1000000000000, itoa_p500000000001]
  intro h
  exact absurd (name_inj mac0_p1000000000000 mac0_p500000000001 (by unfold okS; decide) (by unfold okS; decide) h).1 (by decide)

theorem ne0_p9223372036854775807 : nameL [] (Lib.itoa (9223372036854775807)) ≠ nameL [] (Lib.itoa (4611686018427387904)) := by
  rw [itoa_p9223372036854775807, itoa_p4611686018427387904]
  intro h
  exact absurd (name_inj mac0_p9223372036854775807 mac0_p4611686018427387904 (by unfold okS; decide) (by unfold okS; decide) h).1 (by decide)

theorem ne0_m9223372036854775808 : nameL [] (Lib.itoa (-9223372036854775808)) ≠ nameL [] (Lib.itoa (-4611686018427387903)) := by
  rw [itoa_m9223372036854775808, itoa_m4611686018427387903]
  intro h
  exact absurd (name_inj mac0_m9223372036854775808 mac0_m4611686018427387903 (by unfold okS; decide) (by unfold okS; decide) h).1 (by decide)

theorem mac1_m9223372036854775808 : macL [115, 101, 101, 100] [45, 57, 50, 50, 51, 51, 55, 50, 48, 51, 54, 56, 53, 52, 55, 55, 53, 56, 48, 56] = outB (stL ⟨3641099249, 2974755341, 3844924442, 2759191302, 4061427485, 3302434960, 2577359613, 2284431082⟩) := mac_by si1_is so1_is (p := [128, 0, 0, 0, 0, 0, 0, 0, 0, 0, 0, 0, 0, 0, 0, 0, 0, 0, 0, 0, 0, 0, 0, 0, 0, 0, 0, 0, 0, 0, 0, 0, 0, 0, 0, 0, 0, 0, 0, 0, 0, 0, 2, 160]) (by decide +kernel) (by decide +kernel) (W := [758723122, 858994482, 808662584, 892614455, 892874808, 2147483648, 0, 0, 0, 0, 0, 0, 0, 0, 0, 672]) (by decide +kernel) (t := ⟨278310539, 4291542529, 3778916404, 1258276926, 4126678919, 3759918733, 64536949, 2222947970⟩) (by kernel_rfl) (by kernel_rfl)

theorem mac1_m4611686018427387903 : macL [115, 101, 101, 100] [45, 52, 54, 49, 49, 54, 56, 54, 48, 49, 56, 52, 50, 55, 51, 56, 55, 57, 48, 51] = outB (stL ⟨241929231, 1367113201, 1612555018, 855991351, 3181897704, 3159480729, 4160554830, 602909612⟩) := mac_by si1_is so1_is (p := [128, 0, 0, 0, 0, 0, 0, 0, 0, 0, 0, 0, 0, 0, 0, 0, 0, 0, 0, 0, 0, 0, 0, 0, 0, 0, 0, 0, 0, 0, 0, 0, 0, 0, 0, 0, 0, 0, 0, 0, 0, 0, 2, 160]) (by decide +kernel) (by decide +kernel) (W := [758396465, 825636918, 808532020, 842478392, 926494771, 2147483648, 0, 0, 0, 0, 0, 0, 0, 0, 0, 672]) (by decide +kernel) (t := ⟨3082499847, 4001684701, 3581519921, 1859678346, 3621450644, 3706625523, 3088013194, 2917143430⟩) (by kernel_rfl) (by kernel_rfl)

theorem mac1_m1 : macL [115, 101, 101, 100] [45, 49] = outB (stL ⟨764495122, 1354670876, 1696723897, 1072652873, 1895553624, 3181812674, 2800716664, 2281823528⟩) := mac_by si1_is so1_is (p := [128, 0, 0, 0, 0, 0, 0, 0, 0, 0, 0, 0, 0, 0, 0, 0, 0, 0, 0, 0, 0, 0, 0, 0, 0, 0, 0, 0, 0, 0, 0, 0, 0, 0, 0, 0, 0, 0, 0, 0, 0, 0, 0, 0, 0, 0, 0, 0, 0, 0, 0, 0, 0, 0, 0, 0, 0, 0, 0, 0, 2, 16]) (by decide +kernel) (by decide +kernel) (W := [758218752, 0, 0, 0, 0, 0, 0, 0, 0, 0, 0, 0, 0, 0, 0, 528]) (by decide +kernel) (t := ⟨1539036717, 1206777, 904321904, 3824621105, 3211292308, 3508506948, 2694100963, 2169622064⟩) (by kernel_rfl) (by kernel_rfl)

theorem mac1_p0 : macL [115, 101, 101, 100] [48] = outB (stL ⟨63254422, 1761549095, 182788645, 525002986, 548481524, 4187728613, 1776434731, 2284138779⟩) := mac_by si1_is so1_is (p := [128, 0, 0, 0, 0, 0, 0, 0, 0, 0, 0, 0, 0, 0, 0, 0, 0, 0, 0, 0, 0, 0, 0, 0, 0, 0, 0, 0, 0, 0, 0, 0, 0, 0, 0, 0, 0, 0, 0, 0, 0, 0, 0, 0, 0, 0, 0, 0, 0, 0, 0, 0, 0, 0, 0, 0, 0, 0, 0, 0, 0, 2, 8]) (by decide +kernel) (by decide +kernel) (W := [813694976, 0, 0, 0, 0, 0, 0, 0, 0, 0, 0, 0, 0, 0, 0, 520]) (by decide +kernel) (t := ⟨2755287464, 623241349, 3429733348, 4277031515, 2032890831, 1130189297, 1686195650, 1519192112⟩) (by kernel_rfl) (by kernel_rfl)

theorem mac1_p1 : macL [115, 101, 101, 100] [49] = outB (stL ⟨1632666520, 2325853435, 801567990, 2032538728, 3814985322, 2900071267, 145556466, 2373303739⟩) := mac_by si1_is so1_is (p := [128, 0, 0, 0, 0, 0, 0, 0, 0, 0, 0, 0, 0, 0, 0, 0, 0, 0, 0, 0, 0, 0, 0, 0, 0, 0, 0, 0, 0, 0, 0, 0, 0, 0, 0, 0, 0, 0, 0, 0, 0, 0, 0, 0, 0, 0, 0, 0, 0, 0, 0, 0, 0, 0, 0, 0, 0, 0, 0, 0, 0, 2, 8]) (by decide +kernel) (by decide +kernel) (W := [830472192, 0, 0, 0, 0, 0, 0, 0, 0, 0, 0, 0, 0, 0, 0, 520]) (by decide +kernel) (t := ⟨823803717, 1357820030, 266627318, 3152748527, 3863808673, 1132216985, 3353042434, 905617922⟩) (by kernel_rfl) (by kernel_rfl)

theorem mac1_p500000000000 : macL [115, 101, 101, 100] [53, 48, 48, 48, 48, 48, 48, 48, 48, 48, 48, 48] = outB (stL ⟨4128058114, 1289237602, 1845955601, 3613828434, 326599091, 1399289617, 2429697932, 1898813301⟩) := mac_by si1_is so1_is (p := [128, 0, 0, 0, 0, 0, 0, 0, 0, 0, 0, 0, 0, 0, 0, 0, 0, 0, 0, 0, 0, 0, 0, 0, 0, 0, 0, 0, 0, 0, 0, 0, 0, 0, 0, 0, 0, 0, 0, 0, 0, 0, 0, 0, 0, 0, 0, 0, 0, 0, 2, 96]) (by decide +kernel) (by decide +kernel) (W := [892350512, 808464432, 808464432, 2147483648, 0, 0, 0, 0, 0, 0, 0, 0, 0, 0, 0, 608]) (by decide +kernel) (t := ⟨366866054, 2364385704, 2174368336, 1889599305, 1020412465, 3685102970, 199202027, 130508105⟩) (by kernel_rfl) (by kernel_rfl)

theorem mac1_p500000000001 : macL [115, 101, 101, 100] [53, 48, 48, 48, 48, 48, 48, 48, 48, 48, 48, 49] = outB (stL ⟨3768540408, 3576012083, 4105084602, 174417381, 3215888206, 2306268977, 1082944671, 314935483⟩) := mac_by si1_is so1_is (p := [128, 0, 0, 0, 0, 0, 0, 0, 0, 0, 0, 0, 0, 0, 0, 0, 0, 0, 0, 0, 0, 0, 0, 0, 0, 0, 0, 0, 0, 0, 0, 0, 0, 0, 0, 0, 0, 0, 0, 0, 0, 0, 0, 0, 0, 0, 0, 0, 0, 0, 2, 96]) (by decide +kernel) (by decide +kernel) (W := [892350512, 808464432, 808464433, 2147483648, 0, 0, 0, 0, 0, 0, 0, 0, 0, 0, 0, 608]) (by decide +kernel) (t := ⟨3341450084, 2666821404, 1189768459, 3262604038, 1593375730, 3710530754, 2242069384, 1306228162⟩) (by kernel_rfl) (by kernel_rfl)

theorem mac1_p999999999999 : macL [115, 101, 101, 100] [57, 57, 57, 57, 57, 57, 57, 57, 57, 57, 57, 57] = outB (stL ⟨663444665, 3250662077, 931450807, 620885042, 3551491359, 4178684541, 461901351, 2745432630⟩) := mac_by si1_is so1_is (p := [128, 0, 0, 0, 0, 0, 0, 0, 0, 0, 0, 0, 0, 0, 0, 0, 0, 0, 0, 0, 0, 0, 0, 0, 0, 0, 0, 0, 0, 0, 0, 0, 0, 0, 0, 0, 0, 0, 0, 0, 0, 0, 0, 0, 0, 0, 0, 0, 0, 0, 2, 96]) (by decide +kernel) (by decide +kernel) (W := [960051513, 960051513, 960051513, 2147483648, 0, 0, 0, 0, 0, 0, 0, 0, 0, 0, 0, 608]) (by decide +kernel) (t := ⟨848767912, 2123848248, 100544636, 675612010, 3982299365, 255287380, 3468449082, 803522182⟩) (by kernel_rfl) (by kernel_rfl)

theorem mac1_p1000000000000 : macL [115, 101, 101, 100] [49, 48, 48, 48, 48, 48, 48, 48, 48, 48, 48, 48, 48] = outB (stL ⟨3641382742, 843098959, 1183392987, 2092136683, 74018028, 4048753758, 881892811, 3878207529⟩) := mac_by si1_is so1_is (p := [128, 0, 0, 0, 0, 0, 0, 0, 0, 0, 0, 0, 0, 0, 0, 0, 0, 0, 0, 0, 0, 0, 0, 0, 0, 0, 0, 0, 0, 0, 0, 0, 0, 0, 0, 0, 0, 0, 0, 0, 0, 0, 0, 0, 0, 0, 0, 0, 0, 2, 104]) (by decide +kernel) (by decide +kernel) (W := [825241648, 808464432, 808464432, 813694976, 0, 0, 0, 0, 0, 0, 0, 0, 0, 0, 0, 616]) (by decide +kernel) (t := ⟨138404053, 2091407884, 2487522756, 1039121844, 2691493239, 1802433979, 3876151774, 4065306877⟩) (by kernel_rfl) (by kernel_rfl)

theorem mac1_p4611686018427387904 : macL [115, 101, 101, 100] [52, 54, 49, 49, 54, 56, 54, 48, 49, 56, 52, 50, 55, 51, 56, 55, 57, 48, 52] = outB (stL ⟨1319248941, 2738513602, 241233202, 1318098600, 336707256, 324726508, 1463998100, 1901691884⟩) := mac_by si1_is so1_is (p := [128, 0, 0, 0, 0, 0, 0, 0, 0, 0, 0, 0, 0, 0, 0, 0, 0, 0, 0, 0, 0, 0, 0, 0, 0, 0, 0, 0, 0, 0, 0, 0, 0, 0, 0, 0, 0, 0, 0, 0, 0, 0, 0, 2, 152]) (by decide +kernel) (by decide +kernel) (W := [875966769, 909653552, 825766962, 926103607, 959460480, 0, 0, 0, 0, 0, 0, 0, 0, 0, 0, 664]) (by decide +kernel) (t := ⟨951172637, 2521284865, 1933096454, 2630601006, 1803033646, 824295249, 2167841032, 4203992632⟩) (by kernel_rfl) (by kernel_rfl)

theorem mac1_p9223372036854775807 : macL [115, 101, 101, 100] [57, 50, 50, 51, 51, 55, 50, 48, 51, 54, 56, 53, 52, 55, 55, 53, 56, 48, 55] = outB (stL ⟨3925381031, 3363531470, 506865115, 4102017820, 2900083754, 1492698998, 3225890908, 3946089582⟩) := mac_by si1_is so1_is (p := [128, 0, 0, 0, 0, 0, 0, 0, 0, 0, 0, 0, 0, 0, 0, 0, 0, 0, 0, 0, 0, 0, 0, 0, 0, 0, 0, 0, 0, 0, 0, 0, 0, 0, 0, 0, 0, 0, 0, 0, 0, 0, 0, 2, 152]) (by decide +kernel) (by decide +kernel) (W := [959590963, 859255344, 859191349, 876033845, 942684032, 0, 0, 0, 0, 0, 0, 0, 0, 0, 0, 664]) (by decide +kernel) (t := ⟨3049026470, 1159136686, 2617688215, 3600460295, 2412383918, 735934313, 788025152, 3162884686⟩) (by kernel_rfl) (by kernel_rfl)

theorem ne1_p0 : nameL [115, 101, 101, 100] (Lib.itoa (0)) ≠ nameL [115, 101, 101, 100] (Lib.itoa (1)) := by
  rw [itoa_p0, itoa_p1]
  intro h
  exact absurd (name_inj mac1_p0 mac1_p1 (by unfold okS; decide) (by unfold okS; decide) h).1 (by decide)

theorem ne1_m1 : nameL [115, 101, 101, 100] (Lib.itoa (-1)) ≠ nameL [115, 101, 101, 100] (Lib.itoa (1)) := by
  rw [itoa_m1, itoa_p1]
  intro h
  exact absurd (name_inj mac1_m1 mac1_p1 (by unfold okS; decide) (by unfold okS; decide) h).1 (by decide)

theorem ne1_p999999999999 : nameL [115, 101, 101, 100] (Lib.itoa (999999999999)) ≠ nameL [115, 101, 101, 100] (Lib.itoa (500000000000)) := by
  rw [itoa_p999999999999, itoa_p500000000000]
  intro h
  exact absurd (name_inj mac1_p999999999999 mac1_p500000000000 (by unfold okS; decide) (by unfold okS; decide) h).1 (by decide)

theorem ne1_p1000000000000 : nameL [115, 101, 101, 100] (Lib.itoa (1000000000000)) ≠ nameL [115, 101, 101, 100] (Lib.itoa (500000000001)) := by
  rw [itoa_p1000000000000, itoa_p500000000001]
  intro h
  exact absurd (name_inj mac1_p1000000000000 mac1_p500000000001 (by unfold okS; decide) (by unfold okS; decide) h).1 (by decide)

theorem ne1_p9223372036854775807 : nameL [115, 101, 101, 100] (Lib.itoa (9223372036854775807)) ≠ nameL [115, 101, 101, 100] (Lib.itoa (4611686018427387904)) := by
  rw [itoa_p9223372036854775807, itoa_p4611686018427387904]
  intro h
  exact absurd (name_inj mac1_p9223372036854775807 mac1_p4611686018427387904 (by unfold okS; decide) (by unfold okS; decide) h).1 (by decide)

theorem ne1_m9223372036854775808 : nameL [115, 101, 101, 100] (Lib.itoa (-9223372036854775808)) ≠ nameL [115, 101, 101, 100] (Lib.itoa (-4611686018427387903)) := by
  rw [itoa_m9223372036854775808, itoa_m4611686018427387903]
  intro h
  exact absurd (name_inj mac1_m9223372036854775808 mac1_m4611686018427387903 (by unfold okS; decide) (by unfold okS; decide) h).1 (by decide)

theorem mac2_m9223372036854775808 : macL [111, 116, 104, 101, 114] [45, 57, 50, 50, 51, 51, 55, 50, 48, 51, 54, 56, 53, 52, 55, 55, 53, 56, 48, 56] = outB (stL ⟨2595346324, 1651535025, 1997691538, 4276094257, 1619183353, 792303145, 4072022448, 314098897⟩) := mac_by si2_is so2_is (p := [128, 0, 0, 0, 0, 0, 0, 0, 0, 0, 0, 0, 0, 0, 0, 0, 0, 0, 0, 0, 0, 0, 0, 0, 0, 0, 0, 0, 0, 0, 0, 0, 0, 0, 0, 0, 0, 0, 0, 0, 0, 0, 2, 160]) (by decide +kernel) (by decide +kernel) (W := [758723122, 858994482, 808662584, 892614455, 892874808, 2147483648, 0, 0, 0, 0, 0, 0, 0, 0, 0, 672]) (by decide +kernel) (t := ⟨1126510282, 3614710144, 3020863398, 2425114716, 3641089899, 2773081408, 3504500950, 592917621⟩) (by kernel_rfl) (by kernel_rfl)

theorem mac2_m4611686018427387903 : macL [111, 116, 104, 101, 114] [45, 52, 54, 49, 49, 54, 56, 54, 48, 49, 56, 52, 50, 55, 51, 56, 55, 57, 48, 51] = outB (stL ⟨4147867690, 1213133053, 40000891, 2809849338, 2969578981, 3255405776, 2846723496, 1741270964⟩) := mac_by si2_is so2_is (p := [128, 0, 0, 0, 0, 0, 0, 0, 0, 0, 0, 0, 0, 0, 0, 0, 0, 0, 0, 0, 0, 0, 0, 0, 0, 0, 0, 0, 0, 0, 0, 0, 0, 0, 0, 0, 0, 0, 0, 0, 0, 0, 2, 160]) (by decide +kernel) (by decide +kernel) (W := [758396465, 825636918, 808532020, 842478392, 926494771, 2147483648, 0, 0, 0, 0, 0, 0, 0, 0, 0, 672]) (by decide +kernel) (t := ⟨3896957273, 3505351872, 2312279652, 1732373130, 1693231084, 4102321014, 523803457, 2118378659⟩) (by kernel_rfl) (by kernel_rfl)

theorem mac2_m1 : macL [111, 116, 104, 101, 114] [45, 49] = outB (stL ⟨1792668415, 1620475092, 3152859061, 218974938, 3908306769, 912461804, 3839288799, 2263123207⟩) := mac_by si2_is so2_is (p := [128, 0, 0, 0, 0, 0, 0, 0, 0, 0, 0, 0, 0, 0, 0, 0, 0, 0, 0, 0, 0, 0, 0, 0, 0, 0, 0, 0, 0, 0, 0, 0, 0, 0, 0, 0, 0, 0, 0, 0, 0, 0, 0, 0, 0, 0, 0, 0, 0, 0, 0, 0, 0, 0, 0, 0, 0, 0, 0, 0, 2, 16]) (by decide +kernel) (by decide +kernel) (W := [758218752, 0, 0, 0, 0, 0, 0, 0, 0, 0, 0, 0, 0, 0, 0, 528]) (by decide +kernel) (t := ⟨234582117, 118440590, 1970353867, 2985623467, 346519903, 787610764, 220701146, 498478514⟩) (by kernel_rfl) (by kernel_rfl)

theorem mac2_p0 : macL [111, 116, 104, 101, 114] [48] = outB (stL ⟨2787557671, 2537782723, 2771378627, 3452477319, 2893032337, 4113947776, 1801261865, 2729342034⟩) := mac_by si2_is so2_is (p := [128, 0, 0, 0, 0, 0, 0, 0, 0, 0, 0, 0, 0, 0, 0, 0, 0, 0, 0, 0, 0, 0, 0, 0, 0, 0, 0, 0, 0, 0, 0, 0, 0, 0, 0, 0, 0, 0, 0, 0, 0, 0, 0, 0, 0, 0, 0, 0, 0, 0, 0, 0, 0, 0, 0, 0, 0, 0, 0, 0, 0, 2, 8]) (by decide +kernel) (by decide +kernel) (W := [813694976, 0, 0, 0, 0, 0, 0, 0, 0, 0, 0, 0, 0, 0, 0, 520]) (by decide +kernel) (t := ⟨155614380, 2305846749, 2209394292, 242781081, 2049413369, 1970665657, 3563479093, 3130351925⟩) (by kernel_rfl) (by kernel_rfl)

theorem mac2_p1 : macL [111, 116, 104, 101, 114] [49] = outB (stL ⟨3382290500, 417803792, 3763171093, 1532625922, 3839862555, 134379471, 1628162967, 1551502216⟩) := mac_by si2_is so2_is (p := [128, 0, 0, 0, 0, 0, 0, 0, 0, 0, 0, 0, 0, 0, 0, 0, 0, 0, 0, 0, 0, 0, 0, 0, 0, 0, 0, 0, 0, 0, 0, 0, 0, 0, 0, 0, 0, 0, 0, 0, 0, 0, 0, 0, 0, 0, 0, 0, 0, 0, 0, 0, 0, 0, 0, 0, 0, 0, 0, 0, 0, 2, 8]) (by decide +kernel) (by decide +kernel) (W := [830472192, 0, 0, 0, 0, 0, 0, 0, 0, 0, 0, 0, 0, 0, 0, 520]) (by decide +kernel) (t := ⟨975413475, 410047244, 636588012, 641845694, 1175791728, 3633509340, 2684327538, 3621153725⟩) (by kernel_rfl) (by kernel_rfl)

theorem mac2_p500000000000 : macL [111, 116, 104, 101, 114] [53, 48, 48, 48, 48, 48, 48, 48, 48, 48, 48, 48] = outB (stL ⟨42653522, 338789778, 54594362, 372027465, 3354239564, 708327121, 705457772, 3667917174⟩) := mac_by si2_is so2_is (p := [128, 0, 0, 0, 0, 0, 0, 0, 0, 0, 0, 0, 0, 0, 0, 0, 0, 0, 0, 0, 0, 0, 0, 0, 0, 0, 0, 0, 0, 0, 0, 0, 0, 0, 0, 0, 0, 0, 0, 0, 0, 0, 0, 0, 0, 0, 0, 0, 0, 0, 2, 96]) (by decide +kernel) (by decide +kernel) (W := [892350512, 808464432, 808464432, 2147483648, 0, 0, 0, 0, 0, 0, 0, 0, 0, 0, 0, 608]) (by decide +kernel) (t := ⟨930823172, 3699688818, 4179596449, 2500098966, 1164642395, 4242094170, 2625590782, 3265915876⟩) (by kernel_rfl) (by kernel_rfl)

theorem mac2_p500000000001 : macL [111, 116, 104, 101, 114] [53, 48, 48, 48, 48, 48, 48, 48, 48, 48, 48, 49] = outB (stL ⟨535256866, 3185570111, 3262606546, 1940970803, 1785885713, 1834764225, 1769944884, 2840814754⟩) := mac_by si2_is so2_is (p := [128, 0, 0, 0, 0, 0, 0, 0, 0, 0, 0, 0, 0, 0, 0, 0, 0, 0, 0, 0, 0, 0, 0, 0, 0, 0, 0, 0, 0, 0, 0, 0, 0, 0, 0, 0, 0, 0, 0, 0, 0, 0, 0, 0, 0, 0, 0, 0, 0, 0, 2, 96]) (by decide +kernel) (by decide +kernel) (W := [892350512, 808464432, 808464433, 2147483648, 0, 0, 0, 0, 0, 0, 0, 0, 0, 0, 0, 608]) (by decide +kernel) (t := ⟨2954621679, 121256529, 151786263, 2523448598, 1979178276, 2799026016, 2564504717, 4090515418⟩) (by kernel_rfl) (by kernel_rfl)

theorem mac2_p999999999999 : macL [111, 116, 104, 101, 114] [57, 57, 57, 57, 57, 57, 57, 57, 57, 57, 57, 57] = outB (stL ⟨2791997282, 3118437895, 1794549017, 1983516686, 918701053, 3543954199, 405995119, 561557059⟩) := mac_by si2_is so2_is (p := [128, 0, 0, 0, 0, 0, 0, 0, 0, 0, 0, 0, 0, 0, 0, 0, 0, 0, 0, 0, 0, 0, 0, 0, 0, 0, 0, 0, 0, 0, 0, 0, 0, 0, 0, 0, 0, 0, 0, 0, 0, 0, 0, 0, 0, 0, 0, 0, 0, 0, 2, 96]) (by decide +kernel) (by decide +kernel) (W := [960051513, 960051513, 960051513, 2147483648, 0, 0, 0, 0, 0, 0, 0, 0, 0, 0, 0, 608]) (by decide +kernel) (t := ⟨220382726, 114168837, 3442865614, 1255419516, 984687220, 909917874, 385212746, 1544009391⟩) (by kernel_rfl) (by kernel_rfl)

theorem mac2_p1000000000000 : macL [111, 116, 104, 101, 114] [49, 48, 48, 48, 48, 48, 48, 48, 48, 48, 48, 48, 48] = outB (stL ⟨4191861635, 16435544, 3312881113, 3718303633, 1911108536, 2376107565, 2889931642, 354305224⟩) := mac_by si2_is so2_is (p := [128, 0, 0, 0, 0, 0, 0, 0, 0, 0, 0, 0, 0, 0, 0, 0, 0, 0, 0, 0, 0, 0, 0, 0, 0, 0, 0, 0, 0, 0, 0, 0, 0, 0, 0, 0, 0, 0, 0, 0, 0, 0, 0, 0, 0, 0, 0, 0, 0, 2, 104]) (by decide +kernel) (by decide +kernel) (W := [825241648, 808464432, 808464432, 813694976, 0, 0, 0, 0, 0, 0, 0, 0, 0, 0, 0, 616]) (by decide +kernel) (t := ⟨3909160378, 436212621, 3816740007, 2862321763, 1780025408, 4240262922, 927766199, 3697622323⟩) (by kernel_rfl) (by kernel_rfl)

theorem mac2_p4611686018427387904 : macL [111, 116, 104, 101, 114] [52, 54, 49, 49, 54, 56, 54, 48, 49, 56, 52, 50, 55, 51, 56, 55, 57, 48, 52] = outB (stL ⟨720617507, 2703421057, 3576493900, 4029247572, 3499578534, 3096459793, 2487482252, 2131461037⟩) := mac_by si2_is so2_is (p := [128, 0, 0, 0, 0, 0, 0, 0, 0, 0, 0, 0, 0, 0, 0, 0, 0, 0, 0, 0, 0, 0, 0, 0, 0, 0, 0, 0, 0, 0, 0, 0, 0, 0, 0, 0, 0, 0, 0, 0, 0, 0, 0, 2, 152]) (by decide +kernel) (by decide +kernel) (W := [875966769, 909653552, 825766962, 926103607, 959460480, 0, 0, 0, 0, 0, 0, 0, 0, 0, 0, 664]) (by decide +kernel) (t := ⟨985794058, 1630344430, 4229240091, 3762513642, 1847928912, 2103168350, 1382364027, 1169645293⟩) (by kernel_rfl) (by kernel_rfl)

theorem mac2_p9223372036854775807 : macL [111, 116, 104, 101, 114] [57, 50, 50, 51, 51, 55, 50, 48, 51, 54, 56, 53, 52, 55, 55, 53, 56, 48, 55] = outB (stL ⟨873565209, 4015930292, 1746815793, 2194818278, 4293998591, 3654373177, 3443909638, 1992298993⟩) := mac_by si2_is so2_is (p := [128, 0, 0, 0, 0, 0, 0, 0, 0, 0, 0, 0, 0, 0, 0, 0, 0, 0, 0, 0, 0, 0, 0, 0, 0, 0, 0, 0, 0, 0, 0, 0, 0, 0, 0, 0, 0, 0, 0, 0, 0, 0, 0, 2, 152]) (by decide +kernel) (by decide +kernel) (W := [959590963, 859255344, 859191349, 876033845, 942684032, 0, 0, 0, 0, 0, 0, 0, 0, 0, 0, 664]) (by decide +kernel) (t := ⟨4054462726, 1478503085, 2164318279, 3398053727, 4145771052, 3388425266, 2936734670, 511322785⟩) (by kernel_rfl) (by kernel_rfl)

theorem ne2_p0 : nameL [111, 116, 104, 101, 114] (Lib.itoa (0)) ≠ nameL [111, 116, 104, 101, 114] (Lib.itoa (1)) := by
  rw [itoa_p0, itoa_p1]
  intro h
  exact absurd (name_inj mac2_p0 mac2_p1 (by unfold okS; decide) (by unfold okS; decide) h).1 (by decide)

theorem ne2_m1 : nameL [111, 116, 104, 101, 114] (Lib.itoa (-1)) ≠ nameL [111, 116, 104, 101, 114] (Lib.itoa (1)) := by
  rw [itoa_m1, itoa_p1]
  intro h
  exact absurd (name_inj mac2_m1 mac2_p1 (by unfold okS; decide) (by unfold okS; decide) h).1 (by decide)

theorem ne2_p999999999999 : nameL [111, 116, 104, 101, 114] (Lib.itoa (999999999999)) ≠ nameL [111, 116, 104, 101, 114] (Lib.itoa (500000000000)) := by
  rw [itoa_p999999999999, itoa_p500000000000]
  intro h
  exact absurd (name_inj mac2_p999999999999 mac2_p500000000000 (by unfold okS; decide) (by unfold okS; decide) h).1 (by decide)

theorem ne2_p1000000000000 : nameL [111, 116, 104, 101, 114] (Lib.itoa (1000000000000)) ≠ nameL [111, 116, 104, 101, 114] (Lib.itoa (500000000001)) := by
  rw [itoa_p1000000000000, itoa_p500000000001]
  intro h
  exact absurd (name_inj mac2_p1000000000000 mac2_p500000000001 (by unfold okS; decide) (by unfold okS; decide) h).1 (by decide)

theorem ne2_p9223372036854775807 : nameL [111, 116, 104, 101, 114] (Lib.itoa (9223372036854775807)) ≠ nameL [111, 116, 104, 101, 114] (Lib.itoa (4611686018427387904)) := by
  rw [itoa_p9223372036854775807, itoa_p4611686018427387904]
  intro h
  exact absurd (name_inj mac2_p9223372036854775807 mac2_p4611686018427387904 (by unfold okS; decide) (by unfold okS; decide) h).1 (by decide)

theorem ne2_m9223372036854775808 : nameL [111, 116, 104, 101, 114] (Lib.itoa (-9223372036854775808)) ≠ nameL [111, 116, 104, 101, 114] (Lib.itoa (-4611686018427387903)) := by
  rw [itoa_m9223372036854775808, itoa_m4611686018427387903]
  intro h
  exact absurd (name_inj mac2_m9223372036854775808 mac2_m4611686018427387903 (by unfold okS; decide) (by unfold okS; decide) h).1 (by decide)

end Go.Proofs.YtabehlipgfihkaaDoor
