/- Stretch's steps, as numbers. -/
import Derived.Test.YtabehlipgfihkaaDoorNameK
namespace Go.Proofs.YtabehlipgfihkaaDoor
set_option linter.unusedVariables false
set_option maxRecDepth 10000
open Sh

theorem st0_0_1 : strN 1 [] [] = outB (stL ⟨3054725018, 135584236, 1999607255, 2026069957, 4279670724, 2473678419, 3334935060, 1116915117⟩) := mac_by si0_is so0_is (p := [128, 0, 0, 0, 0, 0, 0, 0, 0, 0, 0, 0, 0, 0, 0, 0, 0, 0, 0, 0, 0, 0, 0, 0, 0, 0, 0, 0, 0, 0, 0, 0, 0, 0, 0, 0, 0, 0, 0, 0, 0, 0, 0, 0, 0, 0, 0, 0, 0, 0, 0, 0, 0, 0, 0, 0, 0, 0, 0, 0, 0, 0, 2, 0]) (by decide +kernel) (by decide +kernel) (W := [2147483648, 0, 0, 0, 0, 0, 0, 0, 0, 0, 0, 0, 0, 0, 0, 512]) (by decide +kernel) (t := ⟨3878403405, 1117440276, 2829501885, 1231237110, 2953662447, 1118811203, 4038591613, 4033643986⟩) (by kernel_rfl) (by kernel_rfl)

theorem st0_0_2 : strN 2 [] [] = outB (stL ⟨2801373611, 727686888, 104599898, 3082027163, 255576975, 277930415, 3299082016, 780332288⟩) := by
  rw [strN_snoc, st0_0_1]
  exact mac_st si0_is so0_is (by unfold okS; decide) (t := ⟨811594014, 3710205550, 3062827759, 3997523723, 2984420654, 245311336, 1127009916, 1601341410⟩) (by kernel_rfl) (by kernel_rfl)

theorem st0_0_3 : strN 3 [] [] = outB (stL ⟨6333279, 3827117032, 1635957998, 2907006202, 493368172, 1431621955, 2730874187, 2871538375⟩) := by
  rw [strN_snoc, st0_0_2]
  exact mac_st si0_is so0_is (by unfold okS; decide) (t := ⟨897555035, 1451244141, 3968838464, 3925794790, 18579997, 3784309395, 2444114453, 1249513999⟩) (by kernel_rfl) (by kernel_rfl)

theorem st0_0_4 : strN 4 [] [] = outB (stL ⟨418131060, 1024206868, 256915855, 3053525141, 1918864138, 2981502562, 689857073, 405450152⟩) := by
  rw [strN_snoc, st0_0_3]
  exact mac_st si0_is so0_is (by unfold okS; decide) (t := ⟨3735056861, 1654154622, 226731015, 4286078032, 831667738, 75722040, 3155578200, 2668794918⟩) (by kernel_rfl) (by kernel_rfl)

theorem st0_0_5 : strN 5 [] [] = outB (stL ⟨4237946659, 818714512, 1956276185, 3130463000, 4010992691, 2332105977, 753647485, 829556882⟩) := by
  rw [strN_snoc, st0_0_4]
  exact mac_st si0_is so0_is (by unfold okS; decide) (t := ⟨2465167778, 3958997271, 3322901246, 3317886200, 403210584, 2993108416, 343650231, 1018030791⟩) (by kernel_rfl) (by kernel_rfl)

theorem st0_0_6 : strN 6 [] [] = outB (stL ⟨2302828865, 3299791993, 4281380494, 2152193911, 2409250437, 1355265583, 8923192, 3970969628⟩) := by
  rw [strN_snoc, st0_0_5]
  exact mac_st si0_is so0_is (by unfold okS; decide) (t := ⟨3577964257, 4109735523, 1249520986, 287265419, 14978749, 2164642598, 3683499034, 3804351155⟩) (by kernel_rfl) (by kernel_rfl)

theorem st0_0_7 : strN 7 [] [] = outB (stL ⟨685101029, 2183640444, 1537970655, 2404615588, 3484111929, 252517724, 473188793, 626132271⟩) := by
  rw [strN_snoc, st0_0_6]
  exact mac_st si0_is so0_is (by unfold okS; decide) (t := ⟨2612733201, 4166280094, 3251036883, 1078551379, 1711264886, 2799350818, 2553243954, 1988081725⟩) (by kernel_rfl) (by kernel_rfl)

theorem st0_0_8 : strN 8 [] [] = outB (stL ⟨452073356, 3700217114, 3621820571, 2143984609, 842479735, 3300863321, 3388521615, 1127848745⟩) := by
  rw [strN_snoc, st0_0_7]
  exact mac_st si0_is so0_is (by unfold okS; decide) (t := ⟨632433752, 3408759466, 3016474585, 137219494, 1268106375, 3452539358, 700964646, 771222238⟩) (by kernel_rfl) (by kernel_rfl)

theorem st0_0_9 : strN 9 [] [] = outB (stL ⟨1455437141, 241363260, 2138026837, 2180644846, 4018225228, 1507775076, 3039735935, 427843424⟩) := by
  rw [strN_snoc, st0_0_8]
  exact mac_st si0_is so0_is (by unfold okS; decide) (t := ⟨1809109744, 3901978436, 3765035450, 977891613, 3218519509, 1154380902, 2073295957, 2156190942⟩) (by kernel_rfl) (by kernel_rfl)

theorem st0_0_10 : strN 10 [] [] = outB (stL ⟨3715349041, 4180112296, 1360568901, 921091200, 3272612946, 429450244, 880178236, 838003967⟩) := by
  rw [strN_snoc, st0_0_9]
  exact mac_st si0_is so0_is (by unfold okS; decide) (t := ⟨1601235060, 286995012, 2962881821, 171089353, 3797821851, 693937024, 3552968580, 1307288816⟩) (by kernel_rfl) (by kernel_rfl)

theorem st0_0_11 : strN 11 [] [] = outB (stL ⟨3944505051, 4038166143, 3811125887, 3291809878, 3405184505, 951767513, 2148266964, 2879343281⟩) := by
  rw [strN_snoc, st0_0_10]
  exact mac_st si0_is so0_is (by unfold okS; decide) (t := ⟨2328473703, 986315312, 2016650622, 4057537193, 1849412425, 2765632383, 2624518386, 1168345391⟩) (by kernel_rfl) (by kernel_rfl)

theorem st0_0_12 : strN 12 [] [] = outB (stL ⟨3671244317, 96423284, 2647020384, 2689415307, 3157657437, 1483068849, 1648772483, 1713634731⟩) := by
  rw [strN_snoc, st0_0_11]
  exact mac_st si0_is so0_is (by unfold okS; decide) (t := ⟨1499617361, 3574297576, 3913560868, 1188800201, 3719488014, 3987932355, 1179371194, 452208223⟩) (by kernel_rfl) (by kernel_rfl)

theorem st0_0_13 : strN 13 [] [] = outB (stL ⟨574453654, 538478522, 2577981396, 3845788613, 1099738571, 690579285, 2415273234, 95345545⟩) := by
  rw [strN_snoc, st0_0_12]
  exact mac_st si0_is so0_is (by unfold okS; decide) (t := ⟨288368093, 1569636875, 3359667094, 751250703, 1040924686, 3079511148, 428165099, 3460478450⟩) (by kernel_rfl) (by kernel_rfl)

theorem st0_0_14 : strN 14 [] [] = outB (stL ⟨1957342892, 20999351, 128885053, 843171436, 122789232, 3639153640, 3569145801, 1341955765⟩) := by
  rw [strN_snoc, st0_0_13]
  exact mac_st si0_is so0_is (by unfold okS; decide) (t := ⟨667777108, 1890498646, 2855781004, 1928950698, 4040837997, 3039660993, 4204845338, 893319903⟩) (by kernel_rfl) (by kernel_rfl)

theorem st0_0_15 : strN 15 [] [] = outB (stL ⟨1234808586, 797821325, 1898986962, 2526846899, 4228141123, 723896754, 1398752716, 479220064⟩) := by
  rw [strN_snoc, st0_0_14]
  exact mac_st si0_is so0_is (by unfold okS; decide) (t := ⟨2680604351, 2991303095, 1982801351, 2142676480, 3387350945, 4189173088, 2656566537, 2378661459⟩) (by kernel_rfl) (by kernel_rfl)

theorem st0_0_16 : strN 16 [] [] = outB (stL ⟨2831969339, 1963035792, 3120314484, 2357003630, 1940686505, 3747765642, 3592175850, 373988343⟩) := by
  rw [strN_snoc, st0_0_15]
  exact mac_st si0_is so0_is (by unfold okS; decide) (t := ⟨4241942480, 387446487, 808713291, 736560174, 3425953520, 373185436, 3072953556, 2210631286⟩) (by kernel_rfl) (by kernel_rfl)

theorem st0_0_17 : strN 17 [] [] = outB (stL ⟨1059581239, 1024203894, 2301556574, 2972915515, 2639880449, 1735699160, 161763126, 2186851868⟩) := by
  rw [strN_snoc, st0_0_16]
  exact mac_st si0_is so0_is (by unfold okS; decide) (t := ⟨3684333071, 1596220278, 441221828, 1005588966, 60241837, 1675360743, 47811162, 420843765⟩) (by kernel_rfl) (by kernel_rfl)

theorem st0_0_18 : strN 18 [] [] = outB (stL ⟨1574357262, 2499267187, 2747322475, 4129950622, 2446374523, 1317667604, 3934869187, 557761912⟩) := by
  rw [strN_snoc, st0_0_17]
  exact mac_st si0_is so0_is (by unfold okS; decide) (t := ⟨3810362654, 337688092, 2358497214, 1981598260, 3665980969, 33692371, 3638943089, 2102007925⟩) (by kernel_rfl) (by kernel_rfl)

theorem st0_0_19 : strN 19 [] [] = outB (stL ⟨3495397497, 1361294638, 2537620199, 364929046, 2612260517, 2354240238, 2281559451, 358046668⟩) := by
  rw [strN_snoc, st0_0_18]
  exact mac_st si0_is so0_is (by unfold okS; decide) (t := ⟨1950787622, 2112397661, 2266626489, 1710365074, 2637988663, 3662137973, 2242149560, 3402983145⟩) (by kernel_rfl) (by kernel_rfl)

theorem st0_0_20 : strN 20 [] [] = outB (stL ⟨632009866, 2257603391, 36065041, 1613488293, 3666929142, 1039142888, 3907064931, 3319254986⟩) := by
  rw [strN_snoc, st0_0_19]
  exact mac_st si0_is so0_is (by unfold okS; decide) (t := ⟨1940870091, 3668864015, 534059927, 3166067191, 4218377383, 666073839, 4014172467, 369937194⟩) (by kernel_rfl) (by kernel_rfl)

theorem st0_0_21 : strN 21 [] [] = outB (stL ⟨2991188006, 1477477369, 874981995, 3502726427, 3404019862, 394287771, 1083151560, 2054782464⟩) := by
  rw [strN_snoc, st0_0_20]
  exact mac_st si0_is so0_is (by unfold okS; decide) (t := ⟨1852622521, 2996238088, 3548802813, 2621414200, 4194181969, 3007995164, 2944708981, 2460612628⟩) (by kernel_rfl) (by kernel_rfl)

theorem sd0_0 (n : Nat) (h1 : 1 ≤ n) (h2 : n ≤ 20) : strN (n + 1) [] [] ≠ strN n [] [] := by
  intro h
  rcases (show n = 1 ∨ n = 2 ∨ n = 3 ∨ n = 4 ∨ n = 5 ∨ n = 6 ∨ n = 7 ∨ n = 8 ∨ n = 9 ∨ n = 10 ∨ n = 11 ∨ n = 12 ∨ n = 13 ∨ n = 14 ∨ n = 15 ∨ n = 16 ∨ n = 17 ∨ n = 18 ∨ n = 19 ∨ n = 20 by omega) with rfl | rfl | rfl | rfl | rfl | rfl | rfl | rfl | rfl | rfl | rfl | rfl | rfl | rfl | rfl | rfl | rfl | rfl | rfl | rfl
  · rw [st0_0_1, show 1 + 1 = 2 from rfl, st0_0_2] at h; exact absurd (out_inj (by unfold okS; decide) (by unfold okS; decide) h).1 (by decide)
  · rw [st0_0_2, show 2 + 1 = 3 from rfl, st0_0_3] at h; exact absurd (out_inj (by unfold okS; decide) (by unfold okS; decide) h).1 (by decide)
  · rw [st0_0_3, show 3 + 1 = 4 from rfl, st0_0_4] at h; exact absurd (out_inj (by unfold okS; decide) (by unfold okS; decide) h).1 (by decide)
  · rw [st0_0_4, show 4 + 1 = 5 from rfl, st0_0_5] at h; exact absurd (out_inj (by unfold okS; decide) (by unfold okS; decide) h).1 (by decide)
  · rw [st0_0_5, show 5 + 1 = 6 from rfl, st0_0_6] at h; exact absurd (out_inj (by unfold okS; decide) (by unfold okS; decide) h).1 (by decide)
  · rw [st0_0_6, show 6 + 1 = 7 from rfl, st0_0_7] at h; exact absurd (out_inj (by unfold okS; decide) (by unfold okS; decide) h).1 (by decide)
  · rw [st0_0_7, show 7 + 1 = 8 from rfl, st0_0_8] at h; exact absurd (out_inj (by unfold okS; decide) (by unfold okS; decide) h).1 (by decide)
  · rw [st0_0_8, show 8 + 1 = 9 from rfl, st0_0_9] at h; exact absurd (out_inj (by unfold okS; decide) (by unfold okS; decide) h).1 (by decide)
  · rw [st0_0_9, show 9 + 1 = 10 from rfl, st0_0_10] at h; exact absurd (out_inj (by unfold okS; decide) (by unfold okS; decide) h).1 (by decide)
  · rw [st0_0_10, show 10 + 1 = 11 from rfl, st0_0_11] at h; exact absurd (out_inj (by unfold okS; decide) (by unfold okS; decide) h).1 (by decide)
  · rw [st0_0_11, show 11 + 1 = 12 from rfl, st0_0_12] at h; exact absurd (out_inj (by unfold okS; decide) (by unfold okS; decide) h).1 (by decide)
  · rw [st0_0_12, show 12 + 1 = 13 from rfl, st0_0_13] at h; exact absurd (out_inj (by unfold okS; decide) (by unfold okS; decide) h).1 (by decide)
  · rw [st0_0_13, show 13 + 1 = 14 from rfl, st0_0_14] at h; exact absurd (out_inj (by unfold okS; decide) (by unfold okS; decide) h).1 (by decide)
  · rw [st0_0_14, show 14 + 1 = 15 from rfl, st0_0_15] at h; exact absurd (out_inj (by unfold okS; decide) (by unfold okS; decide) h).1 (by decide)
  · rw [st0_0_15, show 15 + 1 = 16 from rfl, st0_0_16] at h; exact absurd (out_inj (by unfold okS; decide) (by unfold okS; decide) h).1 (by decide)
  · rw [st0_0_16, show 16 + 1 = 17 from rfl, st0_0_17] at h; exact absurd (out_inj (by unfold okS; decide) (by unfold okS; decide) h).1 (by decide)
  · rw [st0_0_17, show 17 + 1 = 18 from rfl, st0_0_18] at h; exact absurd (out_inj (by unfold okS; decide) (by unfold okS; decide) h).1 (by decide)
  · rw [st0_0_18, show 18 + 1 = 19 from rfl, st0_0_19] at h; exact absurd (out_inj (by unfold okS; decide) (by unfold okS; decide) h).1 (by decide)
  · rw [st0_0_19, show 19 + 1 = 20 from rfl, st0_0_20] at h; exact absurd (out_inj (by unfold okS; decide) (by unfold okS; decide) h).1 (by decide)
  · rw [st0_0_20, show 20 + 1 = 21 from rfl, st0_0_21] at h; exact absurd (out_inj (by unfold okS; decide) (by unfold okS; decide) h).1 (by decide)

theorem st0_1_1 : strN 1 [] [115, 97, 108, 116] = outB (stL ⟨4177046666, 1981966018, 3360103347, 99334611, 2563292303, 289450959, 1856584216, 516612167⟩) := mac_by si0_is so0_is (p := [128, 0, 0, 0, 0, 0, 0, 0, 0, 0, 0, 0, 0, 0, 0, 0, 0, 0, 0, 0, 0, 0, 0, 0, 0, 0, 0, 0, 0, 0, 0, 0, 0, 0, 0, 0, 0, 0, 0, 0, 0, 0, 0, 0, 0, 0, 0, 0, 0, 0, 0, 0, 0, 0, 0, 0, 0, 0, 2, 32]) (by decide +kernel) (by decide +kernel) (W := [1935764596, 2147483648, 0, 0, 0, 0, 0, 0, 0, 0, 0, 0, 0, 0, 0, 544]) (by decide +kernel) (t := ⟨1306878496, 79270097, 2315937143, 4207538783, 3961745760, 2248888298, 1569433530, 2948483069⟩) (by kernel_rfl) (by kernel_rfl)

theorem st0_1_2 : strN 2 [] [115, 97, 108, 116] = outB (stL ⟨2963785453, 1357527262, 155481871, 2283477379, 2760434498, 3524288734, 2696820459, 566192812⟩) := by
  rw [strN_snoc, st0_1_1]
  exact mac_st si0_is so0_is (by unfold okS; decide) (t := ⟨2995969979, 268128171, 810674698, 3410718429, 2285643053, 3435355639, 1222452912, 3774572378⟩) (by kernel_rfl) (by kernel_rfl)

theorem st0_1_3 : strN 3 [] [115, 97, 108, 116] = outB (stL ⟨3900556488, 2785989657, 287675855, 2446768351, 4238993975, 1830206103, 3588408355, 1808841053⟩) := by
  rw [strN_snoc, st0_1_2]
  exact mac_st si0_is so0_is (by unfold okS; decide) (t := ⟨3174645105, 3285159379, 3591632576, 884406275, 3900128925, 611737521, 3468410217, 929358615⟩) (by kernel_rfl) (by kernel_rfl)

theorem st0_1_4 : strN 4 [] [115, 97, 108, 116] = outB (stL ⟨1036865277, 1748802457, 1994537783, 309558551, 1636067645, 1534445322, 3485716254, 1438643169⟩) := by
  rw [strN_snoc, st0_1_3]
  exact mac_st si0_is so0_is (by unfold okS; decide) (t := ⟨2115346060, 4083360087, 1167050681, 406329850, 1671235833, 748868346, 1630092692, 2238696697⟩) (by kernel_rfl) (by kernel_rfl)

theorem st0_1_5 : strN 5 [] [115, 97, 108, 116] = outB (stL ⟨1878752838, 992340756, 2489095713, 2311233220, 435930565, 886836303, 4034361575, 3386003721⟩) := by
  rw [strN_snoc, st0_1_4]
  exact mac_st si0_is so0_is (by unfold okS; decide) (t := ⟨935883452, 2725610279, 3494248724, 3442973528, 2825342341, 3046419531, 3974719269, 3179779233⟩) (by kernel_rfl) (by kernel_rfl)

theorem st0_1_6 : strN 6 [] [115, 97, 108, 116] = outB (stL ⟨4117059080, 1593126675, 1346172147, 884656833, 1892519675, 1664940333, 223513178, 1688094345⟩) := by
  rw [strN_snoc, st0_1_5]
  exact mac_st si0_is so0_is (by unfold okS; decide) (t := ⟨484371272, 989176809, 3293692526, 2676307422, 1169661413, 2464009830, 3601831596, 721774747⟩) (by kernel_rfl) (by kernel_rfl)

theorem st0_1_7 : strN 7 [] [115, 97, 108, 116] = outB (stL ⟨3671444782, 2069449998, 1262080808, 178227738, 2143423232, 389274558, 1946083120, 625613860⟩) := by
  rw [strN_snoc, st0_1_6]
  exact mac_st si0_is so0_is (by unfold okS; decide) (t := ⟨524472093, 909672152, 3214912390, 4218862936, 3702150510, 328121703, 893572367, 430654052⟩) (by kernel_rfl) (by kernel_rfl)

theorem st0_1_8 : strN 8 [] [115, 97, 108, 116] = outB (stL ⟨2968077692, 279568826, 897366976, 1659684003, 3456123306, 3595133815, 1434981543, 1964982673⟩) := by
  rw [strN_snoc, st0_1_7]
  exact mac_st si0_is so0_is (by unfold okS; decide) (t := ⟨2576421120, 161724288, 2942013270, 618160762, 1761077115, 1790245479, 3777375122, 1674463804⟩) (by kernel_rfl) (by kernel_rfl)

theorem st0_1_9 : strN 9 [] [115, 97, 108, 116] = outB (stL ⟨1461234131, 1544254240, 1124827930, 1615537520, 2542085937, 2109621490, 1980572015, 960877271⟩) := by
  rw [strN_snoc, st0_1_8]
  exact mac_st si0_is so0_is (by unfold okS; decide) (t := ⟨3014975064, 63164781, 4073471544, 1113319987, 2615867076, 1416657630, 4288348907, 3559762961⟩) (by kernel_rfl) (by kernel_rfl)

theorem st0_1_10 : strN 10 [] [115, 97, 108, 116] = outB (stL ⟨3747075002, 3279929408, 1081264674, 1833618554, 821625195, 1711211802, 863947402, 1475953880⟩) := by
  rw [strN_snoc, st0_1_9]
  exact mac_st si0_is so0_is (by unfold okS; decide) (t := ⟨2758578795, 3383814234, 4120426416, 1733435014, 2896611804, 2169364623, 1140256842, 1729334372⟩) (by kernel_rfl) (by kernel_rfl)

theorem st0_1_11 : strN 11 [] [115, 97, 108, 116] = outB (stL ⟨239898224, 3479059252, 3423953954, 3977747702, 1010801488, 2791910715, 1033998134, 15941128⟩) := by
  rw [strN_snoc, st0_1_10]
  exact mac_st si0_is so0_is (by unfold okS; decide) (t := ⟨459552329, 439614399, 3761886042, 2027360651, 1430288081, 1160180451, 1517359138, 1866742001⟩) (by kernel_rfl) (by kernel_rfl)

theorem st0_1_12 : strN 12 [] [115, 97, 108, 116] = outB (stL ⟨1961140573, 2049517844, 2922751106, 3856870320, 822317505, 783310895, 2535955649, 461590863⟩) := by
  rw [strN_snoc, st0_1_11]
  exact mac_st si0_is so0_is (by unfold okS; decide) (t := ⟨2430161343, 2273757745, 3709813255, 4133577331, 1512423799, 1903602060, 112342885, 4217962923⟩) (by kernel_rfl) (by kernel_rfl)

theorem st0_1_13 : strN 13 [] [115, 97, 108, 116] = outB (stL ⟨3703235588, 3314943877, 1051798852, 1964866577, 306744816, 2749588298, 1842509163, 83353775⟩) := by
  rw [strN_snoc, st0_1_12]
  exact mac_st si0_is so0_is (by unfold okS; decide) (t := ⟨757989067, 2327771284, 3398514359, 428516728, 2687932610, 3179742142, 4283027701, 3361082581⟩) (by kernel_rfl) (by kernel_rfl)

theorem st0_1_14 : strN 14 [] [115, 97, 108, 116] = outB (stL ⟨218162316, 2829264985, 4153669058, 3313858086, 4270818195, 3155882614, 4037985754, 130663457⟩) := by
  rw [strN_snoc, st0_1_13]
  exact mac_st si0_is so0_is (by unfold okS; decide) (t := ⟨796303633, 316182419, 3026509278, 2734622138, 844059766, 539248591, 2551849607, 2673065902⟩) (by kernel_rfl) (by kernel_rfl)

theorem st0_1_15 : strN 15 [] [115, 97, 108, 116] = outB (stL ⟨2841527110, 2663318324, 1928574032, 3726784659, 593475360, 1956568595, 2816115993, 2137654182⟩) := by
  rw [strN_snoc, st0_1_14]
  exact mac_st si0_is so0_is (by unfold okS; decide) (t := ⟨3492078443, 1569567544, 3026316166, 216129601, 4220572453, 3616997796, 1862157155, 1344391735⟩) (by kernel_rfl) (by kernel_rfl)

theorem st0_1_16 : strN 16 [] [115, 97, 108, 116] = outB (stL ⟨2096374471, 3607620840, 3737715905, 491202118, 2107418298, 3890453759, 517793907, 538088356⟩) := by
  rw [strN_snoc, st0_1_15]
  exact mac_st si0_is so0_is (by unfold okS; decide) (t := ⟨852030885, 3276296179, 3482296477, 1036833338, 2964291117, 542561389, 977172150, 150285074⟩) (by kernel_rfl) (by kernel_rfl)

theorem st0_1_17 : strN 17 [] [115, 97, 108, 116] = outB (stL ⟨2139395994, 3341787471, 2689668394, 3660931867, 86686773, 2220254090, 2340934635, 952863189⟩) := by
  rw [strN_snoc, st0_1_16]
  exact mac_st si0_is so0_is (by unfold okS; decide) (t := ⟨2566817374, 904835687, 3842700694, 2291937680, 3382491354, 2751506152, 392812258, 1253017165⟩) (by kernel_rfl) (by kernel_rfl)

theorem st0_1_18 : strN 18 [] [115, 97, 108, 116] = outB (stL ⟨332650475, 4166048562, 4166379758, 169203755, 1846973188, 3875640537, 199057653, 3370590462⟩) := by
  rw [strN_snoc, st0_1_17]
  exact mac_st si0_is so0_is (by unfold okS; decide) (t := ⟨1476881465, 3901630475, 3650485814, 2237768134, 1070145260, 83470021, 1435457880, 2291952957⟩) (by kernel_rfl) (by kernel_rfl)

theorem st0_1_19 : strN 19 [] [115, 97, 108, 116] = outB (stL ⟨3264792015, 1221585783, 102805266, 3891416301, 3468990133, 2270424196, 3218276932, 924364183⟩) := by
  rw [strN_snoc, st0_1_18]
  exact mac_st si0_is so0_is (by unfold okS; decide) (t := ⟨1624934828, 834680858, 572214750, 2040875855, 2139249236, 3740400446, 383274634, 1945644305⟩) (by kernel_rfl) (by kernel_rfl)

theorem st0_1_20 : strN 20 [] [115, 97, 108, 116] = outB (stL ⟨2487543582, 3180082938, 1695458279, 3926307488, 382247238, 3719559908, 2108978524, 3063489005⟩) := by
  rw [strN_snoc, st0_1_19]
  exact mac_st si0_is so0_is (by unfold okS; decide) (t := ⟨1057129855, 3641270775, 376269334, 1014901315, 532948414, 3479899478, 3125164588, 2050947097⟩) (by kernel_rfl) (by kernel_rfl)

theorem st0_1_21 : strN 21 [] [115, 97, 108, 116] = outB (stL ⟨3136197587, 1398334328, 404988395, 2351854920, 4226530690, 2856355261, 1446539898, 484347666⟩) := by
  rw [strN_snoc, st0_1_20]
  exact mac_st si0_is so0_is (by unfold okS; decide) (t := ⟨3019804935, 3243583984, 136357399, 1057538533, 494970261, 2127034508, 3684960953, 168587501⟩) (by kernel_rfl) (by kernel_rfl)

theorem sd0_1 (n : Nat) (h1 : 1 ≤ n) (h2 : n ≤ 20) : strN (n + 1) [] [115, 97, 108, 116] ≠ strN n [] [115, 97, 108, 116] := by
  intro h
  rcases (show n = 1 ∨ n = 2 ∨ n = 3 ∨ n = 4 ∨ n = 5 ∨ n = 6 ∨ n = 7 ∨ n = 8 ∨ n = 9 ∨ n = 10 ∨ n = 11 ∨ n = 12 ∨ n = 13 ∨ n = 14 ∨ n = 15 ∨ n = 16 ∨ n = 17 ∨ n = 18 ∨ n = 19 ∨ n = 20 by omega) with rfl | rfl | rfl | rfl | rfl | rfl | rfl | rfl | rfl | rfl | rfl | rfl | rfl | rfl | rfl | rfl | rfl | rfl | rfl | rfl
  · rw [st0_1_1, show 1 + 1 = 2 from rfl, st0_1_2] at h; exact absurd (out_inj (by unfold okS; decide) (by unfold okS; decide) h).1 (by decide)
  · rw [st0_1_2, show 2 + 1 = 3 from rfl, st0_1_3] at h; exact absurd (out_inj (by unfold okS; decide) (by unfold okS; decide) h).1 (by decide)
  · rw [st0_1_3, show 3 + 1 = 4 from rfl, st0_1_4] at h; exact absurd (out_inj (by unfold okS; decide) (by unfold okS; decide) h).1 (by decide)
  · rw [st0_1_4, show 4 + 1 = 5 from rfl, st0_1_5] at h; exact absurd (out_inj (by unfold okS; decide) (by unfold okS; decide) h).1 (by decide)
  · rw [st0_1_5, show 5 + 1 = 6 from rfl, st0_1_6] at h; exact absurd (out_inj (by unfold okS; decide) (by unfold okS; decide) h).1 (by decide)
  · rw [st0_1_6, show 6 + 1 = 7 from rfl, st0_1_7] at h; exact absurd (out_inj (by unfold okS; decide) (by unfold okS; decide) h).1 (by decide)
  · rw [st0_1_7, show 7 + 1 = 8 from rfl, st0_1_8] at h; exact absurd (out_inj (by unfold okS; decide) (by unfold okS; decide) h).1 (by decide)
  · rw [st0_1_8, show 8 + 1 = 9 from rfl, st0_1_9] at h; exact absurd (out_inj (by unfold okS; decide) (by unfold okS; decide) h).1 (by decide)
  · rw [st0_1_9, show 9 + 1 = 10 from rfl, st0_1_10] at h; exact absurd (out_inj (by unfold okS; decide) (by unfold okS; decide) h).1 (by decide)
  · rw [st0_1_10, show 10 + 1 = 11 from rfl, st0_1_11] at h; exact absurd (out_inj (by unfold okS; decide) (by unfold okS; decide) h).1 (by decide)
  · rw [st0_1_11, show 11 + 1 = 12 from rfl, st0_1_12] at h; exact absurd (out_inj (by unfold okS; decide) (by unfold okS; decide) h).1 (by decide)
  · rw [st0_1_12, show 12 + 1 = 13 from rfl, st0_1_13] at h; exact absurd (out_inj (by unfold okS; decide) (by unfold okS; decide) h).1 (by decide)
  · rw [st0_1_13, show 13 + 1 = 14 from rfl, st0_1_14] at h; exact absurd (out_inj (by unfold okS; decide) (by unfold okS; decide) h).1 (by decide)
  · rw [st0_1_14, show 14 + 1 = 15 from rfl, st0_1_15] at h; exact absurd (out_inj (by unfold okS; decide) (by unfold okS; decide) h).1 (by decide)
  · rw [st0_1_15, show 15 + 1 = 16 from rfl, st0_1_16] at h; exact absurd (out_inj (by unfold okS; decide) (by unfold okS; decide) h).1 (by decide)
  · rw [st0_1_16, show 16 + 1 = 17 from rfl, st0_1_17] at h; exact absurd (out_inj (by unfold okS; decide) (by unfold okS; decide) h).1 (by decide)
  · rw [st0_1_17, show 17 + 1 = 18 from rfl, st0_1_18] at h; exact absurd (out_inj (by unfold okS; decide) (by unfold okS; decide) h).1 (by decide)
  · rw [st0_1_18, show 18 + 1 = 19 from rfl, st0_1_19] at h; exact absurd (out_inj (by unfold okS; decide) (by unfold okS; decide) h).1 (by decide)
  · rw [st0_1_19, show 19 + 1 = 20 from rfl, st0_1_20] at h; exact absurd (out_inj (by unfold okS; decide) (by unfold okS; decide) h).1 (by decide)
  · rw [st0_1_20, show 20 + 1 = 21 from rfl, st0_1_21] at h; exact absurd (out_inj (by unfold okS; decide) (by unfold okS; decide) h).1 (by decide)

theorem st0_2_1 : strN 1 [] [115, 50] = outB (stL ⟨2401340608, 2231259654, 3572790193, 763052012, 739566444, 2893341039, 2263962632, 2913583018⟩) := mac_by si0_is so0_is (p := [128, 0, 0, 0, 0, 0, 0, 0, 0, 0, 0, 0, 0, 0, 0, 0, 0, 0, 0, 0, 0, 0, 0, 0, 0, 0, 0, 0, 0, 0, 0, 0, 0, 0, 0, 0, 0, 0, 0, 0, 0, 0, 0, 0, 0, 0, 0, 0, 0, 0, 0, 0, 0, 0, 0, 0, 0, 0, 0, 0, 2, 16]) (by decide +kernel) (by decide +kernel) (W := [1932689408, 0, 0, 0, 0, 0, 0, 0, 0, 0, 0, 0, 0, 0, 0, 528]) (by decide +kernel) (t := ⟨3087292220, 1374498254, 144526723, 3336451978, 3773781513, 2576136671, 3922674604, 300729146⟩) (by kernel_rfl) (by kernel_rfl)

theorem st0_2_2 : strN 2 [] [115, 50] = outB (stL ⟨2720749485, 3592013342, 2210649240, 12204186, 935566438, 3502931854, 1026002691, 1825190012⟩) := by
  rw [strN_snoc, st0_2_1]
  exact mac_st si0_is so0_is (by unfold okS; decide) (t := ⟨453085114, 4108292816, 1469191386, 468893064, 4176852630, 1501997242, 3382389300, 2479078098⟩) (by kernel_rfl) (by kernel_rfl)

theorem st0_2_3 : strN 3 [] [115, 50] = outB (stL ⟨1504234859, 9505591, 2703141722, 1157305581, 3536361829, 3906738829, 1466140813, 2414382573⟩) := by
  rw [strN_snoc, st0_2_2]
  exact mac_st si0_is so0_is (by unfold okS; decide) (t := ⟨3363165769, 1478234540, 544465809, 4013072632, 1602389758, 1809818575, 436497964, 893239335⟩) (by kernel_rfl) (by kernel_rfl)

theorem st0_2_4 : strN 4 [] [115, 50] = outB (stL ⟨2065264073, 3011359224, 565411747, 3170100193, 1281887365, 2442544337, 2865348367, 2152951546⟩) := by
  rw [strN_snoc, st0_2_3]
  exact mac_st si0_is so0_is (by unfold okS; decide) (t := ⟨1669433647, 1225676375, 2371901722, 1685847670, 885883235, 2947049948, 2788654313, 400692466⟩) (by kernel_rfl) (by kernel_rfl)

theorem st0_2_5 : strN 5 [] [115, 50] = outB (stL ⟨52976566, 274486416, 4286534370, 1429410036, 971374806, 351219676, 3538716308, 3373934705⟩) := by
  rw [strN_snoc, st0_2_4]
  exact mac_st si0_is so0_is (by unfold okS; decide) (t := ⟨857902775, 3402914055, 2964634939, 4160959452, 385202366, 2397920130, 3161007083, 1231880536⟩) (by kernel_rfl) (by kernel_rfl)

theorem st0_2_6 : strN 6 [] [115, 50] = outB (stL ⟨4122459403, 1531890760, 4049823271, 3855862948, 3406633853, 539285721, 3525251177, 2278115690⟩) := by
  rw [strN_snoc, st0_2_5]
  exact mac_st si0_is so0_is (by unfold okS; decide) (t := ⟨587240860, 1314395327, 314319300, 988943122, 1447516762, 368351561, 1327082037, 2901308801⟩) (by kernel_rfl) (by kernel_rfl)

theorem st0_2_7 : strN 7 [] [115, 50] = outB (stL ⟨2295471181, 1422700656, 768042942, 1605521658, 3745644627, 1182183860, 2029437392, 1314343110⟩) := by
  rw [strN_snoc, st0_2_6]
  exact mac_st si0_is so0_is (by unfold okS; decide) (t := ⟨3173283043, 1777891995, 3034696277, 3926554286, 1305763543, 560749010, 3994163279, 3266116543⟩) (by kernel_rfl) (by kernel_rfl)

theorem st0_2_8 : strN 8 [] [115, 50] = outB (stL ⟨1160103439, 2262895326, 3020334673, 3326940840, 1193160605, 945453222, 821977517, 2016581628⟩) := by
  rw [strN_snoc, st0_2_7]
  exact mac_st si0_is so0_is (by unfold okS; decide) (t := ⟨2946002312, 3473225736, 3906646557, 2218907122, 2619627019, 3489458713, 2120602689, 1599895206⟩) (by kernel_rfl) (by kernel_rfl)

theorem st0_2_9 : strN 9 [] [115, 50] = outB (stL ⟨3314463663, 2623825589, 3955764293, 2566706982, 2362232487, 3649539550, 1797907446, 2810906368⟩) := by
  rw [strN_snoc, st0_2_8]
  exact mac_st si0_is so0_is (by unfold okS; decide) (t := ⟨3285379202, 562595217, 2613363968, 1699622428, 3024155735, 1777459372, 2631026544, 1389993414⟩) (by kernel_rfl) (by kernel_rfl)

theorem st0_2_10 : strN 10 [] [115, 50] = outB (stL ⟨3467952535, 3878039593, 2708985164, 2057397364, 3007996574, 4135280963, 2887103681, 3233566723⟩) := by
  rw [strN_snoc, st0_2_9]
  exact mac_st si0_is so0_is (by unfold okS; decide) (t := ⟨2366287819, 913749426, 102230986, 1440025734, 4157500753, 2196065574, 4235482515, 3166930856⟩) (by kernel_rfl) (by kernel_rfl)

theorem st0_2_11 : strN 11 [] [115, 50] = outB (stL ⟨773199397, 4288338717, 282965495, 2808723893, 2104971308, 606345272, 2259075742, 727276836⟩) := by
  rw [strN_snoc, st0_2_10]
  exact mac_st si0_is so0_is (by unfold okS; decide) (t := ⟨2199562955, 37662216, 2762382352, 1440795013, 1939610030, 1800094311, 1054345031, 2795027741⟩) (by kernel_rfl) (by kernel_rfl)

theorem st0_2_12 : strN 12 [] [115, 50] = outB (stL ⟨1091600983, 2975176330, 1630805172, 3936818760, 1932437886, 1818919233, 1952960470, 3576688299⟩) := by
  rw [strN_snoc, st0_2_11]
  exact mac_st si0_is so0_is (by unfold okS; decide) (t := ⟨187822302, 1635900511, 2103242714, 1763563416, 961982552, 1496615831, 4027249458, 134420718⟩) (by kernel_rfl) (by kernel_rfl)

theorem st0_2_13 : strN 13 [] [115, 50] = outB (stL ⟨768355380, 2068507316, 366030370, 3151407044, 685134776, 4125410064, 3901511408, 854630941⟩) := by
  rw [strN_snoc, st0_2_12]
  exact mac_st si0_is so0_is (by unfold okS; decide) (t := ⟨125425152, 3119592486, 4093766369, 3805623002, 837774344, 4234381763, 1160256639, 1420863489⟩) (by kernel_rfl) (by kernel_rfl)

theorem st0_2_14 : strN 14 [] [115, 50] = outB (stL ⟨1500407249, 745533077, 1917010717, 1228863418, 2686177032, 2021783027, 544341703, 2687382521⟩) := by
  rw [strN_snoc, st0_2_13]
  exact mac_st si0_is so0_is (by unfold okS; decide) (t := ⟨3644304188, 2096322619, 2847378390, 3968917869, 3886184530, 2669290807, 1276039090, 3863628528⟩) (by kernel_rfl) (by kernel_rfl)

theorem st0_2_15 : strN 15 [] [115, 50] = outB (stL ⟨766114362, 1254956530, 3976369473, 1283058236, 3848455255, 3034384107, 1972223893, 1811517566⟩) := by
  rw [strN_snoc, st0_2_14]
  exact mac_st si0_is so0_is (by unfold okS; decide) (t := ⟨897407167, 3434910745, 2251959525, 369645935, 3235386315, 1780291487, 3851594294, 116062081⟩) (by kernel_rfl) (by kernel_rfl)

theorem st0_2_16 : strN 16 [] [115, 50] = outB (stL ⟨3656361208, 2074952224, 3079727100, 2410466100, 1955927072, 4001624959, 2424880596, 2443668294⟩) := by
  rw [strN_snoc, st0_2_15]
  exact mac_st si0_is so0_is (by unfold okS; decide) (t := ⟨3493399925, 4247634739, 1076926482, 1926047138, 368277884, 1952977533, 628535441, 1739508442⟩) (by kernel_rfl) (by kernel_rfl)

theorem st0_2_17 : strN 17 [] [115, 50] = outB (stL ⟨3603750223, 2283312785, 2486650106, 3852224198, 1039121173, 1165092888, 201200424, 1831907102⟩) := by
  rw [strN_snoc, st0_2_16]
  exact mac_st si0_is so0_is (by unfold okS; decide) (t := ⟨3654270521, 1663466303, 3750384587, 2840984441, 4285821899, 1856276671, 3223564307, 3042089034⟩) (by kernel_rfl) (by kernel_rfl)

theorem st0_2_18 : strN 18 [] [115, 50] = outB (stL ⟨3168661323, 31184070, 2518418134, 755915873, 2447031665, 153695183, 3252946909, 4119848732⟩) := by
  rw [strN_snoc, st0_2_17]
  exact mac_st si0_is so0_is (by unfold okS; decide) (t := ⟨2546150340, 490823128, 4052810210, 3566284861, 3228174996, 3142389012, 1777284683, 1498503984⟩) (by kernel_rfl) (by kernel_rfl)

theorem st0_2_19 : strN 19 [] [115, 50] = outB (stL ⟨817537727, 1807526080, 3120195660, 2192250807, 425669504, 3850313976, 3946671781, 3400096859⟩) := by
  rw [strN_snoc, st0_2_18]
  exact mac_st si0_is so0_is (by unfold okS; decide) (t := ⟨1543696902, 901228868, 1344683449, 2912038793, 2424585885, 1346409608, 3666970759, 2774620508⟩) (by kernel_rfl) (by kernel_rfl)

theorem st0_2_20 : strN 20 [] [115, 50] = outB (stL ⟨1046168242, 498694080, 1207627028, 2137439555, 3038076386, 1599028496, 590767781, 2466581612⟩) := by
  rw [strN_snoc, st0_2_19]
  exact mac_st si0_is so0_is (by unfold okS; decide) (t := ⟨794204824, 87545595, 3242177267, 807067320, 2627053787, 2803059942, 3271083375, 1189670419⟩) (by kernel_rfl) (by kernel_rfl)

theorem st0_2_21 : strN 21 [] [115, 50] = outB (stL ⟨2425626145, 3239220616, 1543272933, 576479086, 4224270795, 3187110217, 435321514, 1788192159⟩) := by
  rw [strN_snoc, st0_2_20]
  exact mac_st si0_is so0_is (by unfold okS; decide) (t := ⟨1279855050, 464527990, 640559983, 3590364547, 3994699952, 2556910500, 536130857, 129948260⟩) (by kernel_rfl) (by kernel_rfl)

theorem sd0_2 (n : Nat) (h1 : 1 ≤ n) (h2 : n ≤ 20) : strN (n + 1) [] [115, 50] ≠ strN n [] [115, 50] := by
  intro h
  rcases (show n = 1 ∨ n = 2 ∨ n = 3 ∨ n = 4 ∨ n = 5 ∨ n = 6 ∨ n = 7 ∨ n = 8 ∨ n = 9 ∨ n = 10 ∨ n = 11 ∨ n = 12 ∨ n = 13 ∨ n = 14 ∨ n = 15 ∨ n = 16 ∨ n = 17 ∨ n = 18 ∨ n = 19 ∨ n = 20 by omega) with rfl | rfl | rfl | rfl | rfl | rfl | rfl | rfl | rfl | rfl | rfl | rfl | rfl | rfl | rfl | rfl | rfl | rfl | rfl | rfl
  · rw [st0_2_1, show 1 + 1 = 2 from rfl, st0_2_2] at h; exact absurd (out_inj (by unfold okS; decide) (by unfold okS; decide) h).1 (by decide)
  · rw [st0_2_2, show 2 + 1 = 3 from rfl, st0_2_3] at h; exact absurd (out_inj (by unfold okS; decide) (by unfold okS; decide) h).1 (by decide)
  · rw [st0_2_3, show 3 + 1 = 4 from rfl, st0_2_4] at h; exact absurd (out_inj (by unfold okS; decide) (by unfold okS; decide) h).1 (by decide)
  · rw [st0_2_4, show 4 + 1 = 5 from rfl, st0_2_5] at h; exact absurd (out_inj (by unfold okS; decide) (by unfold okS; decide) h).1 (by decide)
  · rw [st0_2_5, show 5 + 1 = 6 from rfl, st0_2_6] at h; exact absurd (out_inj (by unfold okS; decide) (by unfold okS; decide) h).1 (by decide)
  · rw [st0_2_6, show 6 + 1 = 7 from rfl, st0_2_7] at h; exact absurd (out_inj (by unfold okS; decide) (by unfold okS; decide) h).1 (by decide)
  · rw [st0_2_7, show 7 + 1 = 8 from rfl, st0_2_8] at h; exact absurd (out_inj (by unfold okS; decide) (by unfold okS; decide) h).1 (by decide)
  · rw [st0_2_8, show 8 + 1 = 9 from rfl, st0_2_9] at h; exact absurd (out_inj (by unfold okS; decide) (by unfold okS; decide) h).1 (by decide)
  · rw [st0_2_9, show 9 + 1 = 10 from rfl, st0_2_10] at h; exact absurd (out_inj (by unfold okS; decide) (by unfold okS; decide) h).1 (by decide)
  · rw [st0_2_10, show 10 + 1 = 11 from rfl, st0_2_11] at h; exact absurd (out_inj (by unfold okS; decide) (by unfold okS; decide) h).1 (by decide)
  · rw [st0_2_11, show 11 + 1 = 12 from rfl, st0_2_12] at h; exact absurd (out_inj (by unfold okS; decide) (by unfold okS; decide) h).1 (by decide)
  · rw [st0_2_12, show 12 + 1 = 13 from rfl, st0_2_13] at h; exact absurd (out_inj (by unfold okS; decide) (by unfold okS; decide) h).1 (by decide)
  · rw [st0_2_13, show 13 + 1 = 14 from rfl, st0_2_14] at h; exact absurd (out_inj (by unfold okS; decide) (by unfold okS; decide) h).1 (by decide)
  · rw [st0_2_14, show 14 + 1 = 15 from rfl, st0_2_15] at h; exact absurd (out_inj (by unfold okS; decide) (by unfold okS; decide) h).1 (by decide)
  · rw [st0_2_15, show 15 + 1 = 16 from rfl, st0_2_16] at h; exact absurd (out_inj (by unfold okS; decide) (by unfold okS; decide) h).1 (by decide)
  · rw [st0_2_16, show 16 + 1 = 17 from rfl, st0_2_17] at h; exact absurd (out_inj (by unfold okS; decide) (by unfold okS; decide) h).1 (by decide)
  · rw [st0_2_17, show 17 + 1 = 18 from rfl, st0_2_18] at h; exact absurd (out_inj (by unfold okS; decide) (by unfold okS; decide) h).1 (by decide)
  · rw [st0_2_18, show 18 + 1 = 19 from rfl, st0_2_19] at h; exact absurd (out_inj (by unfold okS; decide) (by unfold okS; decide) h).1 (by decide)
  · rw [st0_2_19, show 19 + 1 = 20 from rfl, st0_2_20] at h; exact absurd (out_inj (by unfold okS; decide) (by unfold okS; decide) h).1 (by decide)
  · rw [st0_2_20, show 20 + 1 = 21 from rfl, st0_2_21] at h; exact absurd (out_inj (by unfold okS; decide) (by unfold okS; decide) h).1 (by decide)

theorem st1_0_1 : strN 1 [115, 101, 99, 114, 101, 116] [] = outB (stL ⟨4192628247, 2607237038, 1410371458, 4172146867, 3260905213, 816832108, 962077381, 806969705⟩) := mac_by si3_is so3_is (p := [128, 0, 0, 0, 0, 0, 0, 0, 0, 0, 0, 0, 0, 0, 0, 0, 0, 0, 0, 0, 0, 0, 0, 0, 0, 0, 0, 0, 0, 0, 0, 0, 0, 0, 0, 0, 0, 0, 0, 0, 0, 0, 0, 0, 0, 0, 0, 0, 0, 0, 0, 0, 0, 0, 0, 0, 0, 0, 0, 0, 0, 0, 2, 0]) (by decide +kernel) (by decide +kernel) (W := [2147483648, 0, 0, 0, 0, 0, 0, 0, 0, 0, 0, 0, 0, 0, 0, 512]) (by decide +kernel) (t := ⟨2485916870, 1255655135, 3933870831, 3391116502, 4051655841, 1739447527, 3476550266, 2032640157⟩) (by kernel_rfl) (by kernel_rfl)

theorem st1_0_2 : strN 2 [115, 101, 99, 114, 101, 116] [] = outB (stL ⟨2823659406, 3504788814, 2802206024, 4277111109, 1546734225, 2035659112, 1790544620, 4176229651⟩) := by
  rw [strN_snoc, st1_0_1]
  exact mac_st si3_is so3_is (by unfold okS; decide) (t := ⟨3680435077, 3830681202, 2661950694, 3359793298, 4068006088, 1273869547, 2234108654, 3643379188⟩) (by kernel_rfl) (by kernel_rfl)

theorem st1_0_3 : strN 3 [115, 101, 99, 114, 101, 116] [] = outB (stL ⟨2178194290, 549334121, 2744255051, 2777239538, 2959981072, 2321445371, 610307559, 1546941076⟩) := by
  rw [strN_snoc, st1_0_2]
  exact mac_st si3_is so3_is (by unfold okS; decide) (t := ⟨350648715, 2824125644, 2925625518, 465251082, 3779906924, 276384159, 1220765938, 3330228687⟩) (by kernel_rfl) (by kernel_rfl)

theorem st1_0_4 : strN 4 [115, 101, 99, 114, 101, 116] [] = outB (stL ⟨1242231810, 2669724532, 2626369490, 834509250, 917860019, 3503176917, 3141605044, 2269885255⟩) := by
  rw [strN_snoc, st1_0_3]
  exact mac_st si3_is so3_is (by unfold okS; decide) (t := ⟨177082355, 528112726, 2635376827, 4028786160, 41033783, 791822287, 3389667062, 70566019⟩) (by kernel_rfl) (by kernel_rfl)

theorem st1_0_5 : strN 5 [115, 101, 99, 114, 101, 116] [] = outB (stL ⟨418437696, 686274115, 739071978, 3673373494, 271854744, 2780001895, 3732258578, 4024128297⟩) := by
  rw [strN_snoc, st1_0_4]
  exact mac_st si3_is so3_is (by unfold okS; decide) (t := ⟨644350791, 704116975, 3918444024, 394313470, 2344114541, 4128444843, 4162019607, 3482339964⟩) (by kernel_rfl) (by kernel_rfl)

theorem st1_0_6 : strN 6 [115, 101, 99, 114, 101, 116] [] = outB (stL ⟨4018327278, 2595975125, 1611803688, 2770672979, 3670582380, 2834509673, 2270253015, 2624579715⟩) := by
  rw [strN_snoc, st1_0_5]
  exact mac_st si3_is so3_is (by unfold okS; decide) (t := ⟨401684409, 2912345916, 2090686854, 2594997023, 807223179, 2384442952, 3163947055, 3394812270⟩) (by kernel_rfl) (by kernel_rfl)

theorem st1_0_7 : strN 7 [115, 101, 99, 114, 101, 116] [] = outB (stL ⟨2300974905, 1424821197, 2772546853, 1584310836, 3024080661, 3274432019, 717212830, 4246555618⟩) := by
  rw [strN_snoc, st1_0_6]
  exact mac_st si3_is so3_is (by unfold okS; decide) (t := ⟨3209222958, 3937711084, 1600729147, 2111697260, 1451808095, 441674300, 1265111058, 2632967845⟩) (by kernel_rfl) (by kernel_rfl)

theorem st1_0_8 : strN 8 [115, 101, 99, 114, 101, 116] [] = outB (stL ⟨2078686038, 2365978267, 3607352693, 3847881072, 4060186162, 3897321817, 3706166000, 2088622068⟩) := by
  rw [strN_snoc, st1_0_7]
  exact mac_st si3_is so3_is (by unfold okS; decide) (t := ⟨1022934637, 1285970014, 2985497759, 3922283485, 1378147312, 1254872928, 3716852671, 3062176390⟩) (by kernel_rfl) (by kernel_rfl)

theorem st1_0_9 : strN 9 [115, 101, 99, 114, 101, 116] [] = outB (stL ⟨2487590832, 3435435348, 1539398042, 1421616951, 1318917647, 3980335418, 1105524574, 338667762⟩) := by
  rw [strN_snoc, st1_0_8]
  exact mac_st si3_is so3_is (by unfold okS; decide) (t := ⟨4260892506, 753933, 1562682343, 566464319, 4291944510, 2696252047, 145849896, 2225932217⟩) (by kernel_rfl) (by kernel_rfl)

theorem st1_0_10 : strN 10 [115, 101, 99, 114, 101, 116] [] = outB (stL ⟨2508945613, 3676574588, 3022398102, 4058179210, 2910465213, 2190981109, 353535718, 1594291930⟩) := by
  rw [strN_snoc, st1_0_9]
  exact mac_st si3_is so3_is (by unfold okS; decide) (t := ⟨2808645848, 455988074, 3260759069, 2432263561, 2231348447, 2296892331, 73027539, 3480008060⟩) (by kernel_rfl) (by kernel_rfl)

theorem st1_0_11 : strN 11 [115, 101, 99, 114, 101, 116] [] = outB (stL ⟨462565703, 3971784206, 1493385864, 1328986445, 1847142151, 2031806997, 1371507310, 3102002276⟩) := by
  rw [strN_snoc, st1_0_10]
  exact mac_st si3_is so3_is (by unfold okS; decide) (t := ⟨1628155664, 549375297, 2213283673, 2741745199, 189062503, 2734529658, 3102960733, 3566186572⟩) (by kernel_rfl) (by kernel_rfl)

theorem st1_0_12 : strN 12 [115, 101, 99, 114, 101, 116] [] = outB (stL ⟨65524365, 3760791444, 197733170, 1806405808, 120717085, 2278333572, 3330350716, 592114121⟩) := by
  rw [strN_snoc, st1_0_11]
  exact mac_st si3_is so3_is (by unfold okS; decide) (t := ⟨2671691273, 1099487603, 838230545, 2455137063, 4037680461, 1356693992, 1333911612, 2624178551⟩) (by kernel_rfl) (by kernel_rfl)

theorem st1_0_13 : strN 13 [115, 101, 99, 114, 101, 116] [] = outB (stL ⟨2568163988, 4003550222, 3005706338, 3052224696, 1550288472, 2210714952, 1193137109, 1820205248⟩) := by
  rw [strN_snoc, st1_0_12]
  exact mac_st si3_is so3_is (by unfold okS; decide) (t := ⟨2415666377, 2638207278, 2477835036, 3918030430, 3059812113, 940340434, 3816863575, 1393851609⟩) (by kernel_rfl) (by kernel_rfl)

theorem st1_0_14 : strN 14 [115, 101, 99, 114, 101, 116] [] = outB (stL ⟨57073956, 2591597943, 2753001365, 1020839724, 3572745850, 3313221966, 1794828974, 3224158081⟩) := by
  rw [strN_snoc, st1_0_13]
  exact mac_st si3_is so3_is (by unfold okS; decide) (t := ⟨1557460807, 2649074992, 3821737531, 514128552, 3781690252, 989267204, 851323545, 214318796⟩) (by kernel_rfl) (by kernel_rfl)

theorem st1_0_15 : strN 15 [115, 101, 99, 114, 101, 116] [] = outB (stL ⟨3123653217, 3377754090, 1304194784, 838841155, 3816437696, 2803833651, 2187212269, 734128738⟩) := by
  rw [strN_snoc, st1_0_14]
  exact mac_st si3_is so3_is (by unfold okS; decide) (t := ⟨3203758847, 548981058, 753224224, 4098060262, 3223846731, 844233846, 4041798161, 2285665129⟩) (by kernel_rfl) (by kernel_rfl)

theorem st1_0_16 : strN 16 [115, 101, 99, 114, 101, 116] [] = outB (stL ⟨2614592149, 944767992, 1166519308, 2797469874, 2942333205, 3980530271, 3346359818, 849888429⟩) := by
  rw [strN_snoc, st1_0_15]
  exact mac_st si3_is so3_is (by unfold okS; decide) (t := ⟨728421251, 187741028, 235383720, 145050786, 2392021823, 3830991847, 19750322, 4056954903⟩) (by kernel_rfl) (by kernel_rfl)

theorem st1_0_17 : strN 17 [115, 101, 99, 114, 101, 116] [] = outB (stL ⟨2859719157, 382300754, 4256884395, 1300965339, 912624183, 2772199370, 677053944, 157162209⟩) := by
  rw [strN_snoc, st1_0_16]
  exact mac_st si3_is so3_is (by unfold okS; decide) (t := ⟨1179236816, 4005816974, 3273009045, 2715844114, 2759653960, 676952383, 39713955, 1677579955⟩) (by kernel_rfl) (by kernel_rfl)

theorem st1_0_18 : strN 18 [115, 101, 99, 114, 101, 116] [] = outB (stL ⟨4234384734, 3705613039, 1596991329, 4027472179, 1042754101, 1753331698, 3976764954, 428894989⟩) := by
  rw [strN_snoc, st1_0_17]
  exact mac_st si3_is so3_is (by unfold okS; decide) (t := ⟨2860394461, 405868936, 3175835811, 1472707831, 1026408105, 3284997838, 601935380, 3934729000⟩) (by kernel_rfl) (by kernel_rfl)

theorem st1_0_19 : strN 19 [115, 101, 99, 114, 101, 116] [] = outB (stL ⟨865938344, 2338070966, 3571551794, 1280158558, 1635069527, 2947342313, 1478399805, 1529910243⟩) := by
  rw [strN_snoc, st1_0_18]
  exact mac_st si3_is so3_is (by unfold okS; decide) (t := ⟨3577187030, 3090247093, 503209061, 1172138537, 39720085, 2932096454, 340837424, 408048002⟩) (by kernel_rfl) (by kernel_rfl)

theorem st1_0_20 : strN 20 [115, 101, 99, 114, 101, 116] [] = outB (stL ⟨3746040475, 722133927, 3947537633, 3107921052, 3561977409, 3573594278, 1116571519, 869647038⟩) := by
  rw [strN_snoc, st1_0_19]
  exact mac_st si3_is so3_is (by unfold okS; decide) (t := ⟨3765296082, 552653, 1995280030, 3695679642, 106442780, 3892253599, 2385008427, 2597597270⟩) (by kernel_rfl) (by kernel_rfl)

theorem st1_0_21 : strN 21 [115, 101, 99, 114, 101, 116] [] = outB (stL ⟨677772553, 2661652265, 2863862600, 2192667258, 2190816224, 2598717637, 2064966847, 3050188225⟩) := by
  rw [strN_snoc, st1_0_20]
  exact mac_st si3_is so3_is (by unfold okS; decide) (t := ⟨2161009535, 4289734529, 2333614056, 3861317437, 3540761163, 4061736727, 79719891, 123643723⟩) (by kernel_rfl) (by kernel_rfl)

theorem sd1_0 (n : Nat) (h1 : 1 ≤ n) (h2 : n ≤ 20) : strN (n + 1) [115, 101, 99, 114, 101, 116] [] ≠ strN n [115, 101, 99, 114, 101, 116] [] := by
  intro h
  rcases (show n = 1 ∨ n = 2 ∨ n = 3 ∨ n = 4 ∨ n = 5 ∨ n = 6 ∨ n = 7 ∨ n = 8 ∨ n = 9 ∨ n = 10 ∨ n = 11 ∨ n = 12 ∨ n = 13 ∨ n = 14 ∨ n = 15 ∨ n = 16 ∨ n = 17 ∨ n = 18 ∨ n = 19 ∨ n = 20 by omega) with rfl | rfl | rfl | rfl | rfl | rfl | rfl | rfl | rfl | rfl | rfl | rfl | rfl | rfl | rfl | rfl | rfl | rfl | rfl | rfl
  · rw [st1_0_1, show 1 + 1 = 2 from rfl, st1_0_2] at h; exact absurd (out_inj (by unfold okS; decide) (by unfold okS; decide) h).1 (by decide)
  · rw [st1_0_2, show 2 + 1 = 3 from rfl, st1_0_3] at h; exact absurd (out_inj (by unfold okS; decide) (by unfold okS; decide) h).1 (by decide)
  · rw [st1_0_3, show 3 + 1 = 4 from rfl, st1_0_4] at h; exact absurd (out_inj (by unfold okS; decide) (by unfold okS; decide) h).1 (by decide)
  · rw [st1_0_4, show 4 + 1 = 5 from rfl, st1_0_5] at h; exact absurd (out_inj (by unfold okS; decide) (by unfold okS; decide) h).1 (by decide)
  · rw [st1_0_5, show 5 + 1 = 6 from rfl, st1_0_6] at h; exact absurd (out_inj (by unfold okS; decide) (by unfold okS; decide) h).1 (by decide)
  · rw [st1_0_6, show 6 + 1 = 7 from rfl, st1_0_7] at h; exact absurd (out_inj (by unfold okS; decide) (by unfold okS; decide) h).1 (by decide)
  · rw [st1_0_7, show 7 + 1 = 8 from rfl, st1_0_8] at h; exact absurd (out_inj (by unfold okS; decide) (by unfold okS; decide) h).1 (by decide)
  · rw [st1_0_8, show 8 + 1 = 9 from rfl, st1_0_9] at h; exact absurd (out_inj (by unfold okS; decide) (by unfold okS; decide) h).1 (by decide)
  · rw [st1_0_9, show 9 + 1 = 10 from rfl, st1_0_10] at h; exact absurd (out_inj (by unfold okS; decide) (by unfold okS; decide) h).1 (by decide)
  · rw [st1_0_10, show 10 + 1 = 11 from rfl, st1_0_11] at h; exact absurd (out_inj (by unfold okS; decide) (by unfold okS; decide) h).1 (by decide)
  · rw [st1_0_11, show 11 + 1 = 12 from rfl, st1_0_12] at h; exact absurd (out_inj (by unfold okS; decide) (by unfold okS; decide) h).1 (by decide)
  · rw [st1_0_12, show 12 + 1 = 13 from rfl, st1_0_13] at h; exact absurd (out_inj (by unfold okS; decide) (by unfold okS; decide) h).1 (by decide)
  · rw [st1_0_13, show 13 + 1 = 14 from rfl, st1_0_14] at h; exact absurd (out_inj (by unfold okS; decide) (by unfold okS; decide) h).1 (by decide)
  · rw [st1_0_14, show 14 + 1 = 15 from rfl, st1_0_15] at h; exact absurd (out_inj (by unfold okS; decide) (by unfold okS; decide) h).1 (by decide)
  · rw [st1_0_15, show 15 + 1 = 16 from rfl, st1_0_16] at h; exact absurd (out_inj (by unfold okS; decide) (by unfold okS; decide) h).1 (by decide)
  · rw [st1_0_16, show 16 + 1 = 17 from rfl, st1_0_17] at h; exact absurd (out_inj (by unfold okS; decide) (by unfold okS; decide) h).1 (by decide)
  · rw [st1_0_17, show 17 + 1 = 18 from rfl, st1_0_18] at h; exact absurd (out_inj (by unfold okS; decide) (by unfold okS; decide) h).1 (by decide)
  · rw [st1_0_18, show 18 + 1 = 19 from rfl, st1_0_19] at h; exact absurd (out_inj (by unfold okS; decide) (by unfold okS; decide) h).1 (by decide)
  · rw [st1_0_19, show 19 + 1 = 20 from rfl, st1_0_20] at h; exact absurd (out_inj (by unfold okS; decide) (by unfold okS; decide) h).1 (by decide)
  · rw [st1_0_20, show 20 + 1 = 21 from rfl, st1_0_21] at h; exact absurd (out_inj (by unfold okS; decide) (by unfold okS; decide) h).1 (by decide)

theorem st1_1_1 : strN 1 [115, 101, 99, 114, 101, 116] [115, 97, 108, 116] = outB (stL ⟨2256892255, 1836570725, 2190395831, 1825777955, 3819483962, 1742373969, 870450225, 1332457739⟩) := mac_by si3_is so3_is (p := [128, 0, 0, 0, 0, 0, 0, 0, 0, 0, 0, 0, 0, 0, 0, 0, 0, 0, 0, 0, 0, 0, 0, 0, 0, 0, 0, 0, 0, 0, 0, 0, 0, 0, 0, 0, 0, 0, 0, 0, 0, 0, 0, 0, 0, 0, 0, 0, 0, 0, 0, 0, 0, 0, 0, 0, 0, 0, 2, 32]) (by decide +kernel) (by decide +kernel) (W := [1935764596, 2147483648, 0, 0, 0, 0, 0, 0, 0, 0, 0, 0, 0, 0, 0, 544]) (by decide +kernel) (t := ⟨2379991996, 4065034184, 3634034319, 4130238973, 1915514134, 601610705, 76204159, 3839291226⟩) (by kernel_rfl) (by kernel_rfl)

theorem st1_1_2 : strN 2 [115, 101, 99, 114, 101, 116] [115, 97, 108, 116] = outB (stL ⟨1998078701, 1569696234, 70051919, 1380441332, 1081952803, 858371186, 2273486909, 2065176117⟩) := by
  rw [strN_snoc, st1_1_1]
  exact mac_st si3_is so3_is (by unfold okS; decide) (t := ⟨1230518025, 591311372, 1876488624, 727811215, 2215814399, 3827255352, 769357675, 727364892⟩) (by kernel_rfl) (by kernel_rfl)

theorem st1_1_3 : strN 3 [115, 101, 99, 114, 101, 116] [115, 97, 108, 116] = outB (stL ⟨2137765027, 2754280867, 2388649975, 729469330, 2739725677, 411490306, 3692553007, 2099994922⟩) := by
  rw [strN_snoc, st1_1_2]
  exact mac_st si3_is so3_is (by unfold okS; decide) (t := ⟨1908280052, 358194238, 1799028369, 743062901, 3256414553, 1098225814, 1066231909, 835808431⟩) (by kernel_rfl) (by kernel_rfl)

theorem st1_1_4 : strN 4 [115, 101, 99, 114, 101, 116] [115, 97, 108, 116] = outB (stL ⟨4027484483, 4146400532, 995835913, 707914679, 4053189745, 2568124567, 2199620720, 3800391112⟩) := by
  rw [strN_snoc, st1_1_3]
  exact mac_st si3_is so3_is (by unfold okS; decide) (t := ⟨2451367220, 975471987, 3349480249, 4045982282, 1884399963, 3205848149, 2562800241, 362795999⟩) (by kernel_rfl) (by kernel_rfl)

theorem st1_1_5 : strN 5 [115, 101, 99, 114, 101, 116] [115, 97, 108, 116] = outB (stL ⟨2656126427, 1748011447, 968507636, 2558390583, 644090553, 4149265649, 1941993348, 707496391⟩) := by
  rw [strN_snoc, st1_1_4]
  exact mac_st si3_is so3_is (by unfold okS; decide) (t := ⟨4125453750, 306839129, 541040041, 2503448839, 390350103, 4124223733, 1758366497, 241326352⟩) (by kernel_rfl) (by kernel_rfl)

theorem st1_1_6 : strN 6 [115, 101, 99, 114, 101, 116] [115, 97, 108, 116] = outB (stL ⟨2786696622, 3348232163, 3673571775, 3666402318, 1705325023, 2826252108, 1884179284, 1859591074⟩) := by
  rw [strN_snoc, st1_1_5]
  exact mac_st si3_is so3_is (by unfold okS; decide) (t := ⟨3701876687, 3565873726, 1583332785, 1645842473, 2487779565, 2216915386, 1886411369, 2268903159⟩) (by kernel_rfl) (by kernel_rfl)

theorem st1_1_7 : strN 7 [115, 101, 99, 114, 101, 116] [115, 97, 108, 116] = outB (stL ⟨2602078083, 3445718094, 3601781533, 3850031498, 1235670615, 3478083264, 1499320919, 3473607733⟩) := by
  rw [strN_snoc, st1_1_6]
  exact mac_st si3_is so3_is (by unfold okS; decide) (t := ⟨3875644085, 2201780232, 2794159985, 569371771, 3656016568, 1564845675, 4194164126, 1430748640⟩) (by kernel_rfl) (by kernel_rfl)

theorem st1_1_8 : strN 8 [115, 101, 99, 114, 101, 116] [115, 97, 108, 116] = outB (stL ⟨2891310192, 3091979376, 342992646, 1873780712, 3904158864, 4021943408, 2582766314, 3916949036⟩) := by
  rw [strN_snoc, st1_1_7]
  exact mac_st si3_is so3_is (by unfold okS; decide) (t := ⟨3403888094, 2457538371, 1748587273, 1788444511, 4032496473, 1422973307, 1813995701, 1876893516⟩) (by kernel_rfl) (by kernel_rfl)

theorem st1_1_9 : strN 9 [115, 101, 99, 114, 101, 116] [115, 97, 108, 116] = outB (stL ⟨4268282405, 119555750, 4007012454, 2455979811, 3079418113, 746511593, 2013896020, 539092126⟩) := by
  rw [strN_snoc, st1_1_8]
  exact mac_st si3_is so3_is (by unfold okS; decide) (t := ⟨3423287396, 2548543848, 794711941, 409684807, 1121495259, 3891452046, 3299861355, 597784881⟩) (by kernel_rfl) (by kernel_rfl)

theorem st1_1_10 : strN 10 [115, 101, 99, 114, 101, 116] [115, 97, 108, 116] = outB (stL ⟨716625150, 3597540615, 1757184007, 825048945, 3254609025, 4010609436, 264654393, 2912784931⟩) := by
  rw [strN_snoc, st1_1_9]
  exact mac_st si3_is so3_is (by unfold okS; decide) (t := ⟨2624061384, 2930344301, 646433943, 3892921068, 857983147, 3851381958, 3670005942, 365378356⟩) (by kernel_rfl) (by kernel_rfl)

theorem st1_1_11 : strN 11 [115, 101, 99, 114, 101, 116] [115, 97, 108, 116] = outB (stL ⟨1656993023, 741372215, 2605314535, 659940910, 450433927, 2620690130, 445779837, 1583326320⟩) := by
  rw [strN_snoc, st1_1_10]
  exact mac_st si3_is so3_is (by unfold okS; decide) (t := ⟨3376411192, 552748120, 1666994699, 3047179356, 1362164277, 2763929669, 2284434385, 4240997933⟩) (by kernel_rfl) (by kernel_rfl)

theorem st1_1_12 : strN 12 [115, 101, 99, 114, 101, 116] [115, 97, 108, 116] = outB (stL ⟨3292684599, 4147518725, 102305387, 858231104, 556293399, 439490944, 362606737, 1983663873⟩) := by
  rw [strN_snoc, st1_1_11]
  exact mac_st si3_is so3_is (by unfold okS; decide) (t := ⟨3710748335, 3012240557, 196330088, 1065941956, 3179329598, 2532181237, 2040840757, 2535077521⟩) (by kernel_rfl) (by kernel_rfl)

theorem st1_1_13 : strN 13 [115, 101, 99, 114, 101, 116] [115, 97, 108, 116] = outB (stL ⟨2626309987, 3534257848, 37941019, 266819681, 3324106452, 3877445146, 2723955622, 785579591⟩) := by
  rw [strN_snoc, st1_1_12]
  exact mac_st si3_is so3_is (by unfold okS; decide) (t := ⟨3162569604, 4103222635, 2666843719, 3577958361, 3997629731, 1656676321, 1463198610, 2178629050⟩) (by kernel_rfl) (by kernel_rfl)

theorem st1_1_14 : strN 14 [115, 101, 99, 114, 101, 116] [115, 97, 108, 116] = outB (stL ⟨1270823225, 533686302, 3382929931, 2163341697, 175317659, 3219317718, 1288516548, 3420389533⟩) := by
  rw [strN_snoc, st1_1_13]
  exact mac_st si3_is so3_is (by unfold okS; decide) (t := ⟨2716896181, 3676533382, 3921240198, 1737823408, 1215921766, 1962045714, 4057722537, 1730202000⟩) (by kernel_rfl) (by kernel_rfl)

theorem st1_1_15 : strN 15 [115, 101, 99, 114, 101, 116] [115, 97, 108, 116] = outB (stL ⟨622342869, 3277546144, 38858441, 2017117769, 4093692127, 966735164, 2147123807, 1648318359⟩) := by
  rw [strN_snoc, st1_1_14]
  exact mac_st si3_is so3_is (by unfold okS; decide) (t := ⟨1270375119, 1117004896, 1949029501, 2447360260, 1009996215, 3880462525, 2094320977, 2870314565⟩) (by kernel_rfl) (by kernel_rfl)

theorem st1_1_16 : strN 16 [115, 101, 99, 114, 101, 116] [115, 97, 108, 116] = outB (stL ⟨1922623253, 504303056, 1660050959, 3278221301, 843728082, 587426385, 276193382, 1565091422⟩) := by
  rw [strN_snoc, st1_1_15]
  exact mac_st si3_is so3_is (by unfold okS; decide) (t := ⟨4019656113, 370374757, 1228957015, 3315811748, 3161168490, 2896955561, 2654328570, 2613529913⟩) (by kernel_rfl) (by kernel_rfl)

theorem st1_1_17 : strN 17 [115, 101, 99, 114, 101, 116] [115, 97, 108, 116] = outB (stL ⟨4061262405, 3226117222, 3785385725, 2086408361, 1192898747, 2312195707, 3906661721, 2517327441⟩) := by
  rw [strN_snoc, st1_1_16]
  exact mac_st si3_is so3_is (by unfold okS; decide) (t := ⟨1569596739, 3931254017, 2463076932, 1778828437, 1360890577, 887017873, 2660876793, 3760734874⟩) (by kernel_rfl) (by kernel_rfl)

theorem st1_1_18 : strN 18 [115, 101, 99, 114, 101, 116] [115, 97, 108, 116] = outB (stL ⟨2843408490, 1708937313, 1634815244, 2006328015, 2309986219, 1863308057, 2643392239, 3088970207⟩) := by
  rw [strN_snoc, st1_1_17]
  exact mac_st si3_is so3_is (by unfold okS; decide) (t := ⟨110548348, 3081477177, 1670970379, 1435316218, 1439529760, 3921271401, 3450097946, 702424879⟩) (by kernel_rfl) (by kernel_rfl)

theorem st1_1_19 : strN 19 [115, 101, 99, 114, 101, 116] [115, 97, 108, 116] = outB (stL ⟨2053830352, 2757705422, 1163505096, 3837416509, 337236620, 3167854175, 380403976, 3306256662⟩) := by
  rw [strN_snoc, st1_1_18]
  exact mac_st si3_is so3_is (by unfold okS; decide) (t := ⟨4278977712, 2524118506, 2978548466, 2958588711, 3029324468, 3409617724, 756869585, 2599982938⟩) (by kernel_rfl) (by kernel_rfl)

theorem st1_1_20 : strN 20 [115, 101, 99, 114, 101, 116] [115, 97, 108, 116] = outB (stL ⟨2077405329, 606448171, 2522161064, 573706302, 3523091842, 3635190088, 2218984281, 1151993052⟩) := by
  rw [strN_snoc, st1_1_19]
  exact mac_st si3_is so3_is (by unfold okS; decide) (t := ⟨405546207, 158822527, 2768119776, 438007910, 2537300988, 3737445633, 848944735, 2899658757⟩) (by kernel_rfl) (by kernel_rfl)

theorem st1_1_21 : strN 21 [115, 101, 99, 114, 101, 116] [115, 97, 108, 116] = outB (stL ⟨3622331642, 3175628916, 61248125, 433620070, 3334323702, 4175829299, 1396963589, 3662249568⟩) := by
  rw [strN_snoc, st1_1_20]
  exact mac_st si3_is so3_is (by unfold okS; decide) (t := ⟨1680100971, 1016777298, 2644625978, 211298547, 1682207921, 323012800, 3420893691, 3353644796⟩) (by kernel_rfl) (by kernel_rfl)

theorem sd1_1 (n : Nat) (h1 : 1 ≤ n) (h2 : n ≤ 20) : strN (n + 1) [115, 101, 99, 114, 101, 116] [115, 97, 108, 116] ≠ strN n [115, 101, 99, 114, 101, 116] [115, 97, 108, 116] := by
  intro h
  rcases (show n = 1 ∨ n = 2 ∨ n = 3 ∨ n = 4 ∨ n = 5 ∨ n = 6 ∨ n = 7 ∨ n = 8 ∨ n = 9 ∨ n = 10 ∨ n = 11 ∨ n = 12 ∨ n = 13 ∨ n = 14 ∨ n = 15 ∨ n = 16 ∨ n = 17 ∨ n = 18 ∨ n = 19 ∨ n = 20 by omega) with rfl | rfl | rfl | rfl | rfl | rfl | rfl | rfl | rfl | rfl | rfl | rfl | rfl | rfl | rfl | rfl | rfl | rfl | rfl | rfl
  · rw [st1_1_1, show 1 + 1 = 2 from rfl, st1_1_2] at h; exact absurd (out_inj (by unfold okS; decide) (by unfold okS; decide) h).1 (by decide)
  · rw [st1_1_2, show 2 + 1 = 3 from rfl, st1_1_3] at h; exact absurd (out_inj (by unfold okS; decide) (by unfold okS; decide) h).1 (by decide)
  · rw [st1_1_3, show 3 + 1 = 4 from rfl, st1_1_4] at h; exact absurd (out_inj (by unfold okS; decide) (by unfold okS; decide) h).1 (by decide)
  · rw [st1_1_4, show 4 + 1 = 5 from rfl, st1_1_5] at h; exact absurd (out_inj (by unfold okS; decide) (by unfold okS; decide) h).1 (by decide)
  · rw [st1_1_5, show 5 + 1 = 6 from rfl, st1_1_6] at h; exact absurd (out_inj (by unfold okS; decide) (by unfold okS; decide) h).1 (by decide)
  · rw [st1_1_6, show 6 + 1 = 7 from rfl, st1_1_7] at h; exact absurd (out_inj (by unfold okS; decide) (by unfold okS; decide) h).1 (by decide)
  · rw [st1_1_7, show 7 + 1 = 8 from rfl, st1_1_8] at h; exact absurd (out_inj (by unfold okS; decide) (by unfold okS; decide) h).1 (by decide)
  · rw [st1_1_8, show 8 + 1 = 9 from rfl, st1_1_9] at h; exact absurd (out_inj (by unfold okS; decide) (by unfold okS; decide) h).1 (by decide)
  · rw [st1_1_9, show 9 + 1 = 10 from rfl, st1_1_10] at h; exact absurd (out_inj (by unfold okS; decide) (by unfold okS; decide) h).1 (by decide)
  · rw [st1_1_10, show 10 + 1 = 11 from rfl, st1_1_11] at h; exact absurd (out_inj (by unfold okS; decide) (by unfold okS; decide) h).1 (by decide)
  · rw [st1_1_11, show 11 + 1 = 12 from rfl, st1_1_12] at h; exact absurd (out_inj (by unfold okS; decide) (by unfold okS; decide) h).1 (by decide)
  · rw [st1_1_12, show 12 + 1 = 13 from rfl, st1_1_13] at h; exact absurd (out_inj (by unfold okS; decide) (by unfold okS; decide) h).1 (by decide)
  · rw [st1_1_13, show 13 + 1 = 14 from rfl, st1_1_14] at h; exact absurd (out_inj (by unfold okS; decide) (by unfold okS; decide) h).1 (by decide)
  · rw [st1_1_14, show 14 + 1 = 15 from rfl, st1_1_15] at h; exact absurd (out_inj (by unfold okS; decide) (by unfold okS; decide) h).1 (by decide)
  · rw [st1_1_15, show 15 + 1 = 16 from rfl, st1_1_16] at h; exact absurd (out_inj (by unfold okS; decide) (by unfold okS; decide) h).1 (by decide)
  · rw [st1_1_16, show 16 + 1 = 17 from rfl, st1_1_17] at h; exact absurd (out_inj (by unfold okS; decide) (by unfold okS; decide) h).1 (by decide)
  · rw [st1_1_17, show 17 + 1 = 18 from rfl, st1_1_18] at h; exact absurd (out_inj (by unfold okS; decide) (by unfold okS; decide) h).1 (by decide)
  · rw [st1_1_18, show 18 + 1 = 19 from rfl, st1_1_19] at h; exact absurd (out_inj (by unfold okS; decide) (by unfold okS; decide) h).1 (by decide)
  · rw [st1_1_19, show 19 + 1 = 20 from rfl, st1_1_20] at h; exact absurd (out_inj (by unfold okS; decide) (by unfold okS; decide) h).1 (by decide)
  · rw [st1_1_20, show 20 + 1 = 21 from rfl, st1_1_21] at h; exact absurd (out_inj (by unfold okS; decide) (by unfold okS; decide) h).1 (by decide)

theorem st1_2_1 : strN 1 [115, 101, 99, 114, 101, 116] [115, 50] = outB (stL ⟨579800192, 4228689913, 2658800086, 3946028476, 2492707409, 919751383, 3129864636, 2863612061⟩) := mac_by si3_is so3_is (p := [128, 0, 0, 0, 0, 0, 0, 0, 0, 0, 0, 0, 0, 0, 0, 0, 0, 0, 0, 0, 0, 0, 0, 0, 0, 0, 0, 0, 0, 0, 0, 0, 0, 0, 0, 0, 0, 0, 0, 0, 0, 0, 0, 0, 0, 0, 0, 0, 0, 0, 0, 0, 0, 0, 0, 0, 0, 0, 0, 0, 2, 16]) (by decide +kernel) (by decide +kernel) (W := [1932689408, 0, 0, 0, 0, 0, 0, 0, 0, 0, 0, 0, 0, 0, 0, 528]) (by decide +kernel) (t := ⟨3354699413, 3502402929, 315443702, 3327282634, 1096374563, 1549849098, 1276641471, 3088925278⟩) (by kernel_rfl) (by kernel_rfl)

theorem st1_2_2 : strN 2 [115, 101, 99, 114, 101, 116] [115, 50] = outB (stL ⟨1589075814, 248996052, 1102874863, 1687531716, 177073663, 2484876534, 3427434052, 3397219074⟩) := by
  rw [strN_snoc, st1_2_1]
  exact mac_st si3_is so3_is (by unfold okS; decide) (t := ⟨1292011763, 659012631, 2314204911, 3547983359, 2981990236, 1307873079, 3561356170, 1675615214⟩) (by kernel_rfl) (by kernel_rfl)

theorem st1_2_3 : strN 3 [115, 101, 99, 114, 101, 116] [115, 50] = outB (stL ⟨3466671561, 2562200499, 2655075081, 27121523, 415210818, 3437649358, 265177587, 2082202489⟩) := by
  rw [strN_snoc, st1_2_2]
  exact mac_st si3_is so3_is (by unfold okS; decide) (t := ⟨4192837967, 29697267, 2386982100, 590084210, 3009867354, 3450946403, 612700336, 2984061587⟩) (by kernel_rfl) (by kernel_rfl)

theorem st1_2_4 : strN 4 [115, 101, 99, 114, 101, 116] [115, 50] = outB (stL ⟨2552977075, 917461014, 2833594199, 1336526987, 3108881157, 3991046599, 3996555593, 2882368541⟩) := by
  rw [strN_snoc, st1_2_3]
  exact mac_st si3_is so3_is (by unfold okS; decide) (t := ⟨689596529, 3376923112, 669303494, 84990845, 1600784721, 1275191340, 771454799, 1404764894⟩) (by kernel_rfl) (by kernel_rfl)

theorem st1_2_5 : strN 5 [115, 101, 99, 114, 101, 116] [115, 50] = outB (stL ⟨2309362083, 4262013970, 3670761690, 211494253, 706057343, 1120929940, 1213802666, 4273776844⟩) := by
  rw [strN_snoc, st1_2_4]
  exact mac_st si3_is so3_is (by unfold okS; decide) (t := ⟨3169215994, 1833135131, 3115095388, 3620257356, 3175721068, 2865046255, 1230106146, 1735836357⟩) (by kernel_rfl) (by kernel_rfl)

theorem st1_2_6 : strN 6 [115, 101, 99, 114, 101, 116] [115, 50] = outB (stL ⟨4292124519, 2657489414, 2209849322, 767761958, 3450259242, 201638067, 3954551402, 2918252650⟩) := by
  rw [strN_snoc, st1_2_5]
  exact mac_st si3_is so3_is (by unfold okS; decide) (t := ⟨2769757695, 291666320, 3185523911, 828358404, 2420501475, 1009434763, 2157321589, 577976103⟩) (by kernel_rfl) (by kernel_rfl)

theorem st1_2_7 : strN 7 [115, 101, 99, 114, 101, 116] [115, 50] = outB (stL ⟨1988271571, 1037182990, 3850664470, 1256251877, 1332979599, 47283558, 3481496073, 3276649552⟩) := by
  rw [strN_snoc, st1_2_6]
  exact mac_st si3_is so3_is (by unfold okS; decide) (t := ⟨1927573906, 4123647877, 1196537364, 2287926902, 3732343839, 2619519144, 2208867778, 766021685⟩) (by kernel_rfl) (by kernel_rfl)

theorem st1_2_8 : strN 8 [115, 101, 99, 114, 101, 116] [115, 50] = outB (stL ⟨2703348157, 4238494340, 3490213002, 3607232221, 3755387970, 4177346447, 1925857800, 2250788170⟩) := by
  rw [strN_snoc, st1_2_7]
  exact mac_st si3_is so3_is (by unfold okS; decide) (t := ⟨1808110813, 3974653767, 2328917874, 1482930851, 870545119, 2438581896, 942799592, 3579789356⟩) (by kernel_rfl) (by kernel_rfl)

theorem st1_2_9 : strN 9 [115, 101, 99, 114, 101, 116] [115, 50] = outB (stL ⟨3705789905, 1295006484, 3086321710, 315964305, 741040470, 846027148, 1836102680, 2093573769⟩) := by
  rw [strN_snoc, st1_2_8]
  exact mac_st si3_is so3_is (by unfold okS; decide) (t := ⟨1611974435, 3861337245, 2258539840, 2487425425, 4222135039, 4005539884, 1398601892, 112451991⟩) (by kernel_rfl) (by kernel_rfl)

theorem st1_2_10 : strN 10 [115, 101, 99, 114, 101, 116] [115, 50] = outB (stL ⟨1880507431, 2747362896, 3575845508, 2693601779, 3136167611, 880346864, 1917496317, 1779724747⟩) := by
  rw [strN_snoc, st1_2_9]
  exact mac_st si3_is so3_is (by unfold okS; decide) (t := ⟨3006219090, 18000366, 3722284801, 630703576, 4051775950, 1896686045, 3234919048, 919348657⟩) (by kernel_rfl) (by kernel_rfl)

theorem st1_2_11 : strN 11 [115, 101, 99, 114, 101, 116] [115, 50] = outB (stL ⟨2544131414, 4210580478, 3471004368, 1538714693, 2194392344, 3794630394, 1258837029, 2918322935⟩) := by
  rw [strN_snoc, st1_2_10]
  exact mac_st si3_is so3_is (by unfold okS; decide) (t := ⟨1082785178, 4224656955, 1529518569, 1165885638, 3154297050, 2037947164, 1394221334, 386241576⟩) (by kernel_rfl) (by kernel_rfl)

theorem st1_2_12 : strN 12 [115, 101, 99, 114, 101, 116] [115, 50] = outB (stL ⟨2706713766, 2014300849, 1092295882, 804961162, 721601106, 2962975757, 67416669, 3999476515⟩) := by
  rw [strN_snoc, st1_2_11]
  exact mac_st si3_is so3_is (by unfold okS; decide) (t := ⟨1301554680, 4014936369, 811892053, 3441642405, 2966136581, 987933052, 470553517, 2136994792⟩) (by kernel_rfl) (by kernel_rfl)

theorem st1_2_13 : strN 13 [115, 101, 99, 114, 101, 116] [115, 50] = outB (stL ⟨1512751334, 371599100, 171336338, 480635481, 1615444560, 1919961076, 1619107735, 3136645796⟩) := by
  rw [strN_snoc, st1_2_12]
  exact mac_st si3_is so3_is (by unfold okS; decide) (t := ⟨3387508154, 52327730, 3931586972, 3830491153, 4150647632, 680896951, 710103882, 1416740210⟩) (by kernel_rfl) (by kernel_rfl)

theorem st1_2_14 : strN 14 [115, 101, 99, 114, 101, 116] [115, 50] = outB (stL ⟨1779497526, 3211797241, 2943179320, 2711090855, 515210958, 4012411846, 2383187042, 2157507060⟩) := by
  rw [strN_snoc, st1_2_13]
  exact mac_st si3_is so3_is (by unfold okS; decide) (t := ⟨2405628129, 3445995757, 2804470824, 3203493953, 380105855, 2839638228, 2720087393, 1748607001⟩) (by kernel_rfl) (by kernel_rfl)

theorem st1_2_15 : strN 15 [115, 101, 99, 114, 101, 116] [115, 50] = outB (stL ⟨2151847485, 3476636110, 2966314114, 2568713203, 4012491556, 538036094, 1602590643, 224610288⟩) := by
  rw [strN_snoc, st1_2_14]
  exact mac_st si3_is so3_is (by unfold okS; decide) (t := ⟨1587301035, 3737299902, 2265322116, 3629628703, 1037179957, 4099788228, 2478440304, 368813264⟩) (by kernel_rfl) (by kernel_rfl)

theorem st1_2_16 : strN 16 [115, 101, 99, 114, 101, 116] [115, 50] = outB (stL ⟨1114880951, 2309439645, 3135885581, 1464042233, 405460901, 121269415, 1514133740, 1116413894⟩) := by
  rw [strN_snoc, st1_2_15]
  exact mac_st si3_is so3_is (by unfold okS; decide) (t := ⟨500437814, 968617032, 3877521383, 335392250, 4275008038, 3404880875, 552904680, 4257225749⟩) (by kernel_rfl) (by kernel_rfl)

theorem st1_2_17 : strN 17 [115, 101, 99, 114, 101, 116] [115, 50] = outB (stL ⟨3923543466, 1968587045, 2263769991, 3413944529, 651068573, 2986701776, 3607881980, 463881673⟩) := by
  rw [strN_snoc, st1_2_16]
  exact mac_st si3_is so3_is (by unfold okS; decide) (t := ⟨2633981637, 1569623528, 1717864414, 4046720144, 171074563, 2779701656, 811742766, 1326428463⟩) (by kernel_rfl) (by kernel_rfl)

theorem st1_2_18 : strN 18 [115, 101, 99, 114, 101, 116] [115, 50] = outB (stL ⟨144506497, 1349352838, 960170785, 1020568135, 1781480303, 429393214, 2511567948, 2540921239⟩) := by
  rw [strN_snoc, st1_2_17]
  exact mac_st si3_is so3_is (by unfold okS; decide) (t := ⟨121662966, 1620294109, 752538227, 317085572, 3482435625, 1705330816, 1691196755, 964765876⟩) (by kernel_rfl) (by kernel_rfl)

theorem st1_2_19 : strN 19 [115, 101, 99, 114, 101, 116] [115, 50] = outB (stL ⟨486530989, 1328476273, 3415050305, 318362216, 4126453330, 3018945604, 2457596720, 1707937984⟩) := by
  rw [strN_snoc, st1_2_18]
  exact mac_st si3_is so3_is (by unfold okS; decide) (t := ⟨4248093992, 2480067380, 1982295396, 2911514522, 3160384200, 338373310, 3313546724, 1371492594⟩) (by kernel_rfl) (by kernel_rfl)

theorem st1_2_20 : strN 20 [115, 101, 99, 114, 101, 116] [115, 50] = outB (stL ⟨3179711484, 3116890143, 4292462088, 2331466223, 3325114337, 1150352356, 1536611691, 3518933065⟩) := by
  rw [strN_snoc, st1_2_19]
  exact mac_st si3_is so3_is (by unfold okS; decide) (t := ⟨3713969093, 4277537495, 1167747131, 2727214615, 1852347580, 413579344, 2726589749, 3814663496⟩) (by kernel_rfl) (by kernel_rfl)

theorem st1_2_21 : strN 21 [115, 101, 99, 114, 101, 116] [115, 50] = outB (stL ⟨2723169864, 2308008148, 2716288570, 124067637, 482482611, 3591675350, 2241647980, 251807785⟩) := by
  rw [strN_snoc, st1_2_20]
  exact mac_st si3_is so3_is (by unfold okS; decide) (t := ⟨2574080538, 159520573, 1854660770, 274415207, 1690178402, 2638133965, 2198420042, 3919005640⟩) (by kernel_rfl) (by kernel_rfl)

theorem sd1_2 (n : Nat) (h1 : 1 ≤ n) (h2 : n ≤ 20) : strN (n + 1) [115, 101, 99, 114, 101, 116] [115, 50] ≠ strN n [115, 101, 99, 114, 101, 116] [115, 50] := by
  intro h
  rcases (show n = 1 ∨ n = 2 ∨ n = 3 ∨ n = 4 ∨ n = 5 ∨ n = 6 ∨ n = 7 ∨ n = 8 ∨ n = 9 ∨ n = 10 ∨ n = 11 ∨ n = 12 ∨ n = 13 ∨ n = 14 ∨ n = 15 ∨ n = 16 ∨ n = 17 ∨ n = 18 ∨ n = 19 ∨ n = 20 by omega) with rfl | rfl | rfl | rfl | rfl | rfl | rfl | rfl | rfl | rfl | rfl | rfl | rfl | rfl | rfl | rfl | rfl | rfl | rfl | rfl
  · rw [st1_2_1, show 1 + 1 = 2 from rfl, st1_2_2] at h; exact absurd (out_inj (by unfold okS; decide) (by unfold okS; decide) h).1 (by decide)
  · rw [st1_2_2, show 2 + 1 = 3 from rfl, st1_2_3] at h; exact absurd (out_inj (by unfold okS; decide) (by unfold okS; decide) h).1 (by decide)
  · rw [st1_2_3, show 3 + 1 = 4 from rfl, st1_2_4] at h; exact absurd (out_inj (by unfold okS; decide) (by unfold okS; decide) h).1 (by decide)
  · rw [st1_2_4, show 4 + 1 = 5 from rfl, st1_2_5] at h; exact absurd (out_inj (by unfold okS; decide) (by unfold okS; decide) h).1 (by decide)
  · rw [st1_2_5, show 5 + 1 = 6 from rfl, st1_2_6] at h; exact absurd (out_inj (by unfold okS; decide) (by unfold okS; decide) h).1 (by decide)
  · rw [st1_2_6, show 6 + 1 = 7 from rfl, st1_2_7] at h; exact absurd (out_inj (by unfold okS; decide) (by unfold okS; decide) h).1 (by decide)
  · rw [st1_2_7, show 7 + 1 = 8 from rfl, st1_2_8] at h; exact absurd (out_inj (by unfold okS; decide) (by unfold okS; decide) h).1 (by decide)
  · rw [st1_2_8, show 8 + 1 = 9 from rfl, st1_2_9] at h; exact absurd (out_inj (by unfold okS; decide) (by unfold okS; decide) h).1 (by decide)
  · rw [st1_2_9, show 9 + 1 = 10 from rfl, st1_2_10] at h; exact absurd (out_inj (by unfold okS; decide) (by unfold okS; decide) h).1 (by decide)
  · rw [st1_2_10, show 10 + 1 = 11 from rfl, st1_2_11] at h; exact absurd (out_inj (by unfold okS; decide) (by unfold okS; decide) h).1 (by decide)
  · rw [st1_2_11, show 11 + 1 = 12 from rfl, st1_2_12] at h; exact absurd (out_inj (by unfold okS; decide) (by unfold okS; decide) h).1 (by decide)
  · rw [st1_2_12, show 12 + 1 = 13 from rfl, st1_2_13] at h; exact absurd (out_inj (by unfold okS; decide) (by unfold okS; decide) h).1 (by decide)
  · rw [st1_2_13, show 13 + 1 = 14 from rfl, st1_2_14] at h; exact absurd (out_inj (by unfold okS; decide) (by unfold okS; decide) h).1 (by decide)
  · rw [st1_2_14, show 14 + 1 = 15 from rfl, st1_2_15] at h; exact absurd (out_inj (by unfold okS; decide) (by unfold okS; decide) h).1 (by decide)
  · rw [st1_2_15, show 15 + 1 = 16 from rfl, st1_2_16] at h; exact absurd (out_inj (by unfold okS; decide) (by unfold okS; decide) h).1 (by decide)
  · rw [st1_2_16, show 16 + 1 = 17 from rfl, st1_2_17] at h; exact absurd (out_inj (by unfold okS; decide) (by unfold okS; decide) h).1 (by decide)
  · rw [st1_2_17, show 17 + 1 = 18 from rfl, st1_2_18] at h; exact absurd (out_inj (by unfold okS; decide) (by unfold okS; decide) h).1 (by decide)
  · rw [st1_2_18, show 18 + 1 = 19 from rfl, st1_2_19] at h; exact absurd (out_inj (by unfold okS; decide) (by unfold okS; decide) h).1 (by decide)
  · rw [st1_2_19, show 19 + 1 = 20 from rfl, st1_2_20] at h; exact absurd (out_inj (by unfold okS; decide) (by unfold okS; decide) h).1 (by decide)
  · rw [st1_2_20, show 20 + 1 = 21 from rfl, st1_2_21] at h; exact absurd (out_inj (by unfold okS; decide) (by unfold okS; decide) h).1 (by decide)

theorem st2_0_1 : strN 1 [108, 101, 116, 109, 101, 105, 110] [] = outB (stL ⟨3684988543, 3337521917, 2381446498, 3162924677, 2599543137, 4131100280, 3115734450, 2950677046⟩) := mac_by si4_is so4_is (p := [128, 0, 0, 0, 0, 0, 0, 0, 0, 0, 0, 0, 0, 0, 0, 0, 0, 0, 0, 0, 0, 0, 0, 0, 0, 0, 0, 0, 0, 0, 0, 0, 0, 0, 0, 0, 0, 0, 0, 0, 0, 0, 0, 0, 0, 0, 0, 0, 0, 0, 0, 0, 0, 0, 0, 0, 0, 0, 0, 0, 0, 0, 2, 0]) (by decide +kernel) (by decide +kernel) (W := [2147483648, 0, 0, 0, 0, 0, 0, 0, 0, 0, 0, 0, 0, 0, 0, 512]) (by decide +kernel) (t := ⟨1172400399, 990750481, 3386530552, 565528323, 1448097304, 941813438, 792761775, 2029474271⟩) (by kernel_rfl) (by kernel_rfl)

theorem st2_0_2 : strN 2 [108, 101, 116, 109, 101, 105, 110] [] = outB (stL ⟨4000153074, 2772090536, 2347176596, 1421288203, 4055308615, 2242948594, 2821547454, 4232558714⟩) := by
  rw [strN_snoc, st2_0_1]
  exact mac_st si4_is so4_is (by unfold okS; decide) (t := ⟨2102329633, 2506818243, 1354416404, 131915075, 3890185425, 2326724326, 930473369, 3519103115⟩) (by kernel_rfl) (by kernel_rfl)

theorem st2_0_3 : strN 3 [108, 101, 116, 109, 101, 105, 110] [] = outB (stL ⟨4207902778, 3307473270, 3608105998, 3661740442, 4033592478, 4122255696, 3824667859, 2086525627⟩) := by
  rw [strN_snoc, st2_0_2]
  exact mac_st si4_is so4_is (by unfold okS; decide) (t := ⟨2649994270, 1993395285, 704579907, 3631852712, 2844606061, 1766589467, 2668316739, 3150536841⟩) (by kernel_rfl) (by kernel_rfl)

theorem st2_0_4 : strN 4 [108, 101, 116, 109, 101, 105, 110] [] = outB (stL ⟨1096751114, 2187938745, 523945044, 1338002159, 1749002986, 518899392, 561874935, 1865953362⟩) := by
  rw [strN_snoc, st2_0_3]
  exact mac_st si4_is so4_is (by unfold okS; decide) (t := ⟨1345464685, 16979577, 1272964326, 1966803200, 3921616308, 1671450691, 1364763764, 3413104034⟩) (by kernel_rfl) (by kernel_rfl)

theorem st2_0_5 : strN 5 [108, 101, 116, 109, 101, 105, 110] [] = outB (stL ⟨487056113, 3382084630, 1200877100, 832044711, 3010413816, 1312467858, 704567935, 1603624703⟩) := by
  rw [strN_snoc, st2_0_4]
  exact mac_st si4_is so4_is (by unfold okS; decide) (t := ⟨859076159, 2487207063, 2438918632, 3152593534, 3544782809, 2658264876, 2199263889, 2564752745⟩) (by kernel_rfl) (by kernel_rfl)

theorem st2_0_6 : strN 6 [108, 101, 116, 109, 101, 105, 110] [] = outB (stL ⟨2267169231, 1715801676, 1267733458, 1874495108, 1579088378, 2081808335, 4156899632, 2962044626⟩) := by
  rw [strN_snoc, st2_0_5]
  exact mac_st si4_is so4_is (by unfold okS; decide) (t := ⟨1660457795, 425782880, 1966080110, 3125019820, 3058611394, 2004868012, 3360133788, 150223580⟩) (by kernel_rfl) (by kernel_rfl)

theorem st2_0_7 : strN 7 [108, 101, 116, 109, 101, 105, 110] [] = outB (stL ⟨104012812, 3150462746, 4150259932, 1819734705, 3862296737, 2996205861, 821895290, 1376970173⟩) := by
  rw [strN_snoc, st2_0_6]
  exact mac_st si4_is so4_is (by unfold okS; decide) (t := ⟨1676795251, 725676441, 2496864100, 485960107, 2581525804, 2320027752, 791722365, 3851537532⟩) (by kernel_rfl) (by kernel_rfl)

theorem st2_0_8 : strN 8 [108, 101, 116, 109, 101, 105, 110] [] = outB (stL ⟨2444392320, 3001286209, 3288422392, 2890228321, 1562194016, 1814431051, 1302349362, 705731733⟩) := by
  rw [strN_snoc, st2_0_7]
  exact mac_st si4_is so4_is (by unfold okS; decide) (t := ⟨2134872001, 296091387, 526780082, 2251683022, 1719340393, 723343406, 1189070898, 3560245187⟩) (by kernel_rfl) (by kernel_rfl)

theorem st2_0_9 : strN 9 [108, 101, 116, 109, 101, 105, 110] [] = outB (stL ⟨3996325145, 146406482, 3338097509, 1353549597, 1667137583, 1784114001, 829846967, 3510122243⟩) := by
  rw [strN_snoc, st2_0_8]
  exact mac_st si4_is so4_is (by unfold okS; decide) (t := ⟨2105770844, 2948938180, 272941088, 619807392, 1264686088, 3928490852, 343941557, 239292964⟩) (by kernel_rfl) (by kernel_rfl)

theorem st2_0_10 : strN 10 [108, 101, 116, 109, 101, 105, 110] [] = outB (stL ⟨3382694667, 3596053006, 3155187812, 631308218, 2984402793, 393553585, 1177663923, 1943872158⟩) := by
  rw [strN_snoc, st2_0_9]
  exact mac_st si4_is so4_is (by unfold okS; decide) (t := ⟨3095882321, 2979431944, 710812827, 261712620, 888531489, 4222931203, 2896524210, 1868551992⟩) (by kernel_rfl) (by kernel_rfl)

theorem st2_0_11 : strN 11 [108, 101, 116, 109, 101, 105, 110] [] = outB (stL ⟨3056914295, 954745076, 1594599689, 1526356521, 2290242635, 2870705224, 2317317250, 1490867628⟩) := by
  rw [strN_snoc, st2_0_10]
  exact mac_st si4_is so4_is (by unfold okS; decide) (t := ⟨238727763, 1666090355, 1886180098, 3436022725, 1432914478, 2375170492, 3280451229, 2741077967⟩) (by kernel_rfl) (by kernel_rfl)

theorem st2_0_12 : strN 12 [108, 101, 116, 109, 101, 105, 110] [] = outB (stL ⟨431344760, 3853049790, 2417002971, 1301874584, 1220525514, 3167023839, 1340615264, 2582297492⟩) := by
  rw [strN_snoc, st2_0_11]
  exact mac_st si4_is so4_is (by unfold okS; decide) (t := ⟨3820774781, 4088691305, 2651381623, 1156579726, 3892068601, 1651282777, 545227345, 1458422549⟩) (by kernel_rfl) (by kernel_rfl)

theorem st2_0_13 : strN 13 [108, 101, 116, 109, 101, 105, 110] [] = outB (stL ⟨2221372043, 3659169009, 974518680, 146702758, 3087793537, 2640692021, 1952167306, 3622332840⟩) := by
  rw [strN_snoc, st2_0_12]
  exact mac_st si4_is so4_is (by unfold okS; decide) (t := ⟨2648181526, 1464142146, 3817708911, 4180684540, 2237761766, 481786932, 3162642517, 3279145434⟩) (by kernel_rfl) (by kernel_rfl)

theorem st2_0_14 : strN 14 [108, 101, 116, 109, 101, 105, 110] [] = outB (stL ⟨2619943835, 97891843, 3009114687, 1529124361, 1914552303, 2683846111, 101389944, 3116203159⟩) := by
  rw [strN_snoc, st2_0_13]
  exact mac_st si4_is so4_is (by unfold okS; decide) (t := ⟨2029684660, 2410003241, 3757584719, 3282138036, 2417069714, 2537379387, 1671501007, 2084278313⟩) (by kernel_rfl) (by kernel_rfl)

theorem st2_0_15 : strN 15 [108, 101, 116, 109, 101, 105, 110] [] = outB (stL ⟨280828841, 3500251423, 2841062281, 1421727808, 1133561741, 152767559, 2231591388, 3300278743⟩) := by
  rw [strN_snoc, st2_0_14]
  exact mac_st si4_is so4_is (by unfold okS; decide) (t := ⟨596195212, 1381846960, 2462827517, 3019202226, 1607388884, 3279285557, 1710752538, 3857038027⟩) (by kernel_rfl) (by kernel_rfl)

theorem st2_0_16 : strN 16 [108, 101, 116, 109, 101, 105, 110] [] = outB (stL ⟨3431549995, 4137671598, 819152324, 784647763, 3488049770, 3354435588, 3954856974, 525157081⟩) := by
  rw [strN_snoc, st2_0_15]
  exact mac_st si4_is so4_is (by unfold okS; decide) (t := ⟨2937774849, 2875871953, 2828583896, 3172685149, 3658806065, 3602075115, 223427897, 2548718198⟩) (by kernel_rfl) (by kernel_rfl)

theorem st2_0_17 : strN 17 [108, 101, 116, 109, 101, 105, 110] [] = outB (stL ⟨3924231012, 1378461431, 749204636, 3753996087, 3919981486, 2028246623, 1766115656, 1434826590⟩) := by
  rw [strN_snoc, st2_0_16]
  exact mac_st si4_is so4_is (by unfold okS; decide) (t := ⟨2645062917, 3727651150, 1169698658, 1184690108, 1892024479, 3790138287, 1989914636, 847580564⟩) (by kernel_rfl) (by kernel_rfl)

theorem st2_0_18 : strN 18 [108, 101, 116, 109, 101, 105, 110] [] = outB (stL ⟨3252694229, 2301429227, 2958101701, 54819595, 4136296209, 3128011668, 1357007854, 2553304831⟩) := by
  rw [strN_snoc, st2_0_17]
  exact mac_st si4_is so4_is (by unfold okS; decide) (t := ⟨1159204420, 2225099356, 1589319601, 1932095629, 2414019201, 1512674441, 409252374, 2453545264⟩) (by kernel_rfl) (by kernel_rfl)

theorem st2_0_19 : strN 19 [108, 101, 116, 109, 101, 105, 110] [] = outB (stL ⟨1375458292, 63889023, 3320466787, 1634738181, 2223332723, 504882265, 508793821, 4224768886⟩) := by
  rw [strN_snoc, st2_0_18]
  exact mac_st si4_is so4_is (by unfold okS; decide) (t := ⟨3991229993, 809710165, 4139805068, 958736202, 1633156146, 2344236138, 3675635176, 617135232⟩) (by kernel_rfl) (by kernel_rfl)

theorem st2_0_20 : strN 20 [108, 101, 116, 109, 101, 105, 110] [] = outB (stL ⟨2950816372, 181373033, 4183805096, 649366367, 1563800291, 1741381963, 1836922811, 1526174845⟩) := by
  rw [strN_snoc, st2_0_19]
  exact mac_st si4_is so4_is (by unfold okS; decide) (t := ⟨3377237062, 79800875, 1463373623, 1010263833, 1012553246, 372665117, 724695816, 2958850567⟩) (by kernel_rfl) (by kernel_rfl)

theorem st2_0_21 : strN 21 [108, 101, 116, 109, 101, 105, 110] [] = outB (stL ⟨586551641, 375021892, 1938332254, 1455402506, 617370222, 1848908007, 918356740, 4156927156⟩) := by
  rw [strN_snoc, st2_0_20]
  exact mac_st si4_is so4_is (by unfold okS; decide) (t := ⟨2298159272, 2664893088, 4058915789, 3013902816, 3541759344, 1944104617, 33141795, 2398313598⟩) (by kernel_rfl) (by kernel_rfl)

theorem sd2_0 (n : Nat) (h1 : 1 ≤ n) (h2 : n ≤ 20) : strN (n + 1) [108, 101, 116, 109, 101, 105, 110] [] ≠ strN n [108, 101, 116, 109, 101, 105, 110] [] := by
  intro h
  rcases (show n = 1 ∨ n = 2 ∨ n = 3 ∨ n = 4 ∨ n = 5 ∨ n = 6 ∨ n = 7 ∨ n = 8 ∨ n = 9 ∨ n = 10 ∨ n = 11 ∨ n = 12 ∨ n = 13 ∨ n = 14 ∨ n = 15 ∨ n = 16 ∨ n = 17 ∨ n = 18 ∨ n = 19 ∨ n = 20 by omega) with rfl | rfl | rfl | rfl | rfl | rfl | rfl | rfl | rfl | rfl | rfl | rfl | rfl | rfl | rfl | rfl | rfl | rfl | rfl | rfl
  · rw [st2_0_1, show 1 + 1 = 2 from rfl, st2_0_2] at h; exact absurd (out_inj (by unfold okS; decide) (by unfold okS; decide) h).1 (by decide)
  · rw [st2_0_2, show 2 + 1 = 3 from rfl, st2_0_3] at h; exact absurd (out_inj (by unfold okS; decide) (by unfold okS; decide) h).1 (by decide)
  · rw [st2_0_3, show 3 + 1 = 4 from rfl, st2_0_4] at h; exact absurd (out_inj (by unfold okS; decide) (by unfold okS; decide) h).1 (by decide)
  · rw [st2_0_4, show 4 + 1 = 5 from rfl, st2_0_5] at h; exact absurd (out_inj (by unfold okS; decide) (by unfold okS; decide) h).1 (by decide)
  · rw [st2_0_5, show 5 + 1 = 6 from rfl, st2_0_6] at h; exact absurd (out_inj (by unfold okS; decide) (by unfold okS; decide) h).1 (by decide)
  · rw [st2_0_6, show 6 + 1 = 7 from rfl, st2_0_7] at h; exact absurd (out_inj (by unfold okS; decide) (by unfold okS; decide) h).1 (by decide)
  · rw [st2_0_7, show 7 + 1 = 8 from rfl, st2_0_8] at h; exact absurd (out_inj (by unfold okS; decide) (by unfold okS; decide) h).1 (by decide)
  · rw [st2_0_8, show 8 + 1 = 9 from rfl, st2_0_9] at h; exact absurd (out_inj (by unfold okS; decide) (by unfold okS; decide) h).1 (by decide)
  · rw [st2_0_9, show 9 + 1 = 10 from rfl, st2_0_10] at h; exact absurd (out_inj (by unfold okS; decide) (by unfold okS; decide) h).1 (by decide)
  · rw [st2_0_10, show 10 + 1 = 11 from rfl, st2_0_11] at h; exact absurd (out_inj (by unfold okS; decide) (by unfold okS; decide) h).1 (by decide)
  · rw [st2_0_11, show 11 + 1 = 12 from rfl, st2_0_12] at h; exact absurd (out_inj (by unfold okS; decide) (by unfold okS; decide) h).1 (by decide)
  · rw [st2_0_12, show 12 + 1 = 13 from rfl, st2_0_13] at h; exact absurd (out_inj (by unfold okS; decide) (by unfold okS; decide) h).1 (by decide)
  · rw [st2_0_13, show 13 + 1 = 14 from rfl, st2_0_14] at h; exact absurd (out_inj (by unfold okS; decide) (by unfold okS; decide) h).1 (by decide)
  · rw [st2_0_14, show 14 + 1 = 15 from rfl, st2_0_15] at h; exact absurd (out_inj (by unfold okS; decide) (by unfold okS; decide) h).1 (by decide)
  · rw [st2_0_15, show 15 + 1 = 16 from rfl, st2_0_16] at h; exact absurd (out_inj (by unfold okS; decide) (by unfold okS; decide) h).1 (by decide)
  · rw [st2_0_16, show 16 + 1 = 17 from rfl, st2_0_17] at h; exact absurd (out_inj (by unfold okS; decide) (by unfold okS; decide) h).1 (by decide)
  · rw [st2_0_17, show 17 + 1 = 18 from rfl, st2_0_18] at h; exact absurd (out_inj (by unfold okS; decide) (by unfold okS; decide) h).1 (by decide)
  · rw [st2_0_18, show 18 + 1 = 19 from rfl, st2_0_19] at h; exact absurd (out_inj (by unfold okS; decide) (by unfold okS; decide) h).1 (by decide)
  · rw [st2_0_19, show 19 + 1 = 20 from rfl, st2_0_20] at h; exact absurd (out_inj (by unfold okS; decide) (by unfold okS; decide) h).1 (by decide)
  · rw [st2_0_20, show 20 + 1 = 21 from rfl, st2_0_21] at h; exact absurd (out_inj (by unfold okS; decide) (by unfold okS; decide) h).1 (by decide)

theorem st2_1_1 : strN 1 [108, 101, 116, 109, 101, 105, 110] [115, 97, 108, 116] = outB (stL ⟨2607475074, 2637271559, 1529812575, 4170841032, 4810976, 1490476955, 1549445643, 3329840501⟩) := mac_by si4_is so4_is (p := [128, 0, 0, 0, 0, 0, 0, 0, 0, 0, 0, 0, 0, 0, 0, 0, 0, 0, 0, 0, 0, 0, 0, 0, 0, 0, 0, 0, 0, 0, 0, 0, 0, 0, 0, 0, 0, 0, 0, 0, 0, 0, 0, 0, 0, 0, 0, 0, 0, 0, 0, 0, 0, 0, 0, 0, 0, 0, 2, 32]) (by decide +kernel) (by decide +kernel) (W := [1935764596, 2147483648, 0, 0, 0, 0, 0, 0, 0, 0, 0, 0, 0, 0, 0, 544]) (by decide +kernel) (t := ⟨3475573034, 1971746080, 1730644798, 3238185073, 2166774840, 1928607765, 1472820312, 2277273026⟩) (by kernel_rfl) (by kernel_rfl)

theorem st2_1_2 : strN 2 [108, 101, 116, 109, 101, 105, 110] [115, 97, 108, 116] = outB (stL ⟨2808878338, 1485533368, 2463375188, 1118291359, 3076874239, 1402474803, 2379166846, 2920788664⟩) := by
  rw [strN_snoc, st2_1_1]
  exact mac_st si4_is so4_is (by unfold okS; decide) (t := ⟨1369660834, 2936705756, 1093098725, 913009422, 1150036951, 3048994685, 3916105037, 973918378⟩) (by kernel_rfl) (by kernel_rfl)

theorem st2_1_3 : strN 3 [108, 101, 116, 109, 101, 105, 110] [115, 97, 108, 116] = outB (stL ⟨1283850828, 3508345596, 3111408194, 3002944231, 703039215, 1109449086, 2996802202, 4278561720⟩) := by
  rw [strN_snoc, st2_1_2]
  exact mac_st si4_is so4_is (by unfold okS; decide) (t := ⟨589149613, 3870908614, 387246603, 1197113584, 3816093863, 2357487473, 4136326964, 1746191778⟩) (by kernel_rfl) (by kernel_rfl)

theorem st2_1_4 : strN 4 [108, 101, 116, 109, 101, 105, 110] [115, 97, 108, 116] = outB (stL ⟨976044920, 1553204531, 3745343644, 234047109, 3157476555, 1885004786, 303372475, 1426402835⟩) := by
  rw [strN_snoc, st2_1_3]
  exact mac_st si4_is so4_is (by unfold okS; decide) (t := ⟨4255184671, 2588473244, 2213356496, 2700350833, 2569542666, 2314450339, 3826242299, 179418003⟩) (by kernel_rfl) (by kernel_rfl)

theorem st2_1_5 : strN 5 [108, 101, 116, 109, 101, 105, 110] [115, 97, 108, 116] = outB (stL ⟨3604208607, 583492479, 1851964227, 603740991, 875180364, 2503393908, 1077330844, 162741606⟩) := by
  rw [strN_snoc, st2_1_4]
  exact mac_st si4_is so4_is (by unfold okS; decide) (t := ⟨2156016150, 1886697766, 258682224, 1061055505, 430846395, 1044622087, 1443900859, 3961857148⟩) (by kernel_rfl) (by kernel_rfl)

theorem st2_1_6 : strN 6 [108, 101, 116, 109, 101, 105, 110] [115, 97, 108, 116] = outB (stL ⟨1253247866, 3665908057, 1848208965, 1015665822, 479096099, 3676751264, 2766925781, 3591648144⟩) := by
  rw [strN_snoc, st2_1_5]
  exact mac_st si4_is so4_is (by unfold okS; decide) (t := ⟨2356584218, 2744486975, 3573838210, 1886174048, 3983612937, 957450447, 1202730735, 4230092670⟩) (by kernel_rfl) (by kernel_rfl)

theorem st2_1_7 : strN 7 [108, 101, 116, 109, 101, 105, 110] [115, 97, 108, 116] = outB (stL ⟨1722917233, 3726670299, 282272072, 3277187622, 2400483242, 1149494346, 3327361877, 833351247⟩) := by
  rw [strN_snoc, st2_1_6]
  exact mac_st si4_is so4_is (by unfold okS; decide) (t := ⟨3670069747, 2414332588, 3009605777, 1676819248, 470671608, 1423623922, 3018915386, 950997428⟩) (by kernel_rfl) (by kernel_rfl)

theorem st2_1_8 : strN 8 [108, 101, 116, 109, 101, 105, 110] [115, 97, 108, 116] = outB (stL ⟨3135121996, 1661298321, 682571798, 2631897803, 106997899, 852593295, 309262513, 2362985750⟩) := by
  rw [strN_snoc, st2_1_7]
  exact mac_st si4_is so4_is (by unfold okS; decide) (t := ⟨1683307000, 4030348645, 252094958, 987891062, 4207867260, 3777412228, 1729475345, 57607348⟩) (by kernel_rfl) (by kernel_rfl)

theorem st2_1_9 : strN 9 [108, 101, 116, 109, 101, 105, 110] [115, 97, 108, 116] = outB (stL ⟨2170174111, 4273144231, 3650080248, 1264647536, 3687517552, 1149878121, 1005240094, 2408058179⟩) := by
  rw [strN_snoc, st2_1_8]
  exact mac_st si4_is so4_is (by unfold okS; decide) (t := ⟨2612559162, 1338645283, 800583818, 2533621658, 208778109, 3743735414, 45222845, 35318776⟩) (by kernel_rfl) (by kernel_rfl)

theorem st2_1_10 : strN 10 [108, 101, 116, 109, 101, 105, 110] [115, 97, 108, 116] = outB (stL ⟨2474987395, 3987505938, 2920452005, 2577365571, 2358272929, 2840098910, 2841217200, 1749387853⟩) := by
  rw [strN_snoc, st2_1_9]
  exact mac_st si4_is so4_is (by unfold okS; decide) (t := ⟨467014368, 842042624, 2315941850, 3246978857, 2169462286, 639703803, 3337393462, 2089569362⟩) (by kernel_rfl) (by kernel_rfl)

theorem st2_1_11 : strN 11 [108, 101, 116, 109, 101, 105, 110] [115, 97, 108, 116] = outB (stL ⟨316792762, 3355563501, 4007854873, 3100442179, 1937268019, 4122483515, 1680303774, 3031968011⟩) := by
  rw [strN_snoc, st2_1_10]
  exact mac_st si4_is so4_is (by unfold okS; decide) (t := ⟨3028259890, 4039064992, 2646904259, 2464395038, 2276711837, 244714428, 1307239730, 3854473597⟩) (by kernel_rfl) (by kernel_rfl)

theorem st2_1_12 : strN 12 [108, 101, 116, 109, 101, 105, 110] [115, 97, 108, 116] = outB (stL ⟨2087824370, 3594958126, 3378850530, 1550661255, 2120424845, 699708893, 256305542, 270012540⟩) := by
  rw [strN_snoc, st2_1_11]
  exact mac_st si4_is so4_is (by unfold okS; decide) (t := ⟨2992305834, 1935618937, 3400855307, 3583854252, 2272649914, 4175150052, 255801348, 3606746126⟩) (by kernel_rfl) (by kernel_rfl)

theorem st2_1_13 : strN 13 [108, 101, 116, 109, 101, 105, 110] [115, 97, 108, 116] = outB (stL ⟨1933132992, 3577711172, 3465395186, 2380825918, 930289721, 4126460605, 1253084817, 743602652⟩) := by
  rw [strN_snoc, st2_1_12]
  exact mac_st si4_is so4_is (by unfold okS; decide) (t := ⟨4284313191, 3736649693, 1881183752, 2839771726, 1880839386, 2503455162, 2743122808, 1933404115⟩) (by kernel_rfl) (by kernel_rfl)

theorem st2_1_14 : strN 14 [108, 101, 116, 109, 101, 105, 110] [115, 97, 108, 116] = outB (stL ⟨1685246841, 1811260215, 2233234811, 1435477484, 3944274903, 3393292904, 3883577053, 3547684871⟩) := by
  rw [strN_snoc, st2_1_13]
  exact mac_st si4_is so4_is (by unfold okS; decide) (t := ⟨2465456380, 280343932, 2280131696, 3740613280, 1313337592, 3509964292, 536691151, 148782395⟩) (by kernel_rfl) (by kernel_rfl)

theorem st2_1_15 : strN 15 [108, 101, 116, 109, 101, 105, 110] [115, 97, 108, 116] = outB (stL ⟨2779657139, 1808701245, 494105883, 3441526196, 316644415, 2341273247, 2387840316, 4052821102⟩) := by
  rw [strN_snoc, st2_1_14]
  exact mac_st si4_is so4_is (by unfold okS; decide) (t := ⟨2347855631, 3279047481, 198702238, 3279297073, 583276066, 1001152783, 4224331913, 3954413132⟩) (by kernel_rfl) (by kernel_rfl)

theorem st2_1_16 : strN 16 [108, 101, 116, 109, 101, 105, 110] [115, 97, 108, 116] = outB (stL ⟨280065045, 4258264423, 2112558905, 17318412, 2577433708, 4188318642, 1446063763, 630657782⟩) := by
  rw [strN_snoc, st2_1_15]
  exact mac_st si4_is so4_is (by unfold okS; decide) (t := ⟨2406842037, 369554030, 2555708367, 924186988, 2107955445, 616560270, 1599241859, 1898791885⟩) (by kernel_rfl) (by kernel_rfl)

theorem st2_1_17 : strN 17 [108, 101, 116, 109, 101, 105, 110] [115, 97, 108, 116] = outB (stL ⟨3364362617, 3241722820, 1495008601, 1412708028, 890807372, 3687846959, 1142985663, 2826679794⟩) := by
  rw [strN_snoc, st2_1_16]
  exact mac_st si4_is so4_is (by unfold okS; decide) (t := ⟨1482299658, 1324754902, 915544121, 3328189200, 98737387, 701204640, 981739608, 2603588057⟩) (by kernel_rfl) (by kernel_rfl)

theorem st2_1_18 : strN 18 [108, 101, 116, 109, 101, 105, 110] [115, 97, 108, 116] = outB (stL ⟨1550975619, 2314554493, 1030097597, 798683120, 571562224, 2086863603, 2936946644, 2779958325⟩) := by
  rw [strN_snoc, st2_1_17]
  exact mac_st si4_is so4_is (by unfold okS; decide) (t := ⟨1395985184, 2278287578, 4289358059, 3355820871, 261770881, 1342274116, 2835662630, 493510992⟩) (by kernel_rfl) (by kernel_rfl)

theorem st2_1_19 : strN 19 [108, 101, 116, 109, 101, 105, 110] [115, 97, 108, 116] = outB (stL ⟨110277110, 2750786927, 1770272522, 232703421, 4026488, 3462420225, 3676594000, 3506082905⟩) := by
  rw [strN_snoc, st2_1_18]
  exact mac_st si4_is so4_is (by unfold okS; decide) (t := ⟨1456025912, 1504518641, 1806979910, 4284777633, 176411148, 3527502246, 4178056564, 3041684701⟩) (by kernel_rfl) (by kernel_rfl)

theorem st2_1_20 : strN 20 [108, 101, 116, 109, 101, 105, 110] [115, 97, 108, 116] = outB (stL ⟨758883494, 3985512486, 3495512829, 166310003, 166501769, 3818166897, 4087055642, 542666479⟩) := by
  rw [strN_snoc, st2_1_19]
  exact mac_st si4_is so4_is (by unfold okS; decide) (t := ⟨1299695668, 3435000020, 2628997518, 1106315607, 647454911, 1831000645, 2534762467, 1835318171⟩) (by kernel_rfl) (by kernel_rfl)

theorem st2_1_21 : strN 21 [108, 101, 116, 109, 101, 105, 110] [115, 97, 108, 116] = outB (stL ⟨4137205468, 3846987491, 3676843946, 2615016584, 2112735742, 1613008302, 57624028, 1626457310⟩) := by
  rw [strN_snoc, st2_1_20]
  exact mac_st si4_is so4_is (by unfold okS; decide) (t := ⟨3311202602, 1340743372, 3556338155, 3555089842, 2816303193, 109801644, 1277918162, 112172236⟩) (by kernel_rfl) (by kernel_rfl)

theorem sd2_1 (n : Nat) (h1 : 1 ≤ n) (h2 : n ≤ 20) : strN (n + 1) [108, 101, 116, 109, 101, 105, 110] [115, 97, 108, 116] ≠ strN n [108, 101, 116, 109, 101, 105, 110] [115, 97, 108, 116] := by
  intro h
  rcases (show n = 1 ∨ n = 2 ∨ n = 3 ∨ n = 4 ∨ n = 5 ∨ n = 6 ∨ n = 7 ∨ n = 8 ∨ n = 9 ∨ n = 10 ∨ n = 11 ∨ n = 12 ∨ n = 13 ∨ n = 14 ∨ n = 15 ∨ n = 16 ∨ n = 17 ∨ n = 18 ∨ n = 19 ∨ n = 20 by omega) with rfl | rfl | rfl | rfl | rfl | rfl | rfl | rfl | rfl | rfl | rfl | rfl | rfl | rfl | rfl | rfl | rfl | rfl | rfl | rfl
  · rw [st2_1_1, show 1 + 1 = 2 from rfl, st2_1_2] at h; exact absurd (out_inj (by unfold okS; decide) (by unfold okS; decide) h).1 (by decide)
  · rw [st2_1_2, show 2 + 1 = 3 from rfl, st2_1_3] at h; exact absurd (out_inj (by unfold okS; decide) (by unfold okS; decide) h).1 (by decide)
  · rw [st2_1_3, show 3 + 1 = 4 from rfl, st2_1_4] at h; exact absurd (out_inj (by unfold okS; decide) (by unfold okS; decide) h).1 (by decide)
  · rw [st2_1_4, show 4 + 1 = 5 from rfl, st2_1_5] at h; exact absurd (out_inj (by unfold okS; decide) (by unfold okS; decide) h).1 (by decide)
  · rw [st2_1_5, show 5 + 1 = 6 from rfl, st2_1_6] at h; exact absurd (out_inj (by unfold okS; decide) (by unfold okS; decide) h).1 (by decide)
  · rw [st2_1_6, show 6 + 1 = 7 from rfl, st2_1_7] at h; exact absurd (out_inj (by unfold okS; decide) (by unfold okS; decide) h).1 (by decide)
  · rw [st2_1_7, show 7 + 1 = 8 from rfl, st2_1_8] at h; exact absurd (out_inj (by unfold okS; decide) (by unfold okS; decide) h).1 (by decide)
  · rw [st2_1_8, show 8 + 1 = 9 from rfl, st2_1_9] at h; exact absurd (out_inj (by unfold okS; decide) (by unfold okS; decide) h).1 (by decide)
  · rw [st2_1_9, show 9 + 1 = 10 from rfl, st2_1_10] at h; exact absurd (out_inj (by unfold okS; decide) (by unfold okS; decide) h).1 (by decide)
  · rw [st2_1_10, show 10 + 1 = 11 from rfl, st2_1_11] at h; exact absurd (out_inj (by unfold okS; decide) (by unfold okS; decide) h).1 (by decide)
  · rw [st2_1_11, show 11 + 1 = 12 from rfl, st2_1_12] at h; exact absurd (out_inj (by unfold okS; decide) (by unfold okS; decide) h).1 (by decide)
  · rw [st2_1_12, show 12 + 1 = 13 from rfl, st2_1_13] at h; exact absurd (out_inj (by unfold okS; decide) (by unfold okS; decide) h).1 (by decide)
  · rw [st2_1_13, show 13 + 1 = 14 from rfl, st2_1_14] at h; exact absurd (out_inj (by unfold okS; decide) (by unfold okS; decide) h).1 (by decide)
  · rw [st2_1_14, show 14 + 1 = 15 from rfl, st2_1_15] at h; exact absurd (out_inj (by unfold okS; decide) (by unfold okS; decide) h).1 (by decide)
  · rw [st2_1_15, show 15 + 1 = 16 from rfl, st2_1_16] at h; exact absurd (out_inj (by unfold okS; decide) (by unfold okS; decide) h).1 (by decide)
  · rw [st2_1_16, show 16 + 1 = 17 from rfl, st2_1_17] at h; exact absurd (out_inj (by unfold okS; decide) (by unfold okS; decide) h).1 (by decide)
  · rw [st2_1_17, show 17 + 1 = 18 from rfl, st2_1_18] at h; exact absurd (out_inj (by unfold okS; decide) (by unfold okS; decide) h).1 (by decide)
  · rw [st2_1_18, show 18 + 1 = 19 from rfl, st2_1_19] at h; exact absurd (out_inj (by unfold okS; decide) (by unfold okS; decide) h).1 (by decide)
  · rw [st2_1_19, show 19 + 1 = 20 from rfl, st2_1_20] at h; exact absurd (out_inj (by unfold okS; decide) (by unfold okS; decide) h).1 (by decide)
  · rw [st2_1_20, show 20 + 1 = 21 from rfl, st2_1_21] at h; exact absurd (out_inj (by unfold okS; decide) (by unfold okS; decide) h).1 (by decide)

theorem st2_2_1 : strN 1 [108, 101, 116, 109, 101, 105, 110] [115, 50] = outB (stL ⟨3588647925, 1154996704, 2631225815, 3631868556, 2766085369, 430762747, 1026923699, 2537243926⟩) := mac_by si4_is so4_is (p := [128, 0, 0, 0, 0, 0, 0, 0, 0, 0, 0, 0, 0, 0, 0, 0, 0, 0, 0, 0, 0, 0, 0, 0, 0, 0, 0, 0, 0, 0, 0, 0, 0, 0, 0, 0, 0, 0, 0, 0, 0, 0, 0, 0, 0, 0, 0, 0, 0, 0, 0, 0, 0, 0, 0, 0, 0, 0, 0, 0, 2, 16]) (by decide +kernel) (by decide +kernel) (W := [1932689408, 0, 0, 0, 0, 0, 0, 0, 0, 0, 0, 0, 0, 0, 0, 528]) (by decide +kernel) (t := ⟨3011817545, 1801827090, 3212342110, 269577461, 2636694261, 2030541886, 2641458916, 3531004505⟩) (by kernel_rfl) (by kernel_rfl)

theorem st2_2_2 : strN 2 [108, 101, 116, 109, 101, 105, 110] [115, 50] = outB (stL ⟨1239469319, 2182707291, 790305659, 1260359877, 4182611094, 705756341, 4285799957, 3134097502⟩) := by
  rw [strN_snoc, st2_2_1]
  exact mac_st si4_is so4_is (by unfold okS; decide) (t := ⟨142224164, 3736129472, 3525767109, 1767008506, 4016900080, 3072278179, 1165096193, 4106952621⟩) (by kernel_rfl) (by kernel_rfl)

theorem st2_2_3 : strN 3 [108, 101, 116, 109, 101, 105, 110] [115, 50] = outB (stL ⟨180727342, 3461252263, 4078927809, 1054567498, 3816864782, 1710607301, 1485283994, 2922857667⟩) := by
  rw [strN_snoc, st2_2_2]
  exact mac_st si4_is so4_is (by unfold okS; decide) (t := ⟨291524065, 3653873931, 289178425, 2333716301, 2972290981, 1616794631, 897552724, 322419053⟩) (by kernel_rfl) (by kernel_rfl)

theorem st2_2_4 : strN 4 [108, 101, 116, 109, 101, 105, 110] [115, 50] = outB (stL ⟨3094000656, 1384056262, 1142520882, 147042404, 2580264505, 4187589686, 2157938889, 3564587551⟩) := by
  rw [strN_snoc, st2_2_3]
  exact mac_st si4_is so4_is (by unfold okS; decide) (t := ⟨2806165169, 2931255262, 3611031530, 3099682609, 350509980, 2155344204, 2051823288, 905742711⟩) (by kernel_rfl) (by kernel_rfl)

theorem st2_2_5 : strN 5 [108, 101, 116, 109, 101, 105, 110] [115, 50] = outB (stL ⟨1759120916, 1201413165, 1781858545, 1192534114, 2589323174, 4186256269, 4006587682, 4129657368⟩) := by
  rw [strN_snoc, st2_2_4]
  exact mac_st si4_is so4_is (by unfold okS; decide) (t := ⟨3962872135, 2166444990, 1892148318, 2326812273, 525400568, 2239462901, 2171683329, 4020200308⟩) (by kernel_rfl) (by kernel_rfl)

theorem st2_2_6 : strN 6 [108, 101, 116, 109, 101, 105, 110] [115, 50] = outB (stL ⟨3663234379, 4155951872, 3424348885, 4217108898, 3069498766, 2156137766, 4198336719, 2966047174⟩) := by
  rw [strN_snoc, st2_2_5]
  exact mac_st si4_is so4_is (by unfold okS; decide) (t := ⟨3338473102, 3864033590, 1282054801, 1348643909, 639845585, 1567994233, 2837119475, 2277561011⟩) (by kernel_rfl) (by kernel_rfl)

theorem st2_2_7 : strN 7 [108, 101, 116, 109, 101, 105, 110] [115, 50] = outB (stL ⟨766052635, 2198395723, 4014302201, 732306781, 3860142473, 2684064169, 3212417476, 362455908⟩) := by
  rw [strN_snoc, st2_2_6]
  exact mac_st si4_is so4_is (by unfold okS; decide) (t := ⟨2205450272, 3181750758, 2925148181, 3538811364, 4029516488, 2667878587, 3125234665, 1195948233⟩) (by kernel_rfl) (by kernel_rfl)

theorem st2_2_8 : strN 8 [108, 101, 116, 109, 101, 105, 110] [115, 50] = outB (stL ⟨3199188508, 790810482, 386641623, 1959541050, 3591007605, 2365415913, 1869632679, 2964153632⟩) := by
  rw [strN_snoc, st2_2_7]
  exact mac_st si4_is so4_is (by unfold okS; decide) (t := ⟨3427215289, 2361588195, 4189157369, 3216560834, 1231503277, 3208323923, 3337544049, 3151993262⟩) (by kernel_rfl) (by kernel_rfl)

theorem st2_2_9 : strN 9 [108, 101, 116, 109, 101, 105, 110] [115, 50] = outB (stL ⟨3587790129, 5618722, 3206960360, 1993212224, 763060706, 1867993204, 1512901670, 2085772201⟩) := by
  rw [strN_snoc, st2_2_8]
  exact mac_st si4_is so4_is (by unfold okS; decide) (t := ⟨2465367572, 2639780137, 3906059515, 1235406270, 4255450621, 1949691990, 3263699862, 4126966538⟩) (by kernel_rfl) (by kernel_rfl)

theorem st2_2_10 : strN 10 [108, 101, 116, 109, 101, 105, 110] [115, 50] = outB (stL ⟨3540421903, 4171240243, 3171840033, 1524151604, 3721676370, 3735244615, 91337767, 2100996446⟩) := by
  rw [strN_snoc, st2_2_9]
  exact mac_st si4_is so4_is (by unfold okS; decide) (t := ⟨348761060, 3866847581, 1874908785, 247425128, 2270060598, 645282135, 1561488346, 1866259021⟩) (by kernel_rfl) (by kernel_rfl)

theorem st2_2_11 : strN 11 [108, 101, 116, 109, 101, 105, 110] [115, 50] = outB (stL ⟨2978171078, 2674536466, 261556986, 877694020, 494612174, 2374329719, 2974153738, 4202819498⟩) := by
  rw [strN_snoc, st2_2_10]
  exact mac_st si4_is so4_is (by unfold okS; decide) (t := ⟨3348065866, 4212285379, 915329262, 3870246576, 3211442196, 501915720, 3747361721, 4248519157⟩) (by kernel_rfl) (by kernel_rfl)

theorem st2_2_12 : strN 12 [108, 101, 116, 109, 101, 105, 110] [115, 50] = outB (stL ⟨4003561259, 870631990, 162878241, 2761380882, 2461355974, 3888137306, 4113051416, 2116057360⟩) := by
  rw [strN_snoc, st2_2_11]
  exact mac_st si4_is so4_is (by unfold okS; decide) (t := ⟨3795319853, 460172146, 128789062, 848962000, 349936385, 3154519381, 3334593550, 1065523390⟩) (by kernel_rfl) (by kernel_rfl)

theorem st2_2_13 : strN 13 [108, 101, 116, 109, 101, 105, 110] [115, 50] = outB (stL ⟨2518780074, 4202663867, 3773174706, 845616414, 1868599921, 3963462882, 3622351037, 3041334339⟩) := by
  rw [strN_snoc, st2_2_12]
  exact mac_st si4_is so4_is (by unfold okS; decide) (t := ⟨3155352117, 661910506, 3870659096, 1552764256, 3866626437, 1327206557, 462355735, 1346916416⟩) (by kernel_rfl) (by kernel_rfl)

theorem st2_2_14 : strN 14 [108, 101, 116, 109, 101, 105, 110] [115, 50] = outB (stL ⟨2835069540, 2081375608, 3262423547, 1981164220, 557716544, 729546456, 1760792057, 1420303669⟩) := by
  rw [strN_snoc, st2_2_13]
  exact mac_st si4_is so4_is (by unfold okS; decide) (t := ⟨551136007, 2769139102, 1050610605, 4236425425, 3907602116, 2492816216, 2158743463, 1236131244⟩) (by kernel_rfl) (by kernel_rfl)

theorem st2_2_15 : strN 15 [108, 101, 116, 109, 101, 105, 110] [115, 50] = outB (stL ⟨434332566, 3541218053, 773247874, 1708072917, 2553833720, 374112779, 2614153852, 323950497⟩) := by
  rw [strN_snoc, st2_2_14]
  exact mac_st si4_is so4_is (by unfold okS; decide) (t := ⟨3001726323, 209451412, 3519440069, 1449513753, 3657907692, 641674452, 901544882, 1670293878⟩) (by kernel_rfl) (by kernel_rfl)

theorem st2_2_16 : strN 16 [108, 101, 116, 109, 101, 105, 110] [115, 50] = outB (stL ⟨3980191987, 828972395, 3731061459, 4020652878, 325608716, 2464762302, 2340834170, 1110217082⟩) := by
  rw [strN_snoc, st2_2_15]
  exact mac_st si4_is so4_is (by unfold okS; decide) (t := ⟨2113888272, 2607224462, 112703394, 4106296634, 1013589630, 3350219259, 1276283192, 3488521028⟩) (by kernel_rfl) (by kernel_rfl)

theorem st2_2_17 : strN 17 [108, 101, 116, 109, 101, 105, 110] [115, 50] = outB (stL ⟨3012510968, 2237856835, 2498873470, 1372867887, 1361200927, 4227217094, 732355000, 878209007⟩) := by
  rw [strN_snoc, st2_2_16]
  exact mac_st si4_is so4_is (by unfold okS; decide) (t := ⟨3594138452, 3984922409, 2683539996, 431952327, 2131761043, 1004663378, 3046309388, 2536503230⟩) (by kernel_rfl) (by kernel_rfl)

theorem st2_2_18 : strN 18 [108, 101, 116, 109, 101, 105, 110] [115, 50] = outB (stL ⟨3838895203, 458712909, 388956375, 1317875475, 274576283, 2294439807, 974464275, 2546084010⟩) := by
  rw [strN_snoc, st2_2_17]
  exact mac_st si4_is so4_is (by unfold okS; decide) (t := ⟨3928899781, 3299415293, 2437231475, 3097967112, 3227389118, 1744934029, 361629579, 242927456⟩) (by kernel_rfl) (by kernel_rfl)

theorem st2_2_19 : strN 19 [108, 101, 116, 109, 101, 105, 110] [115, 50] = outB (stL ⟨1587880731, 3526210065, 610760208, 1216248882, 3548165552, 4224708337, 3407853750, 2164070726⟩) := by
  rw [strN_snoc, st2_2_18]
  exact mac_st si4_is so4_is (by unfold okS; decide) (t := ⟨3314532991, 2991383643, 1494093639, 1243266729, 1062823065, 142621852, 3608737039, 4097565128⟩) (by kernel_rfl) (by kernel_rfl)

theorem st2_2_20 : strN 20 [108, 101, 116, 109, 101, 105, 110] [115, 50] = outB (stL ⟨2731020073, 3900911706, 2051223177, 3505501156, 523146769, 3363428801, 1654866027, 580079829⟩) := by
  rw [strN_snoc, st2_2_19]
  exact mac_st si4_is so4_is (by unfold okS; decide) (t := ⟨2560842130, 3926041497, 7534820, 2923718022, 1439031753, 2410127614, 1443471591, 4126249183⟩) (by kernel_rfl) (by kernel_rfl)

theorem st2_2_21 : strN 21 [108, 101, 116, 109, 101, 105, 110] [115, 50] = outB (stL ⟨2594019340, 3923358107, 1346697100, 138502893, 99234245, 4208677186, 1944664632, 3711501178⟩) := by
  rw [strN_snoc, st2_2_20]
  exact mac_st si4_is so4_is (by unfold okS; decide) (t := ⟨1572792247, 3193790427, 787771238, 3359991023, 3369806811, 4032982804, 1075415539, 1119192719⟩) (by kernel_rfl) (by kernel_rfl)

theorem sd2_2 (n : Nat) (h1 : 1 ≤ n) (h2 : n ≤ 20) : strN (n + 1) [108, 101, 116, 109, 101, 105, 110] [115, 50] ≠ strN n [108, 101, 116, 109, 101, 105, 110] [115, 50] := by
  intro h
  rcases (show n = 1 ∨ n = 2 ∨ n = 3 ∨ n = 4 ∨ n = 5 ∨ n = 6 ∨ n = 7 ∨ n = 8 ∨ n = 9 ∨ n = 10 ∨ n = 11 ∨ n = 12 ∨ n = 13 ∨ n = 14 ∨ n = 15 ∨ n = 16 ∨ n = 17 ∨ n = 18 ∨ n = 19 ∨ n = 20 by omega) with rfl | rfl | rfl | rfl | rfl | rfl | rfl | rfl | rfl | rfl | rfl | rfl | rfl | rfl | rfl | rfl | rfl | rfl | rfl | rfl
  · rw [st2_2_1, show 1 + 1 = 2 from rfl, st2_2_2] at h; exact absurd (out_inj (by unfold okS; decide) (by unfold okS; decide) h).1 (by decide)
  · rw [st2_2_2, show 2 + 1 = 3 from rfl, st2_2_3] at h; exact absurd (out_inj (by unfold okS; decide) (by unfold okS; decide) h).1 (by decide)
  · rw [st2_2_3, show 3 + 1 = 4 from rfl, st2_2_4] at h; exact absurd (out_inj (by unfold okS; decide) (by unfold okS; decide) h).1 (by decide)
  · rw [st2_2_4, show 4 + 1 = 5 from rfl, st2_2_5] at h; exact absurd (out_inj (by unfold okS; decide) (by unfold okS; decide) h).1 (by decide)
  · rw [st2_2_5, show 5 + 1 = 6 from rfl, st2_2_6] at h; exact absurd (out_inj (by unfold okS; decide) (by unfold okS; decide) h).1 (by decide)
  · rw [st2_2_6, show 6 + 1 = 7 from rfl, st2_2_7] at h; exact absurd (out_inj (by unfold okS; decide) (by unfold okS; decide) h).1 (by decide)
  · rw [st2_2_7, show 7 + 1 = 8 from rfl, st2_2_8] at h; exact absurd (out_inj (by unfold okS; decide) (by unfold okS; decide) h).1 (by decide)
  · rw [st2_2_8, show 8 + 1 = 9 from rfl, st2_2_9] at h; exact absurd (out_inj (by unfold okS; decide) (by unfold okS; decide) h).1 (by decide)
  · rw [st2_2_9, show 9 + 1 = 10 from rfl, st2_2_10] at h; exact absurd (out_inj (by unfold okS; decide) (by unfold okS; decide) h).1 (by decide)
  · rw [st2_2_10, show 10 + 1 = 11 from rfl, st2_2_11] at h; exact absurd (out_inj (by unfold okS; decide) (by unfold okS; decide) h).1 (by decide)
  · rw [st2_2_11, show 11 + 1 = 12 from rfl, st2_2_12] at h; exact absurd (out_inj (by unfold okS; decide) (by unfold okS; decide) h).1 (by decide)
  · rw [st2_2_12, show 12 + 1 = 13 from rfl, st2_2_13] at h; exact absurd (out_inj (by unfold okS; decide) (by unfold okS; decide) h).1 (by decide)
  · rw [st2_2_13, show 13 + 1 = 14 from rfl, st2_2_14] at h; exact absurd (out_inj (by unfold okS; decide) (by unfold okS; decide) h).1 (by decide)
  · rw [st2_2_14, show 14 + 1 = 15 from rfl, st2_2_15] at h; exact absurd (out_inj (by unfold okS; decide) (by unfold okS; decide) h).1 (by decide)
  · rw [st2_2_15, show 15 + 1 = 16 from rfl, st2_2_16] at h; exact absurd (out_inj (by unfold okS; decide) (by unfold okS; decide) h).1 (by decide)
  · rw [st2_2_16, show 16 + 1 = 17 from rfl, st2_2_17] at h; exact absurd (out_inj (by unfold okS; decide) (by unfold okS; decide) h).1 (by decide)
  · rw [st2_2_17, show 17 + 1 = 18 from rfl, st2_2_18] at h; exact absurd (out_inj (by unfold okS; decide) (by unfold okS; decide) h).1 (by decide)
  · rw [st2_2_18, show 18 + 1 = 19 from rfl, st2_2_19] at h; exact absurd (out_inj (by unfold okS; decide) (by unfold okS; decide) h).1 (by decide)
  · rw [st2_2_19, show 19 + 1 = 20 from rfl, st2_2_20] at h; exact absurd (out_inj (by unfold okS; decide) (by unfold okS; decide) h).1 (by decide)
  · rw [st2_2_20, show 20 + 1 = 21 from rfl, st2_2_21] at h; exact absurd (out_inj (by unfold okS; decide) (by unfold okS; decide) h).1 (by decide)

end Go.Proofs.YtabehlipgfihkaaDoor
