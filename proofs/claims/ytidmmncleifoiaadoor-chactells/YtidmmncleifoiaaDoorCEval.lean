/- Four blocks of ChaCha20, reckoned a double round a line. No program is named here; closed facts. -/
import Derived.Test.YtidmmncleifoiaaDoorCBase
import Derived.KernelRfl
namespace Go.Proofs.YtidmmncleifoiaaDoor
open Go.RowKit

/-- Sixteen words by a list. -/
def ofL (l : List Nat) : Ws := fun j => BitVec.ofNat 32 (l.getD j 0)
theorem put4_out (xs : Ws) (a b c d : Nat) (r : W4) (j : Nat) (h1 : a < j) (h2 : b < j) (h3 : c < j) (h4 : d < j) : put4 xs a b c d r j = xs j := by
  simp [put4, upd, show j ≠ a by omega, show j ≠ b by omega, show j ≠ c by omega, show j ≠ d by omega]
theorem dblN_out (xs : Ws) (j : Nat) (hj : 16 ≤ j) : ∀ i, i ≤ 8 → dblN xs i j = xs j
  | 0, _ => rfl
  | i + 1, h => by
    obtain ⟨⟨l0, l1, l2, l3⟩, _⟩ := pl_ok i (by omega)
    rw [dblN, qstep, put4_out _ _ _ _ _ _ _ (by omega) (by omega) (by omega) (by omega), dblN_out xs j hj i (by omega)]
def agree (xs ys : Ws) : Bool := (List.range 16).all fun j => xs j == ys j
theorem dbl_list (l m : List Nat) (hl : l.length = 16) (hm : m.length = 16) (h : agree (dbl (ofL l)) (ofL m) = true) : dbl (ofL l) = ofL m := by
  funext j
  rcases Nat.lt_or_ge j 16 with hj | hj
  · simp only [agree, List.all_eq_true, List.mem_range, beq_iff_eq] at h
    exact h j hj
  · show dblN _ 8 j = _
    rw [dblN_out _ j hj 8 (Nat.le_refl _)]
    simp [ofL, List.getD, show l.length ≤ j by omega, show m.length ≤ j by omega]
theorem ws_list (xs : Ws) (m : List Nat) (hm : m.length = 16) (h : agree xs (ofL m) = true) (hx : ∀ j, 16 ≤ j → xs j = 0) : xs = ofL m := by
  funext j
  rcases Nat.lt_or_ge j 16 with hj | hj
  · simp only [agree, List.all_eq_true, List.mem_range, beq_iff_eq] at h
    exact h j hj
  · rw [hx j hj]
    simp [ofL, List.getD, show m.length ≤ j by omega]
theorem stW_out (key nonce : List Int) (c : BitVec 32) (j : Nat) (h : 16 ≤ j) : stW key nonce c j = 0 := by
  simp [stW, show j ≠ 0 by omega, show j ≠ 1 by omega, show j ≠ 2 by omega, show j ≠ 3 by omega, show ¬ j < 12 by omega, show j ≠ 12 by omega, show ¬ j < 16 by omega]
/-- The bytes 0, 1, 2 and so on. -/
def rk : List Int := rowL (fun i => (i : Int)) 32
theorem rk_length : rk.length = 32 := rowL_length _ _
theorem rk_bytes : IsBytes rk := rowL_bytes _ _ fun i hi => by omega

def sA0 : List Nat := [1634760805, 857760878, 2036477234, 1797285236, 50462976, 117835012, 185207048, 252579084, 319951120, 387323156, 454695192, 522067228, 1, 150994944, 1241513984, 0]
def sA1 : List Nat := [3444762903, 2242577332, 3007673237, 4184729565, 3300379938, 1546524794, 3378426977, 829194266, 2079840064, 2128467524, 4053908981, 1980909258, 1796036771, 1738032922, 3610767719, 4050880653]
def sA2 : List Nat := [3474617732, 76097516, 1409621978, 3259301672, 2417831744, 2037692444, 932040628, 3444047118, 766489110, 667458774, 3443301024, 2046593479, 279900557, 371296101, 1761044229, 81194530]
def sA3 : List Nat := [60899378, 1722898727, 2641062722, 3092005129, 2803120864, 2694525917, 2782572424, 802757235, 3373034264, 1512055827, 3255697846, 1926065012, 3124090743, 3009475007, 2172137819, 751901466]
def sA4 : List Nat := [2586654089, 186907726, 1085225835, 3471475012, 169607110, 1582928887, 2567226087, 221464344, 3832308564, 3377476137, 83817898, 4170399602, 646435958, 1424380465, 898957253, 725332682]
def sA5 : List Nat := [3308460229, 3392298390, 2122125771, 872735434, 651677555, 1619579769, 3237013949, 3809529273, 2922162395, 1123449970, 1902549706, 2539394845, 2657010216, 2105911795, 538773334, 1677355347]
def sA6 : List Nat := [77796122, 1712808713, 68532913, 1639481506, 919373511, 3213509733, 4152219424, 4228635792, 131152586, 3943426479, 1633260689, 2441417436, 867592301, 2036123249, 3221526898, 2695371742]
def sA7 : List Nat := [2607871263, 2124983313, 568675753, 3392748335, 2477819526, 1783386286, 421603930, 2600675672, 3627619934, 1275519626, 3556632990, 648855869, 2785670485, 740582729, 2501187667, 746879501]
def sA8 : List Nat := [3395061213, 2477062414, 3656441688, 652051165, 2552587256, 1898621439, 664429032, 2534372029, 472224538, 1367390992, 2006722535, 1409777160, 2847363579, 942619874, 2377217405, 3426224139]
def sA9 : List Nat := [3065544166, 2583781704, 2475005973, 1226172108, 3694379298, 2564919203, 1610344700, 4145367947, 683801779, 3300102045, 2212689367, 2099558795, 554142498, 2979260323, 3002373001, 1826512934]
def sA10 : List Nat := [2205644971, 3795375971, 2793071134, 1498463023, 3304247495, 4234328879, 2409634044, 1063176119, 861041090, 4069820915, 3938298108, 2196008637, 3516666548, 2957907678, 2659438795, 1312575650]
theorem eA0 : stW rk [0, 0, 0, 9, 0, 0, 0, 74, 0, 0, 0, 0] 1 = ofL sA0 := ws_list _ _ rfl (by kernel_rfl) (stW_out _ _ _)
theorem eA1 : dbl (ofL sA0) = ofL sA1 := dbl_list _ _ rfl rfl (by kernel_rfl)
theorem eA2 : dbl (ofL sA1) = ofL sA2 := dbl_list _ _ rfl rfl (by kernel_rfl)
theorem eA3 : dbl (ofL sA2) = ofL sA3 := dbl_list _ _ rfl rfl (by kernel_rfl)
theorem eA4 : dbl (ofL sA3) = ofL sA4 := dbl_list _ _ rfl rfl (by kernel_rfl)
theorem eA5 : dbl (ofL sA4) = ofL sA5 := dbl_list _ _ rfl rfl (by kernel_rfl)
theorem eA6 : dbl (ofL sA5) = ofL sA6 := dbl_list _ _ rfl rfl (by kernel_rfl)
theorem eA7 : dbl (ofL sA6) = ofL sA7 := dbl_list _ _ rfl rfl (by kernel_rfl)
theorem eA8 : dbl (ofL sA7) = ofL sA8 := dbl_list _ _ rfl rfl (by kernel_rfl)
theorem eA9 : dbl (ofL sA8) = ofL sA9 := dbl_list _ _ rfl rfl (by kernel_rfl)
theorem eA10 : dbl (ofL sA9) = ofL sA10 := dbl_list _ _ rfl rfl (by kernel_rfl)
theorem tA : turnN (stW rk [0, 0, 0, 9, 0, 0, 0, 74, 0, 0, 0, 0] 1) 10 = ofL sA10 := by
  rw [eA0]
  simp only [turnN, eA1, eA2, eA3, eA4, eA5, eA6, eA7, eA8, eA9, eA10]
def wA : Ws := fun j => ofL sA10 j + ofL sA0 j
theorem bA : blkW (stW rk [0, 0, 0, 9, 0, 0, 0, 74, 0, 0, 0, 0] 1) = wA := by
  funext j
  unfold blkW wA
  rw [tA, eA0]

def sB0 : List Nat := [1634760805, 857760878, 2036477234, 1797285236, 50462976, 117835012, 185207048, 252579084, 319951120, 387323156, 454695192, 522067228, 1, 0, 1241513984, 0]
def sB1 : List Nat := [3613909509, 2220884916, 2990932885, 1237183709, 2813441322, 2402690257, 3108068751, 3509060891, 2033700426, 3739999668, 1554855666, 2870442265, 2685569186, 1691897371, 121434583, 3697743639]
def sB2 : List Nat := [3208892024, 333737298, 2884635038, 1833868756, 2713258210, 2219607399, 324450655, 965153447, 518202508, 3404675065, 4070711666, 984279461, 1087266326, 3112162059, 3109723379, 2871906561]
def sB3 : List Nat := [3044578902, 566611831, 1420355932, 4242648703, 3332553935, 292142745, 1651544462, 902930320, 3016161030, 2581090168, 734570391, 3915426078, 3010322791, 3748163529, 3898942079, 2422116281]
def sB4 : List Nat := [1921880151, 3912681610, 219041068, 2005803761, 1696001409, 3148047364, 423925415, 675822910, 3587023185, 3871617683, 2070550075, 955455033, 3242114457, 91637227, 3752294212, 3083567707]
def sB5 : List Nat := [2677364071, 217986627, 3916162938, 1233753077, 3412069610, 577251315, 3245862617, 635717172, 819551597, 379360283, 1619880386, 1781806089, 202325957, 3570395474, 1614686180, 1026910072]
def sB6 : List Nat := [3725962844, 1614091047, 2131577814, 4031045286, 157372883, 3846551601, 1682023619, 2152885969, 152999803, 4017686822, 2734898731, 1075788549, 4099943009, 1125260850, 1279756984, 579956528]
def sB7 : List Nat := [3467925385, 97647918, 1211070596, 431771513, 2477444746, 350019381, 2273722800, 1037532345, 2332484352, 2067378593, 4273141387, 2049326947, 1920108052, 3249180024, 3425379156, 2097035610]
def sB8 : List Nat := [3069120011, 1000030200, 3077145050, 1145213348, 2546108237, 195325749, 2363331991, 3656241163, 726829765, 3010698958, 1844157982, 822908860, 2350698392, 3792134248, 612699522, 3107107771]
def sB9 : List Nat := [892133472, 3630837693, 694572075, 4193387531, 2067594813, 3507327120, 3419855246, 3574642658, 2158527203, 1948097617, 83634647, 2556553756, 1441303272, 788990495, 3437423252, 2044769985]
def sB10 : List Nat := [2447431357, 2931341010, 4123373821, 2180841028, 2132611724, 3674220345, 3787474550, 1774315154, 2415405690, 2062830430, 2992267421, 359993041, 1085951096, 3442753222, 36446698, 3074522608]
theorem eB0 : stW rk [0, 0, 0, 0, 0, 0, 0, 74, 0, 0, 0, 0] 1 = ofL sB0 := ws_list _ _ rfl (by kernel_rfl) (stW_out _ _ _)
theorem eB1 : dbl (ofL sB0) = ofL sB1 := dbl_list _ _ rfl rfl (by kernel_rfl)
theorem eB2 : dbl (ofL sB1) = ofL sB2 := dbl_list _ _ rfl rfl (by kernel_rfl)
theorem eB3 : dbl (ofL sB2) = ofL sB3 := dbl_list _ _ rfl rfl (by kernel_rfl)
theorem eB4 : dbl (ofL sB3) = ofL sB4 := dbl_list _ _ rfl rfl (by kernel_rfl)
theorem eB5 : dbl (ofL sB4) = ofL sB5 := dbl_list _ _ rfl rfl (by kernel_rfl)
theorem eB6 : dbl (ofL sB5) = ofL sB6 := dbl_list _ _ rfl rfl (by kernel_rfl)
theorem eB7 : dbl (ofL sB6) = ofL sB7 := dbl_list _ _ rfl rfl (by kernel_rfl)
theorem eB8 : dbl (ofL sB7) = ofL sB8 := dbl_list _ _ rfl rfl (by kernel_rfl)
theorem eB9 : dbl (ofL sB8) = ofL sB9 := dbl_list _ _ rfl rfl (by kernel_rfl)
theorem eB10 : dbl (ofL sB9) = ofL sB10 := dbl_list _ _ rfl rfl (by kernel_rfl)
theorem tB : turnN (stW rk [0, 0, 0, 0, 0, 0, 0, 74, 0, 0, 0, 0] 1) 10 = ofL sB10 := by
  rw [eB0]
  simp only [turnN, eB1, eB2, eB3, eB4, eB5, eB6, eB7, eB8, eB9, eB10]
def wB : Ws := fun j => ofL sB10 j + ofL sB0 j
theorem bB : blkW (stW rk [0, 0, 0, 0, 0, 0, 0, 74, 0, 0, 0, 0] 1) = wB := by
  funext j
  unfold blkW wB
  rw [tB, eB0]

def sC0 : List Nat := [1634760805, 857760878, 2036477234, 1797285236, 50462976, 117835012, 185207048, 252579084, 319951120, 387323156, 454695192, 522067228, 2, 0, 1241513984, 0]
def sC1 : List Nat := [208134661, 2221933515, 4112319368, 2112057779, 3066277216, 3352202828, 1502171231, 723948641, 1396364059, 4280716294, 1564264359, 180807961, 1177506, 1071141724, 4045414056, 3707181004]
def sC2 : List Nat := [3534496738, 1403831024, 681767576, 4003114865, 290641388, 165796294, 3830628928, 800252463, 2959803241, 2251094092, 3674272243, 2968630410, 3774457801, 3420133335, 4050501934, 1514239569]
def sC3 : List Nat := [1439582076, 1516503617, 3945222155, 4038290458, 1265222972, 3264486841, 1562301269, 3652452923, 1614580253, 1067752430, 3486884800, 4033825236, 79853328, 233243887, 803280489, 3084282103]
def sC4 : List Nat := [468711875, 1293767960, 782023345, 3021185204, 914362529, 1898481935, 3381502154, 1884701699, 2467784379, 1124842108, 2421828540, 2615889649, 2118769800, 20213181, 349320969, 3658864874]
def sC5 : List Nat := [1057539211, 1212711561, 791943629, 376240154, 2017133481, 1181426051, 1019055354, 882562763, 2737666737, 421341810, 2078276745, 2061744918, 1849845919, 2603522827, 2800924602, 3763867618]
def sC6 : List Nat := [2844521644, 2417726586, 850062970, 881262757, 2862464796, 883800738, 2248188402, 2515130357, 3145184580, 908866496, 1132018213, 828421604, 3032577724, 2663859416, 17921061, 1883427769]
def sC7 : List Nat := [2892264177, 3183257561, 2550193721, 2009660567, 695407937, 1858007893, 2426992205, 1177592836, 402794624, 1754845968, 891281310, 1373626063, 2845651234, 3806136179, 2901916290, 2998073726]
def sC8 : List Nat := [1320968592, 402850618, 1671552378, 4266097630, 1417412108, 3202341799, 277285914, 674255494, 4084482080, 3359594099, 247974317, 3364646699, 1308120136, 2035095723, 2488668868, 2433880468]
def sC9 : List Nat := [4139722994, 144403890, 4036029728, 108362323, 3980934035, 3312431670, 3605714589, 3939074211, 1703052753, 551071739, 1140632273, 282055312, 891506657, 852658031, 660487039, 2695445320]
def sC10 : List Nat := [1040461316, 233766609, 2946276592, 329508984, 1781715750, 1820767340, 800841963, 910884792, 3344726569, 1914072582, 2999996073, 207618164, 57959409, 2702844019, 2663185288, 3989082425]
theorem eC0 : stW rk [0, 0, 0, 0, 0, 0, 0, 74, 0, 0, 0, 0] 2 = ofL sC0 := ws_list _ _ rfl (by kernel_rfl) (stW_out _ _ _)
theorem eC1 : dbl (ofL sC0) = ofL sC1 := dbl_list _ _ rfl rfl (by kernel_rfl)
theorem eC2 : dbl (ofL sC1) = ofL sC2 := dbl_list _ _ rfl rfl (by kernel_rfl)
theorem eC3 : dbl (ofL sC2) = ofL sC3 := dbl_list _ _ rfl rfl (by kernel_rfl)
theorem eC4 : dbl (ofL sC3) = ofL sC4 := dbl_list _ _ rfl rfl (by kernel_rfl)
theorem eC5 : dbl (ofL sC4) = ofL sC5 := dbl_list _ _ rfl rfl (by kernel_rfl)
theorem eC6 : dbl (ofL sC5) = ofL sC6 := dbl_list _ _ rfl rfl (by kernel_rfl)
theorem eC7 : dbl (ofL sC6) = ofL sC7 := dbl_list _ _ rfl rfl (by kernel_rfl)
theorem eC8 : dbl (ofL sC7) = ofL sC8 := dbl_list _ _ rfl rfl (by kernel_rfl)
theorem eC9 : dbl (ofL sC8) = ofL sC9 := dbl_list _ _ rfl rfl (by kernel_rfl)
theorem eC10 : dbl (ofL sC9) = ofL sC10 := dbl_list _ _ rfl rfl (by kernel_rfl)
theorem tC : turnN (stW rk [0, 0, 0, 0, 0, 0, 0, 74, 0, 0, 0, 0] 2) 10 = ofL sC10 := by
  rw [eC0]
  simp only [turnN, eC1, eC2, eC3, eC4, eC5, eC6, eC7, eC8, eC9, eC10]
def wC : Ws := fun j => ofL sC10 j + ofL sC0 j
theorem bC : blkW (stW rk [0, 0, 0, 0, 0, 0, 0, 74, 0, 0, 0, 0] 2) = wC := by
  funext j
  unfold blkW wC
  rw [tC, eC0]

def sZ0 : List Nat := [1634760805, 857760878, 2036477234, 1797285236, 0, 0, 0, 0, 0, 0, 0, 0, 0, 0, 0, 0]
def sZ1 : List Nat := [3831485001, 465051814, 3810167018, 3865553406, 708572787, 2260680856, 1175146506, 4195784838, 1401801230, 205755969, 16389820, 2315813162, 1807715081, 3274707926, 3147798601, 2277908837]
def sZ2 : List Nat := [2987265446, 555851331, 2043056534, 2394542343, 683648334, 243939487, 2031723700, 842999353, 1769110809, 317167340, 3515309448, 1613476332, 1612483213, 416233319, 1624313532, 397031114]
def sZ3 : List Nat := [42443425, 3537648111, 4075615518, 3280431870, 2457253921, 936163239, 535217241, 3858322967, 3618735395, 2694131698, 320827381, 1865984460, 1547860575, 496143739, 4107449562, 442763396]
def sZ4 : List Nat := [3464398809, 2736782107, 1867918925, 914662315, 3272508460, 998218446, 2296453912, 505049583, 1927367832, 1097802169, 1733510303, 425094469, 2739030577, 28346074, 3103619896, 1123945486]
def sZ5 : List Nat := [1308838156, 2549006073, 4135762692, 793240496, 1354003995, 3934035184, 3013862787, 3854227624, 1335860601, 1156916115, 2881466214, 1593652346, 2985647285, 85002989, 1444698375, 3558679988]
def sZ6 : List Nat := [153779254, 551088281, 2573988431, 1784856811, 3150129412, 343203913, 2777219198, 1595256366, 2046321669, 3236133586, 875096108, 2039282348, 748642874, 426368672, 803736417, 3190166337]
def sZ7 : List Nat := [1843350424, 1608384784, 3655185970, 1947739403, 3718507033, 1188705781, 838547146, 1894081315, 1188398960, 3234391270, 3125483095, 3295685470, 2940917475, 3868489986, 646047163, 674516562]
def sZ8 : List Nat := [4142613381, 256929999, 2185938132, 4278346116, 1910216669, 1624086861, 2910867510, 2312475086, 2656191475, 382791205, 2196319126, 3503982164, 1805033478, 1199192055, 3527735948, 2991348835]
def sZ9 : List Nat := [172609723, 4252221419, 3259208404, 3775952493, 2081980761, 957320013, 170075935, 235214466, 1531487041, 140632055, 1563676091, 399783725, 3319306763, 2649833516, 2961880544, 2236122496]
def sZ10 : List Nat := [1282424849, 1562217778, 1812475918, 3181191391, 3088700093, 451775904, 3438229160, 3339548555, 2086224346, 2370328401, 1071654007, 927652024, 4105716586, 480319509, 1773569987, 2254827186]
theorem eZ0 : stW (zL 32) (zL 12) 0 = ofL sZ0 := ws_list _ _ rfl (by kernel_rfl) (stW_out _ _ _)
theorem eZ1 : dbl (ofL sZ0) = ofL sZ1 := dbl_list _ _ rfl rfl (by kernel_rfl)
theorem eZ2 : dbl (ofL sZ1) = ofL sZ2 := dbl_list _ _ rfl rfl (by kernel_rfl)
theorem eZ3 : dbl (ofL sZ2) = ofL sZ3 := dbl_list _ _ rfl rfl (by kernel_rfl)
theorem eZ4 : dbl (ofL sZ3) = ofL sZ4 := dbl_list _ _ rfl rfl (by kernel_rfl)
theorem eZ5 : dbl (ofL sZ4) = ofL sZ5 := dbl_list _ _ rfl rfl (by kernel_rfl)
theorem eZ6 : dbl (ofL sZ5) = ofL sZ6 := dbl_list _ _ rfl rfl (by kernel_rfl)
theorem eZ7 : dbl (ofL sZ6) = ofL sZ7 := dbl_list _ _ rfl rfl (by kernel_rfl)
theorem eZ8 : dbl (ofL sZ7) = ofL sZ8 := dbl_list _ _ rfl rfl (by kernel_rfl)
theorem eZ9 : dbl (ofL sZ8) = ofL sZ9 := dbl_list _ _ rfl rfl (by kernel_rfl)
theorem eZ10 : dbl (ofL sZ9) = ofL sZ10 := dbl_list _ _ rfl rfl (by kernel_rfl)
theorem tZ : turnN (stW (zL 32) (zL 12) 0) 10 = ofL sZ10 := by
  rw [eZ0]
  simp only [turnN, eZ1, eZ2, eZ3, eZ4, eZ5, eZ6, eZ7, eZ8, eZ9, eZ10]
def wZ : Ws := fun j => ofL sZ10 j + ofL sZ0 j
theorem bZ : blkW (stW (zL 32) (zL 12) 0) = wZ := by
  funext j
  unfold blkW wZ
  rw [tZ, eZ0]

#print axioms bA
#print axioms bZ
end Go.Proofs.YtidmmncleifoiaaDoor
