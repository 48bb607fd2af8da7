
/- The first blocks of the keys that begin with 1 and with 2 and are nought else, reckoned a double round a line: a block of forty noughts is not opened under them. No program is named here; closed facts. -/
import Derived.Test.YtlfcejfpdgdnkaaDoorXSeal
import Derived.KernelRfl
namespace Go.Proofs.YtlfcejfpdgdnkaaDoor
open Go.RowKit
set_option maxRecDepth 20000

/-- Sixteen words by a list. -/
def ofU (l : List Nat) : Ws := fun j => BitVec.ofNat 32 (l.getD j 0)
theorem put4_outU (xs : Ws) (a b c d : Nat) (r : W4) (j : Nat) (h1 : a < j) (h2 : b < j) (h3 : c < j) (h4 : d < j) : put4 xs a b c d r j = xs j := by
  simp [put4, upd, show j ≠ a by omega, show j ≠ b by omega, show j ≠ c by omega, show j ≠ d by omega]
theorem dblN_outU (xs : Ws) (j : Nat) (hj : 16 ≤ j) : ∀ i, i ≤ 8 → dblN xs i j = xs j
  | 0, _ => rfl
  | i + 1, h => by
    obtain ⟨⟨l0, l1, l2, l3⟩, _⟩ := pl_ok i (by omega)
    rw [dblN, qstep, put4_outU _ _ _ _ _ _ _ (by omega) (by omega) (by omega) (by omega), dblN_outU xs j hj i (by omega)]
def agreeU (xs ys : Ws) : Bool := (List.range 16).all fun j => xs j == ys j
theorem dbl_listU (l m : List Nat) (hl : l.length = 16) (hm : m.length = 16) (h : agreeU (dbl (ofU l)) (ofU m) = true) : dbl (ofU l) = ofU m := by
  funext j
  rcases Nat.lt_or_ge j 16 with hj | hj
  · simp only [agreeU, List.all_eq_true, List.mem_range, beq_iff_eq] at h
    exact h j hj
  · show dblN _ 8 j = _
    rw [dblN_outU _ j hj 8 (Nat.le_refl _)]
    simp [ofU, List.getD, show l.length ≤ j by omega, show m.length ≤ j by omega]
theorem ws_listU (xs : Ws) (m : List Nat) (hm : m.length = 16) (h : agreeU xs (ofU m) = true) (hx : ∀ j, 16 ≤ j → xs j = 0) : xs = ofU m := by
  funext j
  rcases Nat.lt_or_ge j 16 with hj | hj
  · simp only [agreeU, List.all_eq_true, List.mem_range, beq_iff_eq] at h
    exact h j hj
  · rw [hx j hj]
    simp [ofU, List.getD, show m.length ≤ j by omega]
theorem stW_outU (key nonce : List Int) (c : BitVec 32) (j : Nat) (h : 16 ≤ j) : stW key nonce c j = 0 := by
  simp [stW, show j ≠ 0 by omega, show j ≠ 1 by omega, show j ≠ 2 by omega, show j ≠ 3 by omega, show ¬ j < 12 by omega, show j ≠ 12 by omega, show ¬ j < 16 by omega]
/-- The stream's first bytes, by the block ahead and behind its turns. -/
def ksU (s t : List Nat) (i : Nat) : Int := byteAt ((ofU t (i / 4) + ofU s (i / 4)).toNat : Int) (i % 4)
theorem ks_listU (key nonce : List Int) (s t : List Nat) (h : stW key nonce 0 = ofU s) (ht : turnN (ofU s) 10 = ofU t) (i : Nat) (hi : i < 64) : ks key nonce 0 i = ksU s t i := by
  rw [ks_first key nonce 0 i hi, kb, blkW, h, ht]
  rfl
/-- What forty noughts hold. -/
def inU (s t : List Nat) : List Int := (List.range 28).map (ksU s t)
theorem inner_listU (key : List Int) (s t : List Nat) (h : stW key (zL 12) 0 = ofU s) (ht : turnN (ofU s) 10 = ofU t) (hx : (List.range 28).all (fun i => decide (xr 0 (ksU s t i) = ksU s t i)) = true) : innerL key (zL 40) = inU s t := by
  have e1 : (zL 40).take 12 = zL 12 := by kernel_rfl
  have e2 : (zL 40).drop 12 = zL 28 := by kernel_rfl
  unfold innerL
  rw [e1, e2]
  apply List.ext_getElem?
  intro i
  unfold inU xorL
  rw [zL_length]
  rcases Nat.lt_or_ge i 28 with hi | hi
  · rw [rowL_get _ _ _ hi, ks_listU key (zL 12) s t h ht i (by omega), zL_getD]
    have := List.all_eq_true.1 hx i (by simp [hi])
    simp only [decide_eq_true_eq] at this
    rw [this]
    simp [hi]
  · rw [rowL_none _ _ _ hi]
    simp [hi]
theorem blank_noU (key : List Int) (l : List Int) (h : innerL key (zL 40) = l) (hn : decide (leNum (l.drop 20) = fnv (zL 12 ++ l.take 20)) = false) : openB key (zL 40) = false := by
  have e0 : (zL 40).length = 40 := by kernel_rfl
  have e1 : (zL 40).take 12 = zL 12 := by kernel_rfl
  have hs : sumOk key (zL 40) = false := by
    unfold sumOk tailL textL
    rw [h, e0, e1]
    exact hn
  have ho : openL key (zL 40) = none := by
    unfold openL
    rw [e0, if_neg (by decide), hs]
    rfl
  exact (openR_none ho).2.1

def sF0 : List Nat := [1634760805, 857760878, 2036477234, 1797285236, 1, 0, 0, 0, 0, 0, 0, 0, 0, 0, 0, 0]
def sF1 : List Nat := [492822858, 470752667, 4077488355, 3340316414, 1502509723, 2793434922, 2698433193, 454781703, 1616826862, 3319984736, 263874531, 3449436634, 2894153225, 3492813510, 4248244448, 2256872076]
def sF2 : List Nat := [2262020686, 1332563278, 2106351673, 298823857, 403461699, 3687993367, 4110993624, 1677763265, 2906783785, 946177801, 554322904, 3330170062, 1261236926, 4263494919, 481181340, 3436076077]
def sF3 : List Nat := [1838034084, 105462649, 2781700858, 3705593084, 2291481949, 2007864741, 3747638121, 3611737081, 1273222387, 3698579857, 3268995800, 3776239100, 2346469220, 804138394, 2984578276, 1372939654]
def sF4 : List Nat := [1064887914, 780723675, 1953683468, 3764385278, 1705309201, 3428475886, 3894227258, 3934848116, 4093943080, 3675813180, 860154710, 597792996, 1296488588, 3151848247, 1005462162, 3370384088]
def sF5 : List Nat := [373778231, 1200259001, 3951943119, 2172942746, 4286328432, 3012183765, 45987615, 1034539993, 1717809816, 4126931064, 2769023752, 2337319363, 2821547521, 4278742084, 2064545328, 18372668]
def sF6 : List Nat := [4160588973, 3280990703, 1999553468, 2659303513, 663495752, 257774224, 4279763603, 282938635, 958529702, 3797198041, 2105151646, 4278058502, 3943637488, 4076422304, 3379697563, 3223968864]
def sF7 : List Nat := [2936438271, 1180827149, 3802047287, 674182910, 2982833870, 3581539791, 3767481489, 3900046076, 2117057270, 1769197436, 900248965, 4004922489, 3508333740, 376679393, 1087159955, 3877248415]
def sF8 : List Nat := [292541889, 4073155209, 550675674, 349892138, 2035245262, 2568573934, 2147151827, 770224287, 2480463088, 2518468570, 3384033821, 440005216, 499941534, 1837120823, 3367045792, 3915210491]
def sF9 : List Nat := [3853081074, 2820945168, 1462339073, 1854228515, 4110716302, 3745828841, 287456063, 1158789920, 391910040, 2597236563, 3403680945, 1486421874, 1118824248, 1653060120, 2508201347, 675196398]
def sF10 : List Nat := [446323552, 1609664627, 3471678278, 440013321, 3460231489, 1435798051, 2292065000, 3176917133, 3496209193, 2572909217, 584733339, 3944956094, 1409966599, 3630889718, 3950082931, 3235537924]
theorem eF0 : stW (1 :: zL 31) (zL 12) 0 = ofU sF0 := ws_listU _ _ rfl (by kernel_rfl) (stW_outU _ _ _)
theorem eF1 : dbl (ofU sF0) = ofU sF1 := dbl_listU _ _ rfl rfl (by kernel_rfl)
theorem eF2 : dbl (ofU sF1) = ofU sF2 := dbl_listU _ _ rfl rfl (by kernel_rfl)
theorem eF3 : dbl (ofU sF2) = ofU sF3 := dbl_listU _ _ rfl rfl (by kernel_rfl)
theorem eF4 : dbl (ofU sF3) = ofU sF4 := dbl_listU _ _ rfl rfl (by kernel_rfl)
theorem eF5 : dbl (ofU sF4) = ofU sF5 := dbl_listU _ _ rfl rfl (by kernel_rfl)
theorem eF6 : dbl (ofU sF5) = ofU sF6 := dbl_listU _ _ rfl rfl (by kernel_rfl)
theorem eF7 : dbl (ofU sF6) = ofU sF7 := dbl_listU _ _ rfl rfl (by kernel_rfl)
theorem eF8 : dbl (ofU sF7) = ofU sF8 := dbl_listU _ _ rfl rfl (by kernel_rfl)
theorem eF9 : dbl (ofU sF8) = ofU sF9 := dbl_listU _ _ rfl rfl (by kernel_rfl)
theorem eF10 : dbl (ofU sF9) = ofU sF10 := dbl_listU _ _ rfl rfl (by kernel_rfl)
theorem tF : turnN (ofU sF0) 10 = ofU sF10 := by
  simp only [turnN, eF1, eF2, eF3, eF4, eF5, eF6, eF7, eF8, eF9, eF10]
theorem blankF : openB (1 :: zL 31) (zL 40) = false := blank_noU _ _ (inner_listU _ _ _ eF0 tF (by kernel_rfl)) (by kernel_rfl)
def sG0 : List Nat := [1634760805, 857760878, 2036477234, 1797285236, 2, 0, 0, 0, 0, 0, 0, 0, 0, 0, 0, 0]
def sG1 : List Nat := [1046475851, 467541384, 54298740, 495098879, 3638131503, 2693350874, 2178342409, 1976681349, 1953514830, 3992080747, 3736500406, 2376677840, 1837122831, 3845164342, 1832577218, 2239767391]
def sG2 : List Nat := [3180001607, 1764588452, 2085506051, 2974182423, 3238878135, 3512289822, 3179290569, 1139273148, 132078022, 980255892, 3958351179, 1845458524, 2760868872, 4256974000, 2911403026, 1917000689]
def sG3 : List Nat := [2171612676, 2459563640, 44665783, 3957376867, 3536848207, 1136535134, 1072113573, 2325890409, 1642096574, 1289748115, 1819877911, 1448878157, 174596630, 1628768317, 556951157, 3448326956]
def sG4 : List Nat := [1795592212, 3335998018, 320831539, 3069561143, 3183356683, 1814662560, 603468581, 3987793096, 746850500, 3955946213, 1671559034, 61646948, 909720174, 44939956, 954755950, 2454834591]
def sG5 : List Nat := [3538634153, 3131178264, 4190920188, 784254610, 2398943436, 1631724217, 3441971668, 2577334220, 336023821, 3575031976, 3458520185, 1477297591, 4258549772, 385130903, 1699699326, 2389474634]
def sG6 : List Nat := [73330537, 3024457919, 998071267, 1553238934, 432213940, 335530800, 220244014, 2550928588, 877941641, 925259215, 285034641, 2930342775, 2422750946, 2244463049, 3729456111, 281584644]
def sG7 : List Nat := [3271850379, 415818331, 276148235, 3305696729, 523611309, 2416235070, 2375711093, 3581516197, 3745812661, 4171308431, 4018735505, 255637742, 455154193, 2619783236, 4095972232, 4018071489]
def sG8 : List Nat := [3364466188, 666648965, 956624106, 647065837, 500652998, 2962820801, 1888293181, 116498862, 2052957818, 397566368, 2432976047, 3360578877, 1921812155, 3924989829, 3007888244, 1179704869]
def sG9 : List Nat := [3952773148, 3639876114, 66465630, 2147733675, 3190336191, 2371849659, 2390866039, 954763600, 2309698067, 840752665, 2587753244, 307748878, 63124496, 3457926060, 1473006220, 1204223910]
def sG10 : List Nat := [3066078981, 106707586, 2078731280, 2313222693, 1237085347, 2844726400, 3238996423, 1599654658, 597357751, 1540196484, 903303187, 3791884116, 2957248367, 449328106, 2144245341, 589964484]
theorem eG0 : stW (2 :: zL 31) (zL 12) 0 = ofU sG0 := ws_listU _ _ rfl (by kernel_rfl) (stW_outU _ _ _)
theorem eG1 : dbl (ofU sG0) = ofU sG1 := dbl_listU _ _ rfl rfl (by kernel_rfl)
theorem eG2 : dbl (ofU sG1) = ofU sG2 := dbl_listU _ _ rfl rfl (by kernel_rfl)
theorem eG3 : dbl (ofU sG2) = ofU sG3 := dbl_listU _ _ rfl rfl (by kernel_rfl)
theorem eG4 : dbl (ofU sG3) = ofU sG4 := dbl_listU _ _ rfl rfl (by kernel_rfl)
theorem eG5 : dbl (ofU sG4) = ofU sG5 := dbl_listU _ _ rfl rfl (by kernel_rfl)
theorem eG6 : dbl (ofU sG5) = ofU sG6 := dbl_listU _ _ rfl rfl (by kernel_rfl)
theorem eG7 : dbl (ofU sG6) = ofU sG7 := dbl_listU _ _ rfl rfl (by kernel_rfl)
theorem eG8 : dbl (ofU sG7) = ofU sG8 := dbl_listU _ _ rfl rfl (by kernel_rfl)
theorem eG9 : dbl (ofU sG8) = ofU sG9 := dbl_listU _ _ rfl rfl (by kernel_rfl)
theorem eG10 : dbl (ofU sG9) = ofU sG10 := dbl_listU _ _ rfl rfl (by kernel_rfl)
theorem tG : turnN (ofU sG0) 10 = ofU sG10 := by
  simp only [turnN, eG1, eG2, eG3, eG4, eG5, eG6, eG7, eG8, eG9, eG10]
theorem blankG : openB (2 :: zL 31) (zL 40) = false := blank_noU _ _ (inner_listU _ _ _ eG0 tG (by kernel_rfl)) (by kernel_rfl)
#print axioms blankF
#print axioms blankG
end Go.Proofs.YtlfcejfpdgdnkaaDoor
