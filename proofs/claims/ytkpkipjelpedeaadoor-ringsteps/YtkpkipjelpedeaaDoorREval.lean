
/- The first blocks of keys that begin with a byte and are nought else, reckoned a double round a line: a block of 60 noughts is not opened under them. No program is named here; closed facts. -/
import Derived.Test.YtkpkipjelpedeaaDoorXSeal
import Derived.KernelRfl
namespace Go.Proofs.YtkpkipjelpedeaaDoor
open Go.RowKit
set_option maxRecDepth 20000

/-- Sixteen words by a list. -/
def ofRu (l : List Nat) : Ws := fun j => BitVec.ofNat 32 (l.getD j 0)
theorem put4_outRu (xs : Ws) (a b c d : Nat) (r : W4) (j : Nat) (h1 : a < j) (h2 : b < j) (h3 : c < j) (h4 : d < j) : put4 xs a b c d r j = xs j := by
  simp [put4, upd, show j ≠ a by omega, show j ≠ b by omega, show j ≠ c by omega, show j ≠ d by omega]
theorem dblN_outRu (xs : Ws) (j : Nat) (hj : 16 ≤ j) : ∀ i, i ≤ 8 → dblN xs i j = xs j
  | 0, _ => rfl
  | i + 1, h => by
    obtain ⟨⟨l0, l1, l2, l3⟩, _⟩ := pl_ok i (by omega)
    rw [dblN, qstep, put4_outRu _ _ _ _ _ _ _ (by omega) (by omega) (by omega) (by omega), dblN_outRu xs j hj i (by omega)]
def agreeRu (xs ys : Ws) : Bool := (List.range 16).all fun j => xs j == ys j
theorem dbl_listRu (l m : List Nat) (hl : l.length = 16) (hm : m.length = 16) (h : agreeRu (dbl (ofRu l)) (ofRu m) = true) : dbl (ofRu l) = ofRu m := by
  funext j
  rcases Nat.lt_or_ge j 16 with hj | hj
  · simp only [agreeRu, List.all_eq_true, List.mem_range, beq_iff_eq] at h
    exact h j hj
  · show dblN _ 8 j = _
    rw [dblN_outRu _ j hj 8 (Nat.le_refl _)]
    simp [ofRu, List.getD, show l.length ≤ j by omega, show m.length ≤ j by omega]
theorem ws_listRu (xs : Ws) (m : List Nat) (hm : m.length = 16) (h : agreeRu xs (ofRu m) = true) (hx : ∀ j, 16 ≤ j → xs j = 0) : xs = ofRu m := by
  funext j
  rcases Nat.lt_or_ge j 16 with hj | hj
  · simp only [agreeRu, List.all_eq_true, List.mem_range, beq_iff_eq] at h
    exact h j hj
  · rw [hx j hj]
    simp [ofRu, List.getD, show m.length ≤ j by omega]
theorem stW_outRu (key nonce : List Int) (c : BitVec 32) (j : Nat) (h : 16 ≤ j) : stW key nonce c j = 0 := by
  simp [stW, show j ≠ 0 by omega, show j ≠ 1 by omega, show j ≠ 2 by omega, show j ≠ 3 by omega, show ¬ j < 12 by omega, show j ≠ 12 by omega, show ¬ j < 16 by omega]
/-- The stream's first bytes, by the block ahead and behind its turns. -/
def ksRu (s t : List Nat) (i : Nat) : Int := byteAt ((ofRu t (i / 4) + ofRu s (i / 4)).toNat : Int) (i % 4)
theorem ks_listRu (key nonce : List Int) (s t : List Nat) (h : stW key nonce 0 = ofRu s) (ht : turnN (ofRu s) 10 = ofRu t) (i : Nat) (hi : i < 64) : ks key nonce 0 i = ksRu s t i := by
  rw [ks_first key nonce 0 i hi, kb, blkW, h, ht]
  rfl
/-- What 60 noughts hold. -/
def inRu (s t : List Nat) : List Int := (List.range 48).map (ksRu s t)
theorem inner_listRu (key : List Int) (s t : List Nat) (h : stW key (zL 12) 0 = ofRu s) (ht : turnN (ofRu s) 10 = ofRu t) (hx : (List.range 48).all (fun i => decide (xr 0 (ksRu s t i) = ksRu s t i)) = true) : innerL key (zL 60) = inRu s t := by
  have e1 : (zL 60).take 12 = zL 12 := by kernel_rfl
  have e2 : (zL 60).drop 12 = zL 48 := by kernel_rfl
  unfold innerL
  rw [e1, e2]
  apply List.ext_getElem?
  intro i
  unfold inRu xorL
  rw [zL_length]
  rcases Nat.lt_or_ge i 48 with hi | hi
  · rw [rowL_get _ _ _ hi, ks_listRu key (zL 12) s t h ht i (by omega), zL_getD]
    have := List.all_eq_true.1 hx i (by simp [hi])
    simp only [decide_eq_true_eq] at this
    rw [this]
    simp [hi]
  · rw [rowL_none _ _ _ hi]
    simp [hi]
theorem blank_noRu (key : List Int) (l : List Int) (h : innerL key (zL 60) = l) (hn : decide (leNum (l.drop 40) = fnv (zL 12 ++ l.take 40)) = false) : openB key (zL 60) = false := by
  have e0 : (zL 60).length = 60 := by kernel_rfl
  have e1 : (zL 60).take 12 = zL 12 := by kernel_rfl
  have hs : sumOk key (zL 60) = false := by
    unfold sumOk tailL textL
    rw [h, e0, e1]
    exact hn
  have ho : openL key (zL 60) = none := by
    unfold openL
    rw [e0, if_neg (by decide), hs]
    rfl
  exact (openR_none ho).2.1

def sR0 : List Nat := [1634760805, 857760878, 2036477234, 1797285236, 6, 0, 0, 0, 0, 0, 0, 0, 0, 0, 0, 0]
def sR1 : List Nat := [979384398, 480387180, 1095272757, 2381812904, 2034637417, 753575756, 2049925821, 1229448008, 741697612, 3994089408, 3215899506, 3852126613, 3518095636, 2435959924, 3457127666, 2794202651]
def sR2 : List Nat := [4102353443, 344078313, 3534541942, 484561866, 1528625577, 127185177, 3218769949, 1713396812, 2675225545, 3111845273, 765447732, 3649164543, 1795421686, 1647163525, 1048562257, 3966949777]
def sR3 : List Nat := [192618098, 829929976, 3234898356, 2697457398, 1495297694, 990427331, 1431478633, 3104837286, 2509286950, 2937318144, 1613284187, 1980397206, 1018236994, 1879219491, 1771767893, 3459803999]
def sR4 : List Nat := [50604296, 4090104498, 1238257158, 688265631, 797432189, 3831932333, 882625025, 2161106742, 3639982490, 3564725483, 1490140695, 1286316736, 2463473248, 2066828793, 1608633792, 131026336]
def sR5 : List Nat := [4277643925, 3445587838, 3463189776, 1898246977, 21042346, 3449072318, 3213373652, 3770548134, 714590267, 481900046, 3429823425, 1947520475, 4259431711, 2675991917, 1155022946, 3511089975]
def sR6 : List Nat := [645001046, 1688447066, 3135326710, 490579444, 511268356, 4029017464, 1280152008, 259119641, 4021602940, 620082258, 1696714873, 1813693243, 109326195, 79835323, 2825164196, 380562029]
def sR7 : List Nat := [1050836391, 3417410731, 2881960136, 3575970486, 3453659988, 2217482939, 3210267770, 4265923429, 3064587672, 3556706571, 3388844447, 2316010847, 2238966823, 3945005077, 364200468, 3930319913]
def sR8 : List Nat := [3558427459, 134683660, 3588483405, 2522321620, 1212237162, 2193990826, 981526003, 2663182374, 3425797171, 3640895792, 2304821005, 532138656, 3121780022, 99063964, 858299974, 2932234818]
def sR9 : List Nat := [2053037947, 3675987022, 2714640667, 1418348867, 3766286541, 517896932, 2552585697, 3291261793, 516452547, 1514109659, 959491196, 879644170, 1613758401, 1414840969, 3011680144, 2325182464]
def sR10 : List Nat := [1506939813, 2471091840, 104921345, 1061534862, 2986716754, 965758672, 3861393743, 1964987852, 2012968971, 2255247905, 312612977, 3540667876, 2751642381, 997581149, 2103997314, 444310357]
theorem eR0 : stW (6 :: zL 31) (zL 12) 0 = ofRu sR0 := ws_listRu _ _ rfl (by kernel_rfl) (stW_outRu _ _ _)
theorem eR1 : dbl (ofRu sR0) = ofRu sR1 := dbl_listRu _ _ rfl rfl (by kernel_rfl)
theorem eR2 : dbl (ofRu sR1) = ofRu sR2 := dbl_listRu _ _ rfl rfl (by kernel_rfl)
theorem eR3 : dbl (ofRu sR2) = ofRu sR3 := dbl_listRu _ _ rfl rfl (by kernel_rfl)
theorem eR4 : dbl (ofRu sR3) = ofRu sR4 := dbl_listRu _ _ rfl rfl (by kernel_rfl)
theorem eR5 : dbl (ofRu sR4) = ofRu sR5 := dbl_listRu _ _ rfl rfl (by kernel_rfl)
theorem eR6 : dbl (ofRu sR5) = ofRu sR6 := dbl_listRu _ _ rfl rfl (by kernel_rfl)
theorem eR7 : dbl (ofRu sR6) = ofRu sR7 := dbl_listRu _ _ rfl rfl (by kernel_rfl)
theorem eR8 : dbl (ofRu sR7) = ofRu sR8 := dbl_listRu _ _ rfl rfl (by kernel_rfl)
theorem eR9 : dbl (ofRu sR8) = ofRu sR9 := dbl_listRu _ _ rfl rfl (by kernel_rfl)
theorem eR10 : dbl (ofRu sR9) = ofRu sR10 := dbl_listRu _ _ rfl rfl (by kernel_rfl)
theorem tR : turnN (ofRu sR0) 10 = ofRu sR10 := by
  simp only [turnN, eR1, eR2, eR3, eR4, eR5, eR6, eR7, eR8, eR9, eR10]
theorem blankR : openB (6 :: zL 31) (zL 60) = false := blank_noRu _ _ (inner_listRu _ _ _ eR0 tR (by kernel_rfl)) (by kernel_rfl)
#print axioms blankR
end Go.Proofs.YtkpkipjelpedeaaDoor
