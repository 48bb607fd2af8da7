
/- A tree of buckets, told by numbers: how deep it is, which bucket lies at a level of a way, where two ways part. No function is named here; no conditions but those that each line states. -/
import Derived.Test.YtmaknnlccmfmpaaDoorLvs
import Derived.Test.YtmaknnlccmfmpaaDoorNums
namespace Go.Proofs.YtmaknnlccmfmpaaDoor
open Go.RowKit
set_option maxRecDepth 20000

/-- How often n can be halved. -/
def dep (n : Int) : Nat := if lvs n = true then n.toNat.log2 else 0
theorem dep_pow (k : Nat) (hk : k ≤ 16) : dep ((2 ^ k : Nat) : Int) = k := by
  unfold dep
  rw [if_pos (lvs_pow k hk), Int.toNat_natCast, Nat.log2_two_pow]
theorem dep_no (n : Int) (h : lvs n = false) : dep n = 0 := by
  unfold dep
  rw [if_neg (by rw [h]; decide)]
theorem dep_is {n : Int} (h : lvs n = true) : n = ((2 ^ dep n : Nat) : Int) ∧ dep n ≤ 16 := by
  obtain ⟨k, hk, rfl⟩ := (lvs_iff n).1 h
  rw [dep_pow k hk]
  exact ⟨rfl, hk⟩
theorem dep_le (n : Int) : dep n ≤ 16 := by
  cases h : lvs n with
  | true => exact (dep_is h).2
  | false => rw [dep_no n h]; omega
/-- How many buckets there are. -/
def cntB (n : Int) : Int := if lvs n = true then 2 * n - 1 else 0
/-- Is a one of n leaves? -/
def hasL (n a : Int) : Bool := lvs n && decide (0 ≤ a) && decide (a < n)
theorem hasL_iff (n a : Int) : hasL n a = true ↔ lvs n = true ∧ 0 ≤ a ∧ a < n := by simp [hasL, and_assoc]
/-- The bucket at level l of the way to leaf a, k the level of the leaves. -/
def bkt (k a l : Nat) : Nat := 2 ^ l - 1 + a / 2 ^ (k - l)
def atB (n a l : Int) : Bool := hasL n a && decide (0 ≤ l) && decide (l ≤ (dep n : Int))
def atN (n a l : Int) : Int := if atB n a l = true then ((bkt (dep n) a.toNat l.toNat : Nat) : Int) else 0
def wayL (n a : Int) : List Int := if hasL n a = true then (List.range (dep n + 1)).map fun l => ((bkt (dep n) a.toNat l : Nat) : Int) else []
/-- How many places a number has. -/
def bl (x : Nat) : Nat := if x = 0 then 0 else x.log2 + 1
theorem bl_le (x m : Nat) : bl x ≤ m ↔ x < 2 ^ m := by
  unfold bl
  by_cases h : x = 0
  · subst h
    have : 0 < 2 ^ m := Nat.pow_pos (by decide)
    simp [this]
  · rw [if_neg h, ← Nat.log2_lt h]
    omega
/-- The deepest level that two ways share. -/
def meetN (n a b : Int) : Int := if (hasL n a && hasL n b) = true then (dep n : Int) - (bl (a.toNat ^^^ b.toNat) : Int) else -1

theorem bkt_le {k a l : Nat} (hl : l ≤ k) (ha : a < 2 ^ k) : 2 ^ l - 1 ≤ bkt k a l ∧ bkt k a l ≤ 2 * 2 ^ l - 2 := by
  have h1 : a / 2 ^ (k - l) < 2 ^ l := by
    rw [Nat.div_lt_iff_lt_mul (Nat.pow_pos (by decide)), ← Nat.pow_add]
    rwa [show l + (k - l) = k by omega]
  have h2 : 0 < 2 ^ l := Nat.pow_pos (by decide)
  unfold bkt
  generalize a / 2 ^ (k - l) = x at *
  omega
/-- Two ways have one bucket at a level just if their numbers' first places are the same. -/
theorem same_iff (a b m : Nat) : a / 2 ^ m = b / 2 ^ m ↔ a ^^^ b < 2 ^ m := by
  have e : (a ^^^ b) / 2 ^ m = a / 2 ^ m ^^^ b / 2 ^ m := by
    rw [← Nat.shiftRight_eq_div_pow, ← Nat.shiftRight_eq_div_pow, ← Nat.shiftRight_eq_div_pow, Nat.shiftRight_xor_distrib]
  have p : 0 < 2 ^ m := Nat.pow_pos (by decide)
  constructor
  · intro h
    rw [h, Nat.xor_self] at e
    exact (Nat.div_eq_zero_iff_lt p).1 e
  · intro h
    rw [Nat.div_eq_of_lt h] at e
    exact Nat.eq_of_testBit_eq fun i => by
      have := congrArg (fun x => x.testBit i) e
      simp only [Nat.zero_testBit, Nat.testBit_xor] at this
      revert this
      cases (a / 2 ^ m).testBit i <;> cases (b / 2 ^ m).testBit i <;> simp
theorem bkt_same {k a b l : Nat} (hl : l ≤ k) : bkt k a l = bkt k b l ↔ (l : Int) ≤ (k : Int) - (bl (a ^^^ b) : Int) := by
  have h := same_iff a b (k - l)
  have h2 := bl_le (a ^^^ b) (k - l)
  unfold bkt
  constructor
  · intro h3
    have := h2.2 (h.1 (by omega))
    omega
  · intro h3
    have := h.2 (h2.1 (by omega))
    omega
theorem bkt_up {k a l : Nat} (hl : l + 1 ≤ k) : ((bkt k a (l + 1) : Int) - 1).tdiv 2 = (bkt k a l : Int) := by
  have h2 : 0 < 2 ^ l := Nat.pow_pos (by decide)
  have e : a / 2 ^ (k - l) = a / 2 ^ (k - (l + 1)) / 2 := by
    rw [Nat.div_div_eq_div_mul, ← Nat.pow_succ, show (k - (l + 1)).succ = k - l by omega]
  have e1 : bkt k a l = 2 ^ l - 1 + a / 2 ^ (k - (l + 1)) / 2 := by unfold bkt; rw [e]
  have e2 : bkt k a (l + 1) = 2 * 2 ^ l - 1 + a / 2 ^ (k - (l + 1)) := by unfold bkt; rw [Nat.pow_succ, Nat.mul_comm]
  rw [e1, e2, Int.tdiv_eq_ediv_of_nonneg (by omega)]
  omega
theorem bkt_root (k a : Nat) (ha : a < 2 ^ k) : bkt k a 0 = 0 := by
  unfold bkt
  rw [Nat.sub_zero, Nat.div_eq_of_lt ha]
theorem bkt_leaf (k a : Nat) : bkt k a k = 2 ^ k - 1 + a := by
  unfold bkt
  rw [Nat.sub_self, Nat.pow_zero, Nat.div_one]
theorem xor_lt {k a b : Nat} (ha : a < 2 ^ k) (hb : b < 2 ^ k) : bl (a ^^^ b) ≤ k := (bl_le _ _).2 (Nat.xor_lt_two_pow ha hb)
theorem bl_zero (a b : Nat) : bl (a ^^^ b) = 0 ↔ a = b := by
  have h := bl_le (a ^^^ b) 0
  have h2 := same_iff a b 0
  simp only [Nat.pow_zero, Nat.div_one] at h h2
  constructor
  · intro h3
    exact h2.2 (h.1 (by omega))
  · intro h3
    have := h.2 (h2.1 h3)
    omega
theorem wayL_length (n a : Int) : (wayL n a).length = if hasL n a = true then dep n + 1 else 0 := by
  unfold wayL
  split <;> simp
theorem wayL_getD {n a : Int} (h : hasL n a = true) (l : Nat) (hl : l ≤ dep n) : (wayL n a).getD l 0 = ((bkt (dep n) a.toNat l : Nat) : Int) := by
  unfold wayL
  rw [if_pos h]
  simp [List.getD, show l < dep n + 1 by omega]
theorem pow16 {k : Nat} (hk : k ≤ 16) : 1 ≤ 2 ^ k ∧ 2 ^ k ≤ 65536 := ⟨Nat.pow_pos (by decide), Nat.pow_le_pow_right (n := 2) (by decide) hk⟩
theorem bkt_small {k a l : Nat} (hk : k ≤ 16) (hl : l ≤ k) (ha : a < 2 ^ k) : bkt k a l ≤ 131070 := by
  have h1 := (bkt_le hl ha).2
  have h2 := (pow16 (show l ≤ 16 by omega)).2
  omega
theorem wayL_wf (n a : Int) : AllK .i64 (wayL n a) := by
  unfold wayL
  split
  · rename_i h
    obtain ⟨h1, h2, h3⟩ := (hasL_iff n a).1 h
    obtain ⟨e, hk⟩ := dep_is h1
    intro z hz
    obtain ⟨l, hl, rfl⟩ := List.mem_map.1 hz
    have := bkt_small (a := a.toNat) (l := l) hk (by have := List.mem_range.1 hl; omega) (by omega)
    exact WalkArith.wf_i64 (by omega)
  · intro z hz; cases hz
#print axioms bkt_same
#print axioms bkt_up
#print axioms wayL_wf
end Go.Proofs.YtmaknnlccmfmpaaDoor
