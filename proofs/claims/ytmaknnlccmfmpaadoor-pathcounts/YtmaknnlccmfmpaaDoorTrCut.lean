
/- A whole number of 64 bits cut to its lowest places. No program is named here; no conditions but those that each line states. -/
import Derived.Test.YtmaknnlccmfmpaaDoorLvs
namespace Go.Proofs.YtmaknnlccmfmpaaDoor
open Go.RowKit
set_option maxRecDepth 20000

/-- A number cut to k places. -/
theorem cut_pow (a : Int) (k p : Nat) (hp : 2 ^ k = p) (hk : k < 60) : ∃ x : Nat, bits .and .i64 a ((p : Int) - 1) = (x : Int) ∧ x < p := by
  subst hp
  have hc2 : ((2 ^ k : Nat) : Int) = (2 : Int) ^ k := Int.natCast_pow 2 k
  have h0 : 0 < 2 ^ k := Nat.pow_pos (by decide)
  have hm := i64_mask a k (by omega) (((2 ^ k : Nat) : Int) - 1) (by rw [hc2])
  have h1 := Int.emod_nonneg a (show ((2 ^ k : Nat) : Int) ≠ 0 by omega)
  have h2 := Int.emod_lt_of_pos a (show (0 : Int) < ((2 ^ k : Nat) : Int) by omega)
  rw [hc2] at h1 h2
  rw [← hc2] at h2
  exact ⟨(a % (2 : Int) ^ k).toNat, by rw [hm]; omega, by omega⟩
/-- What is small is as it is. -/
theorem wrap_i64_in (z : Int) (h : -1000000 ≤ z ∧ z ≤ 1000000) : IntKind.i64.wrap z = z := by rw [IntKind.wrap_i64]; omega
theorem wrap64_in (z : Int) (h : -1000000 ≤ z ∧ z ≤ 1000000) : wrap64 z = z := by unfold wrap64; omega
#print axioms cut_pow
end Go.Proofs.YtmaknnlccmfmpaaDoor
