/- Words of 32 bits: their bounds, their lowest bits. No program is named here; no conditions but those that each line states. -/
import Derived.Test.YthhaeiafgloacaaDoorU32
namespace Go.Proofs.YthhaeiafgloacaaDoor
open Go.RowKit

theorem u32_of_wf {a : Int} (h : (Lit.int .u32 a).wf = true) : 0 ≤ a ∧ a < 4294967296 := by
  simp [Lit.wf, IntKind.min, IntKind.max, IntKind.signed, IntKind.bits] at h
  omega
theorem bv_of (a : Int) (h : 0 ≤ a ∧ a < 4294967296) : ∃ x : BitVec 32, a = (x.toNat : Int) := ⟨BitVec.ofNat 32 a.toNat, by rw [BitVec.toNat_ofNat]; omega⟩
theorem u32_mask (x : BitVec 32) (k : Nat) (hk : k < 32) (m : Int) (hm : m = 2 ^ k - 1) : bits .and .u32 (x.toNat : Int) m = ((x.toNat % 2 ^ k : Nat) : Int) := by
  have hp : (2 : Nat) ^ k < 2 ^ 32 := Nat.pow_lt_pow_right (by decide) hk
  have hp0 : 0 < (2 : Nat) ^ k := Nat.pow_pos (by decide)
  have hc : ((2 ^ k : Nat) : Int) = (2 : Int) ^ k := Int.natCast_pow 2 k
  have hm' : m = ((2 ^ k - 1 : Nat) : Int) := by omega
  rw [hm', u32_and_nat _ _ x.isLt (by omega), Nat.and_two_pow_sub_one_eq_mod]

#print axioms u32_mask
end Go.Proofs.YthhaeiafgloacaaDoor
