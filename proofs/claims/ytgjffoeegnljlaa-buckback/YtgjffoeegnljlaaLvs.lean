
/- Counts of leaves (powers of two), whole numbers of 64 bits laid together place by place. No function is named here; no conditions but those that each line states. -/
import Derived.Test.YtgjffoeegnljlaaMem
namespace Go.Proofs.Ytgjffoeegnljlaa
open Go.RowKit
set_option maxRecDepth 20000

/-! ### Words -/
theorem i64_and_nat (a b : Nat) (ha : a < 9223372036854775808) (hb : b < 9223372036854775808) : bits .and .i64 (a : Int) (b : Int) = ((a &&& b : Nat) : Int) := by
  show IntKind.i64.wrap ((BitVec.ofInt 64 (a : Int) &&& BitVec.ofInt 64 (b : Int)).toNat : Nat) = _
  rw [BitVec.toNat_and, BitVec.ofInt_natCast, BitVec.ofInt_natCast, BitVec.toNat_ofNat, BitVec.toNat_ofNat, Nat.mod_eq_of_lt (by omega), Nat.mod_eq_of_lt (by omega), IntKind.wrap_i64]
  have : a &&& b ≤ a := Nat.and_le_left
  omega

theorem i64_xor_nat (a b : Nat) (ha : a < 4294967296) (hb : b < 4294967296) : bits .xor .i64 (a : Int) (b : Int) = ((a ^^^ b : Nat) : Int) := by
  show IntKind.i64.wrap ((BitVec.ofInt 64 (a : Int) ^^^ BitVec.ofInt 64 (b : Int)).toNat : Nat) = _
  rw [BitVec.toNat_xor, BitVec.ofInt_natCast, BitVec.ofInt_natCast, BitVec.toNat_ofNat, BitVec.toNat_ofNat, Nat.mod_eq_of_lt (by omega), Nat.mod_eq_of_lt (by omega), IntKind.wrap_i64]
  have : a ^^^ b < 2 ^ 32 := Nat.xor_lt_two_pow (by omega) (by omega)
  omega

/-! ### Counts of leaves -/
/-- A power of two, 1 to 65,536. -/
def lvs (n : Int) : Bool := decide (1 ≤ n) && decide (n ≤ 65536) && decide (n.toNat &&& (n.toNat - 1) = 0)
theorem pow_of_and (n : Nat) (h1 : 1 ≤ n) (h : n &&& (n - 1) = 0) : n = 2 ^ n.log2 := by
  have hn : n ≠ 0 := by omega
  have hlo := Nat.log2_self_le hn
  have hhi : n < 2 ^ (n.log2 + 1) := Nat.lt_log2_self
  rcases Nat.lt_or_ge (2 ^ n.log2) n with hlt | hge
  · exfalso
    have hb : ∀ m, 2 ^ n.log2 ≤ m → m < 2 ^ (n.log2 + 1) → m.testBit n.log2 = true := by
      intro m hm1 hm2
      rw [Nat.testBit_eq_decide_div_mod_eq, decide_eq_true_eq]
      have hd : m / 2 ^ n.log2 = 1 := by
        refine Nat.div_eq_of_lt_le (by omega) ?_
        rw [Nat.pow_succ] at hm2
        omega
      rw [hd]
    have := congrArg (fun m => m.testBit n.log2) h
    simp only [Nat.testBit_and, Nat.zero_testBit] at this
    rw [hb n hlo hhi, hb (n - 1) (by omega) (by omega)] at this
    simp at this
  · omega
theorem lvs_iff (n : Int) : lvs n = true ↔ ∃ k : Nat, k ≤ 16 ∧ n = ((2 ^ k : Nat) : Int) := by
  unfold lvs
  simp only [Bool.and_eq_true, decide_eq_true_eq]
  constructor
  · rintro ⟨⟨h1, h2⟩, h3⟩
    have := pow_of_and n.toNat (by omega) h3
    refine ⟨n.toNat.log2, ?_, by omega⟩
    rcases Nat.lt_or_ge 16 n.toNat.log2 with h | h
    · have := Nat.pow_le_pow_right (show 0 < 2 by decide) h
      simp only [Nat.succ_eq_add_one] at this
      omega
    · exact h
  · rintro ⟨k, hk, rfl⟩
    have h0 : 0 < 2 ^ k := Nat.pow_pos (by decide)
    have h1 : 2 ^ k ≤ 2 ^ 16 := Nat.pow_le_pow_right (by decide) hk
    refine ⟨⟨by omega, by omega⟩, ?_⟩
    rw [Int.toNat_natCast, Nat.and_two_pow_sub_one_eq_mod, Nat.mod_self]
theorem lvs_pow (k : Nat) (hk : k ≤ 16) : lvs ((2 ^ k : Nat) : Int) = true := (lvs_iff _).2 ⟨k, hk, rfl⟩

theorem wrap_pow (k : Nat) (hk : k < 60) : wrap64 ((2 : Int) ^ k) = ((2 ^ k : Nat) : Int) := by
  have h : (2 : Nat) ^ k < 2 ^ 60 := Nat.pow_lt_pow_right (by decide) hk
  rw [← show ((2 ^ k : Nat) : Int) = (2 : Int) ^ k from Int.natCast_pow 2 k, wrap64]
  generalize (2 : Nat) ^ k = m at *
  omega
#print axioms lvs_iff
#print axioms i64_xor_nat
end Go.Proofs.Ytgjffoeegnljlaa
