/- Plain facts about words of 32 bits, turned to the left, and about the model's arithmetic on them: no program is named here; no conditions but those that each line states. -/
import Derived.WalkKit
import Derived.Below
import Derived.Laws.BitsAllLaws
namespace Go.Proofs.YthhaeiafgloacaaDoor
open Go.RowKit

/-- x turned left by s places. -/
def rl (x : BitVec 32) (s : Nat) : BitVec 32 := x <<< s ||| x >>> (32 - s)

theorem rl_back (x : BitVec 32) (s : Nat) (h : s ≤ 32) : rl (rl x s) (32 - s) = x := by
  unfold rl
  apply BitVec.eq_of_getLsbD_eq
  intro i hi
  simp only [BitVec.getLsbD_or, BitVec.getLsbD_shiftLeft, BitVec.getLsbD_ushiftRight]
  rw [show 32 - (32 - s) = s by omega]
  rcases Nat.lt_or_ge i (32 - s) with h1 | h1
  · simp [h1, show i < 32 by omega, show s + i < 32 by omega, show ¬ s + i < s by omega, show s + i - s = i by omega]
    intro h2
    rw [BitVec.getLsbD_of_ge _ _ (by omega)] at h2
    cases h2
  · simp [show ¬ i < 32 - s by omega, show i < 32 by omega, show i - (32 - s) < s by omega, show 32 - s + (i - (32 - s)) = i by omega]
    intro h2
    rcases h2 with h2 | h2
    · exact h2.2
    · rw [BitVec.getLsbD_of_ge _ _ (by omega)] at h2
      cases h2

theorem u32_lt (x : BitVec 32) : (0 : Int) ≤ (x.toNat : Int) ∧ (x.toNat : Int) < 4294967296 := by
  have := x.isLt
  omega

theorem u32_add_bv (x y : BitVec 32) : IntKind.u32.wrap ((x.toNat : Int) + (y.toNat : Int)) = ((x + y).toNat : Int) := by
  rw [IntKind.wrap_u32', BitVec.toNat_add]
  omega
theorem u32_sub_bv (x y : BitVec 32) : IntKind.u32.wrap ((x.toNat : Int) - (y.toNat : Int)) = ((x - y).toNat : Int) := by
  have h1 := x.isLt
  have h2 := y.isLt
  rw [IntKind.wrap_u32', BitVec.toNat_sub]
  omega
theorem u32_xor_bv (x y : BitVec 32) : bits .xor .u32 (x.toNat : Int) (y.toNat : Int) = ((x ^^^ y).toNat : Int) := by
  rw [u32_xor_nat _ _ x.isLt y.isLt, BitVec.toNat_xor]
theorem u32_or_bv (x y : BitVec 32) : bits .or .u32 (x.toNat : Int) (y.toNat : Int) = ((x ||| y).toNat : Int) := by
  rw [u32_or_nat _ _ x.isLt y.isLt, BitVec.toNat_or]
theorem u32_shl_bv (x : BitVec 32) (s : Nat) : ((x.toNat : Int) * 2 ^ s) % 4294967296 = ((x <<< s).toNat : Int) := by
  rw [BitVec.toNat_shiftLeft, Nat.shiftLeft_eq]
  have : ((2 ^ s : Nat) : Int) = (2 : Int) ^ s := Int.natCast_pow 2 s
  rw [← this, ← Int.natCast_mul]
  omega
theorem u32_shr_bv (x : BitVec 32) (s : Nat) : ((x.toNat : Int) / 2 ^ s) = ((x >>> s).toNat : Int) := by
  rw [BitVec.toNat_ushiftRight, Nat.shiftRight_eq_div_pow]
  have : ((2 ^ s : Nat) : Int) = (2 : Int) ^ s := Int.natCast_pow 2 s
  rw [Int.natCast_ediv, this]

/-- Four words. -/
abbrev W4 := BitVec 32 × BitVec 32 × BitVec 32 × BitVec 32

/-- The quarter round. -/
def qr (a b c d : BitVec 32) : W4 :=
  let a1 := a + b
  let d1 := rl (d ^^^ a1) 16
  let c1 := c + d1
  let b1 := rl (b ^^^ c1) 12
  let a2 := a1 + b1
  let d2 := rl (d1 ^^^ a2) 8
  let c2 := c1 + d2
  let b2 := rl (b1 ^^^ c2) 7
  (a2, b2, c2, d2)

/-- Its way back. -/
def uq (a b c d : BitVec 32) : W4 :=
  let b1 := rl b 25 ^^^ c
  let c1 := c - d
  let d1 := rl d 24 ^^^ a
  let a1 := a - b1
  let b2 := rl b1 20 ^^^ c1
  let c2 := c1 - d1
  let d2 := rl d1 16 ^^^ a1
  let a2 := a1 - b2
  (a2, b2, c2, d2)

theorem rl_back' (x : BitVec 32) (s t : Nat) (h : s + t = 32) : rl (rl x s) t = x := by
  have := rl_back x s (by omega)
  rwa [show 32 - s = t by omega] at this

theorem xor_back (x y : BitVec 32) : x ^^^ y ^^^ y = x := by rw [BitVec.xor_assoc, BitVec.xor_self, BitVec.xor_zero]
theorem add_back (x y : BitVec 32) : x + y - y = x := BitVec.add_sub_cancel x y
theorem sub_back (x y : BitVec 32) : x - y + y = x := BitVec.sub_add_cancel x y

theorem uq_qr (a b c d : BitVec 32) : uq (qr a b c d).1 (qr a b c d).2.1 (qr a b c d).2.2.1 (qr a b c d).2.2.2 = (a, b, c, d) := by
  simp only [uq, qr, rl_back' _ 7 25 rfl, rl_back' _ 8 24 rfl, rl_back' _ 12 20 rfl, rl_back' _ 16 16 rfl, xor_back, add_back]
theorem qr_uq (a b c d : BitVec 32) : qr (uq a b c d).1 (uq a b c d).2.1 (uq a b c d).2.2.1 (uq a b c d).2.2.2 = (a, b, c, d) := by
  simp only [uq, qr, rl_back' _ 25 7 rfl, rl_back' _ 24 8 rfl, rl_back' _ 20 12 rfl, rl_back' _ 16 16 rfl, xor_back, sub_back]

end Go.Proofs.YthhaeiafgloacaaDoor
