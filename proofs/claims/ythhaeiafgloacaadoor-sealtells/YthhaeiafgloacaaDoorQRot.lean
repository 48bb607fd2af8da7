/- What calls of math/bits.RotateLeft32, quar.Round, quar.unround and of dumbwaiterref1's left and Round do: for every four words; the world stays as it was. -/
import Derived.Test.YthhaeiafgloacaaDoorRows
import Derived.Test.YthhaeiafgloacaaDoorU32
import Derived.Test.YthhaeiafgloacaaDoorPlain
import Derived.WalkLawsBesides
import Derived.WalkSpells
namespace Go.Proofs.YthhaeiafgloacaaDoor
open Go.RowKit


theorem rl_int (x : BitVec 32) (s : Nat) (p q : Int) (hp : p = 2 ^ s) (hq : q = 2 ^ (32 - s)) : bits .or .u32 ((x.toNat : Int) * p % 4294967296) ((x.toNat : Int) / q) = ((rl x s).toNat : Int) := by
  subst hp
  subst hq
  rw [u32_shl_bv, u32_shr_bv, u32_or_bv]
  rfl
theorem ret_u32 {a b : Int} (h : a = b) : Ending.returned (.int .u32 a) = .returned (.int .u32 b) := by rw [h]

theorem rot16 (x y : BitVec 32) (h : rl x 16 = y) (w : World) : Calls Tryd.prog 41 #[.int .u32 (x.toNat : Int), .int .i64 (16)] w fun e w' => e = .returned (.int .u32 (y.toNat : Int)) ∧ w = w' := by
  have hx := u32_lt x
  have HY := hide h
  clear h
  have hs : bits BinOp.and IntKind.u64 16 31 = 16 := by decide
  go_enter Tryd.func41, Tryd.ntmps41
  go_wp2
  go_ret
  exact ⟨ret_u32 ((rl_int x 16 _ _ (by decide) (by decide)).trans (by rw [HY.out])), rfl⟩
theorem rot12 (x y : BitVec 32) (h : rl x 12 = y) (w : World) : Calls Tryd.prog 41 #[.int .u32 (x.toNat : Int), .int .i64 (12)] w fun e w' => e = .returned (.int .u32 (y.toNat : Int)) ∧ w = w' := by
  have hx := u32_lt x
  have HY := hide h
  clear h
  have hs : bits BinOp.and IntKind.u64 12 31 = 12 := by decide
  go_enter Tryd.func41, Tryd.ntmps41
  go_wp2
  go_ret
  exact ⟨ret_u32 ((rl_int x 12 _ _ (by decide) (by decide)).trans (by rw [HY.out])), rfl⟩
theorem rot8 (x y : BitVec 32) (h : rl x 8 = y) (w : World) : Calls Tryd.prog 41 #[.int .u32 (x.toNat : Int), .int .i64 (8)] w fun e w' => e = .returned (.int .u32 (y.toNat : Int)) ∧ w = w' := by
  have hx := u32_lt x
  have HY := hide h
  clear h
  have hs : bits BinOp.and IntKind.u64 8 31 = 8 := by decide
  go_enter Tryd.func41, Tryd.ntmps41
  go_wp2
  go_ret
  exact ⟨ret_u32 ((rl_int x 8 _ _ (by decide) (by decide)).trans (by rw [HY.out])), rfl⟩
theorem rot7 (x y : BitVec 32) (h : rl x 7 = y) (w : World) : Calls Tryd.prog 41 #[.int .u32 (x.toNat : Int), .int .i64 (7)] w fun e w' => e = .returned (.int .u32 (y.toNat : Int)) ∧ w = w' := by
  have hx := u32_lt x
  have HY := hide h
  clear h
  have hs : bits BinOp.and IntKind.u64 7 31 = 7 := by decide
  go_enter Tryd.func41, Tryd.ntmps41
  go_wp2
  go_ret
  exact ⟨ret_u32 ((rl_int x 7 _ _ (by decide) (by decide)).trans (by rw [HY.out])), rfl⟩
theorem rotb16 (x y : BitVec 32) (h : rl x 16 = y) (w : World) : Calls Tryd.prog 41 #[.int .u32 (x.toNat : Int), .int .i64 (-16)] w fun e w' => e = .returned (.int .u32 (y.toNat : Int)) ∧ w = w' := by
  have hx := u32_lt x
  have HY := hide h
  clear h
  have hs : bits BinOp.and IntKind.u64 (IntKind.u64.wrap (-16)) 31 = 16 := by decide
  go_enter Tryd.func41, Tryd.ntmps41
  go_wp2
  go_ret
  exact ⟨ret_u32 ((rl_int x 16 _ _ (by decide) (by decide)).trans (by rw [HY.out])), rfl⟩
theorem rotb12 (x y : BitVec 32) (h : rl x 20 = y) (w : World) : Calls Tryd.prog 41 #[.int .u32 (x.toNat : Int), .int .i64 (-12)] w fun e w' => e = .returned (.int .u32 (y.toNat : Int)) ∧ w = w' := by
  have hx := u32_lt x
  have HY := hide h
  clear h
  have hs : bits BinOp.and IntKind.u64 (IntKind.u64.wrap (-12)) 31 = 20 := by decide
  go_enter Tryd.func41, Tryd.ntmps41
  go_wp2
  go_ret
  exact ⟨ret_u32 ((rl_int x 20 _ _ (by decide) (by decide)).trans (by rw [HY.out])), rfl⟩
theorem rotb8 (x y : BitVec 32) (h : rl x 24 = y) (w : World) : Calls Tryd.prog 41 #[.int .u32 (x.toNat : Int), .int .i64 (-8)] w fun e w' => e = .returned (.int .u32 (y.toNat : Int)) ∧ w = w' := by
  have hx := u32_lt x
  have HY := hide h
  clear h
  have hs : bits BinOp.and IntKind.u64 (IntKind.u64.wrap (-8)) 31 = 24 := by decide
  go_enter Tryd.func41, Tryd.ntmps41
  go_wp2
  go_ret
  exact ⟨ret_u32 ((rl_int x 24 _ _ (by decide) (by decide)).trans (by rw [HY.out])), rfl⟩
theorem rotb7 (x y : BitVec 32) (h : rl x 25 = y) (w : World) : Calls Tryd.prog 41 #[.int .u32 (x.toNat : Int), .int .i64 (-7)] w fun e w' => e = .returned (.int .u32 (y.toNat : Int)) ∧ w = w' := by
  have hx := u32_lt x
  have HY := hide h
  clear h
  have hs : bits BinOp.and IntKind.u64 (IntKind.u64.wrap (-7)) 31 = 25 := by decide
  go_enter Tryd.func41, Tryd.ntmps41
  go_wp2
  go_ret
  exact ⟨ret_u32 ((rl_int x 25 _ _ (by decide) (by decide)).trans (by rw [HY.out])), rfl⟩
theorem left16 (x y : BitVec 32) (h : rl x 16 = y) (w : World) : Calls Tryd.prog 40 #[.int .u32 (x.toNat : Int), .int .i64 (16)] w fun e w' => e = .returned (.int .u32 (y.toNat : Int)) ∧ w = w' := by
  have hx := u32_lt x
  have HY := hide h
  clear h
  go_enter Tryd.func40, Tryd.ntmps40
  go_wp2
  go_ret
  exact ⟨ret_u32 ((rl_int x 16 _ _ (by decide) (by decide)).trans (by rw [HY.out])), rfl⟩
theorem left12 (x y : BitVec 32) (h : rl x 12 = y) (w : World) : Calls Tryd.prog 40 #[.int .u32 (x.toNat : Int), .int .i64 (12)] w fun e w' => e = .returned (.int .u32 (y.toNat : Int)) ∧ w = w' := by
  have hx := u32_lt x
  have HY := hide h
  clear h
  go_enter Tryd.func40, Tryd.ntmps40
  go_wp2
  go_ret
  exact ⟨ret_u32 ((rl_int x 12 _ _ (by decide) (by decide)).trans (by rw [HY.out])), rfl⟩
theorem left8 (x y : BitVec 32) (h : rl x 8 = y) (w : World) : Calls Tryd.prog 40 #[.int .u32 (x.toNat : Int), .int .i64 (8)] w fun e w' => e = .returned (.int .u32 (y.toNat : Int)) ∧ w = w' := by
  have hx := u32_lt x
  have HY := hide h
  clear h
  go_enter Tryd.func40, Tryd.ntmps40
  go_wp2
  go_ret
  exact ⟨ret_u32 ((rl_int x 8 _ _ (by decide) (by decide)).trans (by rw [HY.out])), rfl⟩
theorem left7 (x y : BitVec 32) (h : rl x 7 = y) (w : World) : Calls Tryd.prog 40 #[.int .u32 (x.toNat : Int), .int .i64 (7)] w fun e w' => e = .returned (.int .u32 (y.toNat : Int)) ∧ w = w' := by
  have hx := u32_lt x
  have HY := hide h
  clear h
  go_enter Tryd.func40, Tryd.ntmps40
  go_wp2
  go_ret
  exact ⟨ret_u32 ((rl_int x 7 _ _ (by decide) (by decide)).trans (by rw [HY.out])), rfl⟩

end Go.Proofs.YthhaeiafgloacaaDoor
