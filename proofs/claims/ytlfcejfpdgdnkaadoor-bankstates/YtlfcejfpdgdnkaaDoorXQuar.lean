
/- Several texts in one, in the order in which they lean on each other; what each says stands at its head. No conditions but those that each line states. -/
import Derived.Test.YtlfcejfpdgdnkaaDoorRows
import Derived.Test.YtlfcejfpdgdnkaaDoorXBase
import Derived.WalkLawsBesides
import Derived.WalkSpells
import Derived.Laws.Rows
import Derived.Laws.Tables
import Derived.Deep.MidRow
import Derived.ChangeKeysEq
import Derived.Laws.StructEq
/- What calls of math/bits.RotateLeft32, quar.Round, quar.unround and of dumbwaiterref1's left and Round do: for every four words; the world stays as it was. -/
namespace Go.Proofs.YtlfcejfpdgdnkaaDoor
open Go.RowKit
set_option maxRecDepth 20000


theorem rl_int (x : BitVec 32) (s : Nat) (p q : Int) (hp : p = 2 ^ s) (hq : q = 2 ^ (32 - s)) : bits .or .u32 ((x.toNat : Int) * p % 4294967296) ((x.toNat : Int) / q) = ((rl x s).toNat : Int) := by
  subst hp
  subst hq
  rw [u32_shl_bv, u32_shr_bv, u32_or_bv]
  rfl
theorem ret_u32 {a b : Int} (h : a = b) : Ending.returned (.int .u32 a) = .returned (.int .u32 b) := by rw [h]

theorem rot16 (x y : BitVec 32) (h : rl x 16 = y) (w : World) : Calls Tryd.prog 66 #[.int .u32 (x.toNat : Int), .int .i64 (16)] w fun e w' => e = .returned (.int .u32 (y.toNat : Int)) ∧ w = w' := by
  have hx := u32_lt x
  have HY := hide h
  clear h
  have hs : bits BinOp.and IntKind.u64 16 31 = 16 := by decide
  go_enter Tryd.func66, Tryd.ntmps66
  go_wp2
  go_ret
  exact ⟨ret_u32 ((rl_int x 16 _ _ (by decide) (by decide)).trans (by rw [HY.out])), rfl⟩
theorem rot12 (x y : BitVec 32) (h : rl x 12 = y) (w : World) : Calls Tryd.prog 66 #[.int .u32 (x.toNat : Int), .int .i64 (12)] w fun e w' => e = .returned (.int .u32 (y.toNat : Int)) ∧ w = w' := by
  have hx := u32_lt x
  have HY := hide h
  clear h
  have hs : bits BinOp.and IntKind.u64 12 31 = 12 := by decide
  go_enter Tryd.func66, Tryd.ntmps66
  go_wp2
  go_ret
  exact ⟨ret_u32 ((rl_int x 12 _ _ (by decide) (by decide)).trans (by rw [HY.out])), rfl⟩
theorem rot8 (x y : BitVec 32) (h : rl x 8 = y) (w : World) : Calls Tryd.prog 66 #[.int .u32 (x.toNat : Int), .int .i64 (8)] w fun e w' => e = .returned (.int .u32 (y.toNat : Int)) ∧ w = w' := by
  have hx := u32_lt x
  have HY := hide h
  clear h
  have hs : bits BinOp.and IntKind.u64 8 31 = 8 := by decide
  go_enter Tryd.func66, Tryd.ntmps66
  go_wp2
  go_ret
  exact ⟨ret_u32 ((rl_int x 8 _ _ (by decide) (by decide)).trans (by rw [HY.out])), rfl⟩
theorem rot7 (x y : BitVec 32) (h : rl x 7 = y) (w : World) : Calls Tryd.prog 66 #[.int .u32 (x.toNat : Int), .int .i64 (7)] w fun e w' => e = .returned (.int .u32 (y.toNat : Int)) ∧ w = w' := by
  have hx := u32_lt x
  have HY := hide h
  clear h
  have hs : bits BinOp.and IntKind.u64 7 31 = 7 := by decide
  go_enter Tryd.func66, Tryd.ntmps66
  go_wp2
  go_ret
  exact ⟨ret_u32 ((rl_int x 7 _ _ (by decide) (by decide)).trans (by rw [HY.out])), rfl⟩
theorem rotb16 (x y : BitVec 32) (h : rl x 16 = y) (w : World) : Calls Tryd.prog 66 #[.int .u32 (x.toNat : Int), .int .i64 (-16)] w fun e w' => e = .returned (.int .u32 (y.toNat : Int)) ∧ w = w' := by
  have hx := u32_lt x
  have HY := hide h
  clear h
  have hs : bits BinOp.and IntKind.u64 (IntKind.u64.wrap (-16)) 31 = 16 := by decide
  go_enter Tryd.func66, Tryd.ntmps66
  go_wp2
  go_ret
  exact ⟨ret_u32 ((rl_int x 16 _ _ (by decide) (by decide)).trans (by rw [HY.out])), rfl⟩
theorem rotb12 (x y : BitVec 32) (h : rl x 20 = y) (w : World) : Calls Tryd.prog 66 #[.int .u32 (x.toNat : Int), .int .i64 (-12)] w fun e w' => e = .returned (.int .u32 (y.toNat : Int)) ∧ w = w' := by
  have hx := u32_lt x
  have HY := hide h
  clear h
  have hs : bits BinOp.and IntKind.u64 (IntKind.u64.wrap (-12)) 31 = 20 := by decide
  go_enter Tryd.func66, Tryd.ntmps66
  go_wp2
  go_ret
  exact ⟨ret_u32 ((rl_int x 20 _ _ (by decide) (by decide)).trans (by rw [HY.out])), rfl⟩
theorem rotb8 (x y : BitVec 32) (h : rl x 24 = y) (w : World) : Calls Tryd.prog 66 #[.int .u32 (x.toNat : Int), .int .i64 (-8)] w fun e w' => e = .returned (.int .u32 (y.toNat : Int)) ∧ w = w' := by
  have hx := u32_lt x
  have HY := hide h
  clear h
  have hs : bits BinOp.and IntKind.u64 (IntKind.u64.wrap (-8)) 31 = 24 := by decide
  go_enter Tryd.func66, Tryd.ntmps66
  go_wp2
  go_ret
  exact ⟨ret_u32 ((rl_int x 24 _ _ (by decide) (by decide)).trans (by rw [HY.out])), rfl⟩
theorem rotb7 (x y : BitVec 32) (h : rl x 25 = y) (w : World) : Calls Tryd.prog 66 #[.int .u32 (x.toNat : Int), .int .i64 (-7)] w fun e w' => e = .returned (.int .u32 (y.toNat : Int)) ∧ w = w' := by
  have hx := u32_lt x
  have HY := hide h
  clear h
  have hs : bits BinOp.and IntKind.u64 (IntKind.u64.wrap (-7)) 31 = 25 := by decide
  go_enter Tryd.func66, Tryd.ntmps66
  go_wp2
  go_ret
  exact ⟨ret_u32 ((rl_int x 25 _ _ (by decide) (by decide)).trans (by rw [HY.out])), rfl⟩
theorem left16 (x y : BitVec 32) (h : rl x 16 = y) (w : World) : Calls Tryd.prog 65 #[.int .u32 (x.toNat : Int), .int .i64 (16)] w fun e w' => e = .returned (.int .u32 (y.toNat : Int)) ∧ w = w' := by
  have hx := u32_lt x
  have HY := hide h
  clear h
  go_enter Tryd.func65, Tryd.ntmps65
  go_wp2
  go_ret
  exact ⟨ret_u32 ((rl_int x 16 _ _ (by decide) (by decide)).trans (by rw [HY.out])), rfl⟩
theorem left12 (x y : BitVec 32) (h : rl x 12 = y) (w : World) : Calls Tryd.prog 65 #[.int .u32 (x.toNat : Int), .int .i64 (12)] w fun e w' => e = .returned (.int .u32 (y.toNat : Int)) ∧ w = w' := by
  have hx := u32_lt x
  have HY := hide h
  clear h
  go_enter Tryd.func65, Tryd.ntmps65
  go_wp2
  go_ret
  exact ⟨ret_u32 ((rl_int x 12 _ _ (by decide) (by decide)).trans (by rw [HY.out])), rfl⟩
theorem left8 (x y : BitVec 32) (h : rl x 8 = y) (w : World) : Calls Tryd.prog 65 #[.int .u32 (x.toNat : Int), .int .i64 (8)] w fun e w' => e = .returned (.int .u32 (y.toNat : Int)) ∧ w = w' := by
  have hx := u32_lt x
  have HY := hide h
  clear h
  go_enter Tryd.func65, Tryd.ntmps65
  go_wp2
  go_ret
  exact ⟨ret_u32 ((rl_int x 8 _ _ (by decide) (by decide)).trans (by rw [HY.out])), rfl⟩
theorem left7 (x y : BitVec 32) (h : rl x 7 = y) (w : World) : Calls Tryd.prog 65 #[.int .u32 (x.toNat : Int), .int .i64 (7)] w fun e w' => e = .returned (.int .u32 (y.toNat : Int)) ∧ w = w' := by
  have hx := u32_lt x
  have HY := hide h
  clear h
  go_enter Tryd.func65, Tryd.ntmps65
  go_wp2
  go_ret
  exact ⟨ret_u32 ((rl_int x 7 _ _ (by decide) (by decide)).trans (by rw [HY.out])), rfl⟩

end Go.Proofs.YtlfcejfpdgdnkaaDoor

/- What calls of quar.Round and of dumbwaiterref1's Round do: for every four words; the world stays as it was. -/
namespace Go.Proofs.YtlfcejfpdgdnkaaDoor
open Go.RowKit
set_option maxRecDepth 20000

theorem results_tmp4 {fn : Func} {t u v x : Tmp} (h : fn.results = #[.tmp t, .tmp u, .tmp v, .tmp x]) (tmps : Array Value) (P : Program) (w : World) :
    (results fn tmps).run P w = .ok (.tuple #[tmps.getD t undef, tmps.getD u undef, tmps.getD v undef, tmps.getD x undef]) w := by
  simp [results, h]

set_option maxHeartbeats 1000000 in
theorem round_any (a b c d : BitVec 32) (r : W4) (hr : r = qr a b c d) (w : World) : Calls Tryd.prog 64 #[.int .u32 (a.toNat : Int), .int .u32 (b.toNat : Int), .int .u32 (c.toNat : Int), .int .u32 (d.toNat : Int)] w fun e w' =>
    e = .returned (.tuple #[.int .u32 (r.1.toNat : Int), .int .u32 (r.2.1.toNat : Int), .int .u32 (r.2.2.1.toNat : Int), .int .u32 (r.2.2.2.toNat : Int)]) ∧ w = w' := by
  obtain ⟨a1, ha1⟩ : ∃ z, z = a + b := ⟨_, rfl⟩
  have ea1 : IntKind.u32.wrap ((a.toNat : Int) + (b.toNat : Int)) = (a1.toNat : Int) := by rw [ha1]; exact u32_add_bv _ _
  obtain ⟨x1, hx1⟩ : ∃ z, z = d ^^^ a1 := ⟨_, rfl⟩
  have ex1 : bits BinOp.xor IntKind.u32 (d.toNat : Int) (a1.toNat : Int) = (x1.toNat : Int) := by rw [hx1]; exact u32_xor_bv _ _
  obtain ⟨d1, hd1⟩ : ∃ z, rl x1 16 = z := ⟨_, rfl⟩
  have Rd1 := hide hd1
  obtain ⟨c1, hc1⟩ : ∃ z, z = c + d1 := ⟨_, rfl⟩
  have ec1 : IntKind.u32.wrap ((c.toNat : Int) + (d1.toNat : Int)) = (c1.toNat : Int) := by rw [hc1]; exact u32_add_bv _ _
  obtain ⟨x2, hx2⟩ : ∃ z, z = b ^^^ c1 := ⟨_, rfl⟩
  have ex2 : bits BinOp.xor IntKind.u32 (b.toNat : Int) (c1.toNat : Int) = (x2.toNat : Int) := by rw [hx2]; exact u32_xor_bv _ _
  obtain ⟨b1, hb1⟩ : ∃ z, rl x2 12 = z := ⟨_, rfl⟩
  have Rb1 := hide hb1
  obtain ⟨a2, ha2⟩ : ∃ z, z = a1 + b1 := ⟨_, rfl⟩
  have ea2 : IntKind.u32.wrap ((a1.toNat : Int) + (b1.toNat : Int)) = (a2.toNat : Int) := by rw [ha2]; exact u32_add_bv _ _
  obtain ⟨x3, hx3⟩ : ∃ z, z = d1 ^^^ a2 := ⟨_, rfl⟩
  have ex3 : bits BinOp.xor IntKind.u32 (d1.toNat : Int) (a2.toNat : Int) = (x3.toNat : Int) := by rw [hx3]; exact u32_xor_bv _ _
  obtain ⟨d2, hd2⟩ : ∃ z, rl x3 8 = z := ⟨_, rfl⟩
  have Rd2 := hide hd2
  obtain ⟨c2, hc2⟩ : ∃ z, z = c1 + d2 := ⟨_, rfl⟩
  have ec2 : IntKind.u32.wrap ((c1.toNat : Int) + (d2.toNat : Int)) = (c2.toNat : Int) := by rw [hc2]; exact u32_add_bv _ _
  obtain ⟨x4, hx4⟩ : ∃ z, z = b1 ^^^ c2 := ⟨_, rfl⟩
  have ex4 : bits BinOp.xor IntKind.u32 (b1.toNat : Int) (c2.toNat : Int) = (x4.toNat : Int) := by rw [hx4]; exact u32_xor_bv _ _
  obtain ⟨b2, hb2⟩ : ∃ z, rl x4 7 = z := ⟨_, rfl⟩
  have Rb2 := hide hb2
  have HR : Hid (r = (a2, b2, c2, d2)) := by
    show r = (a2, b2, c2, d2)
    rw [hr]
    simp only [qr, ← ha1, ← hx1, hd1, ← hc1, ← hx2, hb1, ← ha2, ← hx3, hd2, ← hc2, ← hx4, hb2]
  clear hr ha1 hx1 hd1 hc1 hx2 hb1 ha2 hx3 hd2 hc2 hx4 hb2
  have la := u32_lt a
  have lb := u32_lt b
  have lc := u32_lt c
  have ld := u32_lt d
  have la1 := u32_lt a1
  have lx1 := u32_lt x1
  have ld1 := u32_lt d1
  have lc1 := u32_lt c1
  have lx2 := u32_lt x2
  have lb1 := u32_lt b1
  have la2 := u32_lt a2
  have lx3 := u32_lt x3
  have ld2 := u32_lt d2
  have lc2 := u32_lt c2
  have lx4 := u32_lt x4
  have lb2 := u32_lt b2
  go_enter Tryd.func64, Tryd.ntmps64
  go_wp2_with fail
  go_at_call 66
  refine (rot16 x1 d1 Rd1.out _).mono ?_
  rintro e w1 ⟨rfl, rfl⟩
  go_wp2_with fail
  go_at_call 66
  refine (rot12 x2 b1 Rb1.out _).mono ?_
  rintro e w1 ⟨rfl, rfl⟩
  go_wp2_with fail
  go_at_call 66
  refine (rot8 x3 d2 Rd2.out _).mono ?_
  rintro e w1 ⟨rfl, rfl⟩
  go_wp2_with fail
  go_at_call 66
  refine (rot7 x4 b2 Rb2.out _).mono ?_
  rintro e w1 ⟨rfl, rfl⟩
  go_wp2_with fail
  refine bodyPost_ret (results_tmp4 rfl _ _ _) rfl ?_
  obtain rfl := HR.out
  exact ⟨rfl, rfl⟩

set_option maxHeartbeats 1000000 in
theorem rround_any (a b c d : BitVec 32) (r : W4) (hr : r = qr a b c d) (w : World) : Calls Tryd.prog 63 #[.int .u32 (a.toNat : Int), .int .u32 (b.toNat : Int), .int .u32 (c.toNat : Int), .int .u32 (d.toNat : Int)] w fun e w' =>
    e = .returned (.tuple #[.int .u32 (r.1.toNat : Int), .int .u32 (r.2.1.toNat : Int), .int .u32 (r.2.2.1.toNat : Int), .int .u32 (r.2.2.2.toNat : Int)]) ∧ w = w' := by
  obtain ⟨a1, ha1⟩ : ∃ z, z = a + b := ⟨_, rfl⟩
  have ea1 : IntKind.u32.wrap ((a.toNat : Int) + (b.toNat : Int)) = (a1.toNat : Int) := by rw [ha1]; exact u32_add_bv _ _
  obtain ⟨x1, hx1⟩ : ∃ z, z = d ^^^ a1 := ⟨_, rfl⟩
  have ex1 : bits BinOp.xor IntKind.u32 (d.toNat : Int) (a1.toNat : Int) = (x1.toNat : Int) := by rw [hx1]; exact u32_xor_bv _ _
  obtain ⟨d1, hd1⟩ : ∃ z, rl x1 16 = z := ⟨_, rfl⟩
  have Rd1 := hide hd1
  obtain ⟨c1, hc1⟩ : ∃ z, z = c + d1 := ⟨_, rfl⟩
  have ec1 : IntKind.u32.wrap ((c.toNat : Int) + (d1.toNat : Int)) = (c1.toNat : Int) := by rw [hc1]; exact u32_add_bv _ _
  obtain ⟨x2, hx2⟩ : ∃ z, z = b ^^^ c1 := ⟨_, rfl⟩
  have ex2 : bits BinOp.xor IntKind.u32 (b.toNat : Int) (c1.toNat : Int) = (x2.toNat : Int) := by rw [hx2]; exact u32_xor_bv _ _
  obtain ⟨b1, hb1⟩ : ∃ z, rl x2 12 = z := ⟨_, rfl⟩
  have Rb1 := hide hb1
  obtain ⟨a2, ha2⟩ : ∃ z, z = a1 + b1 := ⟨_, rfl⟩
  have ea2 : IntKind.u32.wrap ((a1.toNat : Int) + (b1.toNat : Int)) = (a2.toNat : Int) := by rw [ha2]; exact u32_add_bv _ _
  obtain ⟨x3, hx3⟩ : ∃ z, z = d1 ^^^ a2 := ⟨_, rfl⟩
  have ex3 : bits BinOp.xor IntKind.u32 (d1.toNat : Int) (a2.toNat : Int) = (x3.toNat : Int) := by rw [hx3]; exact u32_xor_bv _ _
  obtain ⟨d2, hd2⟩ : ∃ z, rl x3 8 = z := ⟨_, rfl⟩
  have Rd2 := hide hd2
  obtain ⟨c2, hc2⟩ : ∃ z, z = c1 + d2 := ⟨_, rfl⟩
  have ec2 : IntKind.u32.wrap ((c1.toNat : Int) + (d2.toNat : Int)) = (c2.toNat : Int) := by rw [hc2]; exact u32_add_bv _ _
  obtain ⟨x4, hx4⟩ : ∃ z, z = b1 ^^^ c2 := ⟨_, rfl⟩
  have ex4 : bits BinOp.xor IntKind.u32 (b1.toNat : Int) (c2.toNat : Int) = (x4.toNat : Int) := by rw [hx4]; exact u32_xor_bv _ _
  obtain ⟨b2, hb2⟩ : ∃ z, rl x4 7 = z := ⟨_, rfl⟩
  have Rb2 := hide hb2
  have HR : Hid (r = (a2, b2, c2, d2)) := by
    show r = (a2, b2, c2, d2)
    rw [hr]
    simp only [qr, ← ha1, ← hx1, hd1, ← hc1, ← hx2, hb1, ← ha2, ← hx3, hd2, ← hc2, ← hx4, hb2]
  clear hr ha1 hx1 hd1 hc1 hx2 hb1 ha2 hx3 hd2 hc2 hx4 hb2
  have la := u32_lt a
  have lb := u32_lt b
  have lc := u32_lt c
  have ld := u32_lt d
  have la1 := u32_lt a1
  have lx1 := u32_lt x1
  have ld1 := u32_lt d1
  have lc1 := u32_lt c1
  have lx2 := u32_lt x2
  have lb1 := u32_lt b1
  have la2 := u32_lt a2
  have lx3 := u32_lt x3
  have ld2 := u32_lt d2
  have lc2 := u32_lt c2
  have lx4 := u32_lt x4
  have lb2 := u32_lt b2
  go_enter Tryd.func63, Tryd.ntmps63
  go_wp2_with fail
  go_at_call 65
  refine (left16 x1 d1 Rd1.out _).mono ?_
  rintro e w1 ⟨rfl, rfl⟩
  go_wp2_with fail
  go_at_call 65
  refine (left12 x2 b1 Rb1.out _).mono ?_
  rintro e w1 ⟨rfl, rfl⟩
  go_wp2_with fail
  go_at_call 65
  refine (left8 x3 d2 Rd2.out _).mono ?_
  rintro e w1 ⟨rfl, rfl⟩
  go_wp2_with fail
  go_at_call 65
  refine (left7 x4 b2 Rb2.out _).mono ?_
  rintro e w1 ⟨rfl, rfl⟩
  go_wp2_with fail
  refine bodyPost_ret (results_tmp4 rfl _ _ _) rfl ?_
  obtain rfl := HR.out
  exact ⟨rfl, rfl⟩

#print axioms rround_any
end Go.Proofs.YtlfcejfpdgdnkaaDoor

/- Sixteen words in a row: what they read as, what one store turns, what a double round and its way back make of them. No program is named here; no conditions but those that each line states. -/
namespace Go.Proofs.YtlfcejfpdgdnkaaDoor
open Go.RowKit
set_option maxRecDepth 20000

/-- Words by their places. -/
abbrev Ws := Nat → BitVec 32

def arrL (xs : Ws) : List Value := (List.range 16).map fun j => Value.int .u32 ((xs j).toNat : Int)
def arrV (xs : Ws) : Array Value := (arrL xs).toArray

def upd (xs : Ws) (k : Nat) (v : BitVec 32) : Ws := fun j => if j = k then v else xs j

theorem arrL_length (xs : Ws) : (arrL xs).length = 16 := by simp [arrL]
theorem arrV_size (xs : Ws) : (arrV xs).size = 16 := by simp [arrV, arrL]
theorem arrV_get (xs : Ws) (j : Nat) (h : j < 16) : (arrV xs)[j]? = some (.int .u32 ((xs j).toNat : Int)) := by simp [arrV, arrL, h]
theorem arrV_one (xs : Ws) : (arrV xs).all (·.oneCell') = true := by
  refine all_oneCell_toArray fun v hv => ?_
  obtain ⟨j, _, rfl⟩ := List.mem_map.1 hv
  rfl
theorem arrV_set (xs : Ws) (k : Nat) (v : BitVec 32) : (arrV xs).setIfInBounds k (.int .u32 (v.toNat : Int)) = arrV (upd xs k v) := by
  apply Array.ext_getElem?
  intro j
  rcases Nat.lt_or_ge j 16 with h | h
  · rw [arrV_get _ _ h, Array.getElem?_setIfInBounds]
    by_cases e : k = j
    · subst e
      simp [arrV_size, h, upd]
    · rw [if_neg e, arrV_get _ _ h]
      simp [upd, Ne.symm e]
  · rw [Array.getElem?_eq_none (by simp [arrV_size]; omega), Array.getElem?_eq_none (by simp [arrV_size]; omega)]

/-- Block g is a row of sixteen words. -/
def ArrU (E : TypeId) (w : World) (g : Nat) (xs : Ws) : Prop := w.heap[g]? = some (.cells (arrV xs) E (0, 0))

theorem ArrU.lt {E : TypeId} {w : World} {g : Nat} {xs : Ws} (h : ArrU E w g xs) : g < w.heap.size := (Array.getElem?_eq_some_iff.1 h).1
theorem ArrU.cell {E : TypeId} {w : World} {g : Nat} {xs : Ws} (h : ArrU E w g xs) (j : Nat) (hj : j < 16) : w.cell? ⟨g, j, none⟩ = some (.int .u32 ((xs j).toNat : Int)) := by
  rw [cell_of_row w g j _ _ _ h, arrV_get xs j hj]
theorem ArrU.frozen {E : TypeId} {w : World} {g : Nat} {xs : Ws} (h : ArrU E w g xs) (j : Nat) : w.frozen? ⟨g, j, none⟩ = false := frozen_of_row w g j _ _ h
theorem ArrU.set {E : TypeId} {w : World} {g : Nat} {xs : Ws} (h : ArrU E w g xs) (k : Nat) (v : BitVec 32) : ArrU E (w.setCell ⟨g, k, none⟩ (.int .u32 (v.toNat : Int))) g (upd xs k v) := by
  unfold ArrU
  rw [heap_setCell_same w g k _ _ _ h, arrV_set]
theorem ArrU.setRow {E : TypeId} {w : World} {g : Nat} {xs : Ws} (h : ArrU E w g xs) (ys : Ws) : ArrU E (w.setRow g (arrV ys)) g ys := setRow_heap w g _ _ _ _ h
theorem ArrU.below {E : TypeId} {w w' : World} {g B : Nat} {xs : Ws} (h : ArrU E w g xs) (hb : Below B w w') (hB : g < B) : ArrU E w' g xs := by
  unfold ArrU at h ⊢
  rw [hb.block g hB]; exact h
theorem ArrU.other {E : TypeId} {w w' : World} {g : Nat} {xs : Ws} (h : ArrU E w g xs) (hb : w'.heap[g]? = w.heap[g]?) : ArrU E w' g xs := by
  unfold ArrU at h ⊢
  rw [hb]; exact h

theorem Below.setRow {B : Nat} {a w : World} (h : Below B a w) {g : Nat} (hg : B ≤ g) (cs : Array Value) : Below B a (w.setRow g cs) :=
  h.trans ⟨rfl, rfl, rfl, by simp, fun k hk => setRow_other w g k cs (by omega)⟩

/-! ### The places -/
def plT : List (List Nat) := [[0, 4, 8, 12], [1, 5, 9, 13], [2, 6, 10, 14], [3, 7, 11, 15], [0, 5, 10, 15], [1, 6, 11, 12], [2, 7, 8, 13], [3, 4, 9, 14]]
def pl (i j : Nat) : Nat := (plT.getD i []).getD j 0

theorem pl_ok (i : Nat) (h : i < 8) : (pl i 0 < 16 ∧ pl i 1 < 16 ∧ pl i 2 < 16 ∧ pl i 3 < 16) ∧
    pl i 0 ≠ pl i 1 ∧ pl i 0 ≠ pl i 2 ∧ pl i 0 ≠ pl i 3 ∧ pl i 1 ≠ pl i 2 ∧ pl i 1 ≠ pl i 3 ∧ pl i 2 ≠ pl i 3 := by
  have : ∀ i, i < 8 → (pl i 0 < 16 ∧ pl i 1 < 16 ∧ pl i 2 < 16 ∧ pl i 3 < 16) ∧
    pl i 0 ≠ pl i 1 ∧ pl i 0 ≠ pl i 2 ∧ pl i 0 ≠ pl i 3 ∧ pl i 1 ≠ pl i 2 ∧ pl i 1 ≠ pl i 3 ∧ pl i 2 ≠ pl i 3 := by decide
  exact this i h

/-- Four words into their places. -/
def put4 (xs : Ws) (a b c d : Nat) (r : W4) : Ws := upd (upd (upd (upd xs a r.1) b r.2.1) c r.2.2.1) d r.2.2.2
def qstep (xs : Ws) (a b c d : Nat) : Ws := put4 xs a b c d (qr (xs a) (xs b) (xs c) (xs d))
def ustep (xs : Ws) (a b c d : Nat) : Ws := put4 xs a b c d (uq (xs a) (xs b) (xs c) (xs d))

theorem put4_read (xs : Ws) (a b c d : Nat) (r : W4) (h1 : a ≠ b) (h2 : a ≠ c) (h3 : a ≠ d) (h4 : b ≠ c) (h5 : b ≠ d) (h6 : c ≠ d) :
    put4 xs a b c d r a = r.1 ∧ put4 xs a b c d r b = r.2.1 ∧ put4 xs a b c d r c = r.2.2.1 ∧ put4 xs a b c d r d = r.2.2.2 := by
  simp [put4, upd, h1, h2, h3, h4, h5, h6]
theorem put4_put4 (xs : Ws) (a b c d : Nat) (r s : W4) : put4 (put4 xs a b c d r) a b c d s = put4 xs a b c d s := by
  funext j
  simp only [put4, upd]
  by_cases e4 : j = d <;> by_cases e3 : j = c <;> by_cases e2 : j = b <;> by_cases e1 : j = a <;> simp [e1, e2, e3, e4]
theorem put4_own (xs : Ws) (a b c d : Nat) : put4 xs a b c d (xs a, xs b, xs c, xs d) = xs := by
  funext j
  simp only [put4, upd]
  by_cases e4 : j = d
  · simp [e4]
  · by_cases e3 : j = c
    · rw [if_neg e4]; simp [e3]
    · by_cases e2 : j = b
      · rw [if_neg e4, if_neg e3]; simp [e2]
      · rw [if_neg e4, if_neg e3, if_neg e2]
        by_cases e1 : j = a
        · simp [e1]
        · rw [if_neg e1]

theorem ustep_qstep (xs : Ws) (a b c d : Nat) (h1 : a ≠ b) (h2 : a ≠ c) (h3 : a ≠ d) (h4 : b ≠ c) (h5 : b ≠ d) (h6 : c ≠ d) : ustep (qstep xs a b c d) a b c d = xs := by
  unfold ustep qstep
  obtain ⟨e1, e2, e3, e4⟩ := put4_read xs a b c d (qr (xs a) (xs b) (xs c) (xs d)) h1 h2 h3 h4 h5 h6
  rw [e1, e2, e3, e4, uq_qr, put4_put4, put4_own]
theorem qstep_ustep (xs : Ws) (a b c d : Nat) (h1 : a ≠ b) (h2 : a ≠ c) (h3 : a ≠ d) (h4 : b ≠ c) (h5 : b ≠ d) (h6 : c ≠ d) : qstep (ustep xs a b c d) a b c d = xs := by
  unfold ustep qstep
  obtain ⟨e1, e2, e3, e4⟩ := put4_read xs a b c d (uq (xs a) (xs b) (xs c) (xs d)) h1 h2 h3 h4 h5 h6
  rw [e1, e2, e3, e4, qr_uq, put4_put4, put4_own]

def dblN (xs : Ws) : Nat → Ws
  | 0 => xs
  | i + 1 => qstep (dblN xs i) (pl i 0) (pl i 1) (pl i 2) (pl i 3)
def bckF : Nat → Ws → Ws
  | 0, xs => xs
  | i + 1, xs => bckF i (ustep xs (pl i 0) (pl i 1) (pl i 2) (pl i 3))
/-- The double round, and its way back. -/
def dbl (xs : Ws) : Ws := dblN xs 8
def bck (xs : Ws) : Ws := bckF 8 xs

theorem bckF_dblN (xs : Ws) : ∀ i, i ≤ 8 → bckF i (dblN xs i) = xs
  | 0, _ => rfl
  | i + 1, h => by
    obtain ⟨_, h1, h2, h3, h4, h5, h6⟩ := pl_ok i (by omega)
    rw [dblN, bckF, ustep_qstep _ _ _ _ _ h1 h2 h3 h4 h5 h6, bckF_dblN xs i (by omega)]
theorem dblN_bckF : ∀ (i : Nat) (xs : Ws), i ≤ 8 → dblN (bckF i xs) i = xs
  | 0, _, _ => rfl
  | i + 1, xs, h => by
    obtain ⟨_, h1, h2, h3, h4, h5, h6⟩ := pl_ok i (by omega)
    rw [dblN, bckF, dblN_bckF i _ (by omega), qstep_ustep _ _ _ _ _ h1 h2 h3 h4 h5 h6]
theorem bck_dbl (xs : Ws) : bck (dbl xs) = xs := bckF_dblN xs 8 (Nat.le_refl _)
theorem dbl_bck (xs : Ws) : dbl (bck xs) = xs := dblN_bckF 8 xs (Nat.le_refl _)

#print axioms dbl_bck
end Go.Proofs.YtlfcejfpdgdnkaaDoor

/- What a call of quar.Double does: for every sixteen words; nothing that was there is turned. -/
namespace Go.Proofs.YtlfcejfpdgdnkaaDoor
open Go.RowKit
set_option maxRecDepth 20000

/-- What quar.rounds reads as, cell by cell. -/
def rdL : List Value := (plT.map fun r => r.map fun (n : Nat) => Value.int .i64 (n : Int)).flatten
def Glob (w : World) : Prop := w.rangeAt 1 0 rdL

theorem Glob.lt {w : World} (h : Glob w) : 1 < w.heap.size := World.block_lt_of_cell? w _ (h 0 (.int .i64 0) rfl)
theorem Glob.below {w w' : World} {B : Nat} (h : Glob w) (hb : Below B w w') (hB : 1 < B) : Glob w' := fun j v hv => by
  rw [hb.cell (p := ⟨1, 0 + j, none⟩) hB]; exact h j v hv

theorem index_rd (i : Nat) (hi : i < 8) (w : World) : (Instr.index 100 (.agg rdL.toArray) (.int .i64 (i : Int))).run Tryd.prog w = .ok (.agg #[.int .i64 (pl i 0 : Nat), .int .i64 (pl i 1 : Nat), .int .i64 (pl i 2 : Nat), .int .i64 (pl i 3 : Nat)]) w := by
  rcases i with _ | _ | _ | _ | _ | _ | _ | _ | i
  all_goals first | (exfalso; omega) | rfl

theorem info16 : (Tryd.prog.info? 90).map (·.size) = some 16 := by kernel_rfl
theorem info32 : (Tryd.prog.info? 100).map (·.size) = some 32 := by kernel_rfl

/-- Four places in block g. -/
structure PC (w : World) (g k0 k1 k2 k3 : Nat) : Prop where
  c0 : w.cell? ⟨g, 0, none⟩ = some (.int .i64 (k0 : Int))
  c1 : w.cell? ⟨g, 1, none⟩ = some (.int .i64 (k1 : Int))
  c2 : w.cell? ⟨g, 2, none⟩ = some (.int .i64 (k2 : Int))
  c3 : w.cell? ⟨g, 3, none⟩ = some (.int .i64 (k3 : Int))
/-- Four words of block g. -/
structure SC (w : World) (g : Nat) (ys : Ws) (k0 k1 k2 k3 : Nat) : Prop where
  s0 : w.cell? ⟨g, k0, none⟩ = some (.int .u32 ((ys k0).toNat : Int))
  s1 : w.cell? ⟨g, k1, none⟩ = some (.int .u32 ((ys k1).toNat : Int))
  s2 : w.cell? ⟨g, k2, none⟩ = some (.int .u32 ((ys k2).toNat : Int))
  s3 : w.cell? ⟨g, k3, none⟩ = some (.int .u32 ((ys k3).toNat : Int))
theorem PC.of_row {w : World} {g k0 k1 k2 k3 : Nat} {E : TypeId} (h : w.heap[g]? = some (.cells #[.int .i64 (k0 : Int), .int .i64 (k1 : Int), .int .i64 (k2 : Int), .int .i64 (k3 : Int)] E (0, 0))) : PC w g k0 k1 k2 k3 :=
  ⟨cell_of_row w g 0 _ _ _ h, cell_of_row w g 1 _ _ _ h, cell_of_row w g 2 _ _ _ h, cell_of_row w g 3 _ _ _ h⟩
theorem PC.other {w w' : World} {g k0 k1 k2 k3 : Nat} (h : PC w g k0 k1 k2 k3) (hb : w'.heap[g]? = w.heap[g]?) : PC w' g k0 k1 k2 k3 :=
  ⟨(World.cell?_of_block (w := w) hb).trans h.c0, (World.cell?_of_block (w := w) hb).trans h.c1, (World.cell?_of_block (w := w) hb).trans h.c2, (World.cell?_of_block (w := w) hb).trans h.c3⟩
theorem ArrU.sc {E : TypeId} {w : World} {g : Nat} {ys : Ws} (h : ArrU E w g ys) (k0 k1 k2 k3 : Nat) (h0 : k0 < 16) (h1 : k1 < 16) (h2 : k2 < 16) (h3 : k3 < 16) : SC w g ys k0 k1 k2 k3 :=
  ⟨h.cell k0 h0, h.cell k1 h1, h.cell k2 h2, h.cell k3 h3⟩

/-- A round's state: the words at gs, the noughts behind them, the places at gp. -/
structure RS (E : TypeId) (w W : World) (gp : Nat) (ys : Ws) (k0 k1 k2 k3 : Nat) : Prop where
  arr : ArrU E W w.heap.size ys
  out : ArrU E W (w.heap.size + 1) (fun _ => 0)
  bel : Below w.heap.size w W
  pc : PC W gp k0 k1 k2 k3
  far : w.heap.size + 1 < gp
theorem RS.drew {E : TypeId} {w W : World} {gp : Nat} {ys : Ws} {k0 k1 k2 k3 : Nat} (h : RS E w W gp ys k0 k1 k2 k3) : RS E w W.drew gp ys k0 k1 k2 k3 :=
  ⟨h.arr, h.out, h.bel.drew, ⟨h.pc.c0, h.pc.c1, h.pc.c2, h.pc.c3⟩, h.far⟩
theorem RS.set {E : TypeId} {w W : World} {gp : Nat} {ys : Ws} {k0 k1 k2 k3 : Nat} (h : RS E w W gp ys k0 k1 k2 k3) (k : Nat) (v : BitVec 32) :
    RS E w (W.setCell ⟨w.heap.size, k, none⟩ (.int .u32 (v.toNat : Int))) gp (upd ys k v) k0 k1 k2 k3 :=
  ⟨h.arr.set k v, h.out.other (heap_setCell_other W _ _ _ (by simp)), h.bel.setCell (Nat.le_refl _) _, h.pc.other (heap_setCell_other W _ _ _ (by have := h.far; simp; omega)), h.far⟩

theorem double_any (xs : Ws) (w : World) (hg : Glob w) : Calls Tryd.prog 61 #[.agg (arrV xs)] w fun e w' => e = .returned (.agg (arrV (dbl xs))) ∧ Below w.heap.size w w' := by
  have hl := hg.lt
  go_enter Tryd.func61, Tryd.ntmps61
  go_wp2_with (refine wpList_load_mid rfl _ _ rfl 1 0 rfl rdL _ (World.rangeAt_alloc (World.rangeAt_alloc hg _) _) Tryd.underlying100 rfl (by rw [info32]; rfl) ?_)
  go_loopw [6] (fun i wr => ∃ k : Nat, k ≤ 8 ∧ i = .int .i64 k ∧ ArrU 90 wr w.heap.size (dblN xs k) ∧ ArrU 90 wr (w.heap.size + 1) (fun _ => 0) ∧ Below w.heap.size w wr) (fun i _ => 8 - (intOf i).toNat)
  case atStart => exact ⟨0, Nat.zero_le _, rfl, heap_alloc2_old w _ _, heap_alloc2_new w _ _, ((Below.refl _ _).alloc (Nat.le_refl _) _).alloc (by simp) _⟩
  case round =>
    obtain ⟨k, hk, rfl, ha, hz, hb⟩ := hrel
    have hsz : w.heap.size + 1 < wr.heap.size := hz.lt
    by_cases hlt : k < 8
    · have hI := index_rd k hlt
      obtain ⟨⟨l0, l1, l2, l3⟩, n01, n02, n03, n12, n13, n23⟩ := pl_ok k hlt
      have HD : Hid (dblN xs (k + 1) = qstep (dblN xs k) (pl k 0) (pl k 1) (pl k 2) (pl k 3)) := rfl
      generalize pl k 0 = k0 at *
      generalize pl k 1 = k1 at *
      generalize pl k 2 = k2 at *
      generalize pl k 3 = k3 at *
      generalize dblN xs k = ys at *
      go_wp2
      have haW : ArrU 90 (wr.alloc (Obj.cells #[Value.int IntKind.i64 ↑k0, Value.int IntKind.i64 ↑k1, Value.int IntKind.i64 ↑k2, Value.int IntKind.i64 ↑k3] 99)) w.heap.size ys := ha.other (Below.heap_alloc wr _ _ ha.lt)
      have hzW : ArrU 90 (wr.alloc (Obj.cells #[Value.int IntKind.i64 ↑k0, Value.int IntKind.i64 ↑k1, Value.int IntKind.i64 ↑k2, Value.int IntKind.i64 ↑k3] 99)) (w.heap.size + 1) (fun _ => 0) := hz.other (Below.heap_alloc wr _ _ hz.lt)
      have hbW : Below w.heap.size w (wr.alloc (Obj.cells #[Value.int IntKind.i64 ↑k0, Value.int IntKind.i64 ↑k1, Value.int IntKind.i64 ↑k2, Value.int IntKind.i64 ↑k3] 99)) := hb.alloc (by omega) _
      have hpW := heap_alloc_new wr (Obj.cells #[Value.int IntKind.i64 ↑k0, Value.int IntKind.i64 ↑k1, Value.int IntKind.i64 ↑k2, Value.int IntKind.i64 ↑k3] 99)
      generalize (wr.alloc (Obj.cells #[Value.int IntKind.i64 ↑k0, Value.int IntKind.i64 ↑k1, Value.int IntKind.i64 ↑k2, Value.int IntKind.i64 ↑k3] 99)) = W at *
      generalize wr.heap.size = gp at *
      have hS : RS 90 w W gp ys k0 k1 k2 k3 := ⟨haW, hzW, hbW, PC.of_row hpW, hsz⟩
      have i0 : (k0 : Int) < 16 := by omega
      have i1 : (k1 : Int) < 16 := by omega
      have i2 : (k2 : Int) < 16 := by omega
      have i3 : (k3 : Int) < 16 := by omega
      obtain ⟨r, hr⟩ : ∃ r, Hid (r = qr (ys k0) (ys k1) (ys k2) (ys k3)) := ⟨_, rfl⟩
      clear ha hz hb hI haW hzW hbW hpW
      refine wp_region_ord 24 [0, 1, 2, 3, 4, 5, 6, 7, 8, 9, 10, 11, 12, 13, 14, 15, 16, 17, 18, 19, 20, 21, 22, 23, 24, 25, 26, 27, 28, 29, 30, 31, 32, 33, 34, 35, 36, 37]
        (fun w' => PC w' gp k0 k1 k2 k3) (fun w' => SC w' w.heap.size ys k0 k1 k2 k3)
        (by kernel_rfl) (by kernel_rfl) (by kernel_rfl) hS.drew.pc (hS.drew.arr.sc k0 k1 k2 k3 l0 l1 l2 l3) (fun _ _ => ?_)
      have hS1 := hS.drew
      generalize W.drew = W1 at *
      clear hS
      repeat' (first
        | (refine wpOrd_quiet (v := ?_) rfl rfl (fun _ _ _ h => h) (by rfl) ?_ ?_
           rotate_left
           · (intro w' hT' _; obtain ⟨p0, p1, p2, p3⟩ := hT'; go_simp; try rfl)
           simp only [Act.put, List.setIfInBounds_toArray, List.set_cons_zero, List.set_cons_succ])
        | (refine wpOrd_early (v := ?_) rfl rfl (by kernel_rfl) (fun _ _ _ h => h) (by rfl) ?_ ?_
           rotate_left
           · (intro w' _ hU'; obtain ⟨p0, p1, p2, p3⟩ := hU'; go_simp; try rfl)
           simp only [Act.put, List.setIfInBounds_toArray, List.set_cons_zero, List.set_cons_succ]))
      refine wpOrd_step rfl rfl (by rfl) (fun K' hK => ?_)
      go_simp
      refine (round_any _ _ _ _ r hr.out _).mono ?_
      rintro e w1 ⟨rfl, rfl⟩
      refine hK.out _ _ hS1.pc (fun h => absurd h (by decide)) (fun _ => ?_)
      clear hK K'
      try simp only [Act.put, List.setIfInBounds_toArray, List.set_cons_zero, List.set_cons_succ]
      repeat' (refine wpOrd_quiet (v := ?_) rfl rfl (fun _ _ _ h => h) (by rfl) ?_ ?_
               rotate_left
               · (intro w' _ _; go_simp; try rfl)
               simp only [Act.put, List.setIfInBounds_toArray, List.set_cons_zero, List.set_cons_succ])
      have f1 := hS1.arr.cell k0 l0
      have z1 := hS1.arr.frozen k0
      have hS2 := hS1.set k0 r.1
      refine wpOrd_step rfl rfl (by rfl) (fun K' hK => ?_)
      go_simp
      refine hK.out _ _ hS2.pc (fun h => absurd h (by decide)) (fun _ => ?_)
      clear hK K' f1 z1 hS1
      generalize W1.setCell ⟨w.heap.size, k0, none⟩ (.int .u32 (r.1.toNat : Int)) = W2 at *
      try simp only [Act.put, List.setIfInBounds_toArray, List.set_cons_zero, List.set_cons_succ]
      repeat' (refine wpOrd_quiet (v := ?_) rfl rfl (fun _ _ _ h => h) (by rfl) ?_ ?_
               rotate_left
               · (intro w' _ _; go_simp; try rfl)
               simp only [Act.put, List.setIfInBounds_toArray, List.set_cons_zero, List.set_cons_succ])
      have f2 := hS2.arr.cell k1 l1
      have z2 := hS2.arr.frozen k1
      have hS3 := hS2.set k1 r.2.1
      refine wpOrd_step rfl rfl (by rfl) (fun K' hK => ?_)
      go_simp
      refine hK.out _ _ hS3.pc (fun h => absurd h (by decide)) (fun _ => ?_)
      clear hK K' f2 z2 hS2
      generalize W2.setCell ⟨w.heap.size, k1, none⟩ (.int .u32 (r.2.1.toNat : Int)) = W3 at *
      try simp only [Act.put, List.setIfInBounds_toArray, List.set_cons_zero, List.set_cons_succ]
      repeat' (refine wpOrd_quiet (v := ?_) rfl rfl (fun _ _ _ h => h) (by rfl) ?_ ?_
               rotate_left
               · (intro w' _ _; go_simp; try rfl)
               simp only [Act.put, List.setIfInBounds_toArray, List.set_cons_zero, List.set_cons_succ])
      have f3 := hS3.arr.cell k2 l2
      have z3 := hS3.arr.frozen k2
      have hS4 := hS3.set k2 r.2.2.1
      refine wpOrd_step rfl rfl (by rfl) (fun K' hK => ?_)
      go_simp
      refine hK.out _ _ hS4.pc (fun h => absurd h (by decide)) (fun _ => ?_)
      clear hK K' f3 z3 hS3
      generalize W3.setCell ⟨w.heap.size, k2, none⟩ (.int .u32 (r.2.2.1.toNat : Int)) = W4 at *
      try simp only [Act.put, List.setIfInBounds_toArray, List.set_cons_zero, List.set_cons_succ]
      repeat' (refine wpOrd_quiet (v := ?_) rfl rfl (fun _ _ _ h => h) (by rfl) ?_ ?_
               rotate_left
               · (intro w' _ _; go_simp; try rfl)
               simp only [Act.put, List.setIfInBounds_toArray, List.set_cons_zero, List.set_cons_succ])
      have f4 := hS4.arr.cell k3 l3
      have z4 := hS4.arr.frozen k3
      have hS5 := hS4.set k3 r.2.2.2
      refine wpOrd_step rfl rfl (by rfl) (fun K' hK => ?_)
      go_simp
      refine hK.out _ _ hS5.pc (fun h => absurd h (by decide)) (fun _ => ?_)
      clear hK K' f4 z4 hS4
      generalize W4.setCell ⟨w.heap.size, k3, none⟩ (.int .u32 (r.2.2.2.toNat : Int)) = W5 at *
      try simp only [Act.put, List.setIfInBounds_toArray, List.set_cons_zero, List.set_cons_succ]
      refine wpOrd_nil ?_
      go_wp2
      go_roundw
      case rel => exact ⟨k + 1, by omega, by go_num, by rw [HD.out, qstep, ← hr.out]; exact hS5.arr, hS5.out, hS5.bel⟩
      case measure => simp [intOf]; omega
    · have hk' : k = 8 := by omega
      subst hk'
      go_wp2_with (first
        | (refine wpList_load_row rfl _ _ rfl _ rfl _ _ _ _ ha Tryd.underlying90 rfl (by rw [arrV_size, info16]) ?_)
        | (refine wpList_store_row rfl _ _ _ rfl _ _ rfl rfl _ _ hz (by rw [arrV_size, info16]) (by rw [arrV_size, arrV_size]) (arrV_one _) ?_))
      refine bodyPost_ret (results_cell_row rfl _ _ _ _ _ _ _ rfl (hz.setRow _) Tryd.underlying90 rfl (by rw [arrV_size, info16])) rfl ?_
      exact ⟨rfl, Below.setRow hb (by omega) _⟩

#print axioms double_any
end Go.Proofs.YtlfcejfpdgdnkaaDoor

/- What one row of quar.rounds reads as. No conditions but those that each line states. -/
namespace Go.Proofs.YtlfcejfpdgdnkaaDoor
open Go.RowKit
set_option maxRecDepth 20000

theorem rd_at {w : World} {g : Nat} (h : w.rangeAt g 0 rdL) (i : Nat) (hi : i < 8) : w.rangeAt g (i * 4) [.int .i64 (pl i 0 : Nat), .int .i64 (pl i 1 : Nat), .int .i64 (pl i 2 : Nat), .int .i64 (pl i 3 : Nat)] := by
  have key : ∀ i, i < 8 → ∀ j, j < 4 → rdL[i * 4 + j]? = [Value.int .i64 (pl i 0 : Nat), .int .i64 (pl i 1 : Nat), .int .i64 (pl i 2 : Nat), .int .i64 (pl i 3 : Nat)][j]? := by
    intro i hi j hj
    rcases i with _ | _ | _ | _ | _ | _ | _ | _ | i
    all_goals first | (exfalso; omega) | (rcases j with _ | _ | _ | _ | j <;> first | (exfalso; omega) | rfl)
  intro j v hv
  have hj : j < 4 := by
    have := (List.getElem?_eq_some_iff.1 hv).1
    simpa using this
  have := h (i * 4 + j) v (by rw [key i hi j hj]; exact hv)
  rwa [Nat.zero_add] at this
theorem info4 : (Tryd.prog.info? 99).map (·.size) = some 4 := by kernel_rfl
#print axioms rd_at
end Go.Proofs.YtlfcejfpdgdnkaaDoor

/- What calls of dumbwaiterref1's quarters and Double do: for every sixteen words; nothing that was there is turned. -/
namespace Go.Proofs.YtlfcejfpdgdnkaaDoor
open Go.RowKit
set_option maxRecDepth 20000

theorem wpList_build_is {P : Program} {ops : Array Oper} {rest : List Oper} {o : Oper} {a : Act} {w : World} {Q : Exit → Act → World → Prop} (hg : o.guard = none) (t : TypeId) (parts : Array (Nat × Operand)) (ho : o.op = .build t parts)
    (cells : Array Value) (hf : P.built t (parts.map fun (i, x) => (i, a.eval x)).toList = some cells)
    (h : wpList P ops Q rest (a.put o.dst (.agg cells)) w) : wpList P ops Q (o :: rest) a w := by
  refine wpList_build hg t parts ho (by rw [hf]; rfl) ?_
  rw [hf]
  exact h

theorem rdL_one : rdL.toArray.all (·.oneCell') = true := by kernel_rfl
theorem rdL_size : rdL.toArray.size = 32 := rfl

theorem quarters_any (w : World) : Calls Tryd.prog 62 #[] w fun e w' => e = .returned (.agg rdL.toArray) ∧ Below w.heap.size w w' := by
  go_enter Tryd.func62, Tryd.ntmps62
  go_wp2_with (first
    | (refine wpList_build_is rfl 100 _ rfl rdL.toArray (by kernel_rfl) ?_)
    | (refine wpList_store_row rfl 100 _ _ rfl _ _ rfl rfl _ _ (heap_alloc_new w _) (by rw [rdL_size, info32]) rfl rdL_one ?_))
  refine bodyPost_ret (results_cell_row rfl _ _ _ _ _ _ _ rfl (setRow_heap _ _ _ _ _ _ (heap_alloc_new w _)) Tryd.underlying100 rfl (by rw [rdL_size, info32])) rfl ?_
  exact ⟨rfl, Below.setRow ((Below.refl _ _).alloc (Nat.le_refl _) _) (Nat.le_refl _) _⟩

theorem rangeAt_row {w : World} {g : Nat} {l : List Value} {E : TypeId} {fr : Nat × Nat} (h : w.heap[g]? = some (.cells l.toArray E fr)) : w.rangeAt g 0 l := fun j v hv => by
  rw [Nat.zero_add, cell_of_row w g j _ _ _ h]
  simpa using hv
theorem rangeAt_other {w w' : World} {g o : Nat} {l : List Value} (h : w.rangeAt g o l) (hb : w'.heap[g]? = w.heap[g]?) : w'.rangeAt g o l := fun j v hv => (World.cell?_of_block (w := w) hb).trans (h j v hv)

set_option maxHeartbeats 1000000 in
theorem rdouble_any (xs : Ws) (w : World) : Calls Tryd.prog 59 #[.agg (arrV xs)] w fun e w' => e = .returned (.agg (arrV (dbl xs))) ∧ Below w.heap.size w w' := by
  go_enter Tryd.func59, Tryd.ntmps59
  go_wp2_with fail
  have ha0 : ArrU 90 ((w.alloc (Obj.cells (arrV xs) 90)).alloc (Obj.cells (arrV (fun _ => 0)) 90)) w.heap.size xs := heap_alloc2_old w _ _
  have hz0 : ArrU 90 ((w.alloc (Obj.cells (arrV xs) 90)).alloc (Obj.cells (arrV (fun _ => 0)) 90)) (w.heap.size + 1) (fun _ => 0) := heap_alloc2_new w _ _
  have hb0 : Below w.heap.size w ((w.alloc (Obj.cells (arrV xs) 90)).alloc (Obj.cells (arrV (fun _ => 0)) 90)) := ((Below.refl _ _).alloc (Nat.le_refl _) _).alloc (by simp) _
  refine (quarters_any _).mono ?_
  rintro e w1 ⟨rfl, hb1⟩
  have ha1 := ha0.below hb1 ha0.lt
  have hz1 := hz0.below hb1 hz0.lt
  have hbw1 := hb0.trans (hb1.mono hb0.size)
  have hs1 : w.heap.size + 1 < w1.heap.size := hz1.lt
  clear ha0 hz0 hb0 hb1
  go_wp2_with (refine wpList_store_row rfl 100 _ _ rfl _ _ rfl rfl _ _ (heap_alloc_new w1 _) (by rw [rdL_size, info32]) rfl rdL_one ?_)
  go_loopw [4] (fun i wr => ∃ k : Nat, k ≤ 8 ∧ i = .int .i64 k ∧ ArrU 90 wr w.heap.size (dblN xs k) ∧ ArrU 90 wr (w.heap.size + 1) (fun _ => 0) ∧ Below w.heap.size w wr ∧ wr.rangeAt w1.heap.size 0 rdL) (fun i _ => 8 - (intOf i).toNat)
  case atStart => exact ⟨0, Nat.zero_le _, rfl, ha1.other ((setRow_other _ _ _ _ (by omega)).trans (Below.heap_alloc w1 _ _ ha1.lt)), hz1.other ((setRow_other _ _ _ _ (by omega)).trans (Below.heap_alloc w1 _ _ hz1.lt)), Below.setRow (hbw1.alloc (by omega) _) (by omega) _, rangeAt_row (setRow_heap _ _ _ _ _ _ (heap_alloc_new w1 _))⟩
  case round =>
    obtain ⟨k, hk, rfl, ha, hz, hb, hq⟩ := hrel
    have hgq : w1.heap.size < wr.heap.size := World.block_lt_of_cell? wr _ (hq 0 (.int .i64 0) rfl)
    have hsz : w.heap.size + 1 < wr.heap.size := hz.lt
    generalize w1.heap.size = gq at *
    clear ha1 hz1 hbw1
    by_cases hlt : k < 8
    · have hat := rd_at hq k hlt
      obtain ⟨⟨l0, l1, l2, l3⟩, n01, n02, n03, n12, n13, n23⟩ := pl_ok k hlt
      have HD : Hid (dblN xs (k + 1) = qstep (dblN xs k) (pl k 0) (pl k 1) (pl k 2) (pl k 3)) := rfl
      have hj8 : (k : Int) < 8 := by omega
      generalize pl k 0 = k0 at *
      generalize pl k 1 = k1 at *
      generalize pl k 2 = k2 at *
      generalize pl k 3 = k3 at *
      generalize dblN xs k = ys at *
      go_wp2_with (refine wpList_load_mid rfl _ _ rfl _ _ rfl _ _ hat Tryd.underlying99 rfl (by rw [info4]; rfl) ?_)
      have haW : ArrU 90 (wr.alloc (Obj.cells #[Value.int IntKind.i64 ↑k0, Value.int IntKind.i64 ↑k1, Value.int IntKind.i64 ↑k2, Value.int IntKind.i64 ↑k3] 99)) w.heap.size ys := ha.other (Below.heap_alloc wr _ _ ha.lt)
      have hzW : ArrU 90 (wr.alloc (Obj.cells #[Value.int IntKind.i64 ↑k0, Value.int IntKind.i64 ↑k1, Value.int IntKind.i64 ↑k2, Value.int IntKind.i64 ↑k3] 99)) (w.heap.size + 1) (fun _ => 0) := hz.other (Below.heap_alloc wr _ _ hz.lt)
      have hbW : Below w.heap.size w (wr.alloc (Obj.cells #[Value.int IntKind.i64 ↑k0, Value.int IntKind.i64 ↑k1, Value.int IntKind.i64 ↑k2, Value.int IntKind.i64 ↑k3] 99)) := hb.alloc (by omega) _
      have hpW := heap_alloc_new wr (Obj.cells #[Value.int IntKind.i64 ↑k0, Value.int IntKind.i64 ↑k1, Value.int IntKind.i64 ↑k2, Value.int IntKind.i64 ↑k3] 99)
      have hqW := rangeAt_other hq (Below.heap_alloc wr (Obj.cells #[Value.int IntKind.i64 ↑k0, Value.int IntKind.i64 ↑k1, Value.int IntKind.i64 ↑k2, Value.int IntKind.i64 ↑k3] 99) _ hgq)
      generalize (wr.alloc (Obj.cells #[Value.int IntKind.i64 ↑k0, Value.int IntKind.i64 ↑k1, Value.int IntKind.i64 ↑k2, Value.int IntKind.i64 ↑k3] 99)) = W at *
      generalize wr.heap.size = gp at *
      have hS : RS 90 w W gp ys k0 k1 k2 k3 := ⟨haW, hzW, hbW, PC.of_row hpW, hsz⟩
      have i0 : (k0 : Int) < 16 := by omega
      have i1 : (k1 : Int) < 16 := by omega
      have i2 : (k2 : Int) < 16 := by omega
      have i3 : (k3 : Int) < 16 := by omega
      obtain ⟨r, hr⟩ : ∃ r, Hid (r = qr (ys k0) (ys k1) (ys k2) (ys k3)) := ⟨_, rfl⟩
      clear ha hz hb hat hq hgq haW hzW hbW hpW
      refine wp_region_ord 1000 [0, 1, 2, 3, 4, 5, 6, 7, 8, 9, 10, 11, 12, 13, 14, 15, 16, 17, 18, 19, 20, 21, 22, 23, 24, 25]
        (fun w' => PC w' gp k0 k1 k2 k3 ∧ SC w' w.heap.size ys k0 k1 k2 k3) (fun _ => True)
        (by kernel_rfl) (by kernel_rfl) (by kernel_rfl) ⟨hS.drew.pc, hS.drew.arr.sc k0 k1 k2 k3 l0 l1 l2 l3⟩ trivial (fun hT1 _ => ?_)
      have hS1 := hS.drew
      have hq1 : W.drew.rangeAt gq 0 rdL := hqW
      generalize W.drew = W1 at *
      clear hS hqW
      repeat' (refine wpOrd_quiet (v := ?_) rfl rfl (fun _ _ _ h => h) (by rfl) ?_ ?_
               rotate_left
               · (intro w' hT' _; obtain ⟨⟨p0, p1, p2, p3⟩, ⟨q0, q1, q2, q3⟩⟩ := hT'; go_simp; try rfl)
               simp only [Act.put, List.setIfInBounds_toArray, List.set_cons_zero, List.set_cons_succ])
      refine wpOrd_step rfl rfl (by rfl) (fun K' hK => ?_)
      go_simp
      refine (rround_any _ _ _ _ r hr.out _).mono ?_
      rintro e w2 ⟨rfl, rfl⟩
      refine hK.out _ _ hT1 (fun h => absurd h (by decide)) (fun _ => ?_)
      clear hK K'
      try simp only [Act.put, List.setIfInBounds_toArray, List.set_cons_zero, List.set_cons_succ]
      repeat' (refine wpOrd_quiet (v := ?_) rfl rfl (fun _ _ _ h => h) (by rfl) ?_ ?_
               rotate_left
               · (intro w' hT' _; obtain ⟨⟨p0, p1, p2, p3⟩, ⟨q0, q1, q2, q3⟩⟩ := hT'; go_simp; try rfl)
               simp only [Act.put, List.setIfInBounds_toArray, List.set_cons_zero, List.set_cons_succ])
      refine wpOrd_nil ?_
      clear hT1
      go_wp2
      refine wp_region_ord 1000 [0, 1, 2, 3, 4, 5, 6, 7, 8, 9, 10, 11, 12, 13, 14, 15, 16, 17, 18, 19]
        (fun w' => PC w' gp k0 k1 k2 k3) (fun _ => True)
        (by kernel_rfl) (by kernel_rfl) (by kernel_rfl) hS1.drew.pc trivial (fun _ _ => ?_)
      have hS2 := hS1.drew
      have hq2 : W1.drew.rangeAt gq 0 rdL := hq1
      generalize W1.drew = W2 at *
      clear hS1 hq1
      repeat' (refine wpOrd_quiet (v := ?_) rfl rfl (fun _ _ _ h => h) (by rfl) ?_ ?_
               rotate_left
               · (intro w' hT' _; obtain ⟨p0, p1, p2, p3⟩ := hT'; go_simp; try rfl)
               simp only [Act.put, List.setIfInBounds_toArray, List.set_cons_zero, List.set_cons_succ])
      have f2 := hS2.arr.cell k0 l0
      have z2 := hS2.arr.frozen k0
      have hS3 := hS2.set k0 r.1
      have hq3 := rangeAt_other hq2 (heap_setCell_other W2 ⟨w.heap.size, k0, none⟩ gq (.int .u32 (r.1.toNat : Int)) (by simp; omega))
      refine wpOrd_step rfl rfl (by rfl) (fun K' hK => ?_)
      go_simp
      refine hK.out _ _ hS3.pc (fun h => absurd h (by decide)) (fun _ => ?_)
      clear hK K' f2 z2 hS2 hq2
      generalize W2.setCell ⟨w.heap.size, k0, none⟩ (.int .u32 (r.1.toNat : Int)) = W3 at *
      try simp only [Act.put, List.setIfInBounds_toArray, List.set_cons_zero, List.set_cons_succ]
      repeat' (refine wpOrd_quiet (v := ?_) rfl rfl (fun _ _ _ h => h) (by rfl) ?_ ?_
               rotate_left
               · (intro w' hT' _; obtain ⟨p0, p1, p2, p3⟩ := hT'; go_simp; try rfl)
               simp only [Act.put, List.setIfInBounds_toArray, List.set_cons_zero, List.set_cons_succ])
      have f3 := hS3.arr.cell k1 l1
      have z3 := hS3.arr.frozen k1
      have hS4 := hS3.set k1 r.2.1
      have hq4 := rangeAt_other hq3 (heap_setCell_other W3 ⟨w.heap.size, k1, none⟩ gq (.int .u32 (r.2.1.toNat : Int)) (by simp; omega))
      refine wpOrd_step rfl rfl (by rfl) (fun K' hK => ?_)
      go_simp
      refine hK.out _ _ hS4.pc (fun h => absurd h (by decide)) (fun _ => ?_)
      clear hK K' f3 z3 hS3 hq3
      generalize W3.setCell ⟨w.heap.size, k1, none⟩ (.int .u32 (r.2.1.toNat : Int)) = W4 at *
      try simp only [Act.put, List.setIfInBounds_toArray, List.set_cons_zero, List.set_cons_succ]
      repeat' (refine wpOrd_quiet (v := ?_) rfl rfl (fun _ _ _ h => h) (by rfl) ?_ ?_
               rotate_left
               · (intro w' hT' _; obtain ⟨p0, p1, p2, p3⟩ := hT'; go_simp; try rfl)
               simp only [Act.put, List.setIfInBounds_toArray, List.set_cons_zero, List.set_cons_succ])
      have f4 := hS4.arr.cell k2 l2
      have z4 := hS4.arr.frozen k2
      have hS5 := hS4.set k2 r.2.2.1
      have hq5 := rangeAt_other hq4 (heap_setCell_other W4 ⟨w.heap.size, k2, none⟩ gq (.int .u32 (r.2.2.1.toNat : Int)) (by simp; omega))
      refine wpOrd_step rfl rfl (by rfl) (fun K' hK => ?_)
      go_simp
      refine hK.out _ _ hS5.pc (fun h => absurd h (by decide)) (fun _ => ?_)
      clear hK K' f4 z4 hS4 hq4
      generalize W4.setCell ⟨w.heap.size, k2, none⟩ (.int .u32 (r.2.2.1.toNat : Int)) = W5 at *
      try simp only [Act.put, List.setIfInBounds_toArray, List.set_cons_zero, List.set_cons_succ]
      repeat' (refine wpOrd_quiet (v := ?_) rfl rfl (fun _ _ _ h => h) (by rfl) ?_ ?_
               rotate_left
               · (intro w' hT' _; obtain ⟨p0, p1, p2, p3⟩ := hT'; go_simp; try rfl)
               simp only [Act.put, List.setIfInBounds_toArray, List.set_cons_zero, List.set_cons_succ])
      have f5 := hS5.arr.cell k3 l3
      have z5 := hS5.arr.frozen k3
      have hS6 := hS5.set k3 r.2.2.2
      have hq6 := rangeAt_other hq5 (heap_setCell_other W5 ⟨w.heap.size, k3, none⟩ gq (.int .u32 (r.2.2.2.toNat : Int)) (by simp; omega))
      refine wpOrd_step rfl rfl (by rfl) (fun K' hK => ?_)
      go_simp
      refine hK.out _ _ hS6.pc (fun h => absurd h (by decide)) (fun _ => ?_)
      clear hK K' f5 z5 hS5 hq5
      generalize W5.setCell ⟨w.heap.size, k3, none⟩ (.int .u32 (r.2.2.2.toNat : Int)) = W6 at *
      try simp only [Act.put, List.setIfInBounds_toArray, List.set_cons_zero, List.set_cons_succ]
      refine wpOrd_nil ?_
      go_wp2
      go_roundw
      case rel => exact ⟨k + 1, by omega, by go_num, by rw [HD.out, qstep, ← hr.out]; exact hS6.arr, hS6.out, hS6.bel, hq6⟩
      case measure => simp [intOf]; omega
    · have hk' : k = 8 := by omega
      subst hk'
      go_wp2_with (first
        | (refine wpList_load_row rfl _ _ rfl _ rfl _ _ _ _ ha Tryd.underlying90 rfl (by rw [arrV_size, info16]) ?_)
        | (refine wpList_store_row rfl _ _ _ rfl _ _ rfl rfl _ _ hz (by rw [arrV_size, info16]) (by rw [arrV_size, arrV_size]) (arrV_one _) ?_))
      refine bodyPost_ret (results_cell_row rfl _ _ _ _ _ _ _ rfl (hz.setRow _) Tryd.underlying90 rfl (by rw [arrV_size, info16])) rfl ?_
      exact ⟨rfl, Below.setRow hb (by omega) _⟩

#print axioms rdouble_any
end Go.Proofs.YtlfcejfpdgdnkaaDoor

/- What '==' says of sixteen words. No conditions but those that each line states. -/
namespace Go.Proofs.YtlfcejfpdgdnkaaDoor
open Go.RowKit
set_option maxRecDepth 20000

def eqW (xs ys : Ws) : Bool := (List.range 16).all fun i => xs i == ys i

theorem eqW_refl (xs : Ws) : eqW xs xs = true := by simp [eqW]
theorem eqW_at {xs ys : Ws} (h : eqW xs ys = true) (i : Nat) (hi : i < 16) : xs i = ys i := by
  simp only [eqW, List.all_eq_true, List.mem_range, beq_iff_eq] at h
  exact h i hi

theorem run_eqItems_arr {P : Program} {E : TypeId} (he : P.underlying E = some (.int .u32)) (d : Nat) (xs ys : Ws) (w : World) : ∀ is : List Nat, (∀ i ∈ is, i < 16) →
    (Op.eqItems (d + 1) E 1 (arrV xs) (arrV ys) is).run P w = .ok (is.all fun i => xs i == ys i) w
  | [], _ => by simp [Op.eqItems]
  | i :: is, h => by
    have hi : i < 16 := h i (by simp)
    have px : (part E (arrV xs) (i * 1)).run P w = .ok (.int .u32 ((xs i).toNat : Int)) w := by
      simp [part, isAgg, run_underlying he, arrV_get xs i hi]
    have py : (part E (arrV ys) (i * 1)).run P w = .ok (.int .u32 ((ys i).toNat : Int)) w := by
      simp [part, isAgg, run_underlying he, arrV_get ys i hi]
    have pe : (Op.equalIn (d + 1) E (.int .u32 ((xs i).toNat : Int)) (.int .u32 ((ys i).toNat : Int))).run P w = .ok (xs i == ys i) w := by
      rw [run_equalIn_int w d E .u32 .u32 _ _ he]
      congr 1
      rw [Bool.eq_iff_iff]
      simp only [beq_iff_eq, ← BitVec.toNat_inj]
      omega
    simp only [Op.eqItems, Sem.run_bind, px, py, pe, Result.andThen_ok, List.all_cons]
    cases hb : (xs i == ys i)
    · simp
    · simp only [Bool.not_true, Bool.false_eq_true, if_false, Bool.true_and]
      exact run_eqItems_arr he d xs ys w is (fun j hj => h j (by simp [hj]))

theorem info_u32 : (Tryd.prog.info? 30).isSome = true := by kernel_rfl
theorem cells_u32 : Tryd.prog.cellsOf 30 = 1 := by kernel_rfl

/-- '==' of two rows of sixteen words. -/
theorem run_eq16 (xs ys : Ws) (w : World) : (binOp BinOp.eql 90 (.agg (arrV xs)) (.agg (arrV ys))).run Tryd.prog w = .ok (.bool (eqW xs ys)) w := by
  obtain ⟨i, hi⟩ := Option.isSome_iff_exists.1 info_u32
  rw [run_eql_struct, run_equalIn_array w 9999 (arrV xs) (arrV ys) Tryd.underlying90 hi, cells_u32, run_eqItems_arr Tryd.underlying30 9998 xs ys w _ (fun i hi => by simpa using hi)]
  rfl
theorem run_eq16_at (xs ys : Ws) (b : Bool) (c d : Array Value) (hc : c = arrV xs) (hd : d = arrV ys) (hb : eqW xs ys = b) (w : World) : (binOp BinOp.eql 90 (.agg c) (.agg d)).run Tryd.prog w = .ok (.bool b) w := by
  subst hc
  subst hd
  subst hb
  exact run_eq16 xs ys w

#print axioms run_eq16_at
end Go.Proofs.YtlfcejfpdgdnkaaDoor

/- What the condition on quar.rounds gives, whatever else is laid behind it; how a row of sixteen words that came in is opened. No conditions but those that each line states. -/
namespace Go.Proofs.YtlfcejfpdgdnkaaDoor
open Go.ChangeShapes Go.WideShapes Go.ChangeAt Go.RowKit
set_option maxRecDepth 20000

theorem gRounds : Tryd.prog.globalNamed "dumbwaiter/quar.rounds" = some 1 := by kernel_rfl
theorem tRounds : (Tryd.prog.globals[1]?).map (·.type) = some 100 := by kernel_rfl
theorem cells_int : Tryd.prog.cellsOf 3 = 1 := by kernel_rfl
theorem cells_row : Tryd.prog.cellsOf 99 = 4 := by kernel_rfl
theorem cells_rows : Tryd.prog.cellsOf 100 = 32 := by kernel_rfl
theorem cells_arr : Tryd.prog.cellsOf 90 = 16 := by kernel_rfl
section
variable {H : Type} {enc : TypeId × Value → H} {W : World} {base : Nat} {sp : Nat → Bool} {held : Bool}
theorem row_cells {fuel : Nat} {cs : List Value} {a b c d : Int} {x : DataW H × List MemPlace} (hx : x.1 = .agg [.lit (.int .i64 a), .lit (.int .i64 b), .lit (.int .i64 c), .lit (.int .i64 d)])
    (h : DataW.trod enc Tryd.prog W base sp held fuel 99 cs = some x) : cs = [.int .i64 a, .int .i64 b, .int .i64 c, .int .i64 d] := by
  obtain ⟨ys, m, _, _, hlen, _⟩ := DataW.trod_array Tryd.underlying99 h
  rw [cells_row] at hlen
  match cs, hlen with
  | [c0, c1, c2, c3], _ =>
    obtain ⟨y0, y1, y2, y3, n, rfl, h0, h1, h2, h3⟩ := trod_array4 Tryd.underlying99 cells_int h
    obtain ⟨n0, e0, rfl, _⟩ := DataW.trod_int Tryd.underlying3 h0
    obtain ⟨n1, e1, rfl, _⟩ := DataW.trod_int Tryd.underlying3 h1
    obtain ⟨n2, e2, rfl, _⟩ := DataW.trod_int Tryd.underlying3 h2
    obtain ⟨n3, e3, rfl, _⟩ := DataW.trod_int Tryd.underlying3 h3
    simp only [DataW.agg.injEq, List.cons.injEq, DataW.lit.injEq, Lit.int.injEq, true_and, and_true] at hx
    obtain ⟨rfl, rfl, rfl, rfl⟩ := hx
    simp only [List.cons.injEq, and_true] at e0 e1 e2 e3
    rw [e0, e1, e2, e3]

/-- A row of sixteen words that came in. -/
theorem open_arr16 {r : Reach} {b0 : Nat} {v : Value} {d : DataW H} {p : List MemPlace} (hok : Value.okWide Tryd.prog W r b0 90 v)
    (h : DataW.Trod enc Tryd.prog W base sp held 90 v d p) : ∃ xs : Ws, v = .agg (arrV xs) ∧ p = [] := by
  obtain ⟨cs, rfl, hn⟩ := WideMaps.okWide_arr (P := Tryd.prog) (k := 90) (e := 30) (n := 16) ⟨Tryd.underlying90, by kernel_rfl, cells_u32, cells_arr⟩ hok
  obtain ⟨fuel, hf⟩ := h
  obtain ⟨ys, m, _, hx, hlen, hy, hel⟩ := DataW.trod_array Tryd.underlying90 hf
  rw [cells_u32] at hel
  have key : ∀ i, i < 16 → ∃ x : BitVec 32, cs[i]? = some (.int .u32 (x.toNat : Int)) ∧ ys[i]? = some (.lit (.int .u32 (x.toNat : Int)), []) := by
    intro i hi
    obtain ⟨y, hy'⟩ : ∃ y, ys[i]? = some y := ⟨_, List.getElem?_eq_getElem (by omega)⟩
    obtain ⟨n, e1, e2, hw⟩ := DataW.trod_int Tryd.underlying30 ((hel i hi).trans hy')
    have hb : 0 ≤ n ∧ n < 4294967296 := by
      simp [Lit.wf, IntKind.min, IntKind.max, IntKind.signed, IntKind.bits] at hw
      omega
    have hx' : ((BitVec.ofNat 32 n.toNat).toNat : Int) = n := by
      rw [BitVec.toNat_ofNat]
      omega
    refine ⟨BitVec.ofNat 32 n.toNat, ?_, ?_⟩
    · rw [hx']
      have := congrArg (fun l => l[0]?) e1
      simpa [Value.cells, List.getElem?_take, List.getElem?_drop] using this
    · rw [hx', hy', e2]
  have key2 : ∀ i, ∃ x : BitVec 32, i < 16 → cs[i]? = some (.int .u32 (x.toNat : Int)) ∧ ys[i]? = some (.lit (.int .u32 (x.toNat : Int)), []) := fun i => by
    by_cases h : i < 16
    · obtain ⟨x, hx⟩ := key i h
      exact ⟨x, fun _ => hx⟩
    · exact ⟨0, fun h' => absurd h' h⟩
  obtain ⟨f, hf'⟩ := Classical.axiomOfChoice key2
  refine ⟨f, ?_, ?_⟩
  · congr 1
    apply Array.ext_getElem?
    intro i
    rcases Nat.lt_or_ge i 16 with hi | hi
    · rw [arrV_get _ i hi, (hf' i hi).1]
    · rw [Array.getElem?_eq_none (by omega), Array.getElem?_eq_none (by rw [arrV_size]; omega)]
  · have hp := (Prod.mk.inj hx).2
    rw [hp, List.flatMap_eq_nil_iff]
    intro y hy'
    obtain ⟨i, hi, rfl⟩ := List.mem_iff_getElem.1 hy'
    have := (hf' i (by omega)).2
    rw [List.getElem?_eq_getElem hi] at this
    rw [Option.some.inj this]
end
/-- What the condition on quar.rounds gives. -/
theorem glob_of_laid {W : World} {r : List (String × DataW Unit)} (h : laidMet Tryd.prog (("dumbwaiter/quar.rounds", Rows.laid_dumbwaiter_quar_rounds) :: r) W) : Glob W := by
  obtain ⟨ps, ⟨g0, t0, cs0, f0, p0, q0, hg0, ht0, hv0, hd0, _, _⟩, _, _⟩ := h
  obtain rfl := Option.some.inj (gRounds.symm.trans hg0)
  obtain rfl := Option.some.inj (tRounds.symm.trans ht0)
  have hcell := World.var?_cell hg0 hv0
  obtain ⟨ys, m, _, hx, hlen, hy, hel⟩ := DataW.trod_array Tryd.underlying100 hd0
  rw [cells_row] at hel
  have hrow : ∀ i, i < 8 → (cs0.toList.drop (i * 4)).take 4 = [.int .i64 (pl i 0 : Nat), .int .i64 (pl i 1 : Nat), .int .i64 (pl i 2 : Nat), .int .i64 (pl i 3 : Nat)] := by
    intro i hi
    obtain ⟨y, hy'⟩ : ∃ y, ys[i]? = some y := ⟨_, List.getElem?_eq_getElem (by omega)⟩
    refine row_cells (x := y) ?_ ((hel i hi).trans hy')
    have h1 := (Prod.mk.inj hx).1
    simp only [Rows.laid_dumbwaiter_quar_rounds, DataW.agg.injEq] at h1
    have h2 := congrArg (fun l => l[i]?) h1
    simp only [List.getElem?_map, hy', Option.map_some] at h2
    rcases i with _ | _ | _ | _ | _ | _ | _ | _ | i
    all_goals first | (exfalso; omega) | exact (Option.some.inj h2).symm
  intro j v hv
  have hj : j < 32 := (List.getElem?_eq_some_iff.1 hv).1
  rw [Nat.zero_add, hcell j]
  have e1 := congrArg (fun l => l[j % 4]?) (hrow (j / 4) (by omega))
  simp only [List.getElem?_take, List.getElem?_drop, if_pos (show j % 4 < 4 by omega)] at e1
  rw [show j / 4 * 4 + j % 4 = j by omega, Array.getElem?_toList] at e1
  rw [e1]
  have key : ∀ i, i < 8 → ∀ j, j < 4 → rdL[i * 4 + j]? = [Value.int .i64 (pl i 0 : Nat), .int .i64 (pl i 1 : Nat), .int .i64 (pl i 2 : Nat), .int .i64 (pl i 3 : Nat)][j]? := by
    intro i hi j hj
    rcases i with _ | _ | _ | _ | _ | _ | _ | _ | i
    all_goals first | (exfalso; omega) | (rcases j with _ | _ | _ | _ | j <;> first | (exfalso; omega) | rfl)
  rw [← key (j / 4) (by omega) (j % 4) (by omega), show j / 4 * 4 + j % 4 = j by omega]
  exact hv

#print axioms glob_of_laid
end Go.Proofs.YtlfcejfpdgdnkaaDoor
