/- What calls of quar.Round and of dumbwaiterref1's Round do: for every four words; the world stays as it was. -/
import Derived.Test.YthhaeiafgloacaaDoorQRot
namespace Go.Proofs.YthhaeiafgloacaaDoor
open Go.RowKit

theorem results_tmp4 {fn : Func} {t u v x : Tmp} (h : fn.results = #[.tmp t, .tmp u, .tmp v, .tmp x]) (tmps : Array Value) (P : Program) (w : World) :
    (results fn tmps).run P w = .ok (.tuple #[tmps.getD t undef, tmps.getD u undef, tmps.getD v undef, tmps.getD x undef]) w := by
  simp [results, h]

set_option maxHeartbeats 1000000 in
theorem round_any (a b c d : BitVec 32) (r : W4) (hr : r = qr a b c d) (w : World) : Calls Tryd.prog 39 #[.int .u32 (a.toNat : Int), .int .u32 (b.toNat : Int), .int .u32 (c.toNat : Int), .int .u32 (d.toNat : Int)] w fun e w' =>
    e = .returned (.tuple #[.int .u32 (r.1.toNat : Int), .int .u32 (r.2.1.toNat : Int), .int .u32 (r.2.2.1.toNat : Int), .int .u32 (r.2.2.2.toNat : Int)]) ∧ w = w' := by
  obtain ⟨a1, ha1⟩ : ∃ z, z = a + b := ⟨_, rfl⟩
  have ea1 : IntKind.u32.wrap ((a.toNat : Int) + (b.toNat : Int)) = (a1.toNat : Int) := by rw [ha1]; exact u32_add_bv _ _
  obtain ⟨x1, hx1⟩ : ∃ z, z = d ^^^ a1 := ⟨_, rfl⟩
  have ex1 : bits BinOp.xor IntKind.u32 (d.toNat : Int) (a1.toNat : Int) = (x1.toNat : Int) := by rw [hx1]; exact u32_xor_bv _ _
  obtain ⟨d1, hd1⟩ : ∃ z, rl x1 16 = z := ⟨_, rfl⟩
  have Rd1 := hide hd1
  obtain ⟨c1, hc1⟩ : ∃ z, z = c + d1 := ⟨_, rfl⟩
  have ec1 : IntKind.u32.wrap ((c.toNat : Int) + (d1.toNat : Int)) = (c1.toNat : Int) := by rw [hc1]; exact u32_add_bv _ _
  obtain ⟨x2, hx2⟩ : ∃ z, z = b ^^^ c1 := ⟨_, rfl⟩
  have ex2 : bits BinOp.xor IntKind.u32 (b.toNat : Int) (c1.toNat : Int) = (x2.toNat : Int) := by rw [hx2]; exact u32_xor_bv _ _
  obtain ⟨b1, hb1⟩ : ∃ z, rl x2 12 = z := ⟨_, rfl⟩
  have Rb1 := hide hb1
  obtain ⟨a2, ha2⟩ : ∃ z, z = a1 + b1 := ⟨_, rfl⟩
  have ea2 : IntKind.u32.wrap ((a1.toNat : Int) + (b1.toNat : Int)) = (a2.toNat : Int) := by rw [ha2]; exact u32_add_bv _ _
  obtain ⟨x3, hx3⟩ : ∃ z, z = d1 ^^^ a2 := ⟨_, rfl⟩
  have ex3 : bits BinOp.xor IntKind.u32 (d1.toNat : Int) (a2.toNat : Int) = (x3.toNat : Int) := by rw [hx3]; exact u32_xor_bv _ _
  obtain ⟨d2, hd2⟩ : ∃ z, rl x3 8 = z := ⟨_, rfl⟩
  have Rd2 := hide hd2
  obtain ⟨c2, hc2⟩ : ∃ z, z = c1 + d2 := ⟨_, rfl⟩
  have ec2 : IntKind.u32.wrap ((c1.toNat : Int) + (d2.toNat : Int)) = (c2.toNat : Int) := by rw [hc2]; exact u32_add_bv _ _
  obtain ⟨x4, hx4⟩ : ∃ z, z = b1 ^^^ c2 := ⟨_, rfl⟩
  have ex4 : bits BinOp.xor IntKind.u32 (b1.toNat : Int) (c2.toNat : Int) = (x4.toNat : Int) := by rw [hx4]; exact u32_xor_bv _ _
  obtain ⟨b2, hb2⟩ : ∃ z, rl x4 7 = z := ⟨_, rfl⟩
  have Rb2 := hide hb2
  have HR : Hid (r = (a2, b2, c2, d2)) := by
    show r = (a2, b2, c2, d2)
    rw [hr]
    simp only [qr, ← ha1, ← hx1, hd1, ← hc1, ← hx2, hb1, ← ha2, ← hx3, hd2, ← hc2, ← hx4, hb2]
  clear hr ha1 hx1 hd1 hc1 hx2 hb1 ha2 hx3 hd2 hc2 hx4 hb2
  have la := u32_lt a
  have lb := u32_lt b
  have lc := u32_lt c
  have ld := u32_lt d
  have la1 := u32_lt a1
  have lx1 := u32_lt x1
  have ld1 := u32_lt d1
  have lc1 := u32_lt c1
  have lx2 := u32_lt x2
  have lb1 := u32_lt b1
  have la2 := u32_lt a2
  have lx3 := u32_lt x3
  have ld2 := u32_lt d2
  have lc2 := u32_lt c2
  have lx4 := u32_lt x4
  have lb2 := u32_lt b2
  go_enter Tryd.func39, Tryd.ntmps39
  go_wp2_with fail
  go_at_call 41
  refine (rot16 x1 d1 Rd1.out _).mono ?_
  rintro e w1 ⟨rfl, rfl⟩
  go_wp2_with fail
  go_at_call 41
  refine (rot12 x2 b1 Rb1.out _).mono ?_
  rintro e w1 ⟨rfl, rfl⟩
  go_wp2_with fail
  go_at_call 41
  refine (rot8 x3 d2 Rd2.out _).mono ?_
  rintro e w1 ⟨rfl, rfl⟩
  go_wp2_with fail
  go_at_call 41
  refine (rot7 x4 b2 Rb2.out _).mono ?_
  rintro e w1 ⟨rfl, rfl⟩
  go_wp2_with fail
  refine bodyPost_ret (results_tmp4 rfl _ _ _) rfl ?_
  obtain rfl := HR.out
  exact ⟨rfl, rfl⟩

set_option maxHeartbeats 1000000 in
theorem rround_any (a b c d : BitVec 32) (r : W4) (hr : r = qr a b c d) (w : World) : Calls Tryd.prog 38 #[.int .u32 (a.toNat : Int), .int .u32 (b.toNat : Int), .int .u32 (c.toNat : Int), .int .u32 (d.toNat : Int)] w fun e w' =>
    e = .returned (.tuple #[.int .u32 (r.1.toNat : Int), .int .u32 (r.2.1.toNat : Int), .int .u32 (r.2.2.1.toNat : Int), .int .u32 (r.2.2.2.toNat : Int)]) ∧ w = w' := by
  obtain ⟨a1, ha1⟩ : ∃ z, z = a + b := ⟨_, rfl⟩
  have ea1 : IntKind.u32.wrap ((a.toNat : Int) + (b.toNat : Int)) = (a1.toNat : Int) := by rw [ha1]; exact u32_add_bv _ _
  obtain ⟨x1, hx1⟩ : ∃ z, z = d ^^^ a1 := ⟨_, rfl⟩
  have ex1 : bits BinOp.xor IntKind.u32 (d.toNat : Int) (a1.toNat : Int) = (x1.toNat : Int) := by rw [hx1]; exact u32_xor_bv _ _
  obtain ⟨d1, hd1⟩ : ∃ z, rl x1 16 = z := ⟨_, rfl⟩
  have Rd1 := hide hd1
  obtain ⟨c1, hc1⟩ : ∃ z, z = c + d1 := ⟨_, rfl⟩
  have ec1 : IntKind.u32.wrap ((c.toNat : Int) + (d1.toNat : Int)) = (c1.toNat : Int) := by rw [hc1]; exact u32_add_bv _ _
  obtain ⟨x2, hx2⟩ : ∃ z, z = b ^^^ c1 := ⟨_, rfl⟩
  have ex2 : bits BinOp.xor IntKind.u32 (b.toNat : Int) (c1.toNat : Int) = (x2.toNat : Int) := by rw [hx2]; exact u32_xor_bv _ _
  obtain ⟨b1, hb1⟩ : ∃ z, rl x2 12 = z := ⟨_, rfl⟩
  have Rb1 := hide hb1
  obtain ⟨a2, ha2⟩ : ∃ z, z = a1 + b1 := ⟨_, rfl⟩
  have ea2 : IntKind.u32.wrap ((a1.toNat : Int) + (b1.toNat : Int)) = (a2.toNat : Int) := by rw [ha2]; exact u32_add_bv _ _
  obtain ⟨x3, hx3⟩ : ∃ z, z = d1 ^^^ a2 := ⟨_, rfl⟩
  have ex3 : bits BinOp.xor IntKind.u32 (d1.toNat : Int) (a2.toNat : Int) = (x3.toNat : Int) := by rw [hx3]; exact u32_xor_bv _ _
  obtain ⟨d2, hd2⟩ : ∃ z, rl x3 8 = z := ⟨_, rfl⟩
  have Rd2 := hide hd2
  obtain ⟨c2, hc2⟩ : ∃ z, z = c1 + d2 := ⟨_, rfl⟩
  have ec2 : IntKind.u32.wrap ((c1.toNat : Int) + (d2.toNat : Int)) = (c2.toNat : Int) := by rw [hc2]; exact u32_add_bv _ _
  obtain ⟨x4, hx4⟩ : ∃ z, z = b1 ^^^ c2 := ⟨_, rfl⟩
  have ex4 : bits BinOp.xor IntKind.u32 (b1.toNat : Int) (c2.toNat : Int) = (x4.toNat : Int) := by rw [hx4]; exact u32_xor_bv _ _
  obtain ⟨b2, hb2⟩ : ∃ z, rl x4 7 = z := ⟨_, rfl⟩
  have Rb2 := hide hb2
  have HR : Hid (r = (a2, b2, c2, d2)) := by
    show r = (a2, b2, c2, d2)
    rw [hr]
    simp only [qr, ← ha1, ← hx1, hd1, ← hc1, ← hx2, hb1, ← ha2, ← hx3, hd2, ← hc2, ← hx4, hb2]
  clear hr ha1 hx1 hd1 hc1 hx2 hb1 ha2 hx3 hd2 hc2 hx4 hb2
  have la := u32_lt a
  have lb := u32_lt b
  have lc := u32_lt c
  have ld := u32_lt d
  have la1 := u32_lt a1
  have lx1 := u32_lt x1
  have ld1 := u32_lt d1
  have lc1 := u32_lt c1
  have lx2 := u32_lt x2
  have lb1 := u32_lt b1
  have la2 := u32_lt a2
  have lx3 := u32_lt x3
  have ld2 := u32_lt d2
  have lc2 := u32_lt c2
  have lx4 := u32_lt x4
  have lb2 := u32_lt b2
  go_enter Tryd.func38, Tryd.ntmps38
  go_wp2_with fail
  go_at_call 40
  refine (left16 x1 d1 Rd1.out _).mono ?_
  rintro e w1 ⟨rfl, rfl⟩
  go_wp2_with fail
  go_at_call 40
  refine (left12 x2 b1 Rb1.out _).mono ?_
  rintro e w1 ⟨rfl, rfl⟩
  go_wp2_with fail
  go_at_call 40
  refine (left8 x3 d2 Rd2.out _).mono ?_
  rintro e w1 ⟨rfl, rfl⟩
  go_wp2_with fail
  go_at_call 40
  refine (left7 x4 b2 Rb2.out _).mono ?_
  rintro e w1 ⟨rfl, rfl⟩
  go_wp2_with fail
  refine bodyPost_ret (results_tmp4 rfl _ _ _) rfl ?_
  obtain rfl := HR.out
  exact ⟨rfl, rfl⟩

#print axioms rround_any
end Go.Proofs.YthhaeiafgloacaaDoor
