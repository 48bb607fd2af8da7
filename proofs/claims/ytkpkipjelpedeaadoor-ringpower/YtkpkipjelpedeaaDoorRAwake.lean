
/- The law's awake answers true, wherever quar.rounds reads as its text says; nothing that was there is turned. -/
import Derived.Test.YtkpkipjelpedeaaDoorXRing
import Derived.Test.YtkpkipjelpedeaaDoorXBase
namespace Go.Proofs.YtkpkipjelpedeaaDoor
open Go.RowKit
set_option maxRecDepth 20000

def keyA : List Int := 1 :: zL 31
theorem keyA_bytes : IsBytes keyA := bytes_lit (by kernel_rfl)
theorem keyA_length : keyA.length = 32 := by kernel_rfl

theorem head_31 : headR 3 ((0 + 1 : Nat) : Int) ++ [98] = [3, 0, 0, 0, 0, 0, 0, 0, 1, 0, 0, 0, 98] := by kernel_rfl
set_option maxRecDepth 100000 in
set_option maxHeartbeats 8000000 in
theorem awake_any (w : World) (hq : Glob w) : Calls Tryd.prog 16 #[] w fun e w' => e = .returned (.bool true) ∧ Below w.heap.size w w' := by
  go_enter Tryd.func16, Tryd.ntmps16
  go_wp2_with fail
  refine (new_any 6 60 6 60 rfl rfl w).mono ?_
  rintro e W ⟨g, Z, rfl, hD, hF, hB⟩
  have C : Cl w W Z g (DS.new 6 60) := ⟨hD, hF, hB⟩
  clear hD hF hB
  go_wp2_with (refine wpList_build_is rfl 27 _ rfl (bV keyA) (by kernel_rfl) ?_)
  refine (pen_new C keyA_bytes keyA_length (boot := 5) (by omega)).mono ?_
  rintro e W1 ⟨gp, rfl, -, P, b1⟩
  replace C := C.below b1
  clear b1
  go_wp2_with fail
  refine (rnew_at C gp 2 2 2 2 rfl rfl).mono ?_
  rintro e W2 ⟨gx, rfl, hx, X, b2⟩
  have hxp : gx ≠ gp := by have := P.lt; omega
  replace C := C.below b2
  replace P := P.below b2
  clear b2 hx
  go_wp2_with fail
  refine (rnew_at C gp 2 2 2 2 rfl rfl).mono ?_
  rintro e W3 ⟨gy, rfl, hy, Y, b3⟩
  have hyp : gy ≠ gp := by have := P.lt; omega
  have hyx : gy ≠ gx := by have := X.lt; omega
  replace C := C.below b3
  replace P := P.below b3
  replace X := X.below b3
  clear b3 hy
  have hS := hide (rstart_at X 3)
  go_wp2_with fail
  refine hS.out.mono ?_
  rintro e W4 ⟨rfl, X4, o4⟩
  have C4 := C.only o4 X.has.2 X.frm
  have P4 : Pn w Z W4 gp g keyA 5 0 := P.only o4 (Ne.symm hxp)
  have Y4 := Y.only o4 hyx
  clear hS o4 C P X Y
  go_wp2_with fail
  rw [conv_bytes]
  have hL : Bs (W4.alloc (Obj.cells #[Value.int IntKind.u8 97] 5 (1, 2))) (some ⟨W4.heap.size, 0, none⟩) 1 1 [97] := Bs.lit rfl rfl (bytes_lit rfl) rfl (by omega)
  have b5 := below_alloc (Below.refl W4.heap.size W4) (Obj.cells #[Value.int IntKind.u8 97] 5 (1, 2))
  have C5 := C4.below b5
  have P5 := P4.below b5
  have X5 := X4.below b5
  have Y5 := Y4.below b5
  clear C4 P4 X4 Y4 b5
  generalize (W4.alloc (Obj.cells #[Value.int IntKind.u8 97] 5 (1, 2))) = W5 at *
  have hA := hide (radd_at C5 P5 X5 hxp hq rfl (of_decide_eq_true rfl) (of_decide_eq_true rfl) (by omega) (by omega) (by omega) (by omega) (by omega) (of_decide_eq_true rfl) hL 38 rfl (by omega))
  clear C5 P5 X5 hL
  go_wp2_with fail
  refine hA.out.mono ?_
  rintro e W6 ⟨Z6, D6, rfl, S6, C6, P6, X6, s6⟩
  have Y6 := Y5.beside2 s6 hyp hyx
  clear hA s6 Y5
  go_wp2_with fail
  rw [conv_bytes]
  have hL : Bs (W6.alloc (Obj.cells #[Value.int IntKind.u8 98] 5 (1, 2))) (some ⟨W6.heap.size, 0, none⟩) 1 1 [98] := Bs.lit rfl rfl (bytes_lit rfl) rfl (by omega)
  have b7 := below_alloc (Below.refl W6.heap.size W6) (Obj.cells #[Value.int IntKind.u8 98] 5 (1, 2))
  have C7 := C6.below b7
  have P7 := P6.below b7
  have X7 := X6.below b7
  have Y7 := Y6.below b7
  clear C6 P6 X6 Y6 b7
  generalize (W6.alloc (Obj.cells #[Value.int IntKind.u8 98] 5 (1, 2))) = W7 at *
  have f1 : D6.size = 60 := S6.size
  have f2 : D6.n = 6 := S6.n
  have f3 : D6.tr.length = 2 := S6.len
  have f4 := S6.wait
  have hA := hide (radd_at C7 P7 X7 hxp hq S6.left (by omega) (by rw [f4]; decide) (by omega) (by omega) (by omega) (by omega) (by omega) (by omega) hL 38 f1 (by omega))
  clear C7 P7 X7 hL
  go_wp2_with fail
  refine hA.out.mono ?_
  rintro e W8 ⟨Z8, D8, rfl, S8, C8, P8, X8, s8⟩
  have Y8 := Y7.beside2 s8 hyp hyx
  have g1 : D8.size = 60 := S8.size.trans f1
  have g2 : D8.n = 6 := S8.n.trans f2
  have g3 : D8.tr.length = 4 := by rw [S8.len, f3]
  have g4 := S8.left
  have a2 : D8.at_ (2 + 0) = sealL keyA 5 0 (headR 3 ((0 : Nat) : Int) ++ [97]) 38 := by rw [S8.at_, if_neg (by decide), S6.at_, if_pos rfl]
  have a3 : D8.at_ (2 + 1) = sealL keyA 5 (0 + 1) (headR 3 ((0 + 1 : Nat) : Int) ++ [98]) 38 := by rw [S8.at_, if_pos rfl]
  have t0 : txtR keyA D8 2 0 = headR 3 ((0 : Nat) : Int) ++ [97] := txt_sealed a2 (by omega) (by omega) ((headR_bytes _ _).append (bytes_lit rfl)) (by decide) (by omega)
  have t1 : txtR keyA D8 2 1 = headR 3 ((0 + 1 : Nat) : Int) ++ [98] := txt_sealed a3 (by omega) (by omega) ((headR_bytes _ _).append (bytes_lit rfl)) (by decide) (by omega)
  have hLd : loadL (txtR keyA D8 2) 3 2 = [[97], [98]] := loadL_all (rs := [[97], [98]]) (fun j hj => by
    match j, hj with
    | 0, _ => exact t0
    | 1, _ => exact t1) (Nat.le_refl _) (fun h => absurd h (by decide))
  have hL4 : loadL (txtR keyA D8 2) 4 2 = [] := loadL_none 2 fun _ => by
    rw [t0]
    exact okR_other _ (by omega) (by omega) (by omega) (by omega) (by omega)
  clear hA s8 Y7 S6 S8 f1 f2 f3 f4 a2 t0 t1
  go_wp2_with fail
  rw [conv_bytes]
  have b9 := below_alloc (Below.refl W8.heap.size W8) (Obj.cells #[Value.int IntKind.u8 99] 5 (1, 2))
  have C9 := C8.below b9
  have P9 := P8.below b9
  have X9 := X8.below b9
  have Y9 := Y8.below b9
  clear C8 P8 X8 Y8 b9
  generalize (W8.alloc (Obj.cells #[Value.int IntKind.u8 99] 5 (1, 2))) = W9 at *
  have hA := hide (add_full X9 (by omega) (.slice (some ⟨W8.heap.size, 0, none⟩) 1 1))
  go_wp2_with fail
  refine hA.out.mono ?_
  rintro e W10 ⟨rfl, b10⟩
  have C10 := C9.below b10
  have P10 := P9.below b10
  have X10 := X9.below b10
  have Y10 := Y9.below b10
  clear hA C9 P9 X9 Y9 b10
  have hA := hide (rload_at C10 P10 Y10 hyp hq g4 (by omega) (by omega) (by omega) (by omega) 3 (by omega) _ hLd 2 rfl)
  clear C10 P10 Y10 hLd
  go_wp2_with fail
  refine hA.out.mono ?_
  rintro e W11 ⟨Z11, D11, a, c, l, rfl, S11, hl, hR, C11, P11, Y11, s11⟩
  have X11 := X10.beside s11 (Ne.symm hyx)
  have h11 : D11.shows 3 = sealL keyA 5 (0 + 1) (headR 3 ((0 + 1 : Nat) : Int) ++ [98]) 38 := (shows_nat (D := D11) (i := 3) 3 rfl (by rw [S11.n, g2]; decide)).trans ((S11.at_ 3).trans a3)
  have k1 : D11.tr.length = 6 := by rw [S11.len, g3]
  have k2 : D11.n = 6 := S11.n.trans g2
  have k3 := S11.left
  obtain ⟨q1, q2, -, -⟩ := open_is keyA 5 (0 + 1) (headR 3 ((0 + 1 : Nat) : Int) ++ [98]) 38 (by omega) (by omega) ((headR_bytes _ _).append (bytes_lit rfl)) (by decide) (by omega)
  rw [head_31] at h11 q1 q2
  have hA1 := hide (pen_read C11 P11 hq (by rw [k3]; decide) (by omega) 3)
  rw [h11, q1, q2] at hA1
  replace hL4 : loadL (txtR keyA D11 2) 4 2 = [] := by
    rw [← hL4]
    refine loadL_congr 4 2 fun j _ => ?_
    unfold txtR
    rw [S11.at_]
  clear hA s11 X10 q1 q2 C11 P11 a3 g1 g2 g3 g4 S11 h11
  go_wp2_with fail
  refine hA1.out.mono ?_
  rintro e W12 ⟨Z12, p12, c12, rfl, B12, C12, P12, s12⟩
  replace X11 := X11.step s12
  replace Y11 := Y11.step s12
  replace hR := hR.step s12
  obtain ⟨m1, m2, m3, m4, m5⟩ := asks_is D11 3
  have m6 := asks_len D11 3
  have hL5 : loadL (txtR keyA (D11.asks 3) 2) 4 2 = [] := by
    rw [← hL4]
    refine loadL_congr 4 2 fun j _ => ?_
    unfold txtR
    rw [asks_at]
  obtain ⟨gl, x, rfl, hlx, cx, Bx⟩ := hR.bs 1 (by decide)
  have hxz : x.zs = [98] := by
    have := congrArg (fun l => l[1]?) hl
    simpa [hlx] using this
  obtain ⟨xa, xl, xc, xz⟩ := x
  simp only at hxz
  subst hxz
  have sx : (convert 36 9 (.slice xa xl xc)).run Tryd.prog W12 = .ok (.string ⟨#[98]⟩) W12 := str_bytes Bx.bs
  have sp : (convert 36 9 (.slice p12 13 c12)).run Tryd.prog W12 = .ok (.string ⟨#[3, 0, 0, 0, 0, 0, 0, 0, 1, 0, 0, 0, 98]⟩) W12 := str_bytes B12.bs
  have hX := hide (ring_len X11)
  have hY := hide (ring_len Y11)
  have hA := hide (rload_at C12 P12 Y11 hyp hq (by rw [m3, k3]; rfl) (by omega) (by omega) (by omega) (by rw [m2, k2]; decide) 4 (by omega) _ hL5 0 rfl)
  clear hA1 C12 P12 X11 Y11 hR hl hlx Bx B12 s12 hL4 hL5 m1 m2 m3 m4 m5 m6 k1 k2 k3
  go_wp2_with fail
  refine hX.out.mono ?_
  rintro e W13 ⟨rfl, rfl⟩
  clear hX
  go_wp2_with fail
  refine hY.out.mono ?_
  rintro e W13 ⟨rfl, rfl⟩
  clear hY
  go_wp2_with fail
  refine hA.out.mono ?_
  rintro e W14 ⟨Z14, D14, a14, c14, l14, rfl, -, -, -, C14, -, -, -⟩
  have hbel := C14.bel
  clear hA cx sx sp C14
  go_wp2_with fail
  go_ret
  exact ⟨rfl, hbel⟩
#print axioms awake_any
end Go.Proofs.YtkpkipjelpedeaaDoor
