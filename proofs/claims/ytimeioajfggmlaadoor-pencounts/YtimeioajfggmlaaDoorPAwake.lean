
/- The law's awake answers true, wherever quar.rounds reads as its text says; nothing that was there is turned. -/
import Derived.Test.YtimeioajfggmlaaDoorXPen
import Derived.Test.YtimeioajfggmlaaDoorXBase
namespace Go.Proofs.YtimeioajfggmlaaDoor
open Go.RowKit

def keyA : List Int := 1 :: zL 31
theorem keyA_bytes : IsBytes keyA := bytes_lit (by kernel_rfl)
theorem keyA_length : keyA.length = 32 := by kernel_rfl

set_option maxRecDepth 100000 in
set_option maxHeartbeats 2000000 in
theorem awake_any (w : World) (hq : Glob w) : Calls Tryd.prog 13 #[] w fun e w' => e = .returned (.bool true) ∧ Below w.heap.size w w' := by
  go_enter Tryd.func13, Tryd.ntmps13
  go_wp2_with fail
  refine (new_any 3 40 3 40 rfl rfl w).mono ?_
  rintro e W ⟨g, Z, rfl, hD, hF, hB⟩
  have C : Cl w W Z g (DS.new 3 40) := ⟨hD, hF, hB⟩
  clear hD hF hB
  go_wp2_with (refine wpList_build_is rfl 22 _ rfl (bV keyA) (by kernel_rfl) ?_)
  refine (pen_new C keyA_bytes keyA_length (boot := 5) (by omega)).mono ?_
  rintro e W1 ⟨gp, rfl, -, P, b1⟩
  replace C := C.below b1
  clear b1
  go_wp2_with fail
  rw [conv_bytes]
  have hL : Bs (W1.alloc (Obj.cells #[Value.int IntKind.u8 97, Value.int IntKind.u8 98] 5 (2, 3))) (some ⟨W1.heap.size, 0, none⟩) 2 2 [97, 98] := Bs.lit rfl rfl (bytes_lit rfl) rfl (by omega)
  replace C := C.alloc (Obj.cells #[Value.int IntKind.u8 97, Value.int IntKind.u8 98] 5 (2, 3))
  replace P := P.alloc (Obj.cells #[Value.int IntKind.u8 97, Value.int IntKind.u8 98] 5 (2, 3))
  generalize (W1.alloc (Obj.cells #[Value.int IntKind.u8 97, Value.int IntKind.u8 98] 5 (2, 3))) = W2 at *
  have hab : IsBytes [97, 98] := bytes_lit rfl
  have hWr := pen_write C P hq (of_decide_eq_true rfl) (of_decide_eq_true rfl) (of_decide_eq_true rfl) (by omega) 1 hL 18 rfl (by omega)
  go_wp2_with fail
  refine hWr.mono ?_
  rintro e W3 ⟨Z3, x, rfl, hx, C3, P3, s3⟩
  clear hWr C P hL s3
  have hsh := puts_shows (DS.new 3 40) 1 x (by decide)
  obtain ⟨e1, e2, e3⟩ := puts_is (DS.new 3 40) 1 x
  have e4 := puts_len (DS.new 3 40) 1 x
  replace e1 : ((DS.new 3 40).puts 1 x).size = 40 := e1
  replace e3 : ((DS.new 3 40).puts 1 x).left = -1 := e3
  replace e4 : ((DS.new 3 40).puts 1 x).tr.length = 1 := e4
  replace hsh : ((DS.new 3 40).puts 1 x).shows 1 = sealL keyA 5 0 [97, 98] 18 := by
    refine Eq.trans hsh ?_
    rw [hx.out]
    exact fitL_sealL _ _ _ _ _ _ (by decide) rfl
  generalize (DS.new 3 40).puts 1 x = D1 at *
  have hmk := run_make_row' (P := Tryd.prog) 33 5 (.int .u8 0) 1 Tryd.underlying33 Tryd.info_u8 rfl .i64 .i64 19 (by omega) (by omega)
  simp only [show ((19 : Nat) : Int) = 19 from rfl] at hmk
  go_wp2_with fail
  replace C3 := C3.alloc (Obj.cells (madeCells #[Value.int IntKind.u8 0] 19) 5)
  replace P3 := P3.alloc (Obj.cells (madeCells #[Value.int IntKind.u8 0] 19) 5)
  generalize (W3.alloc (Obj.cells (madeCells #[Value.int IntKind.u8 0] 19) 5)) = W4 at *
  refine (pen_write_no C3 P3 1 (by omega) (by omega)).mono ?_
  rintro e W5 ⟨rfl, b5⟩
  have C5 := C3.below b5
  have P5 := P3.below b5
  clear C3 P3 b5 hmk
  obtain ⟨q1, q2, q3, q4⟩ := open_is keyA 5 0 [97, 98] 18 (by omega) (by omega) hab (by decide) (by omega)
  have hR := pen_read C5 P5 hq (by omega) (by omega) 1
  rw [hsh, q1, q2] at hR
  go_wp2_with fail
  refine hR.mono ?_
  rintro e W6 ⟨Z6, p6, c6, rfl, B6, C6, P6, s6⟩
  obtain ⟨f1, -, f3, f4, f5⟩ := asks_is D1 1
  have f6 := asks_len D1 1
  have f7 : (D1.asks 1).shows 1 = sealL keyA 5 0 [97, 98] 18 := by
    refine Eq.trans ?_ hsh
    unfold DS.shows
    rw [f1, f5, (asks_is D1 1).2.1]
  generalize D1.asks 1 = D2 at *
  rw [e3] at f3
  clear hR C5 P5 s6
  have hA := C6.ask (i := 1) (by rw [f3]; decide) (by omega)
  rw [f7] at hA
  go_wp2_with (refine wpList_build_is rfl 22 _ rfl (bV keyA) (by kernel_rfl) ?_)
  refine hA.mono ?_
  rintro e W7 ⟨Z7, p7, c7, rfl, B7, C7, s7⟩
  have P7 := P6.step s7
  have B6' := B6.step s7
  clear hA C6 P6 B6 s7
  have hl7 := sealL_length keyA 5 0 [97, 98] 18 (by decide)
  have hg7 : Glob W7 := hq.below C7.bel hq.lt
  have hO := ropen_all keyA W7 keyA_bytes keyA_length B7.bs (by omega) hg7
  rw [q1, q2, q3, q4] at hO
  go_wp2_with fail
  refine hO.mono ?_
  rintro e W8 ⟨p8, c8, rfl, B8, b8⟩
  have C8 := C7.below b8
  have P8 := P7.below b8
  have B6'' := B6'.bs.below b8
  clear hO C7 P7 B6' B7 b8
  have s1 : (convert 33 9 (.slice p6 2 c6)).run Tryd.prog W8 = .ok (.string ⟨#[97, 98]⟩) W8 := str_bytes B6''
  have s2 : (convert 33 9 (.slice p8 2 c8)).run Tryd.prog W8 = .ok (.string ⟨#[97, 98]⟩) W8 := str_bytes B8
  have hQ := pen_seq P8
  have hbel := C8.bel
  clear C8 P8
  go_wp2_with fail
  refine hQ.mono ?_
  rintro e W9 ⟨rfl, rfl⟩
  go_wp2_with fail
  go_ret
  exact ⟨rfl, hbel⟩
#print axioms awake_any
end Go.Proofs.YtimeioajfggmlaaDoor
