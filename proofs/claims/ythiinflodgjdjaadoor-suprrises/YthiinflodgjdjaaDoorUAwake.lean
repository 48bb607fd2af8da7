
/- The law's awake answers true, wherever quar.rounds reads as its text says; nothing that was there is turned. -/
import Derived.Test.YthiinflodgjdjaaDoorXSupr
import Derived.Test.YthiinflodgjdjaaDoorUEval
namespace Go.Proofs.YthiinflodgjdjaaDoor
open Go.RowKit
set_option maxRecDepth 20000

def keyA : List Int := 1 :: zL 31
theorem keyA_bytes : IsBytes keyA := bytes_lit (by kernel_rfl)
theorem keyA_length : keyA.length = 32 := by kernel_rfl
theorem epoL_5 : epoL 5 = [101, 112, 111, 99, 104, 5, 0, 0, 0, 0, 0, 0, 0] := by kernel_rfl

set_option maxRecDepth 100000 in
set_option maxHeartbeats 4000000 in
theorem awake_any (w : World) (hq : Glob w) : Calls Tryd.prog 13 #[] w fun e w' => e = .returned (.bool true) ∧ Below w.heap.size w w' := by
  go_enter Tryd.func13, Tryd.ntmps13
  go_wp2_with fail
  refine (new_any 6 40 6 40 rfl rfl w).mono ?_
  rintro e W ⟨g, Z, rfl, hD, hF, hB⟩
  have C : Cl w W Z g (DS.new 6 40) := ⟨hD, hF, hB⟩
  clear hD hF hB
  go_wp2_with (refine wpList_build_is rfl 27 _ rfl (bV keyA) (by kernel_rfl) ?_)
  refine (pen_new C keyA_bytes keyA_length (boot := 5) (by omega)).mono ?_
  rintro e W1 ⟨gp, rfl, -, P, b1⟩
  replace C := C.below b1
  clear b1
  have t0 : tellB keyA (zL 40) 0 = false := tell_closed 0 blankF
  have t1 : tellB keyA (zL 40) 1 = false := tell_closed 1 blankF
  have hL := hide (ulast_at C P hq rfl (of_decide_eq_true rfl) 2 2 rfl (by decide) _ _ (new_at 6 40 2) (new_at 6 40 3) 0 0 false false (tellV_no t0) t0 (tellV_no t1) t1)
  clear C P t0 t1
  go_wp2_with fail
  refine hL.out.mono ?_
  rintro e W2 ⟨Z2, D2, rfl, F2, C2, P2, -⟩
  have a2 : ∀ j, D2.at_ j = zL 40 := fun j => (F2.at_ j).trans (new_at 6 40 j)
  have n2 : D2.n = 6 := F2.n
  have l2 : D2.tr.length = 2 := F2.len
  have w2 : D2.wait = [] := F2.wait
  have hC := hide (ucommit_at C2 P2 hq F2.left (by omega) (by rw [w2]; decide) (by omega) 2 4 (by omega) (by omega) 2 rfl (by omega) 18 F2.size (by omega))
  have z2 : D2.size = 40 := F2.size
  clear hL C2 P2 F2
  go_wp2_with fail
  refine hC.out.mono ?_
  rintro e W3 ⟨Z3, D3, rfl, F3, C3, P3, -⟩
  have hC := hide (ucommit_at C3 P3 hq F3.left (by have := F3.len; omega) (by rw [F3.wait]; decide) (by omega) 2 5 (by omega) (by omega) 3 rfl (by have := F3.n; omega) 18 (F3.size.trans z2) (by omega))
  have z3 : D3.size = 40 := F3.size.trans z2
  have n3 : D3.n = 6 := F3.n.trans n2
  have l3 : D3.tr.length = 4 := by rw [F3.len, l2]
  have a3 := F3.at_
  clear C3 P3 F3 w2 n2 l2 z2
  go_wp2_with fail
  refine hC.out.mono ?_
  rintro e W4 ⟨Z4, D4, rfl, F4, C4, P4, -⟩
  have z4 : D4.size = 40 := F4.size.trans z3
  have n4 : D4.n = 6 := F4.n.trans n3
  have l4 : D4.tr.length = 6 := by rw [F4.len, l3]
  have e0 : D4.at_ 2 = sealL keyA 5 0 (epoL 4) 18 := by
    rw [F4.at_, if_neg (by decide), a3, if_pos rfl]
  have e1 : D4.at_ 3 = sealL keyA 5 1 (epoL 5) 18 := by
    rw [F4.at_, if_pos rfl]
    rfl
  obtain ⟨t0, v0⟩ := tell_epoch (key := keyA) (boot := 5) (seq := 0) (n := 4) (m := 18) (by omega) (by omega) (by omega) (by omega) (by omega)
  obtain ⟨t1, v1⟩ := tell_epoch (key := keyA) (boot := 5) (seq := 1) (n := 5) (m := 18) (by omega) (by omega) (by omega) (by omega) (by omega)
  have hL := hide (ulast_at C4 P4 hq F4.left (by omega) 2 2 rfl (by omega) _ _ e0 e1 4 5 true true v0 t0 v1 t1)
  clear C4 P4 hC z3 n3 l3 a2 a3
  go_wp2_with fail
  refine hL.out.mono ?_
  rintro e W5 ⟨Z5, D5, rfl, F5, C5, P5, -⟩
  have e2 : D5.shows 3 = sealL keyA 5 1 (epoL 5) 18 := (shows_nat 3 rfl (by rw [F5.n, n4]; omega)).trans ((F5.at_ 3).trans e1)
  obtain ⟨q1, q2, -, -⟩ := open_is keyA 5 1 (epoL 5) 18 (by omega) (by omega) (epoL_bytes 5) (by rw [epoL_length]; omega) (by omega)
  have hR := pen_read C5 P5 hq (by rw [F5.left]; decide) (by rw [F5.len]; omega) 3
  rw [e2, q1, q2, epoL_5] at hR
  have HR := hide hR
  clear hR hL C5 P5 F5 F4 e0 e1 e2 t0 t1 v0 v1 q1 q2 z4 n4 l4
  go_wp2_with fail
  refine HR.out.mono ?_
  rintro e W6 ⟨Z6, p6, c6, rfl, B6, C6, P6, -⟩
  have hbel := C6.bel
  have s1 : (convert 37 9 (.slice p6 13 c6)).run Tryd.prog W6 = .ok (.string ⟨#[101, 112, 111, 99, 104, 5, 0, 0, 0, 0, 0, 0, 0]⟩) W6 := str_bytes B6.bs
  clear HR C6 P6 B6
  go_wp2_with fail
  go_ret
  exact ⟨rfl, hbel⟩
#print axioms awake_any
end Go.Proofs.YthiinflodgjdjaaDoor
