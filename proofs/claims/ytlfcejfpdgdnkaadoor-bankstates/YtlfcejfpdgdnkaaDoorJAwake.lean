
/- The law's awake answers true, wherever quar.rounds reads as its text says; nothing that was there is turned. -/
import Derived.Test.YtlfcejfpdgdnkaaDoorXBank
import Derived.Test.YtlfcejfpdgdnkaaDoorXBase
import Derived.Test.YtlfcejfpdgdnkaaDoorUEval
namespace Go.Proofs.YtlfcejfpdgdnkaaDoor
open Go.RowKit
set_option maxRecDepth 20000

def keyA : List Int := 1 :: zL 31
theorem keyA_bytes : IsBytes keyA := bytes_lit (by kernel_rfl)
theorem keyA_length : keyA.length = 32 := by kernel_rfl
theorem ones13 : onesL 1 3 = [7] := by kernel_rfl
theorem set1 : setB (zL 1) 1 = [2] := by kernel_rfl
theorem xor72 : xorZ [7] [2] = [5] := by kernel_rfl
theorem bn1 : bN 2 1 (bitB [7] 1 != bitB (zL 1) 1) = 5 := by kernel_rfl
theorem bn2 : bN 2 1 (!bitB [7] 1) = 4 := by kernel_rfl
theorem bn3 : bN 2 1 (bitB [7] 1 != bitB [2] 1) = 4 := by kernel_rfl
theorem bn4 : bN 2 1 (bitB [5] 1 != bitB (zL 1) 1) = 4 := by kernel_rfl
theorem st8 : stB [8] 3 = false := by kernel_rfl
theorem stN : stB [] 3 = false := by kernel_rfl
theorem Bz.cell1 {Z : Own} {w : World} {k c : Nat} {x : Int} (h : Bz Z w (some ⟨k, 0, none⟩) 1 c [x]) : w.cell? ⟨k, 0, none⟩ = some (.int .u8 x) := by
  rcases h.bs.place with h1 | ⟨b, off, e, hc⟩
  · have := h.bs.le_cap; omega
  · have := hc 0 (by omega)
    cases e
    simpa using this

set_option maxRecDepth 100000 in
set_option maxHeartbeats 8000000 in
theorem awake_any (w : World) (hq : Glob w) : Calls Tryd.prog 14 #[] w fun e w' => e = .returned (.bool true) ∧ Below w.heap.size w w' := by
  go_enter Tryd.func14, Tryd.ntmps14
  go_wp2_with fail
  refine (new_any 8 40 8 40 rfl rfl w).mono ?_
  rintro e W ⟨g, Z, rfl, hD, hF, hB⟩
  have C : Cl w W Z g (DS.new 8 40) := ⟨hD, hF, hB⟩
  clear hD hF hB
  go_wp2_with (refine wpList_build_is rfl 29 _ rfl (bV keyA) (by kernel_rfl) ?_)
  refine (pen_new C keyA_bytes keyA_length (boot := 5) (by omega)).mono ?_
  rintro e W1 ⟨gp, rfl, -, P, b1⟩
  replace C := C.below b1
  clear b1
  have hN := hide (bn_new C P 2 3 1 (by decide) (by omega) (by omega))
  clear C P
  go_wp2_with fail
  refine hN.out.mono ?_
  rintro e W2 ⟨gb, gh, gf, rfl, H, -, -⟩
  clear hN
  rw [ones13] at H
  have q := DQ.start 8 40
  have hS := hide (bn_state H (by omega))
  go_wp2_with fail
  refine hS.out.mono ?_
  rintro e W3 ⟨ks, cs, rfl, hks, Bs3, b3⟩
  have hl := H.lts
  have hxs : ¬ three gp gh gf ks := three_no (by omega) (by omega) (by omega)
  replace H := H.below b3
  clear hS b3 hl hks
  have hR := hide (bn_read H q hq (by omega) 1 (by omega) 5 bn1 (by omega) [] false (openR_shut blankF) blankF)
  clear H
  go_wp2_with fail
  refine hR.out.mono ?_
  rintro e W4 ⟨Z4, p4, c4, D4, rfl, -, H, q4, k4, -, -⟩
  replace Bs3 := k4.bz Bs3 (fun p hp => by cases hp; exact hxs)
  clear hR k4 q
  go_wp2_with fail
  rw [conv_bytes]
  have hL : Bs (W4.alloc (Obj.cells #[Value.int IntKind.u8 97] 5 (1, 2))) (some ⟨W4.heap.size, 0, none⟩) 1 1 [97] := Bs.lit rfl rfl (bytes_lit rfl) rfl (by omega)
  have b5 := below_alloc (Below.refl W4.heap.size W4) (Obj.cells #[Value.int IntKind.u8 97] 5 (1, 2))
  replace H := H.below b5
  replace Bs3 := Bs3.step (Step.of_below Z4 b5)
  clear b5
  generalize (W4.alloc (Obj.cells #[Value.int IntKind.u8 97] 5 (1, 2))) = W5 at *
  have hA := hide (bn_write (sq := 0) H q4 hq (by omega) (by omega) (by omega) 1 (by omega) 4 bn2 (by omega) hL 18 rfl (by omega))
  clear H hL
  go_wp2_with fail
  refine hA.out.mono ?_
  rintro e W6 ⟨Z6, D6, rfl, H, q6, k6, -⟩
  replace Bs3 := k6.bz Bs3 (fun p hp => by cases hp; exact hxs)
  rw [set1] at H
  clear hA k6 q4
  obtain ⟨r1, r2, -, -⟩ := open_is keyA 5 ((0 : Nat) : Int) [97] 18 (by omega) (by omega) (bytes_lit rfl) (by decide) (by omega)
  have u1 : updT (fun _ => zL 40) 4 (sealL keyA 5 ((0 : Nat) : Int) [97] 18) 4 = sealL keyA 5 ((0 : Nat) : Int) [97] 18 := updT_same _ _ _
  have u2 : updT (fun _ => zL 40) 4 (sealL keyA 5 ((0 : Nat) : Int) [97] 18) 5 = zL 40 := updT_other _ _ (by omega)
  generalize updT (fun _ => zL 40) 4 (sealL keyA 5 ((0 : Nat) : Int) [97] 18) = T at *
  rw [← u1] at r1 r2
  have r3 : openB keyA (T 5) = false := by rw [u2]; exact blankF
  clear u1 u2
  have HR1 := hide r1
  have HR2 := hide r2
  have HR3 := hide r3
  clear r1 r2 r3
  have hR := hide (bn_read H q6 hq (by omega) 1 (by omega) 4 bn3 (by omega) [97] true HR1.out HR2.out)
  have hl := H.lts
  clear H
  go_wp2_with fail
  refine hR.out.mono ?_
  rintro e W7 ⟨Z7, p7, c7, D7, rfl, B7, H, q7, k7, -, n7⟩
  have hx7 : ∀ p, p7 = some p → ¬ three gp gh gf p.block := fun p hp => by have := n7 p hp; exact three_no (by omega) (by omega) (by omega)
  have HX7 := hide hx7
  replace Bs3 := k7.bz Bs3 (fun p hp => by cases hp; exact hxs)
  clear hR k7 q6 hl n7 hx7
  have hS := hide (bn_state H (by omega))
  go_wp2_with fail
  refine hS.out.mono ?_
  rintro e W8 ⟨kt, ct, rfl, hkt, Bt, b8⟩
  have hl := H.lts
  have hxt : ¬ three gp gh gf kt := three_no (by omega) (by omega) (by omega)
  replace H := H.below b8
  replace B7 := B7.step (Step.of_below _ b8)
  replace Bs3 := Bs3.step (Step.of_below _ b8)
  clear hS b8 hl hkt
  have hC := hide (bn_commit H)
  clear H
  go_wp2_with fail
  refine hC.out.mono ?_
  rintro e W9 ⟨rfl, H, k9⟩
  replace B7 := k9.bz B7 HX7.out
  replace Bs3 := k9.bz Bs3 (fun p hp => by cases hp; exact hxs)
  replace Bt := k9.bz Bt (fun p hp => by cases hp; exact hxt)
  rw [xor72] at H
  clear hC k9
  have hR := hide (bn_read H q7 hq (by omega) 1 (by omega) 4 bn4 (by omega) [97] true HR1.out HR2.out)
  have hl := H.lts
  clear H
  go_wp2_with fail
  refine hR.out.mono ?_
  rintro e W10 ⟨Z10, p10, c10, D10, rfl, B10, H, q10, k10, -, n10⟩
  have hx10 : ∀ p, p10 = some p → ¬ three gp gh gf p.block := fun p hp => by have := n10 p hp; exact three_no (by omega) (by omega) (by omega)
  have HX10 := hide hx10
  replace B7 := k10.bz B7 HX7.out
  replace Bs3 := k10.bz Bs3 (fun p hp => by cases hp; exact hxs)
  replace Bt := k10.bz Bt (fun p hp => by cases hp; exact hxt)
  clear hR k10 q7 hl n10 hx10
  have hS := hide (bn_state H (by omega))
  go_wp2_with fail
  refine hS.out.mono ?_
  rintro e W11 ⟨ku, cu, rfl, hku, Bu, b11⟩
  have hl := H.lts
  have hxu : ¬ three gp gh gf ku := three_no (by omega) (by omega) (by omega)
  replace H := H.below b11
  replace B7 := B7.step (Step.of_below _ b11)
  replace B10 := B10.step (Step.of_below _ b11)
  replace Bs3 := Bs3.step (Step.of_below _ b11)
  replace Bt := Bt.step (Step.of_below _ b11)
  clear hS b11 hl hku
  have h7 : StP [7] 3 := by rw [← ones13]; exact onesL_stP rfl 3 (Nat.le_refl _)
  have hLd := hide (bn_load H Bs3.bs h7)
  clear H h7
  go_wp2_with fail
  refine hLd.out.mono ?_
  rintro e W12 ⟨rfl, H, k12⟩
  replace B7 := k12.bz B7 HX7.out
  replace B10 := k12.bz B10 HX10.out
  replace Bs3 := k12.bz Bs3 (fun p hp => by cases hp; exact hxs)
  replace Bt := k12.bz Bt (fun p hp => by cases hp; exact hxt)
  replace Bu := k12.bz Bu (fun p hp => by cases hp; exact hxu)
  clear hLd k12
  have hR := hide (bn_read H q10 hq (by omega) 1 (by omega) 5 bn1 (by omega) [] false (openR_shut HR3.out) HR3.out)
  clear H
  go_wp2_with fail
  refine hR.out.mono ?_
  rintro e W13 ⟨Z13, p13, c13, D13, rfl, -, H, -, k13, -, -⟩
  replace B7 := k13.bz B7 HX7.out
  replace B10 := k13.bz B10 HX10.out
  replace Bs3 := k13.bz Bs3 (fun p hp => by cases hp; exact hxs)
  replace Bt := k13.bz Bt (fun p hp => by cases hp; exact hxt)
  replace Bu := k13.bz Bu (fun p hp => by cases hp; exact hxu)
  have s7 : (convert 36 9 (.slice p7 1 c7)).run Tryd.prog W13 = .ok (.string ⟨#[97]⟩) W13 := str_bytes B7.bs
  have s10 : (convert 36 9 (.slice p10 1 c10)).run Tryd.prog W13 = .ok (.string ⟨#[97]⟩) W13 := str_bytes B10.bs
  have e1 := Bs3.cell1
  have e2 := Bt.cell1
  have e3 := Bu.cell1
  have hsc := Bs3.bs.le_cap
  have htc := Bt.bs.le_cap
  have huc := Bu.bs.le_cap
  clear hR k13 q10 B7 B10 Bs3 Bt Bu HX7 HX10 HR1 HR2 HR3 hxs hxt hxu
  have b14 := below_alloc (Below.refl W13.heap.size W13) (Obj.cells #[Value.int IntKind.u8 8] 5)
  have hL : Bs (W13.alloc (Obj.cells #[Value.int IntKind.u8 8] 5)) (some ⟨W13.heap.size, 0, none⟩) 1 1 [8] := Bs.lit rfl rfl (bytes_lit rfl) rfl (by omega)
  have H14 := H.below b14
  have hl1 := hide (bank_load_no H14.bk hL st8)
  have hl2 := hide (bank_load_no H14.bk (Bs.nil _) stN)
  have hbel := hide H14.cl.bel
  clear H hL b14 H14
  go_wp2_with fail
  refine hl1.out.mono ?_
  rintro e W14 ⟨rfl, rfl⟩
  clear hl1
  go_wp2_with fail
  refine hl2.out.mono ?_
  rintro e W15 ⟨rfl, rfl⟩
  clear hl2
  go_wp2_with fail
  go_ret
  exact ⟨rfl, hbel.out⟩
#print axioms awake_any
end Go.Proofs.YtlfcejfpdgdnkaaDoor
