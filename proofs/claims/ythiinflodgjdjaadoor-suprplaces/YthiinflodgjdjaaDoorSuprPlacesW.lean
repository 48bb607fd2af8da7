
/- The law SuprPlaces answers true for every key, epoch and number, wherever quar.rounds reads as its text says; nothing that was there is turned. -/
import Derived.Test.YthiinflodgjdjaaDoorUAwake
import Derived.Test.YthiinflodgjdjaaDoorXFair
namespace Go.Proofs.YthiinflodgjdjaaDoor
open Go.RowKit
set_option maxRecDepth 20000

set_option maxRecDepth 100000 in
set_option maxHeartbeats 8000000 in
theorem suprPlaces_walk (key : List Int) (n which : Int) (w : World) (hk : IsBytes key) (hkl : key.length = 32) (hn : 0 ≤ n ∧ n < 18446744073709551616) (hq : Glob w) :
    Calls Tryd.prog 6 #[.agg (bV key), .int .u64 n, .int .i64 which] w fun e w' => e = .returned (.bool true) ∧ Below w.heap.size w w' := by
  have hS := KK.start w key hq
  go_enter Tryd.func6, Tryd.ntmps6
  go_wp2_with fail
  have hbw := hS.bel
  have kk0 := hS.kk
  generalize (w.alloc (Obj.cells (bV key) 27)) = W0 at *
  refine (new_any 4 40 4 40 rfl rfl W0).mono ?_
  rintro e W ⟨g, Z, rfl, hD, hF, hB⟩
  have C : Cl w W Z g (DS.new 4 40) := ⟨hD, fun k hk => Nat.le_trans hbw.size (hF k hk), hbw.trans (hB.mono hbw.size)⟩
  have kk : Has Z W w.heap.size (.cells (bV key) 27 (0, 0)) := ⟨(kk0.below hB : OwnB _ _ _ _), fun hs => by have := hF _ hs; have := kk0.lt; omega⟩
  clear hD hF hB hS kk0 hbw
  have kk1 := kk.1
  go_wp2_with (refine wpList_loadA arrT32 (by rfl) _ (by rfl) w.heap.size (by rfl) (bV key) kk1 (by rw [bV_size, hkl]) ?_)
  refine (pen_new C hk hkl (boot := 1) (by omega)).mono ?_
  rintro e W1 ⟨gp, rfl, hgp, P, b1⟩
  replace C := C.below b1
  replace kk := kk.below b1
  have kk1 := kk.1
  have hq1 : Glob W1 := hq.below C.bel hq.lt
  have hA := hide (blank_any key 40 W1 hk hkl (by omega) hq1)
  clear b1 hgp
  obtain ⟨B, hB⟩ : ∃ B, openB key (zL 40) = B := ⟨_, rfl⟩
  rw [hB] at hA
  cases B with
  | true =>
    go_wp2_with (refine wpList_loadA arrT32 (by rfl) _ (by rfl) w.heap.size (by rfl) (bV key) kk1 (by rw [bV_size, hkl]) ?_)
    refine hA.out.mono ?_
    rintro e W2 ⟨rfl, b2⟩
    have hb2 := C.bel.trans (b2.mono C.bel.size)
    go_wp2_with fail
    refine (awake_any W2 (hq1.below b2 hq1.lt)).mono ?_
    rintro e W3 ⟨rfl, b3⟩
    have hb3 := hb2.trans (b3.mono hb2.size)
    go_wp2_with fail
    go_ret
    exact ⟨rfl, hb3⟩
  | false =>
    go_wp2_with (refine wpList_loadA arrT32 (by rfl) _ (by rfl) w.heap.size (by rfl) (bV key) kk1 (by rw [bV_size, hkl]) ?_)
    refine hA.out.mono ?_
    rintro e W2 ⟨rfl, b2⟩
    have C2 := C.below b2
    have P2 := P.below b2
    clear hA C P kk kk1 b2 hq1
    go_wp2_with fail
    rw [conv_bytes]
    have hL : Bs (W2.alloc (Obj.cells #[Value.int IntKind.u8 101, Value.int IntKind.u8 112, Value.int IntKind.u8 111, Value.int IntKind.u8 99, Value.int IntKind.u8 104] 5 (5, 6))) (some ⟨W2.heap.size, 0, none⟩) 5 5 wordL := Bs.lit rfl rfl (bytes_lit rfl) rfl (by omega)
    replace C2 := C2.alloc (Obj.cells #[Value.int IntKind.u8 101, Value.int IntKind.u8 112, Value.int IntKind.u8 111, Value.int IntKind.u8 99, Value.int IntKind.u8 104] 5 (5, 6))
    replace P2 := P2.alloc (Obj.cells #[Value.int IntKind.u8 101, Value.int IntKind.u8 112, Value.int IntKind.u8 111, Value.int IntKind.u8 99, Value.int IntKind.u8 104] 5 (5, 6))
    generalize (W2.alloc (Obj.cells #[Value.int IntKind.u8 101, Value.int IntKind.u8 112, Value.int IntKind.u8 111, Value.int IntKind.u8 99, Value.int IntKind.u8 104] 5 (5, 6))) = W3 at *
    generalize W2.heap.size = gl at *
    go_wp2_with fail
    refine (rput_ok n 8 W3 hn (by omega)).mono ?_
    rintro e W4 ⟨ap, cp, rfl, hO, b4⟩
    replace C2 := C2.below b4
    replace P2 := P2.below b4
    obtain ⟨ct, W5, hr, hT, b5⟩ := run_append_new (P := Tryd.prog) Tryd.underlying37 Tryd.info_u8 37 W4 (some ⟨gl, 0, none⟩) 5 5 wordL (hL.below b4) ap 8 cp (putL n 8) hO.bs (fun h => by cases h) (by omega) (by omega)
    replace hT : OwnS 5 W4.heap.size W5 (some ⟨W4.heap.size, 0, none⟩) 13 ct (epoL n) := hT
    have C5 := C2.below b5
    have P5 := P2.below b5
    have hgp5 : gp < W4.heap.size := P2.lt
    have hZ := C2.dk.lt
    have hw4 := C2.size
    clear C2 P2 hL hO b4 b5
    have hu := u64_and1 n hn
    have hwp : IntKind.i64.wrap (n % 2) = n % 2 := by rw [IntKind.wrap_i64]; omega
    obtain ⟨j, hj, hj2⟩ : ∃ j : Nat, n % 2 = (j : Int) ∧ (j = 0 ∨ j = 1) := ⟨(n % 2).toNat, by omega, by omega⟩
    rw [hj] at hu hwp
    have hm : bits .and .i64 which 3 = which % 4 := i64_mask which 2 (by decide) 3 (by decide)
    have hzT := hT.bs
    have hcap := hzT.le_cap
    have hcapm := hzT.cap_le
    have hlen := epoL_length n
    have hjj : n % 2 = (j : Int) := hj
    rcases (show which % 4 = 0 ∨ which % 4 = 1 ∨ which % 4 = 2 ∨ which % 4 = 3 by omega) with h4 | h4 | h4 | h4
    all_goals rw [h4] at hm
    · clear h4
      have hWr := hide (pen_write C5 P5 hq (of_decide_eq_true rfl) (of_decide_eq_true rfl) (of_decide_eq_true rfl) (by omega) (j : Int) hzT 18 rfl (by omega))
      clear C5 P5
      go_wp2_with (at_builtin; refine wpList_append_run (by rfl) (.tmp 28) (.tmp 30) 37 (by rfl) _ _ _ _ (by rfl) (by rfl) hr ?_)
      refine hWr.out.mono ?_
      rintro e W6 ⟨Z6, x, rfl, hx, C6, P6, -⟩
      clear hWr
      have f2 : ((DS.new 4 40).puts (j : Int) x).n = 4 := (puts_is (DS.new 4 40) j x).2.1
      have f3 : ((DS.new 4 40).puts (j : Int) x).left = -1 := (puts_is (DS.new 4 40) j x).2.2
      have f4 : ((DS.new 4 40).puts (j : Int) x).tr.length = 1 := puts_len (DS.new 4 40) j x
      have hat : ((DS.new 4 40).puts (j : Int) x).at_ j = sealL key 1 0 (epoL n) 18 := by
        rw [puts_at _ _ _ _ (show j < (DS.new 4 40).n by show j < 4; omega), if_pos rfl, hx.out]
        exact fitL_sealL _ _ _ _ _ _ (by omega) rfl
      have hao : ∀ k, k ≠ j → ((DS.new 4 40).puts (j : Int) x).at_ k = zL 40 := fun k hk => by
        rw [puts_at _ _ _ _ (show j < (DS.new 4 40).n by show j < 4; omega), if_neg hk, new_at]
      obtain ⟨hT1, hV1⟩ : tellB key (sealL key 1 0 (epoL n) 18) (j : Int) = true ∧ tellV key (sealL key 1 0 (epoL n) 18) (j : Int) = n := by
        have ht := tell_epoch (key := key) (boot := 1) (seq := 0) (n := n) (m := 18) (by omega) (by omega) hn (by omega) (by omega)
        rw [hjj] at ht
        exact ht
      generalize (DS.new 4 40).puts (j : Int) x = D6 at *
      have hLa := hide (ulast_one C6 P6 hq f3 (by rw [f4]; decide) (by rw [f2]; decide) j hj2 _ _ hat hao hB n true hV1 hT1 hn.1)
      clear hat hao hT1 hV1 f2 f3 f4 C6 P6 hx
      go_wp2_with fail
      refine hLa.out.mono ?_
      rintro e W7 ⟨Z7, D7, rfl, -, C7, -, -⟩
      have hbel := C7.bel
      clear hLa C7
      go_wp2_with fail
      refine (awake_any W7 (hq.below hbel hq.lt)).mono ?_
      rintro e W8 ⟨rfl, b8⟩
      have hb8 := hbel.trans (b8.mono hbel.size)
      go_wp2_with fail
      go_ret
      exact ⟨rfl, hb8⟩
    · clear h4
      obtain ⟨i, hi, hi2⟩ : ∃ i : Nat, IntKind.i64.wrap (1 - (j : Int)) = (i : Int) ∧ (i = 0 ∨ i = 1) := ⟨1 - j, by rw [IntKind.wrap_i64]; omega, by omega⟩
      have hij : ¬ (j : Int) = (i : Int) := by rw [IntKind.wrap_i64] at hi; omega
      have hWr := hide (pen_write C5 P5 hq (of_decide_eq_true rfl) (of_decide_eq_true rfl) (of_decide_eq_true rfl) (by omega) (i : Int) hzT 18 rfl (by omega))
      clear C5 P5
      go_wp2_with (at_builtin; refine wpList_append_run (by rfl) (.tmp 28) (.tmp 30) 37 (by rfl) _ _ _ _ (by rfl) (by rfl) hr ?_)
      refine hWr.out.mono ?_
      rintro e W6 ⟨Z6, x, rfl, hx, C6, P6, -⟩
      clear hWr
      have f2 : ((DS.new 4 40).puts (i : Int) x).n = 4 := (puts_is (DS.new 4 40) i x).2.1
      have f3 : ((DS.new 4 40).puts (i : Int) x).left = -1 := (puts_is (DS.new 4 40) i x).2.2
      have f4 : ((DS.new 4 40).puts (i : Int) x).tr.length = 1 := puts_len (DS.new 4 40) i x
      have hat : ((DS.new 4 40).puts (i : Int) x).at_ i = sealL key 1 0 (epoL n) 18 := by
        rw [puts_at _ _ _ _ (show i < (DS.new 4 40).n by show i < 4; omega), if_pos rfl, hx.out]
        exact fitL_sealL _ _ _ _ _ _ (by omega) rfl
      have hao : ∀ k, k ≠ i → ((DS.new 4 40).puts (i : Int) x).at_ k = zL 40 := fun k hk => by
        rw [puts_at _ _ _ _ (show i < (DS.new 4 40).n by show i < 4; omega), if_neg hk, new_at]
      obtain ⟨hT1, hV1⟩ : tellB key (sealL key 1 0 (epoL n) 18) (i : Int) = false ∧ tellV key (sealL key 1 0 (epoL n) 18) (i : Int) = 0 := tell_bad (i : Int) (epoL_bytes n) (by omega) (by rw [epoV_epoL n hn, hjj, decide_eq_false hij, Bool.and_false])
      generalize (DS.new 4 40).puts (i : Int) x = D6 at *
      have hLa := hide (ulast_one C6 P6 hq f3 (by rw [f4]; decide) (by rw [f2]; decide) i hi2 _ _ hat hao hB 0 false hV1 hT1 (Int.le_refl _))
      clear hat hao hT1 hV1 f2 f3 f4 C6 P6 hx
      go_wp2_with fail
      refine hLa.out.mono ?_
      rintro e W7 ⟨Z7, D7, rfl, -, C7, -, -⟩
      have hbel := C7.bel
      clear hLa C7
      go_wp2_with fail
      refine (awake_any W7 (hq.below hbel hq.lt)).mono ?_
      rintro e W8 ⟨rfl, b8⟩
      have hb8 := hbel.trans (b8.mono hbel.size)
      go_wp2_with fail
      go_ret
      exact ⟨rfl, hb8⟩
    · clear h4
      have hs := cutTo hzT .i64 12 12 rfl (by omega)
      have hz2 := hzT.taken 12 (by omega)
      have hWr := hide (pen_write C5 P5 hq (of_decide_eq_true rfl) (of_decide_eq_true rfl) (of_decide_eq_true rfl) (by omega) (j : Int) hz2 18 rfl (by omega))
      clear C5 P5
      go_wp2_with (at_builtin; refine wpList_append_run (by rfl) (.tmp 28) (.tmp 30) 37 (by rfl) _ _ _ _ (by rfl) (by rfl) hr ?_)
      refine hWr.out.mono ?_
      rintro e W6 ⟨Z6, x, rfl, hx, C6, P6, -⟩
      clear hWr
      have f2 : ((DS.new 4 40).puts (j : Int) x).n = 4 := (puts_is (DS.new 4 40) j x).2.1
      have f3 : ((DS.new 4 40).puts (j : Int) x).left = -1 := (puts_is (DS.new 4 40) j x).2.2
      have f4 : ((DS.new 4 40).puts (j : Int) x).tr.length = 1 := puts_len (DS.new 4 40) j x
      have hat : ((DS.new 4 40).puts (j : Int) x).at_ j = sealL key 1 0 ((epoL n).take 12) 18 := by
        rw [puts_at _ _ _ _ (show j < (DS.new 4 40).n by show j < 4; omega), if_pos rfl, hx.out]
        exact fitL_sealL _ _ _ _ _ _ (by rw [List.length_take]; omega) rfl
      have hao : ∀ k, k ≠ j → ((DS.new 4 40).puts (j : Int) x).at_ k = zL 40 := fun k hk => by
        rw [puts_at _ _ _ _ (show j < (DS.new 4 40).n by show j < 4; omega), if_neg hk, new_at]
      obtain ⟨hT1, hV1⟩ : tellB key (sealL key 1 0 ((epoL n).take 12) 18) (j : Int) = false ∧ tellV key (sealL key 1 0 ((epoL n).take 12) 18) (j : Int) = 0 := tell_bad (j : Int) ((epoL_bytes n).take 12) (by rw [List.length_take]; omega) (by rw [epoOk_len (by rw [List.length_take]; omega), Bool.false_and])
      generalize (DS.new 4 40).puts (j : Int) x = D6 at *
      have hLa := hide (ulast_one C6 P6 hq f3 (by rw [f4]; decide) (by rw [f2]; decide) j hj2 _ _ hat hao hB 0 false hV1 hT1 (Int.le_refl _))
      clear hat hao hT1 hV1 f2 f3 f4 C6 P6 hx
      go_wp2_with fail
      refine hLa.out.mono ?_
      rintro e W7 ⟨Z7, D7, rfl, -, C7, -, -⟩
      have hbel := C7.bel
      clear hLa C7
      go_wp2_with fail
      refine (awake_any W7 (hq.below hbel hq.lt)).mono ?_
      rintro e W8 ⟨rfl, b8⟩
      have hb8 := hbel.trans (b8.mono hbel.size)
      go_wp2_with fail
      go_ret
      exact ⟨rfl, hb8⟩
    · clear h4
      have hcell := hT.cell 0 (by omega)
      have hfro := hT.frozen 0
      have ho := OnlyAt.setCell W4.heap.size 0 W5 (.int .u8 69)
      have hT2 := hT.set 0 69 (by omega)
      have C6 := C5.only ho (fun hs => absurd (hZ _ hs) (Nat.lt_irrefl _)) hw4
      have P6 := P5.only ho (by omega)
      have hz2 := hT2.bs
      clear C5 P5
      have hWr := hide (pen_write C6 P6 hq (of_decide_eq_true rfl) (of_decide_eq_true rfl) (of_decide_eq_true rfl) (by omega) (j : Int) hz2 18 rfl (by omega))
      clear C6 P6
      go_wp2_with (at_builtin; refine wpList_append_run (by rfl) (.tmp 28) (.tmp 30) 37 (by rfl) _ _ _ _ (by rfl) (by rfl) hr ?_)
      refine hWr.out.mono ?_
      rintro e W6 ⟨Z6, x, rfl, hx, C7, P7, -⟩
      clear hWr
      have f2 : ((DS.new 4 40).puts (j : Int) x).n = 4 := (puts_is (DS.new 4 40) j x).2.1
      have f3 : ((DS.new 4 40).puts (j : Int) x).left = -1 := (puts_is (DS.new 4 40) j x).2.2
      have f4 : ((DS.new 4 40).puts (j : Int) x).tr.length = 1 := puts_len (DS.new 4 40) j x
      have hat : ((DS.new 4 40).puts (j : Int) x).at_ j = sealL key 1 0 ((epoL n).set 0 69) 18 := by
        rw [puts_at _ _ _ _ (show j < (DS.new 4 40).n by show j < 4; omega), if_pos rfl, hx.out]
        exact fitL_sealL _ _ _ _ _ _ (by rw [List.length_set]; omega) rfl
      have hao : ∀ k, k ≠ j → ((DS.new 4 40).puts (j : Int) x).at_ k = zL 40 := fun k hk => by
        rw [puts_at _ _ _ _ (show j < (DS.new 4 40).n by show j < 4; omega), if_neg hk, new_at]
      obtain ⟨hT1, hV1⟩ : tellB key (sealL key 1 0 ((epoL n).set 0 69) 18) (j : Int) = false ∧ tellV key (sealL key 1 0 ((epoL n).set 0 69) 18) (j : Int) = 0 := tell_bad (j : Int) hz2.bytes (by rw [List.length_set]; omega) (by rw [epoOk_word (fun e => by have := congrArg (fun l => l.getD 0 0) e; simp [wordL, epoL] at this), Bool.false_and])
      generalize (DS.new 4 40).puts (j : Int) x = D6 at *
      have hLa := hide (ulast_one C7 P7 hq f3 (by rw [f4]; decide) (by rw [f2]; decide) j hj2 _ _ hat hao hB 0 false hV1 hT1 (Int.le_refl _))
      clear hat hao hT1 hV1 f2 f3 f4 C7 P7 hx
      go_wp2_with fail
      refine hLa.out.mono ?_
      rintro e W7 ⟨Z7, D7, rfl, -, C8, -, -⟩
      have hbel := C8.bel
      clear hLa C8
      go_wp2_with fail
      refine (awake_any W7 (hq.below hbel hq.lt)).mono ?_
      rintro e W8 ⟨rfl, b8⟩
      have hb8 := hbel.trans (b8.mono hbel.size)
      go_wp2_with fail
      go_ret
      exact ⟨rfl, hb8⟩
#print axioms suprPlaces_walk
end Go.Proofs.YthiinflodgjdjaaDoor
