
/- The walk of dumbwaiterlaw8.BootPlaces: for any number and any count it answers true; nothing that was there is turned. -/
import Derived.Test.YtgkhaedlfmloeaaDoorBSince
import Derived.Test.YtgkhaedlfmloeaaDoorLongRel
namespace Go.Proofs.YtgkhaedlfmloeaaDoor
open Go.RowKit

theorem u32_and1 (n : Int) (h0 : 0 ≤ n) (h1 : n < 4294967296) : bits .and .u32 n 1 = n % 2 := by
  rw [u32_and n 1 h0 h1 (by decide) (by decide), show (1 : Int).toNat = 2 ^ 1 - 1 from rfl, Nat.and_two_pow_sub_one_eq_mod]
  omega
theorem u32_and31 (n : Int) (h0 : 0 ≤ n) (h1 : n < 4294967296) : bits .and .u32 n 2147483647 = n % 2147483648 := by
  rw [u32_and n _ h0 h1 (by decide) (by decide), show (2147483647 : Int).toNat = 2 ^ 31 - 1 from rfl, Nat.and_two_pow_sub_one_eq_mod]
  omega
theorem plB_3 (n : Int) : (3 : Int) - n % 2 = (plB n 2 : Nat) := by
  unfold plB
  split <;> omega
theorem Four.below {w w' : World} {te o m i pl size : Nat} {zs : List Int} (h : Four w te o m i pl size zs) (hb : Below w.heap.size w w') : Four w' te o m i pl size zs :=
  have ht : te < w.heap.size := World.block_lt_of_cell? w _ h.k0
  { k0 := (hb.cell ht).trans h.k0
    a0 := (hb.cell (p := ⟨te, o + 1, none⟩) ht).trans h.a0
    a1 := (hb.cell (p := ⟨te, o + 15 + 1, none⟩) ht).trans h.a1
    k2 := (hb.cell (p := ⟨te, o + 30, none⟩) ht).trans h.k2
    a2 := (hb.cell (p := ⟨te, o + 30 + 1, none⟩) ht).trans h.a2
    b2 := (hb.cell (p := ⟨te, o + 30 + 14, none⟩) ht).trans h.b2
    k3 := (hb.cell (p := ⟨te, o + 45, none⟩) ht).trans h.k3
    own := h.own.below hb }

theorem Four.drew {w : World} {te o m i pl size : Nat} {zs : List Int} (h : Four w te o m i pl size zs) : Four w.drew te o m i pl size zs := ⟨h.k0, h.a0, h.a1, h.k2, h.a2, h.b2, h.k3, h.own⟩

/-- What stands in the loop: F was had last, k were had in it. -/
structure PlacesI (w wr : World) (Z : Own) (g k : Nat) (D : DS) (F : Int) : Prop where
  cl : Cl w wr Z g D
  size : D.size = 30
  n : D.n = 5
  wait : D.wait = []
  left : D.left = -1
  tr : D.tr.length ≤ 2 + 4 * k
  top : topN D 2 = F
  lo : 0 ≤ F
  hi : F < 2147483648 + k

/-- The loop's start: what stood there, and what is told. -/
theorem places_first (F : Int) (hF : 0 ≤ F) (hF2 : F < 2147483648) (x : BV) (hx : x.zs = recL F) : topN ((DS.new 5 30).writes (plB F 2) x).flush 2 = F := by
  have hb : ∀ j, (((DS.new 5 30).writes (plB F 2) x).flush.blk j) = if j = plB F 2 then (x, x) else (BV.nil, BV.nil) := fun j => by
    show updF (updW (fun _ => (BV.nil, BV.nil)) (plB F 2) x) (plB F 2) x j = _
    unfold updF updW
    by_cases h : j = plB F 2
    · simp [h]
    · simp [h]
  exact topN_put (D := DS.new 5 30) (N := 0) rfl (plB_or F 2) (fun j hj => by rw [hb, if_neg hj]; rfl) (by rw [hb, if_pos rfl, hx]; exact recN_fit _ _ (by show 24 ≤ 30; omega) (by omega)) (topN_new _ _ _) hF
theorem bits7 (n : Int) : ∃ T : Nat, bits .and .i64 n 7 = (T : Int) ∧ T ≤ 7 := ⟨(n % 8).toNat, by rw [i64_and7]; omega, by omega⟩
theorem rec24 (n : Int) : (fitL 30 (recL n)).take 24 = recL n := by
  rw [fitL_rec _ _ (by omega), List.take_append_of_le_length (by rw [recL_length]; omega), List.take_of_length_le (by rw [recL_length]; omega)]

set_option maxRecDepth 100000 in
set_option maxHeartbeats 8000000 in
theorem bootPlaces_walk (f times : Int) (w : World) (hf : 0 ≤ f ∧ f < 4294967296) :
    Calls Tryd.prog 3 #[.int .u32 f, .int .i64 times] w fun e w' => e = .returned (.bool true) ∧ Below w.heap.size w w' := by
  obtain ⟨T, hT, hT7⟩ := bits7 times
  obtain ⟨F, hF, hF0, hF1⟩ : ∃ F, bits BinOp.and IntKind.u32 f 2147483647 = F ∧ 0 ≤ F ∧ F < 2147483648 := ⟨_, rfl, by rw [u32_and31 f hf.1 hf.2]; omega, by rw [u32_and31 f hf.1 hf.2]; omega⟩
  go_enter Tryd.func3, Tryd.ntmps3
  go_wp2_with fail
  refine (new_any 5 30 5 30 rfl rfl w).mono ?_
  rintro e W ⟨g, Z, rfl, hD, hFr, hB⟩
  have C : Cl w W Z g (DS.new 5 30) := ⟨hD, hFr, hB⟩
  clear hD hFr hB
  by_cases h0 : F = 0
  · subst h0
    have HI0 : Hid (PlacesI w W Z g 0 (DS.new 5 30) 0) := ⟨C, rfl, rfl, rfl, rfl, Nat.zero_le _, topN_new _ _ _, by omega, by omega⟩
    clear C
    go_wp2_with fail
    go_loopw [0, 6] (fun v i wr => ∃ (k : Nat) (Z : Own) (D : DS) (G : Int), k ≤ T ∧ i = .int .i64 k ∧ v = .int .u32 G ∧ PlacesI w wr Z g k D G) (fun _ i _ => T - (intOf i).toNat)
    case atStart => exact ⟨0, _, _, _, by omega, rfl, rfl, HI0.out⟩
    case round =>
      clear HI0
      obtain ⟨k, Z1, D, G, hk, rfl, rfl, hI⟩ := hrel
      by_cases hlt : k < T
      · obtain ⟨L, hL⟩ : ∃ L, D.tr.length = L := ⟨_, rfl⟩
        have htr := hI.tr
        have hlo := hI.lo
        have hhi := hI.hi
        have hsz := hI.size
        have hn5 := hI.n
        have hwt := hI.wait
        have hlf := hI.left
        have hT1 := hide (hI.cl.trace (by omega) L 30 hL hsz)
        go_wp2_with fail
        refine hT1.out.mono ?_
        rintro e W1 ⟨rfl, _, C1, _⟩
        clear hT1
        have hB := hide (bump_at C1 hlf (by omega) hwt (by omega) 2 (by omega) (by omega) G hI.top (by omega))
        clear hI
        go_wp2_with fail
        refine hB.out.mono ?_
        rintro e W2 ⟨Z2, x, rfl, hx, hT2, C2, _⟩
        clear hB C1
        have hS := hide (since_begun C2 L hL (by omega) 30 hsz (fitL 30 (recL (G + 1))) (by rw [hx.out]))
        clear C2
        go_wp2_with fail
        refine hS.out.mono ?_
        rintro e W3 ⟨te, o, m, rfl, F4, C3, _⟩
        clear hS
        have hw1 : IntKind.u32.wrap (G + 1) = G + 1 := by simp [IntKind.wrap, IntKind.bits, IntKind.signed]; omega
        have hand : bits .and .u32 (G + 1) 1 = (G + 1) % 2 := u32_and1 _ (by omega) (by omega)
        have hpw : IntKind.i64.wrap (3 - (G + 1) % 2) = (plB (G + 1) 2 : Nat) := by rw [plB_3, IntKind.wrap_i64]; have := plB_lt (G + 1) 2 5 (by omega); omega
        have hcv : IntKind.i64.wrap ((G + 1) % 2) = (G + 1) % 2 := by rw [IntKind.wrap_i64]; omega
        go_wp2_with fail
        simp only [List.append_eq, List.cons_append, List.nil_append]
        refine wp_region_long Kept 79 [0, 1, 2, 3, 4, 5, 6, 7, 8, 9, 10, 11, 12, 13, 14, 15, 16, 17, 18, 19, 20, 21, 22, 23, 24, 25, 26, 27, 28, 29, 30, 31, 32, 33, 34, 35, 36, 37, 38, 39, 40, 41, 42, 43, 44, 45, 46, 47, 48, 49, 50, 51, 52, 53, 54, 55, 56, 57, 58, 59, 60, 61, 62, 63, 64, 65, 66, 67, 68, 69, 70, 71, 72, 73, 74, 75, 76, 77, 78] (by decide) (by kernel_rfl) (by kernel_rfl) (by kernel_rfl) ?_ Kept.refl Kept.trans ?_
        · refine relOk_split 14 65 0 (by as_aux_lemma => kernel_rfl) ?_
          refine relOk_split 14 51 14 (by as_aux_lemma => kernel_rfl) ?_
          refine relOk_split 14 37 28 (by as_aux_lemma => kernel_rfl) ?_
          refine relOk_split 14 23 42 (by as_aux_lemma => kernel_rfl) ?_
          refine relOk_split 14 9 56 (by as_aux_lemma => kernel_rfl) ?_
          exact (by as_aux_lemma => kernel_rfl)
        · replace F4 := F4.drew
          replace C3 := C3.drew
          generalize W3.drew = W4 at *
          repeat' (first
            | (refine wpRel_quiet (v := ?_) rfl rfl (fun _ _ _ h => h) (by rfl) ?_ ?_
               rotate_left
               · (intro w' hR; have q := F4.below hR; have q1 := q.k0; have q2 := q.a0; have q3 := q.a1; have q4 := q.k2; have q5 := q.a2; have q6 := q.b2; have q7 := q.k3; have q8 := str_bytes ((q.own.bs (fitL_bytes 30 (recL_bytes (G + 1))) 30 (fitL_length _ _) (by omega)).taken 24 (by omega)); have q9 := run_cut_to (P := Tryd.prog) Tryd.underlying26 Tryd.size_u8 (q.own.bs (fitL_bytes 30 (recL_bytes (G + 1))) 30 (fitL_length _ _) (by omega)) .i64 24 24 rfl (by omega); rw [rec24] at q8; clear q; go_simp; try rfl)
               simp only [Act.put, List.setIfInBounds_toArray, List.set_cons_zero, List.set_cons_succ])
            | fail)
          refine wpRel_step rfl rfl (by rfl) (fun K' hK => ?_)
          go_simp
          refine (rrec_any (G + 1) W4 (by omega)).mono ?_
          rintro e W5 ⟨gr, cr, rfl, hR5, b5⟩
          refine hK.out _ _ b5 ?_
          clear hK K'
          try simp only [Act.put, List.setIfInBounds_toArray, List.set_cons_zero, List.set_cons_succ]
          have C5 := C3.below b5
          have hRb := hR5.bs
          clear b5 C3 F4 hR5
          repeat' (first
            | (refine wpRel_quiet (v := ?_) rfl rfl (fun _ _ _ h => h) (by rfl) ?_ ?_
               rotate_left
               · (intro w' hR; have q := str_bytes (hRb.below hR); go_simp; try rfl)
               simp only [Act.put, List.setIfInBounds_toArray, List.set_cons_zero, List.set_cons_succ])
            | fail)
          refine wpRel_nil ?_
          clear hRb hand hpw hcv
          go_wp2_with fail
          go_roundw
          case rel => exact ⟨k + 1, Z2, D.begun 2 (G + 1) x, G + 1, by omega, by go_num, rfl, C5, hsz, hn5, rfl, begun_left _ _ _ _ hlf, (by rw [begun_len]; omega), hT2.out, by omega, by omega⟩
          case measure => simp [intOf]; omega
      · obtain rfl : k = T := by omega
        have hL := hide (last_ok hI.cl (by rw [hI.left]; omega) (by rw [hI.left]; omega) (by have := hI.tr; omega) 2 (by rw [hI.n]; omega) _ hI.top)
        clear hI
        go_wp2_with fail
        refine hL.out.mono ?_
        rintro e W1 ⟨Z2, rfl, C2, _⟩
        clear hL
        have hA := hide (awake_any W1)
        have hb := C2.bel
        clear C2
        go_wp2_with fail
        refine hA.out.mono ?_
        rintro e W2 ⟨rfl, b2⟩
        have hfin := hb.trans (b2.mono hb.size)
        go_wp2_with fail
        go_ret
        exact ⟨rfl, hfin⟩
  · have hpos : 0 < F := by omega
    have hand : bits .and .u32 F 1 = F % 2 := u32_and1 _ (by omega) (by omega)
    have hpw : IntKind.i64.wrap (3 - F % 2) = (plB F 2 : Nat) := by rw [plB_3, IntKind.wrap_i64]; have := plB_lt F 2 5 (by omega); omega
    have hcv : IntKind.i64.wrap (F % 2) = F % 2 := by rw [IntKind.wrap_i64]; omega
    go_wp2_with fail
    refine (rrec_any F W (by omega)).mono ?_
    rintro e W1 ⟨gr, cr, rfl, hR, b1⟩
    have hB := C.own hR
    have C1 := C.below b1
    have hW := hide (C1.write (of_decide_eq_true rfl) (of_decide_eq_true rfl) (of_decide_eq_true rfl) (plB F 2) (plB_lt F 2 5 (by omega)) hB (recL F) (recL_take _ _ (by show 24 ≤ 30; omega)))
    clear C hR hB b1 C1
    go_wp2_with fail
    refine hW.out.mono ?_
    rintro e W2 ⟨Z2, x, rfl, hx, C2, _⟩
    have hFl := hide (C2.flush (show ¬ ((DS.new 5 30).writes (plB F 2) x).left = 0 from of_decide_eq_true rfl) (show ((DS.new 5 30).writes (plB F 2) x).tr.length < 1000000 from of_decide_eq_true rfl))
    clear hW C2
    go_wp2_with fail
    refine hFl.out.mono ?_
    rintro e W3 ⟨Z3, rfl, C3, _⟩
    have HI0 : Hid (PlacesI w W3 Z3 g 0 ((DS.new 5 30).writes (plB F 2) x).flush F) := ⟨C3, rfl, rfl, rfl, rfl, Nat.le_refl _, places_first F hF0 hF1 x hx.out, hF0, by omega⟩
    clear hFl C3 hx hand hpw hcv
    go_wp2_with fail
    go_loopw [0, 6] (fun v i wr => ∃ (k : Nat) (Z : Own) (D : DS) (G : Int), k ≤ T ∧ i = .int .i64 k ∧ v = .int .u32 G ∧ PlacesI w wr Z g k D G) (fun _ i _ => T - (intOf i).toNat)
    case atStart => exact ⟨0, _, _, _, by omega, rfl, rfl, HI0.out⟩
    case round =>
      clear HI0
      obtain ⟨k, Z1, D, G, hk, rfl, rfl, hI⟩ := hrel
      by_cases hlt : k < T
      · obtain ⟨L, hL⟩ : ∃ L, D.tr.length = L := ⟨_, rfl⟩
        have htr := hI.tr
        have hlo := hI.lo
        have hhi := hI.hi
        have hsz := hI.size
        have hn5 := hI.n
        have hwt := hI.wait
        have hlf := hI.left
        have hT1 := hide (hI.cl.trace (by omega) L 30 hL hsz)
        go_wp2_with fail
        refine hT1.out.mono ?_
        rintro e W1 ⟨rfl, _, C1, _⟩
        clear hT1
        have hB := hide (bump_at C1 hlf (by omega) hwt (by omega) 2 (by omega) (by omega) G hI.top (by omega))
        clear hI
        go_wp2_with fail
        refine hB.out.mono ?_
        rintro e W2 ⟨Z2, x, rfl, hx, hT2, C2, _⟩
        clear hB C1
        have hS := hide (since_begun C2 L hL (by omega) 30 hsz (fitL 30 (recL (G + 1))) (by rw [hx.out]))
        clear C2
        go_wp2_with fail
        refine hS.out.mono ?_
        rintro e W3 ⟨te, o, m, rfl, F4, C3, _⟩
        clear hS
        have hw1 : IntKind.u32.wrap (G + 1) = G + 1 := by simp [IntKind.wrap, IntKind.bits, IntKind.signed]; omega
        have hand : bits .and .u32 (G + 1) 1 = (G + 1) % 2 := u32_and1 _ (by omega) (by omega)
        have hpw : IntKind.i64.wrap (3 - (G + 1) % 2) = (plB (G + 1) 2 : Nat) := by rw [plB_3, IntKind.wrap_i64]; have := plB_lt (G + 1) 2 5 (by omega); omega
        have hcv : IntKind.i64.wrap ((G + 1) % 2) = (G + 1) % 2 := by rw [IntKind.wrap_i64]; omega
        go_wp2_with fail
        simp only [List.append_eq, List.cons_append, List.nil_append]
        refine wp_region_long Kept 79 [0, 1, 2, 3, 4, 5, 6, 7, 8, 9, 10, 11, 12, 13, 14, 15, 16, 17, 18, 19, 20, 21, 22, 23, 24, 25, 26, 27, 28, 29, 30, 31, 32, 33, 34, 35, 36, 37, 38, 39, 40, 41, 42, 43, 44, 45, 46, 47, 48, 49, 50, 51, 52, 53, 54, 55, 56, 57, 58, 59, 60, 61, 62, 63, 64, 65, 66, 67, 68, 69, 70, 71, 72, 73, 74, 75, 76, 77, 78] (by decide) (by kernel_rfl) (by kernel_rfl) (by kernel_rfl) ?_ Kept.refl Kept.trans ?_
        · refine relOk_split 14 65 0 (by as_aux_lemma => kernel_rfl) ?_
          refine relOk_split 14 51 14 (by as_aux_lemma => kernel_rfl) ?_
          refine relOk_split 14 37 28 (by as_aux_lemma => kernel_rfl) ?_
          refine relOk_split 14 23 42 (by as_aux_lemma => kernel_rfl) ?_
          refine relOk_split 14 9 56 (by as_aux_lemma => kernel_rfl) ?_
          exact (by as_aux_lemma => kernel_rfl)
        · replace F4 := F4.drew
          replace C3 := C3.drew
          generalize W3.drew = W4 at *
          repeat' (first
            | (refine wpRel_quiet (v := ?_) rfl rfl (fun _ _ _ h => h) (by rfl) ?_ ?_
               rotate_left
               · (intro w' hR; have q := F4.below hR; have q1 := q.k0; have q2 := q.a0; have q3 := q.a1; have q4 := q.k2; have q5 := q.a2; have q6 := q.b2; have q7 := q.k3; have q8 := str_bytes ((q.own.bs (fitL_bytes 30 (recL_bytes (G + 1))) 30 (fitL_length _ _) (by omega)).taken 24 (by omega)); have q9 := run_cut_to (P := Tryd.prog) Tryd.underlying26 Tryd.size_u8 (q.own.bs (fitL_bytes 30 (recL_bytes (G + 1))) 30 (fitL_length _ _) (by omega)) .i64 24 24 rfl (by omega); rw [rec24] at q8; clear q; go_simp; try rfl)
               simp only [Act.put, List.setIfInBounds_toArray, List.set_cons_zero, List.set_cons_succ])
            | fail)
          refine wpRel_step rfl rfl (by rfl) (fun K' hK => ?_)
          go_simp
          refine (rrec_any (G + 1) W4 (by omega)).mono ?_
          rintro e W5 ⟨gr, cr, rfl, hR5, b5⟩
          refine hK.out _ _ b5 ?_
          clear hK K'
          try simp only [Act.put, List.setIfInBounds_toArray, List.set_cons_zero, List.set_cons_succ]
          have C5 := C3.below b5
          have hRb := hR5.bs
          clear b5 C3 F4 hR5
          repeat' (first
            | (refine wpRel_quiet (v := ?_) rfl rfl (fun _ _ _ h => h) (by rfl) ?_ ?_
               rotate_left
               · (intro w' hR; have q := str_bytes (hRb.below hR); go_simp; try rfl)
               simp only [Act.put, List.setIfInBounds_toArray, List.set_cons_zero, List.set_cons_succ])
            | fail)
          refine wpRel_nil ?_
          clear hRb hand hpw hcv
          go_wp2_with fail
          go_roundw
          case rel => exact ⟨k + 1, Z2, D.begun 2 (G + 1) x, G + 1, by omega, by go_num, rfl, C5, hsz, hn5, rfl, begun_left _ _ _ _ hlf, (by rw [begun_len]; omega), hT2.out, by omega, by omega⟩
          case measure => simp [intOf]; omega
      · obtain rfl : k = T := by omega
        have hL := hide (last_ok hI.cl (by rw [hI.left]; omega) (by rw [hI.left]; omega) (by have := hI.tr; omega) 2 (by rw [hI.n]; omega) _ hI.top)
        clear hI
        go_wp2_with fail
        refine hL.out.mono ?_
        rintro e W1 ⟨Z2, rfl, C2, _⟩
        clear hL
        have hA := hide (awake_any W1)
        have hb := C2.bel
        clear C2
        go_wp2_with fail
        refine hA.out.mono ?_
        rintro e W2 ⟨rfl, b2⟩
        have hfin := hb.trans (b2.mono hb.size)
        go_wp2_with fail
        go_ret
        exact ⟨rfl, hfin⟩
end Go.Proofs.YtgkhaedlfmloeaaDoor
