
/- What a call of dumbwaiterlaw8.BootTells does: for every argument it answers true; nothing that was there is turned. -/
import Derived.Test.YtgkhaedlfmloeaaDoorBAwake
import Derived.Test.YtgkhaedlfmloeaaDoorAppZ
namespace Go.Proofs.YtgkhaedlfmloeaaDoor
open Go.RowKit

set_option maxRecDepth 100000 in
set_option maxHeartbeats 4000000 in
theorem bootTells_walk (n at_ by_ more : Int) {a : Option Addr} {len cap : Nat} {zs : List Int} (w : World) (hz : Bs w a len cap zs) (hn : 0 ≤ n ∧ n < 4294967296) (hby : 0 ≤ by_ ∧ by_ < 256) :
    Calls Tryd.prog 5 #[.int .u32 n, .slice a len cap, .int .i64 at_, .int .u8 by_, .int .i64 more] w fun e w' => e = .returned (.bool true) ∧ Below w.heap.size w w' := by
  have hlc := hz.le_cap
  have hcc := hz.cap_le
  by_cases hbig : 1000 < len
  · go_enter Tryd.func5, Tryd.ntmps5
    go_wp2_with fail
    refine (awake_any w).mono ?_
    rintro e w' ⟨rfl, hb⟩
    go_wp2_with fail
    go_ret
    exact ⟨rfl, hb⟩
  · obtain ⟨M, hM, hM15⟩ : ∃ M : Nat, bits BinOp.and IntKind.i64 more 15 = (M : Int) ∧ M ≤ 15 := ⟨(more % 16).toNat, by rw [i64_and15]; omega, by omega⟩
    obtain ⟨J, hJ, hJl⟩ : ∃ J : Nat, (bits BinOp.and IntKind.i64 at_ 65535).tmod ((24 : Int) + (M : Int)) = (J : Int) ∧ J < 24 + M := by
      rw [i64_and65535, Int.tmod_eq_emod_of_nonneg (Int.emod_nonneg _ (by decide))]
      have h1 := Int.emod_nonneg (at_ % 65536) (show (24 : Int) + (M : Int) ≠ 0 by omega)
      have h2 := Int.emod_lt_of_pos (at_ % 65536) (show (0 : Int) < 24 + (M : Int) by omega)
      exact ⟨((at_ % 65536) % (24 + (M : Int))).toNat, by omega, by omega⟩
    go_enter Tryd.func5, Tryd.ntmps5
    go_wp2_with fail
    go_loopw [1, 11] (fun v i wr => ∃ (k : Nat) (b : Option Addr) (l c : Nat) (xs : List Int), k ≤ 3 ∧ i = .int .i64 k ∧ v = .slice b l c ∧ Bs wr b l c xs ∧ l ≤ 1000 ∧ Below w.heap.size w wr) (fun _ i _ => 3 - (intOf i).toNat)
    case atStart => exact ⟨0, a, len, cap, zs, by omega, rfl, rfl, hz, by omega, Below.refl _ _⟩
    case round =>
      obtain ⟨k, b, l, c, xs, hk, rfl, rfl, hB, hl, hbel⟩ := hrel
      clear hz hlc hcc hbig
      by_cases hlt : k < 3
      · go_wp2_with fail
        refine (parse_any wr hB (by omega)).mono ?_
        rintro e w1 ⟨rfl, b1⟩
        have hB1 := hB.below b1
        have hb1 := hbel.trans (b1.mono hbel.size)
        clear b1 hbel hB
        go_wp2_with fail
        refine (rparse_any w1 hB1).mono ?_
        rintro e w2 ⟨rfl, b2⟩
        have hb2 := hb1.trans (b2.mono hb1.size)
        clear b2 hB1 hb1
        generalize recN xs = X at *
        generalize recOk xs = Y at *
        go_wp2_with fail
        refine wp_region_rel Kept [0, 1, 2, 3, 4, 5, 6, 7, 8, 9, 12, 10, 11, 13, 14, 15, 16] (by kernel_rfl) (by kernel_rfl) (by kernel_rfl) Kept.refl Kept.trans ?_
        replace hb2 := hb2.drew
        generalize w2.drew = w3 at *
        repeat' (first
          | (refine wpRel_quiet (v := ?_) rfl rfl (fun _ _ _ h => h) (by rfl) ?_ ?_
             rotate_left
             · (intro w' hR; go_simp; try rfl)
             simp only [Act.put, List.setIfInBounds_toArray, List.set_cons_zero, List.set_cons_succ])
          | fail)
        refine wpRel_step rfl rfl (by rfl) (fun K' hK => ?_)
        go_simp
        refine (rec_any n w3 hn).mono ?_
        rintro e w4 ⟨g4, c4, rfl, hA, b4⟩
        refine hK.out _ _ b4 ?_
        clear hK K'
        try simp only [Act.put, List.setIfInBounds_toArray, List.set_cons_zero, List.set_cons_succ]
        have hb4 := hb2.trans (b4.mono hb2.size)
        have hAb := hA.bs
        clear b4 hb2 hA
        repeat' (first
          | (refine wpRel_quiet (v := ?_) rfl rfl (fun _ _ _ h => h) (by rfl) ?_ ?_
             rotate_left
             · (intro w' hR; have hq := str_bytes (hAb.below hR); go_simp; try rfl)
             simp only [Act.put, List.setIfInBounds_toArray, List.set_cons_zero, List.set_cons_succ])
          | fail)
        refine wpRel_step rfl rfl (by rfl) (fun K' hK => ?_)
        go_simp
        refine (rrec_any n w4 hn).mono ?_
        rintro e w5 ⟨g5, c5, rfl, hC, b5⟩
        refine hK.out _ _ b5 ?_
        clear hK K'
        try simp only [Act.put, List.setIfInBounds_toArray, List.set_cons_zero, List.set_cons_succ]
        have hb5 := hb4.trans (b5.mono hb4.size)
        have hCb := hC.bs
        clear b5 hb4 hC hAb
        repeat' (first
          | (refine wpRel_quiet (v := ?_) rfl rfl (fun _ _ _ h => h) (by rfl) ?_ ?_
             rotate_left
             · (intro w' hR; have hq := str_bytes (hCb.below hR); go_simp; try rfl)
             simp only [Act.put, List.setIfInBounds_toArray, List.set_cons_zero, List.set_cons_succ])
          | fail)
        refine wpRel_nil ?_
        go_wp2_with fail
        clear hCb
        refine (rrec_any n w5 hn).mono ?_
        rintro e w6 ⟨g6, c6, rfl, hO, b6⟩
        have hb6 := hb5.trans (b6.mono hb5.size)
        have hO' := hO.mono (Nat.le_trans hb5.size (Nat.le_refl _))
        clear b6 hb5 hO
        obtain ⟨a7, c7, w7, hr7, hO7, hb7⟩ := run_append_zeros w.heap.size w w6 _ 24 c6 _ hO' (by omega) hb6 (Nat.le_refl _) M (by omega)
        clear hO' hb6
        obtain ⟨g7, rfl, hg7, _⟩ := hO7.form (by omega)
        by_cases hk1 : k = 1
        · subst hk1
          have hcell := hO7.cell J hJl
          have hfro := hO7.frozen J
          have hvb := hO7.1.getD J
          generalize (recL n ++ zL M).getD J 0 = V at *
          have hx := bits_xr V by_ hvb hby
          have hset := hO7.set J (xr V by_) (xr_lt V by_ hvb hby)
          have hbs := hb7.setCell (p := ⟨g7, J, none⟩) hg7 (.int .u8 (xr V by_))
          have HS := hide hset.bs
          clear hO7 hset hb7
          go_wp2_with (at_builtin; refine Lib.wpList_append_run _ rfl _ _ _ _ rfl _ _ rfl rfl _ _ hr7 ?_)
          go_roundw
          case rel => exact ⟨2, _, _, _, _, by omega, rfl, rfl, HS.out, by omega, hbs⟩
          case measure => simp [intOf]
        · have hkb : ((k : Int) == 1) = false := by simp; omega
          have hB7 := hO7.bs
          clear hO7
          go_wp2_with (at_builtin; refine Lib.wpList_append_run _ rfl _ _ _ _ rfl _ _ rfl rfl _ _ hr7 ?_)
          go_roundw
          case rel => exact ⟨k + 1, _, _, _, _, by omega, by go_num, rfl, hB7, by omega, hb7⟩
          case measure => simp [intOf]; omega
      · obtain rfl : k = 3 := by omega
        go_wp2_with fail
        refine (awake_any wr).mono ?_
        rintro e w1 ⟨rfl, b1⟩
        have hb1 := hbel.trans (b1.mono hbel.size)
        go_wp2_with fail
        go_ret
        exact ⟨rfl, hb1⟩
end Go.Proofs.YtgkhaedlfmloeaaDoor
