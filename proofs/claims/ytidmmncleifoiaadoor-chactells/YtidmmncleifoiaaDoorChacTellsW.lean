/- The law ChacTells answers true for every key, nonce, counter and slice of bytes that can be read, wherever quar.rounds reads as its text says; nothing that was there is turned. -/
import Derived.Test.YtidmmncleifoiaaDoorCRefX
import Derived.Test.YtidmmncleifoiaaDoorQEq
namespace Go.Proofs.YtidmmncleifoiaaDoor
open Go.RowKit

theorem run_eqItems_same {P : Program} {E : TypeId} (he : P.underlying E = some (.int .u8)) (d : Nat) (zs : List Int) (w : World) : ∀ is : List Nat, (∀ i ∈ is, i < zs.length) →
    (Op.eqItems (d + 1) E 1 (bV zs) (bV zs) is).run P w = .ok true w
  | [], _ => by simp [Op.eqItems]
  | i :: is, h => by
    have hi : i < zs.length := h i (by simp)
    have hg : (bV zs)[i]? = some (.int .u8 (zs.getD i 0)) := by simp [bV, List.getD, hi]
    have px : (part E (bV zs) (i * 1)).run P w = .ok (.int .u8 (zs.getD i 0)) w := by
      simp only [part, isAgg, run_underlying he, Nat.mul_one, hg, Sem.run_bind, Result.andThen_ok]
      simp
    have pe : (Op.equalIn (d + 1) E (.int .u8 (zs.getD i 0)) (.int .u8 (zs.getD i 0))).run P w = .ok true w := by
      rw [run_equalIn_int w d E .u8 .u8 _ _ he]
      simp
    simp only [Op.eqItems, Sem.run_bind, px, pe, Result.andThen_ok]
    simp only [Bool.not_true, Bool.false_eq_true, if_false]
    exact run_eqItems_same he d zs w is (fun j hj => h j (by simp [hj]))
theorem info_u8s : (Tryd.prog.info? 5).isSome = true := by kernel_rfl
theorem cells_u8s : Tryd.prog.cellsOf 5 = 1 := by kernel_rfl
/-- '!=' of a row of 64 bytes and itself. -/
theorem run_neq64 (zs : List Int) (h : zs.length = 64) (w : World) : (binOp BinOp.neq 28 (.agg (bV zs)) (.agg (bV zs))).run Tryd.prog w = .ok (.bool false) w := by
  obtain ⟨i, hi⟩ := Option.isSome_iff_exists.1 info_u8s
  rw [run_neq_struct, run_equalIn_array w 9999 (bV zs) (bV zs) Tryd.underlying28 hi, cells_u8s, run_eqItems_same Tryd.underlying5 9998 zs w _ (fun i hi => by rw [h]; simpa using hi)]
  rfl

theorem guard64 : Tryd.prog.eqGuardType Tryd.prog.depth 28 = false := by kernel_rfl
theorem exec_neq64 {ρ : Operand → Value} {o : Oper} {x y : Operand} {u : TypeId} (hop : o.op = .binOp .neq 28 x y u) (zs : List Int) (hx : ρ x = .agg (bV zs)) (hy : ρ y = .agg (bV zs)) (h : zs.length = 64) (w : World) :
    (execOp ρ o).run Tryd.prog w = .ok (.value (.bool false)) w := by
  have hr := run_neq64 zs h w
  have hq : (eqGuard .neq 28 x y (.agg (bV zs)) (.agg (bV zs))).run Tryd.prog w = .ok () w := run_eqGuard_agg w _ _ _ _ _ _ guard64
  unfold execOp
  simp only [hop, hx, hy, Sem.run_bind, hq, hr, Result.andThen_ok, Sem.run_pure]

set_option maxRecDepth 100000 in
set_option maxHeartbeats 4000000 in
theorem chacTells_walk (key nonce : List Int) (ctr : Int) (b : Option Addr) (len cap : Nat) (zs : List Int) (w : World) (hk : IsBytes key) (hkl : key.length = 32) (hn : IsBytes nonce) (hnl : nonce.length = 12) (hctr : 0 ≤ ctr ∧ ctr < 4294967296) (hb : Bs w b len cap zs) (hg : Glob w) :
    Calls Tryd.prog 6 #[.agg (bV key), .agg (bV nonce), .int .u32 ctr, .slice b len cap] w fun e w' => e = .returned (.bool true) ∧ Below w.heap.size w w' := by
  have h0 := hg.lt
  have hS := KN.start w key nonce hg
  have hlc := hb.le_cap
  have hcc := hb.cap_le
  by_cases hbig : 700 < len
  · go_enter Tryd.func6, Tryd.ntmps6
    go_wp2_with fail
    refine (awake_any _ hS.gl).mono ?_
    rintro e w1 ⟨rfl, hb1⟩
    have hS1 := hS.later hb1
    go_wp2_with fail
    go_ret
    exact ⟨rfl, hS1.bel⟩
  obtain ⟨x, rfl⟩ := bv_of ctr hctr
  clear hctr
  go_enter Tryd.func6, Tryd.ntmps6
  go_wp2_with fail
  generalize ((w.alloc (Obj.cells (bV key) 22)).alloc (Obj.cells (bV nonce) 26)) = W0 at *
  go_loopw [2, 9] (fun cv v wr => ∃ (k : Nat) (c : BitVec 32), k ≤ 2 ∧ v = .int .i64 k ∧ cv = .int .u32 (c.toNat : Int) ∧ KN w wr key nonce) (fun _ v _ => 2 - (intOf v).toNat)
  case atStart => exact ⟨0, x, Nat.zero_le _, rfl, rfl, hS⟩
  case round =>
    clear hS
    obtain ⟨k, c, hk2, rfl, rfl, hS⟩ := hrel
    by_cases hlt : k < 2
    · have kk := hS.kk
      have nn := hS.nn
      go_wp2_with (first
        | (refine wpList_loadA arrT32 (by rfl) _ (by rfl) w.heap.size (by rfl) (bV key) kk (by rw [bV_size, hkl]) ?_)
        | (refine wpList_loadA arrT12 (by rfl) _ (by rfl) (w.heap.size + 1) (by rfl) (bV nonce) nn (by rw [bV_size, hnl]) ?_))
      refine (xor_all key nonce c _ _ _ wr rfl rfl rfl hk hkl hn hnl (hb.below hS.bel) (by omega) hS.gl).mono ?_
      rintro e w1 ⟨b1, n1, rfl, hx1, hb1⟩
      have hS1 := hS.later hb1
      clear hS hb1 kk nn
      have kk := hS1.kk
      have nn := hS1.nn
      obtain ⟨F, HF⟩ : ∃ F, Hid (fits c len = F) := ⟨_, rfl⟩
      rw [HF.out]
      go_wp2_with (first
        | (refine wpList_loadA arrT32 (by rfl) _ (by rfl) w.heap.size (by rfl) (bV key) kk (by rw [bV_size, hkl]) ?_)
        | (refine wpList_loadA arrT12 (by rfl) _ (by rfl) (w.heap.size + 1) (by rfl) (bV nonce) nn (by rw [bV_size, hnl]) ?_))
      refine (rxor_all key nonce c _ _ _ w1 rfl rfl rfl hk hkl hn hnl (hb.below hS1.bel) (by omega) hS1.gl).mono ?_
      rintro e w2 ⟨b2, n2, c2, rfl, hy2, hb2⟩
      rw [HF.out]
      have hS2 := hS1.later hb2
      have hx2 := hx1.below hb2
      clear hS1 hx1 hb2 kk nn HF
      go_wp2_with fail
      have hblk := blkL_length (stW key nonce c)
      refine wp_region_ord 1000 [0, 1, 2, 4, 5, 6, 3, 7, 8, 9, 10, 11, 12, 13, 14, 15, 16, 17, 18, 19] (fun w' => OwnB 22 w' w.heap.size key ∧ OwnB 26 w' (w.heap.size + 1) nonce) (fun _ => True) (by kernel_rfl) (by kernel_rfl) (by kernel_rfl) ⟨hS2.kk, hS2.nn⟩ trivial (fun _ _ => ?_)
      replace hS2 := hS2.drew
      replace hx2 : Bs w2.drew b1 n1 n1 (xorR key nonce c zs) := ⟨hx2.length, hx2.le_cap, hx2.cap_le, hx2.bytes, hx2.place⟩
      replace hy2 : Bs w2.drew b2 n2 c2 (xorR key nonce c zs) := ⟨hy2.length, hy2.le_cap, hy2.cap_le, hy2.bytes, hy2.place⟩
      generalize w2.drew = W3 at *
      refine wpOrd_loadA arrT32 rfl rfl _ rfl w.heap.size (bV key) (by rfl) (fun _ h => h.1) (by rw [bV_size, hkl]) (fun _ _ _ h => h) (by rfl) ?_
      simp only [Act.put, List.setIfInBounds_toArray, List.set_cons_zero, List.set_cons_succ]
      refine wpOrd_loadA arrT12 rfl rfl _ rfl (w.heap.size + 1) (bV nonce) (by rfl) (fun _ h => h.2) (by rw [bV_size, hnl]) (fun _ _ _ h => h) (by rfl) ?_
      simp only [Act.put, List.setIfInBounds_toArray, List.set_cons_zero, List.set_cons_succ]
      refine wpOrd_quiet (v := ?_) rfl rfl (fun _ _ _ h => h) (by rfl) ?_ ?_
      rotate_left
      · (intro w' _ _; go_simp; try rfl)
      simp only [Act.put, List.setIfInBounds_toArray, List.set_cons_zero, List.set_cons_succ]
      refine wpOrd_loadA arrT32 rfl rfl _ rfl w.heap.size (bV key) (by rfl) (fun _ h => h.1) (by rw [bV_size, hkl]) (fun _ _ _ h => h) (by rfl) ?_
      simp only [Act.put, List.setIfInBounds_toArray, List.set_cons_zero, List.set_cons_succ]
      refine wpOrd_loadA arrT12 rfl rfl _ rfl (w.heap.size + 1) (bV nonce) (by rfl) (fun _ h => h.2) (by rw [bV_size, hnl]) (fun _ _ _ h => h) (by rfl) ?_
      simp only [Act.put, List.setIfInBounds_toArray, List.set_cons_zero, List.set_cons_succ]
      refine wpOrd_quiet (v := ?_) rfl rfl (fun _ _ _ h => h) (by rfl) ?_ ?_
      rotate_left
      · (intro w' _ _; go_simp; try rfl)
      simp only [Act.put, List.setIfInBounds_toArray, List.set_cons_zero, List.set_cons_succ]
      refine wpOrd_step rfl rfl (by rfl) (fun K' hK => ?_)
      go_simp
      refine (block_at key nonce c _ _ _ W3 rfl rfl rfl hk hkl hn hnl hS2.gl).mono ?_
      rintro e w4 ⟨rfl, hb4⟩
      have hS4 := hS2.later hb4
      have hx4 := hx2.below hb4
      have hy4 := hy2.below hb4
      clear hS2 hx2 hy2 hb4
      refine hK.out _ _ ⟨hS4.kk, hS4.nn⟩ (fun h => absurd h (by decide)) (fun _ => ?_)
      clear hK K'
      try simp only [Act.put, List.setIfInBounds_toArray, List.set_cons_zero, List.set_cons_succ]
      refine wpOrd_step rfl rfl (by rfl) (fun K' hK => ?_)
      go_simp
      refine (rblock_at key nonce c _ _ _ w4 rfl rfl rfl hk hkl hn hnl).mono ?_
      rintro e w5 ⟨rfl, hb5⟩
      have hS5 := hS4.later hb5
      have hx5 := hx4.below hb5
      have hy5 := hy4.below hb5
      clear hS4 hx4 hy4 hb5
      refine hK.out _ _ ⟨hS5.kk, hS5.nn⟩ (fun h => absurd h (by decide)) (fun _ => ?_)
      clear hK K'
      generalize blkL (stW key nonce c) = blk at *
      try simp only [Act.put, List.setIfInBounds_toArray, List.set_cons_zero, List.set_cons_succ]
      refine wpOrd_quiet (v := .bool false) rfl rfl (fun _ _ _ h => h) (by rfl) (fun w' _ _ => exec_neq64 rfl blk rfl rfl hblk w') ?_
      simp only [Act.put, List.setIfInBounds_toArray, List.set_cons_zero, List.set_cons_succ]
      repeat' (refine wpOrd_quiet (v := ?_) rfl rfl (fun _ _ _ h => h) (by rfl) ?_ ?_
               rotate_left
               · (intro w' _ _; go_simp; try rfl)
               simp only [Act.put, List.setIfInBounds_toArray, List.set_cons_zero, List.set_cons_succ])
      refine wpOrd_step rfl rfl (by rfl) (fun K' hK => ?_)
      go_simp
      refine (same_any w5 hx5 hy5).mono ?_
      rintro e w6 ⟨rfl, rfl⟩
      rw [decide_eq_true rfl]
      refine hK.out _ _ ⟨hS5.kk, hS5.nn⟩ (fun h => absurd h (by decide)) (fun _ => ?_)
      clear hK K' hx5 hy5
      try simp only [Act.put, List.setIfInBounds_toArray, List.set_cons_zero, List.set_cons_succ]
      repeat' (refine wpOrd_quiet (v := ?_) rfl rfl (fun _ _ _ h => h) (by rfl) ?_ ?_
               rotate_left
               · (intro w' _ _; go_simp; try rfl)
               simp only [Act.put, List.setIfInBounds_toArray, List.set_cons_zero, List.set_cons_succ])
      refine wpOrd_nil ?_
      obtain ⟨q, hq⟩ : ∃ q : Nat, c.toNat % 2 ^ 3 = q := ⟨_, rfl⟩
      have hq8 : q < 8 := by omega
      have hm := u32_mask c 3 (by decide) 7 (by decide)
      rw [hq] at hm
      obtain ⟨d, hd⟩ : ∃ d : BitVec 32, 4294967295 - (q : Int) = (d.toNat : Int) := bv_of _ (by omega)
      have hw : IntKind.u32.wrap (4294967295 - (q : Int)) = (d.toNat : Int) := by rw [← hd, IntKind.wrap_u32']; omega
      clear hq
      go_wp2_with fail
      go_roundw
      case rel => exact ⟨k + 1, d, by omega, by go_num, rfl, hS5⟩
      case measure => simp [intOf]; omega
    · obtain rfl : k = 2 := by omega
      go_wp2_with fail
      refine (awake_any wr hS.gl).mono ?_
      rintro e w1 ⟨rfl, hb1⟩
      have hS1 := hS.later hb1
      go_wp2_with fail
      go_ret
      exact ⟨rfl, hS1.bel⟩
#print axioms chacTells_walk
end Go.Proofs.YtidmmncleifoiaaDoor
