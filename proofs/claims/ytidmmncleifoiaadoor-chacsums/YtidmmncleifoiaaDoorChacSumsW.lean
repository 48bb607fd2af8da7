/- The law ChacSums answers true for every key, nonce and counter, wherever quar.rounds reads as its text says; nothing that was there is turned. -/
import Derived.Test.YtidmmncleifoiaaDoorCLaw
import Derived.Test.YtidmmncleifoiaaDoorCRef
namespace Go.Proofs.YtidmmncleifoiaaDoor
open Go.RowKit

theorem blkL_word (xs : Ws) (i : Nat) (hi : i < 16) : word4 (blkL xs) i = blkW xs i := by
  have e : ((blkL xs).drop (4 * i)).take 4 = putL ((blkW xs i).toNat : Int) 4 := by
    apply List.ext_getElem?
    intro j
    rw [List.getElem?_take, List.getElem?_drop]
    by_cases h : j < 4
    · rw [if_pos h, blkL, rowL_get _ _ _ (by omega), kb, show (4 * i + j) / 4 = i by omega, show (4 * i + j) % 4 = j by omega]
      simp [putL, h]
    · rw [if_neg h, List.getElem?_eq_none (by rw [length_putL]; omega)]
  have hl := (blkW xs i).isLt
  unfold word4
  rw [e, leNum_putL]
  apply BitVec.eq_of_toNat_eq
  rw [BitVec.toNat_ofNat]
  omega

set_option maxRecDepth 100000 in
set_option maxHeartbeats 4000000 in
theorem chacSums_walk (key nonce : List Int) (ctr : Int) (w : World) (hk : IsBytes key) (hkl : key.length = 32) (hn : IsBytes nonce) (hnl : nonce.length = 12) (hctr : 0 ≤ ctr ∧ ctr < 4294967296) (hg : Glob w) :
    Calls Tryd.prog 8 #[.agg (bV key), .agg (bV nonce), .int .u32 ctr] w fun e w' => e = .returned (.bool true) ∧ Below w.heap.size w w' := by
  have h0 := hg.lt
  obtain ⟨c, rfl⟩ := bv_of ctr hctr
  clear hctr
  have hS := KN.start w key nonce hg
  have kk := hS.kk
  have nn := hS.nn
  go_enter Tryd.func8, Tryd.ntmps8
  go_wp2_with (first
    | (refine wpList_loadA arrT32 (by rfl) _ (by rfl) w.heap.size (by rfl) (bV key) kk (by rw [bV_size, hkl]) ?_)
    | (refine wpList_loadA arrT12 (by rfl) _ (by rfl) (w.heap.size + 1) (by rfl) (bV nonce) nn (by rw [bV_size, hnl]) ?_))
  generalize ((w.alloc (Obj.cells (bV key) 22)).alloc (Obj.cells (bV nonce) 26)) = W0 at *
  refine (block_any key nonce c W0 hk hkl hn hnl hS.gl).mono ?_
  rintro e w1 ⟨rfl, hb1⟩
  have hS1 := hS.later hb1
  clear hS hb1 kk nn
  have hlw := hS1.lt
  obtain ⟨blk, HBK⟩ : ∃ b, Hid (blkL (stW key nonce c) = b) := ⟨_, rfl⟩
  have hbl : blk.length = 64 := by rw [← HBK.out]; exact blkL_length _
  have hbb : IsBytes blk := by rw [← HBK.out]; exact blkL_bytes _
  rw [HBK.out]
  have n3 := heap_alloc_new w1 (Obj.cells (bV (zL 64)) 28)
  have n3' : OwnB 28 ((w1.alloc (Obj.cells (bV (zL 64)) 28)).setRow w1.heap.size (bV blk)) w1.heap.size blk := setRow_heap _ _ _ _ _ _ n3
  have n4 := heap_alloc_new ((w1.alloc (Obj.cells (bV (zL 64)) 28)).setRow w1.heap.size (bV blk)) (Obj.cells (arrV zW) 36)
  have z4 : ((w1.alloc (Obj.cells (bV (zL 64)) 28)).setRow w1.heap.size (bV blk)).heap.size = w1.heap.size + 1 := by simp
  rw [z4] at n4
  have hR : RB w ((((w1.alloc (Obj.cells (bV (zL 64)) 28)).setRow w1.heap.size (bV blk)).alloc (Obj.cells (arrV zW) 36)).setRow (w1.heap.size + 1) (arrV (preW 0))) w.heap.size (w.heap.size + 1) w1.heap.size (w1.heap.size + 1) key nonce blk (preW 0) := by
    have hq := ((hS1.alloc (Obj.cells (bV (zL 64)) 28)).setRow hlw (bV blk)).alloc (Obj.cells (arrV zW) 36)
    have hq2 := hq.setRow (show w.heap.size + 1 < w1.heap.size + 1 by omega) (arrV (preW 0))
    exact ⟨hq2.kk, hq2.nn, (setRow_other _ _ _ _ (by omega)).trans (block_alloc n3' _), setRow_heap _ _ _ _ _ _ n4, hq2.bel⟩
  go_wp2_with (first
    | (refine wpList_newA (by rfl) 28 (by rfl) _ zero64 w1.heap.size rfl ?_)
    | (refine wpList_putA arrT64 (by rfl) _ _ (by rfl) w1.heap.size (bV blk) (by rfl) (by rfl) _ n3 (by rw [bV_size, hbl]) (bV_size _) (bV_one _) ?_)
    | (refine wpList_newA (by rfl) 36 (by rfl) _ zero16 (w1.heap.size + 1) z4 ?_)
    | (refine wpList_build_is rfl 36 _ rfl (arrV (preW 0)) (by kernel_rfl) ?_)
    | (refine wpList_putA arrT16 (by rfl) _ _ (by rfl) (w1.heap.size + 1) (arrV (preW 0)) (by rfl) (by rfl) _ n4 (arrV_size _) (arrV_size _) (arrV_one _) ?_))
  generalize ((((w1.alloc (Obj.cells (bV (zL 64)) 28)).setRow w1.heap.size (bV blk)).alloc (Obj.cells (arrV zW) 36)).setRow (w1.heap.size + 1) (arrV (preW 0))) = W1 at *
  generalize w1.heap.size = gA at *
  clear n3 n3' n4 z4 hS1
  go_loopw [9] (fun v wr => ∃ k : Nat, k ≤ 8 ∧ v = .int .i64 k ∧ RB w wr w.heap.size (w.heap.size + 1) gA (gA + 1) key nonce blk (putW (preW 0) 4 key k)) (fun v _ => 8 - (intOf v).toNat)
  case atStart => exact ⟨0, Nat.zero_le _, rfl, by rw [putW_zero]; exact hR⟩
  case round =>
    clear hR
    obtain ⟨k, hk8, rfl, hR⟩ := hrel
    by_cases hlt : k < 8
    · have hcut := run_arr_mid (P := Tryd.prog) Tryd.underlying22 Tryd.size_u8 w.heap.size .i64 .i64 (4 * (k : Int)) (4 * (k : Int) + 4) (4 * k) (4 * k + 4) (by omega) (by omega) (by omega) (by omega) (by omega)
      rw [show 4 * k + 4 - 4 * k = 4 by omega] at hcut
      have HG := rget_word hR.kk hk hkl k (by omega) (by decide)
      have hu := u32_lt (word4 key k)
      have hcell := hR.st.cell (4 + k) (by omega)
      have hfro := hR.st.frozen (4 + k)
      have hR' := hR.set (by omega) (by omega) (by omega) (by omega) (4 + k) (word4 key k)
      rw [putW_succ] at hR'
      clear hR
      generalize word4 key k = X at *
      generalize putW (preW 0) 4 key k (4 + k) = Y at *
      go_wp2_with fail
      refine HG.mono ?_
      rintro e w1 ⟨rfl, rfl⟩
      go_wp2_with fail
      go_roundw
      case rel => exact ⟨k + 1, by omega, by go_num, hR'⟩
      case measure => simp [intOf]; omega
    · obtain rfl : k = 8 := by omega
      have hcell := hR.st.cell 12 (by decide)
      have hfro := hR.st.frozen 12
      have hR2 := hR.set (by omega) (by omega) (by omega) (by omega) 12 c
      clear hR
      generalize putW (preW 0) 4 key 8 12 = Y at *
      go_wp2_with fail
      generalize (wr.setCell ⟨gA + 1, 12, none⟩ (.int .u32 (c.toNat : Int))) = W1 at *
      clear hcell hfro
      have HF : Hid (putW (upd (putW (preW 0) 4 key 8) 12 c) 13 nonce 3 = stW key nonce c) := stW_fill key nonce c
      generalize upd (putW (preW 0) 4 key 8) 12 c = xs0 at *
      rw [show ((8 : Nat) : Int) = 8 from rfl]
      go_loopw [10] (fun v wr => ∃ k : Nat, k ≤ 3 ∧ v = .int .i64 k ∧ RB w wr w.heap.size (w.heap.size + 1) gA (gA + 1) key nonce blk (putW xs0 13 nonce k)) (fun v _ => 3 - (intOf v).toNat)
      case atStart => exact ⟨0, Nat.zero_le _, rfl, by rw [putW_zero]; exact hR2⟩
      case round =>
        clear hR2
        obtain ⟨k, hk3, rfl, hR⟩ := hrel
        by_cases hlt2 : k < 3
        · have hcut := run_arr_mid (P := Tryd.prog) Tryd.underlying26 Tryd.size_u8 (w.heap.size + 1) .i64 .i64 (4 * (k : Int)) (4 * (k : Int) + 4) (4 * k) (4 * k + 4) (by omega) (by omega) (by omega) (by omega) (by omega)
          rw [show 4 * k + 4 - 4 * k = 4 by omega] at hcut
          have HG := rget_word hR.nn hn hnl k (by omega) (by decide)
          have hu := u32_lt (word4 nonce k)
          have hcell := hR.st.cell (13 + k) (by omega)
          have hfro := hR.st.frozen (13 + k)
          have hR' := hR.set (by omega) (by omega) (by omega) (by omega) (13 + k) (word4 nonce k)
          rw [putW_succ] at hR'
          clear hR
          generalize word4 nonce k = X at *
          generalize putW xs0 13 nonce k (13 + k) = Y at *
          go_wp2_with fail
          refine HG.mono ?_
          rintro e w1 ⟨rfl, rfl⟩
          go_wp2_with fail
          go_roundw
          case rel => exact ⟨k + 1, by omega, by go_num, hR'⟩
          case measure => simp [intOf]; omega
        · obtain rfl : k = 3 := by omega
          rw [HF.out] at hR
          clear HF
          obtain ⟨xs, HX⟩ : ∃ xs, Hid (stW key nonce c = xs) := ⟨_, rfl⟩
          rw [HX.out] at hR
          have hst := hR.st
          have hlt4 : gA + 1 < wr.heap.size := hst.lt
          have n5 := heap_alloc_new wr (Obj.cells (arrV zW) 36)
          have hR5 := (hR.later (below_alloc (Below.refl _ _) (Obj.cells (arrV zW) 36))).only (OnlyAt.setRow wr.heap.size _ (arrV xs)) (by omega) (by omega) (by omega) (by omega) (by omega)
          have hT5 : ArrU 36 ((wr.alloc (Obj.cells (arrV zW) 36)).setRow wr.heap.size (arrV xs)) wr.heap.size xs := setRow_heap _ _ _ _ _ _ n5
          go_wp2_with (first
            | (refine wpList_loadA arrT16 (by rfl) _ (by rfl) (gA + 1) (by rfl) (arrV xs) hst (arrV_size _) ?_)
            | (refine wpList_newA (by rfl) 36 (by rfl) _ zero16 wr.heap.size rfl ?_)
            | (refine wpList_putA arrT16 (by rfl) _ _ (by rfl) wr.heap.size (arrV xs) (by rfl) (by rfl) _ n5 (arrV_size _) (arrV_size _) (arrV_one _) ?_))
          generalize ((wr.alloc (Obj.cells (arrV zW) 36)).setRow wr.heap.size (arrV xs)) = W5 at *
          generalize wr.heap.size = gw at *
          clear hR hst n5
          go_loopw [12] (fun v wr => ∃ k : Nat, k ≤ 10 ∧ v = .int .i64 k ∧ RB w wr w.heap.size (w.heap.size + 1) gA (gA + 1) key nonce blk xs ∧ ArrU 36 wr gw (turnN xs k)) (fun v _ => 10 - (intOf v).toNat)
          case atStart => exact ⟨0, Nat.zero_le _, rfl, hR5, hT5⟩
          case round =>
            clear hR5 hT5
            obtain ⟨k, hk10, rfl, hR, hT⟩ := hrel
            by_cases hlt5 : k < 10
            · have HT : Hid (dbl (turnN xs k) = turnN xs (k + 1)) := rfl
              generalize turnN xs k = ys at *
              go_wp2_with (refine wpList_loadA arrT16 (by rfl) _ (by rfl) gw (by rfl) (arrV ys) hT (arrV_size _) ?_)
              refine (rdouble_any ys wr).mono ?_
              rintro e w1 ⟨rfl, hb⟩
              have hT1 := hT.below hb hT.lt
              have hR1 := hR.later hb
              have hR2 := hR1.only (OnlyAt.setRow gw w1 (arrV (dbl ys))) (by omega) (by omega) (by omega) (by omega) (by omega)
              have hT2 := hT1.setRow (dbl ys)
              clear hT hR hb hR1
              generalize dbl ys = zs at *
              go_wp2_with (refine wpList_putA arrT16 (by rfl) _ _ (by rfl) gw (arrV zs) (by rfl) (by rfl) _ hT1 (arrV_size _) (arrV_size _) (arrV_one _) ?_)
              go_roundw
              case rel => exact ⟨k + 1, by omega, by go_num, hR2, by rw [← HT.out]; exact hT2⟩
              case measure => simp [intOf]; omega
            · obtain rfl : k = 10 := by omega
              have HB : ∀ k, k < 16 → Hid (turnN xs 10 k + xs k = word4 blk k) := fun k hk' => by
                show _ = _
                rw [← HBK.out, HX.out, blkL_word _ _ hk']
                rfl
              generalize turnN xs 10 = ys at *
              go_wp2_with fail
              rw [show ((10 : Nat) : Int) = 10 from rfl]
              go_loopw [13] (fun v wr => ∃ i : Nat, i ≤ 16 ∧ v = .int .i64 i ∧ RB w wr w.heap.size (w.heap.size + 1) gA (gA + 1) key nonce blk xs ∧ ArrU 36 wr gw ys) (fun v _ => 16 - (intOf v).toNat)
              case atStart => exact ⟨0, Nat.zero_le _, rfl, hR, hT⟩
              case round =>
                clear hR hT
                obtain ⟨i, hi16, rfl, hR, hT⟩ := hrel
                by_cases hlt6 : i < 16
                · have hX : IntKind.u32.wrap (((ys i).toNat : Int) + ((xs i).toNat : Int)) = ((word4 blk i).toNat : Int) := by rw [← (HB i hlt6).out]; exact u32_add_bv _ _
                  have hXl := u32_lt (word4 blk i)
                  have hyl := u32_lt (ys i)
                  have hxl := u32_lt (xs i)
                  have hc1 := hT.cell i hlt6
                  have hc2 := hR.st.cell i hlt6
                  have hiI : (i : Int) < 16 := by omega
                  have hcut := run_arr_mid (P := Tryd.prog) Tryd.underlying28 Tryd.size_u8 gA .i64 .i64 (4 * (i : Int)) (4 * (i : Int) + 4) (4 * i) (4 * i + 4) (by omega) (by omega) (by omega) (by omega) (by omega)
                  rw [show 4 * i + 4 - 4 * i = 4 by omega] at hcut
                  have hw4 : IntKind.i64.wrap (4 * (i : Int)) = 4 * (i : Int) := by rw [IntKind.wrap_i64]; omega
                  have hw5 : IntKind.i64.wrap (4 * (i : Int) + 4) = 4 * (i : Int) + 4 := by rw [IntKind.wrap_i64]; omega
                  go_wp2_with fail
                  refine wp_region_ord 1000 [0, 1, 2, 3, 4, 5, 8, 9, 10, 11, 12, 13, 14, 6, 7, 15] (fun w' => w'.cell? ⟨gw, i, none⟩ = some (.int .u32 ((ys i).toNat : Int)) ∧ w'.cell? ⟨gA + 1, i, none⟩ = some (.int .u32 ((xs i).toNat : Int))) (fun _ => True) (by kernel_rfl) (by kernel_rfl) (by kernel_rfl) ⟨hc1, hc2⟩ trivial (fun hTT _ => ?_)
                  have hR1 := hR.drew
                  have hT1 : ArrU 36 wr.drew gw ys := hT
                  generalize wr.drew = W7 at *
                  clear hR hT hc1 hc2
                  repeat' (refine wpOrd_quiet (v := ?_) rfl rfl (fun _ _ _ h => h) (by rfl) ?_ ?_
                           rotate_left
                           · (intro w' hT' _; obtain ⟨t1, t2⟩ := hT'; go_simp; try rfl)
                           simp only [Act.put, List.setIfInBounds_toArray, List.set_cons_zero, List.set_cons_succ])
                  refine wpOrd_step rfl rfl (by rfl) (fun K' hK => ?_)
                  go_simp
                  refine (rget_word hR1.oo hbb hbl i (by omega) (by decide)).mono ?_
                  rintro e w2 ⟨rfl, rfl⟩
                  refine hK.out _ _ hTT (fun h => absurd h (by decide)) (fun _ => ?_)
                  clear hK K' hTT
                  generalize word4 blk i = X at *
                  have hw6 : IntKind.u32.wrap (X.toNat : Int) = (X.toNat : Int) := by rw [IntKind.wrap_u32']; omega
                  try simp only [Act.put, List.setIfInBounds_toArray, List.set_cons_zero, List.set_cons_succ]
                  repeat' (refine wpOrd_quiet (v := ?_) rfl rfl (fun _ _ _ h => h) (by rfl) ?_ ?_
                           rotate_left
                           · (intro w' hT' _; go_simp; try rfl)
                           simp only [Act.put, List.setIfInBounds_toArray, List.set_cons_zero, List.set_cons_succ])
                  refine wpOrd_nil ?_
                  go_wp2_with fail
                  go_roundw
                  case rel => exact ⟨i + 1, by omega, by go_num, hR1, hT1⟩
                  case measure => simp [intOf]; omega
                · obtain rfl : i = 16 := by omega
                  go_wp2_with fail
                  refine (awake_any wr (hg.below hR.bel h0)).mono ?_
                  rintro e w9 ⟨rfl, hb9⟩
                  have hR9 := hR.later hb9
                  go_wp2_with fail
                  go_ret
                  exact ⟨rfl, hR9.bel⟩
#print axioms chacSums_walk
end Go.Proofs.YtidmmncleifoiaaDoor
