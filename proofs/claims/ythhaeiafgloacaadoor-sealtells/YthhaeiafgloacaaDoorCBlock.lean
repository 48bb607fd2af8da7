/- What a call of chac.blockOf does: for every state; nothing that was there is turned. -/
import Derived.Test.YthhaeiafgloacaaDoorCState
import Derived.Test.YthhaeiafgloacaaDoorCArm
namespace Go.Proofs.YthhaeiafgloacaaDoor
open Go.RowKit


/-- The state of chac.blockOf. -/
structure BS (w W : World) (xs ys : Ws) : Prop where
  st : ArrU 49 W w.heap.size xs
  out : OwnB 44 W (w.heap.size + 1) (zL 64)
  tu : ArrU 49 W (w.heap.size + 2) ys
  bel : Below w.heap.size w W
  gl : Glob W
theorem BS.drew {w W : World} {xs ys : Ws} (h : BS w W xs ys) : BS w W.drew xs ys := ⟨h.st, h.out, h.tu, h.bel.drew, h.gl⟩
theorem BS.later {w W W' : World} {xs ys : Ws} (h : BS w W xs ys) (hb : Below W.heap.size W W') : BS w W' xs ys :=
  ⟨h.st.below hb h.st.lt, h.out.below hb, h.tu.below hb h.tu.lt, h.bel.trans (hb.mono h.bel.size), h.gl.below hb h.gl.lt⟩
theorem BS.turn {w W : World} {xs ys : Ws} (h : BS w W xs ys) (h0 : 0 < w.heap.size) (zs : Ws) : BS w (W.setRow (w.heap.size + 2) (arrV zs)) xs zs :=
  ⟨h.st.other (setRow_other _ _ _ _ (by omega)), by have := h.out; unfold OwnB at this ⊢; rw [setRow_other _ _ _ _ (by omega)]; exact this, h.tu.setRow _, Below.setRow h.bel (by omega) _, rangeAt_keep h.gl (setRow_other _ _ _ _ (by omega))⟩
theorem BS.only {w W W' : World} {xs ys : Ws} (h : BS w W xs ys) (g : Nat) (hg : w.heap.size + 2 < g) (h0 : 0 < w.heap.size) (ho : OnlyAt g W W') : BS w W' xs ys :=
  ⟨h.st.other (ho.block _ (by omega)), ho.own h.out (by omega), h.tu.other (ho.block _ (by omega)), ho.below h.bel (by omega), rangeAt_keep h.gl (ho.block _ (by omega))⟩
theorem BS.start (w : World) (xs ys : Ws) (hg : Glob w) : BS w (((w.alloc (Obj.cells (arrV xs) 49)).alloc (Obj.cells (bV (zL 64)) 44)).alloc (Obj.cells (arrV ys) 49)) xs ys := by
  have n1 := heap_alloc_new w (Obj.cells (arrV xs) 49)
  have n2 := heap_alloc_new (w.alloc (Obj.cells (arrV xs) 49)) (Obj.cells (bV (zL 64)) 44)
  have n3 := heap_alloc_new ((w.alloc (Obj.cells (arrV xs) 49)).alloc (Obj.cells (bV (zL 64)) 44)) (Obj.cells (arrV ys) 49)
  simp only [size_alloc] at n2 n3
  have hb := below_alloc (below_alloc (below_alloc (Below.refl w.heap.size w) (Obj.cells (arrV xs) 49)) (Obj.cells (bV (zL 64)) 44)) (Obj.cells (arrV ys) 49)
  exact ⟨block_alloc (block_alloc n1 _) _, block_alloc n2 _, n3, hb, hg.below hb hg.lt⟩
theorem arrT16 : ArrT Tryd.prog 49 16 := ⟨⟨_, _, Tryd.underlying49⟩, info16⟩
theorem arrT32 : ArrT Tryd.prog 22 32 := ⟨⟨_, _, Tryd.underlying22⟩, info_b32⟩
theorem arrT12 : ArrT Tryd.prog 35 12 := ⟨⟨_, _, Tryd.underlying35⟩, info_b12⟩
theorem arrT64 : ArrT Tryd.prog 44 64 := ⟨⟨_, _, Tryd.underlying44⟩, info_b64⟩
theorem zero64 : (Tryd.prog.info? 44).bind (·.zero) = some (.agg (bV (zL 64))) := by kernel_rfl
theorem zero16 : (Tryd.prog.info? 49).bind (·.zero) = some (.agg (arrV zW)) := by kernel_rfl

theorem index_arr (ys : Ws) (k : Nat) (hk : k < 16) (w : World) : (Instr.index 49 (.agg (arrV ys)) (.int .i64 (k : Int))).run Tryd.prog w = .ok (.int .u32 ((ys k).toNat : Int)) w := by
  rcases k with _ | _ | _ | _ | _ | _ | _ | _ | _ | _ | _ | _ | _ | _ | _ | _ | k
  all_goals first | (exfalso; omega) | rfl

set_option maxHeartbeats 1000000 in
theorem blockOf_any (xs : Ws) (w : World) (hg : Glob w) : Calls Tryd.prog 32 #[.agg (arrV xs)] w fun e w' => e = .returned (.agg (bV (blkL xs))) ∧ Below w.heap.size w w' := by
  have h0 := hg.lt
  have hS := (BS.start w xs zW hg)
  have hS' := hS.turn h0 xs
  have hn := hS.tu
  go_enter Tryd.func32, Tryd.ntmps32
  go_wp2_with (first
    | (refine wpList_newA (by rfl) 44 (by rfl) _ zero64 (w.heap.size + 1) (size_alloc _ _) ?_)
    | (refine wpList_newA (by rfl) 49 (by rfl) _ zero16 (w.heap.size + 2) (by rw [size_alloc, size_alloc]) ?_)
    | (refine wpList_loadA arrT16 (by rfl) _ (by rfl) w.heap.size (by rfl) (arrV xs) (block_alloc (heap_alloc_new w _) _) (arrV_size _) ?_)
    | (refine wpList_putA arrT16 (by rfl) _ _ (by rfl) (w.heap.size + 2) (arrV xs) (by rfl) (by rfl) _ hn (arrV_size _) (arrV_size _) (arrV_one _) ?_))
  generalize ((((w.alloc (Obj.cells (arrV xs) 49)).alloc (Obj.cells (bV (zL 64)) 44)).alloc (Obj.cells (arrV zW) 49)).setRow (w.heap.size + 2) (arrV xs)) = W at *
  clear hS hn
  go_loopw [8] (fun i wr => ∃ k : Nat, k ≤ 10 ∧ i = .int .i64 k ∧ BS w wr xs (turnN xs k)) (fun i _ => 10 - (intOf i).toNat)
  case atStart => exact ⟨0, Nat.zero_le _, rfl, hS'⟩
  case round =>
    obtain ⟨k, hk, rfl, hS⟩ := hrel
    clear hS' W
    by_cases hlt : k < 10
    · have HT : Hid (dbl (turnN xs k) = turnN xs (k + 1)) := rfl
      generalize turnN xs k = ys at *
      have hy := hS.tu
      go_wp2_with (refine wpList_loadA arrT16 (by rfl) _ (by rfl) (w.heap.size + 2) (by rfl) (arrV ys) hy (arrV_size _) ?_)
      refine (double_any ys wr hS.gl).mono ?_
      rintro e w1 ⟨rfl, hb⟩
      have hS1 := hS.later hb
      have hS2 := hS1.turn h0 (dbl ys)
      have hy1 := hS1.tu
      clear hS hy hb
      generalize dbl ys = zs at *
      go_wp2_with (refine wpList_putA arrT16 (by rfl) _ _ (by rfl) (w.heap.size + 2) (arrV zs) (by rfl) (by rfl) _ hy1 (arrV_size _) (arrV_size _) (arrV_one _) ?_)
      go_roundw
      case rel => exact ⟨k + 1, by omega, by go_num, by rw [← HT.out]; exact hS2⟩
      case measure => simp [intOf]; omega
    · obtain rfl : k = 10 := by omega
      have hy := hS.tu
      go_wp2_with (first
        | (refine wpList_newA (by rfl) 44 (by rfl) _ zero64 wr.heap.size rfl ?_)
        | (refine wpList_loadA arrT16 (by rfl) _ (by rfl) (w.heap.size + 2) (by rfl) (arrV (turnN xs 10)) (block_alloc hy _) (arrV_size _) ?_))
      have hB0 : Below wr.heap.size wr (wr.alloc (Obj.cells (bV (zL 64)) 44)) := below_alloc (Below.refl _ _) _
      have hS0 := hS.later hB0
      have hg0 : OwnB 44 (wr.alloc (Obj.cells (bV (zL 64)) 44)) wr.heap.size (preL xs 0) := by rw [preL_zero]; exact heap_alloc_new _ _
      have hgb : w.heap.size + 2 < wr.heap.size := hy.lt
      generalize (wr.alloc (Obj.cells (bV (zL 64)) 44)) = W0 at *
      generalize wr.heap.size = gb at *
      clear hB0 hy hS hk hlt
      have HB : ∀ k, Hid (turnN xs 10 k + xs k = blkW xs k) := fun k => rfl
      generalize turnN xs 10 = ys at *
      go_loopw [14] (fun i wr => ∃ k : Nat, k ≤ 16 ∧ i = .int .i64 k ∧ BS w wr xs ys ∧ OwnB 44 wr gb (preL xs k)) (fun i _ => 16 - (intOf i).toNat)
      case atStart => exact ⟨0, Nat.zero_le _, rfl, hS0, hg0⟩
      case round =>
        obtain ⟨k, hk, rfl, hS, hP⟩ := hrel
        clear hS0 hg0 W0
        by_cases hlt : k < 16
        · have hI := index_arr ys k hlt
          have hX : IntKind.u32.wrap (((ys k).toNat : Int) + ((xs k).toNat : Int)) = ((blkW xs k).toNat : Int) := by rw [← (HB k).out]; exact u32_add_bv _ _
          have hXl := u32_lt (blkW xs k)
          have hyl := u32_lt (ys k)
          have hxl := u32_lt (xs k)
          have HP : Hid (splice (preL xs k) (4 * k) ((putL ((blkW xs k).toNat : Int) 4).take 4) = preL xs (k + 1)) := preL_step xs k hlt
          have hPl := preL_length xs k
          generalize blkW xs k = X at *
          have hw4 : IntKind.i64.wrap ((k : Int) * 4) = (k : Int) * 4 := by rw [IntKind.wrap_i64]; omega
          have hw8 : IntKind.u64.wrap (X.toNat : Int) = (X.toNat : Int) := by rw [wrap_u64]; omega
          generalize preL xs k = pre at *
          go_wp2_with fail
          have hsl := run_arr_from (P := Tryd.prog) Tryd.underlying44 Tryd.size_u8 gb .i64 ((k : Int) * 4) (4 * k) (by omega) (by omega)
          refine wp_region_ord 1000 [0, 1, 2, 3, 4, 5, 6, 7, 8, 9, 10] (fun w' => ArrU 49 w' w.heap.size xs) (fun _ => True) (by kernel_rfl) (by kernel_rfl) (by kernel_rfl) hS.drew.st trivial (fun _ _ => ?_)
          have hS1 := hS.drew
          have hP1 : OwnB 44 wr.drew gb pre := hP
          generalize wr.drew = W1 at *
          clear hS hP
          repeat' (refine wpOrd_quiet (v := ?_) rfl rfl (fun _ _ _ h => h) (by rfl) ?_ ?_
                   rotate_left
                   · (intro w' hT' _; have hc := hT'.cell k hlt; go_simp; try rfl)
                   simp only [Act.put, List.setIfInBounds_toArray, List.set_cons_zero, List.set_cons_succ])
          refine wpOrd_step rfl rfl (by rfl) (fun K' hK => ?_)
          go_simp
          refine (put_at _ 4 4 W1 rfl (by omega) (by decide)).mono ?_
          rintro e w2 ⟨rfl, hO2, hb2⟩
          have hS2 := hS1.later hb2
          have hP2 := hP1.below hb2
          have hgW : gb < W1.heap.size := hP1.lt
          obtain ⟨w3, hr3, hP3, ho3⟩ := run_copy_bytes (P := Tryd.prog) Tryd.underlying25 Tryd.size_u8 3 w2 (some ⟨gb, 4 * k, none⟩) (some ⟨W1.heap.size, 0, none⟩) (64 - 4 * k) (64 - 4 * k) 4 4 gb (4 * k) 4 pre _ hP2 (by omega) (.inr rfl) (hO2.bs (putL_bytes _ _) 4 (length_putL _ _) (by omega)) (by omega)
          rw [HP.out] at hP3
          have hS3 := hS2.only gb hgb h0 ho3
          refine hK.out _ _ hS2.st (fun h => absurd h (by decide)) (fun _ => ?_)
          clear hK K' hS1 hP1 hO2 hb2 hP2 hgW
          try simp only [Act.put, List.setIfInBounds_toArray, List.set_cons_zero, List.set_cons_succ]
          refine wpOrd_step rfl rfl (by rfl) (fun K' hK => ?_)
          go_simp
          refine hK.out _ _ hS3.st (fun h => absurd h (by decide)) (fun _ => ?_)
          clear hK K' hr3 ho3 hS2
          try simp only [Act.put, List.setIfInBounds_toArray, List.set_cons_zero, List.set_cons_succ]
          refine wpOrd_nil ?_
          go_wp2_with fail
          go_roundw
          case rel => exact ⟨k + 1, by omega, by go_num, hS3, hP3⟩
          case measure => simp [intOf]; omega
        · obtain rfl : k = 16 := by omega
          rw [preL_all] at hP
          have hz := hS.out
          go_wp2_with (first
            | (refine wpList_loadA arrT64 (by rfl) _ (by rfl) gb (by rfl) (bV (blkL xs)) hP (by rw [bV_size, blkL_length]) ?_)
            | (refine wpList_putA arrT64 (by rfl) _ _ (by rfl) (w.heap.size + 1) (bV (blkL xs)) (by rfl) (by rfl) _ hz (by rw [bV_size, blkL_length]) (bV_size _) (bV_one _) ?_))
          refine bodyPost_ret (results_cell_row rfl _ _ _ _ _ _ _ rfl (setRow_heap _ _ _ _ _ _ hz) Tryd.underlying44 rfl (by rw [bV_size, blkL_length, info_b64])) rfl ?_
          exact ⟨rfl, Below.setRow hS.bel (by omega) _⟩
#print axioms blockOf_any

end Go.Proofs.YthhaeiafgloacaaDoor
