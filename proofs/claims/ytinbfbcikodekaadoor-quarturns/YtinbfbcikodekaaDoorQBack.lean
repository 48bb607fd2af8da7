/- What a call of quar.Back does: for every sixteen words; nothing that was there is turned. -/
import Derived.Test.YtinbfbcikodekaaDoorQDouble
namespace Go.Proofs.YtinbfbcikodekaaDoor
open Go.RowKit

theorem rd_at {w : World} {g : Nat} (h : w.rangeAt g 0 rdL) (i : Nat) (hi : i < 8) : w.rangeAt g (i * 4) [.int .i64 (pl i 0 : Nat), .int .i64 (pl i 1 : Nat), .int .i64 (pl i 2 : Nat), .int .i64 (pl i 3 : Nat)] := by
  have key : ∀ i, i < 8 → ∀ j, j < 4 → rdL[i * 4 + j]? = [Value.int .i64 (pl i 0 : Nat), .int .i64 (pl i 1 : Nat), .int .i64 (pl i 2 : Nat), .int .i64 (pl i 3 : Nat)][j]? := by
    intro i hi j hj
    rcases i with _ | _ | _ | _ | _ | _ | _ | _ | i
    all_goals first | (exfalso; omega) | (rcases j with _ | _ | _ | _ | j <;> first | (exfalso; omega) | rfl)
  intro j v hv
  have hj : j < 4 := by
    have := (List.getElem?_eq_some_iff.1 hv).1
    simpa using this
  have := h (i * 4 + j) v (by rw [key i hi j hj]; exact hv)
  rwa [Nat.zero_add] at this
theorem info4 : (Tryd.prog.info? 32).map (·.size) = some 4 := by kernel_rfl

theorem back_any (xs : Ws) (w : World) (hg : Glob w) : Calls Tryd.prog 10 #[.agg (arrV xs)] w fun e w' => e = .returned (.agg (arrV (bck xs))) ∧ Below w.heap.size w w' := by
  have hl := hg.lt
  go_enter Tryd.func10, Tryd.ntmps10
  go_wp2
  go_loopw [3] (fun i wr => ∃ (k : Nat) (ys : Ws), k ≤ 8 ∧ i = .int .i64 ((k : Int) - 1) ∧ ArrU 23 wr w.heap.size ys ∧ bckF k ys = bck xs ∧ ArrU 23 wr (w.heap.size + 1) (fun _ => 0) ∧ Below w.heap.size w wr) (fun i _ => (intOf i + 1).toNat)
  case atStart => exact ⟨8, xs, Nat.le_refl _, by go_num, heap_alloc2_old w _ _, rfl, heap_alloc2_new w _ _, ((Below.refl _ _).alloc (Nat.le_refl _) _).alloc (by simp) _⟩
  case round =>
    obtain ⟨k, ys, hk, rfl, ha, hd, hz, hb⟩ := hrel
    have hsz : w.heap.size + 1 < wr.heap.size := hz.lt
    have hgr : Glob wr := hg.below hb hl
    by_cases hlt : 0 < k
    · obtain ⟨j, rfl⟩ : ∃ j, k = j + 1 := ⟨k - 1, by omega⟩
      obtain ⟨⟨l0, l1, l2, l3⟩, n01, n02, n03, n12, n13, n23⟩ := pl_ok j (by omega)
      have hat := rd_at hgr j (by omega)
      have HD : Hid (bckF j (ustep ys (pl j 0) (pl j 1) (pl j 2) (pl j 3)) = bck xs) := hd
      have hj8 : (j : Int) < 8 := by omega
      have hj0 : (0 : Int) ≤ (j : Int) := by omega
      clear hd
      generalize pl j 0 = k0 at *
      generalize pl j 1 = k1 at *
      generalize pl j 2 = k2 at *
      generalize pl j 3 = k3 at *
      go_wp2_with (refine wpList_load_mid rfl _ _ rfl 0 _ rfl _ _ hat Tryd.underlying32 rfl (by rw [info4]; rfl) ?_)
      have haW : ArrU 23 (wr.alloc (Obj.cells #[Value.int IntKind.i64 ↑k0, Value.int IntKind.i64 ↑k1, Value.int IntKind.i64 ↑k2, Value.int IntKind.i64 ↑k3] 32)) w.heap.size ys := ha.other (Below.heap_alloc wr _ _ ha.lt)
      have hzW : ArrU 23 (wr.alloc (Obj.cells #[Value.int IntKind.i64 ↑k0, Value.int IntKind.i64 ↑k1, Value.int IntKind.i64 ↑k2, Value.int IntKind.i64 ↑k3] 32)) (w.heap.size + 1) (fun _ => 0) := hz.other (Below.heap_alloc wr _ _ hz.lt)
      have hbW : Below w.heap.size w (wr.alloc (Obj.cells #[Value.int IntKind.i64 ↑k0, Value.int IntKind.i64 ↑k1, Value.int IntKind.i64 ↑k2, Value.int IntKind.i64 ↑k3] 32)) := hb.alloc (by omega) _
      have hpW := heap_alloc_new wr (Obj.cells #[Value.int IntKind.i64 ↑k0, Value.int IntKind.i64 ↑k1, Value.int IntKind.i64 ↑k2, Value.int IntKind.i64 ↑k3] 32)
      generalize (wr.alloc (Obj.cells #[Value.int IntKind.i64 ↑k0, Value.int IntKind.i64 ↑k1, Value.int IntKind.i64 ↑k2, Value.int IntKind.i64 ↑k3] 32)) = W at *
      generalize wr.heap.size = gp at *
      have hS : RS 23 w W gp ys k0 k1 k2 k3 := ⟨haW, hzW, hbW, PC.of_row hpW, hsz⟩
      have i0 : (k0 : Int) < 16 := by omega
      have i1 : (k1 : Int) < 16 := by omega
      have i2 : (k2 : Int) < 16 := by omega
      have i3 : (k3 : Int) < 16 := by omega
      obtain ⟨r, hr⟩ : ∃ r, Hid (r = uq (ys k0) (ys k1) (ys k2) (ys k3)) := ⟨_, rfl⟩
      clear ha hz hb hat hgr haW hzW hbW hpW
      refine wp_region_ord 24 [0, 1, 2, 3, 4, 5, 6, 7, 8, 9, 10, 11, 12, 13, 14, 15, 16, 17, 18, 19, 20, 21, 22, 23, 24, 25, 26, 27, 28, 29, 30, 31, 32, 33, 34, 35, 36, 37]
        (fun w' => PC w' gp k0 k1 k2 k3) (fun w' => SC w' w.heap.size ys k0 k1 k2 k3)
        (by kernel_rfl) (by kernel_rfl) (by kernel_rfl) hS.drew.pc (hS.drew.arr.sc k0 k1 k2 k3 l0 l1 l2 l3) (fun _ _ => ?_)
      have hS1 := hS.drew
      generalize W.drew = W1 at *
      clear hS
      repeat' (first
        | (refine wpOrd_quiet (v := ?_) rfl rfl (fun _ _ _ h => h) (by rfl) ?_ ?_
           rotate_left
           · (intro w' hT' _; obtain ⟨p0, p1, p2, p3⟩ := hT'; go_simp; try rfl)
           simp only [Act.put, List.setIfInBounds_toArray, List.set_cons_zero, List.set_cons_succ])
        | (refine wpOrd_early (v := ?_) rfl rfl (by kernel_rfl) (fun _ _ _ h => h) (by rfl) ?_ ?_
           rotate_left
           · (intro w' _ hU'; obtain ⟨p0, p1, p2, p3⟩ := hU'; go_simp; try rfl)
           simp only [Act.put, List.setIfInBounds_toArray, List.set_cons_zero, List.set_cons_succ]))
      refine wpOrd_step rfl rfl (by rfl) (fun K' hK => ?_)
      go_simp
      refine (unround_any _ _ _ _ r hr.out _).mono ?_
      rintro e w1 ⟨rfl, rfl⟩
      refine hK.out _ _ hS1.pc (fun h => absurd h (by decide)) (fun _ => ?_)
      clear hK K'
      try simp only [Act.put, List.setIfInBounds_toArray, List.set_cons_zero, List.set_cons_succ]
      repeat' (refine wpOrd_quiet (v := ?_) rfl rfl (fun _ _ _ h => h) (by rfl) ?_ ?_
               rotate_left
               · (intro w' _ _; go_simp; try rfl)
               simp only [Act.put, List.setIfInBounds_toArray, List.set_cons_zero, List.set_cons_succ])
      have f1 := hS1.arr.cell k0 l0
      have z1 := hS1.arr.frozen k0
      have hS2 := hS1.set k0 r.1
      refine wpOrd_step rfl rfl (by rfl) (fun K' hK => ?_)
      go_simp
      refine hK.out _ _ hS2.pc (fun h => absurd h (by decide)) (fun _ => ?_)
      clear hK K' f1 z1 hS1
      generalize W1.setCell ⟨w.heap.size, k0, none⟩ (.int .u32 (r.1.toNat : Int)) = W2 at *
      try simp only [Act.put, List.setIfInBounds_toArray, List.set_cons_zero, List.set_cons_succ]
      repeat' (refine wpOrd_quiet (v := ?_) rfl rfl (fun _ _ _ h => h) (by rfl) ?_ ?_
               rotate_left
               · (intro w' _ _; go_simp; try rfl)
               simp only [Act.put, List.setIfInBounds_toArray, List.set_cons_zero, List.set_cons_succ])
      have f2 := hS2.arr.cell k1 l1
      have z2 := hS2.arr.frozen k1
      have hS3 := hS2.set k1 r.2.1
      refine wpOrd_step rfl rfl (by rfl) (fun K' hK => ?_)
      go_simp
      refine hK.out _ _ hS3.pc (fun h => absurd h (by decide)) (fun _ => ?_)
      clear hK K' f2 z2 hS2
      generalize W2.setCell ⟨w.heap.size, k1, none⟩ (.int .u32 (r.2.1.toNat : Int)) = W3 at *
      try simp only [Act.put, List.setIfInBounds_toArray, List.set_cons_zero, List.set_cons_succ]
      repeat' (refine wpOrd_quiet (v := ?_) rfl rfl (fun _ _ _ h => h) (by rfl) ?_ ?_
               rotate_left
               · (intro w' _ _; go_simp; try rfl)
               simp only [Act.put, List.setIfInBounds_toArray, List.set_cons_zero, List.set_cons_succ])
      have f3 := hS3.arr.cell k2 l2
      have z3 := hS3.arr.frozen k2
      have hS4 := hS3.set k2 r.2.2.1
      refine wpOrd_step rfl rfl (by rfl) (fun K' hK => ?_)
      go_simp
      refine hK.out _ _ hS4.pc (fun h => absurd h (by decide)) (fun _ => ?_)
      clear hK K' f3 z3 hS3
      generalize W3.setCell ⟨w.heap.size, k2, none⟩ (.int .u32 (r.2.2.1.toNat : Int)) = W4 at *
      try simp only [Act.put, List.setIfInBounds_toArray, List.set_cons_zero, List.set_cons_succ]
      repeat' (refine wpOrd_quiet (v := ?_) rfl rfl (fun _ _ _ h => h) (by rfl) ?_ ?_
               rotate_left
               · (intro w' _ _; go_simp; try rfl)
               simp only [Act.put, List.setIfInBounds_toArray, List.set_cons_zero, List.set_cons_succ])
      have f4 := hS4.arr.cell k3 l3
      have z4 := hS4.arr.frozen k3
      have hS5 := hS4.set k3 r.2.2.2
      refine wpOrd_step rfl rfl (by rfl) (fun K' hK => ?_)
      go_simp
      refine hK.out _ _ hS5.pc (fun h => absurd h (by decide)) (fun _ => ?_)
      clear hK K' f4 z4 hS4
      generalize W4.setCell ⟨w.heap.size, k3, none⟩ (.int .u32 (r.2.2.2.toNat : Int)) = W5 at *
      try simp only [Act.put, List.setIfInBounds_toArray, List.set_cons_zero, List.set_cons_succ]
      refine wpOrd_nil ?_
      go_wp2
      go_roundw
      case rel => exact ⟨j, _, by omega, by go_num, hS5.arr, by rw [← HD.out, ustep, ← hr.out]; rfl, hS5.out, hS5.bel⟩
      case measure => simp [intOf]
    · have hk' : k = 0 := by omega
      subst hk'
      have hd' : ys = bck xs := hd
      subst hd'
      clear hd
      go_wp2_with (first
        | (refine wpList_load_row rfl _ _ rfl _ rfl _ _ _ _ ha Tryd.underlying23 rfl (by rw [arrV_size, info16]) ?_)
        | (refine wpList_store_row rfl _ _ _ rfl _ _ rfl rfl _ _ hz (by rw [arrV_size, info16]) (by rw [arrV_size, arrV_size]) (arrV_one _) ?_))
      refine bodyPost_ret (results_cell_row rfl _ _ _ _ _ _ _ rfl (hz.setRow _) Tryd.underlying23 rfl (by rw [arrV_size, info16])) rfl ?_
      exact ⟨rfl, Below.setRow hb (by omega) _⟩

#print axioms back_any
end Go.Proofs.YtinbfbcikodekaaDoor
