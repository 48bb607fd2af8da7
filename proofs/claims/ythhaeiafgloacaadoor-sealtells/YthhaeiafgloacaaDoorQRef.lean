/- What calls of dumbwaiterref1's quarters and Double do: for every sixteen words; nothing that was there is turned. -/
import Derived.Test.YthhaeiafgloacaaDoorQPlaces
namespace Go.Proofs.YthhaeiafgloacaaDoor
open Go.RowKit

theorem wpList_build_is {P : Program} {ops : Array Oper} {rest : List Oper} {o : Oper} {a : Act} {w : World} {Q : Exit → Act → World → Prop} (hg : o.guard = none) (t : TypeId) (parts : Array (Nat × Operand)) (ho : o.op = .build t parts)
    (cells : Array Value) (hf : P.built t (parts.map fun (i, x) => (i, a.eval x)).toList = some cells)
    (h : wpList P ops Q rest (a.put o.dst (.agg cells)) w) : wpList P ops Q (o :: rest) a w := by
  refine wpList_build hg t parts ho (by rw [hf]; rfl) ?_
  rw [hf]
  exact h

theorem rdL_one : rdL.toArray.all (·.oneCell') = true := by kernel_rfl
theorem rdL_size : rdL.toArray.size = 32 := rfl

theorem quarters_any (w : World) : Calls Tryd.prog 37 #[] w fun e w' => e = .returned (.agg rdL.toArray) ∧ Below w.heap.size w w' := by
  go_enter Tryd.func37, Tryd.ntmps37
  go_wp2_with (first
    | (refine wpList_build_is rfl 58 _ rfl rdL.toArray (by kernel_rfl) ?_)
    | (refine wpList_store_row rfl 58 _ _ rfl _ _ rfl rfl _ _ (heap_alloc_new w _) (by rw [rdL_size, info32]) rfl rdL_one ?_))
  refine bodyPost_ret (results_cell_row rfl _ _ _ _ _ _ _ rfl (setRow_heap _ _ _ _ _ _ (heap_alloc_new w _)) Tryd.underlying58 rfl (by rw [rdL_size, info32])) rfl ?_
  exact ⟨rfl, Below.setRow ((Below.refl _ _).alloc (Nat.le_refl _) _) (Nat.le_refl _) _⟩

theorem rangeAt_row {w : World} {g : Nat} {l : List Value} {E : TypeId} {fr : Nat × Nat} (h : w.heap[g]? = some (.cells l.toArray E fr)) : w.rangeAt g 0 l := fun j v hv => by
  rw [Nat.zero_add, cell_of_row w g j _ _ _ h]
  simpa using hv
theorem rangeAt_other {w w' : World} {g o : Nat} {l : List Value} (h : w.rangeAt g o l) (hb : w'.heap[g]? = w.heap[g]?) : w'.rangeAt g o l := fun j v hv => (World.cell?_of_block (w := w) hb).trans (h j v hv)

set_option maxHeartbeats 1000000 in
theorem rdouble_any (xs : Ws) (w : World) : Calls Tryd.prog 34 #[.agg (arrV xs)] w fun e w' => e = .returned (.agg (arrV (dbl xs))) ∧ Below w.heap.size w w' := by
  go_enter Tryd.func34, Tryd.ntmps34
  go_wp2_with fail
  have ha0 : ArrU 49 ((w.alloc (Obj.cells (arrV xs) 49)).alloc (Obj.cells (arrV (fun _ => 0)) 49)) w.heap.size xs := heap_alloc2_old w _ _
  have hz0 : ArrU 49 ((w.alloc (Obj.cells (arrV xs) 49)).alloc (Obj.cells (arrV (fun _ => 0)) 49)) (w.heap.size + 1) (fun _ => 0) := heap_alloc2_new w _ _
  have hb0 : Below w.heap.size w ((w.alloc (Obj.cells (arrV xs) 49)).alloc (Obj.cells (arrV (fun _ => 0)) 49)) := ((Below.refl _ _).alloc (Nat.le_refl _) _).alloc (by simp) _
  refine (quarters_any _).mono ?_
  rintro e w1 ⟨rfl, hb1⟩
  have ha1 := ha0.below hb1 ha0.lt
  have hz1 := hz0.below hb1 hz0.lt
  have hbw1 := hb0.trans (hb1.mono hb0.size)
  have hs1 : w.heap.size + 1 < w1.heap.size := hz1.lt
  clear ha0 hz0 hb0 hb1
  go_wp2_with (refine wpList_store_row rfl 58 _ _ rfl _ _ rfl rfl _ _ (heap_alloc_new w1 _) (by rw [rdL_size, info32]) rfl rdL_one ?_)
  go_loopw [4] (fun i wr => ∃ k : Nat, k ≤ 8 ∧ i = .int .i64 k ∧ ArrU 49 wr w.heap.size (dblN xs k) ∧ ArrU 49 wr (w.heap.size + 1) (fun _ => 0) ∧ Below w.heap.size w wr ∧ wr.rangeAt w1.heap.size 0 rdL) (fun i _ => 8 - (intOf i).toNat)
  case atStart => exact ⟨0, Nat.zero_le _, rfl, ha1.other ((setRow_other _ _ _ _ (by omega)).trans (Below.heap_alloc w1 _ _ ha1.lt)), hz1.other ((setRow_other _ _ _ _ (by omega)).trans (Below.heap_alloc w1 _ _ hz1.lt)), Below.setRow (hbw1.alloc (by omega) _) (by omega) _, rangeAt_row (setRow_heap _ _ _ _ _ _ (heap_alloc_new w1 _))⟩
  case round =>
    obtain ⟨k, hk, rfl, ha, hz, hb, hq⟩ := hrel
    have hgq : w1.heap.size < wr.heap.size := World.block_lt_of_cell? wr _ (hq 0 (.int .i64 0) rfl)
    have hsz : w.heap.size + 1 < wr.heap.size := hz.lt
    generalize w1.heap.size = gq at *
    clear ha1 hz1 hbw1
    by_cases hlt : k < 8
    · have hat := rd_at hq k hlt
      obtain ⟨⟨l0, l1, l2, l3⟩, n01, n02, n03, n12, n13, n23⟩ := pl_ok k hlt
      have HD : Hid (dblN xs (k + 1) = qstep (dblN xs k) (pl k 0) (pl k 1) (pl k 2) (pl k 3)) := rfl
      have hj8 : (k : Int) < 8 := by omega
      generalize pl k 0 = k0 at *
      generalize pl k 1 = k1 at *
      generalize pl k 2 = k2 at *
      generalize pl k 3 = k3 at *
      generalize dblN xs k = ys at *
      go_wp2_with (refine wpList_load_mid rfl _ _ rfl _ _ rfl _ _ hat Tryd.underlying57 rfl (by rw [info4]; rfl) ?_)
      have haW : ArrU 49 (wr.alloc (Obj.cells #[Value.int IntKind.i64 ↑k0, Value.int IntKind.i64 ↑k1, Value.int IntKind.i64 ↑k2, Value.int IntKind.i64 ↑k3] 57)) w.heap.size ys := ha.other (Below.heap_alloc wr _ _ ha.lt)
      have hzW : ArrU 49 (wr.alloc (Obj.cells #[Value.int IntKind.i64 ↑k0, Value.int IntKind.i64 ↑k1, Value.int IntKind.i64 ↑k2, Value.int IntKind.i64 ↑k3] 57)) (w.heap.size + 1) (fun _ => 0) := hz.other (Below.heap_alloc wr _ _ hz.lt)
      have hbW : Below w.heap.size w (wr.alloc (Obj.cells #[Value.int IntKind.i64 ↑k0, Value.int IntKind.i64 ↑k1, Value.int IntKind.i64 ↑k2, Value.int IntKind.i64 ↑k3] 57)) := hb.alloc (by omega) _
      have hpW := heap_alloc_new wr (Obj.cells #[Value.int IntKind.i64 ↑k0, Value.int IntKind.i64 ↑k1, Value.int IntKind.i64 ↑k2, Value.int IntKind.i64 ↑k3] 57)
      have hqW := rangeAt_other hq (Below.heap_alloc wr (Obj.cells #[Value.int IntKind.i64 ↑k0, Value.int IntKind.i64 ↑k1, Value.int IntKind.i64 ↑k2, Value.int IntKind.i64 ↑k3] 57) _ hgq)
      generalize (wr.alloc (Obj.cells #[Value.int IntKind.i64 ↑k0, Value.int IntKind.i64 ↑k1, Value.int IntKind.i64 ↑k2, Value.int IntKind.i64 ↑k3] 57)) = W at *
      generalize wr.heap.size = gp at *
      have hS : RS 49 w W gp ys k0 k1 k2 k3 := ⟨haW, hzW, hbW, PC.of_row hpW, hsz⟩
      have i0 : (k0 : Int) < 16 := by omega
      have i1 : (k1 : Int) < 16 := by omega
      have i2 : (k2 : Int) < 16 := by omega
      have i3 : (k3 : Int) < 16 := by omega
      obtain ⟨r, hr⟩ : ∃ r, Hid (r = qr (ys k0) (ys k1) (ys k2) (ys k3)) := ⟨_, rfl⟩
      clear ha hz hb hat hq hgq haW hzW hbW hpW
      refine wp_region_ord 1000 [0, 1, 2, 3, 4, 5, 6, 7, 8, 9, 10, 11, 12, 13, 14, 15, 16, 17, 18, 19, 20, 21, 22, 23, 24, 25]
        (fun w' => PC w' gp k0 k1 k2 k3 ∧ SC w' w.heap.size ys k0 k1 k2 k3) (fun _ => True)
        (by kernel_rfl) (by kernel_rfl) (by kernel_rfl) ⟨hS.drew.pc, hS.drew.arr.sc k0 k1 k2 k3 l0 l1 l2 l3⟩ trivial (fun hT1 _ => ?_)
      have hS1 := hS.drew
      have hq1 : W.drew.rangeAt gq 0 rdL := hqW
      generalize W.drew = W1 at *
      clear hS hqW
      repeat' (refine wpOrd_quiet (v := ?_) rfl rfl (fun _ _ _ h => h) (by rfl) ?_ ?_
               rotate_left
               · (intro w' hT' _; obtain ⟨⟨p0, p1, p2, p3⟩, ⟨q0, q1, q2, q3⟩⟩ := hT'; go_simp; try rfl)
               simp only [Act.put, List.setIfInBounds_toArray, List.set_cons_zero, List.set_cons_succ])
      refine wpOrd_step rfl rfl (by rfl) (fun K' hK => ?_)
      go_simp
      refine (rround_any _ _ _ _ r hr.out _).mono ?_
      rintro e w2 ⟨rfl, rfl⟩
      refine hK.out _ _ hT1 (fun h => absurd h (by decide)) (fun _ => ?_)
      clear hK K'
      try simp only [Act.put, List.setIfInBounds_toArray, List.set_cons_zero, List.set_cons_succ]
      repeat' (refine wpOrd_quiet (v := ?_) rfl rfl (fun _ _ _ h => h) (by rfl) ?_ ?_
               rotate_left
               · (intro w' hT' _; obtain ⟨⟨p0, p1, p2, p3⟩, ⟨q0, q1, q2, q3⟩⟩ := hT'; go_simp; try rfl)
               simp only [Act.put, List.setIfInBounds_toArray, List.set_cons_zero, List.set_cons_succ])
      refine wpOrd_nil ?_
      clear hT1
      go_wp2
      refine wp_region_ord 1000 [0, 1, 2, 3, 4, 5, 6, 7, 8, 9, 10, 11, 12, 13, 14, 15, 16, 17, 18, 19]
        (fun w' => PC w' gp k0 k1 k2 k3) (fun _ => True)
        (by kernel_rfl) (by kernel_rfl) (by kernel_rfl) hS1.drew.pc trivial (fun _ _ => ?_)
      have hS2 := hS1.drew
      have hq2 : W1.drew.rangeAt gq 0 rdL := hq1
      generalize W1.drew = W2 at *
      clear hS1 hq1
      repeat' (refine wpOrd_quiet (v := ?_) rfl rfl (fun _ _ _ h => h) (by rfl) ?_ ?_
               rotate_left
               · (intro w' hT' _; obtain ⟨p0, p1, p2, p3⟩ := hT'; go_simp; try rfl)
               simp only [Act.put, List.setIfInBounds_toArray, List.set_cons_zero, List.set_cons_succ])
      have f2 := hS2.arr.cell k0 l0
      have z2 := hS2.arr.frozen k0
      have hS3 := hS2.set k0 r.1
      have hq3 := rangeAt_other hq2 (heap_setCell_other W2 ⟨w.heap.size, k0, none⟩ gq (.int .u32 (r.1.toNat : Int)) (by simp; omega))
      refine wpOrd_step rfl rfl (by rfl) (fun K' hK => ?_)
      go_simp
      refine hK.out _ _ hS3.pc (fun h => absurd h (by decide)) (fun _ => ?_)
      clear hK K' f2 z2 hS2 hq2
      generalize W2.setCell ⟨w.heap.size, k0, none⟩ (.int .u32 (r.1.toNat : Int)) = W3 at *
      try simp only [Act.put, List.setIfInBounds_toArray, List.set_cons_zero, List.set_cons_succ]
      repeat' (refine wpOrd_quiet (v := ?_) rfl rfl (fun _ _ _ h => h) (by rfl) ?_ ?_
               rotate_left
               · (intro w' hT' _; obtain ⟨p0, p1, p2, p3⟩ := hT'; go_simp; try rfl)
               simp only [Act.put, List.setIfInBounds_toArray, List.set_cons_zero, List.set_cons_succ])
      have f3 := hS3.arr.cell k1 l1
      have z3 := hS3.arr.frozen k1
      have hS4 := hS3.set k1 r.2.1
      have hq4 := rangeAt_other hq3 (heap_setCell_other W3 ⟨w.heap.size, k1, none⟩ gq (.int .u32 (r.2.1.toNat : Int)) (by simp; omega))
      refine wpOrd_step rfl rfl (by rfl) (fun K' hK => ?_)
      go_simp
      refine hK.out _ _ hS4.pc (fun h => absurd h (by decide)) (fun _ => ?_)
      clear hK K' f3 z3 hS3 hq3
      generalize W3.setCell ⟨w.heap.size, k1, none⟩ (.int .u32 (r.2.1.toNat : Int)) = W4 at *
      try simp only [Act.put, List.setIfInBounds_toArray, List.set_cons_zero, List.set_cons_succ]
      repeat' (refine wpOrd_quiet (v := ?_) rfl rfl (fun _ _ _ h => h) (by rfl) ?_ ?_
               rotate_left
               · (intro w' hT' _; obtain ⟨p0, p1, p2, p3⟩ := hT'; go_simp; try rfl)
               simp only [Act.put, List.setIfInBounds_toArray, List.set_cons_zero, List.set_cons_succ])
      have f4 := hS4.arr.cell k2 l2
      have z4 := hS4.arr.frozen k2
      have hS5 := hS4.set k2 r.2.2.1
      have hq5 := rangeAt_other hq4 (heap_setCell_other W4 ⟨w.heap.size, k2, none⟩ gq (.int .u32 (r.2.2.1.toNat : Int)) (by simp; omega))
      refine wpOrd_step rfl rfl (by rfl) (fun K' hK => ?_)
      go_simp
      refine hK.out _ _ hS5.pc (fun h => absurd h (by decide)) (fun _ => ?_)
      clear hK K' f4 z4 hS4 hq4
      generalize W4.setCell ⟨w.heap.size, k2, none⟩ (.int .u32 (r.2.2.1.toNat : Int)) = W5 at *
      try simp only [Act.put, List.setIfInBounds_toArray, List.set_cons_zero, List.set_cons_succ]
      repeat' (refine wpOrd_quiet (v := ?_) rfl rfl (fun _ _ _ h => h) (by rfl) ?_ ?_
               rotate_left
               · (intro w' hT' _; obtain ⟨p0, p1, p2, p3⟩ := hT'; go_simp; try rfl)
               simp only [Act.put, List.setIfInBounds_toArray, List.set_cons_zero, List.set_cons_succ])
      have f5 := hS5.arr.cell k3 l3
      have z5 := hS5.arr.frozen k3
      have hS6 := hS5.set k3 r.2.2.2
      have hq6 := rangeAt_other hq5 (heap_setCell_other W5 ⟨w.heap.size, k3, none⟩ gq (.int .u32 (r.2.2.2.toNat : Int)) (by simp; omega))
      refine wpOrd_step rfl rfl (by rfl) (fun K' hK => ?_)
      go_simp
      refine hK.out _ _ hS6.pc (fun h => absurd h (by decide)) (fun _ => ?_)
      clear hK K' f5 z5 hS5 hq5
      generalize W5.setCell ⟨w.heap.size, k3, none⟩ (.int .u32 (r.2.2.2.toNat : Int)) = W6 at *
      try simp only [Act.put, List.setIfInBounds_toArray, List.set_cons_zero, List.set_cons_succ]
      refine wpOrd_nil ?_
      go_wp2
      go_roundw
      case rel => exact ⟨k + 1, by omega, by go_num, by rw [HD.out, qstep, ← hr.out]; exact hS6.arr, hS6.out, hS6.bel, hq6⟩
      case measure => simp [intOf]; omega
    · have hk' : k = 8 := by omega
      subst hk'
      go_wp2_with (first
        | (refine wpList_load_row rfl _ _ rfl _ rfl _ _ _ _ ha Tryd.underlying49 rfl (by rw [arrV_size, info16]) ?_)
        | (refine wpList_store_row rfl _ _ _ rfl _ _ rfl rfl _ _ hz (by rw [arrV_size, info16]) (by rw [arrV_size, arrV_size]) (arrV_one _) ?_))
      refine bodyPost_ret (results_cell_row rfl _ _ _ _ _ _ _ rfl (hz.setRow _) Tryd.underlying49 rfl (by rw [arrV_size, info16])) rfl ?_
      exact ⟨rfl, Below.setRow hb (by omega) _⟩

#print axioms rdouble_any
end Go.Proofs.YthhaeiafgloacaaDoor
