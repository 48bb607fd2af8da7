/- What a call of quar.Double does: for every sixteen words; nothing that was there is turned. -/
import Derived.Test.YthhaeiafgloacaaDoorQRound
import Derived.Test.YthhaeiafgloacaaDoorQArr
import Derived.Test.YthhaeiafgloacaaDoorText
namespace Go.Proofs.YthhaeiafgloacaaDoor
open Go.RowKit

/-- What quar.rounds reads as, cell by cell. -/
def rdL : List Value := (plT.map fun r => r.map fun (n : Nat) => Value.int .i64 (n : Int)).flatten
def Glob (w : World) : Prop := w.rangeAt 0 0 rdL

theorem Glob.lt {w : World} (h : Glob w) : 0 < w.heap.size := World.block_lt_of_cell? w _ (h 0 (.int .i64 0) rfl)
theorem Glob.below {w w' : World} {B : Nat} (h : Glob w) (hb : Below B w w') (hB : 0 < B) : Glob w' := fun j v hv => by
  rw [hb.cell (p := ⟨0, 0 + j, none⟩) hB]; exact h j v hv

theorem index_rd (i : Nat) (hi : i < 8) (w : World) : (Instr.index 58 (.agg rdL.toArray) (.int .i64 (i : Int))).run Tryd.prog w = .ok (.agg #[.int .i64 (pl i 0 : Nat), .int .i64 (pl i 1 : Nat), .int .i64 (pl i 2 : Nat), .int .i64 (pl i 3 : Nat)]) w := by
  rcases i with _ | _ | _ | _ | _ | _ | _ | _ | i
  all_goals first | (exfalso; omega) | rfl

theorem info16 : (Tryd.prog.info? 49).map (·.size) = some 16 := by kernel_rfl
theorem info32 : (Tryd.prog.info? 58).map (·.size) = some 32 := by kernel_rfl

/-- Four places in block g. -/
structure PC (w : World) (g k0 k1 k2 k3 : Nat) : Prop where
  c0 : w.cell? ⟨g, 0, none⟩ = some (.int .i64 (k0 : Int))
  c1 : w.cell? ⟨g, 1, none⟩ = some (.int .i64 (k1 : Int))
  c2 : w.cell? ⟨g, 2, none⟩ = some (.int .i64 (k2 : Int))
  c3 : w.cell? ⟨g, 3, none⟩ = some (.int .i64 (k3 : Int))
/-- Four words of block g. -/
structure SC (w : World) (g : Nat) (ys : Ws) (k0 k1 k2 k3 : Nat) : Prop where
  s0 : w.cell? ⟨g, k0, none⟩ = some (.int .u32 ((ys k0).toNat : Int))
  s1 : w.cell? ⟨g, k1, none⟩ = some (.int .u32 ((ys k1).toNat : Int))
  s2 : w.cell? ⟨g, k2, none⟩ = some (.int .u32 ((ys k2).toNat : Int))
  s3 : w.cell? ⟨g, k3, none⟩ = some (.int .u32 ((ys k3).toNat : Int))
theorem PC.of_row {w : World} {g k0 k1 k2 k3 : Nat} {E : TypeId} (h : w.heap[g]? = some (.cells #[.int .i64 (k0 : Int), .int .i64 (k1 : Int), .int .i64 (k2 : Int), .int .i64 (k3 : Int)] E (0, 0))) : PC w g k0 k1 k2 k3 :=
  ⟨cell_of_row w g 0 _ _ _ h, cell_of_row w g 1 _ _ _ h, cell_of_row w g 2 _ _ _ h, cell_of_row w g 3 _ _ _ h⟩
theorem PC.other {w w' : World} {g k0 k1 k2 k3 : Nat} (h : PC w g k0 k1 k2 k3) (hb : w'.heap[g]? = w.heap[g]?) : PC w' g k0 k1 k2 k3 :=
  ⟨(World.cell?_of_block (w := w) hb).trans h.c0, (World.cell?_of_block (w := w) hb).trans h.c1, (World.cell?_of_block (w := w) hb).trans h.c2, (World.cell?_of_block (w := w) hb).trans h.c3⟩
theorem ArrU.sc {E : TypeId} {w : World} {g : Nat} {ys : Ws} (h : ArrU E w g ys) (k0 k1 k2 k3 : Nat) (h0 : k0 < 16) (h1 : k1 < 16) (h2 : k2 < 16) (h3 : k3 < 16) : SC w g ys k0 k1 k2 k3 :=
  ⟨h.cell k0 h0, h.cell k1 h1, h.cell k2 h2, h.cell k3 h3⟩

/-- A round's state: the words at gs, the noughts behind them, the places at gp. -/
structure RS (E : TypeId) (w W : World) (gp : Nat) (ys : Ws) (k0 k1 k2 k3 : Nat) : Prop where
  arr : ArrU E W w.heap.size ys
  out : ArrU E W (w.heap.size + 1) (fun _ => 0)
  bel : Below w.heap.size w W
  pc : PC W gp k0 k1 k2 k3
  far : w.heap.size + 1 < gp
theorem RS.drew {E : TypeId} {w W : World} {gp : Nat} {ys : Ws} {k0 k1 k2 k3 : Nat} (h : RS E w W gp ys k0 k1 k2 k3) : RS E w W.drew gp ys k0 k1 k2 k3 :=
  ⟨h.arr, h.out, h.bel.drew, ⟨h.pc.c0, h.pc.c1, h.pc.c2, h.pc.c3⟩, h.far⟩
theorem RS.set {E : TypeId} {w W : World} {gp : Nat} {ys : Ws} {k0 k1 k2 k3 : Nat} (h : RS E w W gp ys k0 k1 k2 k3) (k : Nat) (v : BitVec 32) :
    RS E w (W.setCell ⟨w.heap.size, k, none⟩ (.int .u32 (v.toNat : Int))) gp (upd ys k v) k0 k1 k2 k3 :=
  ⟨h.arr.set k v, h.out.other (heap_setCell_other W _ _ _ (by simp)), h.bel.setCell (Nat.le_refl _) _, h.pc.other (heap_setCell_other W _ _ _ (by have := h.far; simp; omega)), h.far⟩

theorem double_any (xs : Ws) (w : World) (hg : Glob w) : Calls Tryd.prog 36 #[.agg (arrV xs)] w fun e w' => e = .returned (.agg (arrV (dbl xs))) ∧ Below w.heap.size w w' := by
  have hl := hg.lt
  go_enter Tryd.func36, Tryd.ntmps36
  go_wp2_with (refine wpList_load_mid rfl _ _ rfl 0 0 rfl rdL _ (World.rangeAt_alloc (World.rangeAt_alloc hg _) _) Tryd.underlying58 rfl (by rw [info32]; rfl) ?_)
  go_loopw [6] (fun i wr => ∃ k : Nat, k ≤ 8 ∧ i = .int .i64 k ∧ ArrU 49 wr w.heap.size (dblN xs k) ∧ ArrU 49 wr (w.heap.size + 1) (fun _ => 0) ∧ Below w.heap.size w wr) (fun i _ => 8 - (intOf i).toNat)
  case atStart => exact ⟨0, Nat.zero_le _, rfl, heap_alloc2_old w _ _, heap_alloc2_new w _ _, ((Below.refl _ _).alloc (Nat.le_refl _) _).alloc (by simp) _⟩
  case round =>
    obtain ⟨k, hk, rfl, ha, hz, hb⟩ := hrel
    have hsz : w.heap.size + 1 < wr.heap.size := hz.lt
    by_cases hlt : k < 8
    · have hI := index_rd k hlt
      obtain ⟨⟨l0, l1, l2, l3⟩, n01, n02, n03, n12, n13, n23⟩ := pl_ok k hlt
      have HD : Hid (dblN xs (k + 1) = qstep (dblN xs k) (pl k 0) (pl k 1) (pl k 2) (pl k 3)) := rfl
      generalize pl k 0 = k0 at *
      generalize pl k 1 = k1 at *
      generalize pl k 2 = k2 at *
      generalize pl k 3 = k3 at *
      generalize dblN xs k = ys at *
      go_wp2
      have haW : ArrU 49 (wr.alloc (Obj.cells #[Value.int IntKind.i64 ↑k0, Value.int IntKind.i64 ↑k1, Value.int IntKind.i64 ↑k2, Value.int IntKind.i64 ↑k3] 57)) w.heap.size ys := ha.other (Below.heap_alloc wr _ _ ha.lt)
      have hzW : ArrU 49 (wr.alloc (Obj.cells #[Value.int IntKind.i64 ↑k0, Value.int IntKind.i64 ↑k1, Value.int IntKind.i64 ↑k2, Value.int IntKind.i64 ↑k3] 57)) (w.heap.size + 1) (fun _ => 0) := hz.other (Below.heap_alloc wr _ _ hz.lt)
      have hbW : Below w.heap.size w (wr.alloc (Obj.cells #[Value.int IntKind.i64 ↑k0, Value.int IntKind.i64 ↑k1, Value.int IntKind.i64 ↑k2, Value.int IntKind.i64 ↑k3] 57)) := hb.alloc (by omega) _
      have hpW := heap_alloc_new wr (Obj.cells #[Value.int IntKind.i64 ↑k0, Value.int IntKind.i64 ↑k1, Value.int IntKind.i64 ↑k2, Value.int IntKind.i64 ↑k3] 57)
      generalize (wr.alloc (Obj.cells #[Value.int IntKind.i64 ↑k0, Value.int IntKind.i64 ↑k1, Value.int IntKind.i64 ↑k2, Value.int IntKind.i64 ↑k3] 57)) = W at *
      generalize wr.heap.size = gp at *
      have hS : RS 49 w W gp ys k0 k1 k2 k3 := ⟨haW, hzW, hbW, PC.of_row hpW, hsz⟩
      have i0 : (k0 : Int) < 16 := by omega
      have i1 : (k1 : Int) < 16 := by omega
      have i2 : (k2 : Int) < 16 := by omega
      have i3 : (k3 : Int) < 16 := by omega
      obtain ⟨r, hr⟩ : ∃ r, Hid (r = qr (ys k0) (ys k1) (ys k2) (ys k3)) := ⟨_, rfl⟩
      clear ha hz hb hI haW hzW hbW hpW
      refine wp_region_ord 24 [0, 1, 2, 3, 4, 5, 6, 7, 8, 9, 10, 11, 12, 13, 14, 15, 16, 17, 18, 19, 20, 21, 22, 23, 24, 25, 26, 27, 28, 29, 30, 31, 32, 33, 34, 35, 36, 37]
        (fun w' => PC w' gp k0 k1 k2 k3) (fun w' => SC w' w.heap.size ys k0 k1 k2 k3)
        (by kernel_rfl) (by kernel_rfl) (by kernel_rfl) hS.drew.pc (hS.drew.arr.sc k0 k1 k2 k3 l0 l1 l2 l3) (fun _ _ => ?_)
      have hS1 := hS.drew
      generalize W.drew = W1 at *
      clear hS
      repeat' (first
        | (refine wpOrd_quiet (v := ?_) rfl rfl (fun _ _ _ h => h) (by rfl) ?_ ?_
           rotate_left
           · (intro w' hT' _; obtain ⟨p0, p1, p2, p3⟩ := hT'; go_simp; try rfl)
           simp only [Act.put, List.setIfInBounds_toArray, List.set_cons_zero, List.set_cons_succ])
        | (refine wpOrd_early (v := ?_) rfl rfl (by kernel_rfl) (fun _ _ _ h => h) (by rfl) ?_ ?_
           rotate_left
           · (intro w' _ hU'; obtain ⟨p0, p1, p2, p3⟩ := hU'; go_simp; try rfl)
           simp only [Act.put, List.setIfInBounds_toArray, List.set_cons_zero, List.set_cons_succ]))
      refine wpOrd_step rfl rfl (by rfl) (fun K' hK => ?_)
      go_simp
      refine (round_any _ _ _ _ r hr.out _).mono ?_
      rintro e w1 ⟨rfl, rfl⟩
      refine hK.out _ _ hS1.pc (fun h => absurd h (by decide)) (fun _ => ?_)
      clear hK K'
      try simp only [Act.put, List.setIfInBounds_toArray, List.set_cons_zero, List.set_cons_succ]
      repeat' (refine wpOrd_quiet (v := ?_) rfl rfl (fun _ _ _ h => h) (by rfl) ?_ ?_
               rotate_left
               · (intro w' _ _; go_simp; try rfl)
               simp only [Act.put, List.setIfInBounds_toArray, List.set_cons_zero, List.set_cons_succ])
      have f1 := hS1.arr.cell k0 l0
      have z1 := hS1.arr.frozen k0
      have hS2 := hS1.set k0 r.1
      refine wpOrd_step rfl rfl (by rfl) (fun K' hK => ?_)
      go_simp
      refine hK.out _ _ hS2.pc (fun h => absurd h (by decide)) (fun _ => ?_)
      clear hK K' f1 z1 hS1
      generalize W1.setCell ⟨w.heap.size, k0, none⟩ (.int .u32 (r.1.toNat : Int)) = W2 at *
      try simp only [Act.put, List.setIfInBounds_toArray, List.set_cons_zero, List.set_cons_succ]
      repeat' (refine wpOrd_quiet (v := ?_) rfl rfl (fun _ _ _ h => h) (by rfl) ?_ ?_
               rotate_left
               · (intro w' _ _; go_simp; try rfl)
               simp only [Act.put, List.setIfInBounds_toArray, List.set_cons_zero, List.set_cons_succ])
      have f2 := hS2.arr.cell k1 l1
      have z2 := hS2.arr.frozen k1
      have hS3 := hS2.set k1 r.2.1
      refine wpOrd_step rfl rfl (by rfl) (fun K' hK => ?_)
      go_simp
      refine hK.out _ _ hS3.pc (fun h => absurd h (by decide)) (fun _ => ?_)
      clear hK K' f2 z2 hS2
      generalize W2.setCell ⟨w.heap.size, k1, none⟩ (.int .u32 (r.2.1.toNat : Int)) = W3 at *
      try simp only [Act.put, List.setIfInBounds_toArray, List.set_cons_zero, List.set_cons_succ]
      repeat' (refine wpOrd_quiet (v := ?_) rfl rfl (fun _ _ _ h => h) (by rfl) ?_ ?_
               rotate_left
               · (intro w' _ _; go_simp; try rfl)
               simp only [Act.put, List.setIfInBounds_toArray, List.set_cons_zero, List.set_cons_succ])
      have f3 := hS3.arr.cell k2 l2
      have z3 := hS3.arr.frozen k2
      have hS4 := hS3.set k2 r.2.2.1
      refine wpOrd_step rfl rfl (by rfl) (fun K' hK => ?_)
      go_simp
      refine hK.out _ _ hS4.pc (fun h => absurd h (by decide)) (fun _ => ?_)
      clear hK K' f3 z3 hS3
      generalize W3.setCell ⟨w.heap.size, k2, none⟩ (.int .u32 (r.2.2.1.toNat : Int)) = W4 at *
      try simp only [Act.put, List.setIfInBounds_toArray, List.set_cons_zero, List.set_cons_succ]
      repeat' (refine wpOrd_quiet (v := ?_) rfl rfl (fun _ _ _ h => h) (by rfl) ?_ ?_
               rotate_left
               · (intro w' _ _; go_simp; try rfl)
               simp only [Act.put, List.setIfInBounds_toArray, List.set_cons_zero, List.set_cons_succ])
      have f4 := hS4.arr.cell k3 l3
      have z4 := hS4.arr.frozen k3
      have hS5 := hS4.set k3 r.2.2.2
      refine wpOrd_step rfl rfl (by rfl) (fun K' hK => ?_)
      go_simp
      refine hK.out _ _ hS5.pc (fun h => absurd h (by decide)) (fun _ => ?_)
      clear hK K' f4 z4 hS4
      generalize W4.setCell ⟨w.heap.size, k3, none⟩ (.int .u32 (r.2.2.2.toNat : Int)) = W5 at *
      try simp only [Act.put, List.setIfInBounds_toArray, List.set_cons_zero, List.set_cons_succ]
      refine wpOrd_nil ?_
      go_wp2
      go_roundw
      case rel => exact ⟨k + 1, by omega, by go_num, by rw [HD.out, qstep, ← hr.out]; exact hS5.arr, hS5.out, hS5.bel⟩
      case measure => simp [intOf]; omega
    · have hk' : k = 8 := by omega
      subst hk'
      go_wp2_with (first
        | (refine wpList_load_row rfl _ _ rfl _ rfl _ _ _ _ ha Tryd.underlying49 rfl (by rw [arrV_size, info16]) ?_)
        | (refine wpList_store_row rfl _ _ _ rfl _ _ rfl rfl _ _ hz (by rw [arrV_size, info16]) (by rw [arrV_size, arrV_size]) (arrV_one _) ?_))
      refine bodyPost_ret (results_cell_row rfl _ _ _ _ _ _ _ rfl (hz.setRow _) Tryd.underlying49 rfl (by rw [arrV_size, info16])) rfl ?_
      exact ⟨rfl, Below.setRow hb (by omega) _⟩

#print axioms double_any
end Go.Proofs.YthhaeiafgloacaaDoor
