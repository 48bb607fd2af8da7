/- The law QuarTurns answers true for every sixteen words, every place and every word, wherever quar.rounds reads as its text says; nothing that was there is turned. -/
import Derived.Test.YtinbfbcikodekaaDoorQuarBacksW
namespace Go.Proofs.YtinbfbcikodekaaDoor
open Go.RowKit

theorem wrap_small (k : Nat) (h : k < 16) : IntKind.i64.wrap (k : Int) = (k : Int) := by
  simp [IntKind.wrap, IntKind.bits, IntKind.signed]
  omega

theorem put4_far (xs : Ws) (a b c d : Nat) (r : W4) (j : Nat) (h1 : a < j) (h2 : b < j) (h3 : c < j) (h4 : d < j) : put4 xs a b c d r j = xs j := by
  simp [put4, upd, show j ≠ a by omega, show j ≠ b by omega, show j ≠ c by omega, show j ≠ d by omega]
theorem dblN_far (xs : Ws) (j : Nat) (hj : 16 ≤ j) : ∀ i, i ≤ 8 → dblN xs i j = xs j
  | 0, _ => rfl
  | i + 1, h => by
    obtain ⟨⟨l0, l1, l2, l3⟩, _⟩ := pl_ok i (by omega)
    rw [dblN, qstep, put4_far _ _ _ _ _ _ _ (by omega) (by omega) (by omega) (by omega), dblN_far xs j hj i (by omega)]
/-- Rows that differ at one place come to rows that differ. -/
theorem dbl_ne (xs : Ws) (k : Nat) (hk : k < 16) (u : BitVec 32) (hu : u ≠ 0) : eqW (dbl (upd xs k (xs k ^^^ u))) (dbl xs) = false := by
  rw [Bool.eq_false_iff]
  intro h
  have e : dbl (upd xs k (xs k ^^^ u)) = dbl xs := by
    funext j
    rcases Nat.lt_or_ge j 16 with hj | hj
    · exact eqW_at h j hj
    · show dblN _ 8 j = dblN _ 8 j
      rw [dblN_far _ j hj 8 (Nat.le_refl _), dblN_far _ j hj 8 (Nat.le_refl _)]
      simp [upd, show j ≠ k by omega]
  have e2 : upd xs k (xs k ^^^ u) = xs := by
    have := congrArg bck e
    rwa [bck_dbl, bck_dbl] at this
  have e3 := congrFun e2 k
  simp only [upd, if_pos] at e3
  apply hu
  have : xs k ^^^ (xs k ^^^ u) = xs k ^^^ xs k := by rw [e3]
  rwa [← BitVec.xor_assoc, BitVec.xor_self, BitVec.zero_xor] at this
theorem upd_zero (xs : Ws) (k : Nat) : upd xs k (xs k ^^^ 0) = xs := by
  funext j
  by_cases h : j = k
  · subst h; simp [upd]
  · simp [upd, h]

theorem wpList_putArrG {Q : Exit → Act → World → Prop} {ops : Array Oper} {rest : List Oper} {o : Oper} {a : Act} {w : World} (hw : Region.wanted o (yielded ops a.tmps) = true) (x y : Operand) (hop : o.op = .store 23 x y)
    (g : Nat) (ys : Ws) (hx : a.eval x = .pointer (some ⟨g, 0, none⟩)) (hy : a.eval y = .agg (arrV ys)) (xs : Ws) (hg : ArrU 23 w g xs) (h : ∀ W, W = w.setRow g (arrV ys) → wpList Tryd.prog ops Q rest (a.put o.dst undef) W) : wpList Tryd.prog ops Q (o :: rest) a w :=
  wpList_putArr hw x y hop g ys hx hy xs hg (h _ rfl)

theorem L2.drew {w W : World} {g h : Nat} {xs ys : Ws} (l : L2 w W g h xs ys) : L2 w W.drew g h xs ys := ⟨l.one, l.two, l.glob, l.bel.drew⟩
theorem L2.set {w W : World} {g h : Nat} {xs ys : Ws} (l : L2 w W g h xs ys) (hne : g ≠ h) (hB : w.heap.size ≤ h) (h0 : 0 < w.heap.size) (k : Nat) (v : BitVec 32) : L2 w (W.setCell ⟨h, k, none⟩ (.int .u32 (v.toNat : Int))) g h xs (upd ys k v) :=
  ⟨l.one.other (heap_setCell_other W _ _ _ hne), l.two.set k v, rangeAt_other l.glob (heap_setCell_other W _ _ _ (by simp; omega)), l.bel.setCell hB _⟩

theorem L3.drew {w W : World} {g h x : Nat} {xs ys zs : Ws} (l : L3 w W g h x xs ys zs) : L3 w W.drew g h x xs ys zs := ⟨l.l2.drew, l.thr⟩
theorem L3.set {w W : World} {g h x : Nat} {xs ys zs : Ws} (l : L3 w W g h x xs ys zs) (h1 : g ≠ x) (h2 : h ≠ x) (hB : w.heap.size ≤ x) (h0 : 0 < w.heap.size) (k : Nat) (v : BitVec 32) : L3 w (W.setCell ⟨x, k, none⟩ (.int .u32 (v.toNat : Int))) g h x xs ys (upd zs k v) :=
  ⟨⟨l.l2.one.other (heap_setCell_other W _ _ _ h1), l.l2.two.other (heap_setCell_other W _ _ _ h2), rangeAt_other l.l2.glob (heap_setCell_other W _ _ _ (by simp; omega)), l.l2.bel.setCell hB _⟩, l.thr.set k v⟩

set_option maxRecDepth 100000 in
set_option maxHeartbeats 4000000 in
theorem quarTurns_walk (xs : Ws) (at_ by_ : Int) (w : World) (hby : 0 ≤ by_ ∧ by_ < 4294967296) (hg : Glob w) :
    Calls Tryd.prog 6 #[.agg (arrV xs), .int .i64 at_, .int .u32 by_] w fun e w' => e = .returned (.bool true) ∧ Below w.heap.size w w' := by
  obtain ⟨u, rfl⟩ := bv_of by_ hby
  clear hby
  obtain ⟨m, hm⟩ : ∃ m : Nat, bits BinOp.and IntKind.i64 at_ 15 = (m : Int) := ⟨(at_ % 16).toNat, by rw [i64_and15]; omega⟩
  have hm16 : (m : Int) < 16 := by
    rw [← hm, i64_and15]
    omega
  have hl := hg.lt
  have hE : ∀ (ys : Ws) (w : World), (binOp BinOp.eql 23 (.agg (arrV ys)) (.agg (arrV ys))).run Tryd.prog w = .ok (.bool true) w := fun ys w => run_eq16_at ys ys true _ _ rfl rfl (eqW_refl _) w
  go_enter Tryd.func6, Tryd.ntmps6
  go_wp2_with (first
    | (refine wpList_arr (by rfl) _ rfl _ rfl xs (heap_alloc_new w _) ?_)
    | (refine wpList_putArr (by rfl) _ _ rfl _ xs rfl rfl zer (heap_alloc2_new w _ _) ?_))
  go_loopw [8] (fun i wr => ∃ k : Nat, k ≤ 4 ∧ i = .int .i64 k ∧ L2 w wr w.heap.size (w.heap.size + 1) xs (dblN xs k)) (fun i _ => 4 - (intOf i).toNat)
  case atStart =>
    have hb2 := ((Below.refl w.heap.size w).alloc (Nat.le_refl _) (Obj.cells (arrV xs) 23)).alloc (by simp) (Obj.cells (arrV zer) 23)
    have h2 : L2 w ((w.alloc (Obj.cells (arrV xs) 23)).alloc (Obj.cells (arrV zer) 23)) w.heap.size (w.heap.size + 1) xs zer := ⟨heap_alloc2_old w _ _, heap_alloc2_new w _ _, hg.below hb2 hl, hb2⟩
    exact ⟨0, Nat.zero_le _, rfl, h2.put (by omega) (by omega) hl xs⟩
  case round =>
    obtain ⟨k, hk, rfl, h2⟩ := hrel
    by_cases hlt : k < 4
    · obtain ⟨⟨l0, l1, l2, l3⟩, n01, n02, n03, n12, n13, n23⟩ := pl_ok k (by omega)
      have HD : Hid (dblN xs (k + 1) = qstep (dblN xs k) (pl k 0) (pl k 1) (pl k 2) (pl k 3)) := rfl
      have p0 : pl k 0 = k := by rcases k with _ | _ | _ | _ | k <;> first | (exfalso; omega) | rfl
      have p1 : pl k 1 = 4 + k := by rcases k with _ | _ | _ | _ | k <;> first | (exfalso; omega) | rfl
      have p2 : pl k 2 = 8 + k := by rcases k with _ | _ | _ | _ | k <;> first | (exfalso; omega) | rfl
      have p3 : pl k 3 = 12 + k := by rcases k with _ | _ | _ | _ | k <;> first | (exfalso; omega) | rfl
      rw [p0] at l0 HD n01 n02 n03
      have e1 : (4 : Int) + (k : Int) = (pl k 1 : Nat) := by omega
      have e2 : (8 : Int) + (k : Int) = (pl k 2 : Nat) := by omega
      have e3 : (12 : Int) + (k : Int) = (pl k 3 : Nat) := by omega
      clear p0 p1 p2 p3
      generalize pl k 1 = k1 at *
      generalize pl k 2 = k2 at *
      generalize pl k 3 = k3 at *
      generalize dblN xs k = ys at *
      have i0 : (k : Int) < 16 := by omega
      have i1 : (k1 : Int) < 16 := by omega
      have i2 : (k2 : Int) < 16 := by omega
      have i3 : (k3 : Int) < 16 := by omega
      have i4 : (k : Int) < 4 := by omega
      have w1 := wrap_small k1 l1
      have w2 := wrap_small k2 l2
      have w3 := wrap_small k3 l3
      obtain ⟨r, hr⟩ : ∃ r, Hid (r = qr (ys k) (ys k1) (ys k2) (ys k3)) := ⟨_, rfl⟩
      go_wp2_with fail
      refine wp_region_ord 22 [0, 1, 2, 3, 4, 5, 6, 7, 8, 9, 10, 11, 12, 13, 14, 15, 16, 17, 18, 19, 20, 21, 22, 23, 24, 25, 26, 27, 28, 29, 30, 31, 32, 33, 34, 35]
        (fun _ => True) (fun w' => SC w' (w.heap.size + 1) ys k k1 k2 k3)
        (by kernel_rfl) (by kernel_rfl) (by kernel_rfl) trivial (h2.drew.two.sc k k1 k2 k3 l0 l1 l2 l3) (fun _ _ => ?_)
      have hS1 := h2.drew
      generalize wr.drew = W1 at *
      clear h2
      repeat' (first
        | (refine wpOrd_quiet (v := ?_) rfl rfl (fun _ _ _ h => h) (by rfl) ?_ ?_
           rotate_left
           · (intro w' _ _; go_simp; try rfl)
           simp only [Act.put, List.setIfInBounds_toArray, List.set_cons_zero, List.set_cons_succ])
        | (refine wpOrd_early (v := ?_) rfl rfl (by kernel_rfl) (fun _ _ _ h => h) (by rfl) ?_ ?_
           rotate_left
           · (intro w' _ hU'; obtain ⟨q0, q1, q2, q3⟩ := hU'; go_simp; try rfl)
           simp only [Act.put, List.setIfInBounds_toArray, List.set_cons_zero, List.set_cons_succ]))
      refine wpOrd_step rfl rfl (by rfl) (fun K' hK => ?_)
      go_simp
      refine (round_any _ _ _ _ r hr.out _).mono ?_
      rintro e w1 ⟨rfl, rfl⟩
      refine hK.out _ _ trivial (fun h => absurd h (by decide)) (fun _ => ?_)
      clear hK K'
      try simp only [Act.put, List.setIfInBounds_toArray, List.set_cons_zero, List.set_cons_succ]
      repeat' (refine wpOrd_quiet (v := ?_) rfl rfl (fun _ _ _ h => h) (by rfl) ?_ ?_
               rotate_left
               · (intro w' _ _; go_simp; try rfl)
               simp only [Act.put, List.setIfInBounds_toArray, List.set_cons_zero, List.set_cons_succ])
      have f1 := hS1.two.cell k l0
      have z1 := hS1.two.frozen k
      have hS2 := hS1.set (by omega) (by omega) hl k r.1
      refine wpOrd_step rfl rfl (by rfl) (fun K' hK => ?_)
      go_simp
      refine hK.out _ _ trivial (fun h => absurd h (by decide)) (fun _ => ?_)
      clear hK K' f1 z1 hS1
      generalize W1.setCell ⟨w.heap.size + 1, k, none⟩ (.int .u32 (r.1.toNat : Int)) = W2 at *
      try simp only [Act.put, List.setIfInBounds_toArray, List.set_cons_zero, List.set_cons_succ]
      repeat' (refine wpOrd_quiet (v := ?_) rfl rfl (fun _ _ _ h => h) (by rfl) ?_ ?_
               rotate_left
               · (intro w' _ _; go_simp; try rfl)
               simp only [Act.put, List.setIfInBounds_toArray, List.set_cons_zero, List.set_cons_succ])
      have f2 := hS2.two.cell k1 l1
      have z2 := hS2.two.frozen k1
      have hS3 := hS2.set (by omega) (by omega) hl k1 r.2.1
      refine wpOrd_step rfl rfl (by rfl) (fun K' hK => ?_)
      go_simp
      refine hK.out _ _ trivial (fun h => absurd h (by decide)) (fun _ => ?_)
      clear hK K' f2 z2 hS2
      generalize W2.setCell ⟨w.heap.size + 1, k1, none⟩ (.int .u32 (r.2.1.toNat : Int)) = W3 at *
      try simp only [Act.put, List.setIfInBounds_toArray, List.set_cons_zero, List.set_cons_succ]
      repeat' (refine wpOrd_quiet (v := ?_) rfl rfl (fun _ _ _ h => h) (by rfl) ?_ ?_
               rotate_left
               · (intro w' _ _; go_simp; try rfl)
               simp only [Act.put, List.setIfInBounds_toArray, List.set_cons_zero, List.set_cons_succ])
      have f3 := hS3.two.cell k2 l2
      have z3 := hS3.two.frozen k2
      have hS4 := hS3.set (by omega) (by omega) hl k2 r.2.2.1
      refine wpOrd_step rfl rfl (by rfl) (fun K' hK => ?_)
      go_simp
      refine hK.out _ _ trivial (fun h => absurd h (by decide)) (fun _ => ?_)
      clear hK K' f3 z3 hS3
      generalize W3.setCell ⟨w.heap.size + 1, k2, none⟩ (.int .u32 (r.2.2.1.toNat : Int)) = W4 at *
      try simp only [Act.put, List.setIfInBounds_toArray, List.set_cons_zero, List.set_cons_succ]
      repeat' (refine wpOrd_quiet (v := ?_) rfl rfl (fun _ _ _ h => h) (by rfl) ?_ ?_
               rotate_left
               · (intro w' _ _; go_simp; try rfl)
               simp only [Act.put, List.setIfInBounds_toArray, List.set_cons_zero, List.set_cons_succ])
      have f4 := hS4.two.cell k3 l3
      have z4 := hS4.two.frozen k3
      have hS5 := hS4.set (by omega) (by omega) hl k3 r.2.2.2
      refine wpOrd_step rfl rfl (by rfl) (fun K' hK => ?_)
      go_simp
      refine hK.out _ _ trivial (fun h => absurd h (by decide)) (fun _ => ?_)
      clear hK K' f4 z4 hS4
      generalize W4.setCell ⟨w.heap.size + 1, k3, none⟩ (.int .u32 (r.2.2.2.toNat : Int)) = W5 at *
      try simp only [Act.put, List.setIfInBounds_toArray, List.set_cons_zero, List.set_cons_succ]
      refine wpOrd_nil ?_
      go_wp2_with fail
      go_roundw
      case rel => exact ⟨k + 1, by omega, by go_num, by rw [HD.out, qstep, ← hr.out]; exact hS5⟩
      case measure => simp [intOf]; omega
    · have hk' : k = 4 := by omega
      subst hk'
      rw [show ((4 : Nat) : Int) = 4 from rfl]
      go_wp2_with fail
      go_loopw [9] (fun i wr => ∃ k : Nat, k ≤ 4 ∧ i = .int .i64 k ∧ L2 w wr w.heap.size (w.heap.size + 1) xs (dblN xs (4 + k))) (fun i _ => 4 - (intOf i).toNat)
      case atStart => exact ⟨0, Nat.zero_le _, rfl, h2⟩
      case round =>
        clear h2
        obtain ⟨k, hk, rfl, h2⟩ := hrel
        rcases k with _ | _ | _ | _ | _ | k
        · have HD : Hid (dblN xs 5 = qstep (dblN xs 4) 0 5 10 15) := rfl
          have h3 : L2 w wr w.heap.size (w.heap.size + 1) xs (dblN xs 4) := h2
          clear h2
          generalize dblN xs 4 = ys at *
          obtain ⟨r, hr⟩ : ∃ r, Hid (r = qr (ys 0) (ys 5) (ys 10) (ys 15)) := ⟨_, rfl⟩
          go_wp2_with fail
          refine wp_region_ord 16 [0, 1, 2, 3, 4, 5, 6, 7, 8, 9, 10, 11, 12, 13, 14, 15, 16, 17, 18, 19, 20, 21, 22, 23, 24, 25, 26, 27, 28, 29]
            (fun _ => True) (fun w' => SC w' (w.heap.size + 1) ys 0 5 10 15)
            (by kernel_rfl) (by kernel_rfl) (by kernel_rfl) trivial (h3.drew.two.sc 0 5 10 15 (by decide) (by decide) (by decide) (by decide)) (fun _ _ => ?_)
          have hS1 := h3.drew
          generalize wr.drew = W1 at *
          clear h3
          repeat' (first
            | (refine wpOrd_quiet (v := ?_) rfl rfl (fun _ _ _ h => h) (by rfl) ?_ ?_
               rotate_left
               · (intro w' _ _; go_simp; try rfl)
               simp only [Act.put, List.setIfInBounds_toArray, List.set_cons_zero, List.set_cons_succ])
            | (refine wpOrd_early (v := ?_) rfl rfl (by kernel_rfl) (fun _ _ _ h => h) (by rfl) ?_ ?_
               rotate_left
               · (intro w' _ hU'; obtain ⟨q0, q1, q2, q3⟩ := hU'; go_simp; try rfl)
               simp only [Act.put, List.setIfInBounds_toArray, List.set_cons_zero, List.set_cons_succ]))
          refine wpOrd_step rfl rfl (by rfl) (fun K' hK => ?_)
          go_simp
          refine (round_any _ _ _ _ r hr.out _).mono ?_
          rintro e w1 ⟨rfl, rfl⟩
          refine hK.out _ _ trivial (fun h => absurd h (by decide)) (fun _ => ?_)
          clear hK K'
          try simp only [Act.put, List.setIfInBounds_toArray, List.set_cons_zero, List.set_cons_succ]
          repeat' (refine wpOrd_quiet (v := ?_) rfl rfl (fun _ _ _ h => h) (by rfl) ?_ ?_
                   rotate_left
                   · (intro w' _ _; go_simp; try rfl)
                   simp only [Act.put, List.setIfInBounds_toArray, List.set_cons_zero, List.set_cons_succ])
          have f1 := hS1.two.cell 0 (by decide)
          have z1 := hS1.two.frozen 0
          have hS2 := hS1.set (by omega) (by omega) hl 0 r.1
          refine wpOrd_step rfl rfl (by rfl) (fun K' hK => ?_)
          go_simp
          refine hK.out _ _ trivial (fun h => absurd h (by decide)) (fun _ => ?_)
          clear hK K' f1 z1 hS1
          generalize W1.setCell ⟨w.heap.size + 1, 0, none⟩ (.int .u32 (r.1.toNat : Int)) = W2 at *
          try simp only [Act.put, List.setIfInBounds_toArray, List.set_cons_zero, List.set_cons_succ]
          repeat' (refine wpOrd_quiet (v := ?_) rfl rfl (fun _ _ _ h => h) (by rfl) ?_ ?_
                   rotate_left
                   · (intro w' _ _; go_simp; try rfl)
                   simp only [Act.put, List.setIfInBounds_toArray, List.set_cons_zero, List.set_cons_succ])
          have f2 := hS2.two.cell 5 (by decide)
          have z2 := hS2.two.frozen 5
          have hS3 := hS2.set (by omega) (by omega) hl 5 r.2.1
          refine wpOrd_step rfl rfl (by rfl) (fun K' hK => ?_)
          go_simp
          refine hK.out _ _ trivial (fun h => absurd h (by decide)) (fun _ => ?_)
          clear hK K' f2 z2 hS2
          generalize W2.setCell ⟨w.heap.size + 1, 5, none⟩ (.int .u32 (r.2.1.toNat : Int)) = W3 at *
          try simp only [Act.put, List.setIfInBounds_toArray, List.set_cons_zero, List.set_cons_succ]
          repeat' (refine wpOrd_quiet (v := ?_) rfl rfl (fun _ _ _ h => h) (by rfl) ?_ ?_
                   rotate_left
                   · (intro w' _ _; go_simp; try rfl)
                   simp only [Act.put, List.setIfInBounds_toArray, List.set_cons_zero, List.set_cons_succ])
          have f3 := hS3.two.cell 10 (by decide)
          have z3 := hS3.two.frozen 10
          have hS4 := hS3.set (by omega) (by omega) hl 10 r.2.2.1
          refine wpOrd_step rfl rfl (by rfl) (fun K' hK => ?_)
          go_simp
          refine hK.out _ _ trivial (fun h => absurd h (by decide)) (fun _ => ?_)
          clear hK K' f3 z3 hS3
          generalize W3.setCell ⟨w.heap.size + 1, 10, none⟩ (.int .u32 (r.2.2.1.toNat : Int)) = W4 at *
          try simp only [Act.put, List.setIfInBounds_toArray, List.set_cons_zero, List.set_cons_succ]
          repeat' (refine wpOrd_quiet (v := ?_) rfl rfl (fun _ _ _ h => h) (by rfl) ?_ ?_
                   rotate_left
                   · (intro w' _ _; go_simp; try rfl)
                   simp only [Act.put, List.setIfInBounds_toArray, List.set_cons_zero, List.set_cons_succ])
          have f4 := hS4.two.cell 15 (by decide)
          have z4 := hS4.two.frozen 15
          have hS5 := hS4.set (by omega) (by omega) hl 15 r.2.2.2
          refine wpOrd_step rfl rfl (by rfl) (fun K' hK => ?_)
          go_simp
          refine hK.out _ _ trivial (fun h => absurd h (by decide)) (fun _ => ?_)
          clear hK K' f4 z4 hS4
          generalize W4.setCell ⟨w.heap.size + 1, 15, none⟩ (.int .u32 (r.2.2.2.toNat : Int)) = W5 at *
          try simp only [Act.put, List.setIfInBounds_toArray, List.set_cons_zero, List.set_cons_succ]
          refine wpOrd_nil ?_
          go_wp2_with fail
          go_roundw
          case rel => exact ⟨1, by omega, by go_num, by rw [show 4 + 1 = 5 from rfl, HD.out, qstep, ← hr.out]; exact hS5⟩
          case measure => simp [intOf]
        · have HD : Hid (dblN xs 6 = qstep (dblN xs 5) 1 6 11 12) := rfl
          have h3 : L2 w wr w.heap.size (w.heap.size + 1) xs (dblN xs 5) := h2
          clear h2
          generalize dblN xs 5 = ys at *
          obtain ⟨r, hr⟩ : ∃ r, Hid (r = qr (ys 1) (ys 6) (ys 11) (ys 12)) := ⟨_, rfl⟩
          go_wp2_with fail
          refine wp_region_ord 16 [0, 1, 2, 3, 4, 5, 6, 7, 8, 9, 10, 11, 12, 13, 14, 15, 16, 17, 18, 19, 20, 21, 22, 23, 24, 25, 26, 27, 28, 29]
            (fun _ => True) (fun w' => SC w' (w.heap.size + 1) ys 1 6 11 12)
            (by kernel_rfl) (by kernel_rfl) (by kernel_rfl) trivial (h3.drew.two.sc 1 6 11 12 (by decide) (by decide) (by decide) (by decide)) (fun _ _ => ?_)
          have hS1 := h3.drew
          generalize wr.drew = W1 at *
          clear h3
          repeat' (first
            | (refine wpOrd_quiet (v := ?_) rfl rfl (fun _ _ _ h => h) (by rfl) ?_ ?_
               rotate_left
               · (intro w' _ _; go_simp; try rfl)
               simp only [Act.put, List.setIfInBounds_toArray, List.set_cons_zero, List.set_cons_succ])
            | (refine wpOrd_early (v := ?_) rfl rfl (by kernel_rfl) (fun _ _ _ h => h) (by rfl) ?_ ?_
               rotate_left
               · (intro w' _ hU'; obtain ⟨q0, q1, q2, q3⟩ := hU'; go_simp; try rfl)
               simp only [Act.put, List.setIfInBounds_toArray, List.set_cons_zero, List.set_cons_succ]))
          refine wpOrd_step rfl rfl (by rfl) (fun K' hK => ?_)
          go_simp
          refine (round_any _ _ _ _ r hr.out _).mono ?_
          rintro e w1 ⟨rfl, rfl⟩
          refine hK.out _ _ trivial (fun h => absurd h (by decide)) (fun _ => ?_)
          clear hK K'
          try simp only [Act.put, List.setIfInBounds_toArray, List.set_cons_zero, List.set_cons_succ]
          repeat' (refine wpOrd_quiet (v := ?_) rfl rfl (fun _ _ _ h => h) (by rfl) ?_ ?_
                   rotate_left
                   · (intro w' _ _; go_simp; try rfl)
                   simp only [Act.put, List.setIfInBounds_toArray, List.set_cons_zero, List.set_cons_succ])
          have f1 := hS1.two.cell 1 (by decide)
          have z1 := hS1.two.frozen 1
          have hS2 := hS1.set (by omega) (by omega) hl 1 r.1
          refine wpOrd_step rfl rfl (by rfl) (fun K' hK => ?_)
          go_simp
          refine hK.out _ _ trivial (fun h => absurd h (by decide)) (fun _ => ?_)
          clear hK K' f1 z1 hS1
          generalize W1.setCell ⟨w.heap.size + 1, 1, none⟩ (.int .u32 (r.1.toNat : Int)) = W2 at *
          try simp only [Act.put, List.setIfInBounds_toArray, List.set_cons_zero, List.set_cons_succ]
          repeat' (refine wpOrd_quiet (v := ?_) rfl rfl (fun _ _ _ h => h) (by rfl) ?_ ?_
                   rotate_left
                   · (intro w' _ _; go_simp; try rfl)
                   simp only [Act.put, List.setIfInBounds_toArray, List.set_cons_zero, List.set_cons_succ])
          have f2 := hS2.two.cell 6 (by decide)
          have z2 := hS2.two.frozen 6
          have hS3 := hS2.set (by omega) (by omega) hl 6 r.2.1
          refine wpOrd_step rfl rfl (by rfl) (fun K' hK => ?_)
          go_simp
          refine hK.out _ _ trivial (fun h => absurd h (by decide)) (fun _ => ?_)
          clear hK K' f2 z2 hS2
          generalize W2.setCell ⟨w.heap.size + 1, 6, none⟩ (.int .u32 (r.2.1.toNat : Int)) = W3 at *
          try simp only [Act.put, List.setIfInBounds_toArray, List.set_cons_zero, List.set_cons_succ]
          repeat' (refine wpOrd_quiet (v := ?_) rfl rfl (fun _ _ _ h => h) (by rfl) ?_ ?_
                   rotate_left
                   · (intro w' _ _; go_simp; try rfl)
                   simp only [Act.put, List.setIfInBounds_toArray, List.set_cons_zero, List.set_cons_succ])
          have f3 := hS3.two.cell 11 (by decide)
          have z3 := hS3.two.frozen 11
          have hS4 := hS3.set (by omega) (by omega) hl 11 r.2.2.1
          refine wpOrd_step rfl rfl (by rfl) (fun K' hK => ?_)
          go_simp
          refine hK.out _ _ trivial (fun h => absurd h (by decide)) (fun _ => ?_)
          clear hK K' f3 z3 hS3
          generalize W3.setCell ⟨w.heap.size + 1, 11, none⟩ (.int .u32 (r.2.2.1.toNat : Int)) = W4 at *
          try simp only [Act.put, List.setIfInBounds_toArray, List.set_cons_zero, List.set_cons_succ]
          repeat' (refine wpOrd_quiet (v := ?_) rfl rfl (fun _ _ _ h => h) (by rfl) ?_ ?_
                   rotate_left
                   · (intro w' _ _; go_simp; try rfl)
                   simp only [Act.put, List.setIfInBounds_toArray, List.set_cons_zero, List.set_cons_succ])
          have f4 := hS4.two.cell 12 (by decide)
          have z4 := hS4.two.frozen 12
          have hS5 := hS4.set (by omega) (by omega) hl 12 r.2.2.2
          refine wpOrd_step rfl rfl (by rfl) (fun K' hK => ?_)
          go_simp
          refine hK.out _ _ trivial (fun h => absurd h (by decide)) (fun _ => ?_)
          clear hK K' f4 z4 hS4
          generalize W4.setCell ⟨w.heap.size + 1, 12, none⟩ (.int .u32 (r.2.2.2.toNat : Int)) = W5 at *
          try simp only [Act.put, List.setIfInBounds_toArray, List.set_cons_zero, List.set_cons_succ]
          refine wpOrd_nil ?_
          go_wp2_with fail
          go_roundw
          case rel => exact ⟨2, by omega, by go_num, by rw [show 4 + 2 = 6 from rfl, HD.out, qstep, ← hr.out]; exact hS5⟩
          case measure => simp [intOf]
        · have HD : Hid (dblN xs 7 = qstep (dblN xs 6) 2 7 8 13) := rfl
          have h3 : L2 w wr w.heap.size (w.heap.size + 1) xs (dblN xs 6) := h2
          clear h2
          generalize dblN xs 6 = ys at *
          obtain ⟨r, hr⟩ : ∃ r, Hid (r = qr (ys 2) (ys 7) (ys 8) (ys 13)) := ⟨_, rfl⟩
          go_wp2_with fail
          refine wp_region_ord 16 [0, 1, 2, 3, 4, 5, 6, 7, 8, 9, 10, 11, 12, 13, 14, 15, 16, 17, 18, 19, 20, 21, 22, 23, 24, 25, 26, 27, 28, 29]
            (fun _ => True) (fun w' => SC w' (w.heap.size + 1) ys 2 7 8 13)
            (by kernel_rfl) (by kernel_rfl) (by kernel_rfl) trivial (h3.drew.two.sc 2 7 8 13 (by decide) (by decide) (by decide) (by decide)) (fun _ _ => ?_)
          have hS1 := h3.drew
          generalize wr.drew = W1 at *
          clear h3
          repeat' (first
            | (refine wpOrd_quiet (v := ?_) rfl rfl (fun _ _ _ h => h) (by rfl) ?_ ?_
               rotate_left
               · (intro w' _ _; go_simp; try rfl)
               simp only [Act.put, List.setIfInBounds_toArray, List.set_cons_zero, List.set_cons_succ])
            | (refine wpOrd_early (v := ?_) rfl rfl (by kernel_rfl) (fun _ _ _ h => h) (by rfl) ?_ ?_
               rotate_left
               · (intro w' _ hU'; obtain ⟨q0, q1, q2, q3⟩ := hU'; go_simp; try rfl)
               simp only [Act.put, List.setIfInBounds_toArray, List.set_cons_zero, List.set_cons_succ]))
          refine wpOrd_step rfl rfl (by rfl) (fun K' hK => ?_)
          go_simp
          refine (round_any _ _ _ _ r hr.out _).mono ?_
          rintro e w1 ⟨rfl, rfl⟩
          refine hK.out _ _ trivial (fun h => absurd h (by decide)) (fun _ => ?_)
          clear hK K'
          try simp only [Act.put, List.setIfInBounds_toArray, List.set_cons_zero, List.set_cons_succ]
          repeat' (refine wpOrd_quiet (v := ?_) rfl rfl (fun _ _ _ h => h) (by rfl) ?_ ?_
                   rotate_left
                   · (intro w' _ _; go_simp; try rfl)
                   simp only [Act.put, List.setIfInBounds_toArray, List.set_cons_zero, List.set_cons_succ])
          have f1 := hS1.two.cell 2 (by decide)
          have z1 := hS1.two.frozen 2
          have hS2 := hS1.set (by omega) (by omega) hl 2 r.1
          refine wpOrd_step rfl rfl (by rfl) (fun K' hK => ?_)
          go_simp
          refine hK.out _ _ trivial (fun h => absurd h (by decide)) (fun _ => ?_)
          clear hK K' f1 z1 hS1
          generalize W1.setCell ⟨w.heap.size + 1, 2, none⟩ (.int .u32 (r.1.toNat : Int)) = W2 at *
          try simp only [Act.put, List.setIfInBounds_toArray, List.set_cons_zero, List.set_cons_succ]
          repeat' (refine wpOrd_quiet (v := ?_) rfl rfl (fun _ _ _ h => h) (by rfl) ?_ ?_
                   rotate_left
                   · (intro w' _ _; go_simp; try rfl)
                   simp only [Act.put, List.setIfInBounds_toArray, List.set_cons_zero, List.set_cons_succ])
          have f2 := hS2.two.cell 7 (by decide)
          have z2 := hS2.two.frozen 7
          have hS3 := hS2.set (by omega) (by omega) hl 7 r.2.1
          refine wpOrd_step rfl rfl (by rfl) (fun K' hK => ?_)
          go_simp
          refine hK.out _ _ trivial (fun h => absurd h (by decide)) (fun _ => ?_)
          clear hK K' f2 z2 hS2
          generalize W2.setCell ⟨w.heap.size + 1, 7, none⟩ (.int .u32 (r.2.1.toNat : Int)) = W3 at *
          try simp only [Act.put, List.setIfInBounds_toArray, List.set_cons_zero, List.set_cons_succ]
          repeat' (refine wpOrd_quiet (v := ?_) rfl rfl (fun _ _ _ h => h) (by rfl) ?_ ?_
                   rotate_left
                   · (intro w' _ _; go_simp; try rfl)
                   simp only [Act.put, List.setIfInBounds_toArray, List.set_cons_zero, List.set_cons_succ])
          have f3 := hS3.two.cell 8 (by decide)
          have z3 := hS3.two.frozen 8
          have hS4 := hS3.set (by omega) (by omega) hl 8 r.2.2.1
          refine wpOrd_step rfl rfl (by rfl) (fun K' hK => ?_)
          go_simp
          refine hK.out _ _ trivial (fun h => absurd h (by decide)) (fun _ => ?_)
          clear hK K' f3 z3 hS3
          generalize W3.setCell ⟨w.heap.size + 1, 8, none⟩ (.int .u32 (r.2.2.1.toNat : Int)) = W4 at *
          try simp only [Act.put, List.setIfInBounds_toArray, List.set_cons_zero, List.set_cons_succ]
          repeat' (refine wpOrd_quiet (v := ?_) rfl rfl (fun _ _ _ h => h) (by rfl) ?_ ?_
                   rotate_left
                   · (intro w' _ _; go_simp; try rfl)
                   simp only [Act.put, List.setIfInBounds_toArray, List.set_cons_zero, List.set_cons_succ])
          have f4 := hS4.two.cell 13 (by decide)
          have z4 := hS4.two.frozen 13
          have hS5 := hS4.set (by omega) (by omega) hl 13 r.2.2.2
          refine wpOrd_step rfl rfl (by rfl) (fun K' hK => ?_)
          go_simp
          refine hK.out _ _ trivial (fun h => absurd h (by decide)) (fun _ => ?_)
          clear hK K' f4 z4 hS4
          generalize W4.setCell ⟨w.heap.size + 1, 13, none⟩ (.int .u32 (r.2.2.2.toNat : Int)) = W5 at *
          try simp only [Act.put, List.setIfInBounds_toArray, List.set_cons_zero, List.set_cons_succ]
          refine wpOrd_nil ?_
          go_wp2_with fail
          go_roundw
          case rel => exact ⟨3, by omega, by go_num, by rw [show 4 + 3 = 7 from rfl, HD.out, qstep, ← hr.out]; exact hS5⟩
          case measure => simp [intOf]
        · have HD : Hid (dblN xs 8 = qstep (dblN xs 7) 3 4 9 14) := rfl
          have h3 : L2 w wr w.heap.size (w.heap.size + 1) xs (dblN xs 7) := h2
          clear h2
          generalize dblN xs 7 = ys at *
          obtain ⟨r, hr⟩ : ∃ r, Hid (r = qr (ys 3) (ys 4) (ys 9) (ys 14)) := ⟨_, rfl⟩
          go_wp2_with fail
          refine wp_region_ord 16 [0, 1, 2, 3, 4, 5, 6, 7, 8, 9, 10, 11, 12, 13, 14, 15, 16, 17, 18, 19, 20, 21, 22, 23, 24, 25, 26, 27, 28, 29]
            (fun _ => True) (fun w' => SC w' (w.heap.size + 1) ys 3 4 9 14)
            (by kernel_rfl) (by kernel_rfl) (by kernel_rfl) trivial (h3.drew.two.sc 3 4 9 14 (by decide) (by decide) (by decide) (by decide)) (fun _ _ => ?_)
          have hS1 := h3.drew
          generalize wr.drew = W1 at *
          clear h3
          repeat' (first
            | (refine wpOrd_quiet (v := ?_) rfl rfl (fun _ _ _ h => h) (by rfl) ?_ ?_
               rotate_left
               · (intro w' _ _; go_simp; try rfl)
               simp only [Act.put, List.setIfInBounds_toArray, List.set_cons_zero, List.set_cons_succ])
            | (refine wpOrd_early (v := ?_) rfl rfl (by kernel_rfl) (fun _ _ _ h => h) (by rfl) ?_ ?_
               rotate_left
               · (intro w' _ hU'; obtain ⟨q0, q1, q2, q3⟩ := hU'; go_simp; try rfl)
               simp only [Act.put, List.setIfInBounds_toArray, List.set_cons_zero, List.set_cons_succ]))
          refine wpOrd_step rfl rfl (by rfl) (fun K' hK => ?_)
          go_simp
          refine (round_any _ _ _ _ r hr.out _).mono ?_
          rintro e w1 ⟨rfl, rfl⟩
          refine hK.out _ _ trivial (fun h => absurd h (by decide)) (fun _ => ?_)
          clear hK K'
          try simp only [Act.put, List.setIfInBounds_toArray, List.set_cons_zero, List.set_cons_succ]
          repeat' (refine wpOrd_quiet (v := ?_) rfl rfl (fun _ _ _ h => h) (by rfl) ?_ ?_
                   rotate_left
                   · (intro w' _ _; go_simp; try rfl)
                   simp only [Act.put, List.setIfInBounds_toArray, List.set_cons_zero, List.set_cons_succ])
          have f1 := hS1.two.cell 3 (by decide)
          have z1 := hS1.two.frozen 3
          have hS2 := hS1.set (by omega) (by omega) hl 3 r.1
          refine wpOrd_step rfl rfl (by rfl) (fun K' hK => ?_)
          go_simp
          refine hK.out _ _ trivial (fun h => absurd h (by decide)) (fun _ => ?_)
          clear hK K' f1 z1 hS1
          generalize W1.setCell ⟨w.heap.size + 1, 3, none⟩ (.int .u32 (r.1.toNat : Int)) = W2 at *
          try simp only [Act.put, List.setIfInBounds_toArray, List.set_cons_zero, List.set_cons_succ]
          repeat' (refine wpOrd_quiet (v := ?_) rfl rfl (fun _ _ _ h => h) (by rfl) ?_ ?_
                   rotate_left
                   · (intro w' _ _; go_simp; try rfl)
                   simp only [Act.put, List.setIfInBounds_toArray, List.set_cons_zero, List.set_cons_succ])
          have f2 := hS2.two.cell 4 (by decide)
          have z2 := hS2.two.frozen 4
          have hS3 := hS2.set (by omega) (by omega) hl 4 r.2.1
          refine wpOrd_step rfl rfl (by rfl) (fun K' hK => ?_)
          go_simp
          refine hK.out _ _ trivial (fun h => absurd h (by decide)) (fun _ => ?_)
          clear hK K' f2 z2 hS2
          generalize W2.setCell ⟨w.heap.size + 1, 4, none⟩ (.int .u32 (r.2.1.toNat : Int)) = W3 at *
          try simp only [Act.put, List.setIfInBounds_toArray, List.set_cons_zero, List.set_cons_succ]
          repeat' (refine wpOrd_quiet (v := ?_) rfl rfl (fun _ _ _ h => h) (by rfl) ?_ ?_
                   rotate_left
                   · (intro w' _ _; go_simp; try rfl)
                   simp only [Act.put, List.setIfInBounds_toArray, List.set_cons_zero, List.set_cons_succ])
          have f3 := hS3.two.cell 9 (by decide)
          have z3 := hS3.two.frozen 9
          have hS4 := hS3.set (by omega) (by omega) hl 9 r.2.2.1
          refine wpOrd_step rfl rfl (by rfl) (fun K' hK => ?_)
          go_simp
          refine hK.out _ _ trivial (fun h => absurd h (by decide)) (fun _ => ?_)
          clear hK K' f3 z3 hS3
          generalize W3.setCell ⟨w.heap.size + 1, 9, none⟩ (.int .u32 (r.2.2.1.toNat : Int)) = W4 at *
          try simp only [Act.put, List.setIfInBounds_toArray, List.set_cons_zero, List.set_cons_succ]
          repeat' (refine wpOrd_quiet (v := ?_) rfl rfl (fun _ _ _ h => h) (by rfl) ?_ ?_
                   rotate_left
                   · (intro w' _ _; go_simp; try rfl)
                   simp only [Act.put, List.setIfInBounds_toArray, List.set_cons_zero, List.set_cons_succ])
          have f4 := hS4.two.cell 14 (by decide)
          have z4 := hS4.two.frozen 14
          have hS5 := hS4.set (by omega) (by omega) hl 14 r.2.2.2
          refine wpOrd_step rfl rfl (by rfl) (fun K' hK => ?_)
          go_simp
          refine hK.out _ _ trivial (fun h => absurd h (by decide)) (fun _ => ?_)
          clear hK K' f4 z4 hS4
          generalize W4.setCell ⟨w.heap.size + 1, 14, none⟩ (.int .u32 (r.2.2.2.toNat : Int)) = W5 at *
          try simp only [Act.put, List.setIfInBounds_toArray, List.set_cons_zero, List.set_cons_succ]
          refine wpOrd_nil ?_
          go_wp2_with fail
          go_roundw
          case rel => exact ⟨4, by omega, by go_num, by rw [show 4 + 4 = 8 from rfl, HD.out, qstep, ← hr.out]; exact hS5⟩
          case measure => simp [intOf]
        · have h3 : L2 w wr w.heap.size (w.heap.size + 1) xs (dbl xs) := h2
          clear h2
          have hgt := h3.two.lt
          have hB0 : Below w.heap.size w (wr.alloc (Obj.cells (arrV zer) 23)) := h3.bel.alloc (by omega) _
          have h4 : L3 w (wr.alloc (Obj.cells (arrV zer) 23)) w.heap.size (w.heap.size + 1) wr.heap.size xs (dbl xs) zer :=
            ⟨⟨h3.one.other (Below.heap_alloc wr _ _ h3.one.lt), h3.two.other (Below.heap_alloc wr _ _ h3.two.lt), rangeAt_other h3.glob (Below.heap_alloc wr _ _ h3.glob.lt), hB0⟩, heap_alloc_new wr _⟩
          have h5 := h4.put (by omega) (by omega) (by omega) hl xs
          have hm' : m < 16 := by omega
          obtain ⟨v, hv⟩ : ∃ v, v = xs m ^^^ u := ⟨_, rfl⟩
          have ev : bits BinOp.xor IntKind.u32 ((xs m).toNat : Int) (u.toNat : Int) = (v.toNat : Int) := by rw [hv]; exact u32_xor_bv _ _
          have HV := hide hv
          clear hv
          clear hB0 h4
          go_wp2_with (first
            | (refine wpList_arr (by rfl) _ rfl _ rfl xs h3.one ?_)
            | (refine wpList_putArrG (by rfl) _ _ rfl _ xs rfl rfl zer (heap_alloc_new _ _) ?_
               intro W2 hW2
               have h6 : L3 w W2 w.heap.size (w.heap.size + 1) wr.heap.size xs (dbl xs) xs := by subst hW2; exact h5
               have c6 := h6.thr.cell m hm'
               have z6 := h6.thr.frozen m
               clear hW2 h5 h3))
          have h7 : L3 w (W2.setCell ⟨wr.heap.size, m, none⟩ (.int .u32 (v.toNat : Int))) w.heap.size (w.heap.size + 1) wr.heap.size xs (dbl xs) (upd xs m v) := h6.set (by omega) (by omega) (by omega) hl m v
          clear c6 z6 h6 ev hm hm16
          generalize W2.setCell ⟨wr.heap.size, m, none⟩ (.int .u32 (v.toNat : Int)) = W3 at *
          have h8 := h7.drew
          clear h7
          generalize wr.heap.size = gt at *
          obtain ⟨b, hb1, hb2⟩ : ∃ b : Bool, eqW (dbl (upd xs m v)) (dbl xs) = b ∧ ((u.toNat : Int) == 0) = b := by
            by_cases hu : u = 0
            · refine ⟨true, ?_, ?_⟩
              · rw [HV.out, hu, upd_zero]
                exact eqW_refl _
              · rw [hu]; rfl
            · refine ⟨false, ?_, ?_⟩
              · rw [HV.out]
                exact dbl_ne xs m hm' u hu
              · have hne : u.toNat ≠ 0 := fun e => hu (BitVec.eq_of_toNat_eq (by rw [e]; rfl))
                rw [Bool.eq_false_iff]
                intro h
                rw [beq_iff_eq] at h
                omega
          obtain ⟨ts, hts⟩ : ∃ ts, Hid (upd xs m v = ts) := ⟨_, rfl⟩
          obtain ⟨ds, hds⟩ : ∃ ds, Hid (dbl xs = ds) := ⟨_, rfl⟩
          obtain ⟨es, hes⟩ : ∃ es, Hid (dbl ts = es) := ⟨_, rfl⟩
          rw [hts.out, hes.out, hds.out] at hb1
          rw [hts.out, hds.out] at h8
          have hE2 := run_eq16_at es ds b _ _ rfl rfl hb1
          clear hb1
          refine wp_region_ord 1000 [0, 2, 1, 3, 4, 5, 7, 9, 10, 6, 8, 11, 12, 13, 14, 15, 16]
            (fun w' => ArrU 23 w' w.heap.size xs ∧ ArrU 23 w' (w.heap.size + 1) ds ∧ ArrU 23 w' gt ts) (fun _ => True) (by kernel_rfl) (by kernel_rfl) (by kernel_rfl) ⟨h8.l2.one, h8.l2.two, h8.thr⟩ trivial (fun _ _ => ?_)
          generalize W3.drew = W4 at *
          repeat' (first
            | (refine wpOrd_arr rfl rfl _ rfl w.heap.size xs rfl (fun _ h => h.1) (fun _ _ _ h => h) (by rfl) ?_
               simp only [Act.put, List.setIfInBounds_toArray, List.set_cons_zero, List.set_cons_succ])
            | (refine wpOrd_arr rfl rfl _ rfl (w.heap.size + 1) ds rfl (fun _ h => h.2.1) (fun _ _ _ h => h) (by rfl) ?_
               simp only [Act.put, List.setIfInBounds_toArray, List.set_cons_zero, List.set_cons_succ])
            | (refine wpOrd_arr rfl rfl _ rfl gt ts rfl (fun _ h => h.2.2) (fun _ _ _ h => h) (by rfl) ?_
               simp only [Act.put, List.setIfInBounds_toArray, List.set_cons_zero, List.set_cons_succ])
            | (refine wpOrd_quiet (v := ?_) rfl rfl (fun _ _ _ h => h) (by rfl) ?_ ?_
               rotate_left
               · (intro w' _ _; go_simp; try rfl)
               simp only [Act.put, List.setIfInBounds_toArray, List.set_cons_zero, List.set_cons_succ]))
          refine wpOrd_step rfl rfl (by rfl) (fun K' hK => ?_)
          go_simp
          refine (double_is xs ds hds.out _ h8.l2.glob).mono ?_
          rintro e V1 ⟨rfl, hb⟩
          have hS1 := h8.call hb
          refine hK.out _ _ ⟨hS1.l2.one, hS1.l2.two, hS1.thr⟩ (fun h => absurd h (by decide)) (fun _ => ?_)
          clear hK K' hb h8
          try simp only [Act.put, List.setIfInBounds_toArray, List.set_cons_zero, List.set_cons_succ]
          repeat' (first
            | (refine wpOrd_arr rfl rfl _ rfl w.heap.size xs rfl (fun _ h => h.1) (fun _ _ _ h => h) (by rfl) ?_
               simp only [Act.put, List.setIfInBounds_toArray, List.set_cons_zero, List.set_cons_succ])
            | (refine wpOrd_arr rfl rfl _ rfl (w.heap.size + 1) ds rfl (fun _ h => h.2.1) (fun _ _ _ h => h) (by rfl) ?_
               simp only [Act.put, List.setIfInBounds_toArray, List.set_cons_zero, List.set_cons_succ])
            | (refine wpOrd_arr rfl rfl _ rfl gt ts rfl (fun _ h => h.2.2) (fun _ _ _ h => h) (by rfl) ?_
               simp only [Act.put, List.setIfInBounds_toArray, List.set_cons_zero, List.set_cons_succ])
            | (refine wpOrd_quiet (v := ?_) rfl rfl (fun _ _ _ h => h) (by rfl) ?_ ?_
               rotate_left
               · (intro w' _ _; go_simp; try rfl)
               simp only [Act.put, List.setIfInBounds_toArray, List.set_cons_zero, List.set_cons_succ]))
          refine wpOrd_step rfl rfl (by rfl) (fun K' hK => ?_)
          go_simp
          refine (double_is ts es hes.out _ hS1.l2.glob).mono ?_
          rintro e V2 ⟨rfl, hb⟩
          have hS2 := hS1.call hb
          refine hK.out _ _ ⟨hS2.l2.one, hS2.l2.two, hS2.thr⟩ (fun h => absurd h (by decide)) (fun _ => ?_)
          clear hK K' hb hS1
          try simp only [Act.put, List.setIfInBounds_toArray, List.set_cons_zero, List.set_cons_succ]
          repeat' (first
            | (refine wpOrd_arr rfl rfl _ rfl w.heap.size xs rfl (fun _ h => h.1) (fun _ _ _ h => h) (by rfl) ?_
               simp only [Act.put, List.setIfInBounds_toArray, List.set_cons_zero, List.set_cons_succ])
            | (refine wpOrd_arr rfl rfl _ rfl (w.heap.size + 1) ds rfl (fun _ h => h.2.1) (fun _ _ _ h => h) (by rfl) ?_
               simp only [Act.put, List.setIfInBounds_toArray, List.set_cons_zero, List.set_cons_succ])
            | (refine wpOrd_arr rfl rfl _ rfl gt ts rfl (fun _ h => h.2.2) (fun _ _ _ h => h) (by rfl) ?_
               simp only [Act.put, List.setIfInBounds_toArray, List.set_cons_zero, List.set_cons_succ])
            | (refine wpOrd_quiet (v := ?_) rfl rfl (fun _ _ _ h => h) (by rfl) ?_ ?_
               rotate_left
               · (intro w' _ _; go_simp; try rfl)
               simp only [Act.put, List.setIfInBounds_toArray, List.set_cons_zero, List.set_cons_succ]))
          refine wpOrd_step rfl rfl (by rfl) (fun K' hK => ?_)
          go_simp
          refine (awake2_any _ hS2.l2.glob).mono ?_
          rintro e V3 ⟨rfl, hb⟩
          have hS3 := hS2.call hb
          refine hK.out _ _ ⟨hS3.l2.one, hS3.l2.two, hS3.thr⟩ (fun h => absurd h (by decide)) (fun _ => ?_)
          clear hK K' hb hS2
          try simp only [Act.put, List.setIfInBounds_toArray, List.set_cons_zero, List.set_cons_succ]
          repeat' (first
            | (refine wpOrd_arr rfl rfl _ rfl w.heap.size xs rfl (fun _ h => h.1) (fun _ _ _ h => h) (by rfl) ?_
               simp only [Act.put, List.setIfInBounds_toArray, List.set_cons_zero, List.set_cons_succ])
            | (refine wpOrd_arr rfl rfl _ rfl (w.heap.size + 1) ds rfl (fun _ h => h.2.1) (fun _ _ _ h => h) (by rfl) ?_
               simp only [Act.put, List.setIfInBounds_toArray, List.set_cons_zero, List.set_cons_succ])
            | (refine wpOrd_arr rfl rfl _ rfl gt ts rfl (fun _ h => h.2.2) (fun _ _ _ h => h) (by rfl) ?_
               simp only [Act.put, List.setIfInBounds_toArray, List.set_cons_zero, List.set_cons_succ])
            | (refine wpOrd_quiet (v := ?_) rfl rfl (fun _ _ _ h => h) (by rfl) ?_ ?_
               rotate_left
               · (intro w' _ _; go_simp; try rfl)
               simp only [Act.put, List.setIfInBounds_toArray, List.set_cons_zero, List.set_cons_succ]))
          refine wpOrd_nil ?_
          go_wp2_with fail
          go_ret
          exact ⟨rfl, hS3.l2.bel⟩
        · exfalso
          omega

#print axioms quarTurns_walk
end Go.Proofs.YtinbfbcikodekaaDoor
