/- The law QuarTells answers true for every four and every sixteen words, wherever quar.rounds reads as its text says; nothing that was there is turned. -/
import Derived.Test.YtinbfbcikodekaaDoorQAwake
namespace Go.Proofs.YtinbfbcikodekaaDoor
open Go.RowKit

/-- A load of sixteen words in a region that draws. -/
theorem wpOrd_arr {Q : Exit → Act → World → Prop} {md : Region.Mode} {T U : World → Prop} {c : Nat} {l : List Oper} {k : Nat} {rest : List Nat} {o : Oper} {a : Act} {w : World} (ho : l[k]? = some o) (hst : stepOp o = false) (x : Operand) (hop : o.op = .load 23 x)
    (g : Nat) (xs : Ws) (hx : a.eval x = .pointer (some ⟨g, 0, none⟩)) (hT : ∀ w, T w → ArrU 23 w g xs)
    (hQ : ∀ c a w, Q (.panic c) (a.put o.dst (.agg (arrV xs))) w → Q (.panic c) a w) (hw : Region.wanted o (yielded l.toArray a.tmps) = true)
    (h : wpOrd Tryd.prog md l.toArray Q T U c rest (a.put o.dst (.agg (arrV xs))) w) : wpOrd Tryd.prog md l.toArray Q T U c (k :: rest) a w :=
  wpOrd_quiet ho hst hQ hw (fun w hw' _ => by
    unfold execOp
    simp only [hop, hx, Instr.loadAt, Instr.sureAddr, Sem.run_bind, Sem.run_pure, Result.andThen_ok, run_loadVar_row w g _ _ _ _ _ (hT w hw') Tryd.underlying23 rfl (by rw [arrV_size, info16])]) h

theorem bv_of (a : Int) (h : 0 ≤ a ∧ a < 4294967296) : ∃ x : BitVec 32, a = (x.toNat : Int) := ⟨BitVec.ofNat 32 a.toNat, by rw [BitVec.toNat_ofNat]; omega⟩
theorem u32_of_wf {a : Int} (h : (Lit.int .u32 a).wf = true) : 0 ≤ a ∧ a < 4294967296 := by
  simp [Lit.wf, IntKind.min, IntKind.max, IntKind.signed, IntKind.bits] at h
  omega

theorem double_is (xs ys : Ws) (h : dbl xs = ys) (w : World) (hg : Glob w) : Calls Tryd.prog 9 #[.agg (arrV xs)] w fun e w' => e = .returned (.agg (arrV ys)) ∧ Below w.heap.size w w' := by
  subst h
  exact double_any xs w hg
theorem rdouble_is (xs ys : Ws) (h : dbl xs = ys) (w : World) : Calls Tryd.prog 11 #[.agg (arrV xs)] w fun e w' => e = .returned (.agg (arrV ys)) ∧ Below w.heap.size w w' := by
  subst h
  exact rdouble_any xs w
theorem back_is (xs ys : Ws) (h : bck xs = ys) (w : World) (hg : Glob w) : Calls Tryd.prog 10 #[.agg (arrV xs)] w fun e w' => e = .returned (.agg (arrV ys)) ∧ Below w.heap.size w w' := by
  subst h
  exact back_any xs w hg

/-- What stands while a law goes on: the words at g, and quar.rounds; nothing below B is turned. -/
structure LS (E : TypeId) (w W : World) (g : Nat) (xs : Ws) : Prop where
  arr : ArrU E W g xs
  glob : Glob W
  bel : Below w.heap.size w W
theorem LS.drew {E : TypeId} {w W : World} {g : Nat} {xs : Ws} (h : LS E w W g xs) : LS E w W.drew g xs := ⟨h.arr, h.glob, h.bel.drew⟩
theorem LS.call {E : TypeId} {w W W' : World} {g : Nat} {xs : Ws} (h : LS E w W g xs) (hb : Below W.heap.size W W') : LS E w W' g xs :=
  ⟨h.arr.below hb h.arr.lt, h.glob.below hb h.glob.lt, h.bel.trans (hb.mono h.bel.size)⟩

set_option maxHeartbeats 4000000 in
theorem quarTells_walk (a b c d : Int) (xs : Ws) (w : World) (ha : 0 ≤ a ∧ a < 4294967296) (hb : 0 ≤ b ∧ b < 4294967296) (hc : 0 ≤ c ∧ c < 4294967296) (hd : 0 ≤ d ∧ d < 4294967296) (hg : Glob w) :
    Calls Tryd.prog 5 #[.int .u32 a, .int .u32 b, .int .u32 c, .int .u32 d, .agg (arrV xs)] w fun e w' => e = .returned (.bool true) ∧ Below w.heap.size w w' := by
  obtain ⟨x, rfl⟩ := bv_of a ha
  obtain ⟨y, rfl⟩ := bv_of b hb
  obtain ⟨z, rfl⟩ := bv_of c hc
  obtain ⟨u, rfl⟩ := bv_of d hd
  clear ha hb hc hd
  obtain ⟨r, hr⟩ : ∃ r, Hid (r = qr x y z u) := ⟨_, rfl⟩
  obtain ⟨ys, hys⟩ : ∃ ys, Hid (dbl xs = ys) := ⟨_, rfl⟩
  obtain ⟨zs, hzs⟩ : ∃ zs, Hid (bck xs = zs) := ⟨_, rfl⟩
  have hyz : Hid (bck ys = xs) := by show bck ys = xs; rw [← hys.out]; exact bck_dbl xs
  have hzy : Hid (dbl zs = xs) := by show dbl zs = xs; rw [← hzs.out]; exact dbl_bck xs
  have hE : ∀ (ys : Ws) (w : World), (binOp BinOp.eql 23 (.agg (arrV ys)) (.agg (arrV ys))).run Tryd.prog w = .ok (.bool true) w := fun ys w => run_eq16_at ys ys true _ _ rfl rfl (eqW_refl _) w
  have hl := hg.lt
  have hb0 := (Below.refl w.heap.size w).alloc (Nat.le_refl _) (Obj.cells (arrV xs) 23)
  have hS0 : LS 23 w (w.alloc (Obj.cells (arrV xs) 23)) w.heap.size xs := ⟨heap_alloc_new w _, hg.below hb0 hl, hb0⟩
  clear hb0
  go_enter Tryd.func5, Tryd.ntmps5
  go_wp2_with fail
  refine (round_any x y z u r hr.out _).mono ?_
  rintro e w1 ⟨rfl, rfl⟩
  go_wp2_with fail
  refine (rround_any x y z u r hr.out _).mono ?_
  rintro e w1 ⟨rfl, rfl⟩
  clear hr
  generalize w.alloc (Obj.cells (arrV xs) 23) = W at *
  have hS := hS0.drew
  go_wp2_with fail
  refine wp_region_ord 1000 [0, 1, 2, 3, 4, 5, 6, 7, 8, 9, 10, 11, 12, 13, 14, 15, 16, 17, 18, 19, 21, 20, 22, 23, 24, 25, 26, 29, 27, 28, 30, 31, 32, 33, 36, 34, 35, 37, 38, 39, 40, 41, 42]
    (fun w' => ArrU 23 w' w.heap.size xs) (fun _ => True) (by kernel_rfl) (by kernel_rfl) (by kernel_rfl) hS.arr trivial (fun _ _ => ?_)
  generalize W.drew = W0 at *
  repeat' (first
    | (refine wpOrd_arr rfl rfl _ rfl _ xs rfl (fun _ h => h) (fun _ _ _ h => h) (by rfl) ?_
       simp only [Act.put, List.setIfInBounds_toArray, List.set_cons_zero, List.set_cons_succ])
    | (refine wpOrd_quiet (v := ?_) rfl rfl (fun _ _ _ h => h) (by rfl) ?_ ?_
       rotate_left
       · (intro w' _ _; go_simp; try rfl)
       simp only [Act.put, List.setIfInBounds_toArray, List.set_cons_zero, List.set_cons_succ]))
  refine wpOrd_step rfl rfl (by rfl) (fun K' hK => ?_)
  go_simp
  refine (double_is xs ys hys.out _ hS.glob).mono ?_
  rintro e W1 ⟨rfl, hb⟩
  have hS1 := hS.call hb
  refine hK.out _ _ hS1.arr (fun h => absurd h (by decide)) (fun _ => ?_)
  clear hK K' hb hS
  try simp only [Act.put, List.setIfInBounds_toArray, List.set_cons_zero, List.set_cons_succ]
  repeat' (first
    | (refine wpOrd_arr rfl rfl _ rfl _ xs rfl (fun _ h => h) (fun _ _ _ h => h) (by rfl) ?_
       simp only [Act.put, List.setIfInBounds_toArray, List.set_cons_zero, List.set_cons_succ])
    | (refine wpOrd_quiet (v := ?_) rfl rfl (fun _ _ _ h => h) (by rfl) ?_ ?_
       rotate_left
       · (intro w' _ _; go_simp; try rfl)
       simp only [Act.put, List.setIfInBounds_toArray, List.set_cons_zero, List.set_cons_succ]))
  refine wpOrd_step rfl rfl (by rfl) (fun K' hK => ?_)
  go_simp
  refine (rdouble_is xs ys hys.out _).mono ?_
  rintro e W2 ⟨rfl, hb⟩
  have hS2 := hS1.call hb
  refine hK.out _ _ hS2.arr (fun h => absurd h (by decide)) (fun _ => ?_)
  clear hK K' hb hS1
  try simp only [Act.put, List.setIfInBounds_toArray, List.set_cons_zero, List.set_cons_succ]
  repeat' (first
    | (refine wpOrd_arr rfl rfl _ rfl _ xs rfl (fun _ h => h) (fun _ _ _ h => h) (by rfl) ?_
       simp only [Act.put, List.setIfInBounds_toArray, List.set_cons_zero, List.set_cons_succ])
    | (refine wpOrd_quiet (v := ?_) rfl rfl (fun _ _ _ h => h) (by rfl) ?_ ?_
       rotate_left
       · (intro w' _ _; go_simp; try rfl)
       simp only [Act.put, List.setIfInBounds_toArray, List.set_cons_zero, List.set_cons_succ]))
  refine wpOrd_step rfl rfl (by rfl) (fun K' hK => ?_)
  go_simp
  refine (rdouble_is xs ys hys.out _).mono ?_
  rintro e W3 ⟨rfl, hb⟩
  have hS3 := hS2.call hb
  refine hK.out _ _ hS3.arr (fun h => absurd h (by decide)) (fun _ => ?_)
  clear hK K' hb hS2
  try simp only [Act.put, List.setIfInBounds_toArray, List.set_cons_zero, List.set_cons_succ]
  repeat' (first
    | (refine wpOrd_arr rfl rfl _ rfl _ xs rfl (fun _ h => h) (fun _ _ _ h => h) (by rfl) ?_
       simp only [Act.put, List.setIfInBounds_toArray, List.set_cons_zero, List.set_cons_succ])
    | (refine wpOrd_quiet (v := ?_) rfl rfl (fun _ _ _ h => h) (by rfl) ?_ ?_
       rotate_left
       · (intro w' _ _; go_simp; try rfl)
       simp only [Act.put, List.setIfInBounds_toArray, List.set_cons_zero, List.set_cons_succ]))
  refine wpOrd_step rfl rfl (by rfl) (fun K' hK => ?_)
  go_simp
  refine (back_is ys xs hyz.out _ hS3.glob).mono ?_
  rintro e W4 ⟨rfl, hb⟩
  have hS4 := hS3.call hb
  refine hK.out _ _ hS4.arr (fun h => absurd h (by decide)) (fun _ => ?_)
  clear hK K' hb hS3
  try simp only [Act.put, List.setIfInBounds_toArray, List.set_cons_zero, List.set_cons_succ]
  repeat' (first
    | (refine wpOrd_arr rfl rfl _ rfl _ xs rfl (fun _ h => h) (fun _ _ _ h => h) (by rfl) ?_
       simp only [Act.put, List.setIfInBounds_toArray, List.set_cons_zero, List.set_cons_succ])
    | (refine wpOrd_quiet (v := ?_) rfl rfl (fun _ _ _ h => h) (by rfl) ?_ ?_
       rotate_left
       · (intro w' _ _; go_simp; try rfl)
       simp only [Act.put, List.setIfInBounds_toArray, List.set_cons_zero, List.set_cons_succ]))
  refine wpOrd_step rfl rfl (by rfl) (fun K' hK => ?_)
  go_simp
  refine (back_is xs zs hzs.out _ hS4.glob).mono ?_
  rintro e W5 ⟨rfl, hb⟩
  have hS5 := hS4.call hb
  refine hK.out _ _ hS5.arr (fun h => absurd h (by decide)) (fun _ => ?_)
  clear hK K' hb hS4
  try simp only [Act.put, List.setIfInBounds_toArray, List.set_cons_zero, List.set_cons_succ]
  repeat' (first
    | (refine wpOrd_arr rfl rfl _ rfl _ xs rfl (fun _ h => h) (fun _ _ _ h => h) (by rfl) ?_
       simp only [Act.put, List.setIfInBounds_toArray, List.set_cons_zero, List.set_cons_succ])
    | (refine wpOrd_quiet (v := ?_) rfl rfl (fun _ _ _ h => h) (by rfl) ?_ ?_
       rotate_left
       · (intro w' _ _; go_simp; try rfl)
       simp only [Act.put, List.setIfInBounds_toArray, List.set_cons_zero, List.set_cons_succ]))
  refine wpOrd_step rfl rfl (by rfl) (fun K' hK => ?_)
  go_simp
  refine (rdouble_is zs xs hzy.out _).mono ?_
  rintro e W6 ⟨rfl, hb⟩
  have hS6 := hS5.call hb
  refine hK.out _ _ hS6.arr (fun h => absurd h (by decide)) (fun _ => ?_)
  clear hK K' hb hS5
  try simp only [Act.put, List.setIfInBounds_toArray, List.set_cons_zero, List.set_cons_succ]
  repeat' (first
    | (refine wpOrd_arr rfl rfl _ rfl _ xs rfl (fun _ h => h) (fun _ _ _ h => h) (by rfl) ?_
       simp only [Act.put, List.setIfInBounds_toArray, List.set_cons_zero, List.set_cons_succ])
    | (refine wpOrd_quiet (v := ?_) rfl rfl (fun _ _ _ h => h) (by rfl) ?_ ?_
       rotate_left
       · (intro w' _ _; go_simp; try rfl)
       simp only [Act.put, List.setIfInBounds_toArray, List.set_cons_zero, List.set_cons_succ]))
  refine wpOrd_step rfl rfl (by rfl) (fun K' hK => ?_)
  go_simp
  refine (awake2_any _ hS6.glob).mono ?_
  rintro e W7 ⟨rfl, hb⟩
  have hS7 := hS6.call hb
  refine hK.out _ _ hS7.arr (fun h => absurd h (by decide)) (fun _ => ?_)
  clear hK K' hb hS6
  try simp only [Act.put, List.setIfInBounds_toArray, List.set_cons_zero, List.set_cons_succ]
  repeat' (first
    | (refine wpOrd_arr rfl rfl _ rfl _ xs rfl (fun _ h => h) (fun _ _ _ h => h) (by rfl) ?_
       simp only [Act.put, List.setIfInBounds_toArray, List.set_cons_zero, List.set_cons_succ])
    | (refine wpOrd_quiet (v := ?_) rfl rfl (fun _ _ _ h => h) (by rfl) ?_ ?_
       rotate_left
       · (intro w' _ _; go_simp; try rfl)
       simp only [Act.put, List.setIfInBounds_toArray, List.set_cons_zero, List.set_cons_succ]))
  refine wpOrd_nil ?_
  go_wp2_with fail
  go_ret
  exact ⟨rfl, hS7.bel⟩

#print axioms quarTells_walk
end Go.Proofs.YtinbfbcikodekaaDoor
