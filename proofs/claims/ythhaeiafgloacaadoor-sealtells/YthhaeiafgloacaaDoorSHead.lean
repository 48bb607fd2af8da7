/- What calls of seal.Head, seal.Room and dumbwaiterref1.Head do: for all numbers; nothing that was there is turned. -/
import Derived.Test.YthhaeiafgloacaaDoorSBase
import Derived.Test.YthhaeiafgloacaaDoorCKN
import Derived.Test.YthhaeiafgloacaaDoorRef1Put
namespace Go.Proofs.YthhaeiafgloacaaDoor
open Go.RowKit

theorem zero12 : (Tryd.prog.info? 35).bind (·.zero) = some (.agg (bV (zL 12))) := by kernel_rfl

theorem head_first (boot : Int) : splice (zL 12) 0 ((putL boot 4).take 4) = putL boot 4 ++ zL 8 := by
  rw [List.take_of_length_le (by rw [length_putL]; omega)]
  simp only [splice, length_putL, List.take_zero, List.nil_append]
  rfl
theorem head_second (boot seq : Int) : splice (putL boot 4 ++ zL 8) 4 ((putL seq 8).take 8) = headL boot seq := by
  rw [List.take_of_length_le (by rw [length_putL]; omega)]
  have e1 : List.take 4 (putL boot 4 ++ zL 8) = putL boot 4 := by rw [List.take_append_of_le_length (by rw [length_putL]; omega), List.take_of_length_le (by rw [length_putL]; omega)]
  have e2 : List.drop (4 + (putL seq 8).length) (putL boot 4 ++ zL 8) = [] := List.drop_of_length_le (by simp [length_putL, zL_length])
  unfold splice headL
  rw [e1, e2, List.append_nil]
theorem head_whole (boot seq : Int) : splice (zL 12) 0 ((headL boot seq).take 12) = headL boot seq := by
  have h := splice_all (zL 12) (headL boot seq) 12 (zL_length _) (by rw [headL_length]; omega)
  rw [h, List.take_of_length_le (by rw [headL_length]; omega)]

theorem room_any (n r : Int) (w : World) (hr : IntKind.i64.wrap (n - 22) = r) : Calls Tryd.prog 11 #[.int .i64 n] w fun e w' => e = .returned (.int .i64 r) ∧ w = w' := by
  go_enter Tryd.func11, Tryd.ntmps11
  go_wp2_with fail
  go_ret
  exact ⟨rfl, rfl⟩

set_option maxHeartbeats 1000000 in
theorem head_any (boot seq : Int) (w : World) (hb : 0 ≤ boot ∧ boot < 4294967296) (hs : 0 ≤ seq ∧ seq < 18446744073709551616) :
    Calls Tryd.prog 14 #[.int .u32 boot, .int .u64 seq] w fun e w' => e = .returned (.agg (bV (headL boot seq))) ∧ Below w.heap.size w w' := by
  have n1 := heap_alloc_new w (Obj.cells (bV (zL 12)) 35)
  have n2 := heap_alloc_new (w.alloc (Obj.cells (bV (zL 12)) 35)) (Obj.cells (bV (zL 12)) 35)
  simp only [size_alloc] at n2
  have hb0 := below_alloc (below_alloc (Below.refl w.heap.size w) (Obj.cells (bV (zL 12)) 35)) (Obj.cells (bV (zL 12)) 35)
  have m1 := block_alloc n1 (Obj.cells (bV (zL 12)) 35)
  clear n1
  have hbw : IntKind.u64.wrap boot = boot := by rw [wrap_u64]; omega
  have hsl := run_arr_all (P := Tryd.prog) Tryd.underlying35 Tryd.size_u8 (w.heap.size + 1)
  have hsl4 := run_arr_from (P := Tryd.prog) Tryd.underlying35 Tryd.size_u8 (w.heap.size + 1) .i64 4 4 rfl (by decide)
  go_enter Tryd.func14, Tryd.ntmps14
  go_wp2_with (first
    | (refine wpList_newA (by rfl) 35 (by rfl) _ zero12 w.heap.size rfl ?_)
    | (refine wpList_newA (by rfl) 35 (by rfl) _ zero12 (w.heap.size + 1) (size_alloc _ _) ?_))
  generalize ((w.alloc (Obj.cells (bV (zL 12)) 35)).alloc (Obj.cells (bV (zL 12)) 35)) = W0 at *
  refine wp_region_ord 1000 [0, 1, 2, 3, 4] (fun _ => True) (fun _ => True) (by kernel_rfl) (by kernel_rfl) (by kernel_rfl) trivial trivial (fun _ _ => ?_)
  replace hb0 := hb0.drew
  replace m1 : OwnB 35 W0.drew w.heap.size (zL 12) := m1
  replace n2 : OwnB 35 W0.drew (w.heap.size + 1) (zL 12) := n2
  generalize W0.drew = W1 at *
  repeat' (refine wpOrd_quiet (v := ?_) rfl rfl (fun _ _ _ h => h) (by rfl) ?_ ?_
           rotate_left
           · (intro w' _ _; go_simp; try rfl)
           simp only [Act.put, List.setIfInBounds_toArray, List.set_cons_zero, List.set_cons_succ])
  refine wpOrd_step rfl rfl (by rfl) (fun K' hK => ?_)
  go_simp
  refine (put_at _ _ 4 W1 rfl (by omega) (by omega)).mono ?_
  rintro e w2 ⟨rfl, hO2, hb2⟩
  have hb2' := hb0.trans (hb2.mono hb0.size)
  have m2 := m1.below hb2
  have z2 := n2.below hb2
  have hlt1 : w.heap.size + 1 < W1.heap.size := n2.lt
  clear hb2 m1 n2 hb0
  obtain ⟨w3, hr3, hP3, ho3⟩ := run_copy_bytes (P := Tryd.prog) Tryd.underlying25 Tryd.size_u8 3 w2 (some ⟨w.heap.size + 1, 0, none⟩) (some ⟨W1.heap.size, 0, none⟩) 12 12 4 4 (w.heap.size + 1) 0 4 (zL 12) _ z2 (by omega) (.inr rfl) (hO2.bs (putL_bytes _ _) 4 (length_putL _ _) (by omega)) (by rw [zL_length]; omega)
  have m3 := ho3.own m2 (by omega)
  have hb3 := ho3.below hb2' (by omega)
  rw [head_first] at hP3
  refine hK.out _ _ trivial (fun h => absurd h (by decide)) (fun _ => ?_)
  clear hK K' m2 z2 hO2 hb2' ho3
  try simp only [Act.put, List.setIfInBounds_toArray, List.set_cons_zero, List.set_cons_succ]
  refine wpOrd_step rfl rfl (by rfl) (fun K' hK => ?_)
  go_simp
  refine hK.out _ _ trivial (fun h => absurd h (by decide)) (fun _ => ?_)
  clear hK K' hr3
  try simp only [Act.put, List.setIfInBounds_toArray, List.set_cons_zero, List.set_cons_succ]
  refine wpOrd_nil ?_
  go_wp2_with fail
  refine wp_region_ord 1000 [0, 1, 2, 3] (fun _ => True) (fun _ => True) (by kernel_rfl) (by kernel_rfl) (by kernel_rfl) trivial trivial (fun _ _ => ?_)
  replace hb3 := hb3.drew
  replace m3 : OwnB 35 w3.drew w.heap.size (zL 12) := m3
  replace hP3 : OwnB 35 w3.drew (w.heap.size + 1) (putL boot 4 ++ zL 8) := hP3
  generalize w3.drew = W3 at *
  repeat' (refine wpOrd_quiet (v := ?_) rfl rfl (fun _ _ _ h => h) (by rfl) ?_ ?_
           rotate_left
           · (intro w' _ _; go_simp; try rfl)
           simp only [Act.put, List.setIfInBounds_toArray, List.set_cons_zero, List.set_cons_succ])
  refine wpOrd_step rfl rfl (by rfl) (fun K' hK => ?_)
  go_simp
  refine (put_at _ _ 8 W3 rfl (by omega) (by omega)).mono ?_
  rintro e w4 ⟨rfl, hO4, hb4⟩
  have hb4' := hb3.trans (hb4.mono hb3.size)
  have m4 := m3.below hb4
  have z4 := hP3.below hb4
  have hlt3 : w.heap.size + 1 < W3.heap.size := hP3.lt
  clear hb4 m3 hP3 hb3
  obtain ⟨w5, hr5, hP5, ho5⟩ := run_copy_bytes (P := Tryd.prog) Tryd.underlying25 Tryd.size_u8 3 w4 (some ⟨w.heap.size + 1, 4, none⟩) (some ⟨W3.heap.size, 0, none⟩) 8 8 8 8 (w.heap.size + 1) 4 8 (putL boot 4 ++ zL 8) _ z4 (by omega) (.inr rfl) (hO4.bs (putL_bytes _ _) 8 (length_putL _ _) (by omega)) (by simp [length_putL, zL_length])
  have m5 := ho5.own m4 (by omega)
  have hb5 := ho5.below hb4' (by omega)
  rw [head_second] at hP5
  refine hK.out _ _ trivial (fun h => absurd h (by decide)) (fun _ => ?_)
  clear hK K' m4 z4 hO4 hb4' ho5
  try simp only [Act.put, List.setIfInBounds_toArray, List.set_cons_zero, List.set_cons_succ]
  refine wpOrd_step rfl rfl (by rfl) (fun K' hK => ?_)
  go_simp
  refine hK.out _ _ trivial (fun h => absurd h (by decide)) (fun _ => ?_)
  clear hK K' hr5
  try simp only [Act.put, List.setIfInBounds_toArray, List.set_cons_zero, List.set_cons_succ]
  refine wpOrd_nil ?_
  go_wp2_with (first
    | (refine wpList_loadA arrT12 (by rfl) _ (by rfl) (w.heap.size + 1) (by rfl) (bV (headL boot seq)) hP5 (by rw [bV_size, headL_length]) ?_)
    | (refine wpList_putA arrT12 (by rfl) _ _ (by rfl) w.heap.size (bV (headL boot seq)) (by rfl) (by rfl) _ m5 (by rw [bV_size, headL_length]) (bV_size _) (bV_one _) ?_))
  refine bodyPost_ret (results_cell_row rfl _ _ _ _ _ _ _ rfl (setRow_heap _ _ _ _ _ _ m5) Tryd.underlying35 rfl (by rw [bV_size, headL_length, info_b12])) rfl ?_
  exact ⟨rfl, Below.setRow hb5 (Nat.le_refl _) _⟩
#print axioms head_any
end Go.Proofs.YthhaeiafgloacaaDoor
