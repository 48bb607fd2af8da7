/- The law's awake answers true, wherever quar.rounds reads as its text says; nothing that was there is turned. -/
import Derived.Test.YthhaeiafgloacaaDoorSOpen
import Derived.Test.YthhaeiafgloacaaDoorLit
import Derived.Test.YthhaeiafgloacaaDoorQEq
namespace Go.Proofs.YthhaeiafgloacaaDoor
open Go.RowKit

theorem sealL_boot (key : List Int) (boot seq : Int) (zs : List Int) (m : Nat) (h : 0 ≤ boot ∧ boot < 4294967296) : leNum ((sealL key boot seq zs m).take 4) = boot := by
  rw [show (sealL key boot seq zs m).take 4 = ((sealL key boot seq zs m).take 12).take 4 by rw [List.take_take]; rfl, sealL_take, headL_boot _ _ h]
theorem sealL_num (key : List Int) (boot seq : Int) (zs : List Int) (m : Nat) (h : 0 ≤ seq ∧ seq < 18446744073709551616) : leNum (((sealL key boot seq zs m).take 12).drop 4) = seq := by
  rw [sealL_take, headL_seq _ _ h]

/-- What was sealed is opened. -/
theorem open_sealed (key : List Int) (boot seq : Int) {a : Option Addr} {len cap : Nat} {zs : List Int} (m : Nat) (w : World) (hk : IsBytes key) (hkl : key.length = 32) (hbo : 0 ≤ boot ∧ boot < 4294967296) (hs : 0 ≤ seq ∧ seq < 18446744073709551616) (hz : IsBytes zs) (hzl : zs.length ≤ m) (hm : m ≤ 60000)
    (hb : Bs w a len cap (sealL key boot seq zs m)) (hg : Glob w) :
    Calls Tryd.prog 9 #[.agg (bV key), .slice a len cap] w fun e w' => Below w.heap.size w w' ∧ ∃ g, e = .returned (.tuple #[.slice (some ⟨g, 0, none⟩) zs.length zs.length, .int .u32 boot, .int .u64 seq, .bool true]) ∧ w.heap.size ≤ g ∧ OwnB 5 w' g zs := by
  have hl := hb.length
  rw [sealL_length _ _ _ _ _ hzl] at hl
  refine (open_any key w hk hkl hb (by omega) hg).mono ?_
  rintro e w' ⟨hb', (⟨us, g, ho, rfl, hge, hO⟩ | ⟨ho, rfl⟩)⟩
  · rw [openL_sealL _ _ _ _ _ hz hzl hm] at ho
    obtain rfl := Option.some.inj ho
    rw [sealL_boot _ _ _ _ _ hbo, sealL_num _ _ _ _ _ hs]
    exact ⟨hb', g, rfl, hge, hO⟩
  · rw [openL_sealL _ _ _ _ _ hz hzl hm] at ho
    cases ho
#print axioms open_sealed

theorem bV_get (xs : List Int) (i : Nat) (hi : i < xs.length) : (bV xs)[i]? = some (.int .u8 (xs.getD i 0)) := by simp [bV, hi, List.getD]
theorem run_eqItems_bytes {P : Program} {E : TypeId} (he : P.underlying E = some (.int .u8)) (d : Nat) (xs ys : List Int) (w : World) : ∀ is : List Nat, (∀ i ∈ is, i < xs.length ∧ i < ys.length) →
    (Op.eqItems (d + 1) E 1 (bV xs) (bV ys) is).run P w = .ok (is.all fun i => xs.getD i 0 == ys.getD i 0) w
  | [], _ => by simp [Op.eqItems]
  | i :: is, h => by
    obtain ⟨hi, hj⟩ := h i (by simp)
    have px : (part E (bV xs) (i * 1)).run P w = .ok (.int .u8 (xs.getD i 0)) w := by
      simp [part, isAgg, run_underlying he, bV_get xs i hi]
    have py : (part E (bV ys) (i * 1)).run P w = .ok (.int .u8 (ys.getD i 0)) w := by
      simp [part, isAgg, run_underlying he, bV_get ys i hj]
    have pe : (Op.equalIn (d + 1) E (.int .u8 (xs.getD i 0)) (.int .u8 (ys.getD i 0))).run P w = .ok (xs.getD i 0 == ys.getD i 0) w := by
      rw [run_equalIn_int w d E .u8 .u8 _ _ he]
    simp only [Op.eqItems, Sem.run_bind, px, py, pe, Result.andThen_ok, List.all_cons]
    cases hb : (xs.getD i 0 == ys.getD i 0)
    · simp
    · simp only [Bool.not_true, Bool.false_eq_true, if_false, Bool.true_and]
      exact run_eqItems_bytes he d xs ys w is (fun j hj => h j (by simp [hj]))
theorem info_u8_some : (Tryd.prog.info? 5).isSome = true := by kernel_rfl
theorem cells_u8 : Tryd.prog.cellsOf 5 = 1 := by kernel_rfl
/-- '==' of a row of twelve bytes and itself. -/
theorem run_eq12 (xs : List Int) (hl : xs.length = 12) (w : World) : (binOp BinOp.eql 35 (.agg (bV xs)) (.agg (bV xs))).run Tryd.prog w = .ok (.bool true) w := by
  obtain ⟨i, hi⟩ := Option.isSome_iff_exists.1 info_u8_some
  rw [run_eql_struct, run_equalIn_array w 9999 (bV xs) (bV xs) Tryd.underlying35 hi, cells_u8, run_eqItems_bytes Tryd.underlying5 9998 xs xs w _ (fun i hi => by simp at hi; omega)]
  simp
theorem run_same12 (xs : List Int) (hl : xs.length = 12) (w : World) : (Op.equalIn 10000 35 (.agg (bV xs)) (.agg (bV xs))).run Tryd.prog w = .ok true w := by
  obtain ⟨i, hi⟩ := Option.isSome_iff_exists.1 info_u8_some
  rw [run_equalIn_array w 9999 (bV xs) (bV xs) Tryd.underlying35 hi, cells_u8, run_eqItems_bytes Tryd.underlying5 9998 xs xs w _ (fun i hi => by simp at hi; omega)]
  simp
#print axioms run_eq12

set_option maxRecDepth 100000 in
set_option maxHeartbeats 1000000 in
theorem awake_any (w : World) (hg : Glob w) : Calls Tryd.prog 7 #[] w fun e w' => e = .returned (.bool true) ∧ Below w.heap.size w w' := by
  have hS := KK.start w (zL 32) hg
  have hhl := headL_length 258 3
  have hhb := headL_bytes 258 3
  go_enter Tryd.func7, Tryd.ntmps7
  go_wp2_with (refine wpList_newA (by rfl) 22 (by rfl) _ zero32 w.heap.size rfl ?_)
  generalize (w.alloc (Obj.cells (bV (zL 32)) 22)) = W0 at *
  refine (head_any 258 3 W0 (by omega) (by omega)).mono ?_
  rintro e w1 ⟨rfl, hb1⟩
  have hS1 := hS.later hb1
  clear hS hb1
  have hn2 := heap_alloc_new w1 (Obj.cells (bV (zL 12)) 35)
  obtain ⟨hH2, hb2, -⟩ := new12 w1 (headL 258 3)
  have hS2 := hS1.later hb2
  have hgh : w.heap.size < w1.heap.size := hS1.lt
  have hk2 := hS2.kk
  clear hS1 hb2
  go_wp2_with (first
    | (refine wpList_newA (by rfl) 35 (by rfl) _ zero12 w1.heap.size rfl ?_)
    | (refine wpList_putA arrT12 (by rfl) _ _ (by rfl) w1.heap.size (bV (headL 258 3)) (by rfl) (by rfl) _ hn2 (by rw [bV_size, hhl]) (bV_size _) (bV_one _) ?_
       clear hn2
       generalize ((w1.alloc (Obj.cells (bV (zL 12)) 35)).setRow w1.heap.size (bV (headL 258 3))) = W2 at *)
    | (refine wpList_loadA arrT32 (by rfl) _ (by rfl) w.heap.size (by rfl) (bV (zL 32)) hk2 (by rw [bV_size, zL_length]) ?_))
  rw [conv_bytes]
  have hL3 : Bs (W2.alloc (Obj.cells #[Value.int IntKind.u8 97, Value.int IntKind.u8 98] 5 (2, 3))) (some ⟨W2.heap.size, 0, none⟩) 2 2 [97, 98] := Bs.lit rfl rfl (bytes_lit rfl) rfl (by omega)
  have hS3 := hS2.alloc (Obj.cells #[Value.int IntKind.u8 97, Value.int IntKind.u8 98] 5 (2, 3))
  have hH3 := hH2.below (below_alloc (Below.refl _ _) (Obj.cells #[Value.int IntKind.u8 97, Value.int IntKind.u8 98] 5 (2, 3)))
  go_wp2_with fail
  generalize w1.heap.size = gh at *
  generalize (W2.alloc (Obj.cells #[Value.int IntKind.u8 97, Value.int IntKind.u8 98] 5 (2, 3))) = W3 at *
  clear hS2 hH2 hk2
  refine (seal_ok (zL 32) 258 3 40 18 W3 (zL_bytes _) (zL_length _) (by omega) (by omega) hL3 rfl (by omega) (by omega) hS3.gl).mono ?_
  rintro e w4 ⟨g4, c4, rfl, hO4, hb4⟩
  have hS4 := hS3.later hb4
  have hH4 := hH3.below hb4
  have hk4 := hS4.kk
  clear hS3 hH3 hb4 hL3
  have hab : IsBytes [97, 98] := bytes_lit rfl
  go_wp2_with (refine wpList_loadA arrT32 (by rfl) _ (by rfl) w.heap.size (by rfl) (bV (zL 32)) hk4 (by rw [bV_size, zL_length]) ?_)
  refine (open_sealed (zL 32) 258 3 18 w4 (zL_bytes _) (zL_length _) (by omega) (by omega) hab (by decide) (by omega) hO4.bs hS4.gl).mono ?_
  rintro e w5 ⟨hb5, g5, rfl, hg5, hO5⟩
  have hS5 := hS4.later hb5
  have hH5 := hH4.below hb5
  have hB5 := hO4.bs.below hb5
  replace hO5 := hO5.bs hab 2 rfl (by omega)
  clear hS4 hH4 hk4 hO4 hb5
  go_wp2_with fail
  have hmk := run_make_row' (P := Tryd.prog) 25 5 (.int .u8 0) 1 Tryd.underlying25 Tryd.info_u8 rfl .i64 .i64 19 (by omega) (by omega)
  simp only [show ((19 : Nat) : Int) = 19 from rfl] at hmk
  refine wp_region_rel Kept [0, 1, 2, 3, 4, 5, 6, 7] (by kernel_rfl) (by kernel_rfl) (by kernel_rfl) Kept.refl Kept.trans ?_
  have hd5 : Below w5.heap.size w5 w5.drew := (Below.refl w5.heap.size w5).drew
  replace hS5 := hS5.later hd5
  replace hH5 := hH5.below hd5
  replace hB5 := hB5.below hd5
  replace hO5 := hO5.below hd5
  clear hd5
  generalize w5.drew = W5 at *
  refine wpRel_loadA arrT32 rfl rfl _ rfl w.heap.size (bV (zL 32)) (by rfl) (fun w' hR => hS5.kk.below hR) (by rw [bV_size, zL_length]) (fun _ _ _ h => h) (by rfl) ?_
  try simp only [Act.put, List.setIfInBounds_toArray, List.set_cons_zero, List.set_cons_succ]
  refine wpRel_step rfl rfl (by rfl) (fun K' hK => ?_)
  go_simp
  have hb6 := below_alloc (Below.refl W5.heap.size W5) (Obj.cells (madeCells #[Value.int IntKind.u8 0] 19) 5)
  refine hK.out _ _ hb6 ?_
  clear hK K' hmk
  try simp only [Act.put, List.setIfInBounds_toArray, List.set_cons_zero, List.set_cons_succ]
  replace hS5 := hS5.later hb6
  replace hH5 := hH5.below hb6
  replace hB5 := hB5.below hb6
  replace hO5 := hO5.below hb6
  clear hb6
  generalize (W5.alloc (Obj.cells (madeCells #[Value.int IntKind.u8 0] 19) 5)) = W6 at *
  refine wpRel_step rfl rfl (by rfl) (fun K' hK => ?_)
  go_simp
  refine (seal_no (len := 19) (zL 32) 1 1 40 W6 (by omega) (by omega) (by omega)).mono ?_
  rintro e w7 ⟨rfl, hb7⟩
  refine hK.out _ _ hb7 ?_
  clear hK K'
  try simp only [Act.put, List.setIfInBounds_toArray, List.set_cons_zero, List.set_cons_succ]
  replace hS5 := hS5.later hb7
  replace hH5 := hH5.below hb7
  replace hB5 := hB5.below hb7
  replace hO5 := hO5.below hb7
  clear hb7
  repeat' (first
    | (refine wpRel_quiet (v := ?_) rfl rfl (fun _ _ _ h => h) (by rfl) ?_ ?_
       rotate_left
       · (intro w' hR; go_simp; try rfl)
       simp only [Act.put, List.setIfInBounds_toArray, List.set_cons_zero, List.set_cons_succ]))
  refine wpRel_nil ?_
  go_wp2_with fail
  have hsl := run_arr_all (P := Tryd.prog) Tryd.underlying35 Tryd.size_u8 gh
  have hct := fun w => cutTo (len := 40) hB5 .i64 12 12 rfl (by have := hB5.le_cap; omega) w
  have hB12 := hB5.taken 12 (by omega)
  rw [sealL_take] at hB12
  have hE := run_eq12 (headL 258 3) hhl
  have hE2 := run_same12 (headL 258 3) hhl
  have hbv : bV (headL 258 3) = #[.int .u8 2, .int .u8 1, .int .u8 0, .int .u8 0, .int .u8 3, .int .u8 0, .int .u8 0, .int .u8 0, .int .u8 0, .int .u8 0, .int .u8 0, .int .u8 0] := by kernel_rfl
  generalize headL 258 3 = hd at *
  refine wp_region_rel Kept [0, 1, 2, 3, 4, 5, 6, 7, 8, 9, 10, 11, 12, 13, 14, 15, 16, 17, 18, 19, 20, 21, 22, 23, 24, 25, 26, 27, 28, 29, 30, 31, 32, 33, 34, 35, 36, 37, 38, 39, 40, 41, 42, 43] (by kernel_rfl) (by kernel_rfl) (by kernel_rfl) Kept.refl Kept.trans ?_
  have hd7 : Below w7.heap.size w7 w7.drew := (Below.refl w7.heap.size w7).drew
  replace hS5 := hS5.later hd7
  replace hH5 := hH5.below hd7
  replace hB12 := hB12.below hd7
  replace hO5 := hO5.below hd7
  clear hd7 hB5
  generalize w7.drew = W7 at *
  refine wpRel_loadA arrT12 rfl rfl _ rfl gh (bV (hd)) (by rfl) (fun w' hR => hH5.below hR) (by rw [bV_size, hhl]) (fun _ _ _ h => h) (by rfl) ?_
  try simp only [Act.put, List.setIfInBounds_toArray, List.set_cons_zero, List.set_cons_succ]
  refine wpRel_quiet (v := .agg (bV (hd))) rfl rfl (fun _ _ _ h => h) (by rfl) (fun w' _ => by rw [hbv]; kernel_rfl) ?_
  clear hbv
  try simp only [Act.put, List.setIfInBounds_toArray, List.set_cons_zero, List.set_cons_succ]
  repeat' (first
    | (refine wpRel_quiet (v := ?_) rfl rfl (fun _ _ _ h => h) (by rfl) ?_ ?_
       rotate_left
       · (intro w' hR; have s1 := str_bytes (hB12.below hR); have s2 := str_bytes ((hH5.bs hhb 12 hhl (by omega)).below hR); have s3 : (convert 25 9 (.slice (some ⟨g5, 0, none⟩) 2 2)).run Tryd.prog w' = .ok (.string ⟨#[97, 98]⟩) w' := str_bytes (hO5.below hR); go_simp; try rfl)
       simp only [Act.put, List.setIfInBounds_toArray, List.set_cons_zero, List.set_cons_succ]))
  refine wpRel_step rfl rfl (by rfl) (fun K' hK => ?_)
  go_simp
  refine (room_any _ 18 W7 (by decide)).mono ?_
  rintro e W7' ⟨rfl, rfl⟩
  refine hK.out _ _ (Kept.refl _) ?_
  clear hK K'
  try simp only [Act.put, List.setIfInBounds_toArray, List.set_cons_zero, List.set_cons_succ]
  repeat' (first
    | (refine wpRel_quiet (v := ?_) rfl rfl (fun _ _ _ h => h) (by rfl) ?_ ?_
       rotate_left
       · (intro w' hR; go_simp; try rfl)
       simp only [Act.put, List.setIfInBounds_toArray, List.set_cons_zero, List.set_cons_succ]))
  refine wpRel_nil ?_
  go_wp2_with fail
  go_ret
  exact ⟨rfl, hS5.bel⟩
#print axioms awake_any
end Go.Proofs.YthhaeiafgloacaaDoor
