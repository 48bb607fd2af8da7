
/- What calls of boot.Record and of dumbwaiterref6.Record do: for every number below 2^32; nothing that was there is turned. -/
import Derived.Test.YtgkhaedlfmloeaaDoorXLe
import Derived.Test.YtgkhaedlfmloeaaDoorXDisk
import Derived.Test.YtgkhaedlfmloeaaDoorBCat
namespace Go.Proofs.YtgkhaedlfmloeaaDoor
open Go.RowKit

/-- The record of n. -/
def recL (n : Int) : List Int := zL 12 ++ (putL n 4 ++ putL (fnv (putL n 4)) 8)
theorem recL_length (n : Int) : (recL n).length = 24 := by simp [recL, length_putL, zL_length]
theorem recL_bytes (n : Int) : IsBytes (recL n) := (zL_bytes _).append ((putL_bytes _ _).append (putL_bytes _ _))

set_option maxRecDepth 100000 in
set_option maxHeartbeats 4000000 in
theorem rec_any (n : Int) (w : World) (hn : 0 ≤ n ∧ n < 4294967296) :
    Calls Tryd.prog 20 #[.int .u32 n] w fun e w' => ∃ g c, e = .returned (.slice (some ⟨g, 0, none⟩) 24 c) ∧ OwnS 5 w.heap.size w' (some ⟨g, 0, none⟩) 24 c (recL n) ∧ Below w.heap.size w w' := by
  have hnw : IntKind.u64.wrap n = n := by rw [wrap_u64]; omega
  have hw1 := fnv_word (putL n 4)
  go_enter Tryd.func20, Tryd.ntmps20
  go_wp2_with fail
  refine (put_at n 4 4 w rfl (by omega) (by omega)).mono ?_
  rintro e W ⟨rfl, hC, hB⟩
  go_wp2_with fail
  refine wp_region_pre Kept [1, 2] 7 (by kernel_rfl) (by kernel_rfl) (by kernel_rfl) Kept.refl Kept.trans ?_
  replace hC : OwnB 5 W.drew w.heap.size (putL n 4) := hC
  replace hB := hB.drew
  generalize W.drew = W0 at *
  repeat' (first
    | (refine wpPre_quiet (v := ?_) rfl (fun _ _ _ h => h) (by rfl) ?_ ?_
       rotate_left
       · (intro w' hR; go_simp; try rfl)
       simp only [Act.put, List.setIfInBounds_toArray, List.set_cons_zero, List.set_cons_succ])
    | fail)
  refine wpPre_nil ?_
  refine wpR_two 0 3 (by kernel_rfl) ?_ ?_
  · refine wpOp_go rfl (by rfl) (fun K' hK => ?_)
    refine wp_make_bytes 12 (by omega) _ _ (by rfl) (by rfl) (by rfl) ?_
    have b1 : Below W0.heap.size W0 (W0.alloc (Obj.cells (madeCells #[Value.int .u8 0] 12) 5)) := below_alloc (Below.refl _ _) _
    have hZ := made_zB W0 12 5
    refine hK.out _ _ b1 ?_
    clear hK K'
    try simp only [Act.put, List.setIfInBounds_toArray, List.set_cons_zero, List.set_cons_succ]
    replace hC := hC.below b1
    replace hB := hB.trans (b1.mono hB.size)
    clear b1
    generalize (W0.alloc (Obj.cells (madeCells #[Value.int .u8 0] 12) 5)) = W1 at *
    generalize W0.heap.size = gz at *
    refine wpR_ord [3, 4, 5, 6, 7, 8] (by kernel_rfl) (by kernel_rfl) Kept.refl Kept.trans ?_
    refine wpRel_step rfl rfl (by rfl) (fun K' hK => ?_)
    refine wp_buildSliceTo 75 26 1 _ (by rfl) Tryd.underlying75 [(0, .slice (some ⟨w.heap.size, 0, none⟩) 4 4)] (by kernel_rfl) #[.slice (some ⟨w.heap.size, 0, none⟩) 4 4] (by kernel_rfl) ?_
    have b1 : Below W1.heap.size W1 (W1.alloc (.cells #[.slice (some ⟨w.heap.size, 0, none⟩) 4 4] 26)) := below_alloc (Below.refl _ _) _
    have hR := heap_alloc_new W1 (.cells #[.slice (some ⟨w.heap.size, 0, none⟩) 4 4] 26)
    refine hK.out _ _ b1 ?_
    clear hK K'
    try simp only [Act.put, List.setIfInBounds_toArray, List.set_cons_zero, List.set_cons_succ]
    replace hC := hC.below b1
    replace hZ := hZ.below b1
    replace hB := hB.trans (b1.mono hB.size)
    clear b1
    generalize (W1.alloc _) = W2 at *
    generalize W1.heap.size = gv at *
    refine wpRel_step rfl rfl (by rfl) (fun K' hK => ?_)
    go_simp
    refine (sum_is gv 1 [⟨some ⟨w.heap.size, 0, none⟩, 4, 4, putL n 4⟩] (fnv (putL n 4)) W2 rfl (by omega) (by simp [partsBytes]) _ hR rfl (by
      intro p hp
      simp only [List.mem_cons, List.not_mem_nil, or_false] at hp
      subst hp
      exact hC.bs (putL_bytes _ _) 4 (length_putL _ _) (by omega))).mono ?_
    rintro e W3 ⟨rfl, rfl⟩
    refine hK.out _ _ (Kept.refl _) ?_
    clear hK K'
    try simp only [Act.put, List.setIfInBounds_toArray, List.set_cons_zero, List.set_cons_succ]
    clear hR
    refine wpRel_step rfl rfl (by rfl) (fun K' hK => ?_)
    go_simp
    refine (put_at _ _ 8 W2 rfl hw1 (by omega)).mono ?_
    rintro e W4 ⟨rfl, hS, b1⟩
    refine hK.out _ _ b1 ?_
    clear hK K'
    try simp only [Act.put, List.setIfInBounds_toArray, List.set_cons_zero, List.set_cons_succ]
    replace hC := hC.below b1
    replace hZ := hZ.below b1
    replace hB := hB.trans (b1.mono hB.size)
    clear b1
    generalize W2.heap.size = gs at *
    refine wpRel_step rfl rfl (by rfl) (fun K' hK => ?_)
    refine wp_buildSliceTo 75 26 3 _ (by rfl) Tryd.underlying75 [(0, .slice (some ⟨gz, 0, none⟩) 12 12), (1, .slice (some ⟨w.heap.size, 0, none⟩) 4 4), (2, .slice (some ⟨gs, 0, none⟩) 8 8)] (by kernel_rfl) #[.slice (some ⟨gz, 0, none⟩) 12 12, .slice (some ⟨w.heap.size, 0, none⟩) 4 4, .slice (some ⟨gs, 0, none⟩) 8 8] (by kernel_rfl) ?_
    have b1 : Below W4.heap.size W4 (W4.alloc (.cells #[.slice (some ⟨gz, 0, none⟩) 12 12, .slice (some ⟨w.heap.size, 0, none⟩) 4 4, .slice (some ⟨gs, 0, none⟩) 8 8] 26)) := below_alloc (Below.refl _ _) _
    have hR := heap_alloc_new W4 (.cells #[.slice (some ⟨gz, 0, none⟩) 12 12, .slice (some ⟨w.heap.size, 0, none⟩) 4 4, .slice (some ⟨gs, 0, none⟩) 8 8] 26)
    refine hK.out _ _ b1 ?_
    clear hK K'
    try simp only [Act.put, List.setIfInBounds_toArray, List.set_cons_zero, List.set_cons_succ]
    replace hC := hC.below b1
    replace hZ := hZ.below b1
    replace hS := hS.below b1
    replace hB := hB.trans (b1.mono hB.size)
    clear b1
    generalize (W4.alloc _) = W5 at *
    generalize W4.heap.size = gv at *
    refine wpRel_step rfl rfl (by rfl) (fun K' hK => ?_)
    go_simp
    refine (concat_is gv 3 [⟨some ⟨gz, 0, none⟩, 12, 12, zL 12⟩, ⟨some ⟨w.heap.size, 0, none⟩, 4, 4, putL n 4⟩, ⟨some ⟨gs, 0, none⟩, 8, 8, putL (fnv (putL n 4)) 8⟩] (recL n) 24 W5 rfl (by omega) (by simp [partsBytes, recL]) (recL_length n) (by omega) (by omega) _ hR rfl (by
      intro p hp
      simp only [List.mem_cons, List.not_mem_nil, or_false] at hp
      rcases hp with rfl | rfl | rfl
      · exact hZ.bs (zL_bytes _) 12 (zL_length _) (by omega)
      · exact hC.bs (putL_bytes _ _) 4 (length_putL _ _) (by omega)
      · exact hS.bs (putL_bytes _ _) 8 (length_putL _ _) (by omega))).mono ?_
    rintro e W6 ⟨g4, c4, rfl, ho, b4⟩
    refine hK.out _ _ b4 ?_
    clear hK K'
    try simp only [Act.put, List.setIfInBounds_toArray, List.set_cons_zero, List.set_cons_succ]
    have hb4 := hB.trans (b4.mono hB.size)
    have hle : _ ≤ _ := hB.size
    clear hC hZ hS hR b4 hB
    repeat' (first
      | (refine wpRel_quiet (v := ?_) rfl rfl (fun _ _ _ h => h) (by rfl) ?_ ?_
         rotate_left
         · (intro w' hR; go_simp; try rfl)
         simp only [Act.put, List.setIfInBounds_toArray, List.set_cons_zero, List.set_cons_succ])
      | fail)
    refine wpRel_nil ?_
    go_wp2_with fail
    go_ret
    exact ⟨_, _, rfl, ho.mono hle, hb4⟩
  · refine wpOp_go rfl (by rfl) (fun K' hK => ?_)
    refine wp_buildSliceTo 75 26 1 _ (by rfl) Tryd.underlying75 [(0, .slice (some ⟨w.heap.size, 0, none⟩) 4 4)] (by kernel_rfl) #[.slice (some ⟨w.heap.size, 0, none⟩) 4 4] (by kernel_rfl) ?_
    have b1 : Below W0.heap.size W0 (W0.alloc (.cells #[.slice (some ⟨w.heap.size, 0, none⟩) 4 4] 26)) := below_alloc (Below.refl _ _) _
    have hR := heap_alloc_new W0 (.cells #[.slice (some ⟨w.heap.size, 0, none⟩) 4 4] 26)
    refine hK.out _ _ b1 ?_
    clear hK K'
    try simp only [Act.put, List.setIfInBounds_toArray, List.set_cons_zero, List.set_cons_succ]
    replace hC := hC.below b1
    replace hB := hB.trans (b1.mono hB.size)
    clear b1
    generalize (W0.alloc _) = W7 at *
    generalize W0.heap.size = gv at *
    refine wpR_two 0 4 (by kernel_rfl) ?_ ?_
    · refine wpOp_go rfl (by rfl) (fun K' hK => ?_)
      refine wp_make_bytes 12 (by omega) _ _ (by rfl) (by rfl) (by rfl) ?_
      have b1 : Below W7.heap.size W7 (W7.alloc (Obj.cells (madeCells #[Value.int .u8 0] 12) 5)) := below_alloc (Below.refl _ _) _
      have hZ := made_zB W7 12 5
      refine hK.out _ _ b1 ?_
      clear hK K'
      try simp only [Act.put, List.setIfInBounds_toArray, List.set_cons_zero, List.set_cons_succ]
      replace hC := hC.below b1
      replace hR := (b1.block gv (Array.getElem?_eq_some_iff.1 hR).1).trans hR
      replace hB := hB.trans (b1.mono hB.size)
      clear b1
      generalize (W7.alloc (Obj.cells (madeCells #[Value.int .u8 0] 12) 5)) = W8 at *
      generalize W7.heap.size = gz at *
      refine wpR_ord [4, 5, 6, 7, 8] (by kernel_rfl) (by kernel_rfl) Kept.refl Kept.trans ?_
      refine wpRel_step rfl rfl (by rfl) (fun K' hK => ?_)
      go_simp
      refine (sum_is gv 1 [⟨some ⟨w.heap.size, 0, none⟩, 4, 4, putL n 4⟩] (fnv (putL n 4)) W8 rfl (by omega) (by simp [partsBytes]) _ hR rfl (by
        intro p hp
        simp only [List.mem_cons, List.not_mem_nil, or_false] at hp
        subst hp
        exact hC.bs (putL_bytes _ _) 4 (length_putL _ _) (by omega))).mono ?_
      rintro e W9 ⟨rfl, rfl⟩
      refine hK.out _ _ (Kept.refl _) ?_
      clear hK K'
      try simp only [Act.put, List.setIfInBounds_toArray, List.set_cons_zero, List.set_cons_succ]
      clear hR
      refine wpRel_step rfl rfl (by rfl) (fun K' hK => ?_)
      go_simp
      refine (put_at _ _ 8 W8 rfl hw1 (by omega)).mono ?_
      rintro e W10 ⟨rfl, hS, b1⟩
      refine hK.out _ _ b1 ?_
      clear hK K'
      try simp only [Act.put, List.setIfInBounds_toArray, List.set_cons_zero, List.set_cons_succ]
      replace hC := hC.below b1
      replace hZ := hZ.below b1
      replace hB := hB.trans (b1.mono hB.size)
      clear b1
      generalize W8.heap.size = gs at *
      refine wpRel_step rfl rfl (by rfl) (fun K' hK => ?_)
      refine wp_buildSliceTo 75 26 3 _ (by rfl) Tryd.underlying75 [(0, .slice (some ⟨gz, 0, none⟩) 12 12), (1, .slice (some ⟨w.heap.size, 0, none⟩) 4 4), (2, .slice (some ⟨gs, 0, none⟩) 8 8)] (by kernel_rfl) #[.slice (some ⟨gz, 0, none⟩) 12 12, .slice (some ⟨w.heap.size, 0, none⟩) 4 4, .slice (some ⟨gs, 0, none⟩) 8 8] (by kernel_rfl) ?_
      have b1 : Below W10.heap.size W10 (W10.alloc (.cells #[.slice (some ⟨gz, 0, none⟩) 12 12, .slice (some ⟨w.heap.size, 0, none⟩) 4 4, .slice (some ⟨gs, 0, none⟩) 8 8] 26)) := below_alloc (Below.refl _ _) _
      have hR := heap_alloc_new W10 (.cells #[.slice (some ⟨gz, 0, none⟩) 12 12, .slice (some ⟨w.heap.size, 0, none⟩) 4 4, .slice (some ⟨gs, 0, none⟩) 8 8] 26)
      refine hK.out _ _ b1 ?_
      clear hK K'
      try simp only [Act.put, List.setIfInBounds_toArray, List.set_cons_zero, List.set_cons_succ]
      replace hC := hC.below b1
      replace hZ := hZ.below b1
      replace hS := hS.below b1
      replace hB := hB.trans (b1.mono hB.size)
      clear b1
      generalize (W10.alloc _) = W11 at *
      generalize W10.heap.size = gv at *
      refine wpRel_step rfl rfl (by rfl) (fun K' hK => ?_)
      go_simp
      refine (concat_is gv 3 [⟨some ⟨gz, 0, none⟩, 12, 12, zL 12⟩, ⟨some ⟨w.heap.size, 0, none⟩, 4, 4, putL n 4⟩, ⟨some ⟨gs, 0, none⟩, 8, 8, putL (fnv (putL n 4)) 8⟩] (recL n) 24 W11 rfl (by omega) (by simp [partsBytes, recL]) (recL_length n) (by omega) (by omega) _ hR rfl (by
        intro p hp
        simp only [List.mem_cons, List.not_mem_nil, or_false] at hp
        rcases hp with rfl | rfl | rfl
        · exact hZ.bs (zL_bytes _) 12 (zL_length _) (by omega)
        · exact hC.bs (putL_bytes _ _) 4 (length_putL _ _) (by omega)
        · exact hS.bs (putL_bytes _ _) 8 (length_putL _ _) (by omega))).mono ?_
      rintro e W12 ⟨g4, c4, rfl, ho, b4⟩
      refine hK.out _ _ b4 ?_
      clear hK K'
      try simp only [Act.put, List.setIfInBounds_toArray, List.set_cons_zero, List.set_cons_succ]
      have hb4 := hB.trans (b4.mono hB.size)
      have hle : _ ≤ _ := hB.size
      clear hC hZ hS hR b4 hB
      repeat' (first
        | (refine wpRel_quiet (v := ?_) rfl rfl (fun _ _ _ h => h) (by rfl) ?_ ?_
           rotate_left
           · (intro w' hR; go_simp; try rfl)
           simp only [Act.put, List.setIfInBounds_toArray, List.set_cons_zero, List.set_cons_succ])
        | fail)
      refine wpRel_nil ?_
      go_wp2_with fail
      go_ret
      exact ⟨_, _, rfl, ho.mono hle, hb4⟩
    · refine wpOp_go rfl (by rfl) (fun K' hK => ?_)
      go_simp
      refine (sum_is gv 1 [⟨some ⟨w.heap.size, 0, none⟩, 4, 4, putL n 4⟩] (fnv (putL n 4)) W7 rfl (by omega) (by simp [partsBytes]) _ hR rfl (by
        intro p hp
        simp only [List.mem_cons, List.not_mem_nil, or_false] at hp
        subst hp
        exact hC.bs (putL_bytes _ _) 4 (length_putL _ _) (by omega))).mono ?_
      rintro e W13 ⟨rfl, rfl⟩
      refine hK.out _ _ (Kept.refl _) ?_
      clear hK K'
      try simp only [Act.put, List.setIfInBounds_toArray, List.set_cons_zero, List.set_cons_succ]
      clear hR
      refine wpR_two 0 5 (by kernel_rfl) ?_ ?_
      · refine wpOp_go rfl (by rfl) (fun K' hK => ?_)
        refine wp_make_bytes 12 (by omega) _ _ (by rfl) (by rfl) (by rfl) ?_
        have b1 : Below W7.heap.size W7 (W7.alloc (Obj.cells (madeCells #[Value.int .u8 0] 12) 5)) := below_alloc (Below.refl _ _) _
        have hZ := made_zB W7 12 5
        refine hK.out _ _ b1 ?_
        clear hK K'
        try simp only [Act.put, List.setIfInBounds_toArray, List.set_cons_zero, List.set_cons_succ]
        replace hC := hC.below b1
        replace hB := hB.trans (b1.mono hB.size)
        clear b1
        generalize (W7.alloc (Obj.cells (madeCells #[Value.int .u8 0] 12) 5)) = W14 at *
        generalize W7.heap.size = gz at *
        refine wpR_ord [5, 6, 7, 8] (by kernel_rfl) (by kernel_rfl) Kept.refl Kept.trans ?_
        refine wpRel_step rfl rfl (by rfl) (fun K' hK => ?_)
        go_simp
        refine (put_at _ _ 8 W14 rfl hw1 (by omega)).mono ?_
        rintro e W15 ⟨rfl, hS, b1⟩
        refine hK.out _ _ b1 ?_
        clear hK K'
        try simp only [Act.put, List.setIfInBounds_toArray, List.set_cons_zero, List.set_cons_succ]
        replace hC := hC.below b1
        replace hZ := hZ.below b1
        replace hB := hB.trans (b1.mono hB.size)
        clear b1
        generalize W14.heap.size = gs at *
        refine wpRel_step rfl rfl (by rfl) (fun K' hK => ?_)
        refine wp_buildSliceTo 75 26 3 _ (by rfl) Tryd.underlying75 [(0, .slice (some ⟨gz, 0, none⟩) 12 12), (1, .slice (some ⟨w.heap.size, 0, none⟩) 4 4), (2, .slice (some ⟨gs, 0, none⟩) 8 8)] (by kernel_rfl) #[.slice (some ⟨gz, 0, none⟩) 12 12, .slice (some ⟨w.heap.size, 0, none⟩) 4 4, .slice (some ⟨gs, 0, none⟩) 8 8] (by kernel_rfl) ?_
        have b1 : Below W15.heap.size W15 (W15.alloc (.cells #[.slice (some ⟨gz, 0, none⟩) 12 12, .slice (some ⟨w.heap.size, 0, none⟩) 4 4, .slice (some ⟨gs, 0, none⟩) 8 8] 26)) := below_alloc (Below.refl _ _) _
        have hR := heap_alloc_new W15 (.cells #[.slice (some ⟨gz, 0, none⟩) 12 12, .slice (some ⟨w.heap.size, 0, none⟩) 4 4, .slice (some ⟨gs, 0, none⟩) 8 8] 26)
        refine hK.out _ _ b1 ?_
        clear hK K'
        try simp only [Act.put, List.setIfInBounds_toArray, List.set_cons_zero, List.set_cons_succ]
        replace hC := hC.below b1
        replace hZ := hZ.below b1
        replace hS := hS.below b1
        replace hB := hB.trans (b1.mono hB.size)
        clear b1
        generalize (W15.alloc _) = W16 at *
        generalize W15.heap.size = gv at *
        refine wpRel_step rfl rfl (by rfl) (fun K' hK => ?_)
        go_simp
        refine (concat_is gv 3 [⟨some ⟨gz, 0, none⟩, 12, 12, zL 12⟩, ⟨some ⟨w.heap.size, 0, none⟩, 4, 4, putL n 4⟩, ⟨some ⟨gs, 0, none⟩, 8, 8, putL (fnv (putL n 4)) 8⟩] (recL n) 24 W16 rfl (by omega) (by simp [partsBytes, recL]) (recL_length n) (by omega) (by omega) _ hR rfl (by
          intro p hp
          simp only [List.mem_cons, List.not_mem_nil, or_false] at hp
          rcases hp with rfl | rfl | rfl
          · exact hZ.bs (zL_bytes _) 12 (zL_length _) (by omega)
          · exact hC.bs (putL_bytes _ _) 4 (length_putL _ _) (by omega)
          · exact hS.bs (putL_bytes _ _) 8 (length_putL _ _) (by omega))).mono ?_
        rintro e W17 ⟨g4, c4, rfl, ho, b4⟩
        refine hK.out _ _ b4 ?_
        clear hK K'
        try simp only [Act.put, List.setIfInBounds_toArray, List.set_cons_zero, List.set_cons_succ]
        have hb4 := hB.trans (b4.mono hB.size)
        have hle : _ ≤ _ := hB.size
        clear hC hZ hS hR b4 hB
        repeat' (first
          | (refine wpRel_quiet (v := ?_) rfl rfl (fun _ _ _ h => h) (by rfl) ?_ ?_
             rotate_left
             · (intro w' hR; go_simp; try rfl)
             simp only [Act.put, List.setIfInBounds_toArray, List.set_cons_zero, List.set_cons_succ])
          | fail)
        refine wpRel_nil ?_
        go_wp2_with fail
        go_ret
        exact ⟨_, _, rfl, ho.mono hle, hb4⟩
      · refine wpOp_go rfl (by rfl) (fun K' hK => ?_)
        go_simp
        refine (put_at _ _ 8 W7 rfl hw1 (by omega)).mono ?_
        rintro e W18 ⟨rfl, hS, b1⟩
        refine hK.out _ _ b1 ?_
        clear hK K'
        try simp only [Act.put, List.setIfInBounds_toArray, List.set_cons_zero, List.set_cons_succ]
        replace hC := hC.below b1
        replace hB := hB.trans (b1.mono hB.size)
        clear b1
        generalize W7.heap.size = gs at *
        refine wpR_ord [0, 6, 7, 8] (by kernel_rfl) (by kernel_rfl) Kept.refl Kept.trans ?_
        refine wpRel_step rfl rfl (by rfl) (fun K' hK => ?_)
        refine wp_make_bytes 12 (by omega) _ _ (by rfl) (by rfl) (by rfl) ?_
        have b1 : Below W18.heap.size W18 (W18.alloc (Obj.cells (madeCells #[Value.int .u8 0] 12) 5)) := below_alloc (Below.refl _ _) _
        have hZ := made_zB W18 12 5
        refine hK.out _ _ b1 ?_
        clear hK K'
        try simp only [Act.put, List.setIfInBounds_toArray, List.set_cons_zero, List.set_cons_succ]
        replace hC := hC.below b1
        replace hS := hS.below b1
        replace hB := hB.trans (b1.mono hB.size)
        clear b1
        generalize (W18.alloc (Obj.cells (madeCells #[Value.int .u8 0] 12) 5)) = W19 at *
        generalize W18.heap.size = gz at *
        refine wpRel_step rfl rfl (by rfl) (fun K' hK => ?_)
        refine wp_buildSliceTo 75 26 3 _ (by rfl) Tryd.underlying75 [(0, .slice (some ⟨gz, 0, none⟩) 12 12), (1, .slice (some ⟨w.heap.size, 0, none⟩) 4 4), (2, .slice (some ⟨gs, 0, none⟩) 8 8)] (by kernel_rfl) #[.slice (some ⟨gz, 0, none⟩) 12 12, .slice (some ⟨w.heap.size, 0, none⟩) 4 4, .slice (some ⟨gs, 0, none⟩) 8 8] (by kernel_rfl) ?_
        have b1 : Below W19.heap.size W19 (W19.alloc (.cells #[.slice (some ⟨gz, 0, none⟩) 12 12, .slice (some ⟨w.heap.size, 0, none⟩) 4 4, .slice (some ⟨gs, 0, none⟩) 8 8] 26)) := below_alloc (Below.refl _ _) _
        have hR := heap_alloc_new W19 (.cells #[.slice (some ⟨gz, 0, none⟩) 12 12, .slice (some ⟨w.heap.size, 0, none⟩) 4 4, .slice (some ⟨gs, 0, none⟩) 8 8] 26)
        refine hK.out _ _ b1 ?_
        clear hK K'
        try simp only [Act.put, List.setIfInBounds_toArray, List.set_cons_zero, List.set_cons_succ]
        replace hC := hC.below b1
        replace hZ := hZ.below b1
        replace hS := hS.below b1
        replace hB := hB.trans (b1.mono hB.size)
        clear b1
        generalize (W19.alloc _) = W20 at *
        generalize W19.heap.size = gv at *
        refine wpRel_step rfl rfl (by rfl) (fun K' hK => ?_)
        go_simp
        refine (concat_is gv 3 [⟨some ⟨gz, 0, none⟩, 12, 12, zL 12⟩, ⟨some ⟨w.heap.size, 0, none⟩, 4, 4, putL n 4⟩, ⟨some ⟨gs, 0, none⟩, 8, 8, putL (fnv (putL n 4)) 8⟩] (recL n) 24 W20 rfl (by omega) (by simp [partsBytes, recL]) (recL_length n) (by omega) (by omega) _ hR rfl (by
          intro p hp
          simp only [List.mem_cons, List.not_mem_nil, or_false] at hp
          rcases hp with rfl | rfl | rfl
          · exact hZ.bs (zL_bytes _) 12 (zL_length _) (by omega)
          · exact hC.bs (putL_bytes _ _) 4 (length_putL _ _) (by omega)
          · exact hS.bs (putL_bytes _ _) 8 (length_putL _ _) (by omega))).mono ?_
        rintro e W21 ⟨g4, c4, rfl, ho, b4⟩
        refine hK.out _ _ b4 ?_
        clear hK K'
        try simp only [Act.put, List.setIfInBounds_toArray, List.set_cons_zero, List.set_cons_succ]
        have hb4 := hB.trans (b4.mono hB.size)
        have hle : _ ≤ _ := hB.size
        clear hC hZ hS hR b4 hB
        repeat' (first
          | (refine wpRel_quiet (v := ?_) rfl rfl (fun _ _ _ h => h) (by rfl) ?_ ?_
             rotate_left
             · (intro w' hR; go_simp; try rfl)
             simp only [Act.put, List.setIfInBounds_toArray, List.set_cons_zero, List.set_cons_succ])
          | fail)
        refine wpRel_nil ?_
        go_wp2_with fail
        go_ret
        exact ⟨_, _, rfl, ho.mono hle, hb4⟩

set_option maxRecDepth 100000 in
set_option maxHeartbeats 4000000 in
theorem rrec_any (n : Int) (w : World) (hn : 0 ≤ n ∧ n < 4294967296) :
    Calls Tryd.prog 9 #[.int .u32 n] w fun e w' => ∃ g c, e = .returned (.slice (some ⟨g, 0, none⟩) 24 c) ∧ OwnS 5 w.heap.size w' (some ⟨g, 0, none⟩) 24 c (recL n) ∧ Below w.heap.size w w' := by
  have hnw : IntKind.u64.wrap n = n := by rw [wrap_u64]; omega
  have hw1 := fnv_word (putL n 4)
  go_enter Tryd.func9, Tryd.ntmps9
  go_wp2_with fail
  refine (rput_ok n 4 w (by omega) (by omega)).mono ?_
  rintro e W0 ⟨a0, c0, rfl, hC, hB⟩
  have hmk : (Instr.makeSlice 26 (.int .i64 12) (.int .i64 12)).run Tryd.prog W0 = .ok (.slice (some ⟨W0.heap.size, 0, none⟩) 12 12) (W0.alloc (Obj.cells (madeCells #[Value.int .u8 0] 12) 5)) := run_make_row' (P := Tryd.prog) 26 5 (.int .u8 0) 1 Tryd.underlying26 Tryd.info_u8 rfl .i64 .i64 12 (by omega) (by omega) W0
  have b1 : Below W0.heap.size W0 (W0.alloc (Obj.cells (madeCells #[Value.int .u8 0] 12) 5)) := below_alloc (Below.refl _ _) _
  have hZ := made_zB W0 12 5
  generalize (W0.alloc (Obj.cells (madeCells #[Value.int .u8 0] 12) 5)) = W1 at *
  obtain ⟨a2, c2, w2, hr2, ho2, hb2⟩ := run_append_more W0.heap.size W1 W1 (some ⟨W0.heap.size, 0, none⟩) 12 12 _ (hZ.owns (zL_bytes _) (zL_length _) (by omega) (Nat.le_refl _)) (Below.refl _ _) (Nat.le_of_lt hZ.lt) _ _ _ _ (hC.bs.below b1) (by omega)
  have hC2 := hC.bs.below (b1.trans hb2)
  have hgz := hB.size
  have hB1 := hB.trans (b1.mono hgz)
  have hle1 := Nat.le_of_lt hZ.lt
  clear hB b1 hC hZ
  generalize W0.heap.size = gz at *
  go_wp2_with (first
    | (at_builtin; refine wpList_append_run (by rfl) (.tmp 7) (.tmp 8) 26 (by rfl) _ _ _ _ (by rfl) (by rfl) hr2 ?_))
  clear hr2 hmk
  refine (rsum_any w2 hC2).mono ?_
  rintro e w2' ⟨rfl, rfl⟩
  go_wp2_with fail
  refine (rput_ok _ 8 w2 hw1 (by omega)).mono ?_
  rintro e w3 ⟨a3, c3, rfl, hS, hb3⟩
  obtain ⟨a4, c4, w4, hr4, ho4, hb4⟩ := run_append_more gz W1 w3 a2 (12 + 4) c2 _ (ho2.below hb3) (hb2.trans (hb3.mono (Nat.le_trans hle1 hb2.size))) hle1 _ _ _ _ hS.bs (by omega)
  go_wp2_with (first
    | (at_builtin; refine wpList_append_run (by rfl) (.tmp 9) (.tmp 12) 26 (by rfl) _ _ _ _ (by rfl) (by rfl) hr4 ?_))
  go_ret
  obtain ⟨g, rfl, _, _⟩ := ho4.form (by omega)
  rw [List.append_assoc] at ho4
  exact ⟨_, _, rfl, ho4.mono hgz, hB1.trans (hb4.mono hgz)⟩

#print axioms rec_any
end Go.Proofs.YtgkhaedlfmloeaaDoor
