/- The law SealBack answers true for every key, numbers, text and size, wherever quar.rounds reads as its text says; nothing that was there is turned. -/
import Derived.Test.YthhaeiafgloacaaDoorSAwake
import Derived.Test.YthhaeiafgloacaaDoorSRef
namespace Go.Proofs.YthhaeiafgloacaaDoor
open Go.RowKit

set_option maxRecDepth 100000 in
set_option maxHeartbeats 4000000 in
theorem sealBack_walk (key : List Int) (boot seq more : Int) (a : Option Addr) (len cap : Nat) (zs : List Int) (w : World) (hk : IsBytes key) (hkl : key.length = 32) (hbo : 0 ≤ boot ∧ boot < 4294967296) (hs : 0 ≤ seq ∧ seq < 18446744073709551616) (hb : Bs w a len cap zs) (hg : Glob w) :
    Calls Tryd.prog 6 #[.agg (bV key), .int .u32 boot, .int .u64 seq, .slice a len cap, .int .i64 more] w fun e w' => e = .returned (.bool true) ∧ Below w.heap.size w w' := by
  have hz := hb.length
  have hS := KK.start w key hg
  have hcl := hb.le_cap
  have hcc := hb.cap_le
  by_cases hlen : (1500 : Int) < (len : Int)
  · go_enter Tryd.func6, Tryd.ntmps6
    go_wp2_with fail
    generalize (w.alloc (Obj.cells (bV key) 22)) = W0 at *
    refine (awake_any W0 hS.gl).mono ?_
    rintro e w1 ⟨rfl, hb1⟩
    have hS1 := hS.later hb1
    go_wp2_with fail
    go_ret
    exact ⟨rfl, hS1.bel⟩
  obtain ⟨y, hy0⟩ : ∃ y : Int, more % 2 ^ 8 = y := ⟨_, rfl⟩
  have hy1 : 0 ≤ y ∧ y < 256 := by omega
  have hy := i64_mask more 8 (by decide) 255 (by decide)
  rw [hy0] at hy
  obtain ⟨Y, rfl⟩ := Int.eq_ofNat_of_zero_le hy1.1
  clear hy0
  obtain ⟨m, hm⟩ : ∃ m, m = len + Y := ⟨_, rfl⟩
  have hm1 : m ≤ 2000 := by omega
  have hw2 : IntKind.i64.wrap ((len : Int) + 22) = (len : Int) + 22 := by rw [IntKind.wrap_i64]; omega
  have hw3 : IntKind.i64.wrap ((len : Int) + 22 + (Y : Int)) = (m : Int) + 22 := by rw [IntKind.wrap_i64]; omega
  have hlm : len ≤ m := by omega
  clear hm
  have hb0 := hb.below hS.bel
  have kk := hS.kk
  go_enter Tryd.func6, Tryd.ntmps6
  go_wp2_with (refine wpList_loadA arrT32 (by rfl) _ (by rfl) w.heap.size (by rfl) (bV key) kk (by rw [bV_size, hkl]) ?_)
  generalize (w.alloc (Obj.cells (bV key) 22)) = W0 at *
  refine (seal_ok key boot seq ((m : Int) + 22) m W0 hk hkl hbo hs hb0 rfl hlm (by omega) hS.gl).mono ?_
  rintro e w1 ⟨g1, c1, rfl, hO1, hb1⟩
  have hS1 := hS.later hb1
  have hb1' := hb0.below hb1
  have hB1 := hO1.bs
  have kk1 := hS1.kk
  clear hO1 hS hb1 hb0 kk
  go_wp2_with (refine wpList_loadA arrT32 (by rfl) _ (by rfl) w.heap.size (by rfl) (bV key) kk1 (by rw [bV_size, hkl]) ?_)
  refine (open_sealed key boot seq m w1 hk hkl hbo hs hb.bytes (by omega) (by omega) hB1 hS1.gl).mono ?_
  rintro e w2 ⟨hb2, g2, rfl, hg2, hO2⟩
  have hS2 := hS1.later hb2
  have hb2' := hb1'.below hb2
  have hB2 := hB1.below hb2
  have hP2 := hO2.bs hb.bytes len hz (by omega)
  clear hO2 hS1 hb1' hB1 hb2 kk1
  have s1 := str_bytes hP2
  have s2 := str_bytes hb2'
  have hgh : w.heap.size < w2.heap.size := hS2.lt
  have hn3 := heap_alloc_new w2 (Obj.cells (bV (zL 12)) 35)
  have hb3 := below_alloc (Below.refl w2.heap.size w2) (Obj.cells (bV (zL 12)) 35)
  have hS3 := hS2.later hb3
  have hB3 := hB2.below hb3
  have hP3 := hP2.below hb3
  obtain ⟨w4, hr4, hH4, ho4⟩ := run_copy_bytes (P := Tryd.prog) Tryd.underlying25 Tryd.size_u8 3 (w2.alloc (Obj.cells (bV (zL 12)) 35)) (some ⟨w2.heap.size, 0, none⟩) (some ⟨g1, 0, none⟩) 12 12 (m + 22) c1 w2.heap.size 0 12 (zL 12) _ hn3 (by omega) (.inr rfl) hB3 (by rw [zL_length]; omega)
  have hbl := hS2.bel
  have hlt1 : g1 < w2.heap.size := hB2.block_lt (by omega)
  have hlt2 : len = 0 ∨ g2 < w2.heap.size := by
    by_cases h0 : len = 0
    · exact .inl h0
    · exact .inr (hP2.block_lt (by omega))
  have hS4 := hS3.only ho4 hgh
  have hB4 := ho4.bs hB3 (by omega)
  rw [splice_all (zL 12) _ 12 (zL_length _) (by rw [sealL_length _ _ _ _ _ (by omega)]; omega), sealL_take] at hH4
  have hsl := run_arr_all (P := Tryd.prog) Tryd.underlying35 Tryd.size_u8 w2.heap.size
  clear hS2 hb2' hB2 hb3
  go_wp2_with (refine wpList_newA (by rfl) 35 (by rfl) _ zero12 w2.heap.size rfl ?_)
  clear hr4 hlt2 hn3 hS3 hB3 ho4 hlt1 hbl hP2 hP3 s1 s2
  generalize w2.heap.size = gh at *
  refine wp_region_rel Kept [0, 1, 2, 3, 4, 5, 6, 7, 8, 9] (by kernel_rfl) (by kernel_rfl) (by kernel_rfl) Kept.refl Kept.trans ?_
  replace hS4 := hS4.drew
  replace hH4 : OwnB 35 w4.drew gh (headL boot seq) := hH4
  replace hB4 := hB4.below (Below.refl w4.heap.size w4).drew
  generalize w4.drew = W4 at *
  have hhl := headL_length boot seq
  have hhb := headL_bytes boot seq
  have hc1 := hB4.le_cap
  have hbody : xorL key (headL boot seq) 0 ((sealL key boot seq zs m).drop 12) = bodyL (headL boot seq) (padL zs m) := by
    rw [sealL_drop, xorL_twice _ _ _ _ (bodyL_bytes _ _ (padL_bytes _ _ hb.bytes))]
  have hcf := fun w => cutFrom (some ⟨g1, 0, none⟩) (m + 22) c1 .i64 12 12 (m + 10) rfl (by omega) (by omega) w
  have hbc := hB4.cut 12 (by omega)
  rw [show m + 22 - 12 = m + 10 by omega] at hbc
  refine wpRel_loadA arrT32 rfl rfl _ rfl w.heap.size (bV key) (by rfl) (fun w' hR => hS4.kk.below hR) (by rw [bV_size, hkl]) (fun _ _ _ h => h) (by rfl) ?_
  try simp only [Act.put, List.setIfInBounds_toArray, List.set_cons_zero, List.set_cons_succ]
  refine wpRel_loadA arrT12 rfl rfl _ rfl gh (bV (headL boot seq)) (by rfl) (fun w' hR => hH4.below hR) (by rw [bV_size, hhl]) (fun _ _ _ h => h) (by rfl) ?_
  try simp only [Act.put, List.setIfInBounds_toArray, List.set_cons_zero, List.set_cons_succ]
  repeat' (first
    | (refine wpRel_quiet (v := ?_) rfl rfl (fun _ _ _ h => h) (by rfl) ?_ ?_
       rotate_left
       · (intro w' hR; go_simp; try rfl)
       simp only [Act.put, List.setIfInBounds_toArray, List.set_cons_zero, List.set_cons_succ])
    | fail)
  generalize cutA (some ⟨g1, 0, none⟩) c1 12 = r at *
  clear hcf hsl hB4
  refine wpRel_step rfl rfl (by rfl) (fun K' hK => ?_)
  go_simp
  refine (rxor_ok key (headL boot seq) 0 W4 hk hkl hhb hhl hbc (by omega) (fits_zero _ (by omega)) hS4.gl).mono ?_
  rintro e w8 ⟨x8, c8, rfl, hB8, hb8⟩
  refine hK.out _ _ hb8 ?_
  clear hK K'
  try simp only [Act.put, List.setIfInBounds_toArray, List.set_cons_zero, List.set_cons_succ]
  rw [hbody] at hB8
  have hS8 := hS4.later hb8
  have hH8 := hH4.below hb8
  clear hS4 hH4 hb8 hbc hbody
  repeat' (first
    | (refine wpRel_quiet (v := ?_) rfl rfl (fun _ _ _ h => h) (by rfl) ?_ ?_
       rotate_left
       · (intro w' hR; go_simp; try rfl)
       simp only [Act.put, List.setIfInBounds_toArray, List.set_cons_zero, List.set_cons_succ])
    | fail)
  refine wpRel_nil ?_
  have hpl := length_padL zs m (by omega)
  have hP8 := hB8.taken (m + 2) (by omega)
  have hT8 := hB8.cut (m + 2) (by omega)
  rw [show (bodyL (headL boot seq) (padL zs m)).take (m + 2) = padL zs m by rw [show m + 2 = (padL zs m).length by omega, bodyL_take]] at hP8
  rw [show (bodyL (headL boot seq) (padL zs m)).drop (m + 2) = putL (fnv (headL boot seq ++ padL zs m)) 8 by rw [show m + 2 = (padL zs m).length by omega, bodyL_drop], show m + 10 - (m + 2) = 8 by omega] at hT8
  have hc8 := hB8.le_cap
  have c3 := fun w => cutTo hB8 .i64 ((m : Int) + 2) (m + 2) (by omega) (by omega) w
  have c1' := fun w => cutFrom x8 (m + 10) c8 .i64 ((m : Int) + 2) (m + 2) 8 (by omega) (by omega) (by omega) w
  have hwr : IntKind.i64.wrap ((m : Int) + 10 - 8) = (m : Int) + 2 := by rw [IntKind.wrap_i64]; omega
  have hwr2 : IntKind.i64.wrap ((m : Int) + 22 - 22) = (m : Int) := by rw [IntKind.wrap_i64]; omega
  have hup := unpadL_padL zs m (by omega) (by omega)
  have hw1 := fnv_word (headL boot seq ++ padL zs m)
  clear hpl
  go_wp2_with fail
  refine (runpad_any (m : Int) w8 hP8).mono ?_
  rintro e w9 ⟨hb9, (⟨us, a9, c9, hu, rfl, hO9⟩ | ⟨hu, rfl⟩)⟩
  rotate_left
  · rw [hup] at hu; cases hu
  rw [hup] at hu
  obtain rfl := Option.some.inj hu
  have hB9 := hO9.bs
  have hS9 := hS8.later hb9
  have hH9 := hH8.below hb9
  have hP9 := hP8.below hb9
  have hT9 := hT8.below hb9
  rw [hz] at hB9
  clear hup hu hO9 hb9 hS8 hH8 hP8 hT8 hwr2 hB8
  go_wp2_with fail
  obtain ⟨V, hV⟩ : ∃ V, fnv (headL boot seq ++ padL zs m) = V := ⟨_, rfl⟩
  rw [hV] at hT9 hw1
  have eqV : leNum ((putL V 8).take 8) = V := by rw [List.take_of_length_le (by rw [length_putL]; omega), leNum_all _ hw1.1 hw1.2]
  have hsl := run_arr_all (P := Tryd.prog) Tryd.underlying35 Tryd.size_u8 gh
  have hE := run_eq12 (headL boot seq) hhl
  have hE2 := run_same12 (headL boot seq) hhl
  obtain ⟨B, hB⟩ : ∃ B, w9.heap.size = B := ⟨_, rfl⟩
  refine wp_region_pre (Below B) [0, 1, 2, 3, 4, 5, 6, 7, 8, 9, 10, 11, 12, 13, 16, 18, 19, 20, 21, 22] 18 (by kernel_rfl) (by kernel_rfl) (by kernel_rfl) (Below.refl B) (fun _ _ _ => Below.trans) ?_
  have hd := (Below.refl w9.heap.size w9).drew
  replace hS9 := hS9.drew
  replace hH9 := hH9.below hd
  replace hP9 := hP9.below hd
  replace hT9 := hT9.below hd
  replace hB9 := hB9.below hd
  replace hB : w9.drew.heap.size = B := hB
  clear hd
  generalize w9.drew = W9 at *
  subst hB
  have hltg := hH9.lt
  have hz9 := hb.below hS9.bel
  repeat' (first
    | (refine wpPre_quiet (v := ?_) rfl (fun _ _ _ h => h) (by rfl) ?_ ?_
       rotate_left
       · (intro w' hR; have s1 := str_bytes (hB9.below hR); have s2 := str_bytes (hz9.below hR); go_simp; try rfl)
       simp only [Act.put, List.setIfInBounds_toArray, List.set_cons_zero, List.set_cons_succ])
    | fail)
  refine wpPre_nil ?_
  clear c1' c3 hwr hz9
  refine wpR_two 14 15 (by kernel_rfl) ?_ ?_
  ·
    refine wpOp_go rfl (by rfl) (fun K' hK => ?_)
    go_simp
    refine (rget_any W9 hT9).mono ?_
    rintro e W9' ⟨rfl, rfl⟩
    rw [eqV]
    refine hK.out _ _ (Below.refl _ _) ?_
    clear hK K'
    try simp only [Act.put, List.setIfInBounds_toArray, List.set_cons_zero, List.set_cons_succ]
    refine wpR_ord [15, 17, 23, 24, 25, 26, 27, 28, 29, 30, 31, 32, 33, 34, 35, 36, 37] (by kernel_rfl) (by kernel_rfl) (Below.refl _) (fun _ _ _ => Below.trans) ?_
    refine wpRel_step rfl rfl (by rfl) (fun K' hK => ?_)
    go_simp
    have hb10 : Below W9.heap.size W9 (W9.alloc (Obj.cells #[] 5)) := Below.alloc (Below.refl _ _) (Nat.le_refl _) _
    refine hK.out _ _ hb10 ?_
    clear hK K'
    try simp only [Act.put, List.setIfInBounds_toArray, List.set_cons_zero, List.set_cons_succ]
    have hEm : Bs (W9.alloc (Obj.cells #[] 5)) (some ⟨W9.heap.size, 0, none⟩) 0 0 [] := (show OwnB 5 (W9.alloc (Obj.cells #[] 5)) W9.heap.size [] from heap_alloc_new W9 (Obj.cells #[] 5)).bs IsBytes.nil 0 rfl (by omega)
    have hS10 := hS9.later hb10
    have hH10 := hH9.below hb10
    have hP10 := hP9.below hb10
    have hT10 := hT9.below hb10
    have hle10 : W9.heap.size ≤ (W9.alloc (Obj.cells #[] 5)).heap.size := by rw [size_alloc]; omega
    clear hS9 hH9 hP9 hT9 hB9 hb10
    generalize (W9.alloc (Obj.cells #[] 5)) = W10 at *
    obtain ⟨c11, w11, hr11, ho11, hb11⟩ := run_append_new (P := Tryd.prog) Tryd.underlying25 Tryd.info_u8 25 W10 (some ⟨W9.heap.size, 0, none⟩) 0 0 [] hEm (some ⟨gh, 0, none⟩) 12 12 _ (hH10.bs hhb 12 hhl (by omega)) (fun h => by cases h) (by omega) (by omega)
    simp only [Nat.zero_add, List.nil_append] at hr11 ho11
    refine wpRel_step rfl rfl (by rfl) (fun K' hK => ?_)
    refine wp_append_run (.tmp 116) (.tmp 117) 25 (by rfl) _ _ _ (by rfl) (by rfl) hr11 ?_
    refine hK.out _ _ (hb11.mono hle10) ?_
    clear hK K'
    try simp only [Act.put, List.setIfInBounds_toArray, List.set_cons_zero, List.set_cons_succ]
    obtain ⟨a12, c12, w12, hr12, ho12, hb12⟩ := run_append_more W10.heap.size w11 w11 _ 12 c11 _ ho11 (Below.refl _ _) hb11.size x8 (m + 2) c8 _ (hP10.below hb11) (by omega)
    refine wpRel_step rfl rfl (by rfl) (fun K' hK => ?_)
    refine wp_append_run (.tmp 118) (.tmp 123) 25 (by rfl) _ _ _ (by rfl) (by rfl) hr12 ?_
    refine hK.out _ _ (hb12.mono hle10) ?_
    clear hK K'
    try simp only [Act.put, List.setIfInBounds_toArray, List.set_cons_zero, List.set_cons_succ]
    have hb13 := hb11.trans hb12
    have hS12 := hS10.later hb13
    have hH12 := hH10.below hb13
    have hB12 := ho12.bs
    have hle12 : W9.heap.size ≤ w12.heap.size := Nat.le_trans hle10 hb13.size
    clear hS10 hH10 hP10 hb11 hb12 hb13 hr11 hr12 ho11 ho12 hEm
    refine wpRel_step rfl rfl (by rfl) (fun K' hK => ?_)
    go_simp
    refine (rsum_any w12 hB12).mono ?_
    rintro e w12' ⟨rfl, rfl⟩
    rw [hV]
    refine hK.out _ _ (Below.refl _ _) ?_
    clear hK K'
    try simp only [Act.put, List.setIfInBounds_toArray, List.set_cons_zero, List.set_cons_succ]
    clear hB12 hT10
    repeat' (first
      | (refine wpRel_quiet (v := ?_) rfl rfl (fun _ _ _ h => h) (by rfl) ?_ ?_
         rotate_left
         · (intro w' hR; go_simp; try rfl)
         simp only [Act.put, List.setIfInBounds_toArray, List.set_cons_zero, List.set_cons_succ])
      | fail)
    refine wpRel_loadA arrT12 rfl rfl _ rfl gh (bV (headL boot seq)) (by rfl) (fun w' hR => (hR.block gh hltg).trans hH12) (by rw [bV_size, hhl]) (fun _ _ _ h => h) (by rfl) ?_
    try simp only [Act.put, List.setIfInBounds_toArray, List.set_cons_zero, List.set_cons_succ]
    repeat' (first
      | (refine wpRel_quiet (v := ?_) rfl rfl (fun _ _ _ h => h) (by rfl) ?_ ?_
         rotate_left
         · (intro w' hR; go_simp; try rfl)
         simp only [Act.put, List.setIfInBounds_toArray, List.set_cons_zero, List.set_cons_succ])
      | fail)
    refine wpRel_step rfl rfl (by rfl) (fun K' hK => ?_)
    go_simp
    refine (head_any boot seq w12 hbo hs).mono ?_
    rintro e w13 ⟨rfl, hb13⟩
    refine hK.out _ _ (hb13.mono hle12) ?_
    clear hK K'
    try simp only [Act.put, List.setIfInBounds_toArray, List.set_cons_zero, List.set_cons_succ]
    have hS13 := hS12.later hb13
    have hle13 := Nat.le_trans hle12 hb13.size
    clear hS12 hH12 hb13
    repeat' (first
      | (refine wpRel_quiet (v := ?_) rfl rfl (fun _ _ _ h => h) (by rfl) ?_ ?_
         rotate_left
         · (intro w' hR; go_simp; try rfl)
         simp only [Act.put, List.setIfInBounds_toArray, List.set_cons_zero, List.set_cons_succ])
      | fail)
    refine wpRel_step rfl rfl (by rfl) (fun K' hK => ?_)
    go_simp
    refine (awake_any w13 hS13.gl).mono ?_
    rintro e w14 ⟨rfl, hb14⟩
    refine hK.out _ _ (hb14.mono hle13) ?_
    clear hK K'
    try simp only [Act.put, List.setIfInBounds_toArray, List.set_cons_zero, List.set_cons_succ]
    have hS14 := hS13.later hb14
    clear hS13 hb14
    repeat' (first
      | (refine wpRel_quiet (v := ?_) rfl rfl (fun _ _ _ h => h) (by rfl) ?_ ?_
         rotate_left
         · (intro w' hR; go_simp; try rfl)
         simp only [Act.put, List.setIfInBounds_toArray, List.set_cons_zero, List.set_cons_succ])
      | fail)
    refine wpRel_nil ?_
    go_wp2_with fail
    go_ret
    exact ⟨rfl, hS14.bel⟩
  · refine wpOp_go rfl (by rfl) (fun K' hK => ?_)
    go_simp
    have hb10 : Below W9.heap.size W9 (W9.alloc (Obj.cells #[] 5)) := Below.alloc (Below.refl _ _) (Nat.le_refl _) _
    refine hK.out _ _ hb10 ?_
    clear hK K'
    try simp only [Act.put, List.setIfInBounds_toArray, List.set_cons_zero, List.set_cons_succ]
    have hEm : Bs (W9.alloc (Obj.cells #[] 5)) (some ⟨W9.heap.size, 0, none⟩) 0 0 [] := (show OwnB 5 (W9.alloc (Obj.cells #[] 5)) W9.heap.size [] from heap_alloc_new W9 (Obj.cells #[] 5)).bs IsBytes.nil 0 rfl (by omega)
    have hS10 := hS9.later hb10
    have hH10 := hH9.below hb10
    have hP10 := hP9.below hb10
    have hT10 := hT9.below hb10
    have hle10 : W9.heap.size ≤ (W9.alloc (Obj.cells #[] 5)).heap.size := by rw [size_alloc]; omega
    clear hS9 hH9 hP9 hT9 hB9 hb10
    generalize (W9.alloc (Obj.cells #[] 5)) = W10 at *
    refine wpR_ord [14, 17, 23, 24, 25, 26, 27, 28, 29, 30, 31, 32, 33, 34, 35, 36, 37] (by kernel_rfl) (by kernel_rfl) (Below.refl _) (fun _ _ _ => Below.trans) ?_
    refine wpRel_step rfl rfl (by rfl) (fun K' hK => ?_)
    go_simp
    refine (rget_any W10 hT10).mono ?_
    rintro e W10' ⟨rfl, rfl⟩
    rw [eqV]
    refine hK.out _ _ (Below.refl _ _) ?_
    clear hK K'
    try simp only [Act.put, List.setIfInBounds_toArray, List.set_cons_zero, List.set_cons_succ]
    obtain ⟨c11, w11, hr11, ho11, hb11⟩ := run_append_new (P := Tryd.prog) Tryd.underlying25 Tryd.info_u8 25 W10 (some ⟨W9.heap.size, 0, none⟩) 0 0 [] hEm (some ⟨gh, 0, none⟩) 12 12 _ (hH10.bs hhb 12 hhl (by omega)) (fun h => by cases h) (by omega) (by omega)
    simp only [Nat.zero_add, List.nil_append] at hr11 ho11
    refine wpRel_step rfl rfl (by rfl) (fun K' hK => ?_)
    refine wp_append_run (.tmp 116) (.tmp 117) 25 (by rfl) _ _ _ (by rfl) (by rfl) hr11 ?_
    refine hK.out _ _ (hb11.mono hle10) ?_
    clear hK K'
    try simp only [Act.put, List.setIfInBounds_toArray, List.set_cons_zero, List.set_cons_succ]
    obtain ⟨a12, c12, w12, hr12, ho12, hb12⟩ := run_append_more W10.heap.size w11 w11 _ 12 c11 _ ho11 (Below.refl _ _) hb11.size x8 (m + 2) c8 _ (hP10.below hb11) (by omega)
    refine wpRel_step rfl rfl (by rfl) (fun K' hK => ?_)
    refine wp_append_run (.tmp 118) (.tmp 123) 25 (by rfl) _ _ _ (by rfl) (by rfl) hr12 ?_
    refine hK.out _ _ (hb12.mono hle10) ?_
    clear hK K'
    try simp only [Act.put, List.setIfInBounds_toArray, List.set_cons_zero, List.set_cons_succ]
    have hb13 := hb11.trans hb12
    have hS12 := hS10.later hb13
    have hH12 := hH10.below hb13
    have hB12 := ho12.bs
    have hle12 : W9.heap.size ≤ w12.heap.size := Nat.le_trans hle10 hb13.size
    clear hS10 hH10 hP10 hb11 hb12 hb13 hr11 hr12 ho11 ho12 hEm
    refine wpRel_step rfl rfl (by rfl) (fun K' hK => ?_)
    go_simp
    refine (rsum_any w12 hB12).mono ?_
    rintro e w12' ⟨rfl, rfl⟩
    rw [hV]
    refine hK.out _ _ (Below.refl _ _) ?_
    clear hK K'
    try simp only [Act.put, List.setIfInBounds_toArray, List.set_cons_zero, List.set_cons_succ]
    clear hB12 hT10
    repeat' (first
      | (refine wpRel_quiet (v := ?_) rfl rfl (fun _ _ _ h => h) (by rfl) ?_ ?_
         rotate_left
         · (intro w' hR; go_simp; try rfl)
         simp only [Act.put, List.setIfInBounds_toArray, List.set_cons_zero, List.set_cons_succ])
      | fail)
    refine wpRel_loadA arrT12 rfl rfl _ rfl gh (bV (headL boot seq)) (by rfl) (fun w' hR => (hR.block gh hltg).trans hH12) (by rw [bV_size, hhl]) (fun _ _ _ h => h) (by rfl) ?_
    try simp only [Act.put, List.setIfInBounds_toArray, List.set_cons_zero, List.set_cons_succ]
    repeat' (first
      | (refine wpRel_quiet (v := ?_) rfl rfl (fun _ _ _ h => h) (by rfl) ?_ ?_
         rotate_left
         · (intro w' hR; go_simp; try rfl)
         simp only [Act.put, List.setIfInBounds_toArray, List.set_cons_zero, List.set_cons_succ])
      | fail)
    refine wpRel_step rfl rfl (by rfl) (fun K' hK => ?_)
    go_simp
    refine (head_any boot seq w12 hbo hs).mono ?_
    rintro e w13 ⟨rfl, hb13⟩
    refine hK.out _ _ (hb13.mono hle12) ?_
    clear hK K'
    try simp only [Act.put, List.setIfInBounds_toArray, List.set_cons_zero, List.set_cons_succ]
    have hS13 := hS12.later hb13
    have hle13 := Nat.le_trans hle12 hb13.size
    clear hS12 hH12 hb13
    repeat' (first
      | (refine wpRel_quiet (v := ?_) rfl rfl (fun _ _ _ h => h) (by rfl) ?_ ?_
         rotate_left
         · (intro w' hR; go_simp; try rfl)
         simp only [Act.put, List.setIfInBounds_toArray, List.set_cons_zero, List.set_cons_succ])
      | fail)
    refine wpRel_step rfl rfl (by rfl) (fun K' hK => ?_)
    go_simp
    refine (awake_any w13 hS13.gl).mono ?_
    rintro e w14 ⟨rfl, hb14⟩
    refine hK.out _ _ (hb14.mono hle13) ?_
    clear hK K'
    try simp only [Act.put, List.setIfInBounds_toArray, List.set_cons_zero, List.set_cons_succ]
    have hS14 := hS13.later hb14
    clear hS13 hb14
    repeat' (first
      | (refine wpRel_quiet (v := ?_) rfl rfl (fun _ _ _ h => h) (by rfl) ?_ ?_
         rotate_left
         · (intro w' hR; go_simp; try rfl)
         simp only [Act.put, List.setIfInBounds_toArray, List.set_cons_zero, List.set_cons_succ])
      | fail)
    refine wpRel_nil ?_
    go_wp2_with fail
    go_ret
    exact ⟨rfl, hS14.bel⟩
#print axioms sealBack_walk
end Go.Proofs.YthhaeiafgloacaaDoor
