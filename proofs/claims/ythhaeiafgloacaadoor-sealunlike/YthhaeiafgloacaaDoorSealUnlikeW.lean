/- The law SealUnlike answers true for every key, numbers, text, place and byte, wherever quar.rounds reads as its text says; nothing that was there is turned. -/
import Derived.Test.YthhaeiafgloacaaDoorSAwake
import Derived.Test.YthhaeiafgloacaaDoorSRef
namespace Go.Proofs.YthhaeiafgloacaaDoor
open Go.RowKit

theorem snoc_ne (zs : List Int) (x : Int) : zs ≠ zs ++ [x] := fun h => by
  have := congrArg List.length h
  simp at this
theorem xr_nought (a : Int) (h : 0 ≤ a ∧ a < 256) : xr a 0 = a := by
  unfold xr
  simp
  omega
theorem set_same (l : List Int) (j : Nat) (h : j < l.length) : l.set j (l.getD j 0) = l := by
  apply List.ext_getElem (by simp)
  intro k h1 h2
  by_cases e : j = k
  · subst e; simp [List.getD, h]
  · simp [e]
theorem bytes_one : IsBytes [1] := bytes_lit rfl

set_option maxRecDepth 100000 in
set_option maxHeartbeats 4000000 in
theorem sealUnlike_walk (key : List Int) (boot seq other at_ by_ : Int) (a : Option Addr) (len cap : Nat) (zs : List Int) (w : World) (hk : IsBytes key) (hkl : key.length = 32) (hbo : 0 ≤ boot ∧ boot < 4294967296) (hs : 0 ≤ seq ∧ seq < 18446744073709551616) (ho : 0 ≤ other ∧ other < 18446744073709551616) (hb : Bs w a len cap zs) (hby : 0 ≤ by_ ∧ by_ < 256) (hg : Glob w) :
    Calls Tryd.prog 3 #[.agg (bV key), .int .u32 boot, .int .u64 seq, .int .u64 other, .slice a len cap, .int .i64 at_, .int .u8 by_] w fun e w' => e = .returned (.bool true) ∧ Below w.heap.size w w' := by
  have hz := hb.length
  have hS := KK.start w key hg
  have hcl := hb.le_cap
  have hcc := hb.cap_le
  by_cases hlen : (300 : Int) < (len : Int)
  · go_enter Tryd.func3, Tryd.ntmps3
    go_wp2_with fail
    generalize (w.alloc (Obj.cells (bV key) 22)) = W0 at *
    refine (awake_any W0 hS.gl).mono ?_
    rintro e w1 ⟨rfl, hb1⟩
    have hS1 := hS.later hb1
    go_wp2_with fail
    go_ret
    exact ⟨rfl, hS1.bel⟩
  obtain ⟨m, hm⟩ : ∃ m, m = len + 8 := ⟨_, rfl⟩
  have hm1 : m ≤ 400 := by omega
  have hlm : len + 1 ≤ m := by omega
  have hw3 : IntKind.i64.wrap ((len : Int) + 30) = (m : Int) + 22 := by rw [IntKind.wrap_i64]; omega
  obtain ⟨i, hi0⟩ : ∃ i : Int, at_ % 2 ^ 16 = i := ⟨_, rfl⟩
  have hi1 : 0 ≤ i ∧ i < 65536 := by omega
  have hi := i64_mask at_ 16 (by decide) 65535 (by decide)
  rw [hi0] at hi
  obtain ⟨j, hj0⟩ : ∃ j : Nat, i % ((m : Int) + 22) = (j : Int) := ⟨(i % ((m : Int) + 22)).toNat, by have := Int.emod_nonneg i (show ((m : Int) + 22) ≠ 0 by omega); omega⟩
  have hj1 : j < m + 22 := by have := Int.emod_lt_of_pos i (show (0 : Int) < (m : Int) + 22 by omega); omega
  clear hm hi0
  have hb0 := hb.below hS.bel
  have kk := hS.kk
  go_enter Tryd.func3, Tryd.ntmps3
  go_wp2_with (refine wpList_loadA arrT32 (by rfl) _ (by rfl) w.heap.size (by rfl) (bV key) kk (by rw [bV_size, hkl]) ?_)
  generalize (w.alloc (Obj.cells (bV key) 22)) = W0 at *
  refine (seal_ok key boot seq ((m : Int) + 22) m W0 hk hkl hbo hs hb0 rfl (by omega) (by omega) hS.gl).mono ?_
  rintro e w1 ⟨g1, c1, rfl, hO1, hb1⟩
  have hS1 := hS.later hb1
  have hb1' := hb0.below hb1
  have hA1 := hO1.bs
  have kk1 := hS1.kk
  clear hO1 hS hb1 hb0 kk hw3
  go_wp2_with (refine wpList_loadA arrT32 (by rfl) _ (by rfl) w.heap.size (by rfl) (bV key) kk1 (by rw [bV_size, hkl]) ?_)
  refine (seal_ok key boot other ((m : Int) + 22) m w1 hk hkl hbo ho hb1' rfl (by omega) (by omega) hS1.gl).mono ?_
  rintro e w2 ⟨g2, c2, rfl, hO2, hb2⟩
  have hS2 := hS1.later hb2
  have hb2' := hb1'.below hb2
  have hA2 := hA1.below hb2
  have hB2 := hO2.bs
  clear hO2 hS1 hb1' hA1 hb2 kk1
  go_wp2_with fail
  obtain ⟨B, hB⟩ : ∃ B, w2.heap.size = B := ⟨_, rfl⟩
  refine wp_region_pre (Below B) [0, 1, 2, 4, 8] 10 (by kernel_rfl) (by kernel_rfl) (by kernel_rfl) (Below.refl B) (fun _ _ _ => Below.trans) ?_
  have hd := (Below.refl w2.heap.size w2).drew
  replace hS2 := hS2.drew
  replace hb2' := hb2'.below hd
  replace hA2 := hA2.below hd
  replace hB2 := hB2.below hd
  replace hB : w2.drew.heap.size = B := hB
  clear hd
  generalize w2.drew = W2 at *
  subst hB
  refine wpPre_loadA arrT32 rfl _ rfl w.heap.size (bV key) (by rfl) (fun w' hR => hS2.kk.below hR) (by rw [bV_size, hkl]) (fun _ _ _ h => h) (by rfl) ?_
  try simp only [Act.put, List.setIfInBounds_toArray, List.set_cons_zero, List.set_cons_succ]
  repeat' (first
    | (refine wpPre_quiet (v := ?_) rfl (fun _ _ _ h => h) (by rfl) ?_ ?_
       rotate_left
       · (intro w' hR; go_simp; try rfl)
       simp only [Act.put, List.setIfInBounds_toArray, List.set_cons_zero, List.set_cons_succ])
    | fail)
  refine wpPre_nil ?_
  refine wpR_two 3 6 (by kernel_rfl) ?_ ?_
  · refine wpOp_go rfl (by rfl) (fun K' hK => ?_)
    go_simp
    have hb2x : Below W2.heap.size W2 (W2.alloc (Obj.cells #[] 5)) := Below.alloc (Below.refl _ _) (Nat.le_refl _) _
    refine hK.out _ _ hb2x ?_
    clear hK K'
    try simp only [Act.put, List.setIfInBounds_toArray, List.set_cons_zero, List.set_cons_succ]
    have hown : OwnS 5 W2.heap.size (W2.alloc (Obj.cells #[] 5)) (some ⟨W2.heap.size, 0, none⟩) 0 0 [] := OwnB.owns (E := 5) (heap_alloc_new W2 (Obj.cells #[] 5)) IsBytes.nil rfl (by omega) (Nat.le_refl _)
    have hz3 := hb2'.below hb2x
    have hle := hb2x.size
    have hlt3 : W2.heap.size < (W2.alloc (Obj.cells #[] 5)).heap.size := by rw [size_alloc]; omega
    generalize (W2.alloc (Obj.cells #[] 5)) = W3 at *
    refine wpR_two 5 6 (by kernel_rfl) ?_ ?_
    · obtain ⟨a5, c5, w5, hr5, ho5, hb5⟩ := run_append_more W2.heap.size W3 W3 (some ⟨W2.heap.size, 0, none⟩) 0 0 [] hown (Below.refl _ _) hle a len cap _ hz3 (by omega)
      simp only [Nat.zero_add, List.nil_append] at hr5 ho5
      refine wpOp_go rfl (by rfl) (fun K' hK => ?_)
      refine wp_append_run (.tmp 60) (.tmp 61) 25 (by rfl) _ _ _ (by rfl) (by rfl) hr5 ?_
      refine hK.out _ _ hb5 ?_
      clear hK K'
      try simp only [Act.put, List.setIfInBounds_toArray, List.set_cons_zero, List.set_cons_succ]
      refine wpR_ord [6, 7, 9, 10, 11, 12, 13, 14] (by kernel_rfl) (by kernel_rfl) (Below.refl _) (fun _ _ _ => Below.trans) ?_
      refine wpRel_step rfl rfl (by rfl) (fun K' hK => ?_)
      go_simp
      have hb6 : Below W2.heap.size w5 (w5.alloc (Obj.cells #[Value.int IntKind.u8 1] 5)) := Below.alloc (Below.refl _ _) (Nat.le_trans hle hb5.size) _
      refine hK.out _ _ hb6 ?_
      clear hK K'
      try simp only [Act.put, List.setIfInBounds_toArray, List.set_cons_zero, List.set_cons_succ]
      have hbx := hb5.trans hb6
      have hLx : Bs (w5.alloc (Obj.cells #[Value.int IntKind.u8 1] 5)) (some ⟨w5.heap.size, 0, none⟩) 1 1 [1] := Bs.lit rfl rfl (bytes_lit rfl) rfl (by omega)
      have hox := ho5.alloc (Obj.cells #[Value.int IntKind.u8 1] 5)
      clear hown hr5 ho5 hb5 hb6 hz3
      generalize (w5.alloc (Obj.cells #[Value.int IntKind.u8 1] 5)) = wx at *
      generalize w5.heap.size = gl at *
      obtain ⟨base, hbs0⟩ : ∃ base, W2.heap.size = base := ⟨_, rfl⟩
      have hbs1 : W2.heap.size ≤ base := Nat.le_of_eq hbs0
      have hbs2 : base ≤ wx.heap.size := by rw [← hbs0]; exact Nat.le_trans hle hbx.size
      replace hox : OwnS 5 base wx a5 len c5 zs := by rw [← hbs0]; exact hox
      clear hbs0
      have hle5 := Nat.le_trans hle hbx.size
      obtain ⟨a7, c7, w7, hr7, ho7, hb7⟩ := run_append_more base wx wx a5 len c5 _ hox (Below.refl _ _) hbs2 _ 1 1 _ hLx (by omega)
      refine wpRel_step rfl rfl (by rfl) (fun K' hK => ?_)
      refine wp_append_run (.tmp 62) (.tmp 63) 25 (by rfl) _ _ _ (by rfl) (by rfl) hr7 ?_
      refine hK.out _ _ (hb7.mono hbs1) ?_
      clear hK K'
      try simp only [Act.put, List.setIfInBounds_toArray, List.set_cons_zero, List.set_cons_succ]
      have hbW := hb2x.trans (hbx.trans (hb7.mono hbs1))
      have hS7 := hS2.later hbW
      have hA7 := hA2.below hbW
      have hB7 := hB2.below hbW
      have hC7 := ho7.bs
      have hle7 := hbW.size
      clear hr7 ho7 hb7 hbW hbx hb2x hox hLx hle5 hle hS2 hA2 hB2 hb2' hbs1 hbs2
      refine wpRel_step rfl rfl (by rfl) (fun K' hK => ?_)
      go_simp
      refine (seal_ok key boot seq ((m : Int) + 22) m w7 hk hkl hbo hs hC7 rfl hlm (by omega) hS7.gl).mono ?_
      rintro e w8 ⟨g8, c8, rfl, hO8, hb8⟩
      refine hK.out _ _ (hb8.mono hle7) ?_
      clear hK K'
      try simp only [Act.put, List.setIfInBounds_toArray, List.set_cons_zero, List.set_cons_succ]
      have hS8 := hS7.later hb8
      have hA8 := hA7.below hb8
      have hB8 := hB7.below hb8
      have hC8 := hO8.bs
      clear hS7 hA7 hB7 hC7 hle7 hb8 hO8
      repeat' (first
        | (refine wpRel_quiet (v := ?_) rfl rfl (fun _ _ _ h => h) (by rfl) ?_ ?_
           rotate_left
           · (intro w' hR; go_simp; try rfl)
           simp only [Act.put, List.setIfInBounds_toArray, List.set_cons_zero, List.set_cons_succ])
        | fail)
      refine wpRel_nil ?_
      go_wp2_with fail
      have hzb := hb.bytes
      have hz1 : (zs ++ [1]).length = len + 1 := by simp [hz]
      have hcb : IsBytes (zs ++ [1]) := hzb.append bytes_one
      have e1 : ((strOfNums (sealL key boot seq zs m)).toList == (strOfNums (sealL key boot other zs m)).toList) = (seq == other) := by
        rw [str_eq (sealL_bytes _ _ _ _ _ hzb) (sealL_bytes _ _ _ _ _ hzb)]
        by_cases hq : seq = other
        · subst hq; simp
        · rw [beq_eq_false_iff_ne.2 hq, decide_eq_false (fun h => hq (sealL_seq key boot seq other zs m hs ho h))]
      have e2 : ((strOfNums (sealL key boot seq zs m)).toList == (strOfNums (sealL key boot seq (zs ++ [1]) m)).toList) = false := by
        rw [str_eq (sealL_bytes _ _ _ _ _ hzb) (sealL_bytes _ _ _ _ _ hcb), decide_eq_false]
        exact fun h => snoc_ne zs 1 (sealL_inj key boot seq zs (zs ++ [1]) m hzb hcb (by omega) (by omega) (by omega) h)
      have hA12 := hA8.taken 12 (by omega)
      have hC12 := hC8.taken 12 (by omega)
      rw [sealL_take] at hA12 hC12
      have hcA := hA8.le_cap
      have hcC := hC8.le_cap
      have cA := fun w => cutTo hA8 .i64 12 12 rfl (by omega) w
      have cC := fun w => cutTo hC8 .i64 12 12 rfl (by omega) w
      clear hz1 hzb hcb
      refine wp_region_rel Kept [0, 1, 2, 3, 4, 5, 6, 7, 8, 9, 10, 11, 12, 13, 14, 15, 16, 17, 18, 19, 20, 21, 22, 23, 24, 25, 26, 27, 28, 29, 30, 31, 32, 33, 34, 35, 36, 37, 38, 39, 40, 41, 42, 43, 44, 45, 46, 47, 48] (by kernel_rfl) (by kernel_rfl) (by kernel_rfl) Kept.refl Kept.trans ?_
      have hd := (Below.refl w8.heap.size w8).drew
      replace hS8 := hS8.drew
      replace hA8 := hA8.below hd
      replace hB8 := hB8.below hd
      replace hC8 := hC8.below hd
      replace hA12 := hA12.below hd
      replace hC12 := hC12.below hd
      clear hd
      generalize w8.drew = W8 at *
      generalize sealL key boot other zs m = BL at *
      generalize sealL key boot seq (zs ++ [1]) m = CL at *
      generalize hAL : sealL key boot seq zs m = AL at *
      repeat' (first
        | (refine wpRel_quiet (v := ?_) rfl rfl (fun _ _ _ h => h) (by rfl) ?_ ?_
           rotate_left
           · (intro w' hR; have s1 := str_bytes (hA8.below hR); have s2 := str_bytes (hB8.below hR); have s3 := str_bytes (hC8.below hR); have s4 := str_bytes (hA12.below hR); have s5 := str_bytes (hC12.below hR); go_simp; try rfl)
           simp only [Act.put, List.setIfInBounds_toArray, List.set_cons_zero, List.set_cons_succ])
        | fail)
      refine wpRel_nil ?_
      clear e1 e2 cA cC hA12 hC12 hB8 hC8
      obtain ⟨a9, c9, w9, hr9, ho9, hb9⟩ := run_append_fresh W8 (some ⟨g1, 0, none⟩) (m + 22) c1 AL hA8 (by omega)
      have hS9 := hS8.later hb9
      obtain ⟨g9, rfl, hbg, hgl⟩ := ho9.form (by omega)
      have hgw : w.heap.size < g9 := Nat.lt_of_lt_of_le hS8.lt hbg
      clear hA8 hb9 hS8
      have f1 := ho9.cell j hj1
      have z1 := ho9.frozen j
      have bz := ho9.1.getD j
      have hO' := fun x hx => ho9.set j x hx
      obtain ⟨Z, HZ⟩ : ∃ Z, Hid (AL.getD j 0 = Z) := ⟨_, rfl⟩
      rw [HZ.out] at f1 bz
      have ex := bits_xr Z by_ bz hby
      have bx := xr_lt Z by_ bz hby
      have hO2 := hO' (xr Z by_) bx
      obtain ⟨X, HX⟩ : ∃ X, Hid (xr Z by_ = X) := ⟨_, rfl⟩
      rw [HX.out] at ex bx hO2
      have hjt : Int.tmod i ((m : Int) + 22) = (j : Int) := by rw [Int.tmod_eq_emod_of_nonneg hi1.1]; exact hj0
      have hm0 : ¬ (m : Int) + 22 = 0 := by omega
      clear hO'
      have kk9 := (OnlyAt.setCell g9 j w9 (.int .u8 X)).own hS9.kk (by omega)
      go_wp2_with (first
        | (at_builtin; refine wpList_append_run (by rfl) (.tmp 118) (.tmp 119) 25 (by rfl) _ _ _ _ (by rfl) (by rfl) hr9 ?_)
        | (refine wpList_loadA arrT32 (by rfl) _ (by rfl) w.heap.size (by rfl) (bV key) kk9 (by rw [bV_size, hkl]) ?_))
      have hS10 := hS9.only (OnlyAt.setCell g9 j w9 (.int .u8 X)) hgw
      have hB10 := hO2.bs
      have hal : AL.length = m + 22 := ho9.2.1
      have hop : openL key (AL.set j X) = none → ¬ by_ = 0 := fun h e => by
        have h1 : X = AL.getD j 0 := by rw [← HX.out, e, xr_nought _ bz, HZ.out]
        rw [h1, set_same AL j (by omega), ← hAL, openL_sealL key boot seq zs m hb.bytes (by omega) (by omega)] at h
        cases h
      clear hr9 ho9 f1 z1 kk9 hO2 hS9 ex
      generalize (w9.setCell ⟨g9, j, none⟩ (Value.int IntKind.u8 X)) = W10 at *
      generalize AL.set j X = XL at *
      refine (open_any key W10 hk hkl hB10 (by omega) hS10.gl).mono ?_
      rintro e w11 ⟨hb11, hc11⟩
      have hS11 := hS10.later hb11
      have hB11 := hB10.below hb11
      have kk11 := hS11.kk
      have hl11 : m + 22 ≤ 90022 := by omega
      clear hS10 hB10 hb11 hjt hj0 hm0 bz bx HZ HX hcA hcC hi1 hi hal
      rcases hc11 with ⟨us, g11, hu, rfl, -, -⟩ | ⟨hu, rfl⟩
      · go_wp2_with (refine wpList_loadA arrT32 (by rfl) _ (by rfl) w.heap.size (by rfl) (bV key) kk11 (by rw [bV_size, hkl]) ?_)
        refine (ropen_any key w11 hk hkl hB11 hl11 hS11.gl).mono ?_
        rintro e w12 ⟨hb12, (⟨us', a12, c12, hu', rfl, -⟩ | ⟨hu', rfl⟩)⟩
        rotate_left
        · rw [hu] at hu'; cases hu'
        have hS12 := hS11.later hb12
        clear hS11 hB11 kk11 hb12 hu hu' hop
        by_cases hb0 : by_ = 0
        · subst hb0
          go_wp2_with fail
          refine (awake_any w12 hS12.gl).mono ?_
          rintro e w13 ⟨rfl, hb13⟩
          have hS13 := hS12.later hb13
          go_wp2_with fail
          go_ret
          exact ⟨rfl, hS13.bel⟩
        · have hbn : (by_ != 0) = true := by simpa using hb0
          go_wp2_with fail
          refine (awake_any w12 hS12.gl).mono ?_
          rintro e w13 ⟨rfl, hb13⟩
          have hS13 := hS12.later hb13
          go_wp2_with fail
          go_ret
          exact ⟨rfl, hS13.bel⟩
      · have hb0 := hop hu
        have hbn : (by_ != 0) = true := by simpa using hb0
        unfold noneV
        go_wp2_with (refine wpList_loadA arrT32 (by rfl) _ (by rfl) w.heap.size (by rfl) (bV key) kk11 (by rw [bV_size, hkl]) ?_)
        refine (ropen_any key w11 hk hkl hB11 hl11 hS11.gl).mono ?_
        rintro e w12 ⟨hb12, (⟨us', a12, c12, hu', rfl, -⟩ | ⟨hu', rfl⟩)⟩
        · rw [hu] at hu'; cases hu'
        have hS12 := hS11.later hb12
        clear hS11 hB11 kk11 hb12 hu hu' hop
        unfold noneV
        go_wp2_with fail
        refine (awake_any w12 hS12.gl).mono ?_
        rintro e w13 ⟨rfl, hb13⟩
        have hS13 := hS12.later hb13
        go_wp2_with fail
        go_ret
        exact ⟨rfl, hS13.bel⟩
    · refine wpOp_go rfl (by rfl) (fun K' hK => ?_)
      go_simp
      have hb4 : Below W2.heap.size W3 (W3.alloc (Obj.cells #[Value.int IntKind.u8 1] 5)) := Below.alloc (Below.refl _ _) hle _
      refine hK.out _ _ hb4 ?_
      clear hK K'
      try simp only [Act.put, List.setIfInBounds_toArray, List.set_cons_zero, List.set_cons_succ]
      have hO4 : (W3.alloc (Obj.cells #[Value.int IntKind.u8 1] 5)).heap[W3.heap.size]? = some (Obj.cells #[Value.int IntKind.u8 1] 5) := heap_alloc_new _ _
      have hown4 := hown.alloc (Obj.cells #[Value.int IntKind.u8 1] 5)
      have hz4 := hz3.below (below_alloc (Below.refl _ _) (Obj.cells #[Value.int IntKind.u8 1] 5))
      have hle4 := Nat.le_trans hle hb4.size
      have hlt4 : W3.heap.size < (W3.alloc (Obj.cells #[Value.int IntKind.u8 1] 5)).heap.size := by rw [size_alloc]; omega
      clear hown hz3
      generalize (W3.alloc (Obj.cells #[Value.int IntKind.u8 1] 5)) = W4 at *
      obtain ⟨a5, c5, wx, hr5, hox, hg5, -⟩ := run_append_bytes (P := Tryd.prog) Tryd.underlying25 Tryd.info_u8 25 W2.heap.size W4 (some ⟨W2.heap.size, 0, none⟩) 0 0 [] hown4 a len cap _ hz4 (by omega) hle4
      have hb5 := (Below.refl W2.heap.size W4).grown hg5 hle4 (fun k hk => (hown4.2.2.lt k hk).1)
      simp only [Nat.zero_add, List.nil_append] at hr5 hox
      refine wpR_ord [5, 7, 9, 10, 11, 12, 13, 14] (by kernel_rfl) (by kernel_rfl) (Below.refl _) (fun _ _ _ => Below.trans) ?_
      refine wpRel_step rfl rfl (by rfl) (fun K' hK => ?_)
      refine wp_append_run (.tmp 60) (.tmp 61) 25 (by rfl) _ _ _ (by rfl) (by rfl) hr5 ?_
      refine hK.out _ _ hb5 ?_
      clear hK K'
      try simp only [Act.put, List.setIfInBounds_toArray, List.set_cons_zero, List.set_cons_succ]
      have hbx := hb4.trans hb5
      have hLx : Bs wx (some ⟨W3.heap.size, 0, none⟩) 1 1 [1] := (show OwnB 5 wx W3.heap.size [1] from (hg5.block W3.heap.size hlt4 (by simp [Value.ownBlock]; omega)).trans hO4).bs bytes_one 1 rfl (by omega)
      clear hr5 hb5 hb4 hz4 hown4 hg5 hO4 hlt4 hle4
      obtain ⟨base, hbs0⟩ : ∃ base, W2.heap.size = base := ⟨_, rfl⟩
      have hbs1 : W2.heap.size ≤ base := Nat.le_of_eq hbs0
      have hbs2 : base ≤ wx.heap.size := by rw [← hbs0]; exact Nat.le_trans hle hbx.size
      replace hox : OwnS 5 base wx a5 len c5 zs := by rw [← hbs0]; exact hox
      clear hbs0
      have hle5 := Nat.le_trans hle hbx.size
      obtain ⟨a7, c7, w7, hr7, ho7, hb7⟩ := run_append_more base wx wx a5 len c5 _ hox (Below.refl _ _) hbs2 _ 1 1 _ hLx (by omega)
      refine wpRel_step rfl rfl (by rfl) (fun K' hK => ?_)
      refine wp_append_run (.tmp 62) (.tmp 63) 25 (by rfl) _ _ _ (by rfl) (by rfl) hr7 ?_
      refine hK.out _ _ (hb7.mono hbs1) ?_
      clear hK K'
      try simp only [Act.put, List.setIfInBounds_toArray, List.set_cons_zero, List.set_cons_succ]
      have hbW := hb2x.trans (hbx.trans (hb7.mono hbs1))
      have hS7 := hS2.later hbW
      have hA7 := hA2.below hbW
      have hB7 := hB2.below hbW
      have hC7 := ho7.bs
      have hle7 := hbW.size
      clear hr7 ho7 hb7 hbW hbx hb2x hox hLx hle5 hle hS2 hA2 hB2 hb2' hbs1 hbs2
      refine wpRel_step rfl rfl (by rfl) (fun K' hK => ?_)
      go_simp
      refine (seal_ok key boot seq ((m : Int) + 22) m w7 hk hkl hbo hs hC7 rfl hlm (by omega) hS7.gl).mono ?_
      rintro e w8 ⟨g8, c8, rfl, hO8, hb8⟩
      refine hK.out _ _ (hb8.mono hle7) ?_
      clear hK K'
      try simp only [Act.put, List.setIfInBounds_toArray, List.set_cons_zero, List.set_cons_succ]
      have hS8 := hS7.later hb8
      have hA8 := hA7.below hb8
      have hB8 := hB7.below hb8
      have hC8 := hO8.bs
      clear hS7 hA7 hB7 hC7 hle7 hb8 hO8
      repeat' (first
        | (refine wpRel_quiet (v := ?_) rfl rfl (fun _ _ _ h => h) (by rfl) ?_ ?_
           rotate_left
           · (intro w' hR; go_simp; try rfl)
           simp only [Act.put, List.setIfInBounds_toArray, List.set_cons_zero, List.set_cons_succ])
        | fail)
      refine wpRel_nil ?_
      go_wp2_with fail
      have hzb := hb.bytes
      have hz1 : (zs ++ [1]).length = len + 1 := by simp [hz]
      have hcb : IsBytes (zs ++ [1]) := hzb.append bytes_one
      have e1 : ((strOfNums (sealL key boot seq zs m)).toList == (strOfNums (sealL key boot other zs m)).toList) = (seq == other) := by
        rw [str_eq (sealL_bytes _ _ _ _ _ hzb) (sealL_bytes _ _ _ _ _ hzb)]
        by_cases hq : seq = other
        · subst hq; simp
        · rw [beq_eq_false_iff_ne.2 hq, decide_eq_false (fun h => hq (sealL_seq key boot seq other zs m hs ho h))]
      have e2 : ((strOfNums (sealL key boot seq zs m)).toList == (strOfNums (sealL key boot seq (zs ++ [1]) m)).toList) = false := by
        rw [str_eq (sealL_bytes _ _ _ _ _ hzb) (sealL_bytes _ _ _ _ _ hcb), decide_eq_false]
        exact fun h => snoc_ne zs 1 (sealL_inj key boot seq zs (zs ++ [1]) m hzb hcb (by omega) (by omega) (by omega) h)
      have hA12 := hA8.taken 12 (by omega)
      have hC12 := hC8.taken 12 (by omega)
      rw [sealL_take] at hA12 hC12
      have hcA := hA8.le_cap
      have hcC := hC8.le_cap
      have cA := fun w => cutTo hA8 .i64 12 12 rfl (by omega) w
      have cC := fun w => cutTo hC8 .i64 12 12 rfl (by omega) w
      clear hz1 hzb hcb
      refine wp_region_rel Kept [0, 1, 2, 3, 4, 5, 6, 7, 8, 9, 10, 11, 12, 13, 14, 15, 16, 17, 18, 19, 20, 21, 22, 23, 24, 25, 26, 27, 28, 29, 30, 31, 32, 33, 34, 35, 36, 37, 38, 39, 40, 41, 42, 43, 44, 45, 46, 47, 48] (by kernel_rfl) (by kernel_rfl) (by kernel_rfl) Kept.refl Kept.trans ?_
      have hd := (Below.refl w8.heap.size w8).drew
      replace hS8 := hS8.drew
      replace hA8 := hA8.below hd
      replace hB8 := hB8.below hd
      replace hC8 := hC8.below hd
      replace hA12 := hA12.below hd
      replace hC12 := hC12.below hd
      clear hd
      generalize w8.drew = W8 at *
      generalize sealL key boot other zs m = BL at *
      generalize sealL key boot seq (zs ++ [1]) m = CL at *
      generalize hAL : sealL key boot seq zs m = AL at *
      repeat' (first
        | (refine wpRel_quiet (v := ?_) rfl rfl (fun _ _ _ h => h) (by rfl) ?_ ?_
           rotate_left
           · (intro w' hR; have s1 := str_bytes (hA8.below hR); have s2 := str_bytes (hB8.below hR); have s3 := str_bytes (hC8.below hR); have s4 := str_bytes (hA12.below hR); have s5 := str_bytes (hC12.below hR); go_simp; try rfl)
           simp only [Act.put, List.setIfInBounds_toArray, List.set_cons_zero, List.set_cons_succ])
        | fail)
      refine wpRel_nil ?_
      clear e1 e2 cA cC hA12 hC12 hB8 hC8
      obtain ⟨a9, c9, w9, hr9, ho9, hb9⟩ := run_append_fresh W8 (some ⟨g1, 0, none⟩) (m + 22) c1 AL hA8 (by omega)
      have hS9 := hS8.later hb9
      obtain ⟨g9, rfl, hbg, hgl⟩ := ho9.form (by omega)
      have hgw : w.heap.size < g9 := Nat.lt_of_lt_of_le hS8.lt hbg
      clear hA8 hb9 hS8
      have f1 := ho9.cell j hj1
      have z1 := ho9.frozen j
      have bz := ho9.1.getD j
      have hO' := fun x hx => ho9.set j x hx
      obtain ⟨Z, HZ⟩ : ∃ Z, Hid (AL.getD j 0 = Z) := ⟨_, rfl⟩
      rw [HZ.out] at f1 bz
      have ex := bits_xr Z by_ bz hby
      have bx := xr_lt Z by_ bz hby
      have hO2 := hO' (xr Z by_) bx
      obtain ⟨X, HX⟩ : ∃ X, Hid (xr Z by_ = X) := ⟨_, rfl⟩
      rw [HX.out] at ex bx hO2
      have hjt : Int.tmod i ((m : Int) + 22) = (j : Int) := by rw [Int.tmod_eq_emod_of_nonneg hi1.1]; exact hj0
      have hm0 : ¬ (m : Int) + 22 = 0 := by omega
      clear hO'
      have kk9 := (OnlyAt.setCell g9 j w9 (.int .u8 X)).own hS9.kk (by omega)
      go_wp2_with (first
        | (at_builtin; refine wpList_append_run (by rfl) (.tmp 118) (.tmp 119) 25 (by rfl) _ _ _ _ (by rfl) (by rfl) hr9 ?_)
        | (refine wpList_loadA arrT32 (by rfl) _ (by rfl) w.heap.size (by rfl) (bV key) kk9 (by rw [bV_size, hkl]) ?_))
      have hS10 := hS9.only (OnlyAt.setCell g9 j w9 (.int .u8 X)) hgw
      have hB10 := hO2.bs
      have hal : AL.length = m + 22 := ho9.2.1
      have hop : openL key (AL.set j X) = none → ¬ by_ = 0 := fun h e => by
        have h1 : X = AL.getD j 0 := by rw [← HX.out, e, xr_nought _ bz, HZ.out]
        rw [h1, set_same AL j (by omega), ← hAL, openL_sealL key boot seq zs m hb.bytes (by omega) (by omega)] at h
        cases h
      clear hr9 ho9 f1 z1 kk9 hO2 hS9 ex
      generalize (w9.setCell ⟨g9, j, none⟩ (Value.int IntKind.u8 X)) = W10 at *
      generalize AL.set j X = XL at *
      refine (open_any key W10 hk hkl hB10 (by omega) hS10.gl).mono ?_
      rintro e w11 ⟨hb11, hc11⟩
      have hS11 := hS10.later hb11
      have hB11 := hB10.below hb11
      have kk11 := hS11.kk
      have hl11 : m + 22 ≤ 90022 := by omega
      clear hS10 hB10 hb11 hjt hj0 hm0 bz bx HZ HX hcA hcC hi1 hi hal
      rcases hc11 with ⟨us, g11, hu, rfl, -, -⟩ | ⟨hu, rfl⟩
      · go_wp2_with (refine wpList_loadA arrT32 (by rfl) _ (by rfl) w.heap.size (by rfl) (bV key) kk11 (by rw [bV_size, hkl]) ?_)
        refine (ropen_any key w11 hk hkl hB11 hl11 hS11.gl).mono ?_
        rintro e w12 ⟨hb12, (⟨us', a12, c12, hu', rfl, -⟩ | ⟨hu', rfl⟩)⟩
        rotate_left
        · rw [hu] at hu'; cases hu'
        have hS12 := hS11.later hb12
        clear hS11 hB11 kk11 hb12 hu hu' hop
        by_cases hb0 : by_ = 0
        · subst hb0
          go_wp2_with fail
          refine (awake_any w12 hS12.gl).mono ?_
          rintro e w13 ⟨rfl, hb13⟩
          have hS13 := hS12.later hb13
          go_wp2_with fail
          go_ret
          exact ⟨rfl, hS13.bel⟩
        · have hbn : (by_ != 0) = true := by simpa using hb0
          go_wp2_with fail
          refine (awake_any w12 hS12.gl).mono ?_
          rintro e w13 ⟨rfl, hb13⟩
          have hS13 := hS12.later hb13
          go_wp2_with fail
          go_ret
          exact ⟨rfl, hS13.bel⟩
      · have hb0 := hop hu
        have hbn : (by_ != 0) = true := by simpa using hb0
        unfold noneV
        go_wp2_with (refine wpList_loadA arrT32 (by rfl) _ (by rfl) w.heap.size (by rfl) (bV key) kk11 (by rw [bV_size, hkl]) ?_)
        refine (ropen_any key w11 hk hkl hB11 hl11 hS11.gl).mono ?_
        rintro e w12 ⟨hb12, (⟨us', a12, c12, hu', rfl, -⟩ | ⟨hu', rfl⟩)⟩
        · rw [hu] at hu'; cases hu'
        have hS12 := hS11.later hb12
        clear hS11 hB11 kk11 hb12 hu hu' hop
        unfold noneV
        go_wp2_with fail
        refine (awake_any w12 hS12.gl).mono ?_
        rintro e w13 ⟨rfl, hb13⟩
        have hS13 := hS12.later hb13
        go_wp2_with fail
        go_ret
        exact ⟨rfl, hS13.bel⟩
  · refine wpOp_go rfl (by rfl) (fun K' hK => ?_)
    go_simp
    have hb3 : Below W2.heap.size W2 (W2.alloc (Obj.cells #[Value.int IntKind.u8 1] 5)) := Below.alloc (Below.refl _ _) (Nat.le_refl _) _
    refine hK.out _ _ hb3 ?_
    clear hK K'
    try simp only [Act.put, List.setIfInBounds_toArray, List.set_cons_zero, List.set_cons_succ]
    have hL3 : Bs (W2.alloc (Obj.cells #[Value.int IntKind.u8 1] 5)) (some ⟨W2.heap.size, 0, none⟩) 1 1 [1] := Bs.lit rfl rfl (bytes_lit rfl) rfl (by omega)
    have hz3 := hb2'.below hb3
    have hs3 : W2.heap.size < (W2.alloc (Obj.cells #[Value.int IntKind.u8 1] 5)).heap.size := by rw [size_alloc]; omega
    generalize (W2.alloc (Obj.cells #[Value.int IntKind.u8 1] 5)) = W3 at *
    refine wpR_ord [3, 5, 7, 9, 10, 11, 12, 13, 14] (by kernel_rfl) (by kernel_rfl) (Below.refl _) (fun _ _ _ => Below.trans) ?_
    refine wpRel_step rfl rfl (by rfl) (fun K' hK => ?_)
    go_simp
    have hb4 : Below W3.heap.size W3 (W3.alloc (Obj.cells #[] 5)) := Below.alloc (Below.refl _ _) (Nat.le_refl _) _
    have hle3 := hb3.size
    refine hK.out _ _ (hb4.mono hle3) ?_
    clear hK K'
    try simp only [Act.put, List.setIfInBounds_toArray, List.set_cons_zero, List.set_cons_succ]
    have hown4 : OwnS 5 W3.heap.size (W3.alloc (Obj.cells #[] 5)) (some ⟨W3.heap.size, 0, none⟩) 0 0 [] := OwnB.owns (E := 5) (heap_alloc_new W3 (Obj.cells #[] 5)) IsBytes.nil rfl (by omega) (Nat.le_refl _)
    have hz4 := hz3.below hb4
    have hL4 := hL3.below hb4
    generalize (W3.alloc (Obj.cells #[] 5)) = W4 at *
    obtain ⟨a5, c5, wx, hr5, hox, hb5⟩ := run_append_more W3.heap.size W4 W4 (some ⟨W3.heap.size, 0, none⟩) 0 0 [] hown4 (Below.refl _ _) hb4.size a len cap _ hz4 (by omega)
    simp only [Nat.zero_add, List.nil_append] at hr5 hox
    refine wpRel_step rfl rfl (by rfl) (fun K' hK => ?_)
    refine wp_append_run (.tmp 60) (.tmp 61) 25 (by rfl) _ _ _ (by rfl) (by rfl) hr5 ?_
    refine hK.out _ _ (hb5.mono hle3) ?_
    clear hK K'
    try simp only [Act.put, List.setIfInBounds_toArray, List.set_cons_zero, List.set_cons_succ]
    have hb45 := hb4.trans hb5
    have hLx := hL3.below hb45
    have hb2x : Below W2.heap.size W2 W3 := hb3
    have hbx : Below W2.heap.size W3 wx := hb45.mono hle3
    have hle := hle3
    obtain ⟨base, hbs0⟩ : ∃ base, W3.heap.size = base := ⟨_, rfl⟩
    have hbs1 : W2.heap.size ≤ base := by omega
    have hbs2 : base ≤ wx.heap.size := by rw [← hbs0]; exact hb45.size
    rw [hbs0] at hox
    clear hb3 hL3 hz3 hs3 hb4 hle3 hown4 hz4 hL4 hr5 hb5 hb45 hbs0
    have hle5 := Nat.le_trans hle hbx.size
    obtain ⟨a7, c7, w7, hr7, ho7, hb7⟩ := run_append_more base wx wx a5 len c5 _ hox (Below.refl _ _) hbs2 _ 1 1 _ hLx (by omega)
    refine wpRel_step rfl rfl (by rfl) (fun K' hK => ?_)
    refine wp_append_run (.tmp 62) (.tmp 63) 25 (by rfl) _ _ _ (by rfl) (by rfl) hr7 ?_
    refine hK.out _ _ (hb7.mono hbs1) ?_
    clear hK K'
    try simp only [Act.put, List.setIfInBounds_toArray, List.set_cons_zero, List.set_cons_succ]
    have hbW := hb2x.trans (hbx.trans (hb7.mono hbs1))
    have hS7 := hS2.later hbW
    have hA7 := hA2.below hbW
    have hB7 := hB2.below hbW
    have hC7 := ho7.bs
    have hle7 := hbW.size
    clear hr7 ho7 hb7 hbW hbx hb2x hox hLx hle5 hle hS2 hA2 hB2 hb2' hbs1 hbs2
    refine wpRel_step rfl rfl (by rfl) (fun K' hK => ?_)
    go_simp
    refine (seal_ok key boot seq ((m : Int) + 22) m w7 hk hkl hbo hs hC7 rfl hlm (by omega) hS7.gl).mono ?_
    rintro e w8 ⟨g8, c8, rfl, hO8, hb8⟩
    refine hK.out _ _ (hb8.mono hle7) ?_
    clear hK K'
    try simp only [Act.put, List.setIfInBounds_toArray, List.set_cons_zero, List.set_cons_succ]
    have hS8 := hS7.later hb8
    have hA8 := hA7.below hb8
    have hB8 := hB7.below hb8
    have hC8 := hO8.bs
    clear hS7 hA7 hB7 hC7 hle7 hb8 hO8
    repeat' (first
      | (refine wpRel_quiet (v := ?_) rfl rfl (fun _ _ _ h => h) (by rfl) ?_ ?_
         rotate_left
         · (intro w' hR; go_simp; try rfl)
         simp only [Act.put, List.setIfInBounds_toArray, List.set_cons_zero, List.set_cons_succ])
      | fail)
    refine wpRel_nil ?_
    go_wp2_with fail
    have hzb := hb.bytes
    have hz1 : (zs ++ [1]).length = len + 1 := by simp [hz]
    have hcb : IsBytes (zs ++ [1]) := hzb.append bytes_one
    have e1 : ((strOfNums (sealL key boot seq zs m)).toList == (strOfNums (sealL key boot other zs m)).toList) = (seq == other) := by
      rw [str_eq (sealL_bytes _ _ _ _ _ hzb) (sealL_bytes _ _ _ _ _ hzb)]
      by_cases hq : seq = other
      · subst hq; simp
      · rw [beq_eq_false_iff_ne.2 hq, decide_eq_false (fun h => hq (sealL_seq key boot seq other zs m hs ho h))]
    have e2 : ((strOfNums (sealL key boot seq zs m)).toList == (strOfNums (sealL key boot seq (zs ++ [1]) m)).toList) = false := by
      rw [str_eq (sealL_bytes _ _ _ _ _ hzb) (sealL_bytes _ _ _ _ _ hcb), decide_eq_false]
      exact fun h => snoc_ne zs 1 (sealL_inj key boot seq zs (zs ++ [1]) m hzb hcb (by omega) (by omega) (by omega) h)
    have hA12 := hA8.taken 12 (by omega)
    have hC12 := hC8.taken 12 (by omega)
    rw [sealL_take] at hA12 hC12
    have hcA := hA8.le_cap
    have hcC := hC8.le_cap
    have cA := fun w => cutTo hA8 .i64 12 12 rfl (by omega) w
    have cC := fun w => cutTo hC8 .i64 12 12 rfl (by omega) w
    clear hz1 hzb hcb
    refine wp_region_rel Kept [0, 1, 2, 3, 4, 5, 6, 7, 8, 9, 10, 11, 12, 13, 14, 15, 16, 17, 18, 19, 20, 21, 22, 23, 24, 25, 26, 27, 28, 29, 30, 31, 32, 33, 34, 35, 36, 37, 38, 39, 40, 41, 42, 43, 44, 45, 46, 47, 48] (by kernel_rfl) (by kernel_rfl) (by kernel_rfl) Kept.refl Kept.trans ?_
    have hd := (Below.refl w8.heap.size w8).drew
    replace hS8 := hS8.drew
    replace hA8 := hA8.below hd
    replace hB8 := hB8.below hd
    replace hC8 := hC8.below hd
    replace hA12 := hA12.below hd
    replace hC12 := hC12.below hd
    clear hd
    generalize w8.drew = W8 at *
    generalize sealL key boot other zs m = BL at *
    generalize sealL key boot seq (zs ++ [1]) m = CL at *
    generalize hAL : sealL key boot seq zs m = AL at *
    repeat' (first
      | (refine wpRel_quiet (v := ?_) rfl rfl (fun _ _ _ h => h) (by rfl) ?_ ?_
         rotate_left
         · (intro w' hR; have s1 := str_bytes (hA8.below hR); have s2 := str_bytes (hB8.below hR); have s3 := str_bytes (hC8.below hR); have s4 := str_bytes (hA12.below hR); have s5 := str_bytes (hC12.below hR); go_simp; try rfl)
         simp only [Act.put, List.setIfInBounds_toArray, List.set_cons_zero, List.set_cons_succ])
      | fail)
    refine wpRel_nil ?_
    clear e1 e2 cA cC hA12 hC12 hB8 hC8
    obtain ⟨a9, c9, w9, hr9, ho9, hb9⟩ := run_append_fresh W8 (some ⟨g1, 0, none⟩) (m + 22) c1 AL hA8 (by omega)
    have hS9 := hS8.later hb9
    obtain ⟨g9, rfl, hbg, hgl⟩ := ho9.form (by omega)
    have hgw : w.heap.size < g9 := Nat.lt_of_lt_of_le hS8.lt hbg
    clear hA8 hb9 hS8
    have f1 := ho9.cell j hj1
    have z1 := ho9.frozen j
    have bz := ho9.1.getD j
    have hO' := fun x hx => ho9.set j x hx
    obtain ⟨Z, HZ⟩ : ∃ Z, Hid (AL.getD j 0 = Z) := ⟨_, rfl⟩
    rw [HZ.out] at f1 bz
    have ex := bits_xr Z by_ bz hby
    have bx := xr_lt Z by_ bz hby
    have hO2 := hO' (xr Z by_) bx
    obtain ⟨X, HX⟩ : ∃ X, Hid (xr Z by_ = X) := ⟨_, rfl⟩
    rw [HX.out] at ex bx hO2
    have hjt : Int.tmod i ((m : Int) + 22) = (j : Int) := by rw [Int.tmod_eq_emod_of_nonneg hi1.1]; exact hj0
    have hm0 : ¬ (m : Int) + 22 = 0 := by omega
    clear hO'
    have kk9 := (OnlyAt.setCell g9 j w9 (.int .u8 X)).own hS9.kk (by omega)
    go_wp2_with (first
      | (at_builtin; refine wpList_append_run (by rfl) (.tmp 118) (.tmp 119) 25 (by rfl) _ _ _ _ (by rfl) (by rfl) hr9 ?_)
      | (refine wpList_loadA arrT32 (by rfl) _ (by rfl) w.heap.size (by rfl) (bV key) kk9 (by rw [bV_size, hkl]) ?_))
    have hS10 := hS9.only (OnlyAt.setCell g9 j w9 (.int .u8 X)) hgw
    have hB10 := hO2.bs
    have hal : AL.length = m + 22 := ho9.2.1
    have hop : openL key (AL.set j X) = none → ¬ by_ = 0 := fun h e => by
      have h1 : X = AL.getD j 0 := by rw [← HX.out, e, xr_nought _ bz, HZ.out]
      rw [h1, set_same AL j (by omega), ← hAL, openL_sealL key boot seq zs m hb.bytes (by omega) (by omega)] at h
      cases h
    clear hr9 ho9 f1 z1 kk9 hO2 hS9 ex
    generalize (w9.setCell ⟨g9, j, none⟩ (Value.int IntKind.u8 X)) = W10 at *
    generalize AL.set j X = XL at *
    refine (open_any key W10 hk hkl hB10 (by omega) hS10.gl).mono ?_
    rintro e w11 ⟨hb11, hc11⟩
    have hS11 := hS10.later hb11
    have hB11 := hB10.below hb11
    have kk11 := hS11.kk
    have hl11 : m + 22 ≤ 90022 := by omega
    clear hS10 hB10 hb11 hjt hj0 hm0 bz bx HZ HX hcA hcC hi1 hi hal
    rcases hc11 with ⟨us, g11, hu, rfl, -, -⟩ | ⟨hu, rfl⟩
    · go_wp2_with (refine wpList_loadA arrT32 (by rfl) _ (by rfl) w.heap.size (by rfl) (bV key) kk11 (by rw [bV_size, hkl]) ?_)
      refine (ropen_any key w11 hk hkl hB11 hl11 hS11.gl).mono ?_
      rintro e w12 ⟨hb12, (⟨us', a12, c12, hu', rfl, -⟩ | ⟨hu', rfl⟩)⟩
      rotate_left
      · rw [hu] at hu'; cases hu'
      have hS12 := hS11.later hb12
      clear hS11 hB11 kk11 hb12 hu hu' hop
      by_cases hb0 : by_ = 0
      · subst hb0
        go_wp2_with fail
        refine (awake_any w12 hS12.gl).mono ?_
        rintro e w13 ⟨rfl, hb13⟩
        have hS13 := hS12.later hb13
        go_wp2_with fail
        go_ret
        exact ⟨rfl, hS13.bel⟩
      · have hbn : (by_ != 0) = true := by simpa using hb0
        go_wp2_with fail
        refine (awake_any w12 hS12.gl).mono ?_
        rintro e w13 ⟨rfl, hb13⟩
        have hS13 := hS12.later hb13
        go_wp2_with fail
        go_ret
        exact ⟨rfl, hS13.bel⟩
    · have hb0 := hop hu
      have hbn : (by_ != 0) = true := by simpa using hb0
      unfold noneV
      go_wp2_with (refine wpList_loadA arrT32 (by rfl) _ (by rfl) w.heap.size (by rfl) (bV key) kk11 (by rw [bV_size, hkl]) ?_)
      refine (ropen_any key w11 hk hkl hB11 hl11 hS11.gl).mono ?_
      rintro e w12 ⟨hb12, (⟨us', a12, c12, hu', rfl, -⟩ | ⟨hu', rfl⟩)⟩
      · rw [hu] at hu'; cases hu'
      have hS12 := hS11.later hb12
      clear hS11 hB11 kk11 hb12 hu hu' hop
      unfold noneV
      go_wp2_with fail
      refine (awake_any w12 hS12.gl).mono ?_
      rintro e w13 ⟨rfl, hb13⟩
      have hS13 := hS12.later hb13
      go_wp2_with fail
      go_ret
      exact ⟨rfl, hS13.bel⟩
#print axioms sealUnlike_walk
end Go.Proofs.YthhaeiafgloacaaDoor
