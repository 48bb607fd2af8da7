/- The walk of dumbwaiterlaw6.DiskStays: for any rows of writes and any choices it answers true; nothing that was there is turned. -/
import Derived.Test.YtlicafjhkbofbaaDoorKWant
namespace Go.Proofs.YtlicafjhkbofbaaDoor
open Go.RowKit

theorem mod3_cases (z : Int) : z % 3 = 0 ∨ z % 3 = 1 ∨ z % 3 = 2 := by omega
theorem tmod3 (z : Int) : -3 < z.tmod 3 ∧ z.tmod 3 < 3 := by
  have h1 := Int.tmod_eq_emod (a := z) (b := 3)
  rw [h1]
  split <;> omega
theorem mod3t (z : Int) : (z.tmod 3 + 3).tmod 3 = z % 3 := by
  have h := tmod3 z
  rw [Int.tmod_eq_emod_of_nonneg (by omega)]
  exact mod3 z
theorem InnerI.drew {w wr : World} {Z : Own} {g gw gb i j : Nat} {D : DS} {zs B zs' : List Int} (h : InnerI w wr Z g gw gb i j D zs B zs') : InnerI w wr.drew Z g gw gb i j D zs B zs' :=
  ⟨h.cl.drew, h.has, h.bh, h.len, h.by_, h.oth, h.at_⟩
theorem size_4 : (Tryd.prog.info? 44).map (·.size) = some 4 := by kernel_rfl
/-- Four zeros. -/
abbrev z4A : Array Value := #[.int .u8 0, .int .u8 0, .int .u8 0, .int .u8 0]
theorem all4 (a b c d : Int) : (#[.int .u8 a, .int .u8 b, .int .u8 c, .int .u8 d] : Array Value).all (·.oneCell') = true := all_oneCell_toArray (cs := [.int .u8 a, .int .u8 b, .int .u8 c, .int .u8 d]) (fun v hv => by
  simp only [List.mem_cons, List.not_mem_nil, or_false] at hv
  rcases hv with rfl | rfl | rfl | rfl <;> rfl)
/-- What stands in the first loop. -/
structure FirstI (w wr : World) (Z : Own) (g gw k : Nat) (D : DS) (zs : List Int) : Prop where
  cl : Cl w wr Z g D
  has : Has Z wr gw (wantO zs)
  base : w.heap.size ≤ gw
  size : D.size = 4
  n : D.n = 8
  left : D.left = -1
  tr : D.tr.length = k
  wait : D.wait.length = k
  want : Want zs (zOf (flushN D.blk D.wait))

set_option maxRecDepth 100000 in
set_option maxHeartbeats 8000000 in
theorem diskStays_walk {a : Option Addr} {la ca : Nat} {xs : Nat → BV} {b : Option Addr} {lb cb : Nat} {ys : Nat → BV} {c : Option Addr} {lc cc : Nat} {ch : List Int} {p : Addr} (w : World) (ha : BBs w a la ca xs) (hb : BBs w b lb cb ys) (hc : Ns .i64 w c lc cc ch) (hp : Pow p w) :
    Calls Tryd.prog 7 #[.slice a la ca, .slice b lb cb, .slice c lc cc] w fun e w' => e = .returned (.bool true) ∧ Below w.heap.size w w' := by
  have hla := ha.le_cap
  have hca := ha.cap_le
  have hlb := hb.le_cap
  have hcb := hb.cap_le
  have hlc := hc.le_cap
  have hcc := hc.cap_le
  have HA := hide ha
  have HB := hide hb
  have HCh := hide hc
  clear ha hb hc
  go_enter Tryd.func7, Tryd.ntmps7
  go_wp2_with fail
  refine (new_any 8 4 8 4 rfl rfl w).mono ?_
  rintro e W ⟨g, Z, rfl, hD, hF, hB⟩
  have C : Cl w W Z g (DS.new 8 4) := ⟨hD, hF, hB⟩
  have N := C.new (wantO (zL 32))
  have hI0 : FirstI w (W.alloc (wantO (zL 32))) Z g W.heap.size 0 (DS.new 8 4) (zL 32) := ⟨C.alloc _, N, C.size, rfl, rfl, rfl, rfl, rfl, Want.new⟩
  clear C N hD hF hB
  go_wp2_with fail
  have hbase : w.heap.size ≤ W.heap.size := hI0.base
  generalize hgw : W.heap.size = gw at *
  go_loopw [9] (fun s9 wr => ∃ (k : Nat) (Z1 : Own) (D : DS) (zs : List Int), k ≤ la ∧ k ≤ 20 ∧ s9 = .int .i64 (k : Int) ∧ FirstI w wr Z1 g gw k D zs) (fun s9 _ => 20 - (intOf s9).toNat)
  case atStart => exact ⟨0, Z, _, _, Nat.zero_le _, Nat.zero_le _, rfl, hI0⟩
  case round =>
    obtain ⟨k, Z1, D, zs, hk1, hk2, rfl, hI⟩ := hrel
    clear hI0 hgw
    by_cases hlt : k < la ∧ k < 20
    · obtain ⟨hkl, hk20⟩ := hlt
      have hk20' : (k : Int) < 20 := by omega
      obtain ⟨⟨tb, toff, rfl, hcell⟩, hbs⟩ := HA.out.item k hkl
      have htb := World.block_lt_of_cell? w _ hcell
      have cx := (hI.cl.bel.cell htb).trans hcell
      obtain ⟨i, hi⟩ : ∃ i : Nat, k % 8 = i := ⟨_, rfl⟩
      have hi8 : i < 8 := by omega
      have hi8' : (i : Int) < 8 := by omega
      have m1 : bits .and .i64 (k : Int) 7 = (i : Int) := by rw [i64_and7]; omega
      have hw1 : IntKind.i64.wrap ((k : Int) + 1) = ((k + 1 : Nat) : Int) := by rw [IntKind.wrap_i64]; omega
      have HW := hide (hI.cl.write (by rw [hI.left]; decide) (by rw [hI.tr]; omega) (by rw [hI.wait]; omega) i (by rw [hI.n]; exact hi8) (hI.cl.bz hbs) ((xs k).zs.take 4) (by rw [hI.size]))
      have HI := hide hI
      clear hI
      go_wp2_with fail
      refine HW.out.mono ?_
      rintro e W1 ⟨Z2, x, rfl, hx, C1, s1⟩
      have G1 := HI.out.has.step s1
      have hz := HI.out.want.len
      have hth := OwnB.there (E := 45) G1.1 (i * 4) 4 (by omega)
      have hw32 := OwnB.setCells (E := 45) (zL 4) (i * 4) G1.1 (by rw [zL_length]; omega)
      have o1 := setCells_only gw ((zL 4).map (Value.int .u8)) (i * 4) W1
      obtain ⟨W2, hW2⟩ : ∃ W2, Hid (W1.setCells gw (i * 4) z4A.toList = W2) := ⟨_, rfl⟩
      have eL : z4A.toList = (zL 4).map (Value.int .u8) := rfl
      rw [← eL, hW2.out] at hw32 o1
      have C2 := C1.only o1 G1.2 hbase
      have cx2 : W2.cell? ⟨tb, toff + k, none⟩ = some (xs k).v := (C2.bel.cell htb).trans hcell
      obtain ⟨w3, hr3, n3, o3⟩ := run_copy_into (P := Tryd.prog) Tryd.underlying22 Tryd.size_u8 3 W2.drew (xs k).a 4 4 (xs k).len (xs k).cap gw (i * 4) (min (xs k).len 4) _ (xs k).zs hw32 rfl (C2.drew.bz hbs).bs (by rw [List.length_map, splice_length _ _ _ (by rw [zL_length]; omega)]; omega)
      have C3 := C2.drew.only o3 G1.2 hbase
      have hA := run_arr_at (P := Tryd.prog) Tryd.underlying44 Tryd.size_u8 gw (i * 4)
      have hl8 : (xs k).len = (xs k).zs.length := hbs.length.symm
      have hwt := HI.out.want.first hi8 hx.out hbs.bytes
      rw [splice_map, Nat.mul_comm i 4] at n3
      have hN : FirstI w w3 Z2 g gw (k + 1) (D.writes i x) _ := ⟨C3, ⟨n3, G1.2⟩, hbase, HI.out.size, HI.out.n, (by show spendL D.left = -1; rw [HI.out.left]; rfl), (by show (D.tr ++ _).length = _; rw [List.length_append, HI.out.tr]; rfl), (by show (D.wait ++ _).length = _; rw [List.length_append, HI.out.wait]; rfl), (by rw [hl8]; exact hwt)⟩
      have HN := hide hN
      have hTh := hide hth
      have HR := hide hr3
      clear hN hwt n3 o3 C2 o1 hw32 HI C1 s1 G1 hx HW cx eL hth hr3
      have hsz4 : (Tryd.prog.info? 44).map (·.size) = some z4A.size := by kernel_rfl
      go_wp2_with (refine wpList_store_mid rfl 44 _ _ (by rfl) gw (i * 4) z4A (by rfl) (by rfl) hTh.out hsz4 (all4 0 0 0 0) ?_; rw [hW2.out])
      clear hTh hW2
      refine wp_region_ord 1000 [0, 1, 2, 3, 4, 5, 6, 7, 8] (fun w' => w'.cell? ⟨tb, toff + k, none⟩ = some (xs k).v) (fun _ => True) (by kernel_rfl) (by kernel_rfl) (by kernel_rfl) cx2 trivial (fun _ _ => ?_)
      have cx3 : w3.cell? ⟨tb, toff + k, none⟩ = some (xs k).v := (C3.bel.cell htb).trans hcell
      clear cx2 C3
      generalize W2.drew = W3 at *
      refine wpOrd_quiet (v := ?_) rfl rfl (fun _ _ _ h => h) (by rfl) ?_ ?_
      rotate_left
      · (intro w' hT _; have hT : w'.cell? ⟨tb, toff + k, none⟩ = some (xs k).v := hT; go_simp; try rfl)
      simp only [Act.put, List.setIfInBounds_toArray, List.set_cons_zero, List.set_cons_succ]
      refine wpOrd_quiet (v := ?_) rfl rfl (fun _ _ _ h => h) (by rfl) ?_ ?_
      rotate_left
      · (intro w' hT _; have hT : w'.cell? ⟨tb, toff + k, none⟩ = some (xs k).v := hT; go_simp; try rfl)
      simp only [Act.put, List.setIfInBounds_toArray, List.set_cons_zero, List.set_cons_succ]
      refine wpOrd_quiet (v := ?_) rfl rfl (fun _ _ _ h => h) (by rfl) ?_ ?_
      rotate_left
      · (intro w' hT _; have hT : w'.cell? ⟨tb, toff + k, none⟩ = some (xs k).v := hT; go_simp; try rfl)
      simp only [Act.put, List.setIfInBounds_toArray, List.set_cons_zero, List.set_cons_succ]
      refine wpOrd_quiet (v := ?_) rfl rfl (fun _ _ _ h => h) (by rfl) ?_ ?_
      rotate_left
      · (intro w' hT _; have hT : w'.cell? ⟨tb, toff + k, none⟩ = some (xs k).v := hT; go_simp; try rfl)
      simp only [Act.put, List.setIfInBounds_toArray, List.set_cons_zero, List.set_cons_succ]
      refine wpOrd_quiet (v := ?_) rfl rfl (fun _ _ _ h => h) (by rfl) ?_ ?_
      rotate_left
      · (intro w' hT _; have hT : w'.cell? ⟨tb, toff + k, none⟩ = some (xs k).v := hT; go_simp; try rfl)
      simp only [Act.put, List.setIfInBounds_toArray, List.set_cons_zero, List.set_cons_succ]
      refine wpOrd_quiet (v := ?_) rfl rfl (fun _ _ _ h => h) (by rfl) ?_ ?_
      rotate_left
      · (intro w' hT _; have hT : w'.cell? ⟨tb, toff + k, none⟩ = some (xs k).v := hT; go_simp; try rfl)
      simp only [Act.put, List.setIfInBounds_toArray, List.set_cons_zero, List.set_cons_succ]
      refine wpOrd_quiet (v := ?_) rfl rfl (fun _ _ _ h => h) (by rfl) ?_ ?_
      rotate_left
      · (intro w' hT _; have hT : w'.cell? ⟨tb, toff + k, none⟩ = some (xs k).v := hT; go_simp; try rfl)
      simp only [Act.put, List.setIfInBounds_toArray, List.set_cons_zero, List.set_cons_succ]
      refine wpOrd_quiet (v := ?_) rfl rfl (fun _ _ _ h => h) (by rfl) ?_ ?_
      rotate_left
      · (intro w' hT _; have hT : w'.cell? ⟨tb, toff + k, none⟩ = some (xs k).v := hT; go_simp; try rfl)
      simp only [Act.put, List.setIfInBounds_toArray, List.set_cons_zero, List.set_cons_succ]
      refine wpOrd_step rfl rfl (by rfl) (fun K' hK => ?_)
      have hr3 := HR.out
      go_simp
      refine hK.out _ _ cx3 (fun h => absurd h (by decide)) (fun _ => ?_)
      refine wpOrd_nil ?_
      clear hr3 HR hA hK K' cx3 hsz4 hl8
      go_wp2_with fail
      exact ⟨⟨k + 1, Z2, _, _, by omega, by omega, congrArg _ (by omega), HN.out⟩, by simp [intOf]; omega⟩
    · have HFl := hide (hI.cl.flush (by rw [hI.left]; decide) (by rw [hI.tr]; omega))
      have HI := hide hI
      by_cases hkl : k < la
      · have h20 : ¬ (k : Int) < 20 := by omega
        clear hlt hI
        go_wp2_with fail
        refine HFl.out.mono ?_
        rintro e W0 ⟨Z0, rfl, C0, s0⟩
        have hI0 : SecondI w W0 Z0 g gw 0 D.flush zs ch := ⟨C0, HI.out.has.step s0, HI.out.size, HI.out.n, (by show spendL D.left = -1; rw [HI.out.left]; rfl), (by have := HI.out.tr; show (D.tr ++ _).length ≤ _; rw [List.length_append]; simp only [List.length_singleton]; omega), rfl, HI.out.want⟩
        clear C0 s0 HI HFl hk1 hk2
        go_wp2_with fail
        generalize D.flush = D0 at hI0
        clear hkl
        go_loopw [10] (fun s10 wr1 => ∃ (k : Nat) (Z1 : Own) (D : DS) (zs : List Int), k ≤ lb ∧ k ≤ 20 ∧ s10 = .int .i64 (k : Int) ∧ SecondI w wr1 Z1 g gw k D zs ch) (fun s10 _ => 20 - (intOf s10).toNat)
        case atStart => exact ⟨0, Z0, D0, zs, Nat.zero_le _, Nat.zero_le _, rfl, hI0⟩
        case round =>
          clear hI0
          clear zs D0 D
          obtain ⟨k, Z1, D, zs, hk1, hk2, rfl, hI⟩ := hrel
          by_cases hlt : k < lb ∧ k < 20
          · obtain ⟨hkl, hk20⟩ := hlt
            have hk20' : (k : Int) < 20 := by omega
            obtain ⟨⟨tb, toff, rfl, hcell⟩, hbs⟩ := HB.out.item k hkl
            have htb := World.block_lt_of_cell? w _ hcell
            have cx := (hI.cl.bel.cell htb).trans hcell
            obtain ⟨i, hi⟩ : ∃ i : Nat, k * 3 % 8 = i := ⟨_, rfl⟩
            have hi8 : i < 8 := by omega
            have hi8' : (i : Int) < 8 := by omega
            have hw3 : IntKind.i64.wrap ((k : Int) * 3) = (k : Int) * 3 := by rw [IntKind.wrap_i64]; omega
            have m1 : bits .and .i64 ((k : Int) * 3) 7 = (i : Int) := by rw [i64_and7]; omega
            have hw1 : IntKind.i64.wrap ((k : Int) + 1) = ((k + 1 : Nat) : Int) := by rw [IntKind.wrap_i64]; omega
            have HW := hide (hI.cl.write (by rw [hI.left]; decide) (by have := hI.tr; omega) (by rw [hI.wait]; omega) i (by rw [hI.n]; exact hi8) (hI.cl.bz hbs) ((ys k).zs.take 4) (by rw [hI.size]))
            have HI := hide hI
            clear hI
            go_wp2_with fail
            refine HW.out.mono ?_
            rintro e W1 ⟨Z2, x, rfl, hx, C1, s1⟩
            have G1 := HI.out.has.step s1
            have hz := HI.out.want.len
            have B1 : Has Z2 (W1.alloc (.cells #[.int .u8 0, .int .u8 0, .int .u8 0, .int .u8 0] 44)) W1.heap.size (fourO (zL 4)) := C1.new (fourO (zL 4))
            have C2 : Cl w (W1.alloc (.cells #[.int .u8 0, .int .u8 0, .int .u8 0, .int .u8 0] 44)) Z2 g (D.writes i x) := C1.alloc _
            have G2 : Has Z2 (W1.alloc (.cells #[.int .u8 0, .int .u8 0, .int .u8 0, .int .u8 0] 44)) gw (wantO zs) := G1.alloc _
            have hne : W1.heap.size ≠ gw := Nat.ne_of_gt G1.lt
            have hgbw : w.heap.size ≤ W1.heap.size := C1.size
            clear HW C1 s1 G1 cx
            have cx2 : (W1.alloc (.cells #[.int .u8 0, .int .u8 0, .int .u8 0, .int .u8 0] 44)).cell? ⟨tb, toff + k, none⟩ = some (ys k).v := (C2.bel.cell htb).trans hcell
            go_wp2_with fail
            generalize W1.heap.size = gb at *
            generalize W1.alloc (.cells #[.int .u8 0, .int .u8 0, .int .u8 0, .int .u8 0] 44) = W2 at *
            obtain ⟨w3, hr3, n3, o3⟩ := run_copy_into (P := Tryd.prog) Tryd.underlying22 Tryd.size_u8 3 W2.drew (ys k).a 4 4 (ys k).len (ys k).cap gb 0 (min (ys k).len 4) _ (ys k).zs (show W2.drew.heap[gb]? = some (fourO (zL 4)) from B1.1) rfl (C2.drew.bz hbs).bs (by rw [List.length_map, zL_length]; omega)
            have C3 := C2.drew.only o3 B1.2 hgbw
            have G3 : Has Z2 w3 gw (wantO zs) := Has.only (W := W2.drew) G2 o3 (Ne.symm hne)
            rw [splice_map, show (ys k).len = (ys k).zs.length from hbs.length.symm, fitL_splice] at n3
            have B3 : Has Z2 w3 gb (fourO (fitL 4 (ys k).zs)) := ⟨n3, B1.2⟩
            have hA := run_arr_at (P := Tryd.prog) Tryd.underlying44 Tryd.size_u8 gb 0
            have cx3 : w3.cell? ⟨tb, toff + k, none⟩ = some (ys k).v := (C3.bel.cell htb).trans hcell
            have HR := hide hr3
            clear hr3 n3 o3 B1 G2 C2
            refine wp_region_ord 1000 [0, 1, 2, 3, 4, 5] (fun w' => w'.cell? ⟨tb, toff + k, none⟩ = some (ys k).v) (fun _ => True) (by kernel_rfl) (by kernel_rfl) (by kernel_rfl) cx2 trivial (fun _ _ => ?_)
            clear cx2
            generalize W2.drew = W3 at *
            refine wpOrd_quiet (v := ?_) rfl rfl (fun _ _ _ h => h) (by rfl) ?_ ?_
            rotate_left
            · (intro w' hT _; have hT : w'.cell? ⟨tb, toff + k, none⟩ = some (ys k).v := hT; go_simp; try rfl)
            simp only [Act.put, List.setIfInBounds_toArray, List.set_cons_zero, List.set_cons_succ]
            refine wpOrd_quiet (v := ?_) rfl rfl (fun _ _ _ h => h) (by rfl) ?_ ?_
            rotate_left
            · (intro w' hT _; have hT : w'.cell? ⟨tb, toff + k, none⟩ = some (ys k).v := hT; go_simp; try rfl)
            simp only [Act.put, List.setIfInBounds_toArray, List.set_cons_zero, List.set_cons_succ]
            refine wpOrd_quiet (v := ?_) rfl rfl (fun _ _ _ h => h) (by rfl) ?_ ?_
            rotate_left
            · (intro w' hT _; have hT : w'.cell? ⟨tb, toff + k, none⟩ = some (ys k).v := hT; go_simp; try rfl)
            simp only [Act.put, List.setIfInBounds_toArray, List.set_cons_zero, List.set_cons_succ]
            refine wpOrd_quiet (v := ?_) rfl rfl (fun _ _ _ h => h) (by rfl) ?_ ?_
            rotate_left
            · (intro w' hT _; have hT : w'.cell? ⟨tb, toff + k, none⟩ = some (ys k).v := hT; go_simp; try rfl)
            simp only [Act.put, List.setIfInBounds_toArray, List.set_cons_zero, List.set_cons_succ]
            refine wpOrd_quiet (v := ?_) rfl rfl (fun _ _ _ h => h) (by rfl) ?_ ?_
            rotate_left
            · (intro w' hT _; have hT : w'.cell? ⟨tb, toff + k, none⟩ = some (ys k).v := hT; go_simp; try rfl)
            simp only [Act.put, List.setIfInBounds_toArray, List.set_cons_zero, List.set_cons_succ]
            refine wpOrd_step rfl rfl (by rfl) (fun K' hK => ?_)
            have hr3 := HR.out
            go_simp
            refine hK.out _ _ cx3 (fun h => absurd h (by decide)) (fun _ => ?_)
            refine wpOrd_nil ?_
            clear hr3 HR hA hK K' cx3
            by_cases hkc : k < lc
            · obtain ⟨cb0, coff, rfl, hcc0⟩ : ∃ bb off, c = some ⟨bb, off, none⟩ ∧ ∀ i, i < lc → w.cell? ⟨bb, off + i, none⟩ = some (.int .i64 (ch.getD i 0)) := by
                rcases HCh.out.place with h1 | h1
                · omega
                · exact h1
              have hz0 := hcc0 k hkc
              have cz := (C3.bel.cell (World.block_lt_of_cell? w _ hz0)).trans hz0
              have hzr := int_of_wf (HCh.out.getD k hkc)
              have hch : chL ch k = ch.getD k 0 % 3 := by unfold chL; rw [if_pos (by rw [HCh.out.length]; exact hkc)]
              clear hcc0 hz0
              generalize ch.getD k 0 = z at *
              have hm3 := tmod3 z
              have hq1 : IntKind.i64.wrap (z.tmod 3) = z.tmod 3 := by rw [IntKind.wrap_i64]; omega
              have hq2 : IntKind.i64.wrap (z.tmod 3 + 3) = z.tmod 3 + 3 := by rw [IntKind.wrap_i64]; omega
              have hmd := mod3 z
              have hmt := mod3t z
              have hcs := mod3_cases z
              generalize z % 3 = c0 at *
              rcases hcs with rfl | rfl | rfl
              · have HC0 := hide hch
                clear hch hzr hm3
                obtain ⟨WX, hWX⟩ : ∃ WX, Hid (w3.setCells gw (i * 4) ((fitL 4 (ys k).zs).map (Value.int .u8)).toArray.toList = WX) := ⟨_, rfl⟩
                have eL : ((fitL 4 (ys k).zs).map (Value.int .u8)).toArray.toList = (fitL 4 (ys k).zs).map (Value.int .u8) := rfl
                have hF4 := fitL_length 4 (ys k).zs
                have hth := OwnB.there (E := 45) G3.1 (i * 4) ((fitL 4 (ys k).zs).map (Value.int .u8)).toArray.size (by simp [hF4]; omega)
                have hw32 := OwnB.setCells (E := 45) (fitL 4 (ys k).zs) (i * 4) G3.1 (by rw [hF4]; omega)
                have o1 := setCells_only gw ((fitL 4 (ys k).zs).map (Value.int .u8)) (i * 4) w3
                rw [← eL, hWX.out] at hw32 o1
                have C4 := C3.only o1 G3.2 hbase
                rw [Nat.mul_comm i 4] at hw32
                have hsub := fun j => sub4_splice zs (fitL 4 (ys k).zs) i j hz hi8 (by omega)
                have hN : SecondI w WX Z2 g gw (k + 1) (D.writes i x) _ ch := ⟨C4, ⟨hw32, G3.2⟩, HI.out.size, HI.out.n, (by show spendL D.left = -1; rw [HI.out.left]; rfl), (by have := HI.out.tr; show (D.tr ++ _).length ≤ _; rw [List.length_append]; simp only [List.length_singleton]; omega), (by show (D.wait ++ _).length = _; rw [List.length_append, HI.out.wait]; rfl), HI.out.want.second hi8 hx.out (by rw [splice_length _ _ _ (by omega)]; exact hz) (splice_bytes HI.out.want.by_ (fitL_bytes 4 hbs.bytes)) (fun j hj => by rw [hsub, if_neg hj]) (by
                  rw [hsub, if_pos rfl, HI.out.wait, HC0.out, if_neg (by decide), if_neg (by decide)]
                  have := splice_whole (sub4 zs i) (fitL 4 (ys k).zs) (by rw [sub4_length _ _ hz hi8]; exact hF4)
                  rwa [sub4_length _ _ hz hi8, List.take_of_length_le (by omega)] at this)⟩
                have HN := hide hN
                have hTh := hide hth
                have HR4 := hide (OwnB.range (E := 44) B3.1)
                have hszA : (Tryd.prog.info? 44).map (·.size) = some ((fitL 4 (ys k).zs).map (Value.int .u8)).toArray.size := by simp only [List.size_toArray, List.length_map, hF4]; exact size_4
                have hszL : (Tryd.prog.info? 44).map (·.size) = some ((fitL 4 (ys k).zs).map (Value.int .u8)).length := by simp only [List.length_map, hF4]; exact size_4
                have hal : ((fitL 4 (ys k).zs).map (Value.int .u8)).toArray.all (·.oneCell') = true := all_oneCell_toArray (fun v hv => by
                  obtain ⟨z, _, rfl⟩ := List.mem_map.1 hv
                  rfl)
                clear hN hth hw32 o1 C4 HI C3 G3 B3 hx hsub HC0 eL hF4
                go_wp2_with (first
                  | (refine wpList_load_mid rfl 44 _ (by rfl) gb 0 (by rfl) ((fitL 4 (ys k).zs).map (Value.int .u8)) _ HR4.out Tryd.underlying44 rfl hszL ?_)
                  | (refine wpList_store_mid rfl 44 _ _ (by rfl) gw (i * 4) ((fitL 4 (ys k).zs).map (Value.int .u8)).toArray (by rfl) (by rfl) hTh.out hszA hal ?_; rw [hWX.out]))
                clear hWX hTh HR4 hszA hszL hal
                go_loopw [13] (fun s13 wr2 => s13 = .int .i64 0 ∧ wr2 = WX) (fun _ _ => 0)
                case atStart => exact ⟨rfl, rfl⟩
                case round =>
                  obtain ⟨rfl, rfl⟩ := hrel
                  go_wp2_with fail
                  exact ⟨⟨k + 1, Z2, _, _, by omega, by omega, congrArg _ (by omega), HN.out⟩, by simp [intOf]; omega⟩

              · have HC0 := hide hch
                clear hch hzr hm3
                obtain ⟨WX, hWX⟩ : ∃ WX, w3 = WX := ⟨_, rfl⟩
                subst hWX
                have hN : SecondI w w3 Z2 g gw (k + 1) (D.writes i x) zs ch := ⟨C3, G3, HI.out.size, HI.out.n, (by show spendL D.left = -1; rw [HI.out.left]; rfl), (by have := HI.out.tr; show (D.tr ++ _).length ≤ _; rw [List.length_append]; simp only [List.length_singleton]; omega), (by show (D.wait ++ _).length = _; rw [List.length_append, HI.out.wait]; rfl), HI.out.want.second hi8 hx.out hz HI.out.want.by_ (fun j hj => rfl) (by rw [HI.out.wait, HC0.out, if_pos rfl])⟩
                have HN := hide hN
                clear hN HI C3 G3 B3 hx HC0
                go_wp2_with fail
                go_loopw [13] (fun s13 wr2 => s13 = .int .i64 0 ∧ wr2 = w3) (fun _ _ => 0)
                case atStart => exact ⟨rfl, rfl⟩
                case round =>
                  obtain ⟨rfl, rfl⟩ := hrel
                  go_wp2_with fail
                  exact ⟨⟨k + 1, Z2, _, _, by omega, by omega, congrArg _ (by omega), HN.out⟩, by simp [intOf]; omega⟩

              · have HC0 := hide hch
                clear hch hzr hm3
                have hF4 := fitL_length 4 (ys k).zs
                have hFb := fitL_bytes 4 hbs.bytes
                have hin := InnerI.start (i := i) C3 G3 B3 hz HI.out.want.by_
                clear C3 G3 B3
                go_wp2_with fail
                go_loopw [13] (fun s13 wr2 => ∃ (j : Nat) (zs' : List Int), j ≤ 4 ∧ s13 = .int .i64 (j : Int) ∧ InnerI w wr2 Z2 g gw gb i j (D.writes i x) zs (fitL 4 (ys k).zs) zs') (fun s13 _ => 4 - (intOf s13).toNat)
                case atStart => exact ⟨0, zs, Nat.zero_le _, rfl, hin⟩
                case round =>
                  obtain ⟨j, zs', hj4, rfl, hJ⟩ := hrel
                  clear hin
                  by_cases hj : j < 4
                  · have hj' : (j : Int) < 4 := by omega
                    have hJd := hJ.drew
                    have cb := OwnB.cell (E := 44) hJ.bh.1 j (by omega)
                    have hthj := OwnB.there (E := 45) hJd.has.1 (i * 4) 4 (by rw [hJ.len]; omega) j hj
                    obtain ⟨v0, hv0⟩ := Option.isSome_iff_exists.1 hthj.1
                    have hfz := hthj.2
                    clear hJ hthj
                    have hX := bits_xr ((fitL 4 (ys k).zs).getD j 0) 165 (by rw [List.getD, List.getElem?_eq_getElem (by omega)]; exact hFb _ (List.getElem_mem _)) ⟨by decide, by decide⟩
                    have HNx := hide (hJd.next hne hbase hi8 hj hF4 hFb hz)
                    have cb2 := OwnB.cell (E := 44) HNx.out.bh.1 j (by omega)
                    have hwj : IntKind.i64.wrap ((j : Int) + 1) = ((j + 1 : Nat) : Int) := by rw [IntKind.wrap_i64]; omega
                    clear hJd
                    generalize (fitL 4 (ys k).zs).getD j 0 = Bj at *
                    go_wp2_with fail
                    refine wp_region_ord 1000 [0, 1, 2, 3, 4, 5, 6, 7, 8, 9, 10] (fun w' => w'.cell? ⟨gb, j, none⟩ = some (.int .u8 Bj)) (fun _ => True) (by kernel_rfl) (by kernel_rfl) (by kernel_rfl) cb trivial (fun _ _ => ?_)
                    clear cb
                    generalize wr.drew = wd at *
                    refine wpOrd_quiet (v := ?_) rfl rfl (fun _ _ _ h => h) (by rfl) ?_ ?_
                    rotate_left
                    · (intro w' hT _; have hT : w'.cell? ⟨gb, j, none⟩ = some (.int .u8 Bj) := hT; go_simp; try rfl)
                    simp only [Act.put, List.setIfInBounds_toArray, List.set_cons_zero, List.set_cons_succ]
                    refine wpOrd_quiet (v := ?_) rfl rfl (fun _ _ _ h => h) (by rfl) ?_ ?_
                    rotate_left
                    · (intro w' hT _; have hT : w'.cell? ⟨gb, j, none⟩ = some (.int .u8 Bj) := hT; go_simp; try rfl)
                    simp only [Act.put, List.setIfInBounds_toArray, List.set_cons_zero, List.set_cons_succ]
                    refine wpOrd_quiet (v := ?_) rfl rfl (fun _ _ _ h => h) (by rfl) ?_ ?_
                    rotate_left
                    · (intro w' hT _; have hT : w'.cell? ⟨gb, j, none⟩ = some (.int .u8 Bj) := hT; go_simp; try rfl)
                    simp only [Act.put, List.setIfInBounds_toArray, List.set_cons_zero, List.set_cons_succ]
                    refine wpOrd_quiet (v := ?_) rfl rfl (fun _ _ _ h => h) (by rfl) ?_ ?_
                    rotate_left
                    · (intro w' hT _; have hT : w'.cell? ⟨gb, j, none⟩ = some (.int .u8 Bj) := hT; go_simp; try rfl)
                    simp only [Act.put, List.setIfInBounds_toArray, List.set_cons_zero, List.set_cons_succ]
                    refine wpOrd_quiet (v := ?_) rfl rfl (fun _ _ _ h => h) (by rfl) ?_ ?_
                    rotate_left
                    · (intro w' hT _; have hT : w'.cell? ⟨gb, j, none⟩ = some (.int .u8 Bj) := hT; go_simp; try rfl)
                    simp only [Act.put, List.setIfInBounds_toArray, List.set_cons_zero, List.set_cons_succ]
                    refine wpOrd_quiet (v := ?_) rfl rfl (fun _ _ _ h => h) (by rfl) ?_ ?_
                    rotate_left
                    · (intro w' hT _; have hT : w'.cell? ⟨gb, j, none⟩ = some (.int .u8 Bj) := hT; go_simp; try rfl)
                    simp only [Act.put, List.setIfInBounds_toArray, List.set_cons_zero, List.set_cons_succ]
                    refine wpOrd_quiet (v := ?_) rfl rfl (fun _ _ _ h => h) (by rfl) ?_ ?_
                    rotate_left
                    · (intro w' hT _; have hT : w'.cell? ⟨gb, j, none⟩ = some (.int .u8 Bj) := hT; go_simp; try rfl)
                    simp only [Act.put, List.setIfInBounds_toArray, List.set_cons_zero, List.set_cons_succ]
                    refine wpOrd_quiet (v := ?_) rfl rfl (fun _ _ _ h => h) (by rfl) ?_ ?_
                    rotate_left
                    · (intro w' hT _; have hT : w'.cell? ⟨gb, j, none⟩ = some (.int .u8 Bj) := hT; go_simp; try rfl)
                    simp only [Act.put, List.setIfInBounds_toArray, List.set_cons_zero, List.set_cons_succ]
                    refine wpOrd_quiet (v := ?_) rfl rfl (fun _ _ _ h => h) (by rfl) ?_ ?_
                    rotate_left
                    · (intro w' hT _; have hT : w'.cell? ⟨gb, j, none⟩ = some (.int .u8 Bj) := hT; go_simp; try rfl)
                    simp only [Act.put, List.setIfInBounds_toArray, List.set_cons_zero, List.set_cons_succ]
                    refine wpOrd_quiet (v := ?_) rfl rfl (fun _ _ _ h => h) (by rfl) ?_ ?_
                    rotate_left
                    · (intro w' hT _; have hT : w'.cell? ⟨gb, j, none⟩ = some (.int .u8 Bj) := hT; go_simp; try rfl)
                    simp only [Act.put, List.setIfInBounds_toArray, List.set_cons_zero, List.set_cons_succ]
                    refine wpOrd_step rfl rfl (by rfl) (fun K' hK => ?_)
                    go_simp
                    refine hK.out _ _ cb2 (fun h => absurd h (by decide)) (fun _ => ?_)
                    refine wpOrd_nil ?_
                    clear hK K' cb2 hv0 hfz
                    go_wp2_with fail
                    exact ⟨⟨j + 1, _, by omega, congrArg _ (by omega), HNx.out⟩, by simp [intOf]; omega⟩
                  · have hj' : ¬ (j : Int) < 4 := by omega
                    obtain rfl : j = 4 := by omega
                    have hN : SecondI w wr Z2 g gw (k + 1) (D.writes i x) zs' ch := ⟨hJ.cl, hJ.has, HI.out.size, HI.out.n, (by show spendL D.left = -1; rw [HI.out.left]; rfl), (by have := HI.out.tr; show (D.tr ++ _).length ≤ _; rw [List.length_append]; simp only [List.length_singleton]; omega), (by show (D.wait ++ _).length = _; rw [List.length_append, HI.out.wait]; rfl), HI.out.want.second hi8 hx.out hJ.len hJ.by_ hJ.oth (by
                      rw [HI.out.wait, HC0.out, if_neg (by decide), if_pos rfl, hJ.at_, List.take_of_length_le (by rw [badL_length]; omega), List.drop_of_length_le (by rw [sub4_length _ _ hz hi8]; omega), List.append_nil])⟩
                    have HN := hide hN
                    clear hN hJ HI
                    go_wp2_with fail
                    exact ⟨⟨k + 1, Z2, _, _, by omega, by omega, congrArg _ (by omega), HN.out⟩, by simp [intOf]; omega⟩

            · have HC0 : Hid (chL ch k = 0) := hide (by unfold chL; rw [if_neg (by rw [HCh.out.length]; exact hkc)])
              obtain ⟨WX, hWX⟩ : ∃ WX, Hid (w3.setCells gw (i * 4) ((fitL 4 (ys k).zs).map (Value.int .u8)).toArray.toList = WX) := ⟨_, rfl⟩
              have eL : ((fitL 4 (ys k).zs).map (Value.int .u8)).toArray.toList = (fitL 4 (ys k).zs).map (Value.int .u8) := rfl
              have hF4 := fitL_length 4 (ys k).zs
              have hth := OwnB.there (E := 45) G3.1 (i * 4) ((fitL 4 (ys k).zs).map (Value.int .u8)).toArray.size (by simp [hF4]; omega)
              have hw32 := OwnB.setCells (E := 45) (fitL 4 (ys k).zs) (i * 4) G3.1 (by rw [hF4]; omega)
              have o1 := setCells_only gw ((fitL 4 (ys k).zs).map (Value.int .u8)) (i * 4) w3
              rw [← eL, hWX.out] at hw32 o1
              have C4 := C3.only o1 G3.2 hbase
              rw [Nat.mul_comm i 4] at hw32
              have hsub := fun j => sub4_splice zs (fitL 4 (ys k).zs) i j hz hi8 (by omega)
              have hN : SecondI w WX Z2 g gw (k + 1) (D.writes i x) _ ch := ⟨C4, ⟨hw32, G3.2⟩, HI.out.size, HI.out.n, (by show spendL D.left = -1; rw [HI.out.left]; rfl), (by have := HI.out.tr; show (D.tr ++ _).length ≤ _; rw [List.length_append]; simp only [List.length_singleton]; omega), (by show (D.wait ++ _).length = _; rw [List.length_append, HI.out.wait]; rfl), HI.out.want.second hi8 hx.out (by rw [splice_length _ _ _ (by omega)]; exact hz) (splice_bytes HI.out.want.by_ (fitL_bytes 4 hbs.bytes)) (fun j hj => by rw [hsub, if_neg hj]) (by
                rw [hsub, if_pos rfl, HI.out.wait, HC0.out, if_neg (by decide), if_neg (by decide)]
                have := splice_whole (sub4 zs i) (fitL 4 (ys k).zs) (by rw [sub4_length _ _ hz hi8]; exact hF4)
                rwa [sub4_length _ _ hz hi8, List.take_of_length_le (by omega)] at this)⟩
              have HN := hide hN
              have hTh := hide hth
              have HR4 := hide (OwnB.range (E := 44) B3.1)
              have hszA : (Tryd.prog.info? 44).map (·.size) = some ((fitL 4 (ys k).zs).map (Value.int .u8)).toArray.size := by simp only [List.size_toArray, List.length_map, hF4]; exact size_4
              have hszL : (Tryd.prog.info? 44).map (·.size) = some ((fitL 4 (ys k).zs).map (Value.int .u8)).length := by simp only [List.length_map, hF4]; exact size_4
              have hal : ((fitL 4 (ys k).zs).map (Value.int .u8)).toArray.all (·.oneCell') = true := all_oneCell_toArray (fun v hv => by
                obtain ⟨z, _, rfl⟩ := List.mem_map.1 hv
                rfl)
              clear hN hth hw32 o1 C4 HI C3 G3 B3 hx hsub HC0 eL hF4
              go_wp2_with (first
                | (refine wpList_load_mid rfl 44 _ (by rfl) gb 0 (by rfl) ((fitL 4 (ys k).zs).map (Value.int .u8)) _ HR4.out Tryd.underlying44 rfl hszL ?_)
                | (refine wpList_store_mid rfl 44 _ _ (by rfl) gw (i * 4) ((fitL 4 (ys k).zs).map (Value.int .u8)).toArray (by rfl) (by rfl) hTh.out hszA hal ?_; rw [hWX.out]))
              clear hWX hTh HR4 hszA hszL hal
              go_loopw [13] (fun s13 wr2 => s13 = .int .i64 0 ∧ wr2 = WX) (fun _ _ => 0)
              case atStart => exact ⟨rfl, rfl⟩
              case round =>
                obtain ⟨rfl, rfl⟩ := hrel
                go_wp2_with fail
                exact ⟨⟨k + 1, Z2, _, _, by omega, by omega, congrArg _ (by omega), HN.out⟩, by simp [intOf]; omega⟩

          · have HCr := hide (hI.cl.crash (by have := hI.tr; omega) (hI.cl.nz HCh.out))
            have HI := hide hI
            by_cases hkl : k < lb
            · have h20 : ¬ (k : Int) < 20 := by omega
              clear hlt hI
              go_wp2_with fail
              refine HCr.out.mono ?_
              rintro e W0 ⟨Z0, bk, rfl, hbk, C0, s0⟩
              have hbk := hbk.out
              rw [HI.out.size] at hbk
              have hL0 : LastI w W0 Z0 g gw 0 (D.crash bk) zs := ⟨C0, HI.out.has.step s0, HI.out.size, HI.out.n, rfl, (by have := HI.out.tr; show (D.tr ++ _).length ≤ _; rw [List.length_append]; simp only [List.length_singleton]; omega), (by show Want zs (zOf bk); rw [hbk]; exact HI.out.want)⟩
              clear C0 s0 HI HCr hbk hkl hk1 hk2
              generalize D.crash bk = D0 at hL0
              go_wp2_with fail
              go_loopw [14] (fun s14 wr4 => ∃ (k : Nat) (Z1 : Own) (D : DS), k ≤ 8 ∧ s14 = .int .i64 (k : Int) ∧ LastI w wr4 Z1 g gw k D zs) (fun s14 _ => 8 - (intOf s14).toNat)
              case atStart => exact ⟨0, Z0, D0, Nat.zero_le _, rfl, hL0⟩
              case round =>
                clear hL0 D0
                obtain ⟨q, Z1, D1, hk8, rfl, hL⟩ := hrel
                by_cases hlt : q < 8
                · have hlt' : (q : Int) < 8 := by omega
                  have hw1 : IntKind.i64.wrap ((q : Int) + 1) = ((q + 1 : Nat) : Int) := by rw [IntKind.wrap_i64]; omega
                  have HLd := hide hL
                  have C1 := hL.cl.drew
                  have HSt := hide (C1.stable q (by rw [hL.n]; exact hlt) 4 (sub4 zs q) hL.size (hL.want.at2 q hlt))
                  have hA := run_arr_at (P := Tryd.prog) Tryd.underlying44 Tryd.size_u8 gw (q * 4)
                  have hbw : Bs wr.drew (some ⟨gw, q * 4, none⟩) 4 4 (sub4 zs q) := by rw [Nat.mul_comm]; exact OwnB.bs4 (w := wr.drew) (E := 45) hL.has.1 hL.want.len hL.want.by_ q hlt
                  have hgl : gw < wr.drew.heap.size := hL.has.lt
                  have hgs := hL.has.2
                  have hgr : wr.drew.heap[gw]? = some (wantO zs) := hL.has.1
                  have hzb : IsBytes (sub4 zs q) := hbw.bytes
                  have hzl := hbw.length
                  obtain ⟨ST, hST⟩ : ∃ ST, Hid (strOfNums (sub4 zs q) = ST) := ⟨_, rfl⟩
                  have WS : Hid (∀ w', KeptBut Z1.S wr.drew w' → (convert 22 9 (.slice (some ⟨gw, q * 4, none⟩) 4 4)).run Tryd.prog w' = .ok (.string ST) w') := hide (fun w' hR => by rw [← hST.out]; exact str_bytes (hR.bs hbw hgl hgs))
                  clear hL
                  go_wp2_with fail
                  refine wp_region_rel (KeptBut Z1.S) [0, 1, 4, 5, 6, 7, 2, 3, 8, 9, 10, 11, 14, 15, 16, 17, 12, 13, 18, 19] (by kernel_rfl) (by kernel_rfl) (by kernel_rfl) (KeptBut.refl _) KeptBut.trans ?_
                  generalize wr.drew = wd at *
                  refine wpRel_quiet (v := ?_) rfl rfl (fun _ _ _ h => h) (by rfl) ?_ ?_
                  rotate_left
                  · (intro w' hR; have e1 := WS.out w' hR; go_simp; try rfl)
                  simp only [Act.put, List.setIfInBounds_toArray, List.set_cons_zero, List.set_cons_succ]
                  refine wpRel_quiet (v := ?_) rfl rfl (fun _ _ _ h => h) (by rfl) ?_ ?_
                  rotate_left
                  · (intro w' hR; have e1 := WS.out w' hR; go_simp; try rfl)
                  simp only [Act.put, List.setIfInBounds_toArray, List.set_cons_zero, List.set_cons_succ]
                  refine wpRel_quiet (v := ?_) rfl rfl (fun _ _ _ h => h) (by rfl) ?_ ?_
                  rotate_left
                  · (intro w' hR; have e1 := WS.out w' hR; go_simp; try rfl)
                  simp only [Act.put, List.setIfInBounds_toArray, List.set_cons_zero, List.set_cons_succ]
                  refine wpRel_quiet (v := ?_) rfl rfl (fun _ _ _ h => h) (by rfl) ?_ ?_
                  rotate_left
                  · (intro w' hR; have e1 := WS.out w' hR; go_simp; try rfl)
                  simp only [Act.put, List.setIfInBounds_toArray, List.set_cons_zero, List.set_cons_succ]
                  refine wpRel_quiet (v := ?_) rfl rfl (fun _ _ _ h => h) (by rfl) ?_ ?_
                  rotate_left
                  · (intro w' hR; have e1 := WS.out w' hR; go_simp; try rfl)
                  simp only [Act.put, List.setIfInBounds_toArray, List.set_cons_zero, List.set_cons_succ]
                  refine wpRel_quiet (v := ?_) rfl rfl (fun _ _ _ h => h) (by rfl) ?_ ?_
                  rotate_left
                  · (intro w' hR; have e1 := WS.out w' hR; go_simp; try rfl)
                  simp only [Act.put, List.setIfInBounds_toArray, List.set_cons_zero, List.set_cons_succ]
                  refine wpRel_step rfl rfl (by rfl) (fun K' hK => ?_)
                  go_simp
                  refine HSt.out.mono ?_
                  rintro e W4 ⟨rfl, Y, C4, b4⟩
                  have hkb := KeptBut.of_below Z1.S b4
                  refine hK.out _ _ hkb ?_
                  clear hK K' HSt
                  try simp only [Act.put, List.setIfInBounds_toArray, List.set_cons_zero, List.set_cons_succ]
                  have WS4 : Hid (∀ w', KeptBut Z1.S W4 w' → (convert 22 9 (.slice (some ⟨gw, q * 4, none⟩) 4 4)).run Tryd.prog w' = .ok (.string ST) w') := hide (fun w' hR => WS.out w' (KeptBut.trans _ _ _ hkb hR))
                  have hby : Bs W4 (some ⟨wd.heap.size, 0, none⟩) 4 4 (sub4 zs q) := OwnB.bs (E := 5) Y.1 hzb 4 hzl (by omega)
                  have WY4 : Hid (∀ w', KeptBut Z1.S W4 w' → (convert 22 9 (.slice (some ⟨wd.heap.size, 0, none⟩) 4 4)).run Tryd.prog w' = .ok (.string ST) w') := hide (fun w' hR => by rw [← hST.out]; exact str_bytes (hR.bs hby Y.lt Y.2))
                  have HRd := hide (C4.read (by rw [HLd.out.left]; decide) (by have := HLd.out.tr; omega) q (by rw [HLd.out.n]; exact hlt) 4 (sub4 zs q) HLd.out.size (HLd.out.want.at1 q hlt))
                  have G4 : Has Z1 W4 gw (wantO zs) := ⟨(hkb.2 gw hgl hgs).trans hgr, hgs⟩
                  clear WS b4 hkb Y hby C1 hbw
                  generalize wd.heap.size = ky at *
                  refine wpRel_quiet (v := ?_) rfl rfl (fun _ _ _ h => h) (by rfl) ?_ ?_
                  rotate_left
                  · (intro w' hR; have e1 := WS4.out w' hR; have e2 := WY4.out w' hR; go_simp; try rfl)
                  simp only [Act.put, List.setIfInBounds_toArray, List.set_cons_zero, List.set_cons_succ]
                  refine wpRel_quiet (v := ?_) rfl rfl (fun _ _ _ h => h) (by rfl) ?_ ?_
                  rotate_left
                  · (intro w' hR; have e1 := WS4.out w' hR; have e2 := WY4.out w' hR; go_simp; try rfl)
                  simp only [Act.put, List.setIfInBounds_toArray, List.set_cons_zero, List.set_cons_succ]
                  refine wpRel_quiet (v := ?_) rfl rfl (fun _ _ _ h => h) (by rfl) ?_ ?_
                  rotate_left
                  · (intro w' hR; have e1 := WS4.out w' hR; have e2 := WY4.out w' hR; go_simp; try rfl)
                  simp only [Act.put, List.setIfInBounds_toArray, List.set_cons_zero, List.set_cons_succ]
                  refine wpRel_quiet (v := ?_) rfl rfl (fun _ _ _ h => h) (by rfl) ?_ ?_
                  rotate_left
                  · (intro w' hR; have e1 := WS4.out w' hR; have e2 := WY4.out w' hR; go_simp; try rfl)
                  simp only [Act.put, List.setIfInBounds_toArray, List.set_cons_zero, List.set_cons_succ]
                  refine wpRel_quiet (v := ?_) rfl rfl (fun _ _ _ h => h) (by rfl) ?_ ?_
                  rotate_left
                  · (intro w' hR; have e1 := WS4.out w' hR; have e2 := WY4.out w' hR; go_simp; try rfl)
                  simp only [Act.put, List.setIfInBounds_toArray, List.set_cons_zero, List.set_cons_succ]
                  refine wpRel_quiet (v := ?_) rfl rfl (fun _ _ _ h => h) (by rfl) ?_ ?_
                  rotate_left
                  · (intro w' hR; have e1 := WS4.out w' hR; have e2 := WY4.out w' hR; go_simp; try rfl)
                  simp only [Act.put, List.setIfInBounds_toArray, List.set_cons_zero, List.set_cons_succ]
                  refine wpRel_quiet (v := ?_) rfl rfl (fun _ _ _ h => h) (by rfl) ?_ ?_
                  rotate_left
                  · (intro w' hR; have e1 := WS4.out w' hR; have e2 := WY4.out w' hR; go_simp; try rfl)
                  simp only [Act.put, List.setIfInBounds_toArray, List.set_cons_zero, List.set_cons_succ]
                  refine wpRel_quiet (v := ?_) rfl rfl (fun _ _ _ h => h) (by rfl) ?_ ?_
                  rotate_left
                  · (intro w' hR; have e1 := WS4.out w' hR; have e2 := WY4.out w' hR; go_simp; try rfl)
                  simp only [Act.put, List.setIfInBounds_toArray, List.set_cons_zero, List.set_cons_succ]
                  refine wpRel_quiet (v := ?_) rfl rfl (fun _ _ _ h => h) (by rfl) ?_ ?_
                  rotate_left
                  · (intro w' hR; have e1 := WS4.out w' hR; have e2 := WY4.out w' hR; go_simp; try rfl)
                  simp only [Act.put, List.setIfInBounds_toArray, List.set_cons_zero, List.set_cons_succ]
                  refine wpRel_step rfl rfl (by rfl) (fun K' hK => ?_)
                  go_simp
                  refine HRd.out.mono ?_
                  rintro e W5 ⟨kx, Z5, rfl, hkx, X, C5, s5⟩
                  have hks : ¬ Z1.S kx := fun hs => by have := C4.dk.lt _ hs; omega
                  refine hK.out _ _ (KeptBut.of_step s5) ?_
                  clear hK K' HRd WS4 WY4
                  try simp only [Act.put, List.setIfInBounds_toArray, List.set_cons_zero, List.set_cons_succ]
                  have hbx : Bs W5 (some ⟨kx, 0, none⟩) 4 4 (sub4 zs q) := OwnB.bs (E := 5) X.1 hzb 4 hzl (by omega)
                  have WX5 : Hid (∀ w', KeptBut Z1.S W5 w' → (convert 22 9 (.slice (some ⟨kx, 0, none⟩) 4 4)).run Tryd.prog w' = .ok (.string ST) w') := hide (fun w' hR => by rw [← hST.out]; exact str_bytes (hR.bs hbx X.lt hks))
                  have HN : Hid (LastI w W5 Z5 g gw (q + 1) (D1.reads q) zs) := hide ⟨C5, G4.step s5, HLd.out.size, HLd.out.n, (by show spendL D1.left = -1; rw [HLd.out.left]; rfl), (by have := HLd.out.tr; show (D1.tr ++ _).length ≤ _; rw [List.length_append]; simp only [List.length_singleton]; omega), HLd.out.want⟩
                  clear X C5 C4 s5 G4 HLd hbx hks hkx
                  refine wpRel_quiet (v := ?_) rfl rfl (fun _ _ _ h => h) (by rfl) ?_ ?_
                  rotate_left
                  · (intro w' hR; have e1 := WX5.out w' hR; go_simp; try rfl)
                  simp only [Act.put, List.setIfInBounds_toArray, List.set_cons_zero, List.set_cons_succ]
                  refine wpRel_quiet (v := ?_) rfl rfl (fun _ _ _ h => h) (by rfl) ?_ ?_
                  rotate_left
                  · (intro w' hR; have e1 := WX5.out w' hR; go_simp; try rfl)
                  simp only [Act.put, List.setIfInBounds_toArray, List.set_cons_zero, List.set_cons_succ]
                  refine wpRel_quiet (v := ?_) rfl rfl (fun _ _ _ h => h) (by rfl) ?_ ?_
                  rotate_left
                  · (intro w' hR; have e1 := WX5.out w' hR; go_simp; try rfl)
                  simp only [Act.put, List.setIfInBounds_toArray, List.set_cons_zero, List.set_cons_succ]
                  refine wpRel_nil ?_
                  clear WX5 hA
                  go_wp2_with fail
                  exact ⟨⟨q + 1, Z5, _, by omega, congrArg _ (by omega), HN.out⟩, by simp [intOf]; omega⟩
                · have hlt' : ¬ (q : Int) < 8 := by omega
                  have C4 := hL.cl
                  have hAw := awake_any wr (C4.pow hp)
                  clear hL
                  go_wp2_with fail
                  refine hAw.mono ?_
                  rintro e W6 ⟨rfl, b6⟩
                  have hfin := C4.bel.trans (b6.mono C4.size)
                  go_wp2_with fail
                  go_ret
                  exact ⟨rfl, hfin⟩

            · clear hlt hI
              go_wp2_with fail
              refine HCr.out.mono ?_
              rintro e W0 ⟨Z0, bk, rfl, hbk, C0, s0⟩
              have hbk := hbk.out
              rw [HI.out.size] at hbk
              have hL0 : LastI w W0 Z0 g gw 0 (D.crash bk) zs := ⟨C0, HI.out.has.step s0, HI.out.size, HI.out.n, rfl, (by have := HI.out.tr; show (D.tr ++ _).length ≤ _; rw [List.length_append]; simp only [List.length_singleton]; omega), (by show Want zs (zOf bk); rw [hbk]; exact HI.out.want)⟩
              clear C0 s0 HI HCr hbk hkl hk1 hk2
              generalize D.crash bk = D0 at hL0
              go_wp2_with fail
              go_loopw [14] (fun s14 wr4 => ∃ (k : Nat) (Z1 : Own) (D : DS), k ≤ 8 ∧ s14 = .int .i64 (k : Int) ∧ LastI w wr4 Z1 g gw k D zs) (fun s14 _ => 8 - (intOf s14).toNat)
              case atStart => exact ⟨0, Z0, D0, Nat.zero_le _, rfl, hL0⟩
              case round =>
                clear hL0 D0
                obtain ⟨q, Z1, D1, hk8, rfl, hL⟩ := hrel
                by_cases hlt : q < 8
                · have hlt' : (q : Int) < 8 := by omega
                  have hw1 : IntKind.i64.wrap ((q : Int) + 1) = ((q + 1 : Nat) : Int) := by rw [IntKind.wrap_i64]; omega
                  have HLd := hide hL
                  have C1 := hL.cl.drew
                  have HSt := hide (C1.stable q (by rw [hL.n]; exact hlt) 4 (sub4 zs q) hL.size (hL.want.at2 q hlt))
                  have hA := run_arr_at (P := Tryd.prog) Tryd.underlying44 Tryd.size_u8 gw (q * 4)
                  have hbw : Bs wr.drew (some ⟨gw, q * 4, none⟩) 4 4 (sub4 zs q) := by rw [Nat.mul_comm]; exact OwnB.bs4 (w := wr.drew) (E := 45) hL.has.1 hL.want.len hL.want.by_ q hlt
                  have hgl : gw < wr.drew.heap.size := hL.has.lt
                  have hgs := hL.has.2
                  have hgr : wr.drew.heap[gw]? = some (wantO zs) := hL.has.1
                  have hzb : IsBytes (sub4 zs q) := hbw.bytes
                  have hzl := hbw.length
                  obtain ⟨ST, hST⟩ : ∃ ST, Hid (strOfNums (sub4 zs q) = ST) := ⟨_, rfl⟩
                  have WS : Hid (∀ w', KeptBut Z1.S wr.drew w' → (convert 22 9 (.slice (some ⟨gw, q * 4, none⟩) 4 4)).run Tryd.prog w' = .ok (.string ST) w') := hide (fun w' hR => by rw [← hST.out]; exact str_bytes (hR.bs hbw hgl hgs))
                  clear hL
                  go_wp2_with fail
                  refine wp_region_rel (KeptBut Z1.S) [0, 1, 4, 5, 6, 7, 2, 3, 8, 9, 10, 11, 14, 15, 16, 17, 12, 13, 18, 19] (by kernel_rfl) (by kernel_rfl) (by kernel_rfl) (KeptBut.refl _) KeptBut.trans ?_
                  generalize wr.drew = wd at *
                  refine wpRel_quiet (v := ?_) rfl rfl (fun _ _ _ h => h) (by rfl) ?_ ?_
                  rotate_left
                  · (intro w' hR; have e1 := WS.out w' hR; go_simp; try rfl)
                  simp only [Act.put, List.setIfInBounds_toArray, List.set_cons_zero, List.set_cons_succ]
                  refine wpRel_quiet (v := ?_) rfl rfl (fun _ _ _ h => h) (by rfl) ?_ ?_
                  rotate_left
                  · (intro w' hR; have e1 := WS.out w' hR; go_simp; try rfl)
                  simp only [Act.put, List.setIfInBounds_toArray, List.set_cons_zero, List.set_cons_succ]
                  refine wpRel_quiet (v := ?_) rfl rfl (fun _ _ _ h => h) (by rfl) ?_ ?_
                  rotate_left
                  · (intro w' hR; have e1 := WS.out w' hR; go_simp; try rfl)
                  simp only [Act.put, List.setIfInBounds_toArray, List.set_cons_zero, List.set_cons_succ]
                  refine wpRel_quiet (v := ?_) rfl rfl (fun _ _ _ h => h) (by rfl) ?_ ?_
                  rotate_left
                  · (intro w' hR; have e1 := WS.out w' hR; go_simp; try rfl)
                  simp only [Act.put, List.setIfInBounds_toArray, List.set_cons_zero, List.set_cons_succ]
                  refine wpRel_quiet (v := ?_) rfl rfl (fun _ _ _ h => h) (by rfl) ?_ ?_
                  rotate_left
                  · (intro w' hR; have e1 := WS.out w' hR; go_simp; try rfl)
                  simp only [Act.put, List.setIfInBounds_toArray, List.set_cons_zero, List.set_cons_succ]
                  refine wpRel_quiet (v := ?_) rfl rfl (fun _ _ _ h => h) (by rfl) ?_ ?_
                  rotate_left
                  · (intro w' hR; have e1 := WS.out w' hR; go_simp; try rfl)
                  simp only [Act.put, List.setIfInBounds_toArray, List.set_cons_zero, List.set_cons_succ]
                  refine wpRel_step rfl rfl (by rfl) (fun K' hK => ?_)
                  go_simp
                  refine HSt.out.mono ?_
                  rintro e W4 ⟨rfl, Y, C4, b4⟩
                  have hkb := KeptBut.of_below Z1.S b4
                  refine hK.out _ _ hkb ?_
                  clear hK K' HSt
                  try simp only [Act.put, List.setIfInBounds_toArray, List.set_cons_zero, List.set_cons_succ]
                  have WS4 : Hid (∀ w', KeptBut Z1.S W4 w' → (convert 22 9 (.slice (some ⟨gw, q * 4, none⟩) 4 4)).run Tryd.prog w' = .ok (.string ST) w') := hide (fun w' hR => WS.out w' (KeptBut.trans _ _ _ hkb hR))
                  have hby : Bs W4 (some ⟨wd.heap.size, 0, none⟩) 4 4 (sub4 zs q) := OwnB.bs (E := 5) Y.1 hzb 4 hzl (by omega)
                  have WY4 : Hid (∀ w', KeptBut Z1.S W4 w' → (convert 22 9 (.slice (some ⟨wd.heap.size, 0, none⟩) 4 4)).run Tryd.prog w' = .ok (.string ST) w') := hide (fun w' hR => by rw [← hST.out]; exact str_bytes (hR.bs hby Y.lt Y.2))
                  have HRd := hide (C4.read (by rw [HLd.out.left]; decide) (by have := HLd.out.tr; omega) q (by rw [HLd.out.n]; exact hlt) 4 (sub4 zs q) HLd.out.size (HLd.out.want.at1 q hlt))
                  have G4 : Has Z1 W4 gw (wantO zs) := ⟨(hkb.2 gw hgl hgs).trans hgr, hgs⟩
                  clear WS b4 hkb Y hby C1 hbw
                  generalize wd.heap.size = ky at *
                  refine wpRel_quiet (v := ?_) rfl rfl (fun _ _ _ h => h) (by rfl) ?_ ?_
                  rotate_left
                  · (intro w' hR; have e1 := WS4.out w' hR; have e2 := WY4.out w' hR; go_simp; try rfl)
                  simp only [Act.put, List.setIfInBounds_toArray, List.set_cons_zero, List.set_cons_succ]
                  refine wpRel_quiet (v := ?_) rfl rfl (fun _ _ _ h => h) (by rfl) ?_ ?_
                  rotate_left
                  · (intro w' hR; have e1 := WS4.out w' hR; have e2 := WY4.out w' hR; go_simp; try rfl)
                  simp only [Act.put, List.setIfInBounds_toArray, List.set_cons_zero, List.set_cons_succ]
                  refine wpRel_quiet (v := ?_) rfl rfl (fun _ _ _ h => h) (by rfl) ?_ ?_
                  rotate_left
                  · (intro w' hR; have e1 := WS4.out w' hR; have e2 := WY4.out w' hR; go_simp; try rfl)
                  simp only [Act.put, List.setIfInBounds_toArray, List.set_cons_zero, List.set_cons_succ]
                  refine wpRel_quiet (v := ?_) rfl rfl (fun _ _ _ h => h) (by rfl) ?_ ?_
                  rotate_left
                  · (intro w' hR; have e1 := WS4.out w' hR; have e2 := WY4.out w' hR; go_simp; try rfl)
                  simp only [Act.put, List.setIfInBounds_toArray, List.set_cons_zero, List.set_cons_succ]
                  refine wpRel_quiet (v := ?_) rfl rfl (fun _ _ _ h => h) (by rfl) ?_ ?_
                  rotate_left
                  · (intro w' hR; have e1 := WS4.out w' hR; have e2 := WY4.out w' hR; go_simp; try rfl)
                  simp only [Act.put, List.setIfInBounds_toArray, List.set_cons_zero, List.set_cons_succ]
                  refine wpRel_quiet (v := ?_) rfl rfl (fun _ _ _ h => h) (by rfl) ?_ ?_
                  rotate_left
                  · (intro w' hR; have e1 := WS4.out w' hR; have e2 := WY4.out w' hR; go_simp; try rfl)
                  simp only [Act.put, List.setIfInBounds_toArray, List.set_cons_zero, List.set_cons_succ]
                  refine wpRel_quiet (v := ?_) rfl rfl (fun _ _ _ h => h) (by rfl) ?_ ?_
                  rotate_left
                  · (intro w' hR; have e1 := WS4.out w' hR; have e2 := WY4.out w' hR; go_simp; try rfl)
                  simp only [Act.put, List.setIfInBounds_toArray, List.set_cons_zero, List.set_cons_succ]
                  refine wpRel_quiet (v := ?_) rfl rfl (fun _ _ _ h => h) (by rfl) ?_ ?_
                  rotate_left
                  · (intro w' hR; have e1 := WS4.out w' hR; have e2 := WY4.out w' hR; go_simp; try rfl)
                  simp only [Act.put, List.setIfInBounds_toArray, List.set_cons_zero, List.set_cons_succ]
                  refine wpRel_quiet (v := ?_) rfl rfl (fun _ _ _ h => h) (by rfl) ?_ ?_
                  rotate_left
                  · (intro w' hR; have e1 := WS4.out w' hR; have e2 := WY4.out w' hR; go_simp; try rfl)
                  simp only [Act.put, List.setIfInBounds_toArray, List.set_cons_zero, List.set_cons_succ]
                  refine wpRel_step rfl rfl (by rfl) (fun K' hK => ?_)
                  go_simp
                  refine HRd.out.mono ?_
                  rintro e W5 ⟨kx, Z5, rfl, hkx, X, C5, s5⟩
                  have hks : ¬ Z1.S kx := fun hs => by have := C4.dk.lt _ hs; omega
                  refine hK.out _ _ (KeptBut.of_step s5) ?_
                  clear hK K' HRd WS4 WY4
                  try simp only [Act.put, List.setIfInBounds_toArray, List.set_cons_zero, List.set_cons_succ]
                  have hbx : Bs W5 (some ⟨kx, 0, none⟩) 4 4 (sub4 zs q) := OwnB.bs (E := 5) X.1 hzb 4 hzl (by omega)
                  have WX5 : Hid (∀ w', KeptBut Z1.S W5 w' → (convert 22 9 (.slice (some ⟨kx, 0, none⟩) 4 4)).run Tryd.prog w' = .ok (.string ST) w') := hide (fun w' hR => by rw [← hST.out]; exact str_bytes (hR.bs hbx X.lt hks))
                  have HN : Hid (LastI w W5 Z5 g gw (q + 1) (D1.reads q) zs) := hide ⟨C5, G4.step s5, HLd.out.size, HLd.out.n, (by show spendL D1.left = -1; rw [HLd.out.left]; rfl), (by have := HLd.out.tr; show (D1.tr ++ _).length ≤ _; rw [List.length_append]; simp only [List.length_singleton]; omega), HLd.out.want⟩
                  clear X C5 C4 s5 G4 HLd hbx hks hkx
                  refine wpRel_quiet (v := ?_) rfl rfl (fun _ _ _ h => h) (by rfl) ?_ ?_
                  rotate_left
                  · (intro w' hR; have e1 := WX5.out w' hR; go_simp; try rfl)
                  simp only [Act.put, List.setIfInBounds_toArray, List.set_cons_zero, List.set_cons_succ]
                  refine wpRel_quiet (v := ?_) rfl rfl (fun _ _ _ h => h) (by rfl) ?_ ?_
                  rotate_left
                  · (intro w' hR; have e1 := WX5.out w' hR; go_simp; try rfl)
                  simp only [Act.put, List.setIfInBounds_toArray, List.set_cons_zero, List.set_cons_succ]
                  refine wpRel_quiet (v := ?_) rfl rfl (fun _ _ _ h => h) (by rfl) ?_ ?_
                  rotate_left
                  · (intro w' hR; have e1 := WX5.out w' hR; go_simp; try rfl)
                  simp only [Act.put, List.setIfInBounds_toArray, List.set_cons_zero, List.set_cons_succ]
                  refine wpRel_nil ?_
                  clear WX5 hA
                  go_wp2_with fail
                  exact ⟨⟨q + 1, Z5, _, by omega, congrArg _ (by omega), HN.out⟩, by simp [intOf]; omega⟩
                · have hlt' : ¬ (q : Int) < 8 := by omega
                  have C4 := hL.cl
                  have hAw := awake_any wr (C4.pow hp)
                  clear hL
                  go_wp2_with fail
                  refine hAw.mono ?_
                  rintro e W6 ⟨rfl, b6⟩
                  have hfin := C4.bel.trans (b6.mono C4.size)
                  go_wp2_with fail
                  go_ret
                  exact ⟨rfl, hfin⟩

      · clear hlt hI
        go_wp2_with fail
        refine HFl.out.mono ?_
        rintro e W0 ⟨Z0, rfl, C0, s0⟩
        have hI0 : SecondI w W0 Z0 g gw 0 D.flush zs ch := ⟨C0, HI.out.has.step s0, HI.out.size, HI.out.n, (by show spendL D.left = -1; rw [HI.out.left]; rfl), (by have := HI.out.tr; show (D.tr ++ _).length ≤ _; rw [List.length_append]; simp only [List.length_singleton]; omega), rfl, HI.out.want⟩
        clear C0 s0 HI HFl hk1 hk2
        go_wp2_with fail
        generalize D.flush = D0 at hI0
        clear hkl
        go_loopw [10] (fun s10 wr1 => ∃ (k : Nat) (Z1 : Own) (D : DS) (zs : List Int), k ≤ lb ∧ k ≤ 20 ∧ s10 = .int .i64 (k : Int) ∧ SecondI w wr1 Z1 g gw k D zs ch) (fun s10 _ => 20 - (intOf s10).toNat)
        case atStart => exact ⟨0, Z0, D0, zs, Nat.zero_le _, Nat.zero_le _, rfl, hI0⟩
        case round =>
          clear hI0
          clear zs D0 D
          obtain ⟨k, Z1, D, zs, hk1, hk2, rfl, hI⟩ := hrel
          by_cases hlt : k < lb ∧ k < 20
          · obtain ⟨hkl, hk20⟩ := hlt
            have hk20' : (k : Int) < 20 := by omega
            obtain ⟨⟨tb, toff, rfl, hcell⟩, hbs⟩ := HB.out.item k hkl
            have htb := World.block_lt_of_cell? w _ hcell
            have cx := (hI.cl.bel.cell htb).trans hcell
            obtain ⟨i, hi⟩ : ∃ i : Nat, k * 3 % 8 = i := ⟨_, rfl⟩
            have hi8 : i < 8 := by omega
            have hi8' : (i : Int) < 8 := by omega
            have hw3 : IntKind.i64.wrap ((k : Int) * 3) = (k : Int) * 3 := by rw [IntKind.wrap_i64]; omega
            have m1 : bits .and .i64 ((k : Int) * 3) 7 = (i : Int) := by rw [i64_and7]; omega
            have hw1 : IntKind.i64.wrap ((k : Int) + 1) = ((k + 1 : Nat) : Int) := by rw [IntKind.wrap_i64]; omega
            have HW := hide (hI.cl.write (by rw [hI.left]; decide) (by have := hI.tr; omega) (by rw [hI.wait]; omega) i (by rw [hI.n]; exact hi8) (hI.cl.bz hbs) ((ys k).zs.take 4) (by rw [hI.size]))
            have HI := hide hI
            clear hI
            go_wp2_with fail
            refine HW.out.mono ?_
            rintro e W1 ⟨Z2, x, rfl, hx, C1, s1⟩
            have G1 := HI.out.has.step s1
            have hz := HI.out.want.len
            have B1 : Has Z2 (W1.alloc (.cells #[.int .u8 0, .int .u8 0, .int .u8 0, .int .u8 0] 44)) W1.heap.size (fourO (zL 4)) := C1.new (fourO (zL 4))
            have C2 : Cl w (W1.alloc (.cells #[.int .u8 0, .int .u8 0, .int .u8 0, .int .u8 0] 44)) Z2 g (D.writes i x) := C1.alloc _
            have G2 : Has Z2 (W1.alloc (.cells #[.int .u8 0, .int .u8 0, .int .u8 0, .int .u8 0] 44)) gw (wantO zs) := G1.alloc _
            have hne : W1.heap.size ≠ gw := Nat.ne_of_gt G1.lt
            have hgbw : w.heap.size ≤ W1.heap.size := C1.size
            clear HW C1 s1 G1 cx
            have cx2 : (W1.alloc (.cells #[.int .u8 0, .int .u8 0, .int .u8 0, .int .u8 0] 44)).cell? ⟨tb, toff + k, none⟩ = some (ys k).v := (C2.bel.cell htb).trans hcell
            go_wp2_with fail
            generalize W1.heap.size = gb at *
            generalize W1.alloc (.cells #[.int .u8 0, .int .u8 0, .int .u8 0, .int .u8 0] 44) = W2 at *
            obtain ⟨w3, hr3, n3, o3⟩ := run_copy_into (P := Tryd.prog) Tryd.underlying22 Tryd.size_u8 3 W2.drew (ys k).a 4 4 (ys k).len (ys k).cap gb 0 (min (ys k).len 4) _ (ys k).zs (show W2.drew.heap[gb]? = some (fourO (zL 4)) from B1.1) rfl (C2.drew.bz hbs).bs (by rw [List.length_map, zL_length]; omega)
            have C3 := C2.drew.only o3 B1.2 hgbw
            have G3 : Has Z2 w3 gw (wantO zs) := Has.only (W := W2.drew) G2 o3 (Ne.symm hne)
            rw [splice_map, show (ys k).len = (ys k).zs.length from hbs.length.symm, fitL_splice] at n3
            have B3 : Has Z2 w3 gb (fourO (fitL 4 (ys k).zs)) := ⟨n3, B1.2⟩
            have hA := run_arr_at (P := Tryd.prog) Tryd.underlying44 Tryd.size_u8 gb 0
            have cx3 : w3.cell? ⟨tb, toff + k, none⟩ = some (ys k).v := (C3.bel.cell htb).trans hcell
            have HR := hide hr3
            clear hr3 n3 o3 B1 G2 C2
            refine wp_region_ord 1000 [0, 1, 2, 3, 4, 5] (fun w' => w'.cell? ⟨tb, toff + k, none⟩ = some (ys k).v) (fun _ => True) (by kernel_rfl) (by kernel_rfl) (by kernel_rfl) cx2 trivial (fun _ _ => ?_)
            clear cx2
            generalize W2.drew = W3 at *
            refine wpOrd_quiet (v := ?_) rfl rfl (fun _ _ _ h => h) (by rfl) ?_ ?_
            rotate_left
            · (intro w' hT _; have hT : w'.cell? ⟨tb, toff + k, none⟩ = some (ys k).v := hT; go_simp; try rfl)
            simp only [Act.put, List.setIfInBounds_toArray, List.set_cons_zero, List.set_cons_succ]
            refine wpOrd_quiet (v := ?_) rfl rfl (fun _ _ _ h => h) (by rfl) ?_ ?_
            rotate_left
            · (intro w' hT _; have hT : w'.cell? ⟨tb, toff + k, none⟩ = some (ys k).v := hT; go_simp; try rfl)
            simp only [Act.put, List.setIfInBounds_toArray, List.set_cons_zero, List.set_cons_succ]
            refine wpOrd_quiet (v := ?_) rfl rfl (fun _ _ _ h => h) (by rfl) ?_ ?_
            rotate_left
            · (intro w' hT _; have hT : w'.cell? ⟨tb, toff + k, none⟩ = some (ys k).v := hT; go_simp; try rfl)
            simp only [Act.put, List.setIfInBounds_toArray, List.set_cons_zero, List.set_cons_succ]
            refine wpOrd_quiet (v := ?_) rfl rfl (fun _ _ _ h => h) (by rfl) ?_ ?_
            rotate_left
            · (intro w' hT _; have hT : w'.cell? ⟨tb, toff + k, none⟩ = some (ys k).v := hT; go_simp; try rfl)
            simp only [Act.put, List.setIfInBounds_toArray, List.set_cons_zero, List.set_cons_succ]
            refine wpOrd_quiet (v := ?_) rfl rfl (fun _ _ _ h => h) (by rfl) ?_ ?_
            rotate_left
            · (intro w' hT _; have hT : w'.cell? ⟨tb, toff + k, none⟩ = some (ys k).v := hT; go_simp; try rfl)
            simp only [Act.put, List.setIfInBounds_toArray, List.set_cons_zero, List.set_cons_succ]
            refine wpOrd_step rfl rfl (by rfl) (fun K' hK => ?_)
            have hr3 := HR.out
            go_simp
            refine hK.out _ _ cx3 (fun h => absurd h (by decide)) (fun _ => ?_)
            refine wpOrd_nil ?_
            clear hr3 HR hA hK K' cx3
            by_cases hkc : k < lc
            · obtain ⟨cb0, coff, rfl, hcc0⟩ : ∃ bb off, c = some ⟨bb, off, none⟩ ∧ ∀ i, i < lc → w.cell? ⟨bb, off + i, none⟩ = some (.int .i64 (ch.getD i 0)) := by
                rcases HCh.out.place with h1 | h1
                · omega
                · exact h1
              have hz0 := hcc0 k hkc
              have cz := (C3.bel.cell (World.block_lt_of_cell? w _ hz0)).trans hz0
              have hzr := int_of_wf (HCh.out.getD k hkc)
              have hch : chL ch k = ch.getD k 0 % 3 := by unfold chL; rw [if_pos (by rw [HCh.out.length]; exact hkc)]
              clear hcc0 hz0
              generalize ch.getD k 0 = z at *
              have hm3 := tmod3 z
              have hq1 : IntKind.i64.wrap (z.tmod 3) = z.tmod 3 := by rw [IntKind.wrap_i64]; omega
              have hq2 : IntKind.i64.wrap (z.tmod 3 + 3) = z.tmod 3 + 3 := by rw [IntKind.wrap_i64]; omega
              have hmd := mod3 z
              have hmt := mod3t z
              have hcs := mod3_cases z
              generalize z % 3 = c0 at *
              rcases hcs with rfl | rfl | rfl
              · have HC0 := hide hch
                clear hch hzr hm3
                obtain ⟨WX, hWX⟩ : ∃ WX, Hid (w3.setCells gw (i * 4) ((fitL 4 (ys k).zs).map (Value.int .u8)).toArray.toList = WX) := ⟨_, rfl⟩
                have eL : ((fitL 4 (ys k).zs).map (Value.int .u8)).toArray.toList = (fitL 4 (ys k).zs).map (Value.int .u8) := rfl
                have hF4 := fitL_length 4 (ys k).zs
                have hth := OwnB.there (E := 45) G3.1 (i * 4) ((fitL 4 (ys k).zs).map (Value.int .u8)).toArray.size (by simp [hF4]; omega)
                have hw32 := OwnB.setCells (E := 45) (fitL 4 (ys k).zs) (i * 4) G3.1 (by rw [hF4]; omega)
                have o1 := setCells_only gw ((fitL 4 (ys k).zs).map (Value.int .u8)) (i * 4) w3
                rw [← eL, hWX.out] at hw32 o1
                have C4 := C3.only o1 G3.2 hbase
                rw [Nat.mul_comm i 4] at hw32
                have hsub := fun j => sub4_splice zs (fitL 4 (ys k).zs) i j hz hi8 (by omega)
                have hN : SecondI w WX Z2 g gw (k + 1) (D.writes i x) _ ch := ⟨C4, ⟨hw32, G3.2⟩, HI.out.size, HI.out.n, (by show spendL D.left = -1; rw [HI.out.left]; rfl), (by have := HI.out.tr; show (D.tr ++ _).length ≤ _; rw [List.length_append]; simp only [List.length_singleton]; omega), (by show (D.wait ++ _).length = _; rw [List.length_append, HI.out.wait]; rfl), HI.out.want.second hi8 hx.out (by rw [splice_length _ _ _ (by omega)]; exact hz) (splice_bytes HI.out.want.by_ (fitL_bytes 4 hbs.bytes)) (fun j hj => by rw [hsub, if_neg hj]) (by
                  rw [hsub, if_pos rfl, HI.out.wait, HC0.out, if_neg (by decide), if_neg (by decide)]
                  have := splice_whole (sub4 zs i) (fitL 4 (ys k).zs) (by rw [sub4_length _ _ hz hi8]; exact hF4)
                  rwa [sub4_length _ _ hz hi8, List.take_of_length_le (by omega)] at this)⟩
                have HN := hide hN
                have hTh := hide hth
                have HR4 := hide (OwnB.range (E := 44) B3.1)
                have hszA : (Tryd.prog.info? 44).map (·.size) = some ((fitL 4 (ys k).zs).map (Value.int .u8)).toArray.size := by simp only [List.size_toArray, List.length_map, hF4]; exact size_4
                have hszL : (Tryd.prog.info? 44).map (·.size) = some ((fitL 4 (ys k).zs).map (Value.int .u8)).length := by simp only [List.length_map, hF4]; exact size_4
                have hal : ((fitL 4 (ys k).zs).map (Value.int .u8)).toArray.all (·.oneCell') = true := all_oneCell_toArray (fun v hv => by
                  obtain ⟨z, _, rfl⟩ := List.mem_map.1 hv
                  rfl)
                clear hN hth hw32 o1 C4 HI C3 G3 B3 hx hsub HC0 eL hF4
                go_wp2_with (first
                  | (refine wpList_load_mid rfl 44 _ (by rfl) gb 0 (by rfl) ((fitL 4 (ys k).zs).map (Value.int .u8)) _ HR4.out Tryd.underlying44 rfl hszL ?_)
                  | (refine wpList_store_mid rfl 44 _ _ (by rfl) gw (i * 4) ((fitL 4 (ys k).zs).map (Value.int .u8)).toArray (by rfl) (by rfl) hTh.out hszA hal ?_; rw [hWX.out]))
                clear hWX hTh HR4 hszA hszL hal
                go_loopw [13] (fun s13 wr2 => s13 = .int .i64 0 ∧ wr2 = WX) (fun _ _ => 0)
                case atStart => exact ⟨rfl, rfl⟩
                case round =>
                  obtain ⟨rfl, rfl⟩ := hrel
                  go_wp2_with fail
                  exact ⟨⟨k + 1, Z2, _, _, by omega, by omega, congrArg _ (by omega), HN.out⟩, by simp [intOf]; omega⟩

              · have HC0 := hide hch
                clear hch hzr hm3
                obtain ⟨WX, hWX⟩ : ∃ WX, w3 = WX := ⟨_, rfl⟩
                subst hWX
                have hN : SecondI w w3 Z2 g gw (k + 1) (D.writes i x) zs ch := ⟨C3, G3, HI.out.size, HI.out.n, (by show spendL D.left = -1; rw [HI.out.left]; rfl), (by have := HI.out.tr; show (D.tr ++ _).length ≤ _; rw [List.length_append]; simp only [List.length_singleton]; omega), (by show (D.wait ++ _).length = _; rw [List.length_append, HI.out.wait]; rfl), HI.out.want.second hi8 hx.out hz HI.out.want.by_ (fun j hj => rfl) (by rw [HI.out.wait, HC0.out, if_pos rfl])⟩
                have HN := hide hN
                clear hN HI C3 G3 B3 hx HC0
                go_wp2_with fail
                go_loopw [13] (fun s13 wr2 => s13 = .int .i64 0 ∧ wr2 = w3) (fun _ _ => 0)
                case atStart => exact ⟨rfl, rfl⟩
                case round =>
                  obtain ⟨rfl, rfl⟩ := hrel
                  go_wp2_with fail
                  exact ⟨⟨k + 1, Z2, _, _, by omega, by omega, congrArg _ (by omega), HN.out⟩, by simp [intOf]; omega⟩

              · have HC0 := hide hch
                clear hch hzr hm3
                have hF4 := fitL_length 4 (ys k).zs
                have hFb := fitL_bytes 4 hbs.bytes
                have hin := InnerI.start (i := i) C3 G3 B3 hz HI.out.want.by_
                clear C3 G3 B3
                go_wp2_with fail
                go_loopw [13] (fun s13 wr2 => ∃ (j : Nat) (zs' : List Int), j ≤ 4 ∧ s13 = .int .i64 (j : Int) ∧ InnerI w wr2 Z2 g gw gb i j (D.writes i x) zs (fitL 4 (ys k).zs) zs') (fun s13 _ => 4 - (intOf s13).toNat)
                case atStart => exact ⟨0, zs, Nat.zero_le _, rfl, hin⟩
                case round =>
                  obtain ⟨j, zs', hj4, rfl, hJ⟩ := hrel
                  clear hin
                  by_cases hj : j < 4
                  · have hj' : (j : Int) < 4 := by omega
                    have hJd := hJ.drew
                    have cb := OwnB.cell (E := 44) hJ.bh.1 j (by omega)
                    have hthj := OwnB.there (E := 45) hJd.has.1 (i * 4) 4 (by rw [hJ.len]; omega) j hj
                    obtain ⟨v0, hv0⟩ := Option.isSome_iff_exists.1 hthj.1
                    have hfz := hthj.2
                    clear hJ hthj
                    have hX := bits_xr ((fitL 4 (ys k).zs).getD j 0) 165 (by rw [List.getD, List.getElem?_eq_getElem (by omega)]; exact hFb _ (List.getElem_mem _)) ⟨by decide, by decide⟩
                    have HNx := hide (hJd.next hne hbase hi8 hj hF4 hFb hz)
                    have cb2 := OwnB.cell (E := 44) HNx.out.bh.1 j (by omega)
                    have hwj : IntKind.i64.wrap ((j : Int) + 1) = ((j + 1 : Nat) : Int) := by rw [IntKind.wrap_i64]; omega
                    clear hJd
                    generalize (fitL 4 (ys k).zs).getD j 0 = Bj at *
                    go_wp2_with fail
                    refine wp_region_ord 1000 [0, 1, 2, 3, 4, 5, 6, 7, 8, 9, 10] (fun w' => w'.cell? ⟨gb, j, none⟩ = some (.int .u8 Bj)) (fun _ => True) (by kernel_rfl) (by kernel_rfl) (by kernel_rfl) cb trivial (fun _ _ => ?_)
                    clear cb
                    generalize wr.drew = wd at *
                    refine wpOrd_quiet (v := ?_) rfl rfl (fun _ _ _ h => h) (by rfl) ?_ ?_
                    rotate_left
                    · (intro w' hT _; have hT : w'.cell? ⟨gb, j, none⟩ = some (.int .u8 Bj) := hT; go_simp; try rfl)
                    simp only [Act.put, List.setIfInBounds_toArray, List.set_cons_zero, List.set_cons_succ]
                    refine wpOrd_quiet (v := ?_) rfl rfl (fun _ _ _ h => h) (by rfl) ?_ ?_
                    rotate_left
                    · (intro w' hT _; have hT : w'.cell? ⟨gb, j, none⟩ = some (.int .u8 Bj) := hT; go_simp; try rfl)
                    simp only [Act.put, List.setIfInBounds_toArray, List.set_cons_zero, List.set_cons_succ]
                    refine wpOrd_quiet (v := ?_) rfl rfl (fun _ _ _ h => h) (by rfl) ?_ ?_
                    rotate_left
                    · (intro w' hT _; have hT : w'.cell? ⟨gb, j, none⟩ = some (.int .u8 Bj) := hT; go_simp; try rfl)
                    simp only [Act.put, List.setIfInBounds_toArray, List.set_cons_zero, List.set_cons_succ]
                    refine wpOrd_quiet (v := ?_) rfl rfl (fun _ _ _ h => h) (by rfl) ?_ ?_
                    rotate_left
                    · (intro w' hT _; have hT : w'.cell? ⟨gb, j, none⟩ = some (.int .u8 Bj) := hT; go_simp; try rfl)
                    simp only [Act.put, List.setIfInBounds_toArray, List.set_cons_zero, List.set_cons_succ]
                    refine wpOrd_quiet (v := ?_) rfl rfl (fun _ _ _ h => h) (by rfl) ?_ ?_
                    rotate_left
                    · (intro w' hT _; have hT : w'.cell? ⟨gb, j, none⟩ = some (.int .u8 Bj) := hT; go_simp; try rfl)
                    simp only [Act.put, List.setIfInBounds_toArray, List.set_cons_zero, List.set_cons_succ]
                    refine wpOrd_quiet (v := ?_) rfl rfl (fun _ _ _ h => h) (by rfl) ?_ ?_
                    rotate_left
                    · (intro w' hT _; have hT : w'.cell? ⟨gb, j, none⟩ = some (.int .u8 Bj) := hT; go_simp; try rfl)
                    simp only [Act.put, List.setIfInBounds_toArray, List.set_cons_zero, List.set_cons_succ]
                    refine wpOrd_quiet (v := ?_) rfl rfl (fun _ _ _ h => h) (by rfl) ?_ ?_
                    rotate_left
                    · (intro w' hT _; have hT : w'.cell? ⟨gb, j, none⟩ = some (.int .u8 Bj) := hT; go_simp; try rfl)
                    simp only [Act.put, List.setIfInBounds_toArray, List.set_cons_zero, List.set_cons_succ]
                    refine wpOrd_quiet (v := ?_) rfl rfl (fun _ _ _ h => h) (by rfl) ?_ ?_
                    rotate_left
                    · (intro w' hT _; have hT : w'.cell? ⟨gb, j, none⟩ = some (.int .u8 Bj) := hT; go_simp; try rfl)
                    simp only [Act.put, List.setIfInBounds_toArray, List.set_cons_zero, List.set_cons_succ]
                    refine wpOrd_quiet (v := ?_) rfl rfl (fun _ _ _ h => h) (by rfl) ?_ ?_
                    rotate_left
                    · (intro w' hT _; have hT : w'.cell? ⟨gb, j, none⟩ = some (.int .u8 Bj) := hT; go_simp; try rfl)
                    simp only [Act.put, List.setIfInBounds_toArray, List.set_cons_zero, List.set_cons_succ]
                    refine wpOrd_quiet (v := ?_) rfl rfl (fun _ _ _ h => h) (by rfl) ?_ ?_
                    rotate_left
                    · (intro w' hT _; have hT : w'.cell? ⟨gb, j, none⟩ = some (.int .u8 Bj) := hT; go_simp; try rfl)
                    simp only [Act.put, List.setIfInBounds_toArray, List.set_cons_zero, List.set_cons_succ]
                    refine wpOrd_step rfl rfl (by rfl) (fun K' hK => ?_)
                    go_simp
                    refine hK.out _ _ cb2 (fun h => absurd h (by decide)) (fun _ => ?_)
                    refine wpOrd_nil ?_
                    clear hK K' cb2 hv0 hfz
                    go_wp2_with fail
                    exact ⟨⟨j + 1, _, by omega, congrArg _ (by omega), HNx.out⟩, by simp [intOf]; omega⟩
                  · have hj' : ¬ (j : Int) < 4 := by omega
                    obtain rfl : j = 4 := by omega
                    have hN : SecondI w wr Z2 g gw (k + 1) (D.writes i x) zs' ch := ⟨hJ.cl, hJ.has, HI.out.size, HI.out.n, (by show spendL D.left = -1; rw [HI.out.left]; rfl), (by have := HI.out.tr; show (D.tr ++ _).length ≤ _; rw [List.length_append]; simp only [List.length_singleton]; omega), (by show (D.wait ++ _).length = _; rw [List.length_append, HI.out.wait]; rfl), HI.out.want.second hi8 hx.out hJ.len hJ.by_ hJ.oth (by
                      rw [HI.out.wait, HC0.out, if_neg (by decide), if_pos rfl, hJ.at_, List.take_of_length_le (by rw [badL_length]; omega), List.drop_of_length_le (by rw [sub4_length _ _ hz hi8]; omega), List.append_nil])⟩
                    have HN := hide hN
                    clear hN hJ HI
                    go_wp2_with fail
                    exact ⟨⟨k + 1, Z2, _, _, by omega, by omega, congrArg _ (by omega), HN.out⟩, by simp [intOf]; omega⟩

            · have HC0 : Hid (chL ch k = 0) := hide (by unfold chL; rw [if_neg (by rw [HCh.out.length]; exact hkc)])
              obtain ⟨WX, hWX⟩ : ∃ WX, Hid (w3.setCells gw (i * 4) ((fitL 4 (ys k).zs).map (Value.int .u8)).toArray.toList = WX) := ⟨_, rfl⟩
              have eL : ((fitL 4 (ys k).zs).map (Value.int .u8)).toArray.toList = (fitL 4 (ys k).zs).map (Value.int .u8) := rfl
              have hF4 := fitL_length 4 (ys k).zs
              have hth := OwnB.there (E := 45) G3.1 (i * 4) ((fitL 4 (ys k).zs).map (Value.int .u8)).toArray.size (by simp [hF4]; omega)
              have hw32 := OwnB.setCells (E := 45) (fitL 4 (ys k).zs) (i * 4) G3.1 (by rw [hF4]; omega)
              have o1 := setCells_only gw ((fitL 4 (ys k).zs).map (Value.int .u8)) (i * 4) w3
              rw [← eL, hWX.out] at hw32 o1
              have C4 := C3.only o1 G3.2 hbase
              rw [Nat.mul_comm i 4] at hw32
              have hsub := fun j => sub4_splice zs (fitL 4 (ys k).zs) i j hz hi8 (by omega)
              have hN : SecondI w WX Z2 g gw (k + 1) (D.writes i x) _ ch := ⟨C4, ⟨hw32, G3.2⟩, HI.out.size, HI.out.n, (by show spendL D.left = -1; rw [HI.out.left]; rfl), (by have := HI.out.tr; show (D.tr ++ _).length ≤ _; rw [List.length_append]; simp only [List.length_singleton]; omega), (by show (D.wait ++ _).length = _; rw [List.length_append, HI.out.wait]; rfl), HI.out.want.second hi8 hx.out (by rw [splice_length _ _ _ (by omega)]; exact hz) (splice_bytes HI.out.want.by_ (fitL_bytes 4 hbs.bytes)) (fun j hj => by rw [hsub, if_neg hj]) (by
                rw [hsub, if_pos rfl, HI.out.wait, HC0.out, if_neg (by decide), if_neg (by decide)]
                have := splice_whole (sub4 zs i) (fitL 4 (ys k).zs) (by rw [sub4_length _ _ hz hi8]; exact hF4)
                rwa [sub4_length _ _ hz hi8, List.take_of_length_le (by omega)] at this)⟩
              have HN := hide hN
              have hTh := hide hth
              have HR4 := hide (OwnB.range (E := 44) B3.1)
              have hszA : (Tryd.prog.info? 44).map (·.size) = some ((fitL 4 (ys k).zs).map (Value.int .u8)).toArray.size := by simp only [List.size_toArray, List.length_map, hF4]; exact size_4
              have hszL : (Tryd.prog.info? 44).map (·.size) = some ((fitL 4 (ys k).zs).map (Value.int .u8)).length := by simp only [List.length_map, hF4]; exact size_4
              have hal : ((fitL 4 (ys k).zs).map (Value.int .u8)).toArray.all (·.oneCell') = true := all_oneCell_toArray (fun v hv => by
                obtain ⟨z, _, rfl⟩ := List.mem_map.1 hv
                rfl)
              clear hN hth hw32 o1 C4 HI C3 G3 B3 hx hsub HC0 eL hF4
              go_wp2_with (first
                | (refine wpList_load_mid rfl 44 _ (by rfl) gb 0 (by rfl) ((fitL 4 (ys k).zs).map (Value.int .u8)) _ HR4.out Tryd.underlying44 rfl hszL ?_)
                | (refine wpList_store_mid rfl 44 _ _ (by rfl) gw (i * 4) ((fitL 4 (ys k).zs).map (Value.int .u8)).toArray (by rfl) (by rfl) hTh.out hszA hal ?_; rw [hWX.out]))
              clear hWX hTh HR4 hszA hszL hal
              go_loopw [13] (fun s13 wr2 => s13 = .int .i64 0 ∧ wr2 = WX) (fun _ _ => 0)
              case atStart => exact ⟨rfl, rfl⟩
              case round =>
                obtain ⟨rfl, rfl⟩ := hrel
                go_wp2_with fail
                exact ⟨⟨k + 1, Z2, _, _, by omega, by omega, congrArg _ (by omega), HN.out⟩, by simp [intOf]; omega⟩

          · have HCr := hide (hI.cl.crash (by have := hI.tr; omega) (hI.cl.nz HCh.out))
            have HI := hide hI
            by_cases hkl : k < lb
            · have h20 : ¬ (k : Int) < 20 := by omega
              clear hlt hI
              go_wp2_with fail
              refine HCr.out.mono ?_
              rintro e W0 ⟨Z0, bk, rfl, hbk, C0, s0⟩
              have hbk := hbk.out
              rw [HI.out.size] at hbk
              have hL0 : LastI w W0 Z0 g gw 0 (D.crash bk) zs := ⟨C0, HI.out.has.step s0, HI.out.size, HI.out.n, rfl, (by have := HI.out.tr; show (D.tr ++ _).length ≤ _; rw [List.length_append]; simp only [List.length_singleton]; omega), (by show Want zs (zOf bk); rw [hbk]; exact HI.out.want)⟩
              clear C0 s0 HI HCr hbk hkl hk1 hk2
              generalize D.crash bk = D0 at hL0
              go_wp2_with fail
              go_loopw [14] (fun s14 wr4 => ∃ (k : Nat) (Z1 : Own) (D : DS), k ≤ 8 ∧ s14 = .int .i64 (k : Int) ∧ LastI w wr4 Z1 g gw k D zs) (fun s14 _ => 8 - (intOf s14).toNat)
              case atStart => exact ⟨0, Z0, D0, Nat.zero_le _, rfl, hL0⟩
              case round =>
                clear hL0 D0
                obtain ⟨q, Z1, D1, hk8, rfl, hL⟩ := hrel
                by_cases hlt : q < 8
                · have hlt' : (q : Int) < 8 := by omega
                  have hw1 : IntKind.i64.wrap ((q : Int) + 1) = ((q + 1 : Nat) : Int) := by rw [IntKind.wrap_i64]; omega
                  have HLd := hide hL
                  have C1 := hL.cl.drew
                  have HSt := hide (C1.stable q (by rw [hL.n]; exact hlt) 4 (sub4 zs q) hL.size (hL.want.at2 q hlt))
                  have hA := run_arr_at (P := Tryd.prog) Tryd.underlying44 Tryd.size_u8 gw (q * 4)
                  have hbw : Bs wr.drew (some ⟨gw, q * 4, none⟩) 4 4 (sub4 zs q) := by rw [Nat.mul_comm]; exact OwnB.bs4 (w := wr.drew) (E := 45) hL.has.1 hL.want.len hL.want.by_ q hlt
                  have hgl : gw < wr.drew.heap.size := hL.has.lt
                  have hgs := hL.has.2
                  have hgr : wr.drew.heap[gw]? = some (wantO zs) := hL.has.1
                  have hzb : IsBytes (sub4 zs q) := hbw.bytes
                  have hzl := hbw.length
                  obtain ⟨ST, hST⟩ : ∃ ST, Hid (strOfNums (sub4 zs q) = ST) := ⟨_, rfl⟩
                  have WS : Hid (∀ w', KeptBut Z1.S wr.drew w' → (convert 22 9 (.slice (some ⟨gw, q * 4, none⟩) 4 4)).run Tryd.prog w' = .ok (.string ST) w') := hide (fun w' hR => by rw [← hST.out]; exact str_bytes (hR.bs hbw hgl hgs))
                  clear hL
                  go_wp2_with fail
                  refine wp_region_rel (KeptBut Z1.S) [0, 1, 4, 5, 6, 7, 2, 3, 8, 9, 10, 11, 14, 15, 16, 17, 12, 13, 18, 19] (by kernel_rfl) (by kernel_rfl) (by kernel_rfl) (KeptBut.refl _) KeptBut.trans ?_
                  generalize wr.drew = wd at *
                  refine wpRel_quiet (v := ?_) rfl rfl (fun _ _ _ h => h) (by rfl) ?_ ?_
                  rotate_left
                  · (intro w' hR; have e1 := WS.out w' hR; go_simp; try rfl)
                  simp only [Act.put, List.setIfInBounds_toArray, List.set_cons_zero, List.set_cons_succ]
                  refine wpRel_quiet (v := ?_) rfl rfl (fun _ _ _ h => h) (by rfl) ?_ ?_
                  rotate_left
                  · (intro w' hR; have e1 := WS.out w' hR; go_simp; try rfl)
                  simp only [Act.put, List.setIfInBounds_toArray, List.set_cons_zero, List.set_cons_succ]
                  refine wpRel_quiet (v := ?_) rfl rfl (fun _ _ _ h => h) (by rfl) ?_ ?_
                  rotate_left
                  · (intro w' hR; have e1 := WS.out w' hR; go_simp; try rfl)
                  simp only [Act.put, List.setIfInBounds_toArray, List.set_cons_zero, List.set_cons_succ]
                  refine wpRel_quiet (v := ?_) rfl rfl (fun _ _ _ h => h) (by rfl) ?_ ?_
                  rotate_left
                  · (intro w' hR; have e1 := WS.out w' hR; go_simp; try rfl)
                  simp only [Act.put, List.setIfInBounds_toArray, List.set_cons_zero, List.set_cons_succ]
                  refine wpRel_quiet (v := ?_) rfl rfl (fun _ _ _ h => h) (by rfl) ?_ ?_
                  rotate_left
                  · (intro w' hR; have e1 := WS.out w' hR; go_simp; try rfl)
                  simp only [Act.put, List.setIfInBounds_toArray, List.set_cons_zero, List.set_cons_succ]
                  refine wpRel_quiet (v := ?_) rfl rfl (fun _ _ _ h => h) (by rfl) ?_ ?_
                  rotate_left
                  · (intro w' hR; have e1 := WS.out w' hR; go_simp; try rfl)
                  simp only [Act.put, List.setIfInBounds_toArray, List.set_cons_zero, List.set_cons_succ]
                  refine wpRel_step rfl rfl (by rfl) (fun K' hK => ?_)
                  go_simp
                  refine HSt.out.mono ?_
                  rintro e W4 ⟨rfl, Y, C4, b4⟩
                  have hkb := KeptBut.of_below Z1.S b4
                  refine hK.out _ _ hkb ?_
                  clear hK K' HSt
                  try simp only [Act.put, List.setIfInBounds_toArray, List.set_cons_zero, List.set_cons_succ]
                  have WS4 : Hid (∀ w', KeptBut Z1.S W4 w' → (convert 22 9 (.slice (some ⟨gw, q * 4, none⟩) 4 4)).run Tryd.prog w' = .ok (.string ST) w') := hide (fun w' hR => WS.out w' (KeptBut.trans _ _ _ hkb hR))
                  have hby : Bs W4 (some ⟨wd.heap.size, 0, none⟩) 4 4 (sub4 zs q) := OwnB.bs (E := 5) Y.1 hzb 4 hzl (by omega)
                  have WY4 : Hid (∀ w', KeptBut Z1.S W4 w' → (convert 22 9 (.slice (some ⟨wd.heap.size, 0, none⟩) 4 4)).run Tryd.prog w' = .ok (.string ST) w') := hide (fun w' hR => by rw [← hST.out]; exact str_bytes (hR.bs hby Y.lt Y.2))
                  have HRd := hide (C4.read (by rw [HLd.out.left]; decide) (by have := HLd.out.tr; omega) q (by rw [HLd.out.n]; exact hlt) 4 (sub4 zs q) HLd.out.size (HLd.out.want.at1 q hlt))
                  have G4 : Has Z1 W4 gw (wantO zs) := ⟨(hkb.2 gw hgl hgs).trans hgr, hgs⟩
                  clear WS b4 hkb Y hby C1 hbw
                  generalize wd.heap.size = ky at *
                  refine wpRel_quiet (v := ?_) rfl rfl (fun _ _ _ h => h) (by rfl) ?_ ?_
                  rotate_left
                  · (intro w' hR; have e1 := WS4.out w' hR; have e2 := WY4.out w' hR; go_simp; try rfl)
                  simp only [Act.put, List.setIfInBounds_toArray, List.set_cons_zero, List.set_cons_succ]
                  refine wpRel_quiet (v := ?_) rfl rfl (fun _ _ _ h => h) (by rfl) ?_ ?_
                  rotate_left
                  · (intro w' hR; have e1 := WS4.out w' hR; have e2 := WY4.out w' hR; go_simp; try rfl)
                  simp only [Act.put, List.setIfInBounds_toArray, List.set_cons_zero, List.set_cons_succ]
                  refine wpRel_quiet (v := ?_) rfl rfl (fun _ _ _ h => h) (by rfl) ?_ ?_
                  rotate_left
                  · (intro w' hR; have e1 := WS4.out w' hR; have e2 := WY4.out w' hR; go_simp; try rfl)
                  simp only [Act.put, List.setIfInBounds_toArray, List.set_cons_zero, List.set_cons_succ]
                  refine wpRel_quiet (v := ?_) rfl rfl (fun _ _ _ h => h) (by rfl) ?_ ?_
                  rotate_left
                  · (intro w' hR; have e1 := WS4.out w' hR; have e2 := WY4.out w' hR; go_simp; try rfl)
                  simp only [Act.put, List.setIfInBounds_toArray, List.set_cons_zero, List.set_cons_succ]
                  refine wpRel_quiet (v := ?_) rfl rfl (fun _ _ _ h => h) (by rfl) ?_ ?_
                  rotate_left
                  · (intro w' hR; have e1 := WS4.out w' hR; have e2 := WY4.out w' hR; go_simp; try rfl)
                  simp only [Act.put, List.setIfInBounds_toArray, List.set_cons_zero, List.set_cons_succ]
                  refine wpRel_quiet (v := ?_) rfl rfl (fun _ _ _ h => h) (by rfl) ?_ ?_
                  rotate_left
                  · (intro w' hR; have e1 := WS4.out w' hR; have e2 := WY4.out w' hR; go_simp; try rfl)
                  simp only [Act.put, List.setIfInBounds_toArray, List.set_cons_zero, List.set_cons_succ]
                  refine wpRel_quiet (v := ?_) rfl rfl (fun _ _ _ h => h) (by rfl) ?_ ?_
                  rotate_left
                  · (intro w' hR; have e1 := WS4.out w' hR; have e2 := WY4.out w' hR; go_simp; try rfl)
                  simp only [Act.put, List.setIfInBounds_toArray, List.set_cons_zero, List.set_cons_succ]
                  refine wpRel_quiet (v := ?_) rfl rfl (fun _ _ _ h => h) (by rfl) ?_ ?_
                  rotate_left
                  · (intro w' hR; have e1 := WS4.out w' hR; have e2 := WY4.out w' hR; go_simp; try rfl)
                  simp only [Act.put, List.setIfInBounds_toArray, List.set_cons_zero, List.set_cons_succ]
                  refine wpRel_quiet (v := ?_) rfl rfl (fun _ _ _ h => h) (by rfl) ?_ ?_
                  rotate_left
                  · (intro w' hR; have e1 := WS4.out w' hR; have e2 := WY4.out w' hR; go_simp; try rfl)
                  simp only [Act.put, List.setIfInBounds_toArray, List.set_cons_zero, List.set_cons_succ]
                  refine wpRel_step rfl rfl (by rfl) (fun K' hK => ?_)
                  go_simp
                  refine HRd.out.mono ?_
                  rintro e W5 ⟨kx, Z5, rfl, hkx, X, C5, s5⟩
                  have hks : ¬ Z1.S kx := fun hs => by have := C4.dk.lt _ hs; omega
                  refine hK.out _ _ (KeptBut.of_step s5) ?_
                  clear hK K' HRd WS4 WY4
                  try simp only [Act.put, List.setIfInBounds_toArray, List.set_cons_zero, List.set_cons_succ]
                  have hbx : Bs W5 (some ⟨kx, 0, none⟩) 4 4 (sub4 zs q) := OwnB.bs (E := 5) X.1 hzb 4 hzl (by omega)
                  have WX5 : Hid (∀ w', KeptBut Z1.S W5 w' → (convert 22 9 (.slice (some ⟨kx, 0, none⟩) 4 4)).run Tryd.prog w' = .ok (.string ST) w') := hide (fun w' hR => by rw [← hST.out]; exact str_bytes (hR.bs hbx X.lt hks))
                  have HN : Hid (LastI w W5 Z5 g gw (q + 1) (D1.reads q) zs) := hide ⟨C5, G4.step s5, HLd.out.size, HLd.out.n, (by show spendL D1.left = -1; rw [HLd.out.left]; rfl), (by have := HLd.out.tr; show (D1.tr ++ _).length ≤ _; rw [List.length_append]; simp only [List.length_singleton]; omega), HLd.out.want⟩
                  clear X C5 C4 s5 G4 HLd hbx hks hkx
                  refine wpRel_quiet (v := ?_) rfl rfl (fun _ _ _ h => h) (by rfl) ?_ ?_
                  rotate_left
                  · (intro w' hR; have e1 := WX5.out w' hR; go_simp; try rfl)
                  simp only [Act.put, List.setIfInBounds_toArray, List.set_cons_zero, List.set_cons_succ]
                  refine wpRel_quiet (v := ?_) rfl rfl (fun _ _ _ h => h) (by rfl) ?_ ?_
                  rotate_left
                  · (intro w' hR; have e1 := WX5.out w' hR; go_simp; try rfl)
                  simp only [Act.put, List.setIfInBounds_toArray, List.set_cons_zero, List.set_cons_succ]
                  refine wpRel_quiet (v := ?_) rfl rfl (fun _ _ _ h => h) (by rfl) ?_ ?_
                  rotate_left
                  · (intro w' hR; have e1 := WX5.out w' hR; go_simp; try rfl)
                  simp only [Act.put, List.setIfInBounds_toArray, List.set_cons_zero, List.set_cons_succ]
                  refine wpRel_nil ?_
                  clear WX5 hA
                  go_wp2_with fail
                  exact ⟨⟨q + 1, Z5, _, by omega, congrArg _ (by omega), HN.out⟩, by simp [intOf]; omega⟩
                · have hlt' : ¬ (q : Int) < 8 := by omega
                  have C4 := hL.cl
                  have hAw := awake_any wr (C4.pow hp)
                  clear hL
                  go_wp2_with fail
                  refine hAw.mono ?_
                  rintro e W6 ⟨rfl, b6⟩
                  have hfin := C4.bel.trans (b6.mono C4.size)
                  go_wp2_with fail
                  go_ret
                  exact ⟨rfl, hfin⟩

            · clear hlt hI
              go_wp2_with fail
              refine HCr.out.mono ?_
              rintro e W0 ⟨Z0, bk, rfl, hbk, C0, s0⟩
              have hbk := hbk.out
              rw [HI.out.size] at hbk
              have hL0 : LastI w W0 Z0 g gw 0 (D.crash bk) zs := ⟨C0, HI.out.has.step s0, HI.out.size, HI.out.n, rfl, (by have := HI.out.tr; show (D.tr ++ _).length ≤ _; rw [List.length_append]; simp only [List.length_singleton]; omega), (by show Want zs (zOf bk); rw [hbk]; exact HI.out.want)⟩
              clear C0 s0 HI HCr hbk hkl hk1 hk2
              generalize D.crash bk = D0 at hL0
              go_wp2_with fail
              go_loopw [14] (fun s14 wr4 => ∃ (k : Nat) (Z1 : Own) (D : DS), k ≤ 8 ∧ s14 = .int .i64 (k : Int) ∧ LastI w wr4 Z1 g gw k D zs) (fun s14 _ => 8 - (intOf s14).toNat)
              case atStart => exact ⟨0, Z0, D0, Nat.zero_le _, rfl, hL0⟩
              case round =>
                clear hL0 D0
                obtain ⟨q, Z1, D1, hk8, rfl, hL⟩ := hrel
                by_cases hlt : q < 8
                · have hlt' : (q : Int) < 8 := by omega
                  have hw1 : IntKind.i64.wrap ((q : Int) + 1) = ((q + 1 : Nat) : Int) := by rw [IntKind.wrap_i64]; omega
                  have HLd := hide hL
                  have C1 := hL.cl.drew
                  have HSt := hide (C1.stable q (by rw [hL.n]; exact hlt) 4 (sub4 zs q) hL.size (hL.want.at2 q hlt))
                  have hA := run_arr_at (P := Tryd.prog) Tryd.underlying44 Tryd.size_u8 gw (q * 4)
                  have hbw : Bs wr.drew (some ⟨gw, q * 4, none⟩) 4 4 (sub4 zs q) := by rw [Nat.mul_comm]; exact OwnB.bs4 (w := wr.drew) (E := 45) hL.has.1 hL.want.len hL.want.by_ q hlt
                  have hgl : gw < wr.drew.heap.size := hL.has.lt
                  have hgs := hL.has.2
                  have hgr : wr.drew.heap[gw]? = some (wantO zs) := hL.has.1
                  have hzb : IsBytes (sub4 zs q) := hbw.bytes
                  have hzl := hbw.length
                  obtain ⟨ST, hST⟩ : ∃ ST, Hid (strOfNums (sub4 zs q) = ST) := ⟨_, rfl⟩
                  have WS : Hid (∀ w', KeptBut Z1.S wr.drew w' → (convert 22 9 (.slice (some ⟨gw, q * 4, none⟩) 4 4)).run Tryd.prog w' = .ok (.string ST) w') := hide (fun w' hR => by rw [← hST.out]; exact str_bytes (hR.bs hbw hgl hgs))
                  clear hL
                  go_wp2_with fail
                  refine wp_region_rel (KeptBut Z1.S) [0, 1, 4, 5, 6, 7, 2, 3, 8, 9, 10, 11, 14, 15, 16, 17, 12, 13, 18, 19] (by kernel_rfl) (by kernel_rfl) (by kernel_rfl) (KeptBut.refl _) KeptBut.trans ?_
                  generalize wr.drew = wd at *
                  refine wpRel_quiet (v := ?_) rfl rfl (fun _ _ _ h => h) (by rfl) ?_ ?_
                  rotate_left
                  · (intro w' hR; have e1 := WS.out w' hR; go_simp; try rfl)
                  simp only [Act.put, List.setIfInBounds_toArray, List.set_cons_zero, List.set_cons_succ]
                  refine wpRel_quiet (v := ?_) rfl rfl (fun _ _ _ h => h) (by rfl) ?_ ?_
                  rotate_left
                  · (intro w' hR; have e1 := WS.out w' hR; go_simp; try rfl)
                  simp only [Act.put, List.setIfInBounds_toArray, List.set_cons_zero, List.set_cons_succ]
                  refine wpRel_quiet (v := ?_) rfl rfl (fun _ _ _ h => h) (by rfl) ?_ ?_
                  rotate_left
                  · (intro w' hR; have e1 := WS.out w' hR; go_simp; try rfl)
                  simp only [Act.put, List.setIfInBounds_toArray, List.set_cons_zero, List.set_cons_succ]
                  refine wpRel_quiet (v := ?_) rfl rfl (fun _ _ _ h => h) (by rfl) ?_ ?_
                  rotate_left
                  · (intro w' hR; have e1 := WS.out w' hR; go_simp; try rfl)
                  simp only [Act.put, List.setIfInBounds_toArray, List.set_cons_zero, List.set_cons_succ]
                  refine wpRel_quiet (v := ?_) rfl rfl (fun _ _ _ h => h) (by rfl) ?_ ?_
                  rotate_left
                  · (intro w' hR; have e1 := WS.out w' hR; go_simp; try rfl)
                  simp only [Act.put, List.setIfInBounds_toArray, List.set_cons_zero, List.set_cons_succ]
                  refine wpRel_quiet (v := ?_) rfl rfl (fun _ _ _ h => h) (by rfl) ?_ ?_
                  rotate_left
                  · (intro w' hR; have e1 := WS.out w' hR; go_simp; try rfl)
                  simp only [Act.put, List.setIfInBounds_toArray, List.set_cons_zero, List.set_cons_succ]
                  refine wpRel_step rfl rfl (by rfl) (fun K' hK => ?_)
                  go_simp
                  refine HSt.out.mono ?_
                  rintro e W4 ⟨rfl, Y, C4, b4⟩
                  have hkb := KeptBut.of_below Z1.S b4
                  refine hK.out _ _ hkb ?_
                  clear hK K' HSt
                  try simp only [Act.put, List.setIfInBounds_toArray, List.set_cons_zero, List.set_cons_succ]
                  have WS4 : Hid (∀ w', KeptBut Z1.S W4 w' → (convert 22 9 (.slice (some ⟨gw, q * 4, none⟩) 4 4)).run Tryd.prog w' = .ok (.string ST) w') := hide (fun w' hR => WS.out w' (KeptBut.trans _ _ _ hkb hR))
                  have hby : Bs W4 (some ⟨wd.heap.size, 0, none⟩) 4 4 (sub4 zs q) := OwnB.bs (E := 5) Y.1 hzb 4 hzl (by omega)
                  have WY4 : Hid (∀ w', KeptBut Z1.S W4 w' → (convert 22 9 (.slice (some ⟨wd.heap.size, 0, none⟩) 4 4)).run Tryd.prog w' = .ok (.string ST) w') := hide (fun w' hR => by rw [← hST.out]; exact str_bytes (hR.bs hby Y.lt Y.2))
                  have HRd := hide (C4.read (by rw [HLd.out.left]; decide) (by have := HLd.out.tr; omega) q (by rw [HLd.out.n]; exact hlt) 4 (sub4 zs q) HLd.out.size (HLd.out.want.at1 q hlt))
                  have G4 : Has Z1 W4 gw (wantO zs) := ⟨(hkb.2 gw hgl hgs).trans hgr, hgs⟩
                  clear WS b4 hkb Y hby C1 hbw
                  generalize wd.heap.size = ky at *
                  refine wpRel_quiet (v := ?_) rfl rfl (fun _ _ _ h => h) (by rfl) ?_ ?_
                  rotate_left
                  · (intro w' hR; have e1 := WS4.out w' hR; have e2 := WY4.out w' hR; go_simp; try rfl)
                  simp only [Act.put, List.setIfInBounds_toArray, List.set_cons_zero, List.set_cons_succ]
                  refine wpRel_quiet (v := ?_) rfl rfl (fun _ _ _ h => h) (by rfl) ?_ ?_
                  rotate_left
                  · (intro w' hR; have e1 := WS4.out w' hR; have e2 := WY4.out w' hR; go_simp; try rfl)
                  simp only [Act.put, List.setIfInBounds_toArray, List.set_cons_zero, List.set_cons_succ]
                  refine wpRel_quiet (v := ?_) rfl rfl (fun _ _ _ h => h) (by rfl) ?_ ?_
                  rotate_left
                  · (intro w' hR; have e1 := WS4.out w' hR; have e2 := WY4.out w' hR; go_simp; try rfl)
                  simp only [Act.put, List.setIfInBounds_toArray, List.set_cons_zero, List.set_cons_succ]
                  refine wpRel_quiet (v := ?_) rfl rfl (fun _ _ _ h => h) (by rfl) ?_ ?_
                  rotate_left
                  · (intro w' hR; have e1 := WS4.out w' hR; have e2 := WY4.out w' hR; go_simp; try rfl)
                  simp only [Act.put, List.setIfInBounds_toArray, List.set_cons_zero, List.set_cons_succ]
                  refine wpRel_quiet (v := ?_) rfl rfl (fun _ _ _ h => h) (by rfl) ?_ ?_
                  rotate_left
                  · (intro w' hR; have e1 := WS4.out w' hR; have e2 := WY4.out w' hR; go_simp; try rfl)
                  simp only [Act.put, List.setIfInBounds_toArray, List.set_cons_zero, List.set_cons_succ]
                  refine wpRel_quiet (v := ?_) rfl rfl (fun _ _ _ h => h) (by rfl) ?_ ?_
                  rotate_left
                  · (intro w' hR; have e1 := WS4.out w' hR; have e2 := WY4.out w' hR; go_simp; try rfl)
                  simp only [Act.put, List.setIfInBounds_toArray, List.set_cons_zero, List.set_cons_succ]
                  refine wpRel_quiet (v := ?_) rfl rfl (fun _ _ _ h => h) (by rfl) ?_ ?_
                  rotate_left
                  · (intro w' hR; have e1 := WS4.out w' hR; have e2 := WY4.out w' hR; go_simp; try rfl)
                  simp only [Act.put, List.setIfInBounds_toArray, List.set_cons_zero, List.set_cons_succ]
                  refine wpRel_quiet (v := ?_) rfl rfl (fun _ _ _ h => h) (by rfl) ?_ ?_
                  rotate_left
                  · (intro w' hR; have e1 := WS4.out w' hR; have e2 := WY4.out w' hR; go_simp; try rfl)
                  simp only [Act.put, List.setIfInBounds_toArray, List.set_cons_zero, List.set_cons_succ]
                  refine wpRel_quiet (v := ?_) rfl rfl (fun _ _ _ h => h) (by rfl) ?_ ?_
                  rotate_left
                  · (intro w' hR; have e1 := WS4.out w' hR; have e2 := WY4.out w' hR; go_simp; try rfl)
                  simp only [Act.put, List.setIfInBounds_toArray, List.set_cons_zero, List.set_cons_succ]
                  refine wpRel_step rfl rfl (by rfl) (fun K' hK => ?_)
                  go_simp
                  refine HRd.out.mono ?_
                  rintro e W5 ⟨kx, Z5, rfl, hkx, X, C5, s5⟩
                  have hks : ¬ Z1.S kx := fun hs => by have := C4.dk.lt _ hs; omega
                  refine hK.out _ _ (KeptBut.of_step s5) ?_
                  clear hK K' HRd WS4 WY4
                  try simp only [Act.put, List.setIfInBounds_toArray, List.set_cons_zero, List.set_cons_succ]
                  have hbx : Bs W5 (some ⟨kx, 0, none⟩) 4 4 (sub4 zs q) := OwnB.bs (E := 5) X.1 hzb 4 hzl (by omega)
                  have WX5 : Hid (∀ w', KeptBut Z1.S W5 w' → (convert 22 9 (.slice (some ⟨kx, 0, none⟩) 4 4)).run Tryd.prog w' = .ok (.string ST) w') := hide (fun w' hR => by rw [← hST.out]; exact str_bytes (hR.bs hbx X.lt hks))
                  have HN : Hid (LastI w W5 Z5 g gw (q + 1) (D1.reads q) zs) := hide ⟨C5, G4.step s5, HLd.out.size, HLd.out.n, (by show spendL D1.left = -1; rw [HLd.out.left]; rfl), (by have := HLd.out.tr; show (D1.tr ++ _).length ≤ _; rw [List.length_append]; simp only [List.length_singleton]; omega), HLd.out.want⟩
                  clear X C5 C4 s5 G4 HLd hbx hks hkx
                  refine wpRel_quiet (v := ?_) rfl rfl (fun _ _ _ h => h) (by rfl) ?_ ?_
                  rotate_left
                  · (intro w' hR; have e1 := WX5.out w' hR; go_simp; try rfl)
                  simp only [Act.put, List.setIfInBounds_toArray, List.set_cons_zero, List.set_cons_succ]
                  refine wpRel_quiet (v := ?_) rfl rfl (fun _ _ _ h => h) (by rfl) ?_ ?_
                  rotate_left
                  · (intro w' hR; have e1 := WX5.out w' hR; go_simp; try rfl)
                  simp only [Act.put, List.setIfInBounds_toArray, List.set_cons_zero, List.set_cons_succ]
                  refine wpRel_quiet (v := ?_) rfl rfl (fun _ _ _ h => h) (by rfl) ?_ ?_
                  rotate_left
                  · (intro w' hR; have e1 := WX5.out w' hR; go_simp; try rfl)
                  simp only [Act.put, List.setIfInBounds_toArray, List.set_cons_zero, List.set_cons_succ]
                  refine wpRel_nil ?_
                  clear WX5 hA
                  go_wp2_with fail
                  exact ⟨⟨q + 1, Z5, _, by omega, congrArg _ (by omega), HN.out⟩, by simp [intOf]; omega⟩
                · have hlt' : ¬ (q : Int) < 8 := by omega
                  have C4 := hL.cl
                  have hAw := awake_any wr (C4.pow hp)
                  clear hL
                  go_wp2_with fail
                  refine hAw.mono ?_
                  rintro e W6 ⟨rfl, b6⟩
                  have hfin := C4.bel.trans (b6.mono C4.size)
                  go_wp2_with fail
                  go_ret
                  exact ⟨rfl, hfin⟩

#print axioms diskStays_walk
end Go.Proofs.YtlicafjhkbofbaaDoor
