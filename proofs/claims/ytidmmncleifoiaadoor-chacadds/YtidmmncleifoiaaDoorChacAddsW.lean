/- The law ChacAdds answers true for every key, nonce, counter and any two slices of bytes that can be read, wherever quar.rounds reads as its text says; nothing that was there is turned. -/
import Derived.Test.YtidmmncleifoiaaDoorCLaw
namespace Go.Proofs.YtidmmncleifoiaaDoor
open Go.RowKit

/-- The state of ChacAdds: key, nonce, the three sealed rows. -/
structure AS (w W : World) (key nonce : List Int) (gs gx gy : Nat) (S X Y : List Int) : Prop where
  kn : KN w W key nonce
  s : OwnB 5 W gs S
  x : OwnB 5 W gx X
  y : OwnB 5 W gy Y
theorem AS.later {w W W' : World} {key nonce : List Int} {gs gx gy : Nat} {S X Y : List Int} (h : AS w W key nonce gs gx gy S X Y) (hb : Below W.heap.size W W') : AS w W' key nonce gs gx gy S X Y :=
  ⟨h.kn.later hb, h.s.below hb, h.x.below hb, h.y.below hb⟩
theorem AS.drew {w W : World} {key nonce : List Int} {gs gx gy : Nat} {S X Y : List Int} (h : AS w W key nonce gs gx gy S X Y) : AS w W.drew key nonce gs gx gy S X Y := ⟨h.kn.drew, h.s, h.x, h.y⟩

theorem stream_take (key nonce : List Int) (c : BitVec 32) (n m : Nat) (hm : m ≤ n) (h64 : m ≤ 64) : (xorL key nonce c (zL n)).take m = ((blkL (stW key nonce c)).drop 0).take m := by
  apply List.ext_getElem?
  intro i
  rw [List.drop_zero, List.getElem?_take, List.getElem?_take]
  by_cases h : i < m
  · rw [if_pos h, if_pos h, xorL, zL_length, rowL_get _ _ _ (by omega), blkL, rowL_get _ _ _ (by omega), zL_getD, ks_first _ _ _ _ (by omega), xr_zero _ (kb_lt _ _)]
  · rw [if_neg h, if_neg h]

set_option maxRecDepth 100000 in
set_option maxHeartbeats 2000000 in
theorem chacAdds_walk (key nonce : List Int) (ctr : Int) (a b : Option Addr) (la ca lb cb : Nat) (za zb : List Int) (w : World) (hk : IsBytes key) (hkl : key.length = 32) (hn : IsBytes nonce) (hnl : nonce.length = 12) (hctr : 0 ≤ ctr ∧ ctr < 4294967296) (ha : Bs w a la ca za) (hb : Bs w b lb cb zb) (hg : Glob w) :
    Calls Tryd.prog 5 #[.agg (bV key), .agg (bV nonce), .int .u32 ctr, .slice a la ca, .slice b lb cb] w fun e w' => e = .returned (.bool true) ∧ Below w.heap.size w w' := by
  have h0 := hg.lt
  obtain ⟨x, rfl⟩ := bv_of ctr hctr
  clear hctr
  obtain ⟨c, hc⟩ : ∃ c : BitVec 32, ((x.toNat % 2 ^ 16 : Nat) : Int) = (c.toNat : Int) := bv_of _ (by omega)
  have hcl : c.toNat < 65536 := by omega
  have hx := u32_mask x 16 (by decide) 65535 (by decide)
  rw [hc] at hx
  clear hc
  obtain ⟨n, HN⟩ : ∃ n : Nat, min (min la lb) 300 = n := ⟨_, rfl⟩
  have hmin : (if (300 : Int) < (if lb < la then (lb : Int) else (la : Int)) then (300 : Int) else (if lb < la then (lb : Int) else (la : Int))) = (n : Int) := by
    split <;> split <;> omega
  have hna : n ≤ la := by omega
  have hnb : n ≤ lb := by omega
  have hn3 : n ≤ 300 := by omega
  clear HN
  have hlac := ha.le_cap
  have hlbc := hb.le_cap
  have ha' := ha.taken n hna
  have hb' := hb.taken n hnb
  have cuta := run_cut_to (P := Tryd.prog) Tryd.underlying23 Tryd.size_u8 ha .i64 (n : Int) n rfl (by omega)
  have cutb := run_cut_to (P := Tryd.prog) Tryd.underlying23 Tryd.size_u8 hb .i64 (n : Int) n rfl (by omega)
  have hfit : fits c n = true := by unfold fits; simp; omega
  have hS := KN.start w key nonce hg
  go_enter Tryd.func5, Tryd.ntmps5
  go_wp2_with fail
  generalize ((w.alloc (Obj.cells (bV key) 22)).alloc (Obj.cells (bV nonce) 26)) = W0 at *
  refine wp_region_ord 1000 [0, 1, 2, 3, 4, 5, 6, 7] (fun _ => True) (fun _ => True) (by kernel_rfl) (by kernel_rfl) (by kernel_rfl) trivial trivial (fun _ _ => ?_)
  replace hS := hS.drew
  generalize W0.drew = W1 at *
  repeat' (refine wpOrd_quiet (v := ?_) rfl rfl (fun _ _ _ h => h) (by rfl) ?_ ?_
           rotate_left
           · (intro w' _ _; go_simp; try rfl)
           simp only [Act.put, List.setIfInBounds_toArray, List.set_cons_zero, List.set_cons_succ])
  refine wpOrd_nil ?_
  go_wp2_with fail
  clear cuta cutb hmin hx
  have hmk := run_make_row' (P := Tryd.prog) 23 5 (.int .u8 0) 1 Tryd.underlying23 Tryd.info_u8 rfl .i64 .i64 n (by omega) (by omega)
  refine wp_region_ord 1000 [0, 1, 2, 3, 4, 5, 6, 7, 8, 9, 10] (fun w' => OwnB 22 w' w.heap.size key ∧ OwnB 26 w' (w.heap.size + 1) nonce) (fun _ => True) (by kernel_rfl) (by kernel_rfl) (by kernel_rfl) ⟨hS.kk, hS.nn⟩ trivial (fun _ _ => ?_)
  replace hS := hS.drew
  generalize W1.drew = W2 at *
  refine wpOrd_loadA arrT32 rfl rfl _ rfl w.heap.size (bV key) (by rfl) (fun _ h => h.1) (by rw [bV_size, hkl]) (fun _ _ _ h => h) (by rfl) ?_
  simp only [Act.put, List.setIfInBounds_toArray, List.set_cons_zero, List.set_cons_succ]
  refine wpOrd_loadA arrT12 rfl rfl _ rfl (w.heap.size + 1) (bV nonce) (by rfl) (fun _ h => h.2) (by rw [bV_size, hnl]) (fun _ _ _ h => h) (by rfl) ?_
  simp only [Act.put, List.setIfInBounds_toArray, List.set_cons_zero, List.set_cons_succ]
  repeat' (refine wpOrd_quiet (v := ?_) rfl rfl (fun _ _ _ h => h) (by rfl) ?_ ?_
           rotate_left
           · (intro w' _ _; go_simp; try rfl)
           simp only [Act.put, List.setIfInBounds_toArray, List.set_cons_zero, List.set_cons_succ])
  refine wpOrd_step rfl rfl (by rfl) (fun K' hK => ?_)
  go_simp
  have hS2 := hS.alloc (Obj.cells (madeCells #[Value.int IntKind.u8 0] n) 5)
  have hZ2 := (made_zL (w := W2) (n := n) (E := 5)).bs (zL_bytes _) n (zL_length _) (by omega)
  refine hK.out _ _ ⟨hS2.kk, hS2.nn⟩ (fun h => absurd h (by decide)) (fun _ => ?_)
  clear hK K' hmk hS
  generalize (W2.alloc (Obj.cells (madeCells #[Value.int IntKind.u8 0] n) 5)) = W3 at *
  generalize W2.heap.size = gz at *
  try simp only [Act.put, List.setIfInBounds_toArray, List.set_cons_zero, List.set_cons_succ]
  refine wpOrd_step rfl rfl (by rfl) (fun K' hK => ?_)
  go_simp
  refine (xor_at key nonce c _ _ _ W3 rfl rfl rfl hk hkl hn hnl hZ2 (by omega) hfit hS2.gl).mono ?_
  rintro e w3 ⟨gs, rfl, hs3, _, hb3⟩
  have hS3 := hS2.later hb3
  clear hS2 hZ2 hb3
  refine hK.out _ _ ⟨hS3.kk, hS3.nn⟩ (fun h => absurd h (by decide)) (fun _ => ?_)
  clear hK K'
  try simp only [Act.put, List.setIfInBounds_toArray, List.set_cons_zero, List.set_cons_succ]
  repeat' (refine wpOrd_quiet (v := ?_) rfl rfl (fun _ _ _ h => h) (by rfl) ?_ ?_
           rotate_left
           · (intro w' _ _; go_simp; try rfl)
           simp only [Act.put, List.setIfInBounds_toArray, List.set_cons_zero, List.set_cons_succ])
  refine wpOrd_nil ?_
  have kk := hS3.kk
  have nn := hS3.nn
  go_wp2_with (first
    | (refine wpList_loadA arrT32 (by rfl) _ (by rfl) w.heap.size (by rfl) (bV key) kk (by rw [bV_size, hkl]) ?_)
    | (refine wpList_loadA arrT12 (by rfl) _ (by rfl) (w.heap.size + 1) (by rfl) (bV nonce) nn (by rw [bV_size, hnl]) ?_))
  refine (xor_at key nonce c _ _ _ w3 rfl rfl rfl hk hkl hn hnl (ha'.below hS3.bel) (by omega) hfit hS3.gl).mono ?_
  rintro e w4 ⟨gx, rfl, hx4, _, hb4⟩
  have hS4 := hS3.later hb4
  have hs4 := hs3.below hb4
  clear hS3 hs3 hb4 kk nn
  have kk := hS4.kk
  have nn := hS4.nn
  go_wp2_with (first
    | (refine wpList_loadA arrT32 (by rfl) _ (by rfl) w.heap.size (by rfl) (bV key) kk (by rw [bV_size, hkl]) ?_)
    | (refine wpList_loadA arrT12 (by rfl) _ (by rfl) (w.heap.size + 1) (by rfl) (bV nonce) nn (by rw [bV_size, hnl]) ?_))
  refine (xor_at key nonce c _ _ _ w4 rfl rfl rfl hk hkl hn hnl (hb'.below hS4.bel) (by omega) hfit hS4.gl).mono ?_
  rintro e w5 ⟨gy, rfl, hy5, _, hb5⟩
  have hA : AS w w5 key nonce gs gx gy (xorL key nonce c (zL n)) (xorL key nonce c (za.take n)) (xorL key nonce c (zb.take n)) := ⟨hS4.later hb5, hs4.below hb5, hx4.below hb5, hy5⟩
  clear hS4 hs4 hx4 hy5 hb5 kk nn
  go_wp2_with fail
  go_loopw [18] (fun v wr => ∃ i : Nat, i ≤ n ∧ v = .int .i64 i ∧ AS w wr key nonce gs gx gy (xorL key nonce c (zL n)) (xorL key nonce c (za.take n)) (xorL key nonce c (zb.take n))) (fun v _ => n - (intOf v).toNat)
  case atStart => exact ⟨0, Nat.zero_le _, rfl, hA⟩
  case round =>
    obtain ⟨i, hi, rfl, hB⟩ := hrel
    clear hA
    by_cases hlt : i < n
    · have hAa := ha'.below hB.kn.bel
      have hBb := hb'.below hB.kn.bel
      have hza := ha'.length
      have hzb := hb'.length
      rcases hAa.place with h | ⟨pa, oa, rfl, cca⟩
      · omega
      rcases hBb.place with h | ⟨pb, ob, rfl, ccb⟩
      · omega
      have f1 := cca i hlt
      have f2 := ccb i hlt
      have f3 := hB.s.cell i (by rw [xorL_length, zL_length]; exact hlt)
      have f4 := hB.x.cell i (by rw [xorL_length, hza]; exact hlt)
      have f5 := hB.y.cell i (by rw [xorL_length, hzb]; exact hlt)
      rw [xorL_getD _ _ _ _ _ (by rw [zL_length]; exact hlt), zL_getD, xr_zero _ (ks_lt _ _ _ _)] at f3
      rw [xorL_getD _ _ _ _ _ (by rw [hza]; exact hlt)] at f4
      rw [xorL_getD _ _ _ _ _ (by rw [hzb]; exact hlt)] at f5
      have bA := ha'.bytes.getD i
      have bB := hb'.bytes.getD i
      have bK := ks_lt key nonce c i
      clear cca ccb hAa hBb
      generalize (za.take n).getD i 0 = A at *
      generalize (zb.take n).getD i 0 = B at *
      generalize ks key nonce c i = K at *
      have e1 := bits_xr A K bA bK
      have bX := xr_lt A K bA bK
      have bY := xr_lt B K bB bK
      have e2 := bits_xr _ _ bX bY
      rw [xr_two] at e2
      have e3 := bits_xr A B bA bB
      have bZ := xr_lt A B bA bB
      generalize xr A K = X at *
      generalize xr B K = Y at *
      generalize xr A B = Z at *
      have hca : i < ca := by omega
      go_wp2_with fail
      refine wp_region_ord 1000 [0, 1, 2, 3, 4, 5, 6, 7, 8, 9, 10, 11, 12, 13, 14, 15, 16, 17, 18, 19, 20, 21, 22, 23, 24, 25, 26, 27, 28, 29, 30, 31, 32, 33, 34]
        (fun w' => w'.cell? ⟨pa, oa + i, none⟩ = some (.int .u8 A) ∧ w'.cell? ⟨pb, ob + i, none⟩ = some (.int .u8 B) ∧ w'.cell? ⟨gs, i, none⟩ = some (.int .u8 K) ∧ w'.cell? ⟨gx, i, none⟩ = some (.int .u8 X) ∧ w'.cell? ⟨gy, i, none⟩ = some (.int .u8 Y)) (fun _ => True)
        (by kernel_rfl) (by kernel_rfl) (by kernel_rfl) ⟨f1, f2, f3, f4, f5⟩ trivial (fun _ _ => ?_)
      have hB1 := hB.drew
      generalize wr.drew = W1 at *
      clear hB f1 f2 f3 f4 f5
      repeat' (refine wpOrd_quiet (v := ?_) rfl rfl (fun _ _ _ h => h) (by rfl) ?_ ?_
               rotate_left
               · (intro w' hT' _; obtain ⟨t1, t2, t3, t4, t5⟩ := hT'; go_simp; try rfl)
               simp only [Act.put, List.setIfInBounds_toArray, List.set_cons_zero, List.set_cons_succ])
      refine wpOrd_nil ?_
      go_wp2_with fail
      go_roundw
      case rel => exact ⟨i + 1, by omega, by go_num, hB1⟩
      case measure => simp [intOf]; omega
    · obtain rfl : i = n := by omega
      have kk := hB.kn.kk
      have nn := hB.kn.nn
      go_wp2_with (first
        | (refine wpList_loadA arrT32 (by rfl) _ (by rfl) w.heap.size (by rfl) (bV key) kk (by rw [bV_size, hkl]) ?_)
        | (refine wpList_loadA arrT12 (by rfl) _ (by rfl) (w.heap.size + 1) (by rfl) (bV nonce) nn (by rw [bV_size, hnl]) ?_))
      refine (block_at key nonce c _ _ _ wr rfl rfl rfl hk hkl hn hnl hB.kn.gl).mono ?_
      rintro e w6 ⟨rfl, hb6⟩
      have hB6 := hB.later hb6
      clear hB hb6 kk nn
      have n6 := heap_alloc_new w6 (Obj.cells (bV (zL 64)) 28)
      have hB7 : AS w ((w6.alloc (Obj.cells (bV (zL 64)) 28)).setRow w6.heap.size (bV (blkL (stW key nonce c)))) key nonce gs gx gy (xorL key nonce c (zL i)) (xorL key nonce c (za.take i)) (xorL key nonce c (zb.take i)) := by
        have hl := hB6.kn.lt
        have h1 := hB6.s.lt
        have h2 := hB6.x.lt
        have h3 := hB6.y.lt
        have hq := hB6.later (below_alloc (Below.refl _ _) (Obj.cells (bV (zL 64)) 28))
        have ho := OnlyAt.setRow w6.heap.size (w6.alloc (Obj.cells (bV (zL 64)) 28)) (bV (blkL (stW key nonce c)))
        exact ⟨hq.kn.only ho hl, ho.own hq.s (by omega), ho.own hq.x (by omega), ho.own hq.y (by omega)⟩
      have hF7 : OwnB 28 ((w6.alloc (Obj.cells (bV (zL 64)) 28)).setRow w6.heap.size (bV (blkL (stW key nonce c)))) w6.heap.size (blkL (stW key nonce c)) := setRow_heap _ _ _ _ _ _ n6
      clear hB6
      go_wp2_with (first
        | (refine wpList_newA (by rfl) 28 (by rfl) _ zero64 w6.heap.size rfl ?_)
        | (refine wpList_putA arrT64 (by rfl) _ _ (by rfl) w6.heap.size (bV (blkL (stW key nonce c))) (by rfl) (by rfl) _ n6 (by rw [bV_size, blkL_length]) (bV_size _) (bV_one _) ?_))
      generalize ((w6.alloc (Obj.cells (bV (zL 64)) 28)).setRow w6.heap.size (bV (blkL (stW key nonce c)))) = W7 at *
      generalize w6.heap.size = gb at *
      clear n6
      obtain ⟨m, hm⟩ : ∃ m : Nat, min i 64 = m := ⟨_, rfl⟩
      have hmI : (if (64 : Int) < (i : Int) then (64 : Int) else (i : Int)) = (m : Int) := by split <;> omega
      have hm1 : m ≤ i := by omega
      have hm2 : m ≤ 64 := by omega
      clear hm
      have hsl : (xorL key nonce c (zL i)).length = i := by rw [xorL_length, zL_length]
      have hsB := xorL_bytes key nonce c (zL i) (zL_bytes i)
      have cs := run_cut_to (P := Tryd.prog) Tryd.underlying23 Tryd.size_u8 (hB7.s.bs hsB i hsl (by omega)) .i64 (m : Int) m rfl (by omega)
      have cf := run_arr_to (P := Tryd.prog) Tryd.underlying28 Tryd.size_u8 gb .i64 (m : Int) m rfl (by omega)
      refine wp_region_ord 1000 [0, 1, 2, 3, 4, 5, 6, 7, 8, 9, 10, 11] (fun _ => True) (fun _ => True) (by kernel_rfl) (by kernel_rfl) (by kernel_rfl) trivial trivial (fun _ _ => ?_)
      replace hB7 := hB7.drew
      replace hF7 : OwnB 28 W7.drew gb (blkL (stW key nonce c)) := hF7
      generalize W7.drew = W8 at *
      repeat' (refine wpOrd_quiet (v := ?_) rfl rfl (fun _ _ _ h => h) (by rfl) ?_ ?_
               rotate_left
               · (intro w' _ _; go_simp; try rfl)
               simp only [Act.put, List.setIfInBounds_toArray, List.set_cons_zero, List.set_cons_succ])
      refine wpOrd_step rfl rfl (by rfl) (fun K' hK => ?_)
      go_simp
      have hS8 := (hB7.s.bs hsB i hsl (by omega)).taken m hm1
      have hF8 := hF7.bsAt (blkL_bytes _) 0 m 64 (by rw [blkL_length]; omega) (by omega) (by decide)
      have hEq := stream_take key nonce c i m hm1 hm2
      refine (same_any W8 hS8 hF8).mono ?_
      rintro e w9 ⟨rfl, rfl⟩
      rw [decide_eq_true hEq]
      refine hK.out _ _ trivial (fun h => absurd h (by decide)) (fun _ => ?_)
      clear hK K' hS8 hF8 hEq
      try simp only [Act.put, List.setIfInBounds_toArray, List.set_cons_zero, List.set_cons_succ]
      refine wpOrd_quiet (v := ?_) rfl rfl (fun _ _ _ h => h) (by rfl) ?_ ?_
      rotate_left
      · (intro w' _ _; go_simp; try rfl)
      simp only [Act.put, List.setIfInBounds_toArray, List.set_cons_zero, List.set_cons_succ]
      refine wpOrd_step rfl rfl (by rfl) (fun K' hK => ?_)
      go_simp
      refine (awake_any W8 hB7.kn.gl).mono ?_
      rintro e w9 ⟨rfl, hb9⟩
      have hB9 := hB7.later hb9
      refine hK.out _ _ trivial (fun h => absurd h (by decide)) (fun _ => ?_)
      clear hK K'
      try simp only [Act.put, List.setIfInBounds_toArray, List.set_cons_zero, List.set_cons_succ]
      repeat' (refine wpOrd_quiet (v := ?_) rfl rfl (fun _ _ _ h => h) (by rfl) ?_ ?_
               rotate_left
               · (intro w' _ _; go_simp; try rfl)
               simp only [Act.put, List.setIfInBounds_toArray, List.set_cons_zero, List.set_cons_succ])
      refine wpOrd_nil ?_
      go_wp2_with fail
      go_ret
      exact ⟨rfl, hB9.kn.bel⟩
#print axioms chacAdds_walk
end Go.Proofs.YtidmmncleifoiaaDoor
