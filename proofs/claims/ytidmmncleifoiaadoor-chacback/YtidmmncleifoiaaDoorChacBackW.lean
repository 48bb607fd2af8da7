/- The law ChacBack answers true for every key, nonce, counter, slice of bytes that can be read and number, wherever quar.rounds reads as its text says; nothing that was there is turned. -/
import Derived.Test.YtidmmncleifoiaaDoorCLaw
namespace Go.Proofs.YtidmmncleifoiaaDoor
open Go.RowKit

/-- The rows of ChacBack. -/
structure BK (w W : World) (key nonce zs X Z V : List Int) (gx gy gz gv : Nat) : Prop where
  kn : KN w W key nonce
  x : OwnB 5 W gx X
  y : OwnB 5 W gy zs
  z : OwnB 5 W gz Z
  v : OwnB 5 W gv V
theorem BK.later {w W W' : World} {key nonce zs X Z V : List Int} {gx gy gz gv : Nat} (h : BK w W key nonce zs X Z V gx gy gz gv) (hb : Below W.heap.size W W') : BK w W' key nonce zs X Z V gx gy gz gv :=
  ⟨h.kn.later hb, h.x.below hb, h.y.below hb, h.z.below hb, h.v.below hb⟩
theorem BK.drew {w W : World} {key nonce zs X Z V : List Int} {gx gy gz gv : Nat} (h : BK w W key nonce zs X Z V gx gy gz gv) : BK w W.drew key nonce zs X Z V gx gy gz gv := ⟨h.kn.drew, h.x, h.y, h.z, h.v⟩
/-- What the strings of these rows are. -/
structure BT (b : Option Addr) (len cap k q gx gy gz gv : Nat) (s0 s1 s2 : ByteArray) (W : World) : Prop where
  c1 : (convert 23 9 (.slice (some ⟨gy, 0, none⟩) len len)).run Tryd.prog W = .ok (.string s0) W
  c2 : (convert 23 9 (.slice b len cap)).run Tryd.prog W = .ok (.string s0) W
  c3 : (convert 23 9 (.slice (some ⟨gz, 0, none⟩) k k)).run Tryd.prog W = .ok (.string s1) W
  c4 : (convert 23 9 (.slice (some ⟨gx, 0, none⟩) k len)).run Tryd.prog W = .ok (.string s1) W
  c5 : (convert 23 9 (.slice (some ⟨gv, 0, none⟩) (len - 64 * q) (len - 64 * q))).run Tryd.prog W = .ok (.string s2) W
  c6 : (convert 23 9 (.slice (cutA (some ⟨gx, 0, none⟩) len (64 * q)) (len - 64 * q) (len - 64 * q))).run Tryd.prog W = .ok (.string s2) W
theorem BT.of {w W : World} {key nonce zs X : List Int} {gx gy gz gv len cap k q : Nat} {b : Option Addr} (h : BK w W key nonce zs X (X.take k) (X.drop (64 * q)) gx gy gz gv) (hb : Bs w b len cap zs) (hX : IsBytes X) (hXl : X.length = len) (hk : k ≤ len) (hq : 64 * q ≤ len) (hl : len ≤ 700) :
    BT b len cap k q gx gy gz gv (strOfNums zs) (strOfNums (X.take k)) (strOfNums (X.drop (64 * q))) W := by
  have hx := h.x.bs hX len hXl (by omega)
  refine ⟨str_bytes (h.y.bs hb.bytes len hb.length (by omega)), str_bytes (hb.below h.kn.bel), str_bytes (h.z.bs (hX.take k) k (by simp; omega) (by omega)), str_bytes (hx.taken k hk), str_bytes (h.v.bs (hX.drop _) _ (by simp; omega) (by omega)), str_bytes (hx.cut (64 * q) hq)⟩

set_option maxRecDepth 100000 in
set_option maxHeartbeats 2000000 in
theorem chacBack_walk (key nonce : List Int) (ctr at_ : Int) (b : Option Addr) (len cap : Nat) (zs : List Int) (w : World) (hk : IsBytes key) (hkl : key.length = 32) (hn : IsBytes nonce) (hnl : nonce.length = 12) (hctr : 0 ≤ ctr ∧ ctr < 4294967296) (hb : Bs w b len cap zs) (hg : Glob w) :
    Calls Tryd.prog 7 #[.agg (bV key), .agg (bV nonce), .int .u32 ctr, .slice b len cap, .int .i64 at_] w fun e w' => e = .returned (.bool true) ∧ Below w.heap.size w w' := by
  have h0 := hg.lt
  have hS := KN.start w key nonce hg
  have hlc := hb.le_cap
  have hcc := hb.cap_le
  by_cases hbig : 700 < len
  · go_enter Tryd.func7, Tryd.ntmps7
    go_wp2_with fail
    refine (awake_any _ hS.gl).mono ?_
    rintro e w1 ⟨rfl, hb1⟩
    have hS1 := hS.later hb1
    go_wp2_with fail
    go_ret
    exact ⟨rfl, hS1.bel⟩
  obtain ⟨x, rfl⟩ := bv_of ctr hctr
  clear hctr
  obtain ⟨c, hc⟩ : ∃ c : BitVec 32, ((x.toNat % 2 ^ 24 : Nat) : Int) = (c.toNat : Int) := bv_of _ (by omega)
  have hcl : c.toNat < 16777216 := by omega
  have hx := u32_mask x 24 (by decide) 16777215 (by decide)
  rw [hc] at hx
  clear hc
  have hfit : ∀ n, n ≤ 700 → fits c n = true := fun n h => by unfold fits; simp; omega
  have hz := hb.length
  go_enter Tryd.func7, Tryd.ntmps7
  have kk := hS.kk
  have nn := hS.nn
  go_wp2_with (first
    | (refine wpList_loadA arrT32 (by rfl) _ (by rfl) w.heap.size (by rfl) (bV key) kk (by rw [bV_size, hkl]) ?_)
    | (refine wpList_loadA arrT12 (by rfl) _ (by rfl) (w.heap.size + 1) (by rfl) (bV nonce) nn (by rw [bV_size, hnl]) ?_))
  clear hx
  generalize ((w.alloc (Obj.cells (bV key) 22)).alloc (Obj.cells (bV nonce) 26)) = W0 at *
  refine (xor_at key nonce c _ _ _ W0 rfl rfl rfl hk hkl hn hnl (hb.below hS.bel) (by omega) (hfit _ (by omega)) hS.gl).mono ?_
  rintro e w1 ⟨gx, rfl, hx1, _, hb1⟩
  have hS1 := hS.later hb1
  clear hS hb1 kk nn
  have kk := hS1.kk
  have nn := hS1.nn
  go_wp2_with (first
    | (refine wpList_loadA arrT32 (by rfl) _ (by rfl) w.heap.size (by rfl) (bV key) kk (by rw [bV_size, hkl]) ?_)
    | (refine wpList_loadA arrT12 (by rfl) _ (by rfl) (w.heap.size + 1) (by rfl) (bV nonce) nn (by rw [bV_size, hnl]) ?_))
  have hXb := xorL_bytes key nonce c zs hb.bytes
  have hXl : (xorL key nonce c zs).length = len := by rw [xorL_length, hz]
  refine (xor_at key nonce c _ _ _ w1 rfl rfl rfl hk hkl hn hnl (hx1.bs hXb len hXl (by omega)) (by omega) (hfit _ (by omega)) hS1.gl).mono ?_
  rintro e w2 ⟨gy, rfl, hy2, _, hb2⟩
  rw [xorL_twice _ _ _ _ hb.bytes] at hy2
  have hS2 := hS1.later hb2
  have hx2 := hx1.below hb2
  clear hS1 hx1 hb2 kk nn
  obtain ⟨m1, hm1⟩ : ∃ m : Nat, at_ % 2 ^ 16 = (m : Int) := ⟨(at_ % 2 ^ 16).toNat, by omega⟩
  have ha1 := i64_mask at_ 16 (by decide) 65535 (by decide)
  rw [hm1] at ha1
  obtain ⟨m2, hm2⟩ : ∃ m : Nat, at_ % 2 ^ 8 = (m : Int) := ⟨(at_ % 2 ^ 8).toNat, by omega⟩
  have ha2 := i64_mask at_ 8 (by decide) 255 (by decide)
  rw [hm2] at ha2
  clear hm1 hm2
  obtain ⟨k, hk1⟩ : ∃ k : Nat, (m1 : Int) % ((len : Int) + 1) = (k : Int) := ⟨((m1 : Int) % ((len : Int) + 1)).toNat, by rw [Int.toNat_of_nonneg (Int.emod_nonneg _ (by omega))]⟩
  have hkl1 : k ≤ len := by have := Int.emod_lt_of_pos (m1 : Int) (show (0 : Int) < (len : Int) + 1 by omega); omega
  obtain ⟨q, hq1⟩ : ∃ q : Nat, (m2 : Int) % ((len : Int) / 64 + 1) = (q : Int) := ⟨((m2 : Int) % ((len : Int) / 64 + 1)).toNat, by rw [Int.toNat_of_nonneg (Int.emod_nonneg _ (by omega))]⟩
  have hql : 64 * q ≤ len := by have := Int.emod_lt_of_pos (m2 : Int) (show (0 : Int) < (len : Int) / 64 + 1 by omega); omega
  have cutk := run_cut_to (P := Tryd.prog) Tryd.underlying23 Tryd.size_u8 hb .i64 (k : Int) k rfl (by omega)
  go_wp2_with fail
  refine wp_region_ord 1000 [0, 1, 2, 3, 4, 5, 6, 7, 8, 9, 10, 11] (fun w' => OwnB 22 w' w.heap.size key ∧ OwnB 26 w' (w.heap.size + 1) nonce) (fun _ => True) (by kernel_rfl) (by kernel_rfl) (by kernel_rfl) ⟨hS2.kk, hS2.nn⟩ trivial (fun _ _ => ?_)
  replace hS2 := hS2.drew
  replace hx2 : OwnB 5 w2.drew gx (xorL key nonce c zs) := hx2
  replace hy2 : OwnB 5 w2.drew gy zs := hy2
  generalize w2.drew = W3 at *
  refine wpOrd_loadA arrT32 rfl rfl _ rfl w.heap.size (bV key) (by rfl) (fun _ h => h.1) (by rw [bV_size, hkl]) (fun _ _ _ h => h) (by rfl) ?_
  simp only [Act.put, List.setIfInBounds_toArray, List.set_cons_zero, List.set_cons_succ]
  refine wpOrd_loadA arrT12 rfl rfl _ rfl (w.heap.size + 1) (bV nonce) (by rfl) (fun _ h => h.2) (by rw [bV_size, hnl]) (fun _ _ _ h => h) (by rfl) ?_
  simp only [Act.put, List.setIfInBounds_toArray, List.set_cons_zero, List.set_cons_succ]
  repeat' (refine wpOrd_quiet (v := ?_) rfl rfl (fun _ _ _ h => h) (by rfl) ?_ ?_
           rotate_left
           · (intro w' _ _; go_simp; try rfl)
           simp only [Act.put, List.setIfInBounds_toArray, List.set_cons_zero, List.set_cons_succ])
  refine wpOrd_step rfl rfl (by rfl) (fun K' hK => ?_)
  go_simp
  refine (xor_at key nonce c _ _ _ W3 rfl rfl rfl hk hkl hn hnl ((hb.taken k hkl1).below hS2.bel) (by omega) (hfit _ (by omega)) hS2.gl).mono ?_
  rintro e w4 ⟨gz, rfl, hz4, _, hb4⟩
  rw [xorL_take _ _ _ _ _ (by omega)] at hz4
  have hS4 := hS2.later hb4
  have hx4 := hx2.below hb4
  have hy4 := hy2.below hb4
  clear hS2 hx2 hy2 hb4
  refine hK.out _ _ ⟨hS4.kk, hS4.nn⟩ (fun h => absurd h (by decide)) (fun _ => ?_)
  clear hK K' cutk
  try simp only [Act.put, List.setIfInBounds_toArray, List.set_cons_zero, List.set_cons_succ]
  repeat' (refine wpOrd_quiet (v := ?_) rfl rfl (fun _ _ _ h => h) (by rfl) ?_ ?_
           rotate_left
           · (intro w' _ _; go_simp; try rfl)
           simp only [Act.put, List.setIfInBounds_toArray, List.set_cons_zero, List.set_cons_succ])
  refine wpOrd_nil ?_
  have hcut := run_cut_from (P := Tryd.prog) Tryd.underlying23 Tryd.size_u8 b len cap .i64 (64 * (q : Int)) (64 * q) (by omega) hql
  have hw1 : IntKind.u32.wrap (q : Int) = (q : Int) := by rw [IntKind.wrap_u32']; omega
  have hw2 : IntKind.i64.wrap (64 * (q : Int)) = 64 * (q : Int) := by rw [IntKind.wrap_i64]; omega
  have hw3 : IntKind.u32.wrap ((c.toNat : Int) + (q : Int)) = ((c + BitVec.ofNat 32 q).toNat : Int) := by
    rw [← u32_add_bv, BitVec.toNat_ofNat, Nat.mod_eq_of_lt (by omega)]
  have hw4 : ((c.toNat : Int) + (q : Int)) % 4294967296 = ((c + BitVec.ofNat 32 q).toNat : Int) := by rw [← hw3, IntKind.wrap_u32']
  have HW : Hid (((c.toNat : Int) + (q : Int)) % 4294967296 = ((c + BitVec.ofNat 32 q).toNat : Int)) := hw4
  clear hw4 hw3
  have hfq : fits (c + BitVec.ofNat 32 q) (len - 64 * q) = true := by
    unfold fits
    rw [BitVec.toNat_add, BitVec.toNat_ofNat, Nat.mod_eq_of_lt (show q < 2 ^ 32 by omega), Nat.mod_eq_of_lt (by omega)]
    simp
    omega
  go_wp2_with fail
  refine wp_region_ord 1000 [0, 1, 2, 3, 4, 5, 6, 7, 8, 9, 10, 11, 12, 13, 14, 15] (fun w' => OwnB 22 w' w.heap.size key ∧ OwnB 26 w' (w.heap.size + 1) nonce) (fun _ => True) (by kernel_rfl) (by kernel_rfl) (by kernel_rfl) ⟨hS4.kk, hS4.nn⟩ trivial (fun _ _ => ?_)
  replace hS4 := hS4.drew
  replace hx4 : OwnB 5 w4.drew gx (xorL key nonce c zs) := hx4
  replace hy4 : OwnB 5 w4.drew gy zs := hy4
  replace hz4 : OwnB 5 w4.drew gz ((xorL key nonce c zs).take k) := hz4
  generalize w4.drew = W5 at *
  refine wpOrd_loadA arrT32 rfl rfl _ rfl w.heap.size (bV key) (by rfl) (fun _ h => h.1) (by rw [bV_size, hkl]) (fun _ _ _ h => h) (by rfl) ?_
  simp only [Act.put, List.setIfInBounds_toArray, List.set_cons_zero, List.set_cons_succ]
  refine wpOrd_loadA arrT12 rfl rfl _ rfl (w.heap.size + 1) (bV nonce) (by rfl) (fun _ h => h.2) (by rw [bV_size, hnl]) (fun _ _ _ h => h) (by rfl) ?_
  simp only [Act.put, List.setIfInBounds_toArray, List.set_cons_zero, List.set_cons_succ]
  repeat' (refine wpOrd_quiet (v := ?_) rfl rfl (fun _ _ _ h => h) (by rfl) ?_ ?_
           rotate_left
           · (intro w' _ _; go_simp; try rfl)
           simp only [Act.put, List.setIfInBounds_toArray, List.set_cons_zero, List.set_cons_succ])
  refine wpOrd_step rfl rfl (by rfl) (fun K' hK => ?_)
  go_simp
  refine (xor_at key nonce (c + BitVec.ofNat 32 q) _ _ _ W5 rfl rfl HW.out hk hkl hn hnl ((hb.cut (64 * q) hql).below hS4.bel) (by omega) hfq hS4.gl).mono ?_
  rintro e w6 ⟨gv, rfl, hv6, _, hb6⟩
  rw [xorL_drop] at hv6
  have hB : BK w w6 key nonce zs (xorL key nonce c zs) ((xorL key nonce c zs).take k) ((xorL key nonce c zs).drop (64 * q)) gx gy gz gv := ⟨hS4.later hb6, hx4.below hb6, hy4.below hb6, hz4.below hb6, hv6⟩
  clear hS4 hx4 hy4 hz4 hv6 hb6
  refine hK.out _ _ ⟨hB.kn.kk, hB.kn.nn⟩ (fun h => absurd h (by decide)) (fun _ => ?_)
  clear hK K' hcut hw1 hfq
  try simp only [Act.put, List.setIfInBounds_toArray, List.set_cons_zero, List.set_cons_succ]
  repeat' (refine wpOrd_quiet (v := ?_) rfl rfl (fun _ _ _ h => h) (by rfl) ?_ ?_
           rotate_left
           · (intro w' _ _; go_simp; try rfl)
           simp only [Act.put, List.setIfInBounds_toArray, List.set_cons_zero, List.set_cons_succ])
  refine wpOrd_nil ?_
  go_wp2_with fail
  clear hk1 hq1 ha1 ha2
  have hBT : ∀ W, BK w W key nonce zs (xorL key nonce c zs) ((xorL key nonce c zs).take k) ((xorL key nonce c zs).drop (64 * q)) gx gy gz gv → BT b len cap k q gx gy gz gv (strOfNums zs) (strOfNums ((xorL key nonce c zs).take k)) (strOfNums ((xorL key nonce c zs).drop (64 * q))) W :=
    fun W h => BT.of h hb hXb hXl hkl1 hql (by omega)
  have cx1 := run_cut_to (P := Tryd.prog) Tryd.underlying23 Tryd.size_u8 (hB.x.bs hXb len hXl (by omega)) .i64 (k : Int) k rfl (by omega)
  have cx2 := run_cut_from (P := Tryd.prog) Tryd.underlying23 Tryd.size_u8 (some ⟨gx, 0, none⟩) len len .i64 (64 * (q : Int)) (64 * q) (by omega) hql
  generalize xorL key nonce c zs = X at *
  generalize strOfNums zs = s0 at *
  generalize strOfNums (X.take k) = s1 at *
  generalize strOfNums (X.drop (64 * q)) = s2 at *
  refine wp_region_ord 1000 [0, 1, 2, 3, 4, 5, 6, 7, 8, 9, 10, 11, 12, 13, 14, 15, 16, 17, 18, 19, 20, 21, 22, 23, 24, 25, 26, 27, 28, 29, 30, 31, 32, 33, 34, 35, 36, 37, 38, 39, 40, 41, 42, 43, 44, 45, 46]
    (BT b len cap k q gx gy gz gv s0 s1 s2) (fun _ => True) (by kernel_rfl) (by kernel_rfl) (by kernel_rfl) (hBT _ hB.drew) trivial (fun _ _ => ?_)
  replace hB := hB.drew
  generalize w6.drew = W7 at *
  repeat' (refine wpOrd_quiet (v := ?_) rfl rfl (fun _ _ _ h => h) (by rfl) ?_ ?_
           rotate_left
           · (intro w' hT' _; obtain ⟨c1, c2, c3, c4, c5, c6⟩ := hT'; go_simp; try rfl)
           simp only [Act.put, List.setIfInBounds_toArray, List.set_cons_zero, List.set_cons_succ])
  refine wpOrd_step rfl rfl (by rfl) (fun K' hK => ?_)
  go_simp
  refine (awake_any W7 hB.kn.gl).mono ?_
  rintro e w8 ⟨rfl, hb8⟩
  have hB8 := hB.later hb8
  refine hK.out _ _ (hBT _ hB8) (fun h => absurd h (by decide)) (fun _ => ?_)
  clear hK K'
  try simp only [Act.put, List.setIfInBounds_toArray, List.set_cons_zero, List.set_cons_succ]
  repeat' (refine wpOrd_quiet (v := ?_) rfl rfl (fun _ _ _ h => h) (by rfl) ?_ ?_
           rotate_left
           · (intro w' _ _; go_simp; try rfl)
           simp only [Act.put, List.setIfInBounds_toArray, List.set_cons_zero, List.set_cons_succ])
  refine wpOrd_nil ?_
  go_wp2_with fail
  go_ret
  exact ⟨rfl, hB8.kn.bel⟩
#print axioms chacBack_walk
end Go.Proofs.YtidmmncleifoiaaDoor
