/- The law ChacBounds answers true for every key, nonce, word and number, wherever quar.rounds reads as its text says; nothing that was there is turned. -/
import Derived.Test.YtidmmncleifoiaaDoorCLaw
namespace Go.Proofs.YtidmmncleifoiaaDoor
open Go.RowKit

set_option maxRecDepth 100000 in
set_option maxHeartbeats 1000000 in
theorem chacBounds_walk (key nonce : List Int) (back n : Int) (w : World) (hk : IsBytes key) (hkl : key.length = 32) (hn : IsBytes nonce) (hnl : nonce.length = 12) (hback : 0 ≤ back ∧ back < 4294967296) (hg : Glob w) :
    Calls Tryd.prog 4 #[.agg (bV key), .agg (bV nonce), .int .u32 back, .int .i64 n] w fun e w' => e = .returned (.bool true) ∧ Below w.heap.size w w' := by
  have h0 := hg.lt
  obtain ⟨x, rfl⟩ := bv_of back hback
  clear hback
  obtain ⟨b, hb⟩ : ∃ b : Nat, x.toNat % 2 ^ 3 = b := ⟨_, rfl⟩
  have hb8 : b < 8 := by omega
  have hx := u32_mask x 3 (by decide) 7 (by decide)
  rw [hb] at hx
  obtain ⟨m, hm⟩ : ∃ m : Nat, n % 2 ^ 10 = (m : Int) := ⟨(n % 2 ^ 10).toNat, by omega⟩
  have hm1 : m < 1024 := by omega
  have hy := i64_mask n 10 (by decide) 1023 (by decide)
  rw [hm] at hy
  clear hm hb
  have hsub : IntKind.u32.wrap (4294967295 - (b : Int)) = 4294967295 - (b : Int) := by rw [IntKind.wrap_u32']; omega
  have hS := KN.start w key nonce hg
  go_enter Tryd.func4, Tryd.ntmps4
  go_wp2_with fail
  generalize ((w.alloc (Obj.cells (bV key) 22)).alloc (Obj.cells (bV nonce) 26)) = W0 at *
  have hmk := run_make_row' (P := Tryd.prog) 23 5 (.int .u8 0) 1 Tryd.underlying23 Tryd.info_u8 rfl .i64 .i64 m (by omega) (by omega)
  refine wp_region_ord 1000 [0, 1, 2, 3, 4, 5, 6, 7, 8, 9, 10, 11] (fun w' => OwnB 22 w' w.heap.size key ∧ OwnB 26 w' (w.heap.size + 1) nonce) (fun _ => True) (by kernel_rfl) (by kernel_rfl) (by kernel_rfl) ⟨hS.kk, hS.nn⟩ trivial (fun _ _ => ?_)
  replace hS := hS.drew
  generalize W0.drew = W1 at *
  refine wpOrd_loadA arrT32 rfl rfl _ rfl w.heap.size (bV key) (by rfl) (fun _ h => h.1) (by rw [bV_size, hkl]) (fun _ _ _ h => h) (by rfl) ?_
  simp only [Act.put, List.setIfInBounds_toArray, List.set_cons_zero, List.set_cons_succ]
  refine wpOrd_loadA arrT12 rfl rfl _ rfl (w.heap.size + 1) (bV nonce) (by rfl) (fun _ h => h.2) (by rw [bV_size, hnl]) (fun _ _ _ h => h) (by rfl) ?_
  simp only [Act.put, List.setIfInBounds_toArray, List.set_cons_zero, List.set_cons_succ]
  repeat' (refine wpOrd_quiet (v := ?_) rfl rfl (fun _ _ _ h => h) (by rfl) ?_ ?_
           rotate_left
           · (intro w' _ _; go_simp; try rfl)
           simp only [Act.put, List.setIfInBounds_toArray, List.set_cons_zero, List.set_cons_succ])
  refine wpOrd_step rfl rfl (by rfl) (fun K' hK => ?_)
  go_simp
  have hS2 := hS.alloc (Obj.cells (madeCells #[Value.int IntKind.u8 0] m) 5)
  have hZ2 := (made_zL (w := W1) (n := m) (E := 5)).bs (zL_bytes _) m (zL_length _) (by omega)
  refine hK.out _ _ ⟨hS2.kk, hS2.nn⟩ (fun h => absurd h (by decide)) (fun _ => ?_)
  clear hK K' hmk hS
  generalize (W1.alloc (Obj.cells (madeCells #[Value.int IntKind.u8 0] m) 5)) = W2 at *
  generalize W1.heap.size = gz at *
  try simp only [Act.put, List.setIfInBounds_toArray, List.set_cons_zero, List.set_cons_succ]
  refine wpOrd_step rfl rfl (by rfl) (fun K' hK => ?_)
  go_simp
  obtain ⟨c, hc⟩ : ∃ c : BitVec 32, 4294967295 - (b : Int) = (c.toNat : Int) := bv_of _ (by omega)
  refine (xor_all key nonce c _ _ _ W2 rfl rfl hc hk hkl hn hnl hZ2 (by omega) hS2.gl).mono ?_
  rintro e w3 ⟨a3, n3, rfl, _, hb3⟩
  have hS3 := hS2.later hb3
  have hf : fits c m = decide ((m + 63) / 64 ≤ b + 1) := by
    unfold fits
    rw [decide_eq_decide]
    omega
  rw [hf]
  clear hS2 hZ2 hb3 hf hc
  refine hK.out _ _ ⟨hS3.kk, hS3.nn⟩ (fun h => absurd h (by decide)) (fun _ => ?_)
  clear hK K'
  try simp only [Act.put, List.setIfInBounds_toArray, List.set_cons_zero, List.set_cons_succ]
  repeat' (refine wpOrd_quiet (v := ?_) rfl rfl (fun _ _ _ h => h) (by rfl) ?_ ?_
           rotate_left
           · (intro w' _ _; go_simp; try rfl)
           simp only [Act.put, List.setIfInBounds_toArray, List.set_cons_zero, List.set_cons_succ])
  refine wpOrd_nil ?_
  have kk := hS3.kk
  have nn := hS3.nn
  go_wp2_with (first
    | (refine wpList_loadA arrT32 (by rfl) _ (by rfl) w.heap.size (by rfl) (bV key) kk (by rw [bV_size, hkl]) ?_)
    | (refine wpList_loadA arrT12 (by rfl) _ (by rfl) (w.heap.size + 1) (by rfl) (bV nonce) nn (by rw [bV_size, hnl]) ?_))
  refine (xor_at key nonce 4294967295 _ _ _ w3 rfl rfl rfl hk hkl hn hnl (Bs.nil w3) (by decide) (by decide) hS3.gl).mono ?_
  rintro e w4 ⟨g4, rfl, _, _, hb4⟩
  have hS4 := hS3.later hb4
  clear hS3 hb4 kk nn
  go_wp2_with fail
  refine (awake_any w4 hS4.gl).mono ?_
  rintro e w5 ⟨rfl, hb5⟩
  have hS5 := hS4.later hb5
  go_wp2_with fail
  go_ret
  exact ⟨rfl, hS5.bel⟩
#print axioms chacBounds_walk
end Go.Proofs.YtidmmncleifoiaaDoor
