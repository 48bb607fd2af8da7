/- The law DrawMasks answers true for every key and all numbers, wherever quar.rounds reads as its text says; nothing that was there is turned. -/
import Derived.Test.YtpnkbdceaocbmaaDoorDAwake
namespace Go.Proofs.YtpnkbdceaocbmaaDoor
open Go.RowKit

theorem mask_of_mask (X A C : Nat) (h : C ≤ A) (hA : A ≤ 16) : bits .and .i64 ((X % 2 ^ A : Nat) : Int) (((2 ^ C : Nat) : Int) - 1) = ((X % 2 ^ C : Nat) : Int) := by
  have hc : ((2 ^ C : Nat) : Int) = (2 : Int) ^ C := Int.natCast_pow 2 C
  rw [i64_mask _ C (by omega) _ (by rw [hc]), ← hc]
  show ((X % 2 ^ A : Nat) : Int) % ((2 ^ C : Nat) : Int) = _
  rw [← Int.natCast_emod, Nat.mod_mod_of_dvd _ (Nat.pow_dvd_pow 2 h)]

set_option maxRecDepth 100000 in
set_option maxHeartbeats 4000000 in
theorem drawMasks_walk (key : List Int) (fr a b : Int) (w : World) (hk : IsBytes key) (hkl : key.length = 32) (hf : 0 ≤ fr ∧ fr < 18446744073709551616) (hg : Glob w) :
    Calls Tryd.prog 3 #[.agg (bV key), .int .u64 fr, .int .i64 a, .int .i64 b] w fun e w' => e = .returned (.bool true) ∧ Below w.heap.size w w' := by
  have h0 := hg.lt
  obtain ⟨n, rfl⟩ := Int.eq_ofNat_of_zero_le hf.1
  have hn : n < 18446744073709551616 := by omega
  obtain ⟨A, hA⟩ : ∃ A : Nat, a % 16 = (A : Int) := ⟨(a % 16).toNat, by omega⟩
  obtain ⟨B, hB⟩ : ∃ B : Nat, b % 16 = (B : Int) := ⟨(b % 16).toNat, by omega⟩
  have hA16 : A < 16 := by omega
  have hB16 : B < 16 := by omega
  have e1 := i64_and15 a
  have e2 := i64_and15 b
  rw [hA] at e1
  rw [hB] at e2
  obtain ⟨C, hC⟩ : ∃ C : Nat, (if B < A then B else A) = C := ⟨_, rfl⟩
  have hCA : C ≤ A := by split at hC <;> omega
  have hCB : C ≤ B := by split at hC <;> omega
  have hmin : (if B < A then (B : Int) else (A : Int)) = (C : Int) := by rw [← hC]; split <;> rfl
  clear hA hB hf hC
  have n1 := heap_alloc_new w (Obj.cells (bV key) 22)
  have hb0 := below_alloc (Below.refl w.heap.size w) (Obj.cells (bV key) 22)
  have hg0 := hg.below hb0 h0
  go_enter Tryd.func3, Tryd.ntmps3
  go_wp2_with fail
  generalize (w.alloc (Obj.cells (bV key) 22)) = W0 at *
  replace n1 : OwnB 22 W0 w.heap.size key := n1
  refine wp_region_ord 1000 [0, 1, 3, 4, 2, 5, 6, 7] (fun w' => OwnB 22 w' w.heap.size key) (fun _ => True) (by kernel_rfl) (by kernel_rfl) (by kernel_rfl) n1 trivial (fun _ _ => ?_)
  replace n1 : OwnB 22 W0.drew w.heap.size key := n1
  replace hb0 := hb0.drew
  replace hg0 : Glob W0.drew := hg0
  generalize W0.drew = W1 at *
  refine wpOrd_loadA arrT32 rfl rfl _ rfl w.heap.size (bV key) (by rfl) (fun _ h => h) (by rw [bV_size, hkl]) (fun _ _ _ h => h) (by rfl) ?_
  simp only [Act.put, List.setIfInBounds_toArray, List.set_cons_zero, List.set_cons_succ]
  refine wpOrd_quiet (v := .int .u64 (n : Int)) rfl rfl (fun _ _ _ h => h) (by rfl) (by intro w' _ _; go_simp; try rfl) ?_
  simp only [Act.put, List.setIfInBounds_toArray, List.set_cons_zero, List.set_cons_succ]
  refine wpOrd_loadA arrT32 rfl rfl _ rfl w.heap.size (bV key) (by rfl) (fun _ h => h) (by rw [bV_size, hkl]) (fun _ _ _ h => h) (by rfl) ?_
  simp only [Act.put, List.setIfInBounds_toArray, List.set_cons_zero, List.set_cons_succ]
  refine wpOrd_quiet (v := .int .u64 (n : Int)) rfl rfl (fun _ _ _ h => h) (by rfl) (by intro w' _ _; go_simp; try rfl) ?_
  simp only [Act.put, List.setIfInBounds_toArray, List.set_cons_zero, List.set_cons_succ]
  refine wpOrd_step rfl rfl (by rfl) (fun K' hK => ?_)
  go_simp
  refine (stream_any key n W1 hk hkl hn).mono ?_
  rintro e w2 ⟨g1, rfl, hg1, hS1, hb1⟩
  have hb2 := hb0.trans (hb1.mono hb0.size)
  have hk2 := n1.below hb1
  have hG2 := hg0.below hb1 hg0.lt
  have hgw1 : w.heap.size < g1 := by have := n1.lt; omega
  refine hK.out _ _ hk2 (fun h => absurd h (by decide)) (fun _ => ?_)
  clear hK K' hb1 hb0 n1 hg0 hg1
  try simp only [Act.put, List.setIfInBounds_toArray, List.set_cons_zero, List.set_cons_succ]
  refine wpOrd_step rfl rfl (by rfl) (fun K' hK => ?_)
  go_simp
  refine (stream_any key n w2 hk hkl hn).mono ?_
  rintro e w3 ⟨g2, rfl, hg2, hS2, hb3⟩
  have hb3' := hb2.trans (hb3.mono hb2.size)
  have hk3 := hk2.below hb3
  have hG3 := hG2.below hb3 hG2.lt
  have hS13 := hS1.below hb3
  have hlt12 : g1 < g2 := by have := hS1.lt; omega
  refine hK.out _ _ hk3 (fun h => absurd h (by decide)) (fun _ => ?_)
  clear hK K' hb3 hb2 hk2 hG2 hS1 hk3 hg2
  try simp only [Act.put, List.setIfInBounds_toArray, List.set_cons_zero, List.set_cons_succ]
  repeat' (refine wpOrd_quiet (v := ?_) rfl rfl (fun _ _ _ h => h) (by rfl) ?_ ?_
           rotate_left
           · (intro w' _ _; go_simp; try rfl)
           simp only [Act.put, List.setIfInBounds_toArray, List.set_cons_zero, List.set_cons_succ])
  refine wpOrd_nil ?_
  go_wp2_with fail
  go_loopw [11] (fun v wr => ∃ k : Nat, k ≤ 8 ∧ v = .int .i64 k ∧ Src wr g1 (.strm key) ((n + k) % 18446744073709551616) ∧ Src wr g2 (.strm key) ((n + k) % 18446744073709551616) ∧ Glob wr ∧ Below w.heap.size w wr) (fun v _ => 8 - (intOf v).toNat)
  case atStart => exact ⟨0, Nat.zero_le _, rfl, by rw [Nat.add_zero, Nat.mod_eq_of_lt hn]; exact hS13, by rw [Nat.add_zero, Nat.mod_eq_of_lt hn]; exact hS2, hG3, hb3'⟩
  case round =>
    obtain ⟨k, hk8, rfl, hT1, hT2, hG, hBl⟩ := hrel
    clear hS13 hS2 hG3 hb3'
    by_cases hlt : k < 8
    · have hp1 := wrap_pow A (by omega)
      have hp2 := wrap_pow B (by omega)
      have hp3 := wrap_pow C (by omega)
      have hstep : ((n + k) % 18446744073709551616 + 1) % 18446744073709551616 = (n + (k + 1)) % 18446744073709551616 := by omega
      obtain ⟨m, hm⟩ : ∃ m, (n + k) % 18446744073709551616 = m := ⟨_, rfl⟩
      rw [hm] at hT1 hT2 hstep
      have HX1 : Hid (among (streamD key m) ((2 ^ A : Nat) : Int) = (((streamD key m).toNat % 2 ^ A : Nat) : Int)) := among_pow _ A (by omega)
      have HX2 : Hid (among (streamD key m) ((2 ^ B : Nat) : Int) = (((streamD key m).toNat % 2 ^ B : Nat) : Int)) := among_pow _ B (by omega)
      have hM1 := mask_of_mask (streamD key m).toNat A C hCA (by omega)
      have hM2 := mask_of_mask (streamD key m).toNat B C hCB (by omega)
      have q1 : 2 ^ A ≤ 2 ^ 15 := Nat.pow_le_pow_right (by decide) (by omega)
      have q2 : 2 ^ B ≤ 2 ^ 15 := Nat.pow_le_pow_right (by decide) (by omega)
      have q3 : 2 ^ C ≤ 2 ^ 15 := Nat.pow_le_pow_right (by decide) (by omega)
      have q4 : 0 < 2 ^ C := Nat.pow_pos (by decide)
      have r1 : (streamD key m).toNat % 2 ^ A < 2 ^ A := Nat.mod_lt _ (Nat.pow_pos (by decide))
      have r2 : (streamD key m).toNat % 2 ^ B < 2 ^ B := Nat.mod_lt _ (Nat.pow_pos (by decide))
      generalize (streamD key m).toNat % 2 ^ A = XA at *
      generalize (streamD key m).toNat % 2 ^ B = XB at *
      generalize (streamD key m).toNat % 2 ^ C = XC at *
      generalize (2 : Nat) ^ A = pA at *
      generalize (2 : Nat) ^ B = pB at *
      generalize (2 : Nat) ^ C = pC at *
      go_wp2_with fail
      refine (next_strm (pA : Int) wr hT1 hG (by omega) (by omega)).mono ?_
      rintro e w4 ⟨rfl, hT1', hG', hB'⟩
      have hT2' := hT2.but hB' (by omega) trivial
      have hb4 := hB'.below hBl (by omega) hBl.size
      rw [HX1.out]
      rw [hstep] at hT1'
      clear hT1 hT2 hG hBl hB'
      go_wp2_with fail
      refine (next_strm (pB : Int) w4 hT2' hG' (by omega) (by omega)).mono ?_
      rintro e w5 ⟨rfl, hT2'', hG'', hB''⟩
      have hT1'' := hT1'.but hB'' (by omega) trivial
      have hb5 := hB''.below hb4 (by omega) hb4.size
      rw [HX2.out]
      rw [hstep] at hT2''
      clear hT1' hT2' hG' hb4 hB''
      go_wp2_with fail
      go_roundw
      case rel => exact ⟨k + 1, by omega, by go_num, hT1'', hT2'', hG'', hb5⟩
      case measure => simp [intOf]; omega
    · obtain rfl : k = 8 := by omega
      obtain ⟨m, hm⟩ : ∃ m, (n + 8) % 18446744073709551616 = m := ⟨_, rfl⟩
      rw [hm] at hT1 hT2
      clear hm
      go_wp2_with fail
      refine (used_any wr hT1).mono ?_
      rintro e w4 ⟨rfl, rfl⟩
      go_wp2_with fail
      refine (used_any wr hT2).mono ?_
      rintro e w4 ⟨rfl, rfl⟩
      go_wp2_with fail
      refine (awake_any wr hG).mono ?_
      rintro e w5 ⟨rfl, hb5⟩
      have hb5' := hBl.trans (hb5.mono hBl.size)
      go_wp2_with fail
      go_ret
      exact ⟨rfl, hb5'⟩
#print axioms drawMasks_walk
end Go.Proofs.YtpnkbdceaocbmaaDoor
