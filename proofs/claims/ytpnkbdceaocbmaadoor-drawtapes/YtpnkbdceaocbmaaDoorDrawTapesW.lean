/- The law DrawTapes answers true for every tape that can be read and every number, wherever quar.rounds reads as its text says; nothing that was there is turned. -/
import Derived.Test.YtpnkbdceaocbmaaDoorDAwake
namespace Go.Proofs.YtpnkbdceaocbmaaDoor
open Go.RowKit

theorem among_zero (n : Int) : among 0 n = 0 := by
  unfold among
  split <;> simp
theorem lvs_odd (n : Int) (h : 1 ≤ n) : lvs (n + n + 1) = false := by
  rw [Bool.eq_false_iff]
  intro hl
  obtain ⟨k, _, hk⟩ := (lvs_iff _).1 hl
  rcases k with _ | k
  · simp at hk; omega
  · rw [Nat.pow_succ] at hk
    omega

set_option maxRecDepth 100000 in
set_option maxHeartbeats 4000000 in
theorem drawTapes_walk (a : Option Addr) (len cap : Nat) (l : List Int) (leaves : Int) (w : World) (hl : Ns .u32 w a len cap l) (hn : -9223372036854775808 ≤ leaves ∧ leaves ≤ 9223372036854775807) (hg : Glob w) :
    Calls Tryd.prog 4 #[.slice a len cap, .int .i64 leaves] w fun e w' => e = .returned (.bool true) ∧ Below w.heap.size w w' := by
  have hll := hl.length
  have h0 := hg.lt
  by_cases hbig : 200 < len
  · have hcap := Nat.le_trans hl.le_cap hl.cap_le
    go_enter Tryd.func4, Tryd.ntmps4
    go_wp2_with fail
    refine (awake_any w hg).mono ?_
    rintro e w1 ⟨rfl, hb1⟩
    go_wp2_with fail
    go_ret
    exact ⟨rfl, hb1⟩
  go_enter Tryd.func4, Tryd.ntmps4
  go_wp2_with fail
  refine (tape_any w hl (by omega)).mono ?_
  rintro e w1 ⟨g, bt, rfl, hgw, _, _, hS1, hb1⟩
  have hg1 := hg.below hb1 h0
  have hne : g ≠ 0 := by omega
  go_wp2_with fail
  go_loopw [6] (fun v wr => ∃ k : Nat, k ≤ len ∧ v = .int .i64 k ∧ Src wr g (.tape bt l) k ∧ Glob wr ∧ Below w.heap.size w wr) (fun v _ => len - (intOf v).toNat)
  case atStart => exact ⟨0, Nat.zero_le _, rfl, hS1, hg1, hb1⟩
  case round =>
    obtain ⟨k, hk, rfl, hS, hG, hB⟩ := hrel
    clear hS1 hg1 hb1
    by_cases hlt : k < len
    · obtain ⟨b, off, rfl, hc⟩ := hl.place.resolve_left (by have := hl.le_cap; omega)
      have hbl : b < w.heap.size := World.block_lt_of_cell? w _ (hc k hlt)
      have hX := tapeD_num hl.wf k
      have hck := hc k hlt
      clear hc
      rw [hX] at hck
      have HA : Hid (among (tapeD l k) 65536 = (((tapeD l k).toNat % 2 ^ 16 : Nat) : Int)) := among_pow (tapeD l k) 16 (by decide)
      have hM := u32_mask (tapeD l k) 16 (by decide) 65535 (by decide)
      have hY : (tapeD l k).toNat % 2 ^ 16 < 65536 := Nat.mod_lt _ (by decide)
      have hu := u32_lt (tapeD l k)
      have hw1 : IntKind.i64.wrap (((tapeD l k).toNat % 2 ^ 16 : Nat) : Int) = (((tapeD l k).toNat % 2 ^ 16 : Nat) : Int) := by rw [IntKind.wrap_i64]; omega
      generalize (tapeD l k).toNat % 2 ^ 16 = Y at *
      have hcr : wr.cell? ⟨b, off + k, none⟩ = some (.int .u32 ((tapeD l k).toNat : Int)) := by rw [hB.cell hbl]; exact hck
      go_wp2_with fail
      refine wp_region_ord 1000 [0, 2, 3, 4, 5, 6, 7, 1, 8] (fun w' => w'.cell? ⟨b, off + k, none⟩ = some (.int .u32 ((tapeD l k).toNat : Int))) (fun _ => True) (by kernel_rfl) (by kernel_rfl) (by kernel_rfl) hcr trivial (fun _ _ => ?_)
      replace hS := hS.drew
      replace hG : Glob wr.drew := hG
      replace hB := hB.drew
      generalize wr.drew = W1 at *
      repeat' (refine wpOrd_quiet (v := ?_) rfl rfl (fun _ _ _ h => h) (by rfl) ?_ ?_
               rotate_left
               · (intro w' hT' _; go_simp; try rfl)
               simp only [Act.put, List.setIfInBounds_toArray, List.set_cons_zero, List.set_cons_succ])
      refine wpOrd_step rfl rfl (by rfl) (fun K' hK => ?_)
      go_simp
      refine (next_tape 65536 W1 hS hG hne (by decide)).mono ?_
      rintro e w2 ⟨rfl, hS2, hG2, hB2⟩
      have hb2 := hB2.below hB hgw hB.size
      rw [Nat.mod_eq_of_lt (by omega)] at hS2
      rw [HA.out]
      have hcr2 : w2.cell? ⟨b, off + k, none⟩ = some (.int .u32 ((tapeD l k).toNat : Int)) := by rw [hb2.cell hbl]; exact hck
      refine hK.out _ _ hcr2 (fun h => absurd h (by decide)) (fun _ => ?_)
      clear hK K' hS hG hB hB2 hcr
      try simp only [Act.put, List.setIfInBounds_toArray, List.set_cons_zero, List.set_cons_succ]
      repeat' (refine wpOrd_quiet (v := ?_) rfl rfl (fun _ _ _ h => h) (by rfl) ?_ ?_
               rotate_left
               · (intro w' hT' _; go_simp; try rfl)
               simp only [Act.put, List.setIfInBounds_toArray, List.set_cons_zero, List.set_cons_succ])
      refine wpOrd_nil ?_
      go_wp2_with fail
      go_roundw
      case rel => exact ⟨k + 1, by omega, by go_num, hS2, hG2, hb2⟩
      case measure => simp [intOf]; omega
    · obtain rfl : k = len := by omega
      have HD : ∀ j, Hid (tapeD l (k + j) = 0) := fun j => tapeD_end l (k + j) (by omega)
      go_wp2_with fail
      refine (next_tape 65536 wr hS hG hne (by decide)).mono ?_
      rintro e w2 ⟨rfl, hS2, hG2, hB2⟩
      have hb2 := hB2.below hB hgw hB.size
      rw [Nat.mod_eq_of_lt (by omega)] at hS2
      rw [show tapeD l k = 0 from (HD 0).out, among_zero]
      clear hS hG hB hB2
      go_wp2_with fail
      refine (leaves_any leaves w2 hn).mono ?_
      rintro e w3 ⟨rfl, rfl⟩
      cases hL : lvs leaves with
      | false =>
        go_wp2_with fail
        refine (next_tape leaves w2 hS2 hG2 hne hn).mono ?_
        rintro e w3 ⟨rfl, hS3, hG3, hB3⟩
        have hb3 := hB3.below hb2 hgw hb2.size
        rw [Nat.mod_eq_of_lt (by omega)] at hS3
        rw [(HD 1).out, among_zero]
        clear hS2 hG2 hb2 hB3
        have hu : IntKind.u64.wrap ((k : Int) + 2) = ((k + 1 + 1 : Nat) : Int) := by rw [wrap_u64]; omega
        go_wp2_with fail
        refine (used_any w3 hS3).mono ?_
        rintro e w4 ⟨rfl, rfl⟩
        go_wp2_with fail
        refine (awake_any w3 hG3).mono ?_
        rintro e w5 ⟨rfl, hb5⟩
        have hb5' := hb3.trans (hb5.mono hb3.size)
        go_wp2_with fail
        go_ret
        exact ⟨rfl, hb5'⟩
      | true =>
        have hl1 : 1 ≤ leaves ∧ leaves ≤ 65536 := by
          simp only [lvs, Bool.and_eq_true, decide_eq_true_eq] at hL
          exact hL.1
        have hw1 : IntKind.i64.wrap (leaves + leaves) = leaves + leaves := by rw [IntKind.wrap_i64]; omega
        have hw2 : IntKind.i64.wrap (leaves + leaves + 1) = leaves + leaves + 1 := by rw [IntKind.wrap_i64]; omega
        go_wp2_with fail
        refine (next_tape leaves w2 hS2 hG2 hne hn).mono ?_
        rintro e w3 ⟨rfl, hS3, hG3, hB3⟩
        have hb3 := hB3.below hb2 hgw hb2.size
        rw [Nat.mod_eq_of_lt (by omega)] at hS3
        rw [(HD 1).out, among_zero]
        clear hS2 hG2 hb2 hB3
        go_wp2_with fail
        refine (next_tape (leaves + leaves + 1) w3 hS3 hG3 hne (by omega)).mono ?_
        rintro e w4 ⟨rfl, hS4, hG4, hB4⟩
        have hb4 := hB4.below hb3 hgw hb3.size
        rw [Nat.mod_eq_of_lt (by omega)] at hS4
        rw [among_no _ _ (lvs_odd leaves hl1.1)]
        clear hS3 hG3 hb3 hB4
        have hu : IntKind.u64.wrap ((k : Int) + 3) = ((k + 1 + 1 + 1 : Nat) : Int) := by rw [wrap_u64]; omega
        go_wp2_with fail
        refine (used_any w4 hS4).mono ?_
        rintro e w5 ⟨rfl, rfl⟩
        go_wp2_with fail
        refine (awake_any w4 hG4).mono ?_
        rintro e w5 ⟨rfl, hb5⟩
        have hb5' := hb4.trans (hb5.mono hb4.size)
        go_wp2_with fail
        go_ret
        exact ⟨rfl, hb5'⟩
#print axioms drawTapes_walk
end Go.Proofs.YtpnkbdceaocbmaaDoor
