/- The law DrawLeaves answers true for all numbers, wherever quar.rounds reads as its text says; nothing that was there is turned. -/
import Derived.Test.YtpnkbdceaocbmaaDoorDAwake
namespace Go.Proofs.YtpnkbdceaocbmaaDoor
open Go.RowKit

/-- Is n one of the first k powers of two? -/
def amid (n : Int) (k : Nat) : Bool := (List.range k).any fun j => n == ((2 ^ j : Nat) : Int)
theorem amid_step (n : Int) (k : Nat) : amid n (k + 1) = (amid n k || (n == ((2 ^ k : Nat) : Int))) := by
  simp [amid, List.range_succ]
theorem amid_all (n : Int) : amid n 17 = lvs n := by
  rw [Bool.eq_iff_iff, lvs_iff]
  simp only [amid, List.any_eq_true, List.mem_range, beq_iff_eq]
  constructor
  · rintro ⟨k, h1, h2⟩
    exact ⟨k, by omega, h2⟩
  · rintro ⟨k, h1, h2⟩
    exact ⟨k, by omega, h2⟩
theorem near_pow : ∀ k : Fin 17, ∀ q : Fin 40, 2 ^ q.val ≤ 2 ^ k.val + 3 → 2 ^ k.val ≤ 2 ^ q.val + 4 → 2 ^ k.val = 2 ^ q.val ∨ 2 ^ k.val = 1 ∨ 2 ^ k.val = 2 ∨ 2 ^ k.val = 4 ∨ 2 ^ k.val = 8 := by decide +kernel

set_option maxRecDepth 100000 in
set_option maxHeartbeats 4000000 in
theorem drawLeaves_walk (n bt bs : Int) (w : World) (hn : -9223372036854775808 ≤ n ∧ n ≤ 9223372036854775807) (hg : Glob w) :
    Calls Tryd.prog 5 #[.int .i64 n, .int .i64 bt, .int .i64 bs] w fun e w' => e = .returned (.bool true) ∧ Below w.heap.size w w' := by
  obtain ⟨q, hq⟩ : ∃ q : Nat, bt % 256 % 40 = (q : Int) := ⟨(bt % 256 % 40).toNat, by omega⟩
  have hq40 : q < 40 := by omega
  have e1 := i64_and255 bt
  have e2 := i64_and7 bs
  obtain ⟨b, hb⟩ : ∃ b : Int, bs % 8 - 3 = b := ⟨_, rfl⟩
  have hb4 : -3 ≤ b ∧ b ≤ 4 := by omega
  have hpw := wrap_pow q (by omega)
  have hnear : ∀ k, k ≤ 16 → (2 : Nat) ^ q ≤ 2 ^ k + 3 → 2 ^ k ≤ 2 ^ q + 4 → 2 ^ k = 2 ^ q ∨ 2 ^ k = 1 ∨ 2 ^ k = 2 ∨ 2 ^ k = 4 ∨ 2 ^ k = 8 := fun k hk => near_pow ⟨k, by omega⟩ ⟨q, hq40⟩
  have hp40 : (2 : Nat) ^ q < 2 ^ 40 := Nat.pow_lt_pow_right (by decide) hq40
  have HN : Hid (∀ k, k ≤ 16 → (2 : Nat) ^ q ≤ 2 ^ k + 3 → 2 ^ k ≤ 2 ^ q + 4 → 2 ^ k = 2 ^ q ∨ 2 ^ k = 1 ∨ 2 ^ k = 2 ∨ 2 ^ k = 4 ∨ 2 ^ k = 8) := hnear
  clear hnear
  go_enter Tryd.func5, Tryd.ntmps5
  go_wp2_with fail
  generalize (2 : Nat) ^ q = p at *
  go_loop [9, 10] (fun v i => ∃ k : Nat, k ≤ 17 ∧ i = .int .i64 k ∧ v = .bool (amid n k)) (fun _ i => 17 - (intOf i).toNat)
  case atStart => exact ⟨0, Nat.zero_le _, rfl, rfl⟩
  case round =>
    obtain ⟨k, hk, rfl, rfl⟩ := hrel
    by_cases hlt : k < 17
    · have hkw := wrap_pow k (by omega)
      have HS : Hid (amid n (k + 1) = (amid n k || (n == ((2 ^ k : Nat) : Int)))) := amid_step n k
      generalize (2 : Nat) ^ k = pk at *
      generalize amid n k = a at *
      cases a with
      | true =>
        go_wp2
        go_round
        case rel => exact ⟨k + 1, by omega, by go_num, by rw [HS.out]; rfl⟩
        case measure => simp [intOf]; omega
      | false =>
        go_wp2
        go_round
        case rel => exact ⟨k + 1, by omega, by go_num, by rw [HS.out]; rfl⟩
        case measure => simp [intOf]; omega
    · obtain rfl : k = 17 := by omega
      rw [amid_all]
      obtain ⟨x, hx⟩ : ∃ x : Int, (p : Int) + b = x := ⟨_, rfl⟩
      have hxb : -3 ≤ x ∧ x ≤ 2000000000000 := by omega
      have hxw : IntKind.i64.wrap (x - 1) = x - 1 := by rw [IntKind.wrap_i64]; omega
      have hxw2 : IntKind.i64.wrap ((p : Int) + b) = x := by rw [IntKind.wrap_i64]; omega
      cases hl : lvs x with
      | true =>
        obtain ⟨kk, hkk, hxk⟩ := (lvs_iff _).1 hl
        have hnear := HN.out kk hkk (by omega) (by omega)
        have hx1 : 1 ≤ x ∧ x ≤ 65536 ∧ bits .and .i64 x (x - 1) = 0 := by
          have := hl
          simp only [lvs, Bool.and_eq_true, decide_eq_true_eq] at this
          refine ⟨this.1.1, this.1.2, ?_⟩
          have e := i64_and_nat x.toNat (x.toNat - 1) (by omega) (by omega)
          rw [this.2, show ((x.toNat : Nat) : Int) = x by omega, show ((x.toNat - 1 : Nat) : Int) = x - 1 by omega] at e
          exact e
        obtain ⟨c1, c2, c3⟩ := hx1
        have hnr : x = p ∨ x = 1 ∨ x = 2 ∨ x = 4 ∨ x = 8 := by omega
        clear HN hnear hkk hxk
        go_wp2_with fail
        all_goals try (exfalso; omega)
        all_goals
          refine (leaves_any n w hn).mono ?_
          rintro e w1 ⟨rfl, rfl⟩
          go_wp2_with fail
        all_goals
          try subst ‹x = _›
          refine (leaves_any _ w (by omega)).mono ?_
          rintro e w1 ⟨rfl, rfl⟩
          rw [hl]
          go_wp2_with fail
        all_goals try (exfalso; omega)
        all_goals
          refine (awake_any w hg).mono ?_
          rintro e w1 ⟨rfl, hb1⟩
          go_wp2_with fail
          go_ret
          exact ⟨rfl, hb1⟩
      | false =>
        have hX : ¬ (1 ≤ x ∧ x ≤ 65536 ∧ bits .and .i64 x (x - 1) = 0) := by
          rintro ⟨d1, d2, d3⟩
          have e := i64_and_nat x.toNat (x.toNat - 1) (by omega) (by omega)
          rw [show ((x.toNat : Nat) : Int) = x by omega, show ((x.toNat - 1 : Nat) : Int) = x - 1 by omega, d3] at e
          have : lvs x = true := by simp [lvs, d1, d2]; omega
          rw [this] at hl
          cases hl
        clear HN
        go_wp2_with fail
        all_goals
          refine (leaves_any n w hn).mono ?_
          rintro e w1 ⟨rfl, rfl⟩
          go_wp2_with fail
        all_goals
          try subst ‹x = _›
          try (exfalso; revert hl; decide)
        all_goals
          refine (leaves_any _ w (by omega)).mono ?_
          rintro e w1 ⟨rfl, rfl⟩
          rw [hl]
          go_wp2_with fail
        all_goals
          first
          | (exfalso; exact hX ⟨by omega, by omega, by assumption⟩)
          | (exfalso; subst ‹x = 8›; revert hl; decide)
          | (refine (awake_any w hg).mono ?_
             rintro e w1 ⟨rfl, hb1⟩
             go_wp2_with fail
             go_ret
             exact ⟨by first | rfl | simp [*], hb1⟩)
#print axioms drawLeaves_walk
end Go.Proofs.YtpnkbdceaocbmaaDoor
