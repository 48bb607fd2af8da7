/- What a call of dumbwaiterlaw5.Number does: for all bits it answers some number; the world stays as it was. -/
import Derived.Test.YtjogkadmkohifabFMath
namespace Go.Proofs.Ytjogkadmkohifab
open Go.RowKit

theorem u64_and15 (n : Nat) (hn : n < 18446744073709551616) : bits .and .u64 (n : Int) 15 = ((n % 16 : Nat) : Int) := by
  rw [show (15 : Int) = ((15 : Nat) : Int) from rfl, u64_and_nat n 15 hn (by decide), show (15 : Nat) = 2 ^ 4 - 1 by decide, Nat.and_two_pow_sub_one_eq_mod]
theorem u64_and16 (n : Nat) (hn : n < 18446744073709551616) : bits .and .u64 (n : Int) 65535 = ((n % 65536 : Nat) : Int) := by
  rw [show (65535 : Int) = ((65535 : Nat) : Int) from rfl, u64_and_nat n 65535 hn (by decide), show (65535 : Nat) = 2 ^ 16 - 1 by decide, Nat.and_two_pow_sub_one_eq_mod]

theorem floatOfInt_lt (n : Int) : floatOfInt .f64 n < 18446744073709551616 := Ieee.Format.write_lt Ieee.double (.number (decide (n < 0)) n.natAbs 0)

set_option maxHeartbeats 1000000 in
theorem number_any (n : Nat) (w : World) (hn : n < 18446744073709551616) :
    Calls Try.prog 4 #[.int .u64 (n : Int)] w fun e w' => (∃ x, x < 18446744073709551616 ∧ e = .returned (.float .f64 x)) ∧ w = w' := by
  have h15 := u64_and15 n hn
  have hc := call_from n
  obtain ⟨k, hk⟩ : ∃ k, n % 16 = k := ⟨_, rfl⟩
  rw [hk] at h15
  have hk16 : k < 16 := by omega
  by_cases k0 : k = 0
  · subst k0
    go_enter Try.func4, Try.ntmps4
    go_wp2_with fail
    refine (nan_any w).mono ?_
    rintro e w1 ⟨rfl, rfl⟩
    go_wp2_with fail
    go_ret
    exact ⟨⟨9221120237041090561, by omega, rfl⟩, rfl⟩
  by_cases k1 : k = 1
  · subst k1
    go_enter Try.func4, Try.ntmps4
    go_wp2_with fail
    refine (inf_pos w).mono ?_
    rintro e w1 ⟨rfl, rfl⟩
    go_wp2_with fail
    go_ret
    exact ⟨⟨9218868437227405312, by omega, rfl⟩, rfl⟩
  by_cases k2 : k = 2
  · subst k2
    go_enter Try.func4, Try.ntmps4
    go_wp2_with fail
    refine (inf_neg w).mono ?_
    rintro e w1 ⟨rfl, rfl⟩
    go_wp2_with fail
    go_ret
    exact ⟨⟨18442240474082181120, by omega, rfl⟩, rfl⟩
  by_cases k3 : k = 3
  · subst k3
    go_enter Try.func4, Try.ntmps4
    go_wp2_with fail
    refine (minus_any w).mono ?_
    rintro e w1 ⟨rfl, rfl⟩
    go_wp2_with fail
    go_ret
    exact ⟨⟨9223372036854775808, by omega, rfl⟩, rfl⟩
  by_cases k4 : k = 4
  · subst k4
    go_enter Try.func4, Try.ntmps4
    go_wp2_with fail
    go_ret
    exact ⟨⟨0, by omega, rfl⟩, rfl⟩
  by_cases k5 : k = 5
  · subst k5
    have h16 := u64_and16 (n / 16) (by omega)
    rw [show ((n / 16 : Nat) : Int) = (n : Int) / 16 by omega] at h16
    obtain ⟨m, hm⟩ : ∃ m, n / 16 % 65536 = m := ⟨_, rfl⟩
    rw [hm] at h16
    have hm16 : m < 65536 := by omega
    have hF := floatOfInt_lt ((m : Int) - 30000)
    clear hk hm hc
    go_enter Try.func4, Try.ntmps4
    go_wp2_with fail
    go_ret
    exact ⟨⟨_, hF, rfl⟩, rfl⟩
  by_cases k6 : k = 6
  · subst k6
    go_enter Try.func4, Try.ntmps4
    go_wp2_with fail
    go_ret
    exact ⟨⟨9218868437227405311, by omega, rfl⟩, rfl⟩
  have b0 : ((k : Int) == 0) = false := by simp; omega
  have b1 : ((k : Int) == 1) = false := by simp; omega
  have b2 : ((k : Int) == 2) = false := by simp; omega
  have b3 : ((k : Int) == 3) = false := by simp; omega
  have b4 : ((k : Int) == 4) = false := by simp; omega
  have b5 : ((k : Int) == 5) = false := by simp; omega
  have b6 : ((k : Int) == 6) = false := by simp; omega
  clear k0 k1 k2 k3 k4 k5 k6 hk hk16
  go_enter Try.func4, Try.ntmps4
  go_wp2_with fail
  go_ret
  exact ⟨⟨n, hn, rfl⟩, rfl⟩
#print axioms number_any
end Go.Proofs.Ytjogkadmkohifab
