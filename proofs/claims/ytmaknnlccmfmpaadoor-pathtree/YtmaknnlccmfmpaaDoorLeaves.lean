
/- What calls of draw.Leaves and of dumbwaiterref1's Leaves answer, of every number; nothing is turned. -/
import Derived.Test.YtmaknnlccmfmpaaDoorRows
import Derived.Test.YtmaknnlccmfmpaaDoorLvs
namespace Go.Proofs.YtmaknnlccmfmpaaDoor
open Go.RowKit
set_option maxRecDepth 20000

set_option maxHeartbeats 400000 in
theorem leaves_any (n : Int) (w : World) (hn : -9223372036854775808 ≤ n ∧ n ≤ 9223372036854775807) :
    Calls Tryd.prog 23 #[.int .i64 n] w fun e w' => e = .returned (.bool (lvs n)) ∧ w = w' := by
  by_cases h1 : 1 ≤ n
  · by_cases h2 : n ≤ 65536
    · obtain ⟨m, rfl⟩ := Int.eq_ofNat_of_zero_le (show 0 ≤ n by omega)
      have hL : lvs (m : Int) = decide (m &&& (m - 1) = 0) := by simp [lvs, h1, h2]
      rw [hL]
      have hs : IntKind.i64.wrap ((m : Int) - 1) = ((m - 1 : Nat) : Int) := by rw [IntKind.wrap_i64]; omega
      have hA := i64_and_nat m (m - 1) (by omega) (by omega)
      have hE : ((((m &&& (m - 1) : Nat) : Int)) == 0) = decide (m &&& (m - 1) = 0) := by
        rw [Bool.eq_iff_iff]; simp
      clear hL
      generalize (m &&& (m - 1)) = X at *
      go_enter Tryd.func23, Tryd.ntmps23
      go_wp2
      go_ret
      exact ⟨by first | rfl | (simp; omega), rfl⟩
    · have hL : lvs n = false := by simp [lvs, h2]
      rw [hL]
      go_enter Tryd.func23, Tryd.ntmps23
      go_wp2
      go_ret
      exact ⟨rfl, rfl⟩
  · have hL : lvs n = false := by simp [lvs, h1]
    rw [hL]
    go_enter Tryd.func23, Tryd.ntmps23
    go_wp2
    go_ret
    exact ⟨rfl, rfl⟩
set_option maxHeartbeats 400000 in
theorem rleaves_any (n : Int) (w : World) (hn : -9223372036854775808 ≤ n ∧ n ≤ 9223372036854775807) :
    Calls Tryd.prog 19 #[.int .i64 n] w fun e w' => e = .returned (.bool (lvs n)) ∧ w = w' := by
  by_cases h1 : 1 ≤ n
  · by_cases h2 : n ≤ 65536
    · obtain ⟨m, rfl⟩ := Int.eq_ofNat_of_zero_le (show 0 ≤ n by omega)
      have hL : lvs (m : Int) = decide (m &&& (m - 1) = 0) := by simp [lvs, h1, h2]
      rw [hL]
      have hs : IntKind.i64.wrap ((m : Int) - 1) = ((m - 1 : Nat) : Int) := by rw [IntKind.wrap_i64]; omega
      have hA := i64_and_nat m (m - 1) (by omega) (by omega)
      have hE : ((((m &&& (m - 1) : Nat) : Int)) == 0) = decide (m &&& (m - 1) = 0) := by
        rw [Bool.eq_iff_iff]; simp
      clear hL
      generalize (m &&& (m - 1)) = X at *
      go_enter Tryd.func19, Tryd.ntmps19
      go_wp2
      go_ret
      exact ⟨by first | rfl | (simp; omega), rfl⟩
    · have hL : lvs n = false := by simp [lvs, h2]
      rw [hL]
      go_enter Tryd.func19, Tryd.ntmps19
      go_wp2
      go_ret
      exact ⟨rfl, rfl⟩
  · have hL : lvs n = false := by simp [lvs, h1]
    rw [hL]
    go_enter Tryd.func19, Tryd.ntmps19
    go_wp2
    go_ret
    exact ⟨rfl, rfl⟩
#print axioms leaves_any
#print axioms rleaves_any
end Go.Proofs.YtmaknnlccmfmpaaDoor
