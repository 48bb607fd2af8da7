
/- What a call of dumbwaiterref1.Put does: for every number and every size; nothing that was there is turned. -/
import Derived.Test.YtgjffoeegnljlaaLePut
import Derived.Test.YtgjffoeegnljlaaAppend
namespace Go.Proofs.Ytgjffoeegnljlaa
open Go.RowKit
set_option maxRecDepth 20000

theorem putL_snoc (n : Int) (k : Nat) : putL n (k + 1) = putL n k ++ [byteAt n k] := by
  unfold putL
  rw [List.range_succ, List.map_append]; rfl

set_option maxHeartbeats 400000 in
theorem rput_ok (n : Int) (size : Nat) (w : World) (hn : 0 ≤ n ∧ n < 18446744073709551616) (hs : size ≤ 8) :
    Calls Try.prog 30 #[.int .u64 n, .int .i64 size] w fun e w' => ∃ a cap, e = .returned (.slice a size cap) ∧ OwnS 5 w.heap.size w' a size cap (putL n size) ∧ Below w.heap.size w w' := by
  go_enter Try.func30, Try.ntmps30
  go_wp2
  go_loopw [5, 6] (fun v i wr => ∃ (k : Nat) (a : Option Addr) (cap : Nat), k ≤ size ∧ i = .int .i64 k ∧ v = .slice a k cap ∧ OwnS 5 w.heap.size wr a k cap (putL n k) ∧ Below w.heap.size w wr) (fun _ i _ => size - (intOf i).toNat)
  case atStart => exact ⟨0, none, 0, Nat.zero_le _, rfl, rfl, OwnS.nil _ _ _, Below.refl _ _⟩
  case round =>
    obtain ⟨k, a, cap, hk, rfl, rfl, hown, hbel⟩ := hrel
    by_cases hlt : k < size
    · have hX : n / 2 ^ (8 * k) % 256 = byteAt n k := by
        have e : (2 : Int) ^ (8 * k) = 256 ^ k := by rw [Int.pow_mul]; rfl
        rw [e]; rfl
      obtain ⟨a2, c2, w2, hr2, ho2, hb2, _⟩ := run_append_one (P := Try.prog) Try.underlying22 Try.info_u8 22 w.heap.size w wr a k cap (putL n k) (byteAt n k) hown (byteAt_lt n k) (by omega) hbel.size hbel
      rw [← putL_snoc] at ho2
      rw [← hX] at hr2
      have h0 : 0 ≤ n / 2 ^ (8 * k) := Int.ediv_nonneg hn.1 (Int.le_of_lt (Int.pow_pos (by decide)))
      have h1 : n / 2 ^ (8 * k) < 18446744073709551616 := Int.lt_of_le_of_lt (Int.ediv_le_self _ hn.1) hn.2
      clear hX hown hbel
      go_wp2_with (at_builtin; refine wpList_append_run (by rfl) (.tmp 18) (.tmp 25) 22 (by rfl) _ _ _ _ (by rfl) (by rfl) hr2 ?_)
      go_roundw
      case rel => exact ⟨k + 1, a2, c2, by omega, by go_num, rfl, ho2, hb2⟩
      case measure => simp [intOf]; omega
    · obtain rfl : k = size := by omega
      go_wp2
      go_ret
      exact ⟨a, cap, rfl, hown, hbel⟩
theorem rput_bad (n size : Int) (w : World) (hs : size < 0 ∨ 8 < size) :
    Calls Try.prog 30 #[.int .u64 n, .int .i64 size] w fun e w' => e = .returned (.slice none 0 0) ∧ w = w' := by
  rcases hs with hs | hs
  · go_enter Try.func30, Try.ntmps30
    go_wp2
    go_ret
    exact ⟨rfl, rfl⟩
  · have h0 : decide (size < 0) = false := by simp; omega
    go_enter Try.func30, Try.ntmps30
    go_wp2
    go_ret
    exact ⟨rfl, rfl⟩
#print axioms rput_ok
end Go.Proofs.Ytgjffoeegnljlaa
