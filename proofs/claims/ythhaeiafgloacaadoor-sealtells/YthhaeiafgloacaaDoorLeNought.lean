/- What calls of le.canPad and le.allNought do: for every slice of bytes that can be read and every number; nothing that was there is turned. -/
import Derived.Test.YthhaeiafgloacaaDoorLePut
import Derived.Laws.CopyOwn
import Derived.Deep.QuietTactic
import Derived.BigQuiet
namespace Go.Proofs.YthhaeiafgloacaaDoor
open Go.RowKit

theorem canPad_yes (m : Int) (w : World) (h0 : 0 ≤ m) (h1 : m ≤ 60000) : Calls Tryd.prog 29 #[.int .i64 m] w fun e w' => e = .returned (.bool true) ∧ w = w' := by
  go_enter Tryd.func29, Tryd.ntmps29
  go_wp2
  go_ret
  exact ⟨rfl, rfl⟩
theorem canPad_no (m : Int) (w : World) (h : m < 0 ∨ 60000 < m) : Calls Tryd.prog 29 #[.int .i64 m] w fun e w' => e = .returned (.bool false) ∧ w = w' := by
  rcases h with h | h
  · go_enter Tryd.func29, Tryd.ntmps29
    go_wp2
    go_ret
    exact ⟨rfl, rfl⟩
  · have h0 : 0 ≤ m := by omega
    go_enter Tryd.func29, Tryd.ntmps29
    go_wp2
    go_ret
    exact ⟨ret_bool (by simp; omega), rfl⟩

theorem nought_any {a : Option Addr} {len cap : Nat} {zs : List Int} (w : World) (h : Bs w a len cap zs) :
    Calls Tryd.prog 33 #[.slice a len cap] w fun e w' => e = .returned (.bool (allZ zs)) ∧ w = w' := by
  have hl : len ≤ 9223372036854775807 := Nat.le_trans h.le_cap h.cap_le
  have hz := h.length
  go_enter Tryd.func33, Tryd.ntmps33
  go_wp2
  go_loop [7] (fun i => ∃ k : Nat, k ≤ len ∧ i = .int .i64 k ∧ allZ (zs.take k) = true) (fun i => len - (intOf i).toNat)
  case atStart => exact ⟨0, Nat.zero_le _, rfl, rfl⟩
  case round =>
    obtain ⟨k, hk, rfl, hall⟩ := hrel
    by_cases hlt : k < len
    · have hplc := h.le_cap
      rcases h.place with h0 | ⟨b, off, rfl, hc⟩
      · omega
      · have hcell := hc k hlt
        clear hc
        by_cases hx : zs.getD k 0 = 0
        · have HA : Hid (allZ (zs.take (k + 1)) = true) := allZ_step zs k (by omega) hall hx
          rw [hx] at hcell
          clear hx hall
          go_wp2
          go_round
          case rel => exact ⟨k + 1, by omega, by go_num, HA.out⟩
          case measure => simp [intOf]; omega
        · have HA : Hid (allZ zs = false) := allZ_stop zs k (by omega) hx
          have hx' : (zs.getD k 0 != 0) = true := by simpa using hx
          clear hx hall
          generalize zs.getD k 0 = X at *
          go_wp2
          go_ret
          exact ⟨ret_bool (by rw [HA.out]), rfl⟩
    · have hk' : k = len := by omega
      subst hk'
      go_wp2
      go_ret
      refine ⟨?_, rfl⟩
      rw [List.take_of_length_le (by omega)] at hall
      exact ret_bool (by rw [hall])

#print axioms nought_any
end Go.Proofs.YthhaeiafgloacaaDoor
