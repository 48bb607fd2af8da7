/- What calls of dumbwaiterref1.Sum, Get and Put do: for every slice of bytes that can be read, every number below 2^64, every size; nothing that was there is turned. -/
import Derived.Test.YthhaeiafgloacaaDoorLeSum
import Derived.Test.YthhaeiafgloacaaDoorLePut
import Derived.Test.YthhaeiafgloacaaDoorAppend
import Derived.Test.YthhaeiafgloacaaDoorRef1Get
import Derived.Test.YthhaeiafgloacaaDoorRef1Put
namespace Go.Proofs.YthhaeiafgloacaaDoor
open Go.RowKit

set_option maxHeartbeats 400000 in
theorem rsum_any {a : Option Addr} {len cap : Nat} {zs : List Int} (w : World) (h : Bs w a len cap zs) :
    Calls Tryd.prog 19 #[.slice a len cap] w fun e w' => e = .returned (.int .u64 (fnv zs)) ∧ w = w' := by
  have hl : len ≤ 9223372036854775807 := Nat.le_trans h.le_cap h.cap_le
  have hz := h.length
  have hlc := h.le_cap
  go_enter Tryd.func19, Tryd.ntmps19
  go_wp2
  go_loop [3, 4] (fun s i => ∃ k : Nat, k ≤ len ∧ i = .int .i64 k ∧ s = .int .u64 (fnv (zs.take k))) (fun _ i => len - (intOf i).toNat)
  case atStart => exact ⟨0, Nat.zero_le _, rfl, rfl⟩
  case round =>
    obtain ⟨k, hk, rfl, rfl⟩ := hrel
    by_cases hlt : k < len
    · rcases h.place with h0 | ⟨b, off, rfl, hc⟩
      · omega
      · have hcell := hc k hlt
        have hxb := h.bytes.getD k
        clear hc
        have HT : Hid (fnv (zs.take (k + 1)) = fnvStep (fnv (zs.take k)) (zs.getD k 0)) := by
          show _ = _
          unfold fnv
          rw [take_snoc zs k (by omega), fnvOf_append]; rfl
        generalize fnv (zs.take k) = S at *
        generalize zs.getD k 0 = X at *
        go_wp2
        go_round
        case rel => exact ⟨k + 1, by omega, by go_num, by rw [HT.out]; rfl⟩
        case measure => simp [intOf]; omega
    · go_wp2
      go_ret
      exact ⟨ret_u64 (by rw [List.take_of_length_le (by omega)]), rfl⟩

#print axioms rput_ok
end Go.Proofs.YthhaeiafgloacaaDoor
