
/- What a call of le.Get does: for every slice of bytes that can be read it answers the number whose bytes the first eight are; the world stays as it was. -/
import Derived.Test.YtgjffoeegnljlaaRows
import Derived.Test.YtgjffoeegnljlaaMem
import Derived.WalkLawsBesides
import Derived.WalkSpells
namespace Go.Proofs.Ytgjffoeegnljlaa
open Go.RowKit
set_option maxRecDepth 20000

theorem leNum_step (zs : List Int) (m j : Nat) (N : Int) (hb : IsBytes zs) (hm : m ≤ 8) (hl : m ≤ zs.length) (hj : j + 1 ≤ m) (hN : N = leNum ((zs.take m).drop (j + 1))) :
    bits BinOp.or IntKind.u64 (N * 256) (zs.getD j 0) = leNum ((zs.take m).drop j) := by
  have h1 := leNum_lt7 ((zs.take m).drop (j + 1)) ((hb.take m).drop _) (by simp; omega)
  have h2 := hb.getD j
  rw [← hN] at h1
  rw [or_byte N _ h1.1 h1.2 h2.1 h2.2, drop_take_cons zs m j (by omega) hl, leNum, hN]

set_option maxHeartbeats 400000 in
theorem get_some (b off len cap : Nat) (zs : List Int) (w : World) (hl : len ≤ 9223372036854775807) (hz : zs.length = len) (hw : IsBytes zs)
   (hc : ∀ i, i < len → w.cell? ⟨b, off + i, none⟩ = some (.int .u8 (zs.getD i 0))) :
    Calls Try.prog 29 #[.slice (some ⟨b, off, none⟩) len cap] w fun e w' => e = .returned (.int .u64 (leNum (zs.take 8))) ∧ w = w' := by
  obtain ⟨m, hm⟩ : ∃ m, min len 8 = m := ⟨_, rfl⟩
  have hm8 : m ≤ 8 := by omega
  have hml : m ≤ len := by omega
  have HM : Hid (zs.take m = zs.take 8) := by
    show zs.take m = zs.take 8
    rcases Nat.lt_or_ge len 8 with h | h
    · rw [List.take_of_length_le (by omega), List.take_of_length_le (by omega)]
    · rw [show m = 8 by omega]
  go_enter Try.func29, Try.ntmps29
  go_wp2
  all_goals
    go_loop [3, 4] (fun n i => ∃ k : Nat, k ≤ m ∧ i = .int .i64 ((k : Int) - 1) ∧ n = .int .u64 (leNum ((zs.take m).drop k))) (fun _ i => (intOf i + 1).toNat)
    case atStart => exact ⟨m, Nat.le_refl _, by go_num, by rw [List.drop_eq_nil_of_le (by simp; omega)]; rfl⟩
    case round =>
      obtain ⟨k, hk, rfl, rfl⟩ := hrel
      by_cases hk0 : 0 < k
      · obtain ⟨j, rfl⟩ : ∃ j, k = j + 1 := ⟨k - 1, by omega⟩
        have hn := leNum_lt7 ((zs.take m).drop (j + 1)) ((hw.take m).drop _) (by simp; omega)
        have HN := fun N => leNum_step zs m j N hw hm8 (by omega) hk
        have HN' : Hid (bits BinOp.or IntKind.u64 (leNum ((zs.take m).drop (j + 1)) * 256) (zs.getD j 0) = leNum ((zs.take m).drop j)) := HN _ rfl
        clear HN
        have hcell := hc j (by omega)
        have hb1 := hw.getD j
        generalize leNum ((zs.take m).drop (j + 1)) = N at *
        generalize zs.getD j 0 = X at *
        go_wp2
        go_round
        case rel => exact ⟨j, by omega, by go_num, by rw [← HN'.out]⟩
        case measure => simp [intOf]
      · have hk0 : k = 0 := by omega
        subst hk0
        go_wp2
        go_ret
        exact ⟨ret_u64 (by rw [HM.out]), rfl⟩

theorem get_none (a : Option Addr) (cap : Nat) (w : World) :
    Calls Try.prog 29 #[.slice a 0 cap] w fun e w' => e = .returned (.int .u64 0) ∧ w = w' := by
  go_enter Try.func29, Try.ntmps29
  go_wp2
  go_loop [3, 4] (fun n i => i = .int .i64 (-1) ∧ n = .int .u64 0) (fun _ _ => 0)
  case atStart => exact ⟨rfl, rfl⟩
  case round =>
    obtain ⟨rfl, rfl⟩ := hrel
    go_wp2
    go_ret
    exact ⟨rfl, rfl⟩

theorem get_any {a : Option Addr} {len cap : Nat} {zs : List Int} (w : World) (h : Bs w a len cap zs) :
    Calls Try.prog 29 #[.slice a len cap] w fun e w' => e = .returned (.int .u64 (leNum (zs.take 8))) ∧ w = w' := by
  rcases h.place with h0 | ⟨b, off, rfl, hc⟩
  · obtain rfl : len = 0 := by have := h.le_cap; omega
    have hz : zs = [] := List.eq_nil_of_length_eq_zero h.length
    subst hz
    exact get_none a cap w
  · exact get_some b off len cap zs w (Nat.le_trans h.le_cap h.cap_le) h.length h.bytes hc
#print axioms get_any
end Go.Proofs.Ytgjffoeegnljlaa
