/- A call of the law LeNumbers answers true and turns nothing that was there: for every number below 2^64, every int, every slice of bytes that can be read. -/
import Derived.Test.YtaglibgcldhabaaAwake1
import Derived.Test.YtaglibgcldhabaaAppend
namespace Go.Proofs.Ytaglibgcldhabaa
open Go.RowKit
set_option maxHeartbeats 1000000 in
theorem leNumbers_walk (n a1 : Int) (a : Option Addr) (len cap : Nat) (zs : List Int) (w : World) (hn : 0 ≤ n ∧ n < 18446744073709551616) (hm : Bs w a len cap zs) :
    Calls Try.prog 4 #[.int .u64 n, .int .i64 a1, .slice a len cap] w fun e w' => e = .returned (.bool true) ∧ Below w.heap.size w w' := by
  obtain ⟨s, hs⟩ : ∃ s : Nat, bits BinOp.and IntKind.i64 a1 7 = (s : Int) := ⟨(a1 % 8).toNat, by rw [i64_and7]; omega⟩
  have hs8 : s < 8 := by have := i64_and7 a1; omega
  have hl63 : len ≤ 9223372036854775807 := Nat.le_trans hm.le_cap hm.cap_le
  go_enter Try.func4, Try.ntmps4
  go_wp2_with fail
  refine (put_at n _ (s + 1) w (by omega) hn (by omega)).mono ?_
  rintro e w1 ⟨rfl, ho1, hb1⟩
  have hm1 := hm.below hb1
  have hne : (((s + 1 : Nat) : Int) != (s : Int) + 1) = false := by simp
  have heq : (((s + 1 : Nat) : Int) == (s : Int) + 1) = true := by simp
  by_cases hmore : 100 < len
  · go_wp2_with fail
    refine (awake_any w1).mono ?_
    rintro e w2 ⟨rfl, hb2⟩
    have hbw := hb1.trans (hb2.mono hb1.size)
    go_wp2_with fail
    go_ret
    exact ⟨rfl, hbw⟩
  · have hP1 : Bs w1 (some ⟨w.heap.size, 0, none⟩) (s + 1) (s + 1) (putL n (s + 1)) := ho1.bs (putL_bytes _ _) _ (length_putL _ _) (by omega)
    have HC : Hid (∀ i, i < s + 1 → w1.cell? ⟨w.heap.size, i, none⟩ = some (.int .u8 (byteAt n i))) := fun i hi => by
      rw [ho1.cell i (by rw [length_putL]; exact hi), putL_getD _ _ _ hi]
    clear ho1
    have hd : decide (100 < (len : Int)) = false := by simp; omega
    go_wp2_with fail
    go_loop [8, 9, 10] (fun t p i => ∃ k : Nat, k ≤ s + 1 ∧ i = .int .i64 k ∧ t = .int .u64 (leNum (putL n k)) ∧ p = .int .u64 (256 ^ k % 18446744073709551616)) (fun _ _ i => s + 1 - (intOf i).toNat)
    case atStart => exact ⟨0, Nat.zero_le _, rfl, rfl, rfl⟩
    case round =>
      obtain ⟨k, hk, rfl, rfl, rfl⟩ := hrel
      by_cases hlt : k < s + 1
      · have hcell := HC.out k hlt
        have hX := byteAt_lt n k
        have hXX : (byteAt n k != bits BinOp.and IntKind.u64 (n / 2 ^ (8 * k)) 255) = false := by rw [and_byte n k hn.1 hn.2]; simp
        have HS := hide (sum_step n k (by omega))
        have HA := hide (at_step k)
        generalize byteAt n k = X at *
        generalize leNum (putL n k) = S at *
        generalize (256 : Int) ^ k % 18446744073709551616 = A at *
        go_wp2_with fail
        go_round
        case rel => exact ⟨k + 1, by omega, by go_num, by rw [← HS.out], by rw [← HA.out]⟩
        case measure => simp [intOf]; omega
      · obtain rfl : k = s + 1 := by omega
        clear HC
        go_wp2_with fail
        refine (get_any w1 hP1).mono ?_
        rintro e w' ⟨rfl, rfl⟩
        rw [List.take_of_length_le (by rw [length_putL]; omega)]
        generalize leNum (putL n (s + 1)) = S at *
        go_wp2_with fail
        refine (put_at n 8 8 w1 rfl hn (by omega)).mono ?_
        rintro e w2 ⟨rfl, ho2, hb2⟩
        go_wp2_with fail
        refine (get_any w2 (ho2.bs (putL_bytes _ _) 8 (length_putL _ _) (by omega))).mono ?_
        rintro e w' ⟨rfl, rfl⟩
        rw [List.take_of_length_le (by rw [length_putL]; omega), leNum_all n hn.1 hn.2]
        have hm2 := hm1.below hb2
        have hbw2 := hb1.trans (hb2.mono hb1.size)
        clear ho2 hb2 hm1 hb1 hP1
        generalize w1.heap.size = g1 at *
        go_wp2_with fail
        refine (put_at n 8 8 w2 rfl hn (by omega)).mono ?_
        rintro e w3 ⟨rfl, ho3, hb3⟩
        have hm3 := hm2.below hb3
        have hbw3 := hbw2.trans (hb3.mono hbw2.size)
        obtain ⟨a4, c4, w4, hr4, ho4, hg4, hl4⟩ := run_append_bytes (P := Try.prog) Try.underlying22 Try.info_u8 22 w.heap.size w3 _ 8 8 _ (ho3.owns (putL_bytes _ _) (length_putL _ _) (by omega) hbw2.size) a len cap zs hm3 (by omega) hbw3.size
        have hbw4 : Below w.heap.size w w4 := hbw3.grown hg4 hbw3.size (by intro k hk; have := hbw2.size; simp [Value.ownBlock] at hk; omega)
        have hB4 := ho4.bs
        go_wp2_with (at_builtin; refine wpList_append_run (by rfl) (.tmp 74) (.tmp 75) 22 (by rfl) _ _ _ _ (by rfl) (by rfl) hr4 ?_)
        refine (get_any w4 hB4).mono ?_
        rintro e w' ⟨rfl, rfl⟩
        have e8 : leNum (List.take 8 (putL n 8 ++ zs)) = n := by
          rw [List.take_append_of_le_length (by rw [length_putL]; omega), List.take_of_length_le (by rw [length_putL]; omega), leNum_all n hn.1 hn.2]
        rw [e8]
        clear e8 hB4 ho4 hg4 hl4 hr4 ho3 hb3 hm3 hm2 hbw3 hbw2 hm
        generalize w2.heap.size = g2 at *
        go_wp2_with fail
        refine (put_at n 0 0 w4 rfl hn (by omega)).mono ?_
        rintro e w5 ⟨rfl, _, hb5⟩
        have hbw5 := hbw4.trans (hb5.mono hbw4.size)
        go_wp2_with fail
        refine (put_bad n 9 w5 (by omega)).mono ?_
        rintro e w' ⟨rfl, rfl⟩
        go_wp2_with fail
        refine (put_bad n (-1) w5 (by omega)).mono ?_
        rintro e w' ⟨rfl, rfl⟩
        go_wp2_with fail
        refine (awake_any w5).mono ?_
        rintro e w6 ⟨rfl, hb6⟩
        have hbw6 := hbw5.trans (hb6.mono hbw5.size)
        go_wp2_with fail
        go_ret
        exact ⟨rfl, hbw6⟩
#print axioms leNumbers_walk
end Go.Proofs.Ytaglibgcldhabaa
