/- A call of the law FlotParts answers true and turns nothing that was there: for every int, every number below 2^64. -/
import Derived.Test.YtjogkadmkohifabFAwake
import Derived.Test.YtjogkadmkohifabFNum
import Derived.Test.YtjogkadmkohifabFFill
import Derived.Test.YtjogkadmkohifabFRefPart
import Derived.Test.YtjogkadmkohifabRel
namespace Go.Proofs.Ytjogkadmkohifab
open Go.RowKit

set_option maxHeartbeats 4000000 in
theorem flotParts_walk (n b : Int) (w : World) (hb : 0 ≤ b ∧ b < 18446744073709551616) :
    Calls Try.prog 3 #[.int .i64 n, .int .u64 b] w fun e w' => e = .returned (.bool true) ∧ Below w.heap.size w w' := by
  obtain ⟨m, rfl⟩ := Int.eq_ofNat_of_zero_le hb.1
  have hm : m < 18446744073709551616 := by omega
  clear hb
  go_enter Try.func3, Try.ntmps3
  go_wp2_with fail
  refine (number_any m w hm).mono ?_
  rintro e w' ⟨⟨x, hx, rfl⟩, rfl⟩
  go_wp2_with fail
  obtain ⟨p, hp⟩ : ∃ p : Nat, m % 1000 = p := ⟨_, rfl⟩
  obtain ⟨y, hy, hy0, hy1⟩ := fill_div (j := p) (by omega)
  have ry := fun w => run_float_arith (P := Try.prog) w .quo 23 .f64 _ _ _ hy
  rw [show ((p + 1 : Nat) : Int) = (p : Int) + 1 by omega] at ry
  have hpm : (m : Int) % 1000 = (p : Int) := by omega
  have hp1000 : p < 1000 := by omega
  clear hy hp
  go_loopw [0, 5, 6] (fun v0 v5 v6 wr => ∃ (n : Int) (x t : Nat), v0 = .int .i64 n ∧ v5 = .float .f64 x ∧ v6 = .int .i64 t ∧ t ≤ 2 ∧ x < 18446744073709551616 ∧ Hid (Below w.heap.size w wr)) (fun _ _ v6 _ => 2 - (intOf v6).toNat)
  case atStart => exact ⟨n, x, 0, rfl, rfl, rfl, by omega, hx, hide (Below.refl _ _)⟩
  case round =>
    obtain ⟨n, x, t, rfl, rfl, rfl, ht, hx, hB⟩ := hrel
    by_cases hlt : t < 2
    · go_wp2_with fail
      refine (part_any n x wr hx).mono ?_
      rintro e w1 ⟨⟨k, ok, rfl, hP⟩, hb1⟩
      have hB1 := hide (hB.out.trans (hb1.mono hB.out.size))
      clear hB hb1
      go_wp2_with fail
      refine (rpart_any n x w1 hx).mono ?_
      rintro e w' ⟨⟨k2, ok2, rfl, hP2⟩, rfl⟩
      obtain ⟨rfl, rfl⟩ := hP.out.same hP2.out
      clear hP2
      cases ok with
      | false =>
        clear hP
        go_wp2_with fail
        go_roundw
        case rel => exact ⟨_, y, t + 1, rfl, rfl, by go_num, by omega, by omega, hB1⟩
        case measure => simp [intOf]; omega
      | true =>
        have hr : 0 ≤ n ∧ n ≤ 1000000 ∧ goodF x = true := by
          by_cases hbad : n < 0 ∨ 1000000 < n ∨ goodF x = false
          · have := (hP.out.bad hbad).2; cases this
          · refine ⟨by omega, by omega, ?_⟩
            cases hh : goodF x
            · exact absurd (.inr (.inr hh)) hbad
            · rfl
        obtain ⟨j, rfl, hj, he, hl⟩ := hP.out.some hr.1 hr.2.1 hr.2.2 rfl
        obtain ⟨N, rfl⟩ := Int.eq_ofNat_of_zero_le hr.1
        have hx1 : x < 9218868437227405312 := by have := (of_decide_eq_true hr.2.2).2; omega
        have h1 := run_part 23 j x hj hx1
        have h2 := lss_enough N x j
        rw [Int.toNat_natCast] at he hl
        rw [he] at h2
        clear hP hr he
        by_cases hj0 : j = 0
        · subst hj0
          clear hl h1
          have h1 := run_partI 23 0 0 x rfl (by omega) hx1
          go_wp2_with fail
          go_roundw
          case rel => exact ⟨_, y, t + 1, rfl, rfl, by go_num, by omega, by omega, hB1⟩
          case measure => simp [intOf]; omega
        · obtain ⟨i, hji⟩ : ∃ i, j = i + 1 := ⟨j - 1, by omega⟩
          have h3 := run_partI 23 ((j : Int) - 1) i x (by omega) (by omega) hx1
          have h4 := geq_enough N x i
          rw [hl i (by omega), Bool.or_eq_false_iff] at h4
          obtain ⟨g1, g2⟩ := h4
          have hpos : 0 < j := by omega
          clear hl hj0 hji
          go_wp2_with fail
          go_roundw
          case rel => exact ⟨_, y, t + 1, rfl, rfl, by go_num, by omega, by omega, hB1⟩
          case measure => simp [intOf]; omega
    · obtain rfl : t = 2 := by omega
      go_wp2_with fail
      refine (awake_any wr).mono ?_
      rintro e w8 ⟨rfl, hb8⟩
      have hB8 := hB.out.trans (hb8.mono hB.out.size)
      go_wp2_with fail
      go_ret
      exact ⟨rfl, hB8⟩
#print axioms flotParts_walk
end Go.Proofs.Ytjogkadmkohifab
