/- What calls of dumbwaiterref1's Bytes, Of, Add and Less do: for all bits, and bytes that can be read: the same as those of package flot; nothing that was there is turned. -/
import Derived.Test.YtjogkadmkohifaaFMath
import Derived.Test.YtjogkadmkohifaaRef1Get
import Derived.Test.YtjogkadmkohifaaRef1Put
namespace Go.Proofs.Ytjogkadmkohifaa
open Go.RowKit

theorem rbytes_any (x : Nat) (w : World) (hx : x < 18446744073709551616) :
    Calls Try.prog 25 #[.float .f64 x] w fun e w' => (∃ a cap, e = .returned (.slice a 8 cap) ∧ Bs w' a 8 cap (putL (one x : Nat) 8)) ∧ Below w.heap.size w w' := by
  have ho := one_lt hx
  have hc := call_bits (one x)
  go_enter Try.func25, Try.ntmps25
  go_wp2_with fail
  refine (one_any x w hx).mono ?_
  rintro e w1 ⟨rfl, rfl⟩
  go_wp2_with fail
  refine (rput_ok (one x : Nat) 8 w ⟨by omega, by omega⟩ (by omega)).mono ?_
  rintro e w1 ⟨a, cap, rfl, h1, h2⟩
  have hb := h1.bs
  go_wp2_with fail
  go_ret
  exact ⟨⟨a, cap, rfl, hb⟩, h2⟩

theorem rof_any {a : Option Addr} {len cap : Nat} {zs : List Int} (w : World) (h : Bs w a len cap zs) :
    Calls Try.prog 26 #[.slice a len cap] w fun e w' => e = .returned (.float .f64 (ofB zs)) ∧ w = w' := by
  have hz := h.length
  by_cases h8 : len = 8
  · have hl := leNum_lt8 zs h.bytes (by omega)
    obtain ⟨n, hn⟩ := Int.eq_ofNat_of_zero_le hl.1
    have hb : ofB zs = one n := by unfold ofB; rw [if_pos (by omega), hn]; rfl
    have hc := call_from n
    rw [hb]
    subst h8
    go_enter Try.func26, Try.ntmps26
    go_wp2_with fail
    refine (rget_any w h).mono ?_
    rintro e w1 ⟨rfl, rfl⟩
    rw [List.take_of_length_le (by omega), hn]
    go_wp2_with fail
    refine (one_any n w (by omega)).mono ?_
    rintro e w1 ⟨rfl, rfl⟩
    go_wp2_with fail
    go_ret
    exact ⟨rfl, rfl⟩
  · have hb : ofB zs = 0 := by unfold ofB; rw [if_neg (by omega)]
    rw [hb]
    have hne : ((len : Int) != 8) = true := by simp; omega
    go_enter Try.func26, Try.ntmps26
    go_wp2_with fail
    go_ret
    exact ⟨rfl, rfl⟩

theorem radd_any (x y : Nat) (w : World) :
    Calls Try.prog 27 #[.float .f64 x, .float .f64 y] w fun e w' => e = .returned (.float .f64 (addB x y)) ∧ w'.heap = w.heap ∧ Below w.heap.size w w' := by
  obtain ⟨q, w1, hr, hq, ho, hh, hb⟩ := run_add 22 x y w
  have HO := hide ho
  clear ho
  go_enter Try.func27, Try.ntmps27
  go_wp2_with fail
  refine (one_any q w1 hq).mono ?_
  rintro e w2 ⟨rfl, rfl⟩
  rw [HO.out]
  go_wp2_with fail
  go_ret
  exact ⟨rfl, hh, hb⟩

theorem signbit_any (x : Nat) (w : World) (hx : x < 18446744073709551616) :
    Calls Try.prog 36 #[.float .f64 x] w fun e w' => e = .returned (.bool (decide (9223372036854775808 ≤ x))) ∧ w = w' := by
  have hc := call_bits x
  by_cases h : 9223372036854775808 ≤ x
  · rw [decide_eq_true h]
    have hw : IntKind.i64.wrap (x : Int) = (x : Int) - 18446744073709551616 := by rw [IntKind.wrap_i64]; omega
    go_enter Try.func36, Try.ntmps36
    go_wp2_with fail
    go_ret
    exact ⟨by first | rfl | (congr 2; simp; omega), rfl⟩
  · rw [decide_eq_false h]
    have hw : IntKind.i64.wrap (x : Int) = (x : Int) := by rw [IntKind.wrap_i64]; omega
    go_enter Try.func36, Try.ntmps36
    go_wp2_with fail
    go_ret
    exact ⟨by first | rfl | (congr 2; simp [hw]), rfl⟩

theorem nan_rank {x : Nat} (h : nanB x = true) : rankN x = 18444492273895866368 := by unfold rankN; rw [one_nan h]; rfl

theorem num_rank {x : Nat} (hx : x < 18446744073709551616) (h : nanB x = false) : rankN x < 18444492273895866368 ∧ ((9223372036854775808 ≤ x ∧ (rankN x : Int) = 9223372036854775807 + sv x ∧ sv x ≤ 0) ∨ (x < 9223372036854775808 ∧ (rankN x : Int) = 9223372036854775808 + sv x ∧ 0 ≤ sv x)) := by
  have h' := of_decide_eq_false h
  unfold rankN sv
  rw [one_num h]
  by_cases hs : 9223372036854775808 ≤ x
  · rw [if_pos hs, if_pos hs]; omega
  · rw [if_neg hs, if_neg hs]; omega

theorem less_nan_left {x y : Nat} (hy : y < 18446744073709551616) (h : nanB x = true) : lessB x y = false := by
  unfold lessB
  rw [nan_rank h, decide_eq_false_iff_not]
  cases hy' : nanB y
  · have := (num_rank hy hy').1; omega
  · rw [nan_rank hy']; omega
theorem less_nan_right {x y : Nat} (hx : x < 18446744073709551616) (h : nanB x = false) (h' : nanB y = true) : lessB x y = true := by
  unfold lessB
  rw [nan_rank h', decide_eq_true_iff]
  exact (num_rank hx h).1

set_option maxHeartbeats 1000000 in
theorem rless_any (x y : Nat) (w : World) (hx : x < 18446744073709551616) (hy : y < 18446744073709551616) :
    Calls Try.prog 28 #[.float .f64 x, .float .f64 y] w fun e w' => e = .returned (.bool (lessB x y)) ∧ w = w' := by
  have nx := neq_self hx
  have ny := neq_self hy
  cases hnx : nanB x
  · cases hny : nanB y
    · have rx := num_rank hx hnx
      have ry := num_rank hy hny
      have e0 : sv 0 = 0 := by decide
      have ox : Ieee.Format.order FloatKind.f64.format x 0 = some (compare (sv x) 0) := by
        have := order_sv hx (show 0 < 18446744073709551616 by omega) hnx (by decide)
        rw [e0] at this; exact this
      have oy : Ieee.Format.order FloatKind.f64.format y 0 = some (compare (sv y) 0) := by
        have := order_sv hy (show 0 < 18446744073709551616 by omega) hny (by decide)
        rw [e0] at this; exact this
      have oxy : Ieee.Format.order FloatKind.f64.format x y = some (compare (sv x) (sv y)) := order_sv hx hy hnx hny
      rw [hnx] at nx
      rw [hny] at ny
      by_cases z : sv x = 0 ∧ sv y = 0
      · have hl : lessB x y = (decide (9223372036854775808 ≤ x) && !decide (9223372036854775808 ≤ y)) := by
          unfold lessB
          rw [Bool.eq_iff_iff, Bool.and_eq_true, Bool.not_eq_true', decide_eq_true_iff, decide_eq_true_iff, decide_eq_false_iff_not]
          omega
        rw [hl]
        rw [z.1, cmp_eq] at ox
        rw [z.2, cmp_eq] at oy
        clear oxy hl rx ry z hnx hny e0
        have s1 := signbit_any x w hx
        have s2 := signbit_any y w hy
        generalize decide (9223372036854775808 ≤ x) = bx at *
        generalize decide (9223372036854775808 ≤ y) = bY at *
        have S1 := hide s1
        have S2 := hide s2
        clear s1 s2
        go_enter Try.func28, Try.ntmps28
        go_wp2_with fail
        refine S1.out.mono ?_
        rintro e w1 ⟨rfl, rfl⟩
        cases bx
        · go_wp2_with fail
          go_ret
          exact ⟨rfl, rfl⟩
        · go_wp2_with fail
          refine S2.out.mono ?_
          rintro e w1 ⟨rfl, rfl⟩
          go_wp2_with fail
          go_ret
          exact ⟨rfl, rfl⟩
      · have hl : lessB x y = (compare (sv x) (sv y) == .lt) := by
          unfold lessB
          rcases Int.lt_trichotomy (sv x) (sv y) with h | h | h
          · rw [cmp_lt h, decide_eq_true (by omega)]; rfl
          · rw [h, cmp_eq, decide_eq_false (by omega)]; rfl
          · rw [cmp_gt h, decide_eq_false (by omega)]; rfl
        rw [hl]
        by_cases z1 : sv x = 0
        · have z2 : ¬ sv y = 0 := fun h => z ⟨z1, h⟩
          rw [z1, cmp_eq] at ox
          have oy' : (Ieee.Format.order FloatKind.f64.format y 0 == some .eq) = false := by
            rw [oy]
            rcases Int.lt_trichotomy (sv y) 0 with h | h | h
            · rw [cmp_lt h]; rfl
            · exact absurd h z2
            · rw [cmp_gt h]; rfl
          clear oy hl rx ry z hnx hny e0 z1 z2
          generalize compare (sv x) (sv y) = C at *
          go_enter Try.func28, Try.ntmps28
          go_wp2_with fail
          go_ret
          exact ⟨by cases C <;> rfl, rfl⟩
        · have ox' : (Ieee.Format.order FloatKind.f64.format x 0 == some .eq) = false := by
            rw [ox]
            rcases Int.lt_trichotomy (sv x) 0 with h | h | h
            · rw [cmp_lt h]; rfl
            · exact absurd h z1
            · rw [cmp_gt h]; rfl
          clear ox oy hl rx ry z hnx hny e0 z1
          generalize compare (sv x) (sv y) = C at *
          go_enter Try.func28, Try.ntmps28
          go_wp2_with fail
          go_ret
          exact ⟨by cases C <;> rfl, rfl⟩
    · rw [less_nan_right hx hnx hny]
      rw [hnx] at nx
      rw [hny] at ny
      clear hnx hny
      go_enter Try.func28, Try.ntmps28
      go_wp2_with fail
      go_ret
      exact ⟨rfl, rfl⟩
  · rw [less_nan_left hy hnx]
    rw [hnx] at nx
    clear hnx ny
    go_enter Try.func28, Try.ntmps28
    go_wp2_with fail
    go_ret
    exact ⟨rfl, rfl⟩
#print axioms rless_any
#print axioms rof_any
end Go.Proofs.Ytjogkadmkohifaa
