/- A call of the law FlotBits answers true and turns nothing that was there: for every two numbers below 2^64. -/
import Derived.Test.YtjogkadmkohifaaFAwake
import Derived.Test.YtjogkadmkohifaaFRef
import Derived.Test.YtjogkadmkohifaaText
namespace Go.Proofs.Ytjogkadmkohifaa
open Go.RowKit

theorem leNum_putL8 (n : Nat) (h : n < 18446744073709551616) : leNum ((putL (n : Int) 8).take 8) = (n : Int) := by
  rw [List.take_of_length_le (by rw [length_putL]; omega), leNum_all _ (by omega) (by omega)]
theorem ofB_putL8 (n : Nat) (h : n < 18446744073709551616) : ofB (putL (n : Int) 8) = one n := by
  unfold ofB
  rw [if_pos (length_putL _ _), leNum_all _ (by omega) (by omega)]; rfl

/-- The law's test where neither is a NaN. -/
def wantB (a b : Nat) : Bool := if 9223372036854775808 ≤ a ∧ 9223372036854775808 ≤ b then decide (b < a) else if 9223372036854775808 ≤ a then true else if 9223372036854775808 ≤ b then false else decide (a < b)

theorem want_less {a b : Nat} (ha : a < 18446744073709551616) (hb : b < 18446744073709551616) (na : nanB a = false) (nb : nanB b = false) : lessB a b = wantB a b := by
  unfold lessB wantB rankN
  rw [one_num na, one_num nb]
  by_cases h1 : 9223372036854775808 ≤ a <;> by_cases h2 : 9223372036854775808 ≤ b <;> simp only [h1, h2, and_self, and_false, and_true, if_true, if_false] <;> first | (rw [decide_eq_decide]; omega) | (rw [decide_eq_true_iff]; omega) | (rw [decide_eq_false_iff_not]; omega)

theorem below_drew {B : Nat} {w w' : World} (h : Below B w w') : Below B w w'.drew := h.trans ⟨rfl, rfl, rfl, Nat.le_refl _, fun _ _ => rfl⟩

theorem eq_self {b : Nat} (hb : b < 18446744073709551616) : (Ieee.Format.order FloatKind.f64.format b b == some .eq) = !nanB b := by
  have := neq_self hb
  rw [← this, bne, Bool.not_not]

set_option maxHeartbeats 4000000 in
theorem flotBits_nan (a b : Nat) (w : World) (p q : Bool) (ha : a < 18446744073709551616) (hb : b < 18446744073709551616) (h : (p || q) = true) (hp : nanB a = p) (hq : nanB b = q) :
    Calls Try.prog 6 #[.int .u64 (a : Int), .int .u64 (b : Int)] w fun e w' => e = .returned (.bool true) ∧ Below w.heap.size w w' := by
  have fa := call_from a
  have fb := call_from b
  have na := neq_self ha
  have nb := neq_self hb
  have eb := eq_self hb
  have hL : Hid (lessB b a = (p && !q)) := by
    show lessB b a = (p && !q)
    cases p <;> cases q
    · cases h
    · rw [less_nan_left ha hq]; rfl
    · rw [less_nan_right hb hq hp]; rfl
    · rw [less_nan_left ha hq]; rfl
  rw [hp] at na
  rw [hq] at nb eb
  clear hp hq
  cases p <;> cases q <;> first | (cases h; done) | skip
  all_goals
    clear h
    go_enter Try.func6, Try.ntmps6
    go_wp2_with fail
    refine (less_any b a w hb ha).mono ?_
    rintro e w' ⟨rfl, rfl⟩
    rw [hL.out]
    go_wp2_with fail
    refine (nan_any w).mono ?_
    rintro e w' ⟨rfl, rfl⟩
    go_wp2_with fail
    refine (bytes_any 9221120237041090561 w (by omega)).mono ?_
    rintro e w1 ⟨rfl, ho1, hb1⟩
    rw [show one 9221120237041090561 = 9221120237041090560 by kernel_rfl] at ho1
    go_wp2_with fail
    refine (rget_any w1 (ho1.bs (putL_bytes _ _) 8 (length_putL _ _) (by omega))).mono ?_
    rintro e w' ⟨rfl, rfl⟩
    rw [leNum_putL8 _ (by omega)]
    clear ho1
    generalize hg : w.heap.size = g at *
    go_wp2_with fail
    refine (awake_any w1).mono ?_
    rintro e w2 ⟨rfl, hb2⟩
    have hb3 := hb1.trans (hb2.mono (by rw [← hg]; exact hb1.size))
    go_wp2_with fail
    go_ret
    exact ⟨rfl, by first | exact hb3 | (rw [hg]; exact hb3)⟩

set_option maxHeartbeats 4000000 in
theorem flotBits_num (a b : Nat) (w : World) (ha : a < 18446744073709551616) (hb : b < 18446744073709551616) (hp : nanB a = false) (hq : nanB b = false) :
    Calls Try.prog 6 #[.int .u64 (a : Int), .int .u64 (b : Int)] w fun e w' => e = .returned (.bool true) ∧ Below w.heap.size w w' := by
  have fa := call_from a
  have fb := call_from b
  have na := neq_self ha
  have nb := neq_self hb
  have hL := hide (want_less ha hb hp hq)
  have oa := hide (one_num hp)
  have ob := hide (one_num hq)
  rw [hp] at na
  rw [hq] at nb
  clear hp hq
  by_cases sa : 9223372036854775808 ≤ a <;> by_cases sb : 9223372036854775808 ≤ b
  all_goals
    have hW : Hid (lessB a b = wantB a b) := hL
    unfold wantB at hW
    simp only [sa, sb, and_self, and_false, false_and, if_true, if_false] at hW
    clear hL
    have ia : decide ((9223372036854775808 : Int) ≤ (a : Int)) = decide (9223372036854775808 ≤ a) := by rw [decide_eq_decide]; omega
    have ib : decide ((9223372036854775808 : Int) ≤ (b : Int)) = decide (9223372036854775808 ≤ b) := by rw [decide_eq_decide]; omega
    simp only [sa, sb, decide_true, decide_false] at ia ib
    clear sa sb
    go_enter Try.func6, Try.ntmps6
    go_wp2_with fail
    refine (less_any a b w ha hb).mono ?_
    rintro e w' ⟨rfl, rfl⟩
    rw [hW.out]
    clear ia ib fa fb na nb
    go_wp2_with fail
    refine (bytes_any a w ha).mono ?_
    rintro e w1 ⟨rfl, ho1, hb1⟩
    rw [oa.out] at ho1
    go_wp2_with fail
    refine (rget_any w1 (ho1.bs (putL_bytes _ _) 8 (length_putL _ _) (by omega))).mono ?_
    rintro e w' ⟨rfl, rfl⟩
    rw [leNum_putL8 _ ha]
    clear ho1
    generalize hg : w.heap.size = g at *
    go_wp2_with fail
    refine (rput_ok (b : Int) 8 w1 ⟨by omega, by omega⟩ (by omega)).mono ?_
    rintro e w2 ⟨p, cap, rfl, ho2, hb2⟩
    have hb3 := hb1.trans (hb2.mono (by rw [← hg]; exact hb1.size))
    have hs2 := hide ho2.bs
    clear ho2 hb2 hb1
    go_wp2_with fail
    refine (of_any w2 hs2.out).mono ?_
    rintro e w' ⟨rfl, rfl⟩
    rw [ofB_putL8 _ hb, ob.out]
    clear hs2
    have cb := call_bits b
    go_wp2_with fail
    refine (awake_any w2).mono ?_
    rintro e w4 ⟨rfl, hb4⟩
    have hb5 := hb3.trans (hb4.mono (by rw [← hg]; exact hb3.size))
    go_wp2_with fail
    go_ret
    exact ⟨rfl, by first | exact hb5 | (rw [hg]; exact hb5)⟩

theorem flotBits_walk (a b : Int) (w : World) (ha : 0 ≤ a ∧ a < 18446744073709551616) (hb : 0 ≤ b ∧ b < 18446744073709551616) :
    Calls Try.prog 6 #[.int .u64 a, .int .u64 b] w fun e w' => e = .returned (.bool true) ∧ Below w.heap.size w w' := by
  obtain ⟨x, rfl⟩ := Int.eq_ofNat_of_zero_le ha.1
  obtain ⟨y, rfl⟩ := Int.eq_ofNat_of_zero_le hb.1
  cases hp : nanB x <;> cases hq : nanB y
  · exact flotBits_num x y w (by omega) (by omega) hp hq
  · exact flotBits_nan x y w _ _ (by omega) (by omega) rfl hp hq
  · exact flotBits_nan x y w _ _ (by omega) (by omega) rfl hp hq
  · exact flotBits_nan x y w _ _ (by omega) (by omega) rfl hp hq
#print axioms flotBits_walk
end Go.Proofs.Ytjogkadmkohifaa
