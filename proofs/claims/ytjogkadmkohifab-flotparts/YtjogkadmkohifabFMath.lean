/- What calls of math.NaN, math.Inf, math.Copysign(0, -1), dumbwaiterref1.Alike, dumbwaiterref1.One and of a law's Number do: for all bits; the world stays as it was. -/
import Derived.Test.YtjogkadmkohifabFCode
namespace Go.Proofs.Ytjogkadmkohifab
open Go.RowKit

theorem call_fromI (n : Int) (b : Nat) (h : n = (b : Int)) (w : World) : (callFunc 11 #[.int .u64 n]).run Try.prog w = .ok (.value (.float .f64 b)) w := by
  subst h; exact call_from b w
theorem call_bitsI (n : Int) (b : Nat) (h : n = (b : Int)) (w : World) : (callFunc 20 #[.float .f64 b]).run Try.prog w = .ok (.value (.int .u64 n)) w := by
  subst h; exact call_bits b w

theorem nan_any (w : World) : Calls Try.prog 8 #[] w fun e w' => e = .returned (.float .f64 9221120237041090561) ∧ w = w' := by
  have hc := call_fromI 9221120237041090561 9221120237041090561 rfl
  go_enter Try.func8, Try.ntmps8
  go_wp2_with fail
  go_ret
  exact ⟨rfl, rfl⟩

theorem inf_pos (w : World) : Calls Try.prog 9 #[.int .i64 1] w fun e w' => e = .returned (.float .f64 9218868437227405312) ∧ w = w' := by
  have hc := call_fromI 9218868437227405312 9218868437227405312 rfl
  go_enter Try.func9, Try.ntmps9
  go_wp2_with fail
  go_ret
  exact ⟨rfl, rfl⟩

theorem inf_neg (w : World) : Calls Try.prog 9 #[.int .i64 (-1)] w fun e w' => e = .returned (.float .f64 18442240474082181120) ∧ w = w' := by
  have hc := call_fromI 18442240474082181120 18442240474082181120 rfl
  go_enter Try.func9, Try.ntmps9
  go_wp2_with fail
  go_ret
  exact ⟨rfl, rfl⟩

theorem minus_any (w : World) : Calls Try.prog 10 #[.float .f64 0, .float .f64 13830554455654793216] w fun e w' => e = .returned (.float .f64 9223372036854775808) ∧ w = w' := by
  have hc := call_fromI 9223372036854775808 9223372036854775808 rfl
  have h1 := call_bitsI 0 0 rfl
  have h2 := call_bitsI 13830554455654793216 13830554455654793216 rfl
  have h3 : bits .andNot .u64 0 9223372036854775808 = 0 := by decide
  have h4 : bits .and .u64 13830554455654793216 9223372036854775808 = 9223372036854775808 := by decide
  have h5 : bits .or .u64 0 9223372036854775808 = 9223372036854775808 := by decide
  go_enter Try.func10, Try.ntmps10
  go_wp2_with fail
  go_ret
  exact ⟨rfl, rfl⟩

theorem alike_any (x y : Nat) (w : World) :
    Calls Try.prog 16 #[.float .f64 x, .float .f64 y] w fun e w' => e = .returned (.bool (decide (x = y))) ∧ w = w' := by
  have h1 := call_bits x
  have h2 := call_bits y
  have HE : Hid (((x : Int) == (y : Int)) = decide (x = y)) := by
    show ((x : Int) == (y : Int)) = decide (x = y)
    rw [Bool.eq_iff_iff, beq_iff_eq, decide_eq_true_iff]; omega
  go_enter Try.func16, Try.ntmps16
  go_wp2_with fail
  go_ret
  exact ⟨by rw [← HE.out]; rfl, rfl⟩

/-- '!=' of a number with itself. -/
theorem neq_self {b : Nat} (hb : b < 18446744073709551616) : (Ieee.Format.order FloatKind.f64.format b b != some .eq) = nanB b := by
  show (Ieee.double.order b b != some .eq) = nanB b
  cases h : nanB b
  · rw [order_sv hb hb h h, cmp_eq]; rfl
  · rw [order_nan (.inl h)]; rfl

theorem one_any (x : Nat) (w : World) (hx : x < 18446744073709551616) :
    Calls Try.prog 18 #[.float .f64 x] w fun e w' => e = .returned (.float .f64 (one x)) ∧ w = w' := by
  have hn := neq_self hx
  have hc := call_fromI 9221120237041090560 9221120237041090560 rfl
  by_cases h : nanB x = true
  · have HO := hide (one_nan h)
    rw [h] at hn
    go_enter Try.func18, Try.ntmps18
    go_wp2_with fail
    go_ret
    exact ⟨by rw [HO.out]; rfl, rfl⟩
  · have h : nanB x = false := by simpa using h
    have HO := hide (one_num h)
    rw [h] at hn
    go_enter Try.func18, Try.ntmps18
    go_wp2_with fail
    go_ret
    exact ⟨by rw [HO.out]; rfl, rfl⟩
#print axioms one_any
#print axioms minus_any
end Go.Proofs.Ytjogkadmkohifab
