/- What calls of package flot do with the bits of numbers: bitsOf, withOneNaN, rank, Less, Add, Bytes, Of; and of math what they and the laws use: for all bits; nothing that was there is turned. -/
import Derived.Test.YtjogkadmkohifaaFRound
import Derived.Test.YtjogkadmkohifaaLePut
import Derived.Test.YtjogkadmkohifaaLeGet
import Derived.Laws.Externs
namespace Go.Proofs.Ytjogkadmkohifaa
open Go.RowKit
theorem hide {p : Prop} (h : p) : Hid p := h

/-- The bits, those of the one NaN for each NaN. -/
def one (b : Nat) : Nat := if nanB b = true then 9221120237041090560 else b

theorem one_lt {b : Nat} (h : b < 18446744073709551616) : one b < 18446744073709551616 := by unfold one; split <;> omega

theorem one_nan {b : Nat} (h : nanB b = true) : one b = 9221120237041090560 := by unfold one; rw [if_pos h]
theorem one_num {b : Nat} (h : nanB b = false) : one b = b := by unfold one; rw [if_neg (by rw [h]; decide)]

theorem andNot_sign (b : Nat) (h : b < 18446744073709551616) : bits .andNot .u64 (b : Int) 9223372036854775808 = ((b % 9223372036854775808 : Nat) : Int) := by
  rw [show (9223372036854775808 : Int) = ((9223372036854775808 : Nat) : Int) from rfl, u64_andNot_nat b _ h (by decide)]
  rw [show 18446744073709551615 - 9223372036854775808 = 2 ^ 63 - 1 by decide, Nat.and_two_pow_sub_one_eq_mod]

theorem and_sign (b : Nat) (h : b < 18446744073709551616) : bits .and .u64 (b : Int) 9223372036854775808 = if 9223372036854775808 ≤ b then 9223372036854775808 else 0 := by
  rw [show (9223372036854775808 : Int) = ((9223372036854775808 : Nat) : Int) from rfl, u64_and_nat b _ h (by decide)]
  have hb : b &&& 9223372036854775808 = if 9223372036854775808 ≤ b then 9223372036854775808 else 0 := by
    have e : (9223372036854775808 : Nat) = 2 ^ 63 := by decide
    have ht : b.testBit 63 = decide (2 ^ 63 ≤ b) := by
      rw [Nat.testBit_eq_decide_div_mod_eq, decide_eq_decide]; omega
    rw [e]
    apply Nat.eq_of_testBit_eq
    intro i
    rw [Nat.testBit_and, Nat.testBit_two_pow]
    by_cases hs : 2 ^ 63 ≤ b
    · rw [if_pos hs, Nat.testBit_two_pow]
      by_cases hi : 63 = i
      · subst hi; rw [ht, decide_eq_true hs]; rfl
      · simp [hi]
    · rw [if_neg hs]
      by_cases hi : 63 = i
      · subst hi; rw [ht, decide_eq_false hs]; rfl
      · simp [hi]
  rw [hb]
  split <;> rfl

theorem or_sign (b : Nat) (h : b < 9223372036854775808) : bits .or .u64 (b : Int) 9223372036854775808 = ((b + 9223372036854775808 : Nat) : Int) := by
  rw [show (9223372036854775808 : Int) = ((9223372036854775808 : Nat) : Int) from rfl, u64_or_nat b _ (by omega) (by decide)]
  rw [Nat.or_comm, show (9223372036854775808 : Nat) = 2 ^ 63 * 1 by decide, ← Nat.two_pow_add_eq_or_of_lt (by omega), Nat.add_comm]

theorem call_bits (b : Nat) (w : World) : (callFunc 22 #[.float .f64 b]).run Try.prog w = .ok (.value (.int .u64 (b : Int))) w := by
  rw [run_callFunc_extern (e := Extern.MathFloatBits.float64bits) Try.func22 (by kernel_rfl) (by kernel_rfl) (by kernel_rfl) (by kernel_rfl)]
  rfl
theorem call_from (b : Nat) (w : World) : (callFunc 20 #[.int .u64 (b : Int)]).run Try.prog w = .ok (.value (.float .f64 b)) w := by
  rw [run_callFunc_extern (e := Extern.MathFloatBits.float64frombits) Try.func20 (by kernel_rfl) (by kernel_rfl) (by kernel_rfl) (by kernel_rfl)]
  rfl
theorem conv_same (b : Nat) (w : World) : (convert 22 22 (.float .f64 b)).run Try.prog w = .ok (.float .f64 b) w :=
  run_convert_float_float w _ _ .f64 .f64 b b (by rw [Try.underlying22]; rfl) Try.underlying22 (by simp [floatToFloatBits])

theorem bitsOf_any (b : Nat) (w : World) (hb : b < 18446744073709551616) :
    Calls Try.prog 32 #[.float .f64 b] w fun e w' => e = .returned (.int .u64 (one b : Nat)) ∧ w = w' := by
  have h1 := andNot_sign b hb
  have hc := call_bits b
  have h2 : decide ((9218868437227405312 : Int) < ((b % 9223372036854775808 : Nat) : Int)) = nanB b := by unfold nanB; rw [decide_eq_decide]; omega
  generalize b % 9223372036854775808 = R at h1 h2
  by_cases h : nanB b = true
  · have HO := hide (one_nan h)
    rw [h] at h2
    go_enter Try.func32, Try.ntmps32
    go_wp2_with fail
    go_ret
    exact ⟨by rw [HO.out]; rfl, rfl⟩
  · have h : nanB b = false := by simpa using h
    have HO := hide (one_num h)
    rw [h] at h2
    go_enter Try.func32, Try.ntmps32
    go_wp2_with fail
    go_ret
    exact ⟨by rw [HO.out]; rfl, rfl⟩

theorem withOneNaN_any (b : Nat) (w : World) (hb : b < 18446744073709551616) :
    Calls Try.prog 29 #[.float .f64 b] w fun e w' => e = .returned (.float .f64 (one b)) ∧ w = w' := by
  have hc := call_from (one b)
  go_enter Try.func29, Try.ntmps29
  go_wp2_with fail
  refine (bitsOf_any b w hb).mono ?_
  rintro e w1 ⟨rfl, rfl⟩
  go_wp2_with fail
  go_ret
  exact ⟨rfl, rfl⟩

/-- Whole numbers that rise as Less has it. -/
def rankN (b : Nat) : Nat := if 9223372036854775808 ≤ one b then 18446744073709551615 - one b else one b + 9223372036854775808

theorem not_u64 (a : Nat) (ha : a < 18446744073709551616) : bits .xor .u64 18446744073709551615 (a : Int) = ((18446744073709551615 - a : Nat) : Int) := by
  show IntKind.u64.wrap ((BitVec.ofInt 64 18446744073709551615 ^^^ BitVec.ofInt 64 (a : Int)).toNat : Int) = _
  have h1 : BitVec.ofInt 64 18446744073709551615 = BitVec.allOnes 64 := by decide
  rw [h1, BitVec.allOnes_xor, BitVec.toNat_not, ofInt_u64 a (by omega)]
  simp [IntKind.wrap, IntKind.bits, IntKind.signed]
  omega

theorem rank_any (b : Nat) (w : World) (hb : b < 18446744073709551616) :
    Calls Try.prog 33 #[.float .f64 b] w fun e w' => e = .returned (.int .u64 (rankN b : Nat)) ∧ w = w' := by
  have ho := one_lt hb
  go_enter Try.func33, Try.ntmps33
  go_wp2_with fail
  refine (bitsOf_any b w hb).mono ?_
  rintro e w1 ⟨rfl, rfl⟩
  have HR : Hid (rankN b = if 9223372036854775808 ≤ one b then 18446744073709551615 - one b else one b + 9223372036854775808) := rfl
  have h1 := and_sign (one b) ho
  generalize one b = c at *
  by_cases h : 9223372036854775808 ≤ c
  · rw [if_pos h] at h1
    have hge := h
    clear h
    go_wp2_with fail
    go_ret
    refine ⟨?_, rfl⟩
    rw [HR.out, if_pos hge]
    exact ret_u64 (not_u64 c ho)
  · rw [if_neg h] at h1
    have h2 := or_sign c (by omega)
    go_wp2_with fail
    go_ret
    refine ⟨?_, rfl⟩
    rw [HR.out, if_neg h]
    first | rfl | exact ret_u64 (by omega)

def lessB (x y : Nat) : Bool := decide (rankN x < rankN y)

theorem less_any (x y : Nat) (w : World) (hx : x < 18446744073709551616) (hy : y < 18446744073709551616) :
    Calls Try.prog 18 #[.float .f64 x, .float .f64 y] w fun e w' => e = .returned (.bool (lessB x y)) ∧ w = w' := by
  go_enter Try.func18, Try.ntmps18
  go_wp2_with fail
  refine (rank_any x w hx).mono ?_
  rintro e w1 ⟨rfl, rfl⟩
  go_wp2_with fail
  refine (rank_any y w hy).mono ?_
  rintro e w1 ⟨rfl, rfl⟩
  go_wp2_with fail
  go_ret
  exact ⟨rfl, rfl⟩

/-- The sum's bits. -/
def addB (x y : Nat) : Nat := match Ieee.double.add x y with | some r => r | none => 9221120237041090560

theorem nanB_lit : nanB 9221120237041090560 = true := by decide

theorem addB_comm (x y : Nat) : addB x y = addB y x := by unfold addB; rw [add_comm]
theorem addB_lt (x y : Nat) : addB x y < 18446744073709551616 := by
  unfold addB
  split
  · rename_i h; exact (add_nan h).2
  · omega

/-- '+' on any bits: the sum, or a NaN that is drawn: with the one NaN, the sum's bits. -/
theorem run_add (t : TypeId) (x y : Nat) (w : World) : ∃ q w1, (binOp .add t (.float .f64 x) (.float .f64 y)).run Try.prog w = .ok (.float .f64 q) w1 ∧ q < 18446744073709551616 ∧ one q = addB x y ∧ w1.heap = w.heap ∧ Below w.heap.size w w1 := by
  cases h : Ieee.double.add x y with
  | some r =>
    have hn := add_nan h
    refine ⟨r, w, run_float_arith w .add t .f64 x y r h, hn.2, ?_, rfl, Below.refl _ _⟩
    rw [one_num hn.1]
    unfold addB
    rw [h]
  | none =>
    have hr : (binOp .add t (.float .f64 x) (.float .f64 y)).run Try.prog w = .ok (.float .f64 ((Question.nanBits .f64 x y).cut (w.tape w.drawn (.nanBits .f64 x y)))) w.drew := by
      have h' : FloatKind.f64.format.add x y = none := h
      simp [binOp, Op.floatArith, h', Question.forced]
    refine ⟨_, _, hr, ?_, ?_, rfl, ⟨rfl, rfl, rfl, Nat.le_refl _, fun _ _ => rfl⟩⟩
    · simp only [Question.cut]; omega
    · rw [one_nan (by
        unfold nanB
        rw [decide_eq_true_iff]
        simp only [Question.cut]
        rcases Nat.mod_two_eq_zero_or_one (w.tape w.drawn (Question.nanBits FloatKind.f64 x y)) with e | e <;> rw [e] <;> omega)]
      unfold addB
      rw [h]

theorem add_any (x y : Nat) (w : World) :
    Calls Try.prog 13 #[.float .f64 x, .float .f64 y] w fun e w' => e = .returned (.float .f64 (addB x y)) ∧ w'.heap = w.heap ∧ Below w.heap.size w w' := by
  obtain ⟨q, w1, hr, hq, ho, hh, hb⟩ := run_add 22 x y w
  have c1 := conv_same x
  have c2 := conv_same y
  have HO := hide ho
  clear ho
  go_enter Try.func13, Try.ntmps13
  go_wp2_with fail
  refine (withOneNaN_any q w1 hq).mono ?_
  rintro e w2 ⟨rfl, rfl⟩
  rw [HO.out]
  go_wp2_with fail
  go_ret
  exact ⟨rfl, hh, hb⟩

theorem bytes_any (x : Nat) (w : World) (hx : x < 18446744073709551616) :
    Calls Try.prog 16 #[.float .f64 x] w fun e w' => e = .returned (.slice (some ⟨w.heap.size, 0, none⟩) 8 8) ∧ OwnB 5 w' w.heap.size (putL (one x : Nat) 8) ∧ Below w.heap.size w w' := by
  have ho := one_lt hx
  go_enter Try.func16, Try.ntmps16
  go_wp2_with fail
  refine (bitsOf_any x w hx).mono ?_
  rintro e w1 ⟨rfl, rfl⟩
  go_wp2_with fail
  refine (put_at (one x : Nat) 8 8 w rfl ⟨by omega, by omega⟩ (by omega)).mono ?_
  rintro e w1 ⟨rfl, h1, h2⟩
  go_wp2_with fail
  go_ret
  exact ⟨rfl, h1, h2⟩

/-- The number of bytes. -/
def ofB (zs : List Int) : Nat := if zs.length = 8 then one (leNum zs).toNat else 0

theorem leNum_lt8 (l : List Int) (h : IsBytes l) (hl : l.length ≤ 8) : 0 ≤ leNum l ∧ leNum l < 18446744073709551616 := by
  have h1 := leNum_lt l h
  have h3 : (256 : Nat) ^ l.length ≤ 18446744073709551616 := Nat.le_trans (Nat.pow_le_pow_right (by decide) hl) (by decide)
  have h4 : ((256 ^ l.length : Nat) : Int) = (256 : Int) ^ l.length := Int.natCast_pow 256 l.length
  omega

theorem ofB_lt (zs : List Int) (h : IsBytes zs) : ofB zs < 18446744073709551616 := by
  unfold ofB
  split
  · rename_i hl
    have := leNum_lt8 zs h (by omega)
    exact one_lt (by omega)
  · omega

theorem of_any {a : Option Addr} {len cap : Nat} {zs : List Int} (w : World) (h : Bs w a len cap zs) :
    Calls Try.prog 15 #[.slice a len cap] w fun e w' => e = .returned (.float .f64 (ofB zs)) ∧ w = w' := by
  have hz := h.length
  by_cases h8 : len = 8
  · have hl := leNum_lt8 zs h.bytes (by omega)
    obtain ⟨n, hn⟩ := Int.eq_ofNat_of_zero_le hl.1
    have hb : ofB zs = one n := by unfold ofB; rw [if_pos (by omega), hn]; rfl
    have hc := call_from n
    rw [hb]
    subst h8
    go_enter Try.func15, Try.ntmps15
    go_wp2_with fail
    refine (get_any w h).mono ?_
    rintro e w1 ⟨rfl, rfl⟩
    rw [List.take_of_length_le (by omega), hn]
    go_wp2_with fail
    refine (withOneNaN_any n w (by omega)).mono ?_
    rintro e w1 ⟨rfl, rfl⟩
    go_wp2_with fail
    go_ret
    exact ⟨rfl, rfl⟩
  · have hb : ofB zs = 0 := by unfold ofB; rw [if_neg (by omega)]
    rw [hb]
    have hne : ((len : Int) != 8) = true := by simp; omega
    go_enter Try.func15, Try.ntmps15
    go_wp2_with fail
    go_ret
    exact ⟨rfl, rfl⟩
#print axioms less_any
#print axioms add_any
#print axioms of_any
#print axioms bytes_any
end Go.Proofs.Ytjogkadmkohifaa
