/- What the words of float64 stand for, by their rungs: their order, that a sum does not hang on the order of its parts, and that rounding keeps the order: no program is named here; no conditions but those that each line states. -/
import Derived.Laws.FloatArith
namespace Go.Proofs.Ytjogkadmkohifab
open Ieee

/-- Units of the least place that a rung stands for. -/
def V (r : Nat) : Nat := if r < 4503599627370496 then r else (4503599627370496 + r % 4503599627370496) * 2 ^ (r / 4503599627370496 - 1)

theorem V_lt {r s : Nat} (h : r < s) : V r < V s := by
  unfold V
  have e1 := Nat.div_add_mod r 4503599627370496
  have e2 := Nat.div_add_mod s 4503599627370496
  have m1 := Nat.mod_lt r (show 0 < 4503599627370496 by decide)
  have m2 := Nat.mod_lt s (show 0 < 4503599627370496 by decide)
  generalize r % 4503599627370496 = a at *
  generalize s % 4503599627370496 = b at *
  by_cases h1 : r < 4503599627370496
  · rw [if_pos h1]
    by_cases h2 : s < 4503599627370496
    · rw [if_pos h2]; exact h
    · rw [if_neg h2]
      have hp : 1 ≤ 2 ^ (s / 4503599627370496 - 1) := Nat.one_le_two_pow
      have : (4503599627370496 + b) * 1 ≤ (4503599627370496 + b) * 2 ^ (s / 4503599627370496 - 1) := Nat.mul_le_mul_left _ hp
      omega
  · have h2 : ¬ s < 4503599627370496 := by omega
    rw [if_neg h1, if_neg h2]
    have hd1 : 1 ≤ r / 4503599627370496 := by omega
    obtain ⟨c, hc⟩ : ∃ c, r / 4503599627370496 = c + 1 := ⟨r / 4503599627370496 - 1, by omega⟩
    obtain ⟨d, hd⟩ : ∃ d, s / 4503599627370496 = d + 1 := ⟨s / 4503599627370496 - 1, by omega⟩
    rw [hc, hd, Nat.add_sub_cancel, Nat.add_sub_cancel]
    by_cases hcd : c = d
    · subst hcd
      exact Nat.mul_lt_mul_of_pos_right (by omega) (Nat.two_pow_pos _)
    · have hlt : c + 1 ≤ d := by omega
      have hp : 2 ^ (c + 1) ≤ 2 ^ d := Nat.pow_le_pow_right (by decide) hlt
      have hq : 0 < 2 ^ c := Nat.two_pow_pos _
      rw [Nat.pow_succ] at hp
      have h3 : (4503599627370496 + a) * 2 ^ c < (2 * 4503599627370496) * 2 ^ c := Nat.mul_lt_mul_of_pos_right (by omega) hq
      have h4 : 4503599627370496 * (2 ^ c * 2) ≤ 4503599627370496 * 2 ^ d := Nat.mul_le_mul_left _ hp
      have h5 : 4503599627370496 * 2 ^ d ≤ (4503599627370496 + b) * 2 ^ d := Nat.mul_le_mul_right _ (by omega)
      have h6 : (2 * 4503599627370496) * 2 ^ c = 4503599627370496 * (2 ^ c * 2) := by
        generalize 2 ^ c = x
        omega
      omega

theorem V_le {r s : Nat} (h : r ≤ s) : V r ≤ V s := by
  rcases Nat.lt_or_eq_of_le h with h | rfl
  · exact Nat.le_of_lt (V_lt h)
  · exact Nat.le_refl _

theorem V_zero : V 0 = 0 := rfl

/-- The number of a sign and a rung. -/
def sv (b : Nat) : Int := if 9223372036854775808 ≤ b then -((b - 9223372036854775808 : Nat) : Int) else b

/-- Is it a NaN? -/
def nanB (b : Nat) : Bool := decide (9218868437227405312 < b % 9223372036854775808)

/-- V, for numbers below 0 too. -/
def VI (a : Int) : Int := if a < 0 then -(V a.natAbs : Int) else V a.natAbs

theorem VI_lt {a b : Int} (h : a < b) : VI a < VI b := by
  unfold VI
  by_cases ha : a < 0
  · by_cases hb : b < 0
    · rw [if_pos ha, if_pos hb]
      have := V_lt (show b.natAbs < a.natAbs by omega)
      omega
    · rw [if_pos ha, if_neg hb]
      have := V_lt (show 0 < a.natAbs by omega)
      rw [V_zero] at this
      omega
  · have hb : ¬ b < 0 := by omega
    rw [if_neg ha, if_neg hb]
    have := V_lt (show a.natAbs < b.natAbs by omega)
    omega

theorem cmp_lt {a b : Int} (h : a < b) : compare a b = .lt := by simp [compare, compareOfLessAndEq, h]
theorem cmp_gt {a b : Int} (h : b < a) : compare a b = .gt := by
  simp [compare, compareOfLessAndEq, show ¬ a < b by omega, show ¬ a = b by omega]
theorem cmp_eq (a : Int) : compare a a = .eq := by simp [compare, compareOfLessAndEq]

theorem cmp_mono {f : Int → Int} (hf : ∀ a b, a < b → f a < f b) (a b : Int) : compare (f a) (f b) = compare a b := by
  rcases Int.lt_trichotomy a b with h | rfl | h
  · rw [cmp_lt h, cmp_lt (hf _ _ h)]
  · rw [cmp_eq, cmp_eq]
  · rw [cmp_gt h, cmp_gt (hf _ _ h)]

theorem cmp_scale (c : Nat) (a b : Int) : compare (a * (2 ^ c : Nat)) (b * (2 ^ c : Nat)) = compare a b :=
  cmp_mono (f := fun x => x * (2 ^ c : Nat)) (fun a b h => Int.mul_lt_mul_of_pos_right h (by have := Nat.two_pow_pos c; omega)) a b

/-- What a word that is no NaN stands for. -/
theorem read_num {b : Nat} (hb : b < 18446744073709551616) (h : b % 9223372036854775808 < 9218868437227405312) :
    ∃ m : Nat, ∃ e : Nat, double.read b = .number (decide (9223372036854775808 ≤ b)) m (-1074 + (e : Int)) ∧ m * 2 ^ e = V (b % 9223372036854775808) := by
  have e1 : double.signWeight = 9223372036854775808 := by decide
  have e2 : double.binade = 4503599627370496 := by decide
  have e3 : double.infRung = 9218868437227405312 := by decide
  have e4 : double.leastPlace = -1074 := by decide
  have e5 : (b / 9223372036854775808 % 2 == 1) = decide (9223372036854775808 ≤ b) := by
    by_cases hs : 9223372036854775808 ≤ b
    · rw [decide_eq_true hs, beq_iff_eq]; omega
    · rw [decide_eq_false hs, beq_eq_false_iff_ne]; omega
  unfold Format.read V
  simp only [e1, e2, e3, e4, e5]
  generalize b % 9223372036854775808 = r at *
  by_cases h1 : r < 4503599627370496
  · refine ⟨r, 0, ?_, ?_⟩
    · rw [if_pos h1]; rfl
    · rw [if_pos h1, Nat.pow_zero, Nat.mul_one]
  · refine ⟨4503599627370496 + r % 4503599627370496, r / 4503599627370496 - 1, ?_, ?_⟩
    · rw [if_neg h1, if_pos h]
    · rw [if_neg h1]

theorem read_inf {b : Nat} (hb : b < 18446744073709551616) (h : b % 9223372036854775808 = 9218868437227405312) :
    double.read b = .infinity (decide (9223372036854775808 ≤ b)) := by
  have e1 : double.signWeight = 9223372036854775808 := by decide
  have e2 : double.binade = 4503599627370496 := by decide
  have e3 : double.infRung = 9218868437227405312 := by decide
  have e5 : (b / 9223372036854775808 % 2 == 1) = decide (9223372036854775808 ≤ b) := by
    by_cases hs : 9223372036854775808 ≤ b
    · rw [decide_eq_true hs, beq_iff_eq]; omega
    · rw [decide_eq_false hs, beq_eq_false_iff_ne]; omega
  unfold Format.read
  simp only [e1, e2, e3, e5, h]
  rw [if_neg (by omega), if_neg (by omega), if_pos trivial]

theorem read_nan {b : Nat} (h : nanB b = true) : ∃ s f, double.read b = .nan s f := by
  have e1 : double.signWeight = 9223372036854775808 := by decide
  have e2 : double.binade = 4503599627370496 := by decide
  have e3 : double.infRung = 9218868437227405312 := by decide
  unfold nanB at h
  have h := of_decide_eq_true h
  have hr : double.read b = .nan (b / 9223372036854775808 % 2 == 1) (b % 9223372036854775808 - 9218868437227405312) := by
    unfold Format.read
    simp only [e1, e2, e3]
    rw [if_neg (by omega), if_neg (by omega), if_neg (by omega)]
  exact ⟨_, _, hr⟩

theorem signed_mul (s : Bool) (m k : Nat) : signed s m k = (if s then -1 else 1) * ((m * 2 ^ k : Nat) : Int) := by
  unfold signed
  rw [Nat.shiftLeft_eq]
  cases s <;> simp

/-- How two words that are no NaN stand to each other: as their numbers. -/
theorem order_sv {x y : Nat} (hx : x < 18446744073709551616) (hy : y < 18446744073709551616) (nx : nanB x = false) (ny : nanB y = false) :
    double.order x y = some (compare (sv x) (sv y)) := by
  unfold nanB at nx ny
  have nx := of_decide_eq_false nx
  have ny := of_decide_eq_false ny
  have svx : sv x = if 9223372036854775808 ≤ x then -((x % 9223372036854775808 : Nat) : Int) else (x % 9223372036854775808 : Nat) := by unfold sv; split <;> omega
  have svy : sv y = if 9223372036854775808 ≤ y then -((y % 9223372036854775808 : Nat) : Int) else (y % 9223372036854775808 : Nat) := by unfold sv; split <;> omega
  unfold Format.order
  by_cases ix : x % 9223372036854775808 = 9218868437227405312
  · rw [read_inf hx ix]
    by_cases iy : y % 9223372036854775808 = 9218868437227405312
    · rw [read_inf hy iy, svx, svy, ix, iy]
      simp only [Datum.order]
      by_cases sx : 9223372036854775808 ≤ x <;> by_cases sy : 9223372036854775808 ≤ y <;> simp only [sx, sy, decide_true, decide_false, if_true, if_false] <;> rfl
    · obtain ⟨m, e, hr, _⟩ := read_num hy (by omega)
      rw [hr, svx, svy, ix]
      simp only [Datum.order]
      by_cases sx : 9223372036854775808 ≤ x
      · rw [cmp_lt (by simp only [sx, if_true]; split <;> omega)]; simp [sx]
      · rw [cmp_gt (by simp only [sx, if_false]; split <;> omega)]; simp [sx]
  · obtain ⟨m, e, hr, hv⟩ := read_num hx (by omega)
    rw [hr]
    by_cases iy : y % 9223372036854775808 = 9218868437227405312
    · rw [read_inf hy iy, svx, svy, iy]
      simp only [Datum.order]
      by_cases sy : 9223372036854775808 ≤ y
      · rw [cmp_gt (by simp only [sy, if_true]; split <;> omega)]; simp [sy]
      · rw [cmp_lt (by simp only [sy, if_false]; split <;> omega)]; simp [sy]
    · obtain ⟨n, f, hq, hu⟩ := read_num hy (by omega)
      rw [hq]
      simp only [Datum.order, Option.some.injEq]
      have key : ∀ (s : Bool) (m e : Nat) (g : Nat), g ≤ e → signed s m (-1074 + (e : Int) - (-1074 + (g : Int))).toNat * ((2 ^ g : Nat) : Int) = (if s then -1 else 1) * ((m * 2 ^ e : Nat) : Int) := by
        intro s m e g hg
        rw [signed_mul, show (-1074 + (e : Int) - (-1074 + (g : Int))).toNat = e - g by omega, Int.mul_assoc, ← Int.natCast_mul, Nat.mul_assoc, ← Nat.pow_add, Nat.sub_add_cancel hg]
      have hmin : min (-1074 + (e : Int)) (-1074 + (f : Int)) = -1074 + ((min e f : Nat) : Int) := by omega
      rw [hmin, ← cmp_scale (min e f), key _ _ _ _ (Nat.min_le_left _ _), key _ _ _ _ (Nat.min_le_right _ _), hv, hu]
      rw [show compare (sv x) (sv y) = compare (VI (sv x)) (VI (sv y)) from (cmp_mono (fun a b h => VI_lt h) _ _).symm]
      have hV : ∀ (z : Nat), sv z = (if 9223372036854775808 ≤ z then -((z % 9223372036854775808 : Nat) : Int) else (z % 9223372036854775808 : Nat)) → VI (sv z) = (if decide (9223372036854775808 ≤ z) = true then -1 else 1) * ((V (z % 9223372036854775808) : Nat) : Int) := by
        intro z hz
        rw [hz]
        unfold VI
        generalize z % 9223372036854775808 = r
        by_cases sz : 9223372036854775808 ≤ z
        · simp only [sz, if_true, decide_true]
          by_cases h0 : r = 0
          · subst h0; rfl
          · rw [if_pos (by omega), show (-(r : Int)).natAbs = r by omega]; omega
        · simp only [sz, if_false, decide_false]
          rw [if_neg (by omega), show ((r : Int)).natAbs = r by omega]
          simp
      rw [hV x svx, hV y svy]

theorem order_nan {x y : Nat} (h : nanB x = true ∨ nanB y = true) : double.order x y = none := by
  unfold Format.order
  rcases h with h | h
  · obtain ⟨s, f, hr⟩ := read_nan h
    rw [hr]; rfl
  · obtain ⟨s, f, hr⟩ := read_nan h
    rw [hr]
    cases double.read x <;> rfl

theorem sum_comm (a b : Datum) : a.sum b = b.sum a := by
  cases a with
  | nan => cases b <;> rfl
  | infinity s =>
    cases b with
    | nan => rfl
    | infinity t => cases s <;> cases t <;> rfl
    | number => rfl
  | number s m i =>
    cases b with
    | nan => rfl
    | infinity t => rfl
    | number t n j =>
      simp only [Datum.sum]
      rw [Int.min_comm j i, Int.add_comm (signed t n _), Bool.and_comm t s]

theorem add_comm (x y : Nat) : double.add x y = double.add y x := by unfold Format.add; rw [sum_comm]

theorem word_nan (s : Bool) {r : Nat} (h : r ≤ 9218868437227405312) : nanB (double.word s r) = false := by
  have e1 : double.signWeight = 9223372036854775808 := by decide
  unfold nanB Format.word
  rw [e1]
  cases s
  · rw [decide_eq_false_iff_not]; simp only [Bool.false_eq_true, if_false]; omega
  · rw [decide_eq_false_iff_not]; simp only [if_true]; omega

theorem nearest_nan (s : Bool) (m : Nat) (p : Int) : nanB (double.nearest s m p) = false := by
  unfold Format.nearest
  split
  · exact word_nan s (by omega)
  · have e3 : double.infRung = 9218868437227405312 := by decide
    simp only [e3]
    exact word_nan s (Nat.min_le_right _ _)

theorem sum_nan {a b d : Datum} (h : a.sum b = some d) : nanB (double.write d) = false := by
  have hi : ∀ s, nanB (double.write (.infinity s)) = false := by decide
  cases a with
  | nan => cases b <;> cases h
  | infinity s =>
    cases b with
    | nan => cases h
    | infinity t =>
      simp only [Datum.sum] at h
      split at h
      · cases h; exact hi _
      · cases h
    | number => simp only [Datum.sum] at h; cases h; exact hi _
  | number s m i =>
    cases b with
    | nan => cases h
    | infinity t => simp only [Datum.sum] at h; cases h; exact hi _
    | number t n j => simp only [Datum.sum] at h; cases h; exact nearest_nan _ _ _

theorem add_nan {x y r : Nat} (h : double.add x y = some r) : nanB r = false ∧ r < 18446744073709551616 := by
  refine ⟨?_, double.add_lt h⟩
  unfold Format.add at h
  obtain ⟨d, hd, rfl⟩ := Option.map_eq_some_iff.1 h
  exact sum_nan hd
#print axioms order_sv
#print axioms add_nan
end Go.Proofs.Ytjogkadmkohifab
