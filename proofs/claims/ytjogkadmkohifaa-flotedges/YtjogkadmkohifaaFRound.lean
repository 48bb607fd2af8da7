/- Rounding to float64 keeps the order of numbers; whole numbers below 2^53 are kept as they are; a product of two numbers that are not below 0 rises with each: no program is named here; no conditions but those that each line states. -/
import Derived.Test.YtjogkadmkohifaaFIeee
namespace Go.Proofs.Ytjogkadmkohifaa
open Ieee

/-- To the nearest multiple of g, in units of g; between two, the even one. -/
def rne (M g : Nat) : Nat := M / g + (decide (g < 2 * (M % g)) || (g == 2 * (M % g) && M / g % 2 == 1)).toNat

theorem cut_even (s : Bool) (M d : Nat) (hM : 0 < M) : Toward.even.cut s M d = rne M (2 ^ d) := by
  unfold Toward.cut rne
  simp only [Nat.one_shiftLeft]
  by_cases h : d ≤ M.log2 + 2
  · rw [Nat.min_eq_left h]
  · rw [Nat.min_eq_right (by omega)]
    have h1 : M < 2 ^ (M.log2 + 1) := Nat.lt_log2_self
    have h2 : 2 ^ (M.log2 + 2) = 2 ^ (M.log2 + 1) * 2 := Nat.pow_succ ..
    have h3 : 2 ^ (M.log2 + 2) ≤ 2 ^ d := Nat.pow_le_pow_right (by decide) (by omega)
    generalize 2 ^ (M.log2 + 2) = g at *
    generalize 2 ^ d = G at *
    have a1 : M / g = 0 := Nat.div_eq_of_lt (by omega)
    have a2 : M % g = M := Nat.mod_eq_of_lt (by omega)
    have a3 : M / G = 0 := Nat.div_eq_of_lt (by omega)
    have a4 : M % G = M := Nat.mod_eq_of_lt (by omega)
    rw [a1, a2, a3, a4, decide_eq_false (show ¬ g < 2 * M by omega), decide_eq_false (show ¬ G < 2 * M by omega)]
    simp

theorem rne_mono {M N g : Nat} (h : M ≤ N) : rne M g ≤ rne N g := by
  unfold rne
  have hd : M / g ≤ N / g := Nat.div_le_div_right h
  rcases Nat.lt_or_eq_of_le hd with h1 | h1
  · have := Bool.toNat_le (decide (g < 2 * (M % g)) || (g == 2 * (M % g) && M / g % 2 == 1))
    omega
  · have e1 := Nat.div_add_mod M g
    have e2 := Nat.div_add_mod N g
    rw [h1] at e1 ⊢
    have hr : M % g ≤ N % g := by omega
    generalize M % g = a at *
    generalize N % g = b at *
    generalize N / g = q at *
    refine Nat.add_le_add_left ?_ q
    by_cases c1 : g < 2 * b
    · rw [decide_eq_true c1, Bool.true_or]; exact Bool.toNat_le _
    · by_cases c2 : g = 2 * b
      · by_cases c3 : g < 2 * a
        · omega
        · by_cases c4 : g = 2 * a
          · obtain rfl : a = b := by omega
            exact Nat.le_refl _
          · rw [decide_eq_false c3, beq_eq_false_iff_ne.2 c4]; simp
      · rw [decide_eq_false (show ¬ g < 2 * a by omega), beq_eq_false_iff_ne.2 (show g ≠ 2 * a by omega)]; simp

theorem rne_mul (M g : Nat) (hg : 0 < g) : rne (M * g) g = M := by
  unfold rne
  rw [Nat.mul_div_cancel _ hg, Nat.mul_mod_left, decide_eq_false (by omega), beq_eq_false_iff_ne.2 (by omega)]
  simp

/-- The rung of M units of a place that lies D below the least one. -/
def rung (D M : Nat) : Nat := if M = 0 then 0 else min ((max (M.log2 - 52) D - D) * 4503599627370496 + rne M (2 ^ max (M.log2 - 52) D)) 9218868437227405312

theorem nearest_rung (D M : Nat) : double.nearest false M (-1074 - (D : Int)) = rung D M := by
  have e2 : double.binade = 4503599627370496 := by decide
  have e3 : double.infRung = 9218868437227405312 := by decide
  have e4 : double.leastPlace = -1074 := by decide
  unfold Format.nearest rung Format.word
  simp only [e2, e3, e4, Bool.false_eq_true, if_false]
  by_cases h : M = 0
  · rw [if_pos h, if_pos h]
  · rw [if_neg h, if_neg h]
    have e5 : (double.fractionBits : Int) = 52 := rfl
    rw [e5]
    have h1 : (-1074 - (D : Int) - max (-1074 - (D : Int) + (M.log2 : Int) - 52) (-1074)).toNat = 0 := by omega
    have h2 : (max (-1074 - (D : Int) + (M.log2 : Int) - 52) (-1074) - (-1074 - (D : Int))).toNat = max (M.log2 - 52) D := by omega
    have h3 : (max (-1074 - (D : Int) + (M.log2 : Int) - 52) (-1074) - -1074).toNat = max (M.log2 - 52) D - D := by omega
    rw [h1, h2, h3, Nat.shiftLeft_zero, cut_even _ _ _ (by omega)]

theorem rung_le (D M : Nat) : rung D M ≤ 9218868437227405312 := by
  unfold rung
  split
  · omega
  · exact Nat.min_le_right _ _

theorem rung_mono {D M N : Nat} (h : M ≤ N) : rung D M ≤ rung D N := by
  unfold rung
  by_cases hM : M = 0
  · rw [if_pos hM]; omega
  · rw [if_neg hM, if_neg (show ¬ N = 0 by omega)]
    have hl : M.log2 ≤ N.log2 := (Nat.le_log2 (by omega)).2 (Nat.le_trans (Nat.log2_self_le hM) h)
    have h1 : M < 2 ^ (M.log2 + 1) := Nat.lt_log2_self
    have h2 : 2 ^ N.log2 ≤ N := Nat.log2_self_le (by omega)
    have key : (max (M.log2 - 52) D - D) * 4503599627370496 + rne M (2 ^ max (M.log2 - 52) D) ≤ (max (N.log2 - 52) D - D) * 4503599627370496 + rne N (2 ^ max (N.log2 - 52) D) := by
      by_cases hd : max (M.log2 - 52) D = max (N.log2 - 52) D
      · rw [hd]; exact Nat.add_le_add_left (rne_mono h) _
      · have a1 : max (N.log2 - 52) D = N.log2 - 52 := by omega
        have a2 : max (M.log2 - 52) D < N.log2 - 52 := by omega
        rw [a1]
        generalize hc : max (M.log2 - 52) D = c at *
        generalize hk : N.log2 - 52 = k at *
        have b1 : rne M (2 ^ c) ≤ 9007199254740992 := by
          have : M ≤ 9007199254740992 * 2 ^ c := by
            have p : 2 ^ (M.log2 + 1) ≤ 2 ^ (53 + c) := Nat.pow_le_pow_right (by decide) (by omega)
            rw [Nat.pow_add 2 53 c, show (2 : Nat) ^ 53 = 9007199254740992 by decide] at p
            exact Nat.le_of_lt (Nat.lt_of_lt_of_le h1 p)
          have := rne_mono (g := 2 ^ c) this
          rwa [rne_mul _ _ (Nat.two_pow_pos _)] at this
        have b2 : 4503599627370496 ≤ rne N (2 ^ k) := by
          have : 4503599627370496 * 2 ^ k ≤ N := by
            have p : 2 ^ (52 + k) = 2 ^ N.log2 := by congr 1; omega
            rw [Nat.pow_add, show (2 : Nat) ^ 52 = 4503599627370496 by decide] at p
            rw [p]; exact h2
          have := rne_mono (g := 2 ^ k) this
          rwa [rne_mul _ _ (Nat.two_pow_pos _)] at this
        have b3 : c - D + 1 ≤ k - D := by omega
        have b4 : (c - D + 1) * 4503599627370496 ≤ (k - D) * 4503599627370496 := Nat.mul_le_mul_right _ b3
        clear h1 h2
        generalize rne M (2 ^ c) = x at *
        generalize rne N (2 ^ k) = y at *
        omega
    exact Nat.le_min.2 ⟨Nat.le_trans (Nat.min_le_left _ _) key, Nat.min_le_right _ _⟩

/-- The same number, told at a place further down. -/
theorem log2_mul_pow {m : Nat} (hm : m ≠ 0) : ∀ t, (m * 2 ^ t).log2 = m.log2 + t
  | 0 => by simp
  | t + 1 => by
    have ih := log2_mul_pow hm t
    rw [Nat.pow_succ, ← Nat.mul_assoc, Nat.mul_comm _ 2, Nat.log2_two_mul (Nat.mul_ne_zero hm (Nat.ne_of_gt (Nat.two_pow_pos _))), ih, Nat.add_assoc]

theorem nearest_shift (m t : Nat) (p : Int) : double.nearest false (m * 2 ^ t) p = double.nearest false m (p + t) := by
  by_cases hm : m = 0
  · subst hm; unfold Format.nearest; simp
  · have hmt : m * 2 ^ t ≠ 0 := Nat.mul_ne_zero hm (Nat.ne_of_gt (Nat.two_pow_pos _))
    unfold Format.nearest
    rw [if_neg hm, if_neg hmt]
    simp only [log2_mul_pow hm]
    have e : p + ((m.log2 + t : Nat) : Int) - (double.fractionBits : Int) = p + (t : Int) + (m.log2 : Int) - (double.fractionBits : Int) := by omega
    rw [e]
    generalize max (p + (t : Int) + (m.log2 : Int) - (double.fractionBits : Int)) double.leastPlace = last
    congr 3
    rw [Nat.shiftLeft_eq, Nat.shiftLeft_eq, cut_even _ _ _ (Nat.mul_pos (by omega) (Nat.two_pow_pos _)), cut_even _ _ _ (Nat.mul_pos (by omega) (Nat.two_pow_pos _))]
    by_cases h1 : last ≤ p
    · rw [show (last - p).toNat = 0 by omega, show (last - (p + (t : Int))).toNat = 0 by omega, show (p + (t : Int) - last).toNat = t + (p - last).toNat by omega, Nat.pow_add, Nat.mul_assoc]
    · by_cases h2 : last ≤ p + t
      · rw [show (p - last).toNat = 0 by omega, show (last - (p + (t : Int))).toNat = 0 by omega, Nat.pow_zero, Nat.mul_one]
        have h3 : t = (p + (t : Int) - last).toNat + (last - p).toNat := by omega
        rw [show m * 2 ^ t = m * 2 ^ (p + (t : Int) - last).toNat * 2 ^ (last - p).toNat by rw [Nat.mul_assoc, ← Nat.pow_add, ← h3], rne_mul _ _ (Nat.two_pow_pos _)]
        have := rne_mul (m * 2 ^ (p + (t : Int) - last).toNat) 1 (by omega)
        rw [Nat.mul_one] at this
        exact this.symm
      · rw [show (p - last).toNat = 0 by omega, show (p + (t : Int) - last).toNat = 0 by omega, Nat.pow_zero, Nat.mul_one, Nat.mul_one]
        obtain ⟨q, hq⟩ : ∃ q, (last - (p + (t : Int))).toNat = q := ⟨_, rfl⟩
        rw [hq, show (last - p).toNat = q + t by omega, Nat.pow_add]
        unfold rne
        have ht : 0 < 2 ^ t := Nat.two_pow_pos t
        generalize 2 ^ t = T at *
        generalize 2 ^ q = Q at *
        rw [Nat.mul_div_mul_right _ _ ht, Nat.mul_mod_mul_right]
        have c1 : decide (Q * T < 2 * (m % Q * T)) = decide (Q < 2 * (m % Q)) := by
          rw [decide_eq_decide, ← Nat.mul_assoc]
          exact Nat.mul_lt_mul_right ht
        have c2 : (Q * T == 2 * (m % Q * T)) = (Q == 2 * (m % Q)) := by
          rw [← Nat.mul_assoc, Bool.eq_iff_iff, beq_iff_eq, beq_iff_eq]
          exact Nat.mul_left_inj (by omega)
        rw [c1, c2]

/-- A product of two numbers that are not below 0, and finite. -/
theorem mul_rung {x y : Nat} (hx : x < 9218868437227405312) (hy : y < 9218868437227405312) : double.mul x y = some (rung 1074 (V x * V y)) := by
  obtain ⟨m, e, hr, hv⟩ := read_num (b := x) (by omega) (by omega)
  obtain ⟨n, f, hq, hu⟩ := read_num (b := y) (by omega) (by omega)
  rw [decide_eq_false (by omega)] at hr hq
  rw [Nat.mod_eq_of_lt (by omega)] at hv hu
  unfold Format.mul
  rw [hr, hq]
  simp only [Datum.product, Option.map_some, Format.write, Bool.xor_self, Option.some.injEq]
  rw [← nearest_rung, ← hv, ← hu, show m * 2 ^ e * (n * 2 ^ f) = m * n * 2 ^ (e + f) by rw [Nat.pow_add]; simp only [Nat.mul_assoc, Nat.mul_left_comm], nearest_shift]
  congr 1
  omega

def low : Nat := 1074
theorem low_eq : low = 1074 := rfl

/-- float64(k). -/
def fl (k : Nat) : Nat := rung 0 (k * 2 ^ low)

theorem floatOfInt_nat (k : Nat) : floatOfInt .f64 (k : Int) = fl k := by
  unfold floatOfInt FloatKind.nearest FloatKind.encode fl
  rw [← nearest_rung, nearest_shift]
  show double.nearest (decide ((k : Int) < 0)) (k : Int).natAbs 0 = _
  rw [decide_eq_false (by omega), Int.natAbs_natCast, low_eq]
  rfl

theorem fl_mono {k m : Nat} (h : k ≤ m) : fl k ≤ fl m := rung_mono (Nat.mul_le_mul_right _ h)

/-- Whole numbers below 2^53 are kept as they are. -/
theorem V_fl {k : Nat} (h : k < 9007199254740992) : V (fl k) = k * 2 ^ low := by
  have hlow := low_eq
  by_cases h0 : k = 0
  · subst h0; unfold fl rung; rw [Nat.zero_mul, if_pos rfl]; rfl
  · unfold fl rung
    rw [if_neg (Nat.mul_ne_zero h0 (Nat.ne_of_gt (Nat.two_pow_pos _))), log2_mul_pow h0]
    have hl : k.log2 ≤ 52 := by
      have : k.log2 < 53 := (Nat.log2_lt h0).2 h
      omega
    have h1 : 2 ^ k.log2 ≤ k := Nat.log2_self_le h0
    have h2 : k < 2 ^ (k.log2 + 1) := Nat.lt_log2_self
    generalize k.log2 = l at *
    generalize low = lo at *
    rw [show max (l + lo - 52) 0 = l + 1022 by omega, Nat.sub_zero]
    obtain ⟨K, hK⟩ : ∃ K, k * 2 ^ (52 - l) = K := ⟨_, rfl⟩
    have e1 : k * 2 ^ lo = K * 2 ^ (l + 1022) := by
      rw [← hK, Nat.mul_assoc, ← Nat.pow_add, show 52 - l + (l + 1022) = lo by omega]
    have p52 : (2 : Nat) ^ 52 = 4503599627370496 := by decide
    have k1 : 4503599627370496 ≤ K := by
      rw [← hK, ← p52, show (2 : Nat) ^ 52 = 2 ^ l * 2 ^ (52 - l) by rw [← Nat.pow_add, show l + (52 - l) = 52 by omega]]
      exact Nat.mul_le_mul_right _ h1
    have k2 : K < 9007199254740992 := by
      have p53 : (9007199254740992 : Nat) = 2 ^ (l + 1) * 2 ^ (52 - l) := by
        rw [← Nat.pow_add, show l + 1 + (52 - l) = 53 by omega]
      rw [← hK, p53]
      exact Nat.mul_lt_mul_of_pos_right h2 (Nat.two_pow_pos _)
    rw [e1, rne_mul _ _ (Nat.two_pow_pos _)]
    clear e1 hK
    rw [Nat.min_eq_left (by omega)]
    unfold V
    rw [if_neg (by omega)]
    have d1 : ((l + 1022) * 4503599627370496 + K) / 4503599627370496 = l + 1023 := by omega
    have d2 : ((l + 1022) * 4503599627370496 + K) % 4503599627370496 = K - 4503599627370496 := by omega
    rw [d1, d2, show l + 1023 - 1 = l + 1022 by omega, show 4503599627370496 + (K - 4503599627370496) = K by omega]
#print axioms mul_rung
#print axioms V_fl
#print axioms rung_mono
end Go.Proofs.Ytjogkadmkohifaa
