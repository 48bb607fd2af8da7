/- What a call of dumbwaiterref1.Part does: for every int and all bits: it answers the least whole number of which the part is enough, or none; the world stays as it was. -/
import Derived.Test.YtjogkadmkohifabFPart
namespace Go.Proofs.Ytjogkadmkohifab
open Go.RowKit

/-- The post of dumbwaiterref1.Part. -/
def RPartEnds (n : Int) (f : Nat) (w : World) (e : Ending) (w' : World) : Prop := (∃ (k : Int) (ok : Bool), e = .returned (.tuple #[.int .i64 k, .bool ok]) ∧ Hid (PartOf n f k ok)) ∧ w = w'

set_option maxHeartbeats 2000000 in
theorem rpart_range (n : Int) (f : Nat) (w : World) (h : n < 0 ∨ 1000000 < n) : Calls Try.prog 6 #[.int .i64 n, .float .f64 f] w (RPartEnds n f w) := by
  have hP := hide (partOf_bad (f := f) (h.elim .inl fun h => .inr (.inl h)))
  rcases h with h | h
  · have h1 : decide (n < 0) = true := decide_eq_true h
    go_enter Try.func6, Try.ntmps6
    go_wp2_with fail
    go_ret2
    exact ⟨⟨0, false, rfl, hP⟩, rfl⟩
  · have h1 : decide (n < 0) = false := decide_eq_false (by omega)
    have h2 : decide (1000000 < n) = true := decide_eq_true h
    go_enter Try.func6, Try.ntmps6
    go_wp2_with fail
    go_ret2
    exact ⟨⟨0, false, rfl, hP⟩, rfl⟩

set_option maxHeartbeats 2000000 in
theorem rpart_fill (n : Int) (f : Nat) (w : World) (h0 : 0 ≤ n) (h1 : n ≤ 1000000) (o0 o1 : Option Ordering) (e0 : Ieee.Format.order FloatKind.f64.format f 0 = o0) (e1 : Ieee.Format.order FloatKind.f64.format f 4607182418800017408 = o1) (hg : ((o0 == some .gt) && (o1 == some .lt || o1 == some .eq)) = false) (hP : Hid (PartOf n f 0 false)) : Calls Try.prog 6 #[.int .i64 n, .float .f64 f] w (RPartEnds n f w) := by
  have d1 : decide (n < 0) = false := decide_eq_false (by omega)
  have d2 : decide (1000000 < n) = false := decide_eq_false (by omega)
  cases hc : (o0 == some .gt)
  · rw [← e0] at hc
    clear e0 e1 hg h0 h1
    go_enter Try.func6, Try.ntmps6
    go_wp2_with fail
    go_ret2
    exact ⟨⟨0, false, rfl, hP⟩, rfl⟩
  · rw [hc, Bool.true_and, Bool.or_eq_false_iff] at hg
    obtain ⟨g1, g2⟩ := hg
    rw [← e0] at hc
    rw [← e1] at g1 g2
    clear e0 e1 h0 h1
    go_enter Try.func6, Try.ntmps6
    go_wp2_with fail
    go_ret2
    exact ⟨⟨0, false, rfl, hP⟩, rfl⟩

theorem run_partI (t : TypeId) (i : Int) (k f : Nat) (hi : i = (k : Int)) (hk : k ≤ 1099511627776) (hf : f < 9218868437227405312) (w : World) : (binOp .mul t (.float .f64 (floatOfInt .f64 i)) (.float .f64 f)).run Try.prog w = .ok (.float .f64 (mulB k f)) w := by
  subst hi; exact run_part t k f hk hf w

set_option maxHeartbeats 2000000 in
theorem rpart_good (n f : Nat) (w : World) (h1 : n ≤ 1000000) (hf : f < 9218868437227405312) (hgt : (Ieee.Format.order FloatKind.f64.format f 0 == some .gt) = true) (hle : (Ieee.Format.order FloatKind.f64.format f 4607182418800017408 == some .lt || Ieee.Format.order FloatKind.f64.format f 4607182418800017408 == some .eq) = true) (hg : goodF f = true) : Calls Try.prog 6 #[.int .i64 (n : Int), .float .f64 f] w (RPartEnds n f w) := by
  have d1 : decide ((n : Int) < 0) = false := decide_eq_false (by omega)
  have d2 : decide ((1000000 : Int) < (n : Int)) = false := decide_eq_false (by omega)
  have h40 : ∀ w, (binOp .mul 23 (.float .f64 4787326403894837248) (.float .f64 f)).run Try.prog w = .ok (.float .f64 (mulB 1099511627776 f)) w := fun w => by
    rw [show (4787326403894837248 : Nat) = fl 1099511627776 by kernel_rfl]
    exact run_float_arith w .mul 23 .f64 _ _ _ (mul_rung fl_top hf)
  have hl := lss_enough n f 1099511627776
  cases he : enough n f 1099511627776
  · have hP : Hid (PartOf n f 0 false) := hide ⟨fun h => by rw [hg] at h; rcases h with h | h | h <;> first | omega | (cases h), fun _ _ _ _ => ⟨rfl, by rw [Int.toNat_natCast]; exact he⟩, fun _ _ _ h => by (cases h)⟩
    rw [he] at hl
    clear he
    go_enter Try.func6, Try.ntmps6
    go_wp2_with fail
    all_goals go_ret2
    all_goals exact ⟨⟨0, false, rfl, hP⟩, rfl⟩
  · have HE := hide he
    rw [he] at hl
    clear he
    go_enter Try.func6, Try.ntmps6
    go_wp2_with fail
    all_goals
      clear hgt hle d1 d2 h40 hl
      go_loop [6, 7] (fun s6 s7 => ∃ lo hi : Nat, s6 = .int .i64 lo ∧ s7 = .int .i64 hi ∧ lo ≤ hi ∧ hi ≤ 1099511627776 ∧ Hid ((∀ t, t < lo → enough n f t = false) ∧ enough n f hi = true)) (fun i j => (intOf j - intOf i).toNat)
      case atStart => exact ⟨0, 1099511627776, rfl, rfl, by omega, by omega, hide ⟨fun t ht => absurd ht (Nat.not_lt_zero _), HE.out⟩⟩
      case round =>
        obtain ⟨lo, hi, rfl, rfl, hlh, hin, I⟩ := hrel
        by_cases hlt : lo < hi
        · have hm := run_partI 23 (((lo : Int) + (hi : Int)) / 2) ((lo + hi) / 2) f (by omega) (by omega) hf
          have hge := geq_enough n f ((lo + hi) / 2)
          cases he : enough n f ((lo + hi) / 2)
          · have HP := hide he
            rw [he, Bool.or_eq_false_iff] at hge
            obtain ⟨g1, g2⟩ := hge
            clear he
            go_wp2_with fail
            go_round
            case measure => simp [intOf]; omega
            case rel =>
              refine ⟨(lo + hi) / 2 + 1, hi, by rw [show ((lo : Int) + (hi : Int)) / 2 + 1 = (((lo + hi) / 2 + 1 : Nat) : Int) by omega], rfl, by omega, hin, hide ⟨fun t ht => ?_, I.out.2⟩⟩
              cases h : enough n f t with
              | false => rfl
              | true =>
                have := enough_mono (b := (lo + hi) / 2) (by omega) h
                rw [HP.out] at this; cases this
          · have HP := hide he
            rw [he] at hge
            clear he
            go_wp2_with fail
            all_goals go_round
            all_goals first
              | (refine ⟨lo, (lo + hi) / 2, rfl, by rw [show ((lo : Int) + (hi : Int)) / 2 = (((lo + hi) / 2 : Nat) : Int) by omega], by omega, by omega, hide ⟨I.out.1, HP.out⟩⟩; done)
              | (simp [intOf]; omega)
        · obtain rfl : hi = lo := by omega
          have hP : Hid (PartOf n f hi true) := hide ⟨fun h => by rw [hg] at h; rcases h with h | h | h <;> first | omega | (cases h), fun _ _ _ h => by (cases h), fun _ _ _ _ => ⟨hi, rfl, hin, by rw [Int.toNat_natCast]; exact I.out.2, fun t ht => by rw [Int.toNat_natCast]; exact I.out.1 t ht⟩⟩
          clear I
          go_wp2_with fail
          go_ret2
          exact ⟨⟨hi, true, rfl, hP⟩, rfl⟩

theorem rpart_any (n : Int) (f : Nat) (w : World) (hf : f < 18446744073709551616) : Calls Try.prog 6 #[.int .i64 n, .float .f64 f] w (RPartEnds n f w) := by
  by_cases hr : n < 0 ∨ 1000000 < n
  · exact rpart_range n f w hr
  · have h := gt_le_one hf
    cases hg : goodF f
    · rw [hg] at h
      exact rpart_fill n f w (by omega) (by omega) _ _ rfl rfl h (hide (partOf_bad (.inr (.inr hg))))
    · rw [hg, Bool.and_eq_true] at h
      obtain ⟨m, rfl⟩ := Int.eq_ofNat_of_zero_le (show 0 ≤ n by omega)
      have : f ≤ 4607182418800017408 := (of_decide_eq_true hg).2
      exact rpart_good m f w (by omega) (by omega) h.1 h.2 hg
#print axioms rpart_any
end Go.Proofs.Ytjogkadmkohifab
