/- What Part answers of Fills that are thousandths, of a whole Fill and of a thin one: no conditions but those that each line states. -/
import Derived.Test.YtjogkadmkohifabFPart
namespace Go.Proofs.Ytjogkadmkohifab
open Go.RowKit

/-- What float64(j + 1) / 1000 is, for j below 1000: between a thousandth and 1. -/
theorem fill_div {j : Nat} (h : j < 1000) : ∃ r, floatBits .quo .f64 (floatOfInt .f64 ((j + 1 : Nat) : Int)) 4652007308841189376 = some r ∧ 4562254508917369340 ≤ r ∧ r ≤ 4607182418800017408 := by
  have hh : ((List.range 1000).all fun j => match floatBits .quo .f64 (floatOfInt .f64 ((j + 1 : Nat) : Int)) 4652007308841189376 with | some r => Nat.ble 4562254508917369340 r && Nat.ble r 4607182418800017408 | none => false) = true := by kernel_rfl
  have h1 := List.all_eq_true.1 hh j (List.mem_range.2 h)
  cases hr : floatBits .quo .f64 (floatOfInt .f64 ((j + 1 : Nat) : Int)) 4652007308841189376 with
  | none => rw [hr] at h1; cases h1
  | some r =>
    rw [hr] at h1
    dsimp only at h1
    rw [Bool.and_eq_true] at h1
    exact ⟨r, rfl, Nat.le_of_ble_eq_true h1.1, Nat.le_of_ble_eq_true h1.2⟩

theorem mulB_mono {k f g : Nat} (h : f ≤ g) : mulB k f ≤ mulB k g := rung_mono (Nat.mul_le_mul_left _ (V_le h))

theorem enough_top {n f : Nat} (hn : n ≤ 65535) (hf : 4562254508917369340 ≤ f) : enough n f 1099511627776 = true := by
  have h : enough 65535 4562254508917369340 1099511627776 = true := by kernel_rfl
  unfold enough at *
  exact decide_eq_true (Nat.le_trans (fl_mono hn) (Nat.le_trans (of_decide_eq_true h) (mulB_mono hf)))

theorem enough_more {n m f g k : Nat} (hn : n ≤ m) (hf : g ≤ f) (h : enough m g k = true) : enough n f k = true := by
  unfold enough at *
  exact decide_eq_true (Nat.le_trans (fl_mono hn) (Nat.le_trans (of_decide_eq_true h) (mulB_mono hf)))

theorem V_one : V 4607182418800017408 = 2 ^ low := by kernel_rfl

theorem mulB_one {n : Nat} (h : n < 9007199254740992) : mulB n 4607182418800017408 = fl n := by
  unfold mulB
  rw [V_fl h, V_one, ← nearest_rung, nearest_shift]
  unfold fl
  rw [← nearest_rung]
  congr 1

theorem fl_strict {a b : Nat} (h : a < b) (hb : b < 9007199254740992) : fl a < fl b := by
  rcases Nat.lt_or_ge (fl a) (fl b) with h1 | h1
  · exact h1
  · have := V_le h1
    rw [V_fl hb, V_fl (by omega)] at this
    have h2 : a * 2 ^ low < b * 2 ^ low := Nat.mul_lt_mul_of_pos_right h (Nat.two_pow_pos _)
    exact absurd h2 (Nat.not_lt.2 this)

theorem part_fills {n f : Nat} {k : Int} {ok : Bool} (h : PartOf (n : Int) f k ok) (hn : n ≤ 65535) (hf : 4562254508917369340 ≤ f) (hf1 : f ≤ 4607182418800017408) : ok = true ∧ ∃ j : Nat, k = j ∧ j ≤ 1099511627776 ∧ enough n f j = true ∧ ∀ t, t < j → enough n f t = false := by
  have hg : goodF f = true := decide_eq_true ⟨by omega, hf1⟩
  cases ok with
  | false =>
    have := (h.none (by omega) (by omega) hg rfl).2
    rw [Int.toNat_natCast, enough_top hn hf] at this; cases this
  | true => exact ⟨rfl, by have := h.some (by omega) (by omega) hg rfl; rwa [Int.toNat_natCast] at this⟩

theorem part_whole {n : Nat} {k : Int} {ok : Bool} (h : PartOf (n : Int) 4607182418800017408 k ok) (hn : n ≤ 65535) : ok = true ∧ k = n := by
  obtain ⟨h1, j, rfl, h2, h3, h4⟩ := part_fills h hn (by omega) (Nat.le_refl _)
  refine ⟨h1, ?_⟩
  have e : ∀ t, t < 9007199254740992 → enough n 4607182418800017408 t = decide (fl n ≤ fl t) := fun t ht => by unfold enough; rw [mulB_one ht]
  rcases Nat.lt_trichotomy j n with hh | hh | hh
  · rw [e j (by omega)] at h3
    have := fl_strict hh (by omega)
    have := of_decide_eq_true h3
    omega
  · rw [hh]
  · have := h4 n hh
    rw [e n (by omega)] at this
    exact absurd (Nat.le_refl _) (of_decide_eq_false this)

theorem part_thin {k : Int} {ok : Bool} (h : PartOf 1000000 103582791429521408 k ok) : ok = false := by
  cases ok with
  | false => rfl
  | true =>
    obtain ⟨j, _, hj, he, _⟩ := h.some (by omega) (by omega) (by decide) rfl
    have := enough_mono hj he
    rw [show enough (1000000 : Int).toNat 103582791429521408 1099511627776 = false by kernel_rfl] at this
    cases this

#print axioms part_whole
#print axioms part_thin
#print axioms fill_div
end Go.Proofs.Ytjogkadmkohifab
