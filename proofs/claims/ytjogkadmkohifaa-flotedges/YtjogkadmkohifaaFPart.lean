/- What a call of sort.Search over a closure that only reads does, and what a call of flot.Part does: for every int and all bits: it answers the least whole number of which the part is enough, or none; nothing that was there is turned. -/
import Derived.Test.YtjogkadmkohifaaFCode
import Derived.Shelf.Abstract
namespace Go.Proofs.Ytjogkadmkohifaa
open Go.RowKit

/-- A number above 0 and at most 1. -/
def goodF (f : Nat) : Bool := decide (0 < f ∧ f ≤ 4607182418800017408)

theorem gt_le_one {f : Nat} (hf : f < 18446744073709551616) : ((Ieee.Format.order FloatKind.f64.format f 0 == some .gt) && (Ieee.Format.order FloatKind.f64.format f 4607182418800017408 == some .lt || Ieee.Format.order FloatKind.f64.format f 4607182418800017408 == some .eq)) = goodF f := by
  show ((Ieee.double.order f 0 == some .gt) && (Ieee.double.order f 4607182418800017408 == some .lt || Ieee.double.order f 4607182418800017408 == some .eq)) = goodF f
  unfold goodF
  cases h : nanB f
  · rw [order_sv hf (by omega) h (by decide), order_sv hf (by omega) h (by decide)]
    have e0 : sv 0 = 0 := by decide
    have e1 : sv 4607182418800017408 = 4607182418800017408 := by decide
    rw [e0, e1]
    have hs : sv f = if 9223372036854775808 ≤ f then -((f - 9223372036854775808 : Nat) : Int) else f := rfl
    by_cases h0 : 0 < sv f
    · rw [cmp_gt h0]
      have hf0 : ¬ 9223372036854775808 ≤ f := by intro hh; rw [if_pos hh] at hs; omega
      rw [if_neg hf0] at hs
      rcases Int.lt_trichotomy (sv f) 4607182418800017408 with h1 | h1 | h1
      · rw [cmp_lt h1, decide_eq_true (by omega)]; rfl
      · rw [h1, cmp_eq, decide_eq_true (by omega)]; rfl
      · rw [cmp_gt h1, decide_eq_false (by omega)]; rfl
    · have : (compare (sv f) 0 == .gt) = false := by
        rcases Int.lt_trichotomy (sv f) 0 with h1 | h1 | h1
        · rw [cmp_lt h1]; rfl
        · rw [h1, cmp_eq]; rfl
        · omega
      rw [show (some (compare (sv f) 0) == some Ordering.gt) = (compare (sv f) 0 == .gt) from rfl, this, decide_eq_false]
      · rfl
      · rintro ⟨a, b⟩
        rw [if_neg (by omega)] at hs
        omega
  · rw [order_nan (.inl h), decide_eq_false]
    · rfl
    · unfold nanB at h
      have := of_decide_eq_true h
      omega

/-- float64(k) times f. -/
def mulB (k f : Nat) : Nat := rung 1074 (V (fl k) * V f)
/-- Is float64(k) times f at least n? -/
def enough (n f k : Nat) : Bool := decide (fl n ≤ mulB k f)

theorem enough_mono {n f a b : Nat} (h : a ≤ b) (ha : enough n f a = true) : enough n f b = true := by
  unfold enough at *
  have := of_decide_eq_true ha
  exact decide_eq_true (Nat.le_trans this (rung_mono (Nat.mul_le_mul_right _ (V_le (fl_mono h)))))

theorem fl_top : fl 1099511627776 < 9218868437227405312 := by
  have : decide (fl 1099511627776 < 9218868437227405312) = true := by kernel_rfl
  exact of_decide_eq_true this
theorem fl_lt {k : Nat} (h : k ≤ 1099511627776) : fl k < 9218868437227405312 := Nat.lt_of_le_of_lt (fl_mono h) fl_top

theorem run_part (t : TypeId) (k f : Nat) (hk : k ≤ 1099511627776) (hf : f < 9218868437227405312) (w : World) : (binOp .mul t (.float .f64 (floatOfInt .f64 (k : Int))) (.float .f64 f)).run Try.prog w = .ok (.float .f64 (mulB k f)) w := by
  rw [floatOfInt_nat]
  exact run_float_arith w .mul t .f64 _ _ _ (mul_rung (fl_lt hk) hf)

theorem sv_pos {x : Nat} (h : x < 9223372036854775808) : sv x = x := by unfold sv; rw [if_neg (by omega)]
theorem nanB_fin {x : Nat} (h : x ≤ 9218868437227405312) : nanB x = false := by unfold nanB; rw [decide_eq_false_iff_not]; omega

theorem geq_enough (n f k : Nat) : (Ieee.Format.order FloatKind.f64.format (mulB k f) (floatOfInt .f64 (n : Int)) == some .gt || Ieee.Format.order FloatKind.f64.format (mulB k f) (floatOfInt .f64 (n : Int)) == some .eq) = enough n f k := by
  show (Ieee.double.order (mulB k f) (floatOfInt .f64 (n : Int)) == some .gt || Ieee.double.order (mulB k f) (floatOfInt .f64 (n : Int)) == some .eq) = enough n f k
  rw [floatOfInt_nat]
  have h1 : mulB k f ≤ 9218868437227405312 := rung_le _ _
  have h2 : fl n ≤ 9218868437227405312 := rung_le _ _
  rw [order_sv (by omega) (by omega) (nanB_fin h1) (nanB_fin h2), sv_pos (by omega), sv_pos (by omega)]
  unfold enough
  rcases Int.lt_trichotomy (mulB k f : Int) (fl n : Int) with h | h | h
  · rw [cmp_lt h, decide_eq_false (by omega)]; rfl
  · rw [h, cmp_eq, decide_eq_true (by omega)]; rfl
  · rw [cmp_gt h, decide_eq_true (by omega)]; rfl

theorem lss_enough (n f k : Nat) : (Ieee.Format.order FloatKind.f64.format (mulB k f) (floatOfInt .f64 (n : Int)) == some .lt) = !enough n f k := by
  show (Ieee.double.order (mulB k f) (floatOfInt .f64 (n : Int)) == some .lt) = !enough n f k
  rw [floatOfInt_nat]
  have h1 : mulB k f ≤ 9218868437227405312 := rung_le _ _
  have h2 : fl n ≤ 9218868437227405312 := rung_le _ _
  rw [order_sv (by omega) (by omega) (nanB_fin h1) (nanB_fin h2), sv_pos (by omega), sv_pos (by omega)]
  unfold enough
  rcases Int.lt_trichotomy (mulB k f : Int) (fl n : Int) with h | h | h
  · rw [cmp_lt h, decide_eq_false (by omega)]; rfl
  · rw [h, cmp_eq, decide_eq_true (by omega)]; rfl
  · rw [cmp_gt h, decide_eq_true (by omega)]; rfl

set_option maxHeartbeats 1000000 in
theorem part1_any (bf bn n f k : Nat) (W : World) (hk : k ≤ 1099511627776) (hf : f < 9218868437227405312) (cf : W.cell? ⟨bf, 0, none⟩ = some (.float .f64 f)) (cn : W.cell? ⟨bn, 0, none⟩ = some (.int .i64 n)) :
    Calls Try.prog 35 (#[.int .i64 k] ++ #[.pointer (some ⟨bf, 0, none⟩), .pointer (some ⟨bn, 0, none⟩)]) W fun e w' => e = .returned (.bool (enough n f k)) ∧ W = w' := by
  have h1 := run_part 22 k f hk hf
  have HG := hide (geq_enough n f k)
  go_enter Try.func35, Try.ntmps35
  go_wp2
  go_ret
  exact ⟨by rw [← HG.out]; rfl, rfl⟩

/-- How many places below n are still false. -/
structure Bound (p : Nat → Bool) (n r : Nat) : Prop where
  le : r ≤ n
  low : ∀ t, t < r → p t = false
  high : ∀ t, r ≤ t → t < n → p t = true

set_option maxHeartbeats 2000000 in
theorem search_any (g : Nat) (cb : Array Value) (n : Nat) (p : Nat → Bool) (w : World) (eg : ∀ args w, (callFunc g args).run Try.prog w = .ok (.enter g args) w) (hsz : n < 4611686018427387904)
    (hf : ∀ i : Nat, i < n → Calls Try.prog g (#[.int .i64 i] ++ cb) w fun e w' => e = .returned (.bool (p i)) ∧ w = w')
    (hmono : ∀ a b, a ≤ b → b < n → p a = true → p b = true) :
    Calls Try.prog 34 #[.int .i64 n, .func (.func g) #[] cb] w fun e w' => (∃ r : Nat, e = .returned (.int .i64 r) ∧ Hid (Bound p n r)) ∧ w = w' := by
  have HF := hide hf
  have M := hide hmono
  clear hf hmono
  go_enter Try.func34, Try.ntmps34
  go_wp2_with fail
  go_loop [5, 6] (fun s5 s6 => ∃ lo hi : Nat, s5 = .int .i64 lo ∧ s6 = .int .i64 hi ∧ lo ≤ hi ∧ hi ≤ n ∧ Hid ((∀ t, t < lo → p t = false) ∧ (∀ t, hi ≤ t → t < n → p t = true))) (fun i j => (intOf j - intOf i).toNat)
  case atStart => exact ⟨0, n, rfl, rfl, Nat.zero_le _, Nat.le_refl _, hide ⟨fun t ht => absurd ht (Nat.not_lt_zero _), fun t h1 h2 => by omega⟩⟩
  case round =>
    obtain ⟨lo, hi, rfl, rfl, hlh, hin, I⟩ := hrel
    by_cases hlt : lo < hi
    · have hc := HF.out ((lo + hi) / 2) (by omega)
      rw [show (((lo + hi) / 2 : Nat) : Int) = ((lo : Int) + (hi : Int)) / 2 by omega] at hc
      cases hp : p ((lo + hi) / 2) <;> rw [hp] at hc
      · have HP := hide hp
        clear hp
        go_wp2_with (go_at_fn g; refine hc.mono ?_; rintro e w' ⟨rfl, rfl⟩)
        go_round
        case measure => simp [intOf]; omega
        case rel =>
          refine ⟨(lo + hi) / 2 + 1, hi, by rw [show ((lo : Int) + (hi : Int)) / 2 + 1 = (((lo + hi) / 2 + 1 : Nat) : Int) by omega], rfl, by omega, hin, hide ⟨fun t ht => ?_, I.out.2⟩⟩
          cases h : p t with
          | false => rfl
          | true => have := M.out t ((lo + hi) / 2) (by omega) (by omega) h; rw [HP.out] at this; cases this
      · have HP := hide hp
        clear hp
        go_wp2_with (go_at_fn g; refine hc.mono ?_; rintro e w' ⟨rfl, rfl⟩)
        go_round
        case measure => simp [intOf]; omega
        case rel =>
          exact ⟨lo, (lo + hi) / 2, rfl, by rw [show ((lo : Int) + (hi : Int)) / 2 = (((lo + hi) / 2 : Nat) : Int) by omega], by omega, by omega, hide ⟨I.out.1, fun t ht htn => M.out ((lo + hi) / 2) t ht htn HP.out⟩⟩
    · obtain rfl : hi = lo := by omega
      go_wp2_with fail
      go_ret
      exact ⟨⟨hi, rfl, hide ⟨hin, I.out.1, I.out.2⟩⟩, rfl⟩

/-- What Part answers. -/
structure PartOf (n : Int) (f : Nat) (k : Int) (ok : Bool) : Prop where
  bad : (n < 0 ∨ 1000000 < n ∨ goodF f = false) → k = 0 ∧ ok = false
  none : 0 ≤ n → n ≤ 1000000 → goodF f = true → ok = false → k = 0 ∧ enough n.toNat f 1099511627776 = false
  some : 0 ≤ n → n ≤ 1000000 → goodF f = true → ok = true → ∃ j : Nat, k = j ∧ j ≤ 1099511627776 ∧ enough n.toNat f j = true ∧ ∀ t, t < j → enough n.toNat f t = false

/-- The post of Part. -/
def PartEnds (n : Int) (f : Nat) (w : World) (e : Ending) (w' : World) : Prop := (∃ (k : Int) (ok : Bool), e = .returned (.tuple #[.int .i64 k, .bool ok]) ∧ Hid (PartOf n f k ok)) ∧ Below w.heap.size w w'

theorem partOf_bad {n : Int} {f : Nat} (h : n < 0 ∨ 1000000 < n ∨ goodF f = false) : PartOf n f 0 false :=
  ⟨fun _ => ⟨rfl, rfl⟩, fun h0 h1 h2 _ => by rcases h with h | h | h <;> first | omega | (rw [h] at h2; cases h2), fun h0 h1 h2 _ => by rcases h with h | h | h <;> first | omega | (rw [h] at h2; cases h2)⟩

set_option maxHeartbeats 2000000 in
theorem part_range (n : Int) (f : Nat) (w : World) (h : n < 0 ∨ 1000000 < n) : Calls Try.prog 19 #[.int .i64 n, .float .f64 f] w (PartEnds n f w) := by
  have hP := hide (partOf_bad (f := f) (h.elim .inl fun h => .inr (.inl h)))
  have hB := ((Below.refl w.heap.size w).alloc (Nat.le_refl _) (.cells #[.int .i64 n] 3)).alloc (by simp) (.cells #[.float .f64 f] 22)
  rcases h with h | h
  · have h1 : decide (n < 0) = true := decide_eq_true h
    go_enter Try.func19, Try.ntmps19
    go_wp2_with fail
    go_ret2
    exact ⟨⟨0, false, rfl, hP⟩, hB⟩
  · have h1 : decide (n < 0) = false := decide_eq_false (by omega)
    have h2 : decide (1000000 < n) = true := decide_eq_true h
    go_enter Try.func19, Try.ntmps19
    go_wp2_with fail
    go_ret2
    exact ⟨⟨0, false, rfl, hP⟩, hB⟩

set_option maxHeartbeats 2000000 in
theorem part_fill (n : Int) (f : Nat) (w : World) (h0 : 0 ≤ n) (h1 : n ≤ 1000000) (o0 o1 : Option Ordering) (e0 : Ieee.Format.order FloatKind.f64.format f 0 = o0) (e1 : Ieee.Format.order FloatKind.f64.format f 4607182418800017408 = o1) (hg : ((o0 == some .gt) && (o1 == some .lt || o1 == some .eq)) = false) (hP : Hid (PartOf n f 0 false)) : Calls Try.prog 19 #[.int .i64 n, .float .f64 f] w (PartEnds n f w) := by
  have hB := ((Below.refl w.heap.size w).alloc (Nat.le_refl _) (.cells #[.int .i64 n] 3)).alloc (by simp) (.cells #[.float .f64 f] 22)
  have d1 : decide (n < 0) = false := decide_eq_false (by omega)
  have d2 : decide (1000000 < n) = false := decide_eq_false (by omega)
  cases hc : (o0 == some .gt)
  · rw [← e0] at hc
    clear e0 e1 hg h0 h1
    go_enter Try.func19, Try.ntmps19
    go_wp2_with fail
    go_ret2
    exact ⟨⟨0, false, rfl, hP⟩, hB⟩
  · rw [hc, Bool.true_and, Bool.or_eq_false_iff] at hg
    obtain ⟨g1, g2⟩ := hg
    rw [← e0] at hc
    rw [← e1] at g1 g2
    clear e0 e1 h0 h1
    go_enter Try.func19, Try.ntmps19
    go_wp2_with fail
    go_ret2
    exact ⟨⟨0, false, rfl, hP⟩, hB⟩


set_option maxHeartbeats 2000000 in
theorem part_good (n f : Nat) (w : World) (h1 : n ≤ 1000000) (hf : f < 9218868437227405312) (hgt : (Ieee.Format.order FloatKind.f64.format f 0 == some .gt) = true) (hle : (Ieee.Format.order FloatKind.f64.format f 4607182418800017408 == some .lt || Ieee.Format.order FloatKind.f64.format f 4607182418800017408 == some .eq) = true) (hg : goodF f = true) : Calls Try.prog 19 #[.int .i64 (n : Int), .float .f64 f] w (PartEnds n f w) := by
  obtain ⟨W0, hW0⟩ : ∃ W0, (w.alloc (.cells #[.int .i64 (n : Int)] 3)).alloc (.cells #[.float .f64 f] 22) = W0 := ⟨_, rfl⟩
  have hB : Below w.heap.size w W0 := by rw [← hW0]; exact ((Below.refl w.heap.size w).alloc (Nat.le_refl _) _).alloc (by simp) _
  have cn : W0.cell? ⟨w.heap.size, 0, none⟩ = some (.int .i64 (n : Int)) := by
    rw [← hW0, World.cell?_alloc2_first]; rfl
  have cf : W0.cell? ⟨w.heap.size + 1, 0, none⟩ = some (.float .f64 f) := by
    rw [← hW0, World.cell?_alloc2_new]; rfl
  have eg : ∀ args w, (callFunc 35 args).run Try.prog w = .ok (.enter 35 args) w := enters_of Try.func35 (by kernel_rfl) rfl
  have hS := search_any 35 #[.pointer (some ⟨w.heap.size + 1, 0, none⟩), .pointer (some ⟨w.heap.size, 0, none⟩)] 1099511627777 (enough n f) W0 eg (by omega)
    (fun i hi => part1_any (w.heap.size + 1) w.heap.size n f i W0 (by omega) hf cf cn) (fun a b hab _ ha => enough_mono hab ha)
  have d1 : decide ((n : Int) < 0) = false := decide_eq_false (by omega)
  have d2 : decide ((1000000 : Int) < (n : Int)) = false := decide_eq_false (by omega)
  have HS := hide hS
  have HB := hide hB
  have HW := hide hW0
  clear hS hB cn cf eg hW0
  go_enter Try.func19, Try.ntmps19
  go_wp2_with fail
  all_goals
    rw [HW.out]
    refine HS.out.mono ?_
    rintro e w1 ⟨⟨r, rfl, hr⟩, rfl⟩
    by_cases hr1 : 1099511627776 < r
    · have hP : Hid (PartOf n f 0 false) := hide ⟨fun h => by rw [hg] at h; rcases h with h | h | h <;> first | omega | (cases h), fun _ _ _ _ => ⟨rfl, by rw [Int.toNat_natCast]; exact hr.out.low _ hr1⟩, fun _ _ _ h => by cases h⟩
      have d3 : decide ((1099511627776 : Int) < (r : Int)) = true := decide_eq_true (by omega)
      clear hr HS
      go_wp2_with fail
      go_ret2
      exact ⟨⟨0, false, rfl, hP⟩, HB.out⟩
    · have hP : Hid (PartOf n f r true) := hide ⟨fun h => by rw [hg] at h; rcases h with h | h | h <;> first | omega | (cases h), fun _ _ _ h => by (cases h), fun _ _ _ _ => ⟨r, rfl, by omega, by rw [Int.toNat_natCast]; exact hr.out.high _ (Nat.le_refl _) (by omega), fun t ht => by rw [Int.toNat_natCast]; exact hr.out.low _ ht⟩⟩
      have d3 : decide ((1099511627776 : Int) < (r : Int)) = false := decide_eq_false (by omega)
      clear hr HS
      go_wp2_with fail
      go_ret2
      exact ⟨⟨r, true, rfl, hP⟩, HB.out⟩

theorem part_any (n : Int) (f : Nat) (w : World) (hf : f < 18446744073709551616) : Calls Try.prog 19 #[.int .i64 n, .float .f64 f] w (PartEnds n f w) := by
  by_cases hr : n < 0 ∨ 1000000 < n
  · exact part_range n f w hr
  · have h := gt_le_one hf
    cases hg : goodF f
    · rw [hg] at h
      exact part_fill n f w (by omega) (by omega) _ _ rfl rfl h (hide (partOf_bad (.inr (.inr hg))))
    · rw [hg, Bool.and_eq_true] at h
      obtain ⟨m, rfl⟩ := Int.eq_ofNat_of_zero_le (show 0 ≤ n by omega)
      have : f ≤ 4607182418800017408 := (of_decide_eq_true hg).2
      exact part_good m f w (by omega) (by omega) h.1 h.2 hg

/-- Part's answer is one. -/
theorem PartOf.same {n : Int} {f : Nat} {k m : Int} {ok is : Bool} (h : PartOf n f k ok) (g : PartOf n f m is) : k = m ∧ ok = is := by
  by_cases hb : n < 0 ∨ 1000000 < n ∨ goodF f = false
  · have a := h.bad hb
    have b := g.bad hb
    exact ⟨a.1.trans b.1.symm, a.2.trans b.2.symm⟩
  · have h0 : 0 ≤ n := by omega
    have h1 : n ≤ 1000000 := by omega
    have hg : goodF f = true := by
      cases hh : goodF f
      · exact absurd (.inr (.inr hh)) hb
      · rfl
    cases ok <;> cases is
    · exact ⟨(h.none h0 h1 hg rfl).1.trans (g.none h0 h1 hg rfl).1.symm, rfl⟩
    · obtain ⟨j, _, hj, he, _⟩ := g.some h0 h1 hg rfl
      have := enough_mono hj he
      rw [(h.none h0 h1 hg rfl).2] at this; cases this
    · obtain ⟨j, _, hj, he, _⟩ := h.some h0 h1 hg rfl
      have := enough_mono hj he
      rw [(g.none h0 h1 hg rfl).2] at this; cases this
    · obtain ⟨j, rfl, hj, he, hl⟩ := h.some h0 h1 hg rfl
      obtain ⟨i, rfl, hi, hf, hm⟩ := g.some h0 h1 hg rfl
      rcases Nat.lt_trichotomy i j with hh | hh | hh
      · rw [hl i hh] at hf; cases hf
      · subst hh; exact ⟨rfl, rfl⟩
      · rw [hm j hh] at he; cases he

#print axioms part_any
#print axioms PartOf.same
end Go.Proofs.Ytjogkadmkohifaa
