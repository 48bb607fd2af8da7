
/- What calls of dumbwaiterref6's Depth, Buckets, At, On and Meet and of dumbwaiterref18's SameInts answer, of all numbers, of any two rows; nothing that was there is turned. -/
import Derived.Test.YtmaknnlccmfmpaaDoorTrOn
import Derived.Test.YtmaknnlccmfmpaaDoorAppendK
namespace Go.Proofs.YtmaknnlccmfmpaaDoor
open Go.RowKit
set_option maxRecDepth 20000

set_option maxHeartbeats 4000000 in
theorem rdepth_any (n : Int) (w : World) (hn : -9223372036854775808 ≤ n ∧ n ≤ 9223372036854775807) :
    Calls Tryd.prog 13 #[.int .i64 n] w fun e w' => e = .returned (.int .i64 (dep n : Int)) ∧ w = w' := by
  cases hl : lvs n with
  | false =>
    rw [dep_no n hl]
    go_enter Tryd.func13, Tryd.ntmps13
    go_wp2_with fail
    refine wp_loop_rounds 1 ?_
    rw [rounds_succ]
    go_wp2_with fail
    refine (rleaves_any n w hn).mono ?_
    rintro e w1 ⟨rfl, rfl⟩
    rw [hl]
    go_wp2_with fail
    go_ret
    exact ⟨rfl, rfl⟩
  | true =>
    obtain ⟨e, hk⟩ := dep_is hl
    generalize dep n = k at *
    subst e
    go_enter Tryd.func13, Tryd.ntmps13
    go_wp2_with fail
    go_loop [0, 3] (fun v i => ∃ j : Nat, j ≤ k ∧ v = .int .i64 ((2 ^ (k - j) : Nat) : Int) ∧ i = .int .i64 (j : Int)) (fun _ i => k - (intOf i).toNat)
    case atStart => exact ⟨0, Nat.zero_le _, by rw [Nat.sub_zero], rfl⟩
    case round =>
      obtain ⟨j, hj, rfl, rfl⟩ := hrel
      have hL : lvs ((2 ^ (k - j) : Nat) : Int) = true := lvs_pow (k - j) (by omega)
      have hp := pow16 (show k - j ≤ 16 by omega)
      by_cases hjk : j < k
      · have e2 : 2 ^ (k - j) = 2 * 2 ^ (k - (j + 1)) := by rw [show k - j = k - (j + 1) + 1 by omega, Nat.pow_succ, Nat.mul_comm]
        have hc := rleaves_any ((2 ^ (k - j) : Nat) : Int) w (by omega)
        rw [hL] at hc
        obtain ⟨m, hm⟩ : ∃ m : Nat, 2 ^ (k - (j + 1)) = m := ⟨_, rfl⟩
        have hp2 := pow16 (show k - (j + 1) ≤ 16 by omega)
        rw [hm] at hp2
        rw [e2, hm] at hc hp ⊢
        have HM := hide hm
        clear e2 hm hL
        have hq : (((2 * m : Nat) : Int)).tdiv 2 = (m : Int) := by rw [Int.tdiv_eq_ediv_of_nonneg (by omega)]; omega
        have hq2 : (((2 * m : Nat) : Int)) / 2 = (m : Int) := by omega
        have hg1 : (1 : Int) < ((2 * m : Nat) : Int) := by omega
        generalize ((2 * m : Nat) : Int) = z at *
        go_wp2_with fail
        refine hc.mono ?_
        rintro e w1 ⟨rfl, rfl⟩
        go_wp2_with fail
        go_round
        case rel => exact ⟨j + 1, by omega, by first | (rw [HM.out]; done) | (rw [HM.out]; go_num), by go_num⟩
        case measure => simp [intOf]; omega
      · obtain rfl : j = k := by omega
        rw [Nat.sub_self, Nat.pow_zero] at *
        have hc := rleaves_any 1 w (by omega)
        rw [show lvs 1 = true by decide] at hc
        go_wp2_with fail
        refine hc.mono ?_
        rintro e w1 ⟨rfl, rfl⟩
        go_wp2_with fail
        go_ret
        exact ⟨rfl, rfl⟩

theorem rbuckets_any (n : Int) (w : World) (hn : -9223372036854775808 ≤ n ∧ n ≤ 9223372036854775807) :
    Calls Tryd.prog 15 #[.int .i64 n] w fun e w' => e = .returned (.int .i64 (cntB n)) ∧ w = w' := by
  cases hl : lvs n with
  | false =>
    rw [show cntB n = 0 by unfold cntB; rw [if_neg (by rw [hl]; decide)]]
    go_enter Tryd.func15, Tryd.ntmps15
    go_wp2_with fail
    refine (rleaves_any n w hn).mono ?_
    rintro e w1 ⟨rfl, rfl⟩
    rw [hl]
    go_wp2_with fail
    go_ret
    exact ⟨rfl, rfl⟩
  | true =>
    rw [show cntB n = 2 * n - 1 by unfold cntB; rw [if_pos hl]]
    have hb := lvs_in hl
    go_enter Tryd.func15, Tryd.ntmps15
    go_wp2_with fail
    refine (rleaves_any n w hn).mono ?_
    rintro e w1 ⟨rfl, rfl⟩
    rw [hl]
    go_wp2_with fail
    go_ret
    exact ⟨by first | rfl | (simp; omega), rfl⟩

theorem rat_no (n a l : Int) (w : World) (hn : -9223372036854775808 ≤ n ∧ n ≤ 9223372036854775807) (h : atB n a l = false) :
    Calls Tryd.prog 12 #[.int .i64 n, .int .i64 a, .int .i64 l] w fun e w' => e = .returned (.tuple #[.int .i64 0, .bool false]) ∧ w = w' := by
  have hd := rdepth_any n w hn
  have hc := rleaves_any n w hn
  have hX : ¬ (lvs n = true ∧ 0 ≤ a ∧ a < n ∧ 0 ≤ l ∧ l ≤ (dep n : Int)) := by
    rintro ⟨h1, h2, h3, h4, h5⟩
    simp [atB, hasL, h1, h2, h3, h4, h5] at h
  clear h
  generalize dep n = k at *
  cases hl : lvs n with
  | false =>
    rw [hl] at hc
    clear hX
    go_enter Tryd.func12, Tryd.ntmps12
    go_wp2_with fail
    refine hd.mono ?_
    rintro e w1 ⟨rfl, rfl⟩
    go_wp2_with fail
    refine hc.mono ?_
    rintro e w1 ⟨rfl, rfl⟩
    go_wp2_with fail
    go_ret2
    exact ⟨rfl, rfl⟩
  | true =>
    rw [hl] at hc
    by_cases h2 : a < 0
    · clear hX
      go_enter Tryd.func12, Tryd.ntmps12
      go_wp2_with fail
      refine hd.mono ?_
      rintro e w1 ⟨rfl, rfl⟩
      go_wp2_with fail
      refine hc.mono ?_
      rintro e w1 ⟨rfl, rfl⟩
      go_wp2_with fail
      go_ret2
      exact ⟨rfl, rfl⟩
    · by_cases h3 : n ≤ a
      · clear hX
        go_enter Tryd.func12, Tryd.ntmps12
        go_wp2_with fail
        refine hd.mono ?_
        rintro e w1 ⟨rfl, rfl⟩
        go_wp2_with fail
        refine hc.mono ?_
        rintro e w1 ⟨rfl, rfl⟩
        go_wp2_with fail
        go_ret2
        exact ⟨rfl, rfl⟩
      · by_cases h4 : l < 0
        · clear hX
          go_enter Tryd.func12, Tryd.ntmps12
          go_wp2_with fail
          refine hd.mono ?_
          rintro e w1 ⟨rfl, rfl⟩
          go_wp2_with fail
          refine hc.mono ?_
          rintro e w1 ⟨rfl, rfl⟩
          go_wp2_with fail
          go_ret2
          exact ⟨rfl, rfl⟩
        · have h5 : (k : Int) < l := Int.not_le.1 fun h => hX ⟨hl, by omega, by omega, by omega, h⟩
          clear hX
          go_enter Tryd.func12, Tryd.ntmps12
          go_wp2_with fail
          refine hd.mono ?_
          rintro e w1 ⟨rfl, rfl⟩
          go_wp2_with fail
          refine hc.mono ?_
          rintro e w1 ⟨rfl, rfl⟩
          go_wp2_with fail
          go_ret2
          exact ⟨rfl, rfl⟩

set_option maxHeartbeats 1000000 in
theorem rat_yes (n : Int) (a l : Nat) (w : World) (h1 : lvs n = true) (h3 : (a : Int) < n) (h5 : l ≤ dep n) :
    Calls Tryd.prog 12 #[.int .i64 n, .int .i64 (a : Int), .int .i64 (l : Int)] w fun e w' => e = .returned (.tuple #[.int .i64 ((bkt (dep n) a l : Nat) : Int), .bool true]) ∧ w = w' := by
  have hb := lvs_in h1
  obtain ⟨e, hd⟩ := dep_is h1
  have hD := rdepth_any n w (by omega)
  have hL := rleaves_any n w (by omega)
  rw [h1] at hL
  have HS := hide (bkt_small (k := dep n) (a := a) hd h5 (by omega))
  have HB : Hid (bkt (dep n) a l = 2 ^ l - 1 + a / 2 ^ (dep n - l)) := rfl
  generalize dep n = k at *
  obtain ⟨r, hr⟩ : ∃ r : Nat, k - l = r := ⟨_, rfl⟩
  have hkr : (k : Int) - (l : Int) = (r : Int) := by omega
  have hp := pow16 (show l ≤ 16 by omega)
  have hq : (a : Int) / 2 ^ r = ((a / 2 ^ r : Nat) : Int) := by rw [Int.natCast_ediv, Int.natCast_pow]; rfl
  have hc : (2 : Int) ^ l = ((2 ^ l : Nat) : Int) := (Int.natCast_pow 2 l).symm
  have ha2 : a / 2 ^ r ≤ a := Nat.div_le_self _ _
  have hu1 : IntKind.u64.wrap (l : Int) = (l : Int) := by rw [wrap_u64]; omega
  have hu2 : IntKind.u64.wrap (r : Int) = (r : Int) := by rw [wrap_u64]; omega
  rw [hr] at HB
  rw [HB.out] at HS ⊢
  clear hr e HB
  generalize (2 : Nat) ^ l = m at *
  generalize a / 2 ^ r = y at *
  go_enter Tryd.func12, Tryd.ntmps12
  go_wp2_with fail
  refine hD.mono ?_
  rintro e w1 ⟨rfl, rfl⟩
  go_wp2_with fail
  refine hL.mono ?_
  rintro e w1 ⟨rfl, rfl⟩
  go_wp2_with fail
  go_ret2
  exact ⟨by first | rfl | (congr 4; omega) | (simp; omega), rfl⟩

theorem rat_any (n a l : Int) (w : World) (hn : -9223372036854775808 ≤ n ∧ n ≤ 9223372036854775807) :
    Calls Tryd.prog 12 #[.int .i64 n, .int .i64 a, .int .i64 l] w fun e w' => e = .returned (.tuple #[.int .i64 (atN n a l), .bool (atB n a l)]) ∧ w = w' := by
  have hN : atN n a l = if atB n a l = true then ((bkt (dep n) a.toNat l.toNat : Nat) : Int) else 0 := rfl
  cases h : atB n a l with
  | false =>
    rw [h, if_neg (by decide)] at hN
    rw [hN]
    exact rat_no n a l w hn h
  | true =>
    rw [h, if_pos rfl] at hN
    rw [hN]
    simp only [atB, Bool.and_eq_true, decide_eq_true_eq, hasL_iff] at h
    obtain ⟨⟨⟨h1, h2, h3⟩, h4⟩, h5⟩ := h
    have := rat_yes n a.toNat l.toNat w h1 (by omega) (by omega)
    rwa [Int.toNat_of_nonneg h2, Int.toNat_of_nonneg h4] at this
#print axioms rdepth_any
#print axioms rat_any
end Go.Proofs.YtmaknnlccmfmpaaDoor
