
/- What calls of package path answer, of all numbers, wherever bits.deBruijn64tab reads as its text says; nothing that was there is turned. -/
import Derived.Test.YtmaknnlccmfmpaaDoorTrBits
import Derived.Test.YtmaknnlccmfmpaaDoorLeaves
namespace Go.Proofs.YtmaknnlccmfmpaaDoor
open Go.RowKit
set_option maxRecDepth 20000

theorem tz_at (n : Int) (k : Nat) (e : n = ((2 ^ k : Nat) : Int)) (hk : k ≤ 16) (w : World) (hg : Tab w) :
    Calls Tryd.prog 24 #[.int .u64 n] w fun e w' => e = .returned (.int .i64 (k : Int)) ∧ w = w' := by
  subst e
  exact tz_any k hk w hg
theorem len_at (x : Int) (m : Nat) (e : x = (m : Int)) (hx : m < 65536) (w : World) :
    Calls Tryd.prog 22 #[.int .u64 x] w fun e w' => e = .returned (.int .i64 (bl m : Int)) ∧ w = w' := by
  subst e
  exact len_any m hx w
theorem lvs_in {n : Int} (h : lvs n = true) : 1 ≤ n ∧ n ≤ 65536 := by
  obtain ⟨k, hk, rfl⟩ := (lvs_iff n).1 h
  have := pow16 hk
  omega

theorem depth_any (n : Int) (w : World) (hn : -9223372036854775808 ≤ n ∧ n ≤ 9223372036854775807) (hg : Tab w) :
    Calls Tryd.prog 9 #[.int .i64 n] w fun e w' => e = .returned (.int .i64 (dep n : Int)) ∧ w = w' := by
  cases hl : lvs n with
  | false =>
    rw [dep_no n hl]
    go_enter Tryd.func9, Tryd.ntmps9
    go_wp2_with fail
    refine (leaves_any n w hn).mono ?_
    rintro e w1 ⟨rfl, rfl⟩
    rw [hl]
    go_wp2_with fail
    go_ret
    exact ⟨rfl, rfl⟩
  | true =>
    obtain ⟨e, hk⟩ := dep_is hl
    have hb := lvs_in hl
    have hu : IntKind.u64.wrap n = n := by rw [wrap_u64]; omega
    generalize dep n = k at *
    go_enter Tryd.func9, Tryd.ntmps9
    have E := hide e
    clear e
    go_wp2_with fail
    refine (leaves_any n w hn).mono ?_
    rintro e w1 ⟨rfl, rfl⟩
    rw [hl]
    go_wp2_with fail
    refine (tz_at n k E.out hk w hg).mono ?_
    rintro e w1 ⟨rfl, rfl⟩
    go_wp2_with fail
    go_ret
    exact ⟨rfl, rfl⟩

theorem buckets_any (n : Int) (w : World) (hn : -9223372036854775808 ≤ n ∧ n ≤ 9223372036854775807) :
    Calls Tryd.prog 14 #[.int .i64 n] w fun e w' => e = .returned (.int .i64 (cntB n)) ∧ w = w' := by
  cases hl : lvs n with
  | false =>
    rw [show cntB n = 0 by unfold cntB; rw [if_neg (by rw [hl]; decide)]]
    go_enter Tryd.func14, Tryd.ntmps14
    go_wp2_with fail
    refine (leaves_any n w hn).mono ?_
    rintro e w1 ⟨rfl, rfl⟩
    rw [hl]
    go_wp2_with fail
    go_ret
    exact ⟨rfl, rfl⟩
  | true =>
    rw [show cntB n = 2 * n - 1 by unfold cntB; rw [if_pos hl]]
    have hb := lvs_in hl
    go_enter Tryd.func14, Tryd.ntmps14
    go_wp2_with fail
    refine (leaves_any n w hn).mono ?_
    rintro e w1 ⟨rfl, rfl⟩
    rw [hl]
    go_wp2_with fail
    go_ret
    exact ⟨by first | rfl | (simp; omega), rfl⟩

theorem hasLeaf_any (n a : Int) (w : World) (hn : -9223372036854775808 ≤ n ∧ n ≤ 9223372036854775807) :
    Calls Tryd.prog 20 #[.int .i64 n, .int .i64 a] w fun e w' => e = .returned (.bool (hasL n a)) ∧ w = w' := by
  have H : Hid (hasL n a = (lvs n && decide (0 ≤ a) && decide (a < n))) := rfl
  go_enter Tryd.func20, Tryd.ntmps20
  go_wp2_with fail
  refine (leaves_any n w hn).mono ?_
  rintro e w1 ⟨rfl, rfl⟩
  cases hl : lvs n with
  | false =>
    rw [hl, Bool.false_and, Bool.false_and] at H
    go_wp2_with fail
    go_ret
    exact ⟨by rw [H.out]; rfl, rfl⟩
  | true =>
    rw [hl, Bool.true_and] at H
    by_cases h0 : 0 ≤ a
    · rw [decide_eq_true h0, Bool.true_and] at H
      go_wp2_with fail
      go_ret
      exact ⟨by rw [H.out]; rfl, rfl⟩
    · rw [decide_eq_false h0, Bool.false_and] at H
      go_wp2_with fail
      go_ret
      exact ⟨by rw [H.out]; rfl, rfl⟩

set_option maxRecDepth 100000 in
theorem bucket_any (n : Int) (a l : Nat) (w : World) (hl : lvs n = true) (ha : (a : Int) < n) (hk : l ≤ dep n) (hg : Tab w) :
    Calls Tryd.prog 21 #[.int .i64 n, .int .i64 (a : Int), .int .i64 (l : Int)] w fun e w' => e = .returned (.int .i64 ((bkt (dep n) a l : Nat) : Int)) ∧ w = w' := by
  have hb := lvs_in hl
  obtain ⟨e, hd⟩ := dep_is hl
  have hD := depth_any n w (by omega) hg
  have HS := hide (bkt_small (k := dep n) (a := a) hd hk (by omega))
  have HB : Hid (bkt (dep n) a l = 2 ^ l - 1 + a / 2 ^ (dep n - l)) := rfl
  generalize dep n = k at *
  obtain ⟨r, hr⟩ : ∃ r : Nat, k - l = r := ⟨_, rfl⟩
  have hkr : (k : Int) - (l : Int) = (r : Int) := by omega
  have hp := pow16 (show l ≤ 16 by omega)
  have hq : (a : Int) / 2 ^ r = ((a / 2 ^ r : Nat) : Int) := by rw [Int.natCast_ediv, Int.natCast_pow]; rfl
  have hc : (2 : Int) ^ l = ((2 ^ l : Nat) : Int) := (Int.natCast_pow 2 l).symm
  have ha2 : a / 2 ^ r ≤ a := Nat.div_le_self _ _
  rw [hr] at HB
  rw [HB.out] at HS ⊢
  clear hr e HB
  generalize (2 : Nat) ^ l = m at *
  generalize a / 2 ^ r = y at *
  go_enter Tryd.func21, Tryd.ntmps21
  go_wp2_with fail
  refine hD.mono ?_
  rintro e w1 ⟨rfl, rfl⟩
  go_wp2_with fail
  go_ret
  exact ⟨by first | rfl | (congr 2; omega) | (simp; omega), rfl⟩

theorem at_any (n a l : Int) (w : World) (hn : -9223372036854775808 ≤ n ∧ n ≤ 9223372036854775807) (hg : Tab w) :
    Calls Tryd.prog 7 #[.int .i64 n, .int .i64 a, .int .i64 l] w fun e w' => e = .returned (.tuple #[.int .i64 (atN n a l), .bool (atB n a l)]) ∧ w = w' := by
  have hB : atB n a l = (hasL n a && decide (0 ≤ l) && decide (l ≤ (dep n : Int))) := rfl
  have hN : atN n a l = if atB n a l = true then ((bkt (dep n) a.toNat l.toNat : Nat) : Int) else 0 := rfl
  have hd := depth_any n w hn hg
  cases hl : hasL n a with
  | false =>
    rw [hl, Bool.false_and, Bool.false_and] at hB
    rw [hB, if_neg (by decide)] at hN
    rw [hB, hN]
    go_enter Tryd.func7, Tryd.ntmps7
    go_wp2_with fail
    refine (hasLeaf_any n a w hn).mono ?_
    rintro e w1 ⟨rfl, rfl⟩
    rw [hl]
    go_wp2_with fail
    go_ret2
    exact ⟨rfl, rfl⟩
  | true =>
    rw [hl, Bool.true_and] at hB
    obtain ⟨h1, h2, h3⟩ := (hasL_iff n a).1 hl
    by_cases h0 : 0 ≤ l
    · rw [decide_eq_true h0, Bool.true_and] at hB
      by_cases hk : l ≤ (dep n : Int)
      · rw [decide_eq_true hk] at hB
        rw [hB, if_pos rfl] at hN
        have hc := bucket_any n a.toNat l.toNat w h1 (by omega) (by omega) hg
        rw [hB, hN]
        rw [Int.toNat_of_nonneg h2, Int.toNat_of_nonneg h0] at hc
        generalize bkt (dep n) a.toNat l.toNat = y at *
        generalize dep n = k at *
        go_enter Tryd.func7, Tryd.ntmps7
        clear hN
        go_wp2_with fail
        refine (hasLeaf_any n a w hn).mono ?_
        rintro e w1 ⟨rfl, rfl⟩
        rw [hl]
        go_wp2_with fail
        refine hd.mono ?_
        rintro e w1 ⟨rfl, rfl⟩
        go_wp2_with fail
        refine hc.mono ?_
        rintro e w1 ⟨rfl, rfl⟩
        go_wp2_with fail
        go_ret2
        exact ⟨rfl, rfl⟩
      · rw [decide_eq_false hk] at hB
        rw [hB, if_neg (by decide)] at hN
        rw [hB, hN]
        generalize dep n = k at *
        go_enter Tryd.func7, Tryd.ntmps7
        go_wp2_with fail
        refine (hasLeaf_any n a w hn).mono ?_
        rintro e w1 ⟨rfl, rfl⟩
        rw [hl]
        go_wp2_with fail
        refine hd.mono ?_
        rintro e w1 ⟨rfl, rfl⟩
        go_wp2_with fail
        go_ret2
        exact ⟨rfl, rfl⟩
    · rw [decide_eq_false h0, Bool.false_and] at hB
      rw [hB, if_neg (by decide)] at hN
      rw [hB, hN]
      go_enter Tryd.func7, Tryd.ntmps7
      go_wp2_with fail
      refine (hasLeaf_any n a w hn).mono ?_
      rintro e w1 ⟨rfl, rfl⟩
      rw [hl]
      go_wp2_with fail
      go_ret2
      exact ⟨rfl, rfl⟩

theorem meet_any (n a b : Int) (w : World) (hn : -9223372036854775808 ≤ n ∧ n ≤ 9223372036854775807) (hg : Tab w) :
    Calls Tryd.prog 8 #[.int .i64 n, .int .i64 a, .int .i64 b] w fun e w' => e = .returned (.int .i64 (meetN n a b)) ∧ w = w' := by
  have hM : meetN n a b = if (hasL n a && hasL n b) = true then (dep n : Int) - (bl (a.toNat ^^^ b.toNat) : Int) else -1 := rfl
  have hd := depth_any n w hn hg
  have ca := hasLeaf_any n a w hn
  have cb := hasLeaf_any n b w hn
  cases hl : hasL n a with
  | false =>
    rw [hl, Bool.false_and, if_neg (by decide)] at hM
    rw [hl] at ca
    rw [hM]
    go_enter Tryd.func8, Tryd.ntmps8
    go_wp2_with fail
    refine ca.mono ?_
    rintro e w1 ⟨rfl, rfl⟩
    go_wp2_with fail
    go_ret
    exact ⟨rfl, rfl⟩
  | true =>
    rw [hl] at ca
    cases hr : hasL n b with
    | false =>
      rw [hr, Bool.and_false, if_neg (by decide)] at hM
      rw [hr] at cb
      rw [hM]
      go_enter Tryd.func8, Tryd.ntmps8
      go_wp2_with fail
      refine ca.mono ?_
      rintro e w1 ⟨rfl, rfl⟩
      go_wp2_with fail
      refine cb.mono ?_
      rintro e w1 ⟨rfl, rfl⟩
      go_wp2_with fail
      go_ret
      exact ⟨rfl, rfl⟩
    | true =>
      rw [hl, hr, Bool.true_and, if_pos rfl] at hM
      rw [hr] at cb
      obtain ⟨h1, h2, h3⟩ := (hasL_iff n a).1 hl
      obtain ⟨_, h5, h6⟩ := (hasL_iff n b).1 hr
      have hb := lvs_in h1
      obtain ⟨x, rfl⟩ := Int.eq_ofNat_of_zero_le h2
      obtain ⟨y, rfl⟩ := Int.eq_ofNat_of_zero_le h5
      rw [Int.toNat_natCast, Int.toNat_natCast] at hM
      have hX := i64_xor_nat x y (by omega) (by omega)
      have hm : x ^^^ y < 65536 := Nat.xor_lt_two_pow (n := 16) (by omega) (by omega)
      have hbl := bl_small (x ^^^ y) 16 hm
      have hdl := dep_le n
      obtain ⟨m, hme⟩ : ∃ m : Nat, x ^^^ y = m := ⟨_, rfl⟩
      rw [hme] at hX hm hbl hM
      rw [hM]
      have hc := len_any m hm w
      obtain ⟨z, hz⟩ : ∃ z : Int, z = (m : Int) := ⟨_, rfl⟩
      rw [← hz] at hX hc
      have hu : IntKind.u64.wrap z = z := by rw [wrap_u64]; omega
      generalize dep n = k at *
      generalize bl m = q at *
      clear hm hme hz hM
      go_enter Tryd.func8, Tryd.ntmps8
      go_wp2_with fail
      refine ca.mono ?_
      rintro e w1 ⟨rfl, rfl⟩
      go_wp2_with fail
      refine cb.mono ?_
      rintro e w1 ⟨rfl, rfl⟩
      go_wp2_with fail
      refine hd.mono ?_
      rintro e w1 ⟨rfl, rfl⟩
      go_wp2_with fail
      refine hc.mono ?_
      rintro e w1 ⟨rfl, rfl⟩
      go_wp2_with fail
      go_ret
      exact ⟨by first | rfl | (congr 2; omega) | (simp; omega), rfl⟩
#print axioms at_any
#print axioms meet_any
end Go.Proofs.YtmaknnlccmfmpaaDoor
