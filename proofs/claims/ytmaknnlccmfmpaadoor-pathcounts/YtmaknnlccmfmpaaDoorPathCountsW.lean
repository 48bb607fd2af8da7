
/- The law PathCounts answers true for all numbers, in whatever order the counts come, wherever bits.deBruijn64tab reads as its text says; nothing that was there is turned. -/
import Derived.Test.YtmaknnlccmfmpaaDoorTrAwake
import Derived.Test.YtmaknnlccmfmpaaDoorTrMap
import Derived.Test.YtmaknnlccmfmpaaDoorTrCut
namespace Go.Proofs.YtmaknnlccmfmpaaDoor
open Go.RowKit Go.Maps
set_option maxRecDepth 20000

theorem law_int : Keyed Tryd.prog 3 := int_keyed Tryd.underlying3
theorem zero_int (w : World) : (zeroValue 3).run Tryd.prog w = .ok (.int .i64 0) w := by kernel_rfl
/-- What the calls of package path answer here: k levels, 2^k = p leaves, s below each bucket of level l; x and y part behind M levels. -/
structure CountC (k p l s x y M : Nat) : Prop where
  at_ : ∀ (i : Nat) w, i < p → Tab w → Calls Tryd.prog 7 #[.int .i64 (p : Int), .int .i64 (i : Int), .int .i64 (l : Int)] w fun e w' => e = .returned (.tuple #[.int .i64 ((2 ^ l - 1 + i / s : Nat) : Int), .bool true]) ∧ w = w'
  meet : ∀ w, Tab w → Calls Tryd.prog 8 #[.int .i64 (p : Int), .int .i64 (x : Int), .int .i64 (y : Int)] w fun e w' => e = .returned (.int .i64 (M : Int)) ∧ w = w'
  depth : ∀ w, Tab w → Calls Tryd.prog 9 #[.int .i64 (p : Int)] w fun e w' => e = .returned (.int .i64 (k : Int)) ∧ w = w'
  le : M ≤ k
  same : ∀ t, t < k → (x / 2 ^ (k - 1 - t) = y / 2 ^ (k - 1 - t) ↔ t < M)
theorem countC (k p l x y : Nat) (hp : 2 ^ k = p) (hk : k ≤ 16) (hl : l ≤ k) (hx : x < p) (hy : y < p) : ∃ M, CountC k p l (2 ^ (k - l)) x y M := by
  subst hp
  have hp := pow16 hk
  have hd := dep_pow k hk
  have hL := lvs_pow k hk
  have has : ∀ i : Nat, i < 2 ^ k → hasL ((2 ^ k : Nat) : Int) (i : Int) = true := fun i hi => (hasL_iff _ _).2 ⟨hL, by omega, by omega⟩
  have hX := xor_lt hx hy
  refine ⟨k - bl (x ^^^ y), ⟨fun i w hi hg => ?_, fun w hg => ?_, fun w hg => ?_, by omega, fun t ht => ?_⟩⟩
  · have h := at_any ((2 ^ k : Nat) : Int) (i : Int) (l : Int) w (by omega) hg
    have hB : atB ((2 ^ k : Nat) : Int) (i : Int) (l : Int) = true := by
      unfold atB
      rw [has i hi, hd, decide_eq_true (show (0 : Int) ≤ (l : Int) by omega), decide_eq_true (show (l : Int) ≤ (k : Int) by omega)]
      rfl
    have hN : atN ((2 ^ k : Nat) : Int) (i : Int) (l : Int) = ((bkt k i l : Nat) : Int) := by
      unfold atN
      rw [if_pos hB, hd, Int.toNat_natCast, Int.toNat_natCast]
    rw [hB, hN] at h
    exact h
  · have h := meet_any ((2 ^ k : Nat) : Int) (x : Int) (y : Int) w (by omega) hg
    have hM : meetN ((2 ^ k : Nat) : Int) (x : Int) (y : Int) = ((k - bl (x ^^^ y) : Nat) : Int) := by
      unfold meetN
      rw [has x hx, has y hy, if_pos (by rfl), hd, Int.toNat_natCast, Int.toNat_natCast]
      omega
    rwa [hM] at h
  · have h := depth_any ((2 ^ k : Nat) : Int) w (by omega) hg
    rwa [hd] at h
  · rw [same_iff, ← bl_le]
    omega
theorem wrap_small (k : Nat) (h : k < 1000) : IntKind.u64.wrap (k : Int) = (k : Int) := by rw [wrap_u64]; omega
/-- The level's first bucket, the leaves below each. -/
theorem level_facts (k l : Nat) (hk : k ≤ 7) (hl : l ≤ k) : 2 ^ k = 2 ^ l * 2 ^ (k - l) ∧ 1 ≤ 2 ^ l ∧ 2 ^ l ≤ 128 ∧ 1 ≤ 2 ^ (k - l) ∧ 2 ^ (k - l) ≤ 128 ∧ 1 ≤ 2 ^ k ∧ 2 ^ k ≤ 128 := by
  refine ⟨by rw [← Nat.pow_add, show l + (k - l) = k by omega], Nat.pow_pos (by decide), Nat.pow_le_pow_right (n := 2) (j := 7) (by decide) (by omega), Nat.pow_pos (by decide), Nat.pow_le_pow_right (n := 2) (j := 7) (by decide) (by omega), Nat.pow_pos (by decide), Nat.pow_le_pow_right (n := 2) (j := 7) (by decide) hk⟩

set_option maxRecDepth 100000 in
set_option maxHeartbeats 16000000 in
theorem pathCounts_walk (b0 l0 x0 y0 : Int) (w : World) (hg : Tab w) :
    Calls Tryd.prog 3 #[.int .i64 b0, .int .i64 l0, .int .i64 x0, .int .i64 y0] w fun e w' => e = .returned (.bool true) ∧ Below w.heap.size w w' := by
  have hlt := hg.lt
  have e1 := i64_and255 b0
  have e2 := i64_and255 l0
  obtain ⟨k, hk⟩ : ∃ k : Nat, b0 % 256 % 8 = (k : Int) := ⟨(b0 % 256 % 8).toNat, by omega⟩
  have hk7 : k ≤ 7 := by omega
  have hkd : (k : Int) + 1 ≠ 0 := by omega
  have hl1 := Int.emod_nonneg (l0 % 256) hkd
  have hl2 := Int.emod_lt_of_pos (l0 % 256) (show (0 : Int) < (k : Int) + 1 by omega)
  obtain ⟨l, hl⟩ : ∃ l : Nat, l0 % 256 % ((k : Int) + 1) = (l : Int) := ⟨(l0 % 256 % ((k : Int) + 1)).toNat, by omega⟩
  have hlk : l ≤ k := by omega
  have hlt2 : (l0 % 256).tmod ((k : Int) + 1) = (l : Int) := by rw [Int.tmod_eq_emod_of_nonneg (by omega)]; exact hl
  clear hl1 hl2
  have hpw := wrap_pow k (by omega)
  have hmw := wrap_pow l (by omega)
  have hu : IntKind.u64.wrap (k : Int) = (k : Int) := wrap_small k (by omega)
  have hul : IntKind.u64.wrap (l : Int) = (l : Int) := wrap_small l (by omega)
  obtain ⟨hps, hm1, hm2, hs1, hs2, hp1, hp2⟩ := level_facts k l hk7 hlk
  have hc2 : (2 : Int) ^ l = ((2 ^ l : Nat) : Int) := (Int.natCast_pow 2 l).symm
  have hsh : ((2 ^ k : Nat) : Int) / (2 : Int) ^ l = ((2 ^ (k - l) : Nat) : Int) := by
    rw [hc2, hps, ← Int.natCast_ediv, Nat.mul_div_cancel_left _ (by omega)]
  obtain ⟨p, hpe⟩ : ∃ p : Nat, 2 ^ k = p := ⟨_, rfl⟩
  obtain ⟨x, hx, hxp⟩ := cut_pow x0 k p hpe (by omega)
  obtain ⟨y, hy, hyp⟩ := cut_pow y0 k p hpe (by omega)
  obtain ⟨M, C⟩ := countC k p l x y hpe (by omega) hlk hxp hyp
  have hML := C.le
  have hat := C.at_
  generalize 2 ^ (k - l) = s at *
  rw [hpe] at hps hp1 hp2 hpw hsh
  generalize (2 : Nat) ^ l = m at *
  rw [hc2] at hsh
  clear hpe
  have hmm := @run_makeMap Tryd.prog
  go_enter Tryd.func3, Tryd.ntmps3
  go_wp2_with fail
  simp only [hk, hpw]
  have B0 := below_alloc (Below.refl w.heap.size w) (Obj.map #[] 0)
  go_loopw [11] (fun i wr => ∃ (j : Nat) (D : DataW Unit), j ≤ p ∧ i = .int .i64 (j : Int) ∧ wr.ownsMap Tryd.prog 3 (plainElem Tryd.prog 3) w.heap.size j D ∧ CntP (m - 1) s j D ∧ Below w.heap.size w wr) (fun i _ => p - (intOf i).toNat)
  case atStart => exact ⟨0, .map [], Nat.zero_le _, rfl, World.ownsMap_made _ _ _ _, CntP.start _ _ (by omega), B0⟩
  case round =>
    obtain ⟨j, D, hj, rfl, hown, hD, hB⟩ := hrel
    have hgr := hg.below hB hlt
    by_cases hjp : j < p
    · have hc := hat j wr hjp hgr
      have hnx := hide (hD.next (by omega))
      have hst := hide (hD.step (by omega))
      have hjs : j / s ≤ j := Nat.div_le_self _ _
      have hms : j % s ≤ j := Nat.mod_le _ _
      obtain ⟨q, hq⟩ : ∃ q : Nat, m - 1 + j / s = q := ⟨_, rfl⟩
      rw [hq] at hc hnx hst
      have hqb : q ≤ 300 := by omega
      obtain ⟨u, hu2⟩ : ∃ u : Nat, j % s = u := ⟨_, rfl⟩
      rw [hu2] at hnx hst hms
      have hkey : keyOf Tryd.prog 3 (.int .i64 (q : Int)) = some (.int .i64 (q : Int)) := keyOf_int_mk Tryd.underlying3 (WalkArith.wf_i64 (by omega))
      have hw1 : (Lit.int .i64 ((u : Int) + 1)).wf = true := WalkArith.wf_i64 (by omega)
      clear hq hu2 hjs hD hps hsh
      go_wp2_with fail
      refine hc.mono ?_
      rintro e w1 ⟨rfl, rfl⟩
      go_wp2_with (first
        | (at_lookup; refine wpList_lookup_own_int _ rfl _ _ 23 rfl 3 3 .i64 law_int Tryd.underlying23 Tryd.underlying3 (zero_int _) w.heap.size j _ rfl hown _ _ rfl hkey ?_; intro c hat2 hwc; (obtain rfl : c = (u : Int) := (Lit.int.inj (DataW.lit.inj (hat2.symm.trans hnx.out))).2))
        | (at_mapUpdate; refine wpList_mapUpdate_own _ rfl _ _ _ 23 rfl 3 3 law_int Tryd.underlying23 _ w.heap.size j _ rfl hown (by unfold maxLen; omega) _ _ _ rfl rfl hkey _ [] (plainElem_int Tryd.underlying3 hw1) ?_; intro w1 hown1 hgrow1))
      go_roundw
      case rel => exact ⟨j + 1, _, by omega, by go_num, hown1, hst.out, hB.grown hgrow1 hB.size (fun i hi => by cases hi; exact Nat.le_refl _)⟩
      case measure => simp [intOf]; omega
    · have hjp2 : j = p := by omega
      rw [hjp2] at hown hD
      clear hat hj
      rw [hps] at hD
      obtain ⟨hsz, hall⟩ := hD.all (by omega)
      have hnp : ¬ (j : Int) < (p : Int) := by omega
      have HA := hide hall
      have HSZ := hide hsz
      clear hall hsz hD hps hjp hjp2
      go_wp2_with (at_range; refine wpList_range_own _ rfl _ 23 rfl 3 3 law_int Tryd.underlying23 _ w.heap.size p D rfl hown ?_; intro w0 hrg0 hg0 hs0)
      have hB0 := hB.grown hg0 hB.size (fun i hi => by cases hi)
      have hr0 : w.heap.size ≤ wr.heap.size := hB.size
      obtain ⟨R, hR⟩ : ∃ R : Nat, wr.heap.size = R := ⟨_, rfl⟩
      rw [hR] at hrg0 hr0 ⊢
      clear hR hg0 hs0 hown hB hgr hnp
      go_loopw [15] (fun _ wv => ∃ (left : Lit → Bool) (cnt : Nat), wv.ranges Tryd.prog 3 (plainElem Tryd.prog 3) w.heap.size R p D left cnt ∧ (∀ z, left z = true → Maps.has D z = true) ∧ Below w.heap.size w wv) (fun _ wv => wv.rangeLeft w.heap.size R)
      case atStart => exact ⟨_, _, hrg0, fun _ h => h, hB0⟩
      case round =>
        obtain ⟨left, cnt, hrg, hlf, hBv⟩ := hrel
        have hgv := hg.below hBv hlt
        have HLF := hide hlf
        clear hlf hrg0 hB0
        go_wp2_with (at_next; refine wpList_next_ranges_ii _ rfl _ rfl 3 3 .i64 .i64 law_int Tryd.underlying3 Tryd.underlying3 w.heap.size R p _ _ _ rfl hrg ?_ ?_)
        · intro _ _
          have hown := hrg.owns
          clear hrg HLF hmm
          go_wp2_with fail
          go_loop [16] (fun v => ∃ t : Nat, t ≤ M ∧ v = .int .i64 (t : Int)) (fun v => M - (intOf v).toNat)
          case atStart => exact ⟨0, Nat.zero_le _, rfl⟩
          case round =>
            obtain ⟨t, ht, rfl⟩ := hrel
            by_cases htk : t < k
            · have hS := C.same t htk
              obtain ⟨r, hr⟩ : ∃ r : Nat, k - 1 - t = r := ⟨_, rfl⟩
              rw [hr] at hS
              have hkr : (k : Int) - 1 - (t : Int) = (r : Int) := by omega
              have hur := wrap_small r (by omega)
              have hX : (x : Int) / 2 ^ r = ((x / 2 ^ r : Nat) : Int) := by rw [Int.natCast_ediv, Int.natCast_pow]; rfl
              have hY : (y : Int) / 2 ^ r = ((y / 2 ^ r : Nat) : Int) := by rw [Int.natCast_ediv, Int.natCast_pow]; rfl
              have htk2 : (t : Int) < (k : Int) := by omega
              generalize x / 2 ^ r = A at *
              generalize y / 2 ^ r = A2 at *
              by_cases htM : t < M
              · obtain rfl : A = A2 := hS.2 htM
                clear hS hr
                go_wp2_with fail
                go_round
                case rel => exact ⟨t + 1, by omega, by go_num⟩
                case measure => simp [intOf]; omega
              · obtain rfl : t = M := by omega
                have hne : ¬ (A : Int) = (A2 : Int) := fun h => htM (hS.1 (by omega))
                clear hS hr
                go_wp2_with (at_len; refine wpList_len_own _ rfl _ 23 rfl 3 3 Tryd.underlying23 _ w.heap.size p D rfl hown ?_; rw [HSZ.out])
                refine (C.meet wr hgv).mono ?_
                rintro e w1 ⟨rfl, rfl⟩
                go_wp2_with fail
                refine (C.depth wr hgv).mono ?_
                rintro e w1 ⟨rfl, rfl⟩
                go_wp2_with fail
                refine (awake_any wr hgv).mono ?_
                rintro e w1 ⟨rfl, b1⟩
                go_wp2_with fail
                go_ret
                exact ⟨rfl, hBv.trans (b1.mono hBv.size)⟩
            · obtain rfl : t = M := by omega
              obtain rfl : t = k := by omega
              go_wp2_with (at_len; refine wpList_len_own _ rfl _ 23 rfl 3 3 Tryd.underlying23 _ w.heap.size p D rfl hown ?_; rw [HSZ.out])
              refine (C.meet wr hgv).mono ?_
              rintro e w1 ⟨rfl, rfl⟩
              go_wp2_with fail
              refine (C.depth wr hgv).mono ?_
              rintro e w1 ⟨rfl, rfl⟩
              go_wp2_with fail
              refine (awake_any wr hgv).mono ?_
              rintro e w1 ⟨rfl, b1⟩
              go_wp2_with fail
              go_ret
              exact ⟨rfl, hBv.trans (b1.mono hBv.size)⟩
        · intro z c w1 cnt1 hwx hwc hlx hat2 hrg1 hlt1 hg1 hs1 hen
          obtain ⟨hcs, hz1, hz2⟩ := HA.out z c (HLF.out _ hlx) hat2
          subst hcs
          have hz3 : ¬ z < (m : Int) - 1 := by omega
          have hz4 : ¬ 2 * (m : Int) - 2 < z := by omega
          have hB1 := hBv.grown hg1 hBv.size (fun i hi => by cases hi; exact hr0)
          go_wp2_with fail
          go_roundw
          case rel => exact ⟨_, cnt1, hrg1, fun z h => HLF.out z (by simp only [Bool.and_eq_true] at h; exact h.1), hB1⟩
          case measure => rw [hrg1.left_eq, hrg.left_eq]; exact hlt1
#print axioms pathCounts_walk
end Go.Proofs.YtmaknnlccmfmpaaDoor
