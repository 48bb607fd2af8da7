
/- The law PathTells answers true for all numbers, wherever bits.deBruijn64tab reads as its text says; nothing that was there is turned. -/
import Derived.Test.YtmaknnlccmfmpaaDoorTrAwake
namespace Go.Proofs.YtmaknnlccmfmpaaDoor
open Go.RowKit
set_option maxRecDepth 20000

set_option maxRecDepth 100000 in
set_option maxHeartbeats 8000000 in
theorem pathTells_walk (n0 a0 b0 l0 : Int) (w : World) (hn0 : -9223372036854775808 ≤ n0 ∧ n0 ≤ 9223372036854775807) (hg : Tab w) :
    Calls Tryd.prog 5 #[.int .i64 n0, .int .i64 a0, .int .i64 b0, .int .i64 l0] w fun e w' => e = .returned (.bool true) ∧ Below w.heap.size w w' := by
  have hlt := hg.lt
  go_enter Tryd.func5, Tryd.ntmps5
  go_wp2_with fail
  go_loopw [0, 1, 2, 3, 9] (fun vn va vb vl i wr => ∃ (j : Nat) (n a b l : Int), j ≤ 2 ∧ (-9223372036854775808 ≤ n ∧ n ≤ 9223372036854775807) ∧ vn = .int .i64 n ∧ va = .int .i64 a ∧ vb = .int .i64 b ∧ vl = .int .i64 l ∧ i = .int .i64 (j : Int) ∧ Below w.heap.size w wr) (fun _ _ _ _ i _ => 2 - (intOf i).toNat)
  case atStart => exact ⟨0, n0, a0, b0, l0, by omega, hn0, rfl, rfl, rfl, rfl, rfl, Below.refl _ _⟩
  case round =>
    obtain ⟨j, n, a, b, l, hj, hn, rfl, rfl, rfl, rfl, rfl, hB⟩ := hrel
    have hgr := hg.below hB hlt
    by_cases hj2 : j < 2
    · have c1 := at_any n a l wr hn hgr
      have c2 := rat_any n a l wr hn
      have c3 := depth_any n wr hn hgr
      have c4 := rdepth_any n wr hn
      have c5 := buckets_any n wr hn
      have c6 := rbuckets_any n wr hn
      have c7 := on_any n a wr hn hgr
      have c8 := fun w => ron_any n a w hn
      have c9 := fun w hg => meet_any n a b w hn hg
      have c10 := fun w => rmeet_any n a b w hn
      generalize atN n a l = x1 at *
      generalize atB n a l = x2 at *
      generalize dep n = x3 at *
      generalize cntB n = x4 at *
      generalize meetN n a b = x5 at *
      generalize wayL n a = x6 at *
      have e1 := i64_and255 n
      obtain ⟨q, hq⟩ : ∃ q : Nat, n % 256 % 17 = (q : Int) := ⟨(n % 256 % 17).toNat, by omega⟩
      have hq17 : q < 17 := by omega
      have hpw := wrap_pow q (by omega)
      have hp := pow16 (show q ≤ 16 by omega)
      generalize (2 : Nat) ^ q = p at *
      go_wp2_with fail
      refine c1.mono ?_
      rintro e w1 ⟨rfl, rfl⟩
      go_wp2_with fail
      refine c2.mono ?_
      rintro e w1 ⟨rfl, rfl⟩
      go_wp2_with fail
      refine c3.mono ?_
      rintro e w1 ⟨rfl, rfl⟩
      go_wp2_with fail
      refine c4.mono ?_
      rintro e w1 ⟨rfl, rfl⟩
      go_wp2_with fail
      refine c5.mono ?_
      rintro e w1 ⟨rfl, rfl⟩
      go_wp2_with fail
      refine c6.mono ?_
      rintro e w1 ⟨rfl, rfl⟩
      go_wp2_with fail
      refine c7.mono ?_
      rintro e w1 ⟨pa, la, ca, rfl, hx, b1⟩
      have B1 := hB.trans (b1.mono hB.size)
      go_wp2_with fail
      refine (c8 w1).mono ?_
      rintro e w2 ⟨pb, lb, cb, rfl, hy, b2⟩
      have hx2 := hx.below b2
      have B2 := B1.trans (b2.mono B1.size)
      clear hx b1 b2 B1 hB
      go_wp2_with fail
      refine (sameInts_any w2 hx2 hy).mono ?_
      rintro e w3 ⟨rfl, b3⟩
      have B3 := B2.trans (b3.mono B2.size)
      rw [decide_eq_true (rfl : x6 = x6)]
      clear b3 B2 hx2 hy
      have hg3 := hg.below B3 hlt
      go_wp2_with fail
      refine (c9 w3 hg3).mono ?_
      rintro e w4 ⟨rfl, rfl⟩
      go_wp2_with fail
      refine (c10 w3).mono ?_
      rintro e w4 ⟨rfl, b4⟩
      have B4 := B3.trans (b4.mono B3.size)
      clear c1 c2 c3 c4 c5 c6 c7 c8 c9 c10
      go_wp2_with fail
      go_roundw
      case rel => exact ⟨j + 1, (p : Int), _, _, _, by omega, by omega, by first | rfl | (rw [hpw]), rfl, rfl, rfl, by go_num, B4⟩
      case measure => simp [intOf]; omega
    · obtain rfl : j = 2 := by omega
      go_wp2_with fail
      refine (rleaves_any 2 wr (by decide)).mono ?_
      rintro e w1 ⟨rfl, rfl⟩
      rw [show lvs 2 = true by decide]
      go_wp2_with fail
      refine (awake_any wr hgr).mono ?_
      rintro e w1 ⟨rfl, b1⟩
      go_wp2_with fail
      go_ret
      exact ⟨rfl, hB.trans (b1.mono hB.size)⟩
#print axioms pathTells_walk
end Go.Proofs.YtmaknnlccmfmpaaDoor
