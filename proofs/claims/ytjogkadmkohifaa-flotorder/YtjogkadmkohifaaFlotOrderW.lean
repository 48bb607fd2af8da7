/- A call of the law FlotOrder answers true and turns nothing that was there: for every three numbers below 2^64. -/
import Derived.Test.YtjogkadmkohifaaFAwake
import Derived.Test.YtjogkadmkohifaaFNum
import Derived.Test.YtjogkadmkohifaaRel
namespace Go.Proofs.Ytjogkadmkohifaa
open Go.RowKit

theorem one_one (x : Nat) : one (one x) = one x := by
  cases h : nanB x
  · rw [one_num h, one_num h]
  · rw [one_nan h]; rfl

/-- Ranks tell numbers apart. -/
theorem rank_inj {x y : Nat} (hx : x < 18446744073709551616) (hy : y < 18446744073709551616) (ox : one x = x) (oy : one y = y) (h : rankN x = rankN y) : x = y := by
  unfold rankN at h
  rw [ox, oy] at h
  split at h <;> split at h <;> omega

theorem ofB_putL8 (n : Nat) (h : n < 18446744073709551616) : ofB (putL (n : Int) 8) = one n := by
  unfold ofB
  rw [if_pos (length_putL _ _), leNum_all _ (by omega) (by omega)]; rfl

set_option maxHeartbeats 4000000 in
theorem flotOrder_go (n m k : Nat) (w : World) (hn : n < 18446744073709551616) (hm : m < 18446744073709551616) (hk : k < 18446744073709551616) :
    Calls Try.prog 8 #[.int .u64 (n : Int), .int .u64 (m : Int), .int .u64 (k : Int)] w fun e w' => e = .returned (.bool true) ∧ Below w.heap.size w w' := by
  go_enter Try.func8, Try.ntmps8
  go_wp2_with fail
  refine (number_any n w hn).mono ?_
  rintro e w' ⟨⟨x', hx', rfl⟩, rfl⟩
  go_wp2_with fail
  refine (one_any x' w hx').mono ?_
  rintro e w' ⟨rfl, rfl⟩
  have hx := one_lt hx'
  have ox := hide (one_one x')
  generalize one x' = x at *
  clear hx'
  go_wp2_with fail
  refine (number_any m w hm).mono ?_
  rintro e w' ⟨⟨x', hx', rfl⟩, rfl⟩
  go_wp2_with fail
  refine (one_any x' w hx').mono ?_
  rintro e w' ⟨rfl, rfl⟩
  have hy := one_lt hx'
  have oy := hide (one_one x')
  generalize one x' = y at *
  clear hx'
  go_wp2_with fail
  refine (number_any k w hk).mono ?_
  rintro e w' ⟨⟨x', hx', rfl⟩, rfl⟩
  go_wp2_with fail
  refine (one_any x' w hx').mono ?_
  rintro e w' ⟨rfl, rfl⟩
  have hz := one_lt hx'
  generalize one x' = z at *
  clear hx'
  go_wp2_with fail
  refine (less_any x y w hx hy).mono ?_
  rintro e w' ⟨rfl, rfl⟩
  go_wp2_with fail
  refine (less_any y x w hy hx).mono ?_
  rintro e w' ⟨rfl, rfl⟩
  have hxx : Hid (lessB x x = false) := by show lessB x x = false; unfold lessB; rw [decide_eq_false_iff_not]; omega
  rcases Nat.lt_trichotomy (rankN x) (rankN y) with h | h | h
  · have h1 := hide (show lessB x y = true from decide_eq_true h)
    have h2 := hide (show lessB y x = false from decide_eq_false (by omega))
    by_cases hz' : rankN y < rankN z
    · have h3 := hide (show lessB y z = true from decide_eq_true hz')
      have h4 := hide (show lessB x z = true from decide_eq_true (by omega))
      rw [h1.out, h2.out]
      go_wp2_with fail
      refine (less_any x x w hx hx).mono ?_
      rintro e w' ⟨rfl, rfl⟩
      rw [hxx.out]
      go_wp2_with fail
      refine (less_any x y w hx hy).mono ?_
      rintro e w' ⟨rfl, rfl⟩
      rw [h1.out]
      go_wp2_with fail
      refine (less_any y z w hy hz).mono ?_
      rintro e w' ⟨rfl, rfl⟩
      rw [h3.out]
      go_wp2_with fail
      refine (less_any x z w hx hz).mono ?_
      rintro e w' ⟨rfl, rfl⟩
      rw [h4.out]
      go_wp2_with fail
      clear h h1 h2 h3 h4 hz'
      clear hxx
      obtain ⟨ad, had⟩ : ∃ ad, Hid (addB x y = ad) := ⟨_, rfl⟩
      have had' : Hid (addB y x = ad) := by show addB y x = ad; rw [addB_comm]; exact had.out
      obtain ⟨S, hS⟩ : ∃ S, Hid (strOfNums (putL (x : Int) 8) = S) := ⟨_, rfl⟩
      have hof : Hid (ofB (putL (x : Int) 8) = x) := by show ofB (putL (x : Int) 8) = x; rw [ofB_putL8 x hx]; exact ox.out
      refine wp_region_rel Kept [0, 1, 3, 4, 2, 5, 6, 7, 8, 13, 9, 10, 11, 12, 14, 15, 16, 17, 18, 19, 22, 20, 21, 23, 24, 25, 26, 27, 28] (by kernel_rfl) (by kernel_rfl) (by kernel_rfl) Kept.refl Kept.trans ?_
      have hB0 : Hid (Below w.heap.size w w.drew) := hide ⟨rfl, rfl, rfl, Nat.le_refl _, fun _ _ => rfl⟩
      generalize w.drew = w0 at *
      repeat' (first
        | (refine wpRel_quiet (v := ?_) rfl rfl (fun _ _ _ h => h) (by rfl) ?_ ?_
           rotate_left
           · (intro w' hR; go_simp; try rfl)
           simp only [Act.put, List.setIfInBounds_toArray, List.set_cons_zero, List.set_cons_succ]))
      refine wpRel_step rfl rfl (by rfl) (fun K' hK => ?_)
      go_simp
      refine (add_any x y w0).mono ?_
      rintro e w1 ⟨rfl, _, hb1⟩
      rw [had.out]
      refine hK.out _ _ hb1 ?_
      clear hK K'
      try simp only [Act.put, List.setIfInBounds_toArray, List.set_cons_zero, List.set_cons_succ]
      have hB1 := hide (hB0.out.trans (hb1.mono hB0.out.size))
      clear hb1 hB0
      repeat' (first
        | (refine wpRel_quiet (v := ?_) rfl rfl (fun _ _ _ h => h) (by rfl) ?_ ?_
           rotate_left
           · (intro w' hR; go_simp; try rfl)
           simp only [Act.put, List.setIfInBounds_toArray, List.set_cons_zero, List.set_cons_succ]))
      refine wpRel_step rfl rfl (by rfl) (fun K' hK => ?_)
      go_simp
      refine (add_any y x w1).mono ?_
      rintro e w2 ⟨rfl, _, hb2⟩
      rw [had'.out]
      refine hK.out _ _ hb2 ?_
      clear hK K'
      try simp only [Act.put, List.setIfInBounds_toArray, List.set_cons_zero, List.set_cons_succ]
      have hB2 := hide (hB1.out.trans (hb2.mono hB1.out.size))
      clear hb2 hB1 had had'
      repeat' (first
        | (refine wpRel_quiet (v := ?_) rfl rfl (fun _ _ _ h => h) (by rfl) ?_ ?_
           rotate_left
           · (intro w' hR; go_simp; try rfl)
           simp only [Act.put, List.setIfInBounds_toArray, List.set_cons_zero, List.set_cons_succ]))
      refine wpRel_step rfl rfl (by rfl) (fun K' hK => ?_)
      go_simp
      refine (alike_any ad ad w2).mono ?_
      rintro e w' ⟨rfl, rfl⟩
      rw [decide_eq_true rfl]
      refine hK.out _ _ (Kept.refl _) ?_
      clear hK K'
      try simp only [Act.put, List.setIfInBounds_toArray, List.set_cons_zero, List.set_cons_succ]
      repeat' (first
        | (refine wpRel_quiet (v := ?_) rfl rfl (fun _ _ _ h => h) (by rfl) ?_ ?_
           rotate_left
           · (intro w' hR; go_simp; try rfl)
           simp only [Act.put, List.setIfInBounds_toArray, List.set_cons_zero, List.set_cons_succ]))
      refine wpRel_step rfl rfl (by rfl) (fun K' hK => ?_)
      go_simp
      refine (bytes_any x w2 hx).mono ?_
      rintro e w3 ⟨rfl, ho3, hb3⟩
      rw [ox.out] at ho3
      refine hK.out _ _ hb3 ?_
      clear hK K'
      try simp only [Act.put, List.setIfInBounds_toArray, List.set_cons_zero, List.set_cons_succ]
      have hs3 := hide (ho3.bs (putL_bytes _ _) 8 (length_putL _ _) (by omega))
      have hB3 := hide (hB2.out.trans (hb3.mono hB2.out.size))
      clear ho3 hb3 hB2
      generalize w2.heap.size = g2 at *
      repeat' (first
        | (refine wpRel_quiet (v := ?_) rfl rfl (fun _ _ _ h => h) (by rfl) ?_ ?_
           rotate_left
           · (intro w' hR; go_simp; try rfl)
           simp only [Act.put, List.setIfInBounds_toArray, List.set_cons_zero, List.set_cons_succ]))
      refine wpRel_step rfl rfl (by rfl) (fun K' hK => ?_)
      go_simp
      refine (of_any w3 hs3.out).mono ?_
      rintro e w' ⟨rfl, rfl⟩
      rw [hof.out]
      refine hK.out _ _ (Kept.refl _) ?_
      clear hK K'
      try simp only [Act.put, List.setIfInBounds_toArray, List.set_cons_zero, List.set_cons_succ]
      clear hs3
      repeat' (first
        | (refine wpRel_quiet (v := ?_) rfl rfl (fun _ _ _ h => h) (by rfl) ?_ ?_
           rotate_left
           · (intro w' hR; go_simp; try rfl)
           simp only [Act.put, List.setIfInBounds_toArray, List.set_cons_zero, List.set_cons_succ]))
      refine wpRel_step rfl rfl (by rfl) (fun K' hK => ?_)
      go_simp
      refine (bytes_any x w3 hx).mono ?_
      rintro e w4 ⟨rfl, ho4, hb4⟩
      rw [ox.out] at ho4
      refine hK.out _ _ hb4 ?_
      clear hK K'
      try simp only [Act.put, List.setIfInBounds_toArray, List.set_cons_zero, List.set_cons_succ]
      have hs4 := hide (ho4.bs (putL_bytes _ _) 8 (length_putL _ _) (by omega))
      have hB4 := hide (hB3.out.trans (hb4.mono hB3.out.size))
      clear ho4 hb4 hB3
      generalize w3.heap.size = g3 at *
      repeat' (first
        | (refine wpRel_quiet (v := ?_) rfl rfl (fun _ _ _ h => h) (by rfl) ?_ ?_
           rotate_left
           · (intro w' hR; have s1 := str_bytes (hs4.out.below hR); rw [hS.out] at s1; go_simp; try rfl)
           simp only [Act.put, List.setIfInBounds_toArray, List.set_cons_zero, List.set_cons_succ]))
      clear hs4
      refine wpRel_step rfl rfl (by rfl) (fun K' hK => ?_)
      go_simp
      refine (bytes_any x w4 hx).mono ?_
      rintro e w5 ⟨rfl, ho5, hb5⟩
      rw [ox.out] at ho5
      refine hK.out _ _ hb5 ?_
      clear hK K'
      try simp only [Act.put, List.setIfInBounds_toArray, List.set_cons_zero, List.set_cons_succ]
      have hs5 := hide (ho5.bs (putL_bytes _ _) 8 (length_putL _ _) (by omega))
      have hB5 := hide (hB4.out.trans (hb5.mono hB4.out.size))
      clear ho5 hb5 hB4
      generalize w4.heap.size = g4 at *
      repeat' (first
        | (refine wpRel_quiet (v := ?_) rfl rfl (fun _ _ _ h => h) (by rfl) ?_ ?_
           rotate_left
           · (intro w' hR; have s1 := str_bytes (hs5.out.below hR); rw [hS.out] at s1; go_simp; try rfl)
           simp only [Act.put, List.setIfInBounds_toArray, List.set_cons_zero, List.set_cons_succ]))
      clear hs5 hS
      refine wpRel_step rfl rfl (by rfl) (fun K' hK => ?_)
      go_simp
      refine (bytes_any x w5 hx).mono ?_
      rintro e w6 ⟨rfl, ho6, hb6⟩
      rw [ox.out] at ho6
      refine hK.out _ _ hb6 ?_
      clear hK K'
      try simp only [Act.put, List.setIfInBounds_toArray, List.set_cons_zero, List.set_cons_succ]
      have hs6 := hide (ho6.bs (putL_bytes _ _) 8 (length_putL _ _) (by omega))
      have hB6 := hide (hB5.out.trans (hb6.mono hB5.out.size))
      clear ho6 hb6 hB5
      generalize w5.heap.size = g5 at *
      repeat' (first
        | (refine wpRel_quiet (v := ?_) rfl rfl (fun _ _ _ h => h) (by rfl) ?_ ?_
           rotate_left
           · (intro w' hR; go_simp; try rfl)
           simp only [Act.put, List.setIfInBounds_toArray, List.set_cons_zero, List.set_cons_succ]))
      refine wpRel_step rfl rfl (by rfl) (fun K' hK => ?_)
      go_simp
      refine (of_any w6 hs6.out).mono ?_
      rintro e w' ⟨rfl, rfl⟩
      rw [hof.out]
      refine hK.out _ _ (Kept.refl _) ?_
      clear hK K'
      try simp only [Act.put, List.setIfInBounds_toArray, List.set_cons_zero, List.set_cons_succ]
      clear hs6 hof
      repeat' (first
        | (refine wpRel_quiet (v := ?_) rfl rfl (fun _ _ _ h => h) (by rfl) ?_ ?_
           rotate_left
           · (intro w' hR; go_simp; try rfl)
           simp only [Act.put, List.setIfInBounds_toArray, List.set_cons_zero, List.set_cons_succ]))
      refine wpRel_step rfl rfl (by rfl) (fun K' hK => ?_)
      go_simp
      refine (alike_any x x w6).mono ?_
      rintro e w' ⟨rfl, rfl⟩
      rw [decide_eq_true rfl]
      refine hK.out _ _ (Kept.refl _) ?_
      clear hK K'
      try simp only [Act.put, List.setIfInBounds_toArray, List.set_cons_zero, List.set_cons_succ]
      repeat' (first
        | (refine wpRel_quiet (v := ?_) rfl rfl (fun _ _ _ h => h) (by rfl) ?_ ?_
           rotate_left
           · (intro w' hR; go_simp; try rfl)
           simp only [Act.put, List.setIfInBounds_toArray, List.set_cons_zero, List.set_cons_succ]))
      refine wpRel_step rfl rfl (by rfl) (fun K' hK => ?_)
      go_simp
      refine (awake_any w6).mono ?_
      rintro e w7 ⟨rfl, hb7⟩
      refine hK.out _ _ hb7 ?_
      clear hK K'
      try simp only [Act.put, List.setIfInBounds_toArray, List.set_cons_zero, List.set_cons_succ]
      have hB7 := hB6.out.trans (hb7.mono hB6.out.size)
      repeat' (first
        | (refine wpRel_quiet (v := ?_) rfl rfl (fun _ _ _ h => h) (by rfl) ?_ ?_
           rotate_left
           · (intro w' hR; go_simp; try rfl)
           simp only [Act.put, List.setIfInBounds_toArray, List.set_cons_zero, List.set_cons_succ]))
      refine wpRel_nil ?_
      go_wp2_with fail
      go_ret
      exact ⟨rfl, hB7⟩
    · have h3 := hide (show lessB y z = false from decide_eq_false hz')
      rw [h1.out, h2.out]
      go_wp2_with fail
      refine (less_any x x w hx hx).mono ?_
      rintro e w' ⟨rfl, rfl⟩
      rw [hxx.out]
      go_wp2_with fail
      refine (less_any x y w hx hy).mono ?_
      rintro e w' ⟨rfl, rfl⟩
      rw [h1.out]
      go_wp2_with fail
      refine (less_any y z w hy hz).mono ?_
      rintro e w' ⟨rfl, rfl⟩
      rw [h3.out]
      go_wp2_with fail
      clear h h1 h2 h3 hz'
      clear hxx
      obtain ⟨ad, had⟩ : ∃ ad, Hid (addB x y = ad) := ⟨_, rfl⟩
      have had' : Hid (addB y x = ad) := by show addB y x = ad; rw [addB_comm]; exact had.out
      obtain ⟨S, hS⟩ : ∃ S, Hid (strOfNums (putL (x : Int) 8) = S) := ⟨_, rfl⟩
      have hof : Hid (ofB (putL (x : Int) 8) = x) := by show ofB (putL (x : Int) 8) = x; rw [ofB_putL8 x hx]; exact ox.out
      refine wp_region_rel Kept [0, 1, 3, 4, 2, 5, 6, 7, 8, 13, 9, 10, 11, 12, 14, 15, 16, 17, 18, 19, 22, 20, 21, 23, 24, 25, 26, 27, 28] (by kernel_rfl) (by kernel_rfl) (by kernel_rfl) Kept.refl Kept.trans ?_
      have hB0 : Hid (Below w.heap.size w w.drew) := hide ⟨rfl, rfl, rfl, Nat.le_refl _, fun _ _ => rfl⟩
      generalize w.drew = w0 at *
      repeat' (first
        | (refine wpRel_quiet (v := ?_) rfl rfl (fun _ _ _ h => h) (by rfl) ?_ ?_
           rotate_left
           · (intro w' hR; go_simp; try rfl)
           simp only [Act.put, List.setIfInBounds_toArray, List.set_cons_zero, List.set_cons_succ]))
      refine wpRel_step rfl rfl (by rfl) (fun K' hK => ?_)
      go_simp
      refine (add_any x y w0).mono ?_
      rintro e w1 ⟨rfl, _, hb1⟩
      rw [had.out]
      refine hK.out _ _ hb1 ?_
      clear hK K'
      try simp only [Act.put, List.setIfInBounds_toArray, List.set_cons_zero, List.set_cons_succ]
      have hB1 := hide (hB0.out.trans (hb1.mono hB0.out.size))
      clear hb1 hB0
      repeat' (first
        | (refine wpRel_quiet (v := ?_) rfl rfl (fun _ _ _ h => h) (by rfl) ?_ ?_
           rotate_left
           · (intro w' hR; go_simp; try rfl)
           simp only [Act.put, List.setIfInBounds_toArray, List.set_cons_zero, List.set_cons_succ]))
      refine wpRel_step rfl rfl (by rfl) (fun K' hK => ?_)
      go_simp
      refine (add_any y x w1).mono ?_
      rintro e w2 ⟨rfl, _, hb2⟩
      rw [had'.out]
      refine hK.out _ _ hb2 ?_
      clear hK K'
      try simp only [Act.put, List.setIfInBounds_toArray, List.set_cons_zero, List.set_cons_succ]
      have hB2 := hide (hB1.out.trans (hb2.mono hB1.out.size))
      clear hb2 hB1 had had'
      repeat' (first
        | (refine wpRel_quiet (v := ?_) rfl rfl (fun _ _ _ h => h) (by rfl) ?_ ?_
           rotate_left
           · (intro w' hR; go_simp; try rfl)
           simp only [Act.put, List.setIfInBounds_toArray, List.set_cons_zero, List.set_cons_succ]))
      refine wpRel_step rfl rfl (by rfl) (fun K' hK => ?_)
      go_simp
      refine (alike_any ad ad w2).mono ?_
      rintro e w' ⟨rfl, rfl⟩
      rw [decide_eq_true rfl]
      refine hK.out _ _ (Kept.refl _) ?_
      clear hK K'
      try simp only [Act.put, List.setIfInBounds_toArray, List.set_cons_zero, List.set_cons_succ]
      repeat' (first
        | (refine wpRel_quiet (v := ?_) rfl rfl (fun _ _ _ h => h) (by rfl) ?_ ?_
           rotate_left
           · (intro w' hR; go_simp; try rfl)
           simp only [Act.put, List.setIfInBounds_toArray, List.set_cons_zero, List.set_cons_succ]))
      refine wpRel_step rfl rfl (by rfl) (fun K' hK => ?_)
      go_simp
      refine (bytes_any x w2 hx).mono ?_
      rintro e w3 ⟨rfl, ho3, hb3⟩
      rw [ox.out] at ho3
      refine hK.out _ _ hb3 ?_
      clear hK K'
      try simp only [Act.put, List.setIfInBounds_toArray, List.set_cons_zero, List.set_cons_succ]
      have hs3 := hide (ho3.bs (putL_bytes _ _) 8 (length_putL _ _) (by omega))
      have hB3 := hide (hB2.out.trans (hb3.mono hB2.out.size))
      clear ho3 hb3 hB2
      generalize w2.heap.size = g2 at *
      repeat' (first
        | (refine wpRel_quiet (v := ?_) rfl rfl (fun _ _ _ h => h) (by rfl) ?_ ?_
           rotate_left
           · (intro w' hR; go_simp; try rfl)
           simp only [Act.put, List.setIfInBounds_toArray, List.set_cons_zero, List.set_cons_succ]))
      refine wpRel_step rfl rfl (by rfl) (fun K' hK => ?_)
      go_simp
      refine (of_any w3 hs3.out).mono ?_
      rintro e w' ⟨rfl, rfl⟩
      rw [hof.out]
      refine hK.out _ _ (Kept.refl _) ?_
      clear hK K'
      try simp only [Act.put, List.setIfInBounds_toArray, List.set_cons_zero, List.set_cons_succ]
      clear hs3
      repeat' (first
        | (refine wpRel_quiet (v := ?_) rfl rfl (fun _ _ _ h => h) (by rfl) ?_ ?_
           rotate_left
           · (intro w' hR; go_simp; try rfl)
           simp only [Act.put, List.setIfInBounds_toArray, List.set_cons_zero, List.set_cons_succ]))
      refine wpRel_step rfl rfl (by rfl) (fun K' hK => ?_)
      go_simp
      refine (bytes_any x w3 hx).mono ?_
      rintro e w4 ⟨rfl, ho4, hb4⟩
      rw [ox.out] at ho4
      refine hK.out _ _ hb4 ?_
      clear hK K'
      try simp only [Act.put, List.setIfInBounds_toArray, List.set_cons_zero, List.set_cons_succ]
      have hs4 := hide (ho4.bs (putL_bytes _ _) 8 (length_putL _ _) (by omega))
      have hB4 := hide (hB3.out.trans (hb4.mono hB3.out.size))
      clear ho4 hb4 hB3
      generalize w3.heap.size = g3 at *
      repeat' (first
        | (refine wpRel_quiet (v := ?_) rfl rfl (fun _ _ _ h => h) (by rfl) ?_ ?_
           rotate_left
           · (intro w' hR; have s1 := str_bytes (hs4.out.below hR); rw [hS.out] at s1; go_simp; try rfl)
           simp only [Act.put, List.setIfInBounds_toArray, List.set_cons_zero, List.set_cons_succ]))
      clear hs4
      refine wpRel_step rfl rfl (by rfl) (fun K' hK => ?_)
      go_simp
      refine (bytes_any x w4 hx).mono ?_
      rintro e w5 ⟨rfl, ho5, hb5⟩
      rw [ox.out] at ho5
      refine hK.out _ _ hb5 ?_
      clear hK K'
      try simp only [Act.put, List.setIfInBounds_toArray, List.set_cons_zero, List.set_cons_succ]
      have hs5 := hide (ho5.bs (putL_bytes _ _) 8 (length_putL _ _) (by omega))
      have hB5 := hide (hB4.out.trans (hb5.mono hB4.out.size))
      clear ho5 hb5 hB4
      generalize w4.heap.size = g4 at *
      repeat' (first
        | (refine wpRel_quiet (v := ?_) rfl rfl (fun _ _ _ h => h) (by rfl) ?_ ?_
           rotate_left
           · (intro w' hR; have s1 := str_bytes (hs5.out.below hR); rw [hS.out] at s1; go_simp; try rfl)
           simp only [Act.put, List.setIfInBounds_toArray, List.set_cons_zero, List.set_cons_succ]))
      clear hs5 hS
      refine wpRel_step rfl rfl (by rfl) (fun K' hK => ?_)
      go_simp
      refine (bytes_any x w5 hx).mono ?_
      rintro e w6 ⟨rfl, ho6, hb6⟩
      rw [ox.out] at ho6
      refine hK.out _ _ hb6 ?_
      clear hK K'
      try simp only [Act.put, List.setIfInBounds_toArray, List.set_cons_zero, List.set_cons_succ]
      have hs6 := hide (ho6.bs (putL_bytes _ _) 8 (length_putL _ _) (by omega))
      have hB6 := hide (hB5.out.trans (hb6.mono hB5.out.size))
      clear ho6 hb6 hB5
      generalize w5.heap.size = g5 at *
      repeat' (first
        | (refine wpRel_quiet (v := ?_) rfl rfl (fun _ _ _ h => h) (by rfl) ?_ ?_
           rotate_left
           · (intro w' hR; go_simp; try rfl)
           simp only [Act.put, List.setIfInBounds_toArray, List.set_cons_zero, List.set_cons_succ]))
      refine wpRel_step rfl rfl (by rfl) (fun K' hK => ?_)
      go_simp
      refine (of_any w6 hs6.out).mono ?_
      rintro e w' ⟨rfl, rfl⟩
      rw [hof.out]
      refine hK.out _ _ (Kept.refl _) ?_
      clear hK K'
      try simp only [Act.put, List.setIfInBounds_toArray, List.set_cons_zero, List.set_cons_succ]
      clear hs6 hof
      repeat' (first
        | (refine wpRel_quiet (v := ?_) rfl rfl (fun _ _ _ h => h) (by rfl) ?_ ?_
           rotate_left
           · (intro w' hR; go_simp; try rfl)
           simp only [Act.put, List.setIfInBounds_toArray, List.set_cons_zero, List.set_cons_succ]))
      refine wpRel_step rfl rfl (by rfl) (fun K' hK => ?_)
      go_simp
      refine (alike_any x x w6).mono ?_
      rintro e w' ⟨rfl, rfl⟩
      rw [decide_eq_true rfl]
      refine hK.out _ _ (Kept.refl _) ?_
      clear hK K'
      try simp only [Act.put, List.setIfInBounds_toArray, List.set_cons_zero, List.set_cons_succ]
      repeat' (first
        | (refine wpRel_quiet (v := ?_) rfl rfl (fun _ _ _ h => h) (by rfl) ?_ ?_
           rotate_left
           · (intro w' hR; go_simp; try rfl)
           simp only [Act.put, List.setIfInBounds_toArray, List.set_cons_zero, List.set_cons_succ]))
      refine wpRel_step rfl rfl (by rfl) (fun K' hK => ?_)
      go_simp
      refine (awake_any w6).mono ?_
      rintro e w7 ⟨rfl, hb7⟩
      refine hK.out _ _ hb7 ?_
      clear hK K'
      try simp only [Act.put, List.setIfInBounds_toArray, List.set_cons_zero, List.set_cons_succ]
      have hB7 := hB6.out.trans (hb7.mono hB6.out.size)
      repeat' (first
        | (refine wpRel_quiet (v := ?_) rfl rfl (fun _ _ _ h => h) (by rfl) ?_ ?_
           rotate_left
           · (intro w' hR; go_simp; try rfl)
           simp only [Act.put, List.setIfInBounds_toArray, List.set_cons_zero, List.set_cons_succ]))
      refine wpRel_nil ?_
      go_wp2_with fail
      go_ret
      exact ⟨rfl, hB7⟩
  · have h1 := hide (show lessB x y = false from decide_eq_false (by omega))
    have h2 := hide (show lessB y x = false from decide_eq_false (by omega))
    have hA := hide (show decide (x = y) = true from decide_eq_true (rank_inj hx hy ox.out oy.out h))
    rw [h1.out, h2.out]
    go_wp2_with fail
    refine (alike_any x y w).mono ?_
    rintro e w' ⟨rfl, rfl⟩
    rw [hA.out]
    go_wp2_with fail
    refine (less_any x x w hx hx).mono ?_
    rintro e w' ⟨rfl, rfl⟩
    rw [hxx.out]
    go_wp2_with fail
    refine (less_any x y w hx hy).mono ?_
    rintro e w' ⟨rfl, rfl⟩
    rw [h1.out]
    go_wp2_with fail
    clear h h1 h2 hA
    clear hxx
    obtain ⟨ad, had⟩ : ∃ ad, Hid (addB x y = ad) := ⟨_, rfl⟩
    have had' : Hid (addB y x = ad) := by show addB y x = ad; rw [addB_comm]; exact had.out
    obtain ⟨S, hS⟩ : ∃ S, Hid (strOfNums (putL (x : Int) 8) = S) := ⟨_, rfl⟩
    have hof : Hid (ofB (putL (x : Int) 8) = x) := by show ofB (putL (x : Int) 8) = x; rw [ofB_putL8 x hx]; exact ox.out
    refine wp_region_rel Kept [0, 1, 3, 4, 2, 5, 6, 7, 8, 13, 9, 10, 11, 12, 14, 15, 16, 17, 18, 19, 22, 20, 21, 23, 24, 25, 26, 27, 28] (by kernel_rfl) (by kernel_rfl) (by kernel_rfl) Kept.refl Kept.trans ?_
    have hB0 : Hid (Below w.heap.size w w.drew) := hide ⟨rfl, rfl, rfl, Nat.le_refl _, fun _ _ => rfl⟩
    generalize w.drew = w0 at *
    repeat' (first
      | (refine wpRel_quiet (v := ?_) rfl rfl (fun _ _ _ h => h) (by rfl) ?_ ?_
         rotate_left
         · (intro w' hR; go_simp; try rfl)
         simp only [Act.put, List.setIfInBounds_toArray, List.set_cons_zero, List.set_cons_succ]))
    refine wpRel_step rfl rfl (by rfl) (fun K' hK => ?_)
    go_simp
    refine (add_any x y w0).mono ?_
    rintro e w1 ⟨rfl, _, hb1⟩
    rw [had.out]
    refine hK.out _ _ hb1 ?_
    clear hK K'
    try simp only [Act.put, List.setIfInBounds_toArray, List.set_cons_zero, List.set_cons_succ]
    have hB1 := hide (hB0.out.trans (hb1.mono hB0.out.size))
    clear hb1 hB0
    repeat' (first
      | (refine wpRel_quiet (v := ?_) rfl rfl (fun _ _ _ h => h) (by rfl) ?_ ?_
         rotate_left
         · (intro w' hR; go_simp; try rfl)
         simp only [Act.put, List.setIfInBounds_toArray, List.set_cons_zero, List.set_cons_succ]))
    refine wpRel_step rfl rfl (by rfl) (fun K' hK => ?_)
    go_simp
    refine (add_any y x w1).mono ?_
    rintro e w2 ⟨rfl, _, hb2⟩
    rw [had'.out]
    refine hK.out _ _ hb2 ?_
    clear hK K'
    try simp only [Act.put, List.setIfInBounds_toArray, List.set_cons_zero, List.set_cons_succ]
    have hB2 := hide (hB1.out.trans (hb2.mono hB1.out.size))
    clear hb2 hB1 had had'
    repeat' (first
      | (refine wpRel_quiet (v := ?_) rfl rfl (fun _ _ _ h => h) (by rfl) ?_ ?_
         rotate_left
         · (intro w' hR; go_simp; try rfl)
         simp only [Act.put, List.setIfInBounds_toArray, List.set_cons_zero, List.set_cons_succ]))
    refine wpRel_step rfl rfl (by rfl) (fun K' hK => ?_)
    go_simp
    refine (alike_any ad ad w2).mono ?_
    rintro e w' ⟨rfl, rfl⟩
    rw [decide_eq_true rfl]
    refine hK.out _ _ (Kept.refl _) ?_
    clear hK K'
    try simp only [Act.put, List.setIfInBounds_toArray, List.set_cons_zero, List.set_cons_succ]
    repeat' (first
      | (refine wpRel_quiet (v := ?_) rfl rfl (fun _ _ _ h => h) (by rfl) ?_ ?_
         rotate_left
         · (intro w' hR; go_simp; try rfl)
         simp only [Act.put, List.setIfInBounds_toArray, List.set_cons_zero, List.set_cons_succ]))
    refine wpRel_step rfl rfl (by rfl) (fun K' hK => ?_)
    go_simp
    refine (bytes_any x w2 hx).mono ?_
    rintro e w3 ⟨rfl, ho3, hb3⟩
    rw [ox.out] at ho3
    refine hK.out _ _ hb3 ?_
    clear hK K'
    try simp only [Act.put, List.setIfInBounds_toArray, List.set_cons_zero, List.set_cons_succ]
    have hs3 := hide (ho3.bs (putL_bytes _ _) 8 (length_putL _ _) (by omega))
    have hB3 := hide (hB2.out.trans (hb3.mono hB2.out.size))
    clear ho3 hb3 hB2
    generalize w2.heap.size = g2 at *
    repeat' (first
      | (refine wpRel_quiet (v := ?_) rfl rfl (fun _ _ _ h => h) (by rfl) ?_ ?_
         rotate_left
         · (intro w' hR; go_simp; try rfl)
         simp only [Act.put, List.setIfInBounds_toArray, List.set_cons_zero, List.set_cons_succ]))
    refine wpRel_step rfl rfl (by rfl) (fun K' hK => ?_)
    go_simp
    refine (of_any w3 hs3.out).mono ?_
    rintro e w' ⟨rfl, rfl⟩
    rw [hof.out]
    refine hK.out _ _ (Kept.refl _) ?_
    clear hK K'
    try simp only [Act.put, List.setIfInBounds_toArray, List.set_cons_zero, List.set_cons_succ]
    clear hs3
    repeat' (first
      | (refine wpRel_quiet (v := ?_) rfl rfl (fun _ _ _ h => h) (by rfl) ?_ ?_
         rotate_left
         · (intro w' hR; go_simp; try rfl)
         simp only [Act.put, List.setIfInBounds_toArray, List.set_cons_zero, List.set_cons_succ]))
    refine wpRel_step rfl rfl (by rfl) (fun K' hK => ?_)
    go_simp
    refine (bytes_any x w3 hx).mono ?_
    rintro e w4 ⟨rfl, ho4, hb4⟩
    rw [ox.out] at ho4
    refine hK.out _ _ hb4 ?_
    clear hK K'
    try simp only [Act.put, List.setIfInBounds_toArray, List.set_cons_zero, List.set_cons_succ]
    have hs4 := hide (ho4.bs (putL_bytes _ _) 8 (length_putL _ _) (by omega))
    have hB4 := hide (hB3.out.trans (hb4.mono hB3.out.size))
    clear ho4 hb4 hB3
    generalize w3.heap.size = g3 at *
    repeat' (first
      | (refine wpRel_quiet (v := ?_) rfl rfl (fun _ _ _ h => h) (by rfl) ?_ ?_
         rotate_left
         · (intro w' hR; have s1 := str_bytes (hs4.out.below hR); rw [hS.out] at s1; go_simp; try rfl)
         simp only [Act.put, List.setIfInBounds_toArray, List.set_cons_zero, List.set_cons_succ]))
    clear hs4
    refine wpRel_step rfl rfl (by rfl) (fun K' hK => ?_)
    go_simp
    refine (bytes_any x w4 hx).mono ?_
    rintro e w5 ⟨rfl, ho5, hb5⟩
    rw [ox.out] at ho5
    refine hK.out _ _ hb5 ?_
    clear hK K'
    try simp only [Act.put, List.setIfInBounds_toArray, List.set_cons_zero, List.set_cons_succ]
    have hs5 := hide (ho5.bs (putL_bytes _ _) 8 (length_putL _ _) (by omega))
    have hB5 := hide (hB4.out.trans (hb5.mono hB4.out.size))
    clear ho5 hb5 hB4
    generalize w4.heap.size = g4 at *
    repeat' (first
      | (refine wpRel_quiet (v := ?_) rfl rfl (fun _ _ _ h => h) (by rfl) ?_ ?_
         rotate_left
         · (intro w' hR; have s1 := str_bytes (hs5.out.below hR); rw [hS.out] at s1; go_simp; try rfl)
         simp only [Act.put, List.setIfInBounds_toArray, List.set_cons_zero, List.set_cons_succ]))
    clear hs5 hS
    refine wpRel_step rfl rfl (by rfl) (fun K' hK => ?_)
    go_simp
    refine (bytes_any x w5 hx).mono ?_
    rintro e w6 ⟨rfl, ho6, hb6⟩
    rw [ox.out] at ho6
    refine hK.out _ _ hb6 ?_
    clear hK K'
    try simp only [Act.put, List.setIfInBounds_toArray, List.set_cons_zero, List.set_cons_succ]
    have hs6 := hide (ho6.bs (putL_bytes _ _) 8 (length_putL _ _) (by omega))
    have hB6 := hide (hB5.out.trans (hb6.mono hB5.out.size))
    clear ho6 hb6 hB5
    generalize w5.heap.size = g5 at *
    repeat' (first
      | (refine wpRel_quiet (v := ?_) rfl rfl (fun _ _ _ h => h) (by rfl) ?_ ?_
         rotate_left
         · (intro w' hR; go_simp; try rfl)
         simp only [Act.put, List.setIfInBounds_toArray, List.set_cons_zero, List.set_cons_succ]))
    refine wpRel_step rfl rfl (by rfl) (fun K' hK => ?_)
    go_simp
    refine (of_any w6 hs6.out).mono ?_
    rintro e w' ⟨rfl, rfl⟩
    rw [hof.out]
    refine hK.out _ _ (Kept.refl _) ?_
    clear hK K'
    try simp only [Act.put, List.setIfInBounds_toArray, List.set_cons_zero, List.set_cons_succ]
    clear hs6 hof
    repeat' (first
      | (refine wpRel_quiet (v := ?_) rfl rfl (fun _ _ _ h => h) (by rfl) ?_ ?_
         rotate_left
         · (intro w' hR; go_simp; try rfl)
         simp only [Act.put, List.setIfInBounds_toArray, List.set_cons_zero, List.set_cons_succ]))
    refine wpRel_step rfl rfl (by rfl) (fun K' hK => ?_)
    go_simp
    refine (alike_any x x w6).mono ?_
    rintro e w' ⟨rfl, rfl⟩
    rw [decide_eq_true rfl]
    refine hK.out _ _ (Kept.refl _) ?_
    clear hK K'
    try simp only [Act.put, List.setIfInBounds_toArray, List.set_cons_zero, List.set_cons_succ]
    repeat' (first
      | (refine wpRel_quiet (v := ?_) rfl rfl (fun _ _ _ h => h) (by rfl) ?_ ?_
         rotate_left
         · (intro w' hR; go_simp; try rfl)
         simp only [Act.put, List.setIfInBounds_toArray, List.set_cons_zero, List.set_cons_succ]))
    refine wpRel_step rfl rfl (by rfl) (fun K' hK => ?_)
    go_simp
    refine (awake_any w6).mono ?_
    rintro e w7 ⟨rfl, hb7⟩
    refine hK.out _ _ hb7 ?_
    clear hK K'
    try simp only [Act.put, List.setIfInBounds_toArray, List.set_cons_zero, List.set_cons_succ]
    have hB7 := hB6.out.trans (hb7.mono hB6.out.size)
    repeat' (first
      | (refine wpRel_quiet (v := ?_) rfl rfl (fun _ _ _ h => h) (by rfl) ?_ ?_
         rotate_left
         · (intro w' hR; go_simp; try rfl)
         simp only [Act.put, List.setIfInBounds_toArray, List.set_cons_zero, List.set_cons_succ]))
    refine wpRel_nil ?_
    go_wp2_with fail
    go_ret
    exact ⟨rfl, hB7⟩
  · have h1 := hide (show lessB x y = false from decide_eq_false (by omega))
    have h2 := hide (show lessB y x = true from decide_eq_true (by omega))
    rw [h1.out, h2.out]
    go_wp2_with fail
    refine (less_any x x w hx hx).mono ?_
    rintro e w' ⟨rfl, rfl⟩
    rw [hxx.out]
    go_wp2_with fail
    refine (less_any x y w hx hy).mono ?_
    rintro e w' ⟨rfl, rfl⟩
    rw [h1.out]
    go_wp2_with fail
    clear h h1 h2
    clear hxx
    obtain ⟨ad, had⟩ : ∃ ad, Hid (addB x y = ad) := ⟨_, rfl⟩
    have had' : Hid (addB y x = ad) := by show addB y x = ad; rw [addB_comm]; exact had.out
    obtain ⟨S, hS⟩ : ∃ S, Hid (strOfNums (putL (x : Int) 8) = S) := ⟨_, rfl⟩
    have hof : Hid (ofB (putL (x : Int) 8) = x) := by show ofB (putL (x : Int) 8) = x; rw [ofB_putL8 x hx]; exact ox.out
    refine wp_region_rel Kept [0, 1, 3, 4, 2, 5, 6, 7, 8, 13, 9, 10, 11, 12, 14, 15, 16, 17, 18, 19, 22, 20, 21, 23, 24, 25, 26, 27, 28] (by kernel_rfl) (by kernel_rfl) (by kernel_rfl) Kept.refl Kept.trans ?_
    have hB0 : Hid (Below w.heap.size w w.drew) := hide ⟨rfl, rfl, rfl, Nat.le_refl _, fun _ _ => rfl⟩
    generalize w.drew = w0 at *
    repeat' (first
      | (refine wpRel_quiet (v := ?_) rfl rfl (fun _ _ _ h => h) (by rfl) ?_ ?_
         rotate_left
         · (intro w' hR; go_simp; try rfl)
         simp only [Act.put, List.setIfInBounds_toArray, List.set_cons_zero, List.set_cons_succ]))
    refine wpRel_step rfl rfl (by rfl) (fun K' hK => ?_)
    go_simp
    refine (add_any x y w0).mono ?_
    rintro e w1 ⟨rfl, _, hb1⟩
    rw [had.out]
    refine hK.out _ _ hb1 ?_
    clear hK K'
    try simp only [Act.put, List.setIfInBounds_toArray, List.set_cons_zero, List.set_cons_succ]
    have hB1 := hide (hB0.out.trans (hb1.mono hB0.out.size))
    clear hb1 hB0
    repeat' (first
      | (refine wpRel_quiet (v := ?_) rfl rfl (fun _ _ _ h => h) (by rfl) ?_ ?_
         rotate_left
         · (intro w' hR; go_simp; try rfl)
         simp only [Act.put, List.setIfInBounds_toArray, List.set_cons_zero, List.set_cons_succ]))
    refine wpRel_step rfl rfl (by rfl) (fun K' hK => ?_)
    go_simp
    refine (add_any y x w1).mono ?_
    rintro e w2 ⟨rfl, _, hb2⟩
    rw [had'.out]
    refine hK.out _ _ hb2 ?_
    clear hK K'
    try simp only [Act.put, List.setIfInBounds_toArray, List.set_cons_zero, List.set_cons_succ]
    have hB2 := hide (hB1.out.trans (hb2.mono hB1.out.size))
    clear hb2 hB1 had had'
    repeat' (first
      | (refine wpRel_quiet (v := ?_) rfl rfl (fun _ _ _ h => h) (by rfl) ?_ ?_
         rotate_left
         · (intro w' hR; go_simp; try rfl)
         simp only [Act.put, List.setIfInBounds_toArray, List.set_cons_zero, List.set_cons_succ]))
    refine wpRel_step rfl rfl (by rfl) (fun K' hK => ?_)
    go_simp
    refine (alike_any ad ad w2).mono ?_
    rintro e w' ⟨rfl, rfl⟩
    rw [decide_eq_true rfl]
    refine hK.out _ _ (Kept.refl _) ?_
    clear hK K'
    try simp only [Act.put, List.setIfInBounds_toArray, List.set_cons_zero, List.set_cons_succ]
    repeat' (first
      | (refine wpRel_quiet (v := ?_) rfl rfl (fun _ _ _ h => h) (by rfl) ?_ ?_
         rotate_left
         · (intro w' hR; go_simp; try rfl)
         simp only [Act.put, List.setIfInBounds_toArray, List.set_cons_zero, List.set_cons_succ]))
    refine wpRel_step rfl rfl (by rfl) (fun K' hK => ?_)
    go_simp
    refine (bytes_any x w2 hx).mono ?_
    rintro e w3 ⟨rfl, ho3, hb3⟩
    rw [ox.out] at ho3
    refine hK.out _ _ hb3 ?_
    clear hK K'
    try simp only [Act.put, List.setIfInBounds_toArray, List.set_cons_zero, List.set_cons_succ]
    have hs3 := hide (ho3.bs (putL_bytes _ _) 8 (length_putL _ _) (by omega))
    have hB3 := hide (hB2.out.trans (hb3.mono hB2.out.size))
    clear ho3 hb3 hB2
    generalize w2.heap.size = g2 at *
    repeat' (first
      | (refine wpRel_quiet (v := ?_) rfl rfl (fun _ _ _ h => h) (by rfl) ?_ ?_
         rotate_left
         · (intro w' hR; go_simp; try rfl)
         simp only [Act.put, List.setIfInBounds_toArray, List.set_cons_zero, List.set_cons_succ]))
    refine wpRel_step rfl rfl (by rfl) (fun K' hK => ?_)
    go_simp
    refine (of_any w3 hs3.out).mono ?_
    rintro e w' ⟨rfl, rfl⟩
    rw [hof.out]
    refine hK.out _ _ (Kept.refl _) ?_
    clear hK K'
    try simp only [Act.put, List.setIfInBounds_toArray, List.set_cons_zero, List.set_cons_succ]
    clear hs3
    repeat' (first
      | (refine wpRel_quiet (v := ?_) rfl rfl (fun _ _ _ h => h) (by rfl) ?_ ?_
         rotate_left
         · (intro w' hR; go_simp; try rfl)
         simp only [Act.put, List.setIfInBounds_toArray, List.set_cons_zero, List.set_cons_succ]))
    refine wpRel_step rfl rfl (by rfl) (fun K' hK => ?_)
    go_simp
    refine (bytes_any x w3 hx).mono ?_
    rintro e w4 ⟨rfl, ho4, hb4⟩
    rw [ox.out] at ho4
    refine hK.out _ _ hb4 ?_
    clear hK K'
    try simp only [Act.put, List.setIfInBounds_toArray, List.set_cons_zero, List.set_cons_succ]
    have hs4 := hide (ho4.bs (putL_bytes _ _) 8 (length_putL _ _) (by omega))
    have hB4 := hide (hB3.out.trans (hb4.mono hB3.out.size))
    clear ho4 hb4 hB3
    generalize w3.heap.size = g3 at *
    repeat' (first
      | (refine wpRel_quiet (v := ?_) rfl rfl (fun _ _ _ h => h) (by rfl) ?_ ?_
         rotate_left
         · (intro w' hR; have s1 := str_bytes (hs4.out.below hR); rw [hS.out] at s1; go_simp; try rfl)
         simp only [Act.put, List.setIfInBounds_toArray, List.set_cons_zero, List.set_cons_succ]))
    clear hs4
    refine wpRel_step rfl rfl (by rfl) (fun K' hK => ?_)
    go_simp
    refine (bytes_any x w4 hx).mono ?_
    rintro e w5 ⟨rfl, ho5, hb5⟩
    rw [ox.out] at ho5
    refine hK.out _ _ hb5 ?_
    clear hK K'
    try simp only [Act.put, List.setIfInBounds_toArray, List.set_cons_zero, List.set_cons_succ]
    have hs5 := hide (ho5.bs (putL_bytes _ _) 8 (length_putL _ _) (by omega))
    have hB5 := hide (hB4.out.trans (hb5.mono hB4.out.size))
    clear ho5 hb5 hB4
    generalize w4.heap.size = g4 at *
    repeat' (first
      | (refine wpRel_quiet (v := ?_) rfl rfl (fun _ _ _ h => h) (by rfl) ?_ ?_
         rotate_left
         · (intro w' hR; have s1 := str_bytes (hs5.out.below hR); rw [hS.out] at s1; go_simp; try rfl)
         simp only [Act.put, List.setIfInBounds_toArray, List.set_cons_zero, List.set_cons_succ]))
    clear hs5 hS
    refine wpRel_step rfl rfl (by rfl) (fun K' hK => ?_)
    go_simp
    refine (bytes_any x w5 hx).mono ?_
    rintro e w6 ⟨rfl, ho6, hb6⟩
    rw [ox.out] at ho6
    refine hK.out _ _ hb6 ?_
    clear hK K'
    try simp only [Act.put, List.setIfInBounds_toArray, List.set_cons_zero, List.set_cons_succ]
    have hs6 := hide (ho6.bs (putL_bytes _ _) 8 (length_putL _ _) (by omega))
    have hB6 := hide (hB5.out.trans (hb6.mono hB5.out.size))
    clear ho6 hb6 hB5
    generalize w5.heap.size = g5 at *
    repeat' (first
      | (refine wpRel_quiet (v := ?_) rfl rfl (fun _ _ _ h => h) (by rfl) ?_ ?_
         rotate_left
         · (intro w' hR; go_simp; try rfl)
         simp only [Act.put, List.setIfInBounds_toArray, List.set_cons_zero, List.set_cons_succ]))
    refine wpRel_step rfl rfl (by rfl) (fun K' hK => ?_)
    go_simp
    refine (of_any w6 hs6.out).mono ?_
    rintro e w' ⟨rfl, rfl⟩
    rw [hof.out]
    refine hK.out _ _ (Kept.refl _) ?_
    clear hK K'
    try simp only [Act.put, List.setIfInBounds_toArray, List.set_cons_zero, List.set_cons_succ]
    clear hs6 hof
    repeat' (first
      | (refine wpRel_quiet (v := ?_) rfl rfl (fun _ _ _ h => h) (by rfl) ?_ ?_
         rotate_left
         · (intro w' hR; go_simp; try rfl)
         simp only [Act.put, List.setIfInBounds_toArray, List.set_cons_zero, List.set_cons_succ]))
    refine wpRel_step rfl rfl (by rfl) (fun K' hK => ?_)
    go_simp
    refine (alike_any x x w6).mono ?_
    rintro e w' ⟨rfl, rfl⟩
    rw [decide_eq_true rfl]
    refine hK.out _ _ (Kept.refl _) ?_
    clear hK K'
    try simp only [Act.put, List.setIfInBounds_toArray, List.set_cons_zero, List.set_cons_succ]
    repeat' (first
      | (refine wpRel_quiet (v := ?_) rfl rfl (fun _ _ _ h => h) (by rfl) ?_ ?_
         rotate_left
         · (intro w' hR; go_simp; try rfl)
         simp only [Act.put, List.setIfInBounds_toArray, List.set_cons_zero, List.set_cons_succ]))
    refine wpRel_step rfl rfl (by rfl) (fun K' hK => ?_)
    go_simp
    refine (awake_any w6).mono ?_
    rintro e w7 ⟨rfl, hb7⟩
    refine hK.out _ _ hb7 ?_
    clear hK K'
    try simp only [Act.put, List.setIfInBounds_toArray, List.set_cons_zero, List.set_cons_succ]
    have hB7 := hB6.out.trans (hb7.mono hB6.out.size)
    repeat' (first
      | (refine wpRel_quiet (v := ?_) rfl rfl (fun _ _ _ h => h) (by rfl) ?_ ?_
         rotate_left
         · (intro w' hR; go_simp; try rfl)
         simp only [Act.put, List.setIfInBounds_toArray, List.set_cons_zero, List.set_cons_succ]))
    refine wpRel_nil ?_
    go_wp2_with fail
    go_ret
    exact ⟨rfl, hB7⟩

theorem flotOrder_walk (a b c : Int) (w : World) (ha : 0 ≤ a ∧ a < 18446744073709551616) (hb : 0 ≤ b ∧ b < 18446744073709551616) (hc : 0 ≤ c ∧ c < 18446744073709551616) :
    Calls Try.prog 8 #[.int .u64 a, .int .u64 b, .int .u64 c] w fun e w' => e = .returned (.bool true) ∧ Below w.heap.size w w' := by
  obtain ⟨n, rfl⟩ := Int.eq_ofNat_of_zero_le ha.1
  obtain ⟨m, rfl⟩ := Int.eq_ofNat_of_zero_le hb.1
  obtain ⟨k, rfl⟩ := Int.eq_ofNat_of_zero_le hc.1
  exact flotOrder_go n m k w (by omega) (by omega) (by omega)
#print axioms flotOrder_walk
end Go.Proofs.Ytjogkadmkohifaa
