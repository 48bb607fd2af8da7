/- A call of the law FlotTells answers true and turns nothing that was there: for every two numbers below 2^64, every slice of bytes that can be read. -/
import Derived.Test.YtjogkadmkohifaaFAwake
import Derived.Test.YtjogkadmkohifaaFRef
import Derived.Test.YtjogkadmkohifaaFNum
import Derived.Test.YtjogkadmkohifaaRel
namespace Go.Proofs.Ytjogkadmkohifaa
open Go.RowKit

set_option maxHeartbeats 4000000 in
theorem flotTells_walk (a b : Int) (p : Option Addr) (len cap : Nat) (zs : List Int) (w : World) (ha : 0 ≤ a ∧ a < 18446744073709551616) (hb : 0 ≤ b ∧ b < 18446744073709551616) (hm : Bs w p len cap zs) :
    Calls Try.prog 7 #[.int .u64 a, .int .u64 b, .slice p len cap] w fun e w' => e = .returned (.bool true) ∧ Below w.heap.size w w' := by
  obtain ⟨n, rfl⟩ := Int.eq_ofNat_of_zero_le ha.1
  obtain ⟨m, rfl⟩ := Int.eq_ofNat_of_zero_le hb.1
  have hn : n < 18446744073709551616 := by omega
  have hm' : m < 18446744073709551616 := by omega
  clear ha hb
  have hl63 : len ≤ 9223372036854775807 := Nat.le_trans hm.le_cap hm.cap_le
  by_cases hmore : 100 < len
  · go_enter Try.func7, Try.ntmps7
    go_wp2_with fail
    refine (awake_any w).mono ?_
    rintro e w2 ⟨rfl, hb2⟩
    go_wp2_with fail
    go_ret
    exact ⟨rfl, hb2⟩
  · have hd : decide (100 < (len : Int)) = false := by simp; omega
    clear hmore
    have HM := hide hm
    clear hm
    go_enter Try.func7, Try.ntmps7
    go_wp2_with fail
    refine (number_any n w hn).mono ?_
    rintro e w' ⟨⟨x, hx, rfl⟩, rfl⟩
    go_wp2_with fail
    refine (number_any m w hm').mono ?_
    rintro e w' ⟨⟨y, hy, rfl⟩, rfl⟩
    go_wp2_with fail
    refine wp_region_rel Kept [0, 3, 1, 2, 4, 5, 6, 7, 8, 10, 9, 11, 12, 13, 14, 15, 18, 16, 17, 19, 20, 21, 22, 23, 24, 25, 27, 28, 26, 29, 30, 31, 32, 33, 34, 36, 37, 35, 38, 39, 40, 41, 42, 43, 44] (by kernel_rfl) (by kernel_rfl) (by kernel_rfl) Kept.refl Kept.trans ?_
    have hB0 : Hid (Below w.heap.size w w.drew) := hide ⟨rfl, rfl, rfl, Nat.le_refl _, fun _ _ => rfl⟩
    have HM0 : Hid (Bs w.drew p len cap zs) := hide (HM.out.below hB0.out)
    clear HM
    generalize w.drew = w0 at *
    obtain ⟨S, hS⟩ : ∃ S, Hid (strOfNums (putL (one x : Nat) 8) = S) := ⟨_, rfl⟩
    obtain ⟨zo, hzo⟩ : ∃ zo, Hid (ofB zs = zo) := ⟨_, rfl⟩
    obtain ⟨no, hno⟩ : ∃ no, Hid (ofB (putL (n : Int) 8) = no) := ⟨_, rfl⟩
    obtain ⟨ad, had⟩ : ∃ ad, Hid (addB x y = ad) := ⟨_, rfl⟩
    obtain ⟨le, hle⟩ : ∃ le, Hid (lessB x y = le) := ⟨_, rfl⟩
    repeat' (first
      | (refine wpRel_quiet (v := ?_) rfl rfl (fun _ _ _ h => h) (by rfl) ?_ ?_
         rotate_left
         · (intro w' hR; go_simp; try rfl)
         simp only [Act.put, List.setIfInBounds_toArray, List.set_cons_zero, List.set_cons_succ]))
    refine wpRel_step rfl rfl (by rfl) (fun K' hK => ?_)
    go_simp
    refine (bytes_any x w0 hx).mono ?_
    rintro e w1 ⟨rfl, ho1, hb1⟩
    refine hK.out _ _ hb1 ?_
    clear hK K'
    try simp only [Act.put, List.setIfInBounds_toArray, List.set_cons_zero, List.set_cons_succ]
    have hs1 := hide (ho1.bs (putL_bytes _ _) 8 (length_putL _ _) (by omega))
    have HM1 := hide (HM0.out.below hb1)
    have hB1 := hide (hB0.out.trans (hb1.mono hB0.out.size))
    clear ho1 hb1 HM0 hB0
    generalize w0.heap.size = g0 at *
    repeat' (first
      | (refine wpRel_quiet (v := ?_) rfl rfl (fun _ _ _ h => h) (by rfl) ?_ ?_
         rotate_left
         · (intro w' hR; have s1 := str_bytes (hs1.out.below hR); rw [hS.out] at s1; go_simp; try rfl)
         simp only [Act.put, List.setIfInBounds_toArray, List.set_cons_zero, List.set_cons_succ]))
    refine wpRel_step rfl rfl (by rfl) (fun K' hK => ?_)
    go_simp
    refine (rbytes_any x w1 hx).mono ?_
    rintro e w2 ⟨⟨a2, c2, rfl, hs2'⟩, hb2⟩
    refine hK.out _ _ hb2 ?_
    clear hK K'
    try simp only [Act.put, List.setIfInBounds_toArray, List.set_cons_zero, List.set_cons_succ]
    have hs2 := hide hs2'
    have HM2 := hide (HM1.out.below hb2)
    have hB2 := hide (hB1.out.trans (hb2.mono hB1.out.size))
    clear hs2' hb2 HM1 hB1 hs1
    repeat' (first
      | (refine wpRel_quiet (v := ?_) rfl rfl (fun _ _ _ h => h) (by rfl) ?_ ?_
         rotate_left
         · (intro w' hR; have s1 := str_bytes (hs2.out.below hR); rw [hS.out] at s1; go_simp; try rfl)
         simp only [Act.put, List.setIfInBounds_toArray, List.set_cons_zero, List.set_cons_succ]))
    clear hs2 hS
    refine wpRel_step rfl rfl (by rfl) (fun K' hK => ?_)
    go_simp
    refine (of_any w2 HM2.out).mono ?_
    rintro e w' ⟨rfl, rfl⟩
    rw [hzo.out]
    refine hK.out _ _ (Kept.refl _) ?_
    clear hK K'
    try simp only [Act.put, List.setIfInBounds_toArray, List.set_cons_zero, List.set_cons_succ]
    repeat' (first
      | (refine wpRel_quiet (v := ?_) rfl rfl (fun _ _ _ h => h) (by rfl) ?_ ?_
         rotate_left
         · (intro w' hR; go_simp; try rfl)
         simp only [Act.put, List.setIfInBounds_toArray, List.set_cons_zero, List.set_cons_succ]))
    refine wpRel_step rfl rfl (by rfl) (fun K' hK => ?_)
    go_simp
    refine (rof_any w2 HM2.out).mono ?_
    rintro e w' ⟨rfl, rfl⟩
    rw [hzo.out]
    refine hK.out _ _ (Kept.refl _) ?_
    clear hK K'
    try simp only [Act.put, List.setIfInBounds_toArray, List.set_cons_zero, List.set_cons_succ]
    repeat' (first
      | (refine wpRel_quiet (v := ?_) rfl rfl (fun _ _ _ h => h) (by rfl) ?_ ?_
         rotate_left
         · (intro w' hR; go_simp; try rfl)
         simp only [Act.put, List.setIfInBounds_toArray, List.set_cons_zero, List.set_cons_succ]))
    refine wpRel_step rfl rfl (by rfl) (fun K' hK => ?_)
    go_simp
    refine (alike_any zo zo w2).mono ?_
    rintro e w' ⟨rfl, rfl⟩
    rw [decide_eq_true rfl]
    refine hK.out _ _ (Kept.refl _) ?_
    clear hK K'
    try simp only [Act.put, List.setIfInBounds_toArray, List.set_cons_zero, List.set_cons_succ]
    clear hzo HM2
    repeat' (first
      | (refine wpRel_quiet (v := ?_) rfl rfl (fun _ _ _ h => h) (by rfl) ?_ ?_
         rotate_left
         · (intro w' hR; go_simp; try rfl)
         simp only [Act.put, List.setIfInBounds_toArray, List.set_cons_zero, List.set_cons_succ]))
    refine wpRel_step rfl rfl (by rfl) (fun K' hK => ?_)
    go_simp
    refine (rput_ok (n : Int) 8 w2 ⟨by omega, by omega⟩ (by omega)).mono ?_
    rintro e w3 ⟨a3, c3, rfl, ho3, hb3⟩
    refine hK.out _ _ hb3 ?_
    clear hK K'
    try simp only [Act.put, List.setIfInBounds_toArray, List.set_cons_zero, List.set_cons_succ]
    have hs3 := hide ho3.bs
    have hB3 := hide (hB2.out.trans (hb3.mono hB2.out.size))
    clear ho3 hb3 hB2
    repeat' (first
      | (refine wpRel_quiet (v := ?_) rfl rfl (fun _ _ _ h => h) (by rfl) ?_ ?_
         rotate_left
         · (intro w' hR; go_simp; try rfl)
         simp only [Act.put, List.setIfInBounds_toArray, List.set_cons_zero, List.set_cons_succ]))
    refine wpRel_step rfl rfl (by rfl) (fun K' hK => ?_)
    go_simp
    refine (of_any w3 hs3.out).mono ?_
    rintro e w' ⟨rfl, rfl⟩
    rw [hno.out]
    refine hK.out _ _ (Kept.refl _) ?_
    clear hK K'
    try simp only [Act.put, List.setIfInBounds_toArray, List.set_cons_zero, List.set_cons_succ]
    clear hs3
    repeat' (first
      | (refine wpRel_quiet (v := ?_) rfl rfl (fun _ _ _ h => h) (by rfl) ?_ ?_
         rotate_left
         · (intro w' hR; go_simp; try rfl)
         simp only [Act.put, List.setIfInBounds_toArray, List.set_cons_zero, List.set_cons_succ]))
    refine wpRel_step rfl rfl (by rfl) (fun K' hK => ?_)
    go_simp
    refine (rput_ok (n : Int) 8 w3 ⟨by omega, by omega⟩ (by omega)).mono ?_
    rintro e w4 ⟨a4, c4, rfl, ho4, hb4⟩
    refine hK.out _ _ hb4 ?_
    clear hK K'
    try simp only [Act.put, List.setIfInBounds_toArray, List.set_cons_zero, List.set_cons_succ]
    have hs4 := hide ho4.bs
    have hB4 := hide (hB3.out.trans (hb4.mono hB3.out.size))
    clear ho4 hb4 hB3
    repeat' (first
      | (refine wpRel_quiet (v := ?_) rfl rfl (fun _ _ _ h => h) (by rfl) ?_ ?_
         rotate_left
         · (intro w' hR; go_simp; try rfl)
         simp only [Act.put, List.setIfInBounds_toArray, List.set_cons_zero, List.set_cons_succ]))
    refine wpRel_step rfl rfl (by rfl) (fun K' hK => ?_)
    go_simp
    refine (rof_any w4 hs4.out).mono ?_
    rintro e w' ⟨rfl, rfl⟩
    rw [hno.out]
    refine hK.out _ _ (Kept.refl _) ?_
    clear hK K'
    try simp only [Act.put, List.setIfInBounds_toArray, List.set_cons_zero, List.set_cons_succ]
    clear hs4 hno
    repeat' (first
      | (refine wpRel_quiet (v := ?_) rfl rfl (fun _ _ _ h => h) (by rfl) ?_ ?_
         rotate_left
         · (intro w' hR; go_simp; try rfl)
         simp only [Act.put, List.setIfInBounds_toArray, List.set_cons_zero, List.set_cons_succ]))
    refine wpRel_step rfl rfl (by rfl) (fun K' hK => ?_)
    go_simp
    refine (alike_any no no w4).mono ?_
    rintro e w' ⟨rfl, rfl⟩
    rw [decide_eq_true rfl]
    refine hK.out _ _ (Kept.refl _) ?_
    clear hK K'
    try simp only [Act.put, List.setIfInBounds_toArray, List.set_cons_zero, List.set_cons_succ]
    repeat' (first
      | (refine wpRel_quiet (v := ?_) rfl rfl (fun _ _ _ h => h) (by rfl) ?_ ?_
         rotate_left
         · (intro w' hR; go_simp; try rfl)
         simp only [Act.put, List.setIfInBounds_toArray, List.set_cons_zero, List.set_cons_succ]))
    refine wpRel_step rfl rfl (by rfl) (fun K' hK => ?_)
    go_simp
    refine (add_any x y w4).mono ?_
    rintro e w5 ⟨rfl, _, hb5⟩
    rw [had.out]
    refine hK.out _ _ hb5 ?_
    clear hK K'
    try simp only [Act.put, List.setIfInBounds_toArray, List.set_cons_zero, List.set_cons_succ]
    have hB5 := hide (hB4.out.trans (hb5.mono hB4.out.size))
    clear hb5 hB4
    repeat' (first
      | (refine wpRel_quiet (v := ?_) rfl rfl (fun _ _ _ h => h) (by rfl) ?_ ?_
         rotate_left
         · (intro w' hR; go_simp; try rfl)
         simp only [Act.put, List.setIfInBounds_toArray, List.set_cons_zero, List.set_cons_succ]))
    refine wpRel_step rfl rfl (by rfl) (fun K' hK => ?_)
    go_simp
    refine (radd_any x y w5).mono ?_
    rintro e w6 ⟨rfl, _, hb6⟩
    rw [had.out]
    refine hK.out _ _ hb6 ?_
    clear hK K'
    try simp only [Act.put, List.setIfInBounds_toArray, List.set_cons_zero, List.set_cons_succ]
    have hB6 := hide (hB5.out.trans (hb6.mono hB5.out.size))
    clear hb6 hB5 had
    repeat' (first
      | (refine wpRel_quiet (v := ?_) rfl rfl (fun _ _ _ h => h) (by rfl) ?_ ?_
         rotate_left
         · (intro w' hR; go_simp; try rfl)
         simp only [Act.put, List.setIfInBounds_toArray, List.set_cons_zero, List.set_cons_succ]))
    refine wpRel_step rfl rfl (by rfl) (fun K' hK => ?_)
    go_simp
    refine (alike_any ad ad w6).mono ?_
    rintro e w' ⟨rfl, rfl⟩
    rw [decide_eq_true rfl]
    refine hK.out _ _ (Kept.refl _) ?_
    clear hK K'
    try simp only [Act.put, List.setIfInBounds_toArray, List.set_cons_zero, List.set_cons_succ]
    repeat' (first
      | (refine wpRel_quiet (v := ?_) rfl rfl (fun _ _ _ h => h) (by rfl) ?_ ?_
         rotate_left
         · (intro w' hR; go_simp; try rfl)
         simp only [Act.put, List.setIfInBounds_toArray, List.set_cons_zero, List.set_cons_succ]))
    refine wpRel_step rfl rfl (by rfl) (fun K' hK => ?_)
    go_simp
    refine (less_any x y w6 hx hy).mono ?_
    rintro e w' ⟨rfl, rfl⟩
    rw [hle.out]
    refine hK.out _ _ (Kept.refl _) ?_
    clear hK K'
    try simp only [Act.put, List.setIfInBounds_toArray, List.set_cons_zero, List.set_cons_succ]
    repeat' (first
      | (refine wpRel_quiet (v := ?_) rfl rfl (fun _ _ _ h => h) (by rfl) ?_ ?_
         rotate_left
         · (intro w' hR; go_simp; try rfl)
         simp only [Act.put, List.setIfInBounds_toArray, List.set_cons_zero, List.set_cons_succ]))
    refine wpRel_step rfl rfl (by rfl) (fun K' hK => ?_)
    go_simp
    refine (rless_any x y w6 hx hy).mono ?_
    rintro e w' ⟨rfl, rfl⟩
    rw [hle.out]
    refine hK.out _ _ (Kept.refl _) ?_
    clear hK K'
    try simp only [Act.put, List.setIfInBounds_toArray, List.set_cons_zero, List.set_cons_succ]
    repeat' (first
      | (refine wpRel_quiet (v := ?_) rfl rfl (fun _ _ _ h => h) (by rfl) ?_ ?_
         rotate_left
         · (intro w' hR; go_simp; try rfl)
         simp only [Act.put, List.setIfInBounds_toArray, List.set_cons_zero, List.set_cons_succ]))
    refine wpRel_step rfl rfl (by rfl) (fun K' hK => ?_)
    go_simp
    refine (awake_any w6).mono ?_
    rintro e w7 ⟨rfl, hb7⟩
    refine hK.out _ _ hb7 ?_
    clear hK K'
    try simp only [Act.put, List.setIfInBounds_toArray, List.set_cons_zero, List.set_cons_succ]
    have hB7 := hB6.out.trans (hb7.mono hB6.out.size)
    repeat' (first
      | (refine wpRel_quiet (v := ?_) rfl rfl (fun _ _ _ h => h) (by rfl) ?_ ?_
         rotate_left
         · (intro w' hR; go_simp; try rfl)
         simp only [Act.put, List.setIfInBounds_toArray, List.set_cons_zero, List.set_cons_succ]))
    refine wpRel_nil ?_
    go_wp2_with fail
    go_ret
    exact ⟨rfl, hB7⟩
#print axioms flotTells_walk
end Go.Proofs.Ytjogkadmkohifaa
