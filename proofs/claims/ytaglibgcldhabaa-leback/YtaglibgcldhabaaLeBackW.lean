/- A call of the law LeBack answers true and turns nothing that was there: for every number below 2^64, every int, every two slices of bytes that can be read. -/
import Derived.Test.YtaglibgcldhabaaAwake1
import Derived.Test.YtaglibgcldhabaaAppend
namespace Go.Proofs.Ytaglibgcldhabaa
open Go.RowKit
theorem alloc_size (w : World) (o : Obj) : (w.alloc o).heap.size = w.heap.size + 1 := by simp
theorem allZ_zeros (n : Nat) : allZ (List.replicate n 0) = true := by
  unfold allZ
  rw [List.all_eq_true]
  intro x hx
  rw [List.eq_of_mem_replicate hx]
  rfl
set_option maxRecDepth 100000 in
set_option maxHeartbeats 4000000 in
theorem leBack_walk (n a1 : Int) (a : Option Addr) (len cap : Nat) (zs : List Int) (a' : Option Addr) (len' cap' : Nat) (ys : List Int) (w : World) (hn : 0 ≤ n ∧ n < 18446744073709551616) (hb : Bs w a len cap zs) (hc : Bs w a' len' cap' ys) (hr : cap ≤ 140737488351232) (hr' : cap' ≤ 140737488351232) :
    Calls Try.prog 6 #[.int .u64 n, .int .i64 a1, .slice a len cap, .slice a' len' cap'] w fun e w' => e = .returned (.bool true) ∧ Below w.heap.size w w' := by
  obtain ⟨s, hs⟩ : ∃ s : Nat, bits BinOp.and IntKind.i64 a1 7 = (s : Int) := ⟨(a1 % 8).toNat, by rw [i64_and7]; omega⟩
  have hs8 : s < 8 := by have := i64_and7 a1; omega
  have hl1 := hb.le_cap
  have hl2 := hc.le_cap
  have hz1 := hb.length
  have hz2 := hc.length
  by_cases hbig : 2000 < len + len'
  · have hbi : 2000 < (len : Int) + (len' : Int) := by omega
    go_enter Try.func6, Try.ntmps6
    go_wp2_with fail
    refine (awake_any w).mono ?_
    rintro e w2 ⟨rfl, hb2⟩
    go_wp2_with fail
    go_ret
    exact ⟨rfl, hb2⟩
  obtain ⟨M, hM⟩ : ∃ M, max len len' + (s + 1) = M := ⟨_, rfl⟩
  have hmk := run_make_row' (P := Try.prog) 22 5 (.int .u8 0) 1 Try.underlying22 Try.info_u8 rfl .i64 .i64 M (by omega) (by omega)
  have hbd : decide (2000 < (len : Int) + (len' : Int)) = false := by simp; omega
  go_enter Try.func6, Try.ntmps6
  go_wp2_with fail
  all_goals
    first
      | rw [show (len' : Int) + ((s : Int) + 1) = (M : Int) by omega]
      | rw [show (len : Int) + ((s : Int) + 1) = (M : Int) by omega]
    refine (pad_at _ M w rfl hb (by omega) (by omega)).mono ?_
    rintro e w1 ⟨rfl, ho1, hb1⟩
    have hP1 : Bs w1 (some ⟨w.heap.size, 0, none⟩) (2 + M) (2 + M) (padL zs M) := ho1.bs (padL_bytes _ _ hb.bytes) _ (length_padL _ _ (by omega)) (by omega)
    clear ho1
    go_wp2_with fail
    refine (pad_at _ M w1 rfl (hc.below hb1) (by omega) (by omega)).mono ?_
    rintro e w2 ⟨rfl, ho2, hb2⟩
    have hQ2 : Bs w2 (some ⟨w1.heap.size, 0, none⟩) (2 + M) (2 + M) (padL ys M) := ho2.bs (padL_bytes _ _ hc.bytes) _ (length_padL _ _ (by omega)) (by omega)
    have hP2 := hP1.below hb2
    have hbw2 := hb1.trans (hb2.mono hb1.size)
    clear ho2 hb2 hP1 hb1
    generalize w1.heap.size = g1 at *
    go_wp2_with fail
    have hzr : ((padL zs M).drop 2).drop len = List.replicate (M - len) 0 := by rw [padL_drop2, ← hz1, List.drop_left]
    refine (unpad_ok M w2 hP2 (by omega) len (by rw [padL_take2, hz1, putL2_num len (by omega)]) (by omega) (by rw [hzr]; exact allZ_zeros _)).mono ?_
    rintro e w3 ⟨g3, rfl, hg3, ho3, hb3⟩
    have hU3 : Bs w3 (some ⟨g3, 0, none⟩) len len zs := by
      have e : ((padL zs M).drop 2).take len = zs := by rw [← hz1]; exact padL_row zs M
      rw [e] at ho3
      exact ho3.bs hb.bytes len hz1 (by omega)
    have hP3 := hP2.below hb3
    have hQ3 := hQ2.below hb3
    have hbw3 := hbw2.trans (hb3.mono hbw2.size)
    clear ho3 hb3 hP2 hQ2 hbw2 hg3 hzr
    obtain ⟨c4, w4, hr4, ho4, hb4⟩ := run_append_new (P := Try.prog) Try.underlying22 Try.info_u8 22 ((w3.alloc (Obj.cells (madeCells #[Value.int IntKind.u8 0] M) 5)).alloc (Obj.cells #[Value.int IntKind.u8 1] 5)) (some ⟨w3.heap.size, 0, none⟩) M M (List.replicate M 0)
      ((OwnB.bs (OwnB.of_rowIs (World.rowIs_made w3 (.int .u8 0) M _) _ (by simp) (fun i hi => by simp [List.getD, hi])) (IsBytes.replicate _) M (by simp) (by omega)).below ((Below.refl _ _).alloc (Nat.le_refl _) _)) (some ⟨w3.heap.size + 1, 0, none⟩) 1 1 [1] (by rw [← alloc_size w3]; exact Bs.lit rfl rfl (bytes_lit rfl) rfl (by omega)) (by intro h; cases h) (by omega) (by omega)
    have hbW4 : Below w3.heap.size w3 w4 := (((Below.refl _ _).alloc (Nat.le_refl _) _).alloc (by simp) _).trans (hb4.mono (by simp; omega))
    have hP4 := hP3.below hbW4
    have hQ4 := hQ3.below hbW4
    have hU4 := hU3.below hbW4
    have hbw4 := hbw3.trans (hbW4.mono hbw3.size)
    have hb4' := hb.below hbw4
    have hc4' := hc.below hbw4
    generalize ((w3.alloc (Obj.cells (madeCells #[Value.int IntKind.u8 0] M) 5)).alloc (Obj.cells #[Value.int IntKind.u8 1] 5)).heap.size = g4 at *
    clear hb4 hbW4 hP3 hQ3 hU3 hbw3 ho4
    go_wp2_with (at_builtin; refine wpList_append_run (by rfl) (.tmp 56) (.tmp 57) 22 (by rfl) _ _ _ _ (by rfl) (by rfl) hr4 ?_)
    refine (pad_bad _ w4 (by omega) (by omega)).mono ?_
    rintro e w' ⟨rfl, rfl⟩
    clear hr4
    have hsP := str_bytes hP4
    have hsQ := str_bytes hQ4
    have hsU := str_bytes hU4
    have hsB := str_bytes hb4'
    have hsC := str_bytes hc4'
    have hEq : ((strOfNums (padL zs M)).toList == (strOfNums (padL ys M)).toList) = ((strOfNums zs).toList == (strOfNums ys).toList) := by
      rw [str_eq (padL_bytes _ _ hb.bytes) (padL_bytes _ _ hc.bytes), str_eq hb.bytes hc.bytes]
      by_cases h : zs = ys
      · subst h; simp
      · rw [decide_eq_false h, decide_eq_false (fun e => h (padL_inj zs ys M (by omega) (by omega) (by omega) e))]
    have hqM : (2 + (M : Int) == (M : Int) + 2) = true := by rw [beq_iff_eq]; omega
    have hqs : (((s + 1 : Nat) : Int) == (s : Int) + 1) = true := by simp
    have hqs' : ((s : Int) + 1 == (s : Int) + 1) = true := by simp
    clear hP4 hQ4 hU4 hb4' hc4'
    by_cases hs7 : 7 ≤ s
    · have hlow : Hid (leNum (putL n (s + 1)) = n) := by
        obtain rfl : s = 7 := by omega
        exact leNum_all n hn.1 hn.2
      go_wp2_with fail
      refine (put_at n _ (s + 1) w4 (by omega) hn (by omega)).mono ?_
      rintro e w5 ⟨rfl, ho5, hb5⟩
      have hbw5 := hbw4.trans (hb5.mono hbw4.size)
      go_wp2_with fail
      refine (get_any w5 (ho5.bs (putL_bytes _ _) _ (length_putL _ _) (by omega))).mono ?_
      rintro e w' ⟨rfl, rfl⟩
      rw [List.take_of_length_le (by rw [length_putL]; omega), unhide hlow]
      go_wp2_with fail
      refine (put_at n _ (s + 1) w5 (by omega) hn (by omega)).mono ?_
      rintro e w6 ⟨rfl, _, hb6⟩
      have hbw6 := hbw5.trans (hb6.mono hbw5.size)
      go_wp2_with fail
      refine (awake_any w6).mono ?_
      rintro e w7 ⟨rfl, hb7⟩
      have hbw7 := hbw6.trans (hb7.mono hbw6.size)
      go_wp2_with fail
      go_ret
      exact ⟨rfl, hbw7⟩
    · have hlow := u64_low n s hn.1 hn.2 (by omega)
      obtain ⟨L, hL⟩ : ∃ L, leNum (putL n (s + 1)) = L := ⟨_, rfl⟩
      rw [hL] at hlow
      have HL := hide hL
      clear hL
      go_wp2_with fail
      refine (put_at n _ (s + 1) w4 (by omega) hn (by omega)).mono ?_
      rintro e w5 ⟨rfl, ho5, hb5⟩
      have hbw5 := hbw4.trans (hb5.mono hbw4.size)
      go_wp2_with fail
      refine (get_any w5 (ho5.bs (putL_bytes _ _) _ (length_putL _ _) (by omega))).mono ?_
      rintro e w' ⟨rfl, rfl⟩
      rw [List.take_of_length_le (by rw [length_putL]; omega), unhide HL]
      go_wp2_with fail
      refine (put_at n _ (s + 1) w5 (by omega) hn (by omega)).mono ?_
      rintro e w6 ⟨rfl, _, hb6⟩
      have hbw6 := hbw5.trans (hb6.mono hbw5.size)
      go_wp2_with fail
      refine (awake_any w6).mono ?_
      rintro e w7 ⟨rfl, hb7⟩
      have hbw7 := hbw6.trans (hb7.mono hbw6.size)
      go_wp2_with fail
      go_ret
      exact ⟨rfl, hbw7⟩
#print axioms leBack_walk
end Go.Proofs.Ytaglibgcldhabaa
