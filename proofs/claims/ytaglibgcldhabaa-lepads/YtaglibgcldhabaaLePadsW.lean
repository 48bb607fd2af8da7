/- A call of the law LePads answers true and turns nothing that was there: for every slice of bytes that can be read and every two ints. -/
import Derived.Test.YtaglibgcldhabaaAwake1
import Derived.Test.YtaglibgcldhabaaAppend
namespace Go.Proofs.Ytaglibgcldhabaa
open Go.RowKit
theorem cutMid (a : Option Addr) (len cap : Nat) (k k' : IntKind) (i j : Int) (l h m : Nat) (hi : i = l) (hj : j = h) (h1 : l ≤ h) (h2 : h ≤ cap) (hm : h - l = m) (w : World) : (Instr.slice 22 (.slice a len cap) (some (.int k i)) (some (.int k' j)) none).run Try.prog w = .ok (.slice (cutA a cap l) m (cap - l)) w := by
  subst hm
  exact run_cut_mid Try.underlying22 Try.size_u8 a len cap k k' i j l h hi hj h1 h2 w
set_option maxRecDepth 100000 in
set_option maxHeartbeats 4000000 in
theorem lePads_walk (more at_ : Int) (a : Option Addr) (len cap : Nat) (zs : List Int) (w : World) (hm : Bs w a len cap zs) :
    Calls Try.prog 3 #[.slice a len cap, .int .i64 more, .int .i64 at_] w fun e w' => e = .returned (.bool true) ∧ Below w.heap.size w w' := by
  obtain ⟨s, hs⟩ : ∃ s : Nat, bits BinOp.and IntKind.i64 more 7 = (s : Int) := ⟨(more % 8).toNat, by rw [i64_and7]; omega⟩
  have hs8 : s < 8 := by have := i64_and7 more; omega
  have hl63 : len ≤ 9223372036854775807 := Nat.le_trans hm.le_cap hm.cap_le
  have hzl := hm.length
  by_cases hbig : 2000 < len
  · go_enter Try.func3, Try.ntmps3
    go_wp2_with fail
    refine (awake_any w).mono ?_
    rintro e w2 ⟨rfl, hb2⟩
    go_wp2_with fail
    go_ret
    exact ⟨rfl, hb2⟩
  by_cases hneg : s < 3
  · have hg : decide (0 ≤ (s : Int) - 3) = false := by simp; omega
    go_enter Try.func3, Try.ntmps3
    go_wp2_with fail
    refine (pad_bad _ w (by omega) hl63).mono ?_
    rintro e w2 ⟨rfl, rfl⟩
    go_wp2_with fail
    refine (awake_any w).mono ?_
    rintro e w2 ⟨rfl, hb2⟩
    go_wp2_with fail
    go_ret
    exact ⟨rfl, hb2⟩
  · obtain ⟨k, rfl⟩ : ∃ k, s = k + 3 := ⟨s - 3, by omega⟩
    obtain ⟨M, hM⟩ : ∃ M, len + k = M := ⟨_, rfl⟩
    have hMi : (len : Int) + (k : Int) = (M : Int) := by omega
    have hd : decide (2000 < (len : Int)) = false := by simp; omega
    go_enter Try.func3, Try.ntmps3
    go_wp2_with fail
    refine (pad_at _ M w (by omega) hm (by omega) (by omega)).mono ?_
    rintro e w1 ⟨rfl, ho1, hb1⟩
    have hm1 := hm.below hb1
    have hP1 : Bs w1 (some ⟨w.heap.size, 0, none⟩) (2 + M) (2 + M) (padL zs M) := ho1.bs (padL_bytes _ _ hm.bytes) _ (length_padL _ _ (by omega)) (by omega)
    have hne : (2 + (M : Int) != (M : Int) + 2) = false := by rw [bne_eq_false_iff_eq]; omega
    clear ho1
    by_cases hk0 : k = 0
    · have hkd : decide ((0 : Int) < (k : Int)) = false := by simp; omega
      have hPW := hP1
      have hmW := hm1
      have hbW := hb1
      obtain ⟨c4, w4, hr4, ho4, hb4⟩ := run_append_new (P := Try.prog) Try.underlying22 Try.info_u8 22 (w1.alloc (Obj.cells #[Value.int IntKind.u8 0] 5)) _ (2 + M) (2 + M) _ (hPW.below ((Below.refl _ _).alloc (Nat.le_refl _) _)) (some ⟨w1.heap.size, 0, none⟩) 1 1 [0] (Bs.lit rfl rfl (bytes_lit rfl) rfl (by omega)) (by intro h; cases h) (by omega) (by omega)
      have hbW4 : Below w1.heap.size w1 w4 := ((Below.refl _ _).alloc (Nat.le_refl _) _).trans (hb4.mono (by simp))
      have hP4 := hPW.below hbW4
      have hm4 := hmW.below hbW4
      have hbw4 := hbW.trans (hbW4.mono hbW.size)
      generalize (w1.alloc (Obj.cells #[Value.int IntKind.u8 0] 5)).heap.size = g4 at *
      clear hb4 hbW4 hPW hmW hbW ho4
      go_wp2_with (at_builtin; refine wpList_append_run (by rfl) (.tmp 86) (.tmp 87) 22 (by rfl) _ _ _ _ (by rfl) (by rfl) hr4 ?_)
      refine (unpad_len _ w4 (by omega) (by omega)).mono ?_
      rintro e w' ⟨rfl, rfl⟩
      clear hr4
      have hc1 := cutTo hP4 .i64 (2 + (M : Int) - 1) (1 + M) (by omega) (by omega)
      go_wp2_with fail
      refine (unpad_len _ w4 (by omega) (by omega)).mono ?_
      rintro e w' ⟨rfl, rfl⟩
      clear hc1
      go_wp2_with fail
      refine (pad_bad _ w4 (by omega) (by omega)).mono ?_
      rintro e w' ⟨rfl, rfl⟩
      go_wp2_with fail
      refine (unpad_len _ w4 (by omega) (by omega)).mono ?_
      rintro e w' ⟨rfl, rfl⟩
      have hc2 := cutMid (some ⟨w.heap.size, 0, none⟩) (2 + M) (2 + M) .i64 .i64 2 (2 + (len : Int)) 2 (2 + len) len rfl (by omega) (by omega) (by omega) (by omega)
      have hmid : Bs w4 (cutA (some ⟨w.heap.size, 0, none⟩) (2 + M) 2) len (2 + M - 2) zs := by
        have := (hP4.cut 2 (by omega)).taken len (by omega)
        rw [← hzl, padL_row] at this
        rw [hzl] at this
        exact this
      generalize cutA (some ⟨w.heap.size, 0, none⟩) (2 + M) 2 = r4 at *
      go_wp2_with fail
      refine (same_any w4 (xs := zs) (ys := zs) (by simpa using hmid) hm4).mono ?_
      rintro e w' ⟨rfl, rfl⟩
      have hdz : decide (zs = zs) = true := by simp
      rw [hdz]
      go_wp2_with fail
      refine (awake_any w4).mono ?_
      rintro e w5 ⟨rfl, hb5⟩
      have hfin := hbw4.trans (hb5.mono hbw4.size)
      go_wp2_with fail
      go_ret
      exact ⟨rfl, hfin⟩
    · have hkd : decide ((0 : Int) < (k : Int)) = true := by simp; omega
      obtain ⟨t, ht⟩ : ∃ t : Nat, bits BinOp.and IntKind.i64 at_ 255 = (t : Int) := ⟨(at_ % 256).toNat, by rw [i64_and255]; omega⟩
      obtain ⟨r, hr⟩ : ∃ r : Nat, (t : Int) % (k : Int) = (r : Int) := ⟨t % k, by omega⟩
      have hrk : r < k := by have := Int.emod_lt_of_pos (t : Int) (show 0 < (k : Int) by omega); omega
      obtain ⟨c2, w2, hr2, ho2, hb2⟩ := run_append_new (P := Try.prog) Try.underlying22 Try.info_u8 22 (w1.alloc (Obj.cells #[] 5)) (some ⟨w1.heap.size, 0, none⟩) 0 0 [] (Bs.lit rfl rfl (bytes_lit rfl) rfl (by omega)) _ (2 + M) (2 + M) _ (hP1.below ((Below.refl _ _).alloc (Nat.le_refl _) _)) (by intro h; cases h) (by omega) (by omega)
      have hbW2 : Below w1.heap.size w1 w2 := ((Below.refl _ _).alloc (Nat.le_refl _) _).trans (hb2.mono (by simp))
      have hP2 := hP1.below hbW2
      have hm2 := hm1.below hbW2
      have hbw2 := hb1.trans (hbW2.mono hb1.size)
      have hgs : w1.heap.size ≤ (w1.alloc (Obj.cells #[] 5)).heap.size := by simp
      rw [List.nil_append] at ho2
      have hcell : w2.cell? ⟨(w1.alloc (Obj.cells #[] 5)).heap.size, len + 2 + r, none⟩ = some (.int .u8 0) := by
        rw [ho2.cell (len + 2 + r) (by omega), ← hzl, padL_zero zs M r (by omega)]
      have hfro := ho2.frozen (len + 2 + r)
      have ho3 := ho2.set (len + 2 + r) 1 (by omega)
      have hoa := OnlyAt.setCell (w1.alloc (Obj.cells #[] 5)).heap.size (len + 2 + r) w2 (.int .u8 1)
      have hlt1 := hP1.block_lt (by omega)
      generalize (w1.alloc (Obj.cells #[] 5)).heap.size = g2 at *
      have H3 := hide ho3
      have HA := hide hoa
      clear ho3 hoa ho2 hb2 hbW2
      go_wp2_with (at_builtin; refine wpList_append_run (by rfl) (.tmp 59) (.tmp 60) 22 (by rfl) _ _ _ _ (by rfl) (by rfl) hr2 ?_)
      have hq := (unhide H3).bs
      rw [Nat.zero_add] at hq
      have hdirt := padL_dirt zs M r (by omega) (by omega)
      rw [hzl] at hdirt
      refine (unpad_dirt M _ hq (by omega) len (by rw [hdirt.1, putL2_num len (by omega)]) (by omega) hdirt.2).mono ?_
      rintro e w3 ⟨rfl, hb3⟩
      have hbS : Below w.heap.size w (w2.setCell ⟨g2, len + 2 + r, none⟩ (.int .u8 1)) := hbw2.setCell (by show w.heap.size ≤ g2; omega) _
      have hbW := hbS.trans (hb3.mono hbS.size)
      have hmW := hm.below hbW
      have hPW := ((unhide HA).bs hP2 (by omega)).below hb3
      clear hdirt hq H3 HA hb3 hbS hcell hfro hr2 hP2 hm2 hbw2 hr ht
      obtain ⟨c4, w4, hr4, ho4, hb4⟩ := run_append_new (P := Try.prog) Try.underlying22 Try.info_u8 22 (w3.alloc (Obj.cells #[Value.int IntKind.u8 0] 5)) _ (2 + M) (2 + M) _ (hPW.below ((Below.refl _ _).alloc (Nat.le_refl _) _)) (some ⟨w3.heap.size, 0, none⟩) 1 1 [0] (Bs.lit rfl rfl (bytes_lit rfl) rfl (by omega)) (by intro h; cases h) (by omega) (by omega)
      have hbW4 : Below w3.heap.size w3 w4 := ((Below.refl _ _).alloc (Nat.le_refl _) _).trans (hb4.mono (by simp))
      have hP4 := hPW.below hbW4
      have hm4 := hmW.below hbW4
      have hbw4 := hbW.trans (hbW4.mono hbW.size)
      generalize (w3.alloc (Obj.cells #[Value.int IntKind.u8 0] 5)).heap.size = g4 at *
      clear hb4 hbW4 hPW hmW hbW ho4
      go_wp2_with (at_builtin; refine wpList_append_run (by rfl) (.tmp 86) (.tmp 87) 22 (by rfl) _ _ _ _ (by rfl) (by rfl) hr4 ?_)
      refine (unpad_len _ w4 (by omega) (by omega)).mono ?_
      rintro e w' ⟨rfl, rfl⟩
      clear hr4
      have hc1 := cutTo hP4 .i64 (2 + (M : Int) - 1) (1 + M) (by omega) (by omega)
      go_wp2_with fail
      refine (unpad_len _ w4 (by omega) (by omega)).mono ?_
      rintro e w' ⟨rfl, rfl⟩
      clear hc1
      go_wp2_with fail
      refine (pad_bad _ w4 (by omega) (by omega)).mono ?_
      rintro e w' ⟨rfl, rfl⟩
      go_wp2_with fail
      refine (unpad_len _ w4 (by omega) (by omega)).mono ?_
      rintro e w' ⟨rfl, rfl⟩
      have hc2 := cutMid (some ⟨w.heap.size, 0, none⟩) (2 + M) (2 + M) .i64 .i64 2 (2 + (len : Int)) 2 (2 + len) len rfl (by omega) (by omega) (by omega) (by omega)
      have hmid : Bs w4 (cutA (some ⟨w.heap.size, 0, none⟩) (2 + M) 2) len (2 + M - 2) zs := by
        have := (hP4.cut 2 (by omega)).taken len (by omega)
        rw [← hzl, padL_row] at this
        rw [hzl] at this
        exact this
      generalize cutA (some ⟨w.heap.size, 0, none⟩) (2 + M) 2 = r4 at *
      go_wp2_with fail
      refine (same_any w4 (xs := zs) (ys := zs) (by simpa using hmid) hm4).mono ?_
      rintro e w' ⟨rfl, rfl⟩
      have hdz : decide (zs = zs) = true := by simp
      rw [hdz]
      go_wp2_with fail
      refine (awake_any w4).mono ?_
      rintro e w5 ⟨rfl, hb5⟩
      have hfin := hbw4.trans (hb5.mono hbw4.size)
      go_wp2_with fail
      go_ret
      exact ⟨rfl, hfin⟩
#print axioms lePads_walk
end Go.Proofs.Ytaglibgcldhabaa
