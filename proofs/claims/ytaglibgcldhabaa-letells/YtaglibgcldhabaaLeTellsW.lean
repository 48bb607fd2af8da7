/- A call of the law LeTells answers true and turns nothing that was there: for every number below 2^64, every two ints, every two slices of bytes that can be read. -/
import Derived.Test.YtaglibgcldhabaaAwake1
import Derived.Test.YtaglibgcldhabaaRef1b
namespace Go.Proofs.Ytaglibgcldhabaa
open Go.RowKit

def padS (zs : List Int) (m : Int) : List Int × Bool := if 0 ≤ m ∧ m ≤ 60000 ∧ (zs.length : Int) ≤ m then (padL zs m.toNat, true) else ([], false)
def unpadS (zs : List Int) (m : Int) : List Int × Bool := match unpadL zs m with
  | some us => (us, true)
  | none => ([], false)
def putS (n s : Int) : List Int := if 0 ≤ s ∧ s ≤ 8 then putL n s.toNat else []

/-- How a call that hands back a row and a bool ends. -/
def EndsRow (w : World) (L : List Int × Bool) (e : Ending) (w' : World) : Prop :=
  Below w.heap.size w w' ∧ ∃ a cap, e = .returned (.tuple #[.slice a L.1.length cap, .bool L.2]) ∧ Bs w' a L.1.length cap L.1

theorem pad_gen {a : Option Addr} {len cap : Nat} {zs : List Int} (m : Int) (w : World) (h : Bs w a len cap zs) : Calls Try.prog 9 #[.slice a len cap, .int .i64 m] w (EndsRow w (padS zs m)) := by
  have hl := h.length
  have hl63 : len ≤ 9223372036854775807 := Nat.le_trans h.le_cap h.cap_le
  by_cases hp : 0 ≤ m ∧ m ≤ 60000 ∧ (zs.length : Int) ≤ m
  · obtain ⟨k, rfl⟩ := Int.eq_ofNat_of_zero_le hp.1
    refine (pad_ok k w h (by omega) (by omega)).mono ?_
    rintro e w' ⟨rfl, ho, hb⟩
    have e1 : padS zs (k : Int) = (padL zs k, true) := by unfold padS; rw [if_pos hp, Int.toNat_natCast]
    have e2 : (padL zs k).length = 2 + k := length_padL zs k (by omega)
    refine ⟨hb, some ⟨w.heap.size, 0, none⟩, 2 + k, ?_, ?_⟩
    · rw [e1]; simp only [e2]
    · rw [e1]; simp only [e2]; exact ho.bs (padL_bytes _ _ h.bytes) _ e2 (by omega)
  · refine (pad_bad m w (by omega) hl63).mono ?_
    rintro e w' ⟨rfl, rfl⟩
    have e1 : padS zs m = ([], false) := by unfold padS; rw [if_neg hp]
    rw [e1]
    exact ⟨Below.refl _ _, none, 0, rfl, Bs.nil _⟩

theorem rpad_gen {a : Option Addr} {len cap : Nat} {zs : List Int} (m : Int) (w : World) (h : Bs w a len cap zs) : Calls Try.prog 14 #[.slice a len cap, .int .i64 m] w (EndsRow w (padS zs m)) := by
  have hl := h.length
  have hl63 : len ≤ 9223372036854775807 := Nat.le_trans h.le_cap h.cap_le
  by_cases hp : 0 ≤ m ∧ m ≤ 60000 ∧ (zs.length : Int) ≤ m
  · obtain ⟨k, rfl⟩ := Int.eq_ofNat_of_zero_le hp.1
    refine (rpad_ok k w h (by omega) (by omega)).mono ?_
    rintro e w' ⟨a', cap', rfl, ho, hb⟩
    have e1 : padS zs (k : Int) = (padL zs k, true) := by unfold padS; rw [if_pos hp, Int.toNat_natCast]
    have e2 : (padL zs k).length = 2 + k := length_padL zs k (by omega)
    refine ⟨hb, a', cap', ?_, ?_⟩
    · rw [e1]; simp only [e2]
    · rw [e1]; simp only [e2]; exact ho.bs
  · refine (rpad_bad m w (by omega) hl63).mono ?_
    rintro e w' ⟨rfl, rfl⟩
    have e1 : padS zs m = ([], false) := by unfold padS; rw [if_neg hp]
    rw [e1]
    exact ⟨Below.refl _ _, none, 0, rfl, Bs.nil _⟩

theorem unpad_gen {a : Option Addr} {len cap : Nat} {zs : List Int} (m : Int) (w : World) (h : Bs w a len cap zs) : Calls Try.prog 10 #[.slice a len cap, .int .i64 m] w (EndsRow w (unpadS zs m)) := by
  refine (unpad_any m w h).mono ?_
  rintro e w' ⟨hb, ⟨us, g, hu, rfl, hg, ho⟩ | ⟨hu, rfl⟩⟩
  · have e1 : unpadS zs m = (us, true) := by unfold unpadS; rw [hu]
    rw [e1]
    have hub : IsBytes us := by
      unfold unpadL at hu
      split at hu
      · cases hu; exact (h.bytes.drop _).take _
      · cases hu
    have hul : us.length ≤ 9223372036854775807 := by
      have h1 := h.length
      have h2 := h.le_cap
      have h3 := h.cap_le
      unfold unpadL at hu
      split at hu
      · cases hu; simp; omega
      · cases hu
    exact ⟨hb, _, _, rfl, ho.bs hub _ rfl hul⟩
  · have e1 : unpadS zs m = ([], false) := by unfold unpadS; rw [hu]
    rw [e1]
    exact ⟨hb, none, 0, rfl, Bs.nil _⟩

theorem runpad_gen {a : Option Addr} {len cap : Nat} {zs : List Int} (m : Int) (w : World) (h : Bs w a len cap zs) : Calls Try.prog 15 #[.slice a len cap, .int .i64 m] w (EndsRow w (unpadS zs m)) := by
  refine (runpad_any m w h).mono ?_
  rintro e w' ⟨hb, ⟨us, a', cap', hu, rfl, ho⟩ | ⟨hu, rfl⟩⟩
  · have e1 : unpadS zs m = (us, true) := by unfold unpadS; rw [hu]
    rw [e1]
    exact ⟨hb, _, _, rfl, ho.bs⟩
  · have e1 : unpadS zs m = ([], false) := by unfold unpadS; rw [hu]
    rw [e1]
    exact ⟨hb, none, 0, rfl, Bs.nil _⟩

def EndsOne (w : World) (L : List Int) (e : Ending) (w' : World) : Prop :=
  Below w.heap.size w w' ∧ ∃ a cap, e = .returned (.slice a L.length cap) ∧ Bs w' a L.length cap L
theorem put_gen (n s : Int) (w : World) (hn : 0 ≤ n ∧ n < 18446744073709551616) : Calls Try.prog 12 #[.int .u64 n, .int .i64 s] w (EndsOne w (putS n s)) := by
  by_cases hp : 0 ≤ s ∧ s ≤ 8
  · obtain ⟨k, rfl⟩ := Int.eq_ofNat_of_zero_le hp.1
    refine (put_ok n k w hn (by omega)).mono ?_
    rintro e w' ⟨rfl, ho, hb⟩
    have e1 : putS n (k : Int) = putL n k := by unfold putS; rw [if_pos hp, Int.toNat_natCast]
    rw [e1]
    exact ⟨hb, some ⟨w.heap.size, 0, none⟩, k, by rw [length_putL], by rw [length_putL]; exact ho.bs (putL_bytes _ _) k (length_putL _ _) (by omega)⟩
  · refine (put_bad n s w (by omega)).mono ?_
    rintro e w' ⟨rfl, rfl⟩
    have e1 : putS n s = [] := by unfold putS; rw [if_neg hp]
    rw [e1]
    exact ⟨Below.refl _ _, none, 0, rfl, Bs.nil _⟩
theorem rput_gen (n s : Int) (w : World) (hn : 0 ≤ n ∧ n < 18446744073709551616) : Calls Try.prog 16 #[.int .u64 n, .int .i64 s] w (EndsOne w (putS n s)) := by
  by_cases hp : 0 ≤ s ∧ s ≤ 8
  · obtain ⟨k, rfl⟩ := Int.eq_ofNat_of_zero_le hp.1
    refine (rput_ok n k w hn (by omega)).mono ?_
    rintro e w' ⟨a', c', rfl, ho, hb⟩
    have e1 : putS n (k : Int) = putL n k := by unfold putS; rw [if_pos hp, Int.toNat_natCast]
    rw [e1]
    exact ⟨hb, a', c', by rw [length_putL], by rw [length_putL]; exact ho.bs⟩
  · refine (rput_bad n s w (by omega)).mono ?_
    rintro e w' ⟨rfl, rfl⟩
    have e1 : putS n s = [] := by unfold putS; rw [if_neg hp]
    rw [e1]
    exact ⟨Below.refl _ _, none, 0, rfl, Bs.nil _⟩
theorem same_one {a b : Option Addr} {n c m d : Nat} {xs : List Int} (w : World) (hx : Bs w a n c xs) (hy : Bs w b m d xs) :
    Calls Try.prog 11 #[.slice a n c, .slice b m d] w fun e w' => e = .returned (.bool true) ∧ w = w' := by
  refine (same_any w hx hy).mono ?_
  rintro e w' ⟨rfl, rfl⟩
  exact ⟨by simp, rfl⟩

set_option maxRecDepth 100000 in
set_option maxHeartbeats 4000000 in
theorem leTells_walk (n s0 m0 : Int) (a : Option Addr) (len cap : Nat) (zs : List Int) (a' : Option Addr) (len' cap' : Nat) (ys : List Int) (w : World) (hn : 0 ≤ n ∧ n < 18446744073709551616) (hb : Bs w a len cap zs) (hc : Bs w a' len' cap' ys) (hr : cap ≤ 140737488351232) (hr' : cap' ≤ 140737488351232) :
    Calls Try.prog 5 #[.int .u64 n, .int .i64 s0, .slice a len cap, .slice a' len' cap', .int .i64 m0] w fun e w' => e = .returned (.bool true) ∧ Below w.heap.size w w' := by
  have hl1 := hb.le_cap
  have hl2 := hc.le_cap
  have hz1 := hb.length
  have hz2 := hc.length
  by_cases hbig : 3000 < len + len'
  · have hbi : 3000 < (len : Int) + (len' : Int) := by omega
    go_enter Try.func5, Try.ntmps5
    go_wp2_with fail
    refine (awake_any w).mono ?_
    rintro e w2 ⟨rfl, hb2⟩
    go_wp2_with fail
    go_ret
    exact ⟨rfl, hb2⟩
  have hbd : decide (3000 < (len : Int) + (len' : Int)) = false := by simp; omega
  go_enter Try.func5, Try.ntmps5
  go_wp2_with fail
  go_loopw [1, 4, 11] (fun sz mo i wr => ∃ (j : Nat) (s m : Int), j ≤ 2 ∧ i = .int .i64 j ∧ sz = .int .i64 s ∧ mo = .int .i64 m ∧ Below w.heap.size w wr) (fun _ _ i _ => 2 - (intOf i).toNat)
  case atStart => exact ⟨0, s0, m0, by omega, rfl, rfl, rfl, Below.refl _ _⟩
  case round =>
    obtain ⟨j, s, m, hj, rfl, rfl, rfl, hbel⟩ := hrel
    by_cases hlt : j < 2
    · have hb1 := hb.below hbel
      have hc1 := hc.below hbel
      go_wp2_with fail
      refine (pad_gen m wr hb1).mono ?_
      rintro e w1 ⟨hx1, pa, pc, rfl, hP⟩
      have hb2 := hb1.below hx1
      have hc2 := hc1.below hx1
      have hbel1 := hbel.trans (hx1.mono hbel.size)
      clear hb1 hc1 hbel hx1
      go_wp2_with fail
      refine (rpad_gen m w1 hb2).mono ?_
      rintro e w2 ⟨hx2, qa, qc, rfl, hQ⟩
      generalize padS zs m = PS at *
      obtain ⟨PL, PB⟩ := PS
      simp only at hP hQ
      have hP3 := hP.below hx2
      have hb3 := hb2.below hx2
      have hc3 := hc2.below hx2
      have hbel2 := hbel1.trans (hx2.mono hbel1.size)
      clear hb2 hc2 hbel1 hx2 hP
      go_wp2_with fail
      refine (unpad_gen m w2 hc3).mono ?_
      rintro e w3 ⟨hx3, ua, uc, rfl, hU⟩
      have hP4 := hP3.below hx3
      have hQ4 := hQ.below hx3
      have hb4 := hb3.below hx3
      have hc4 := hc3.below hx3
      have hbel3 := hbel2.trans (hx3.mono hbel2.size)
      clear hb3 hc3 hbel2 hx3 hP3 hQ
      go_wp2_with fail
      refine (runpad_gen m w3 hc4).mono ?_
      rintro e w4 ⟨hx4, va, vc, rfl, hV⟩
      generalize unpadS ys m = US at *
      obtain ⟨UL, UB⟩ := US
      simp only at hU hV
      have hP5 := hP4.below hx4
      have hQ5 := hQ4.below hx4
      have hU5 := hU.below hx4
      have hb5 := hb4.below hx4
      have hc5 := hc4.below hx4
      have hbel4 := hbel3.trans (hx4.mono hbel3.size)
      clear hb4 hc4 hbel3 hx4 hP4 hQ4 hU
      have hBB : ∀ x : Bool, (x != x) = false := fun x => by cases x <;> rfl
      go_wp2_with fail
      refine (same_one w4 hP5 hQ5).mono ?_
      rintro e w' ⟨rfl, rfl⟩
      go_wp2_with fail
      refine (same_one w4 hU5 hV).mono ?_
      rintro e w' ⟨rfl, rfl⟩
      clear hP5 hQ5 hU5 hV
      go_wp2_with fail
      refine (put_gen n s w4 hn).mono ?_
      rintro e w5 ⟨hx5, ta, tc, rfl, hT⟩
      go_wp2_with fail
      refine (rput_gen n s w5 hn).mono ?_
      rintro e w6 ⟨hx6, ra, rc, rfl, hR⟩
      have hT6 := hT.below hx6
      have hb6 := (hb5.below hx5).below hx6
      have hc6 := (hc5.below hx5).below hx6
      have hbel5 := hbel4.trans (hx5.mono hbel4.size)
      have hbel6 := hbel5.trans (hx6.mono hbel5.size)
      clear hx5 hx6 hT hb5 hc5 hbel4 hbel5
      generalize putS n s = TL at *
      go_wp2_with fail
      refine (same_one w6 hT6 hR).mono ?_
      rintro e w' ⟨rfl, rfl⟩
      clear hT6 hR
      go_wp2_with fail
      refine (get_any w6 hb6).mono ?_
      rintro e w' ⟨rfl, rfl⟩
      go_wp2_with fail
      refine (rget_any w6 hb6).mono ?_
      rintro e w' ⟨rfl, rfl⟩
      go_wp2_with fail
      refine (sum_lit [⟨a, len, cap, zs⟩, ⟨a', len', cap', ys⟩] #[.slice a len cap, .slice a' len' cap'] 2 w6 rfl rfl (by omega) (by
        intro p hp
        simp at hp
        rcases hp with rfl | rfl
        · exact hb6
        · exact hc6)).mono ?_
      rintro e w' ⟨rfl, rfl⟩
      have hF1 : Hid (fnv (partsBytes [⟨a, len, cap, zs⟩, ⟨a', len', cap', ys⟩]) = fnv (zs ++ ys)) := by
        show _ = _
        simp [partsBytes]
      rw [hF1.out]
      have hb7 := hb6.below ((Below.refl w6.heap.size w6).alloc (Nat.le_refl _) (Obj.cells #[Value.slice a len cap, Value.slice a' len' cap'] 22))
      have hc7 := hc6.below ((Below.refl w6.heap.size w6).alloc (Nat.le_refl _) (Obj.cells #[Value.slice a len cap, Value.slice a' len' cap'] 22))
      have hbel7 := hbel6.alloc hbel6.size (Obj.cells #[Value.slice a len cap, Value.slice a' len' cap'] 22)
      generalize w6.alloc (Obj.cells #[Value.slice a len cap, Value.slice a' len' cap'] 22) = w7 at *
      clear hb6 hc6 hbel6 hF1
      generalize w6.heap.size = g6 at *
      have hx7 : Below w7.heap.size w7 (w7.alloc (Obj.cells #[] 5)) := (Below.refl _ _).alloc (Nat.le_refl _) _
      obtain ⟨a8, c8, w8, hr8, ho8, hg8, _⟩ := run_append_bytes (P := Try.prog) Try.underlying22 Try.info_u8 22 w7.heap.size (w7.alloc (Obj.cells #[] 5)) (some ⟨w7.heap.size, 0, none⟩) 0 0 [] (OwnB.owns (E := 5) (heap_alloc_new w7 (Obj.cells #[] 5)) IsBytes.nil rfl (by omega) (Nat.le_refl _)) a len cap zs (hb7.below hx7) (by omega) hx7.size
      have hx8 : Below w7.heap.size w7 w8 := hx7.grown hg8 hx7.size (by intro k hk; simp [Value.ownBlock] at hk; omega)
      obtain ⟨a9, c9, w9, hr9, ho9, hg9, _⟩ := run_append_bytes (P := Try.prog) Try.underlying22 Try.info_u8 22 w7.heap.size w8 a8 (0 + len) c8 _ ho8 a' len' cap' ys (hc7.below hx8) (by omega) hx8.size
      have hx9 : Below w7.heap.size w7 w9 := hx8.grown hg9 hx8.size (fun k hk => (ho8.2.2.lt k hk).1)
      have hbel9 := hbel7.trans (hx9.mono hbel7.size)
      have hS9 := ho9.bs
      rw [List.nil_append] at hS9
      simp only [Nat.zero_add] at hr8 hr9 hS9
      clear ho8 ho9 hg8 hg9 hx7 hx8 hx9 hbel7 hb7 hc7
      go_wp2_with (first | (at_builtin; refine wpList_append_run (by rfl) (.tmp 97) (.tmp 98) 22 (by rfl) _ _ _ _ (by rfl) (by rfl) hr8 ?_) | (at_builtin; refine wpList_append_run (by rfl) (.tmp 99) (.tmp 100) 22 (by rfl) _ _ _ _ (by rfl) (by rfl) hr9 ?_))
      refine (rsum_any w9 hS9).mono ?_
      rintro e w' ⟨rfl, rfl⟩
      clear hr8 hr9 hS9
      generalize fnv (zs ++ ys) = FV at *
      go_wp2_with fail
      go_roundw
      case rel => exact ⟨j + 1, _, _, by omega, by go_num, rfl, rfl, hbel9⟩
      case measure => simp [intOf]; omega
    · go_wp2_with fail
      refine (awake_any wr).mono ?_
      rintro e w2 ⟨rfl, hb2⟩
      have hfin := hbel.trans (hb2.mono hbel.size)
      go_wp2_with fail
      go_ret
      exact ⟨rfl, hfin⟩
#print axioms leTells_walk
end Go.Proofs.Ytaglibgcldhabaa
