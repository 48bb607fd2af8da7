
/- The law PathForms answers true for every number, wherever bits.deBruijn64tab reads as its text says; nothing that was there is turned. -/
import Derived.Test.YtmaknnlccmfmpaaDoorTrAwake
namespace Go.Proofs.YtmaknnlccmfmpaaDoor
open Go.RowKit
set_option maxRecDepth 20000

theorem size_pf : (Tryd.prog.info? 30).map (·.size) = some 6 := by kernel_rfl
/-- The table, as it lies in memory. -/
def tabP : Array Value := #[Value.int .i64 1, Value.int .i64 0, Value.int .i64 0, Value.int .i64 0, Value.bool true, Value.int .i64 1, Value.int .i64 1, Value.int .i64 0, Value.int .i64 1, Value.int .i64 0, Value.bool false, Value.int .i64 1, Value.int .i64 1, Value.int .i64 1, Value.int .i64 0, Value.int .i64 0, Value.bool false, Value.int .i64 0, Value.int .i64 2, Value.int .i64 1, Value.int .i64 1, Value.int .i64 2, Value.bool true, Value.int .i64 2, Value.int .i64 3, Value.int .i64 0, Value.int .i64 0, Value.int .i64 0, Value.bool false, Value.int .i64 0, Value.int .i64 0, Value.int .i64 0, Value.int .i64 0, Value.int .i64 0, Value.bool false, Value.int .i64 0, Value.int .i64 (-4), Value.int .i64 0, Value.int .i64 0, Value.int .i64 0, Value.bool false, Value.int .i64 0, Value.int .i64 4, Value.int .i64 (-1), Value.int .i64 0, Value.int .i64 0, Value.bool false, Value.int .i64 0, Value.int .i64 4, Value.int .i64 3, Value.int .i64 (-1), Value.int .i64 0, Value.bool false, Value.int .i64 3, Value.int .i64 4, Value.int .i64 3, Value.int .i64 3, Value.int .i64 0, Value.bool false, Value.int .i64 3, Value.int .i64 65536, Value.int .i64 65535, Value.int .i64 16, Value.int .i64 131070, Value.bool true, Value.int .i64 17, Value.int .i64 131072, Value.int .i64 0, Value.int .i64 0, Value.int .i64 0, Value.bool false, Value.int .i64 0]
/-- What is known of a row. -/
structure RowP (n a l t : Int) (o : Bool) (c : Nat) : Prop where
  hn : -9223372036854775808 ≤ n ∧ n ≤ 9223372036854775807
  at_ : atN n a l = t
  ok : atB n a l = o
  on : (wayL n a).length = c
  me : 0 ≤ meetN n a a ∧ 0 < c ∨ meetN n a a = -1 ∧ c = 0
theorem rowP (J : Nat) (hJ : J < 12) (W : World) (g : Nat) (hn : W.heap[g]? = some (.cells tabP 30 (0, 0))) :
    ∃ (n a l t : Int) (o : Bool) (c : Nat), W.rangeAt g (J * 6) [.int .i64 n, .int .i64 a, .int .i64 l, .int .i64 t, .bool o, .int .i64 (c : Int)] ∧ RowP n a l t o c := by
  have : J = 0 ∨ J = 1 ∨ J = 2 ∨ J = 3 ∨ J = 4 ∨ J = 5 ∨ J = 6 ∨ J = 7 ∨ J = 8 ∨ J = 9 ∨ J = 10 ∨ J = 11 := by omega
  rcases this with rfl | rfl | rfl | rfl | rfl | rfl | rfl | rfl | rfl | rfl | rfl | rfl
  · refine ⟨1, 0, 0, 0, true, 1, fun i v hv => ?_, ⟨by decide, by decide +kernel, by decide +kernel, by decide +kernel, by decide +kernel⟩⟩
    match i, hv with
    | 0, hv => cases hv; exact cell_of_row W g 0 _ _ _ hn
    | 1, hv => cases hv; exact cell_of_row W g 1 _ _ _ hn
    | 2, hv => cases hv; exact cell_of_row W g 2 _ _ _ hn
    | 3, hv => cases hv; exact cell_of_row W g 3 _ _ _ hn
    | 4, hv => cases hv; exact cell_of_row W g 4 _ _ _ hn
    | 5, hv => cases hv; exact cell_of_row W g 5 _ _ _ hn
    | i + 6, hv => cases hv
  · refine ⟨1, 0, 1, 0, false, 1, fun i v hv => ?_, ⟨by decide, by decide +kernel, by decide +kernel, by decide +kernel, by decide +kernel⟩⟩
    match i, hv with
    | 0, hv => cases hv; exact cell_of_row W g 6 _ _ _ hn
    | 1, hv => cases hv; exact cell_of_row W g 7 _ _ _ hn
    | 2, hv => cases hv; exact cell_of_row W g 8 _ _ _ hn
    | 3, hv => cases hv; exact cell_of_row W g 9 _ _ _ hn
    | 4, hv => cases hv; exact cell_of_row W g 10 _ _ _ hn
    | 5, hv => cases hv; exact cell_of_row W g 11 _ _ _ hn
    | i + 6, hv => cases hv
  · refine ⟨1, 1, 0, 0, false, 0, fun i v hv => ?_, ⟨by decide, by decide +kernel, by decide +kernel, by decide +kernel, by decide +kernel⟩⟩
    match i, hv with
    | 0, hv => cases hv; exact cell_of_row W g 12 _ _ _ hn
    | 1, hv => cases hv; exact cell_of_row W g 13 _ _ _ hn
    | 2, hv => cases hv; exact cell_of_row W g 14 _ _ _ hn
    | 3, hv => cases hv; exact cell_of_row W g 15 _ _ _ hn
    | 4, hv => cases hv; exact cell_of_row W g 16 _ _ _ hn
    | 5, hv => cases hv; exact cell_of_row W g 17 _ _ _ hn
    | i + 6, hv => cases hv
  · refine ⟨2, 1, 1, 2, true, 2, fun i v hv => ?_, ⟨by decide, by decide +kernel, by decide +kernel, by decide +kernel, by decide +kernel⟩⟩
    match i, hv with
    | 0, hv => cases hv; exact cell_of_row W g 18 _ _ _ hn
    | 1, hv => cases hv; exact cell_of_row W g 19 _ _ _ hn
    | 2, hv => cases hv; exact cell_of_row W g 20 _ _ _ hn
    | 3, hv => cases hv; exact cell_of_row W g 21 _ _ _ hn
    | 4, hv => cases hv; exact cell_of_row W g 22 _ _ _ hn
    | 5, hv => cases hv; exact cell_of_row W g 23 _ _ _ hn
    | i + 6, hv => cases hv
  · refine ⟨3, 0, 0, 0, false, 0, fun i v hv => ?_, ⟨by decide, by decide +kernel, by decide +kernel, by decide +kernel, by decide +kernel⟩⟩
    match i, hv with
    | 0, hv => cases hv; exact cell_of_row W g 24 _ _ _ hn
    | 1, hv => cases hv; exact cell_of_row W g 25 _ _ _ hn
    | 2, hv => cases hv; exact cell_of_row W g 26 _ _ _ hn
    | 3, hv => cases hv; exact cell_of_row W g 27 _ _ _ hn
    | 4, hv => cases hv; exact cell_of_row W g 28 _ _ _ hn
    | 5, hv => cases hv; exact cell_of_row W g 29 _ _ _ hn
    | i + 6, hv => cases hv
  · refine ⟨0, 0, 0, 0, false, 0, fun i v hv => ?_, ⟨by decide, by decide +kernel, by decide +kernel, by decide +kernel, by decide +kernel⟩⟩
    match i, hv with
    | 0, hv => cases hv; exact cell_of_row W g 30 _ _ _ hn
    | 1, hv => cases hv; exact cell_of_row W g 31 _ _ _ hn
    | 2, hv => cases hv; exact cell_of_row W g 32 _ _ _ hn
    | 3, hv => cases hv; exact cell_of_row W g 33 _ _ _ hn
    | 4, hv => cases hv; exact cell_of_row W g 34 _ _ _ hn
    | 5, hv => cases hv; exact cell_of_row W g 35 _ _ _ hn
    | i + 6, hv => cases hv
  · refine ⟨-4, 0, 0, 0, false, 0, fun i v hv => ?_, ⟨by decide, by decide +kernel, by decide +kernel, by decide +kernel, by decide +kernel⟩⟩
    match i, hv with
    | 0, hv => cases hv; exact cell_of_row W g 36 _ _ _ hn
    | 1, hv => cases hv; exact cell_of_row W g 37 _ _ _ hn
    | 2, hv => cases hv; exact cell_of_row W g 38 _ _ _ hn
    | 3, hv => cases hv; exact cell_of_row W g 39 _ _ _ hn
    | 4, hv => cases hv; exact cell_of_row W g 40 _ _ _ hn
    | 5, hv => cases hv; exact cell_of_row W g 41 _ _ _ hn
    | i + 6, hv => cases hv
  · refine ⟨4, -1, 0, 0, false, 0, fun i v hv => ?_, ⟨by decide, by decide +kernel, by decide +kernel, by decide +kernel, by decide +kernel⟩⟩
    match i, hv with
    | 0, hv => cases hv; exact cell_of_row W g 42 _ _ _ hn
    | 1, hv => cases hv; exact cell_of_row W g 43 _ _ _ hn
    | 2, hv => cases hv; exact cell_of_row W g 44 _ _ _ hn
    | 3, hv => cases hv; exact cell_of_row W g 45 _ _ _ hn
    | 4, hv => cases hv; exact cell_of_row W g 46 _ _ _ hn
    | 5, hv => cases hv; exact cell_of_row W g 47 _ _ _ hn
    | i + 6, hv => cases hv
  · refine ⟨4, 3, -1, 0, false, 3, fun i v hv => ?_, ⟨by decide, by decide +kernel, by decide +kernel, by decide +kernel, by decide +kernel⟩⟩
    match i, hv with
    | 0, hv => cases hv; exact cell_of_row W g 48 _ _ _ hn
    | 1, hv => cases hv; exact cell_of_row W g 49 _ _ _ hn
    | 2, hv => cases hv; exact cell_of_row W g 50 _ _ _ hn
    | 3, hv => cases hv; exact cell_of_row W g 51 _ _ _ hn
    | 4, hv => cases hv; exact cell_of_row W g 52 _ _ _ hn
    | 5, hv => cases hv; exact cell_of_row W g 53 _ _ _ hn
    | i + 6, hv => cases hv
  · refine ⟨4, 3, 3, 0, false, 3, fun i v hv => ?_, ⟨by decide, by decide +kernel, by decide +kernel, by decide +kernel, by decide +kernel⟩⟩
    match i, hv with
    | 0, hv => cases hv; exact cell_of_row W g 54 _ _ _ hn
    | 1, hv => cases hv; exact cell_of_row W g 55 _ _ _ hn
    | 2, hv => cases hv; exact cell_of_row W g 56 _ _ _ hn
    | 3, hv => cases hv; exact cell_of_row W g 57 _ _ _ hn
    | 4, hv => cases hv; exact cell_of_row W g 58 _ _ _ hn
    | 5, hv => cases hv; exact cell_of_row W g 59 _ _ _ hn
    | i + 6, hv => cases hv
  · refine ⟨65536, 65535, 16, 131070, true, 17, fun i v hv => ?_, ⟨by decide, by decide +kernel, by decide +kernel, by decide +kernel, by decide +kernel⟩⟩
    match i, hv with
    | 0, hv => cases hv; exact cell_of_row W g 60 _ _ _ hn
    | 1, hv => cases hv; exact cell_of_row W g 61 _ _ _ hn
    | 2, hv => cases hv; exact cell_of_row W g 62 _ _ _ hn
    | 3, hv => cases hv; exact cell_of_row W g 63 _ _ _ hn
    | 4, hv => cases hv; exact cell_of_row W g 64 _ _ _ hn
    | 5, hv => cases hv; exact cell_of_row W g 65 _ _ _ hn
    | i + 6, hv => cases hv
  · refine ⟨131072, 0, 0, 0, false, 0, fun i v hv => ?_, ⟨by decide, by decide +kernel, by decide +kernel, by decide +kernel, by decide +kernel⟩⟩
    match i, hv with
    | 0, hv => cases hv; exact cell_of_row W g 66 _ _ _ hn
    | 1, hv => cases hv; exact cell_of_row W g 67 _ _ _ hn
    | 2, hv => cases hv; exact cell_of_row W g 68 _ _ _ hn
    | 3, hv => cases hv; exact cell_of_row W g 69 _ _ _ hn
    | 4, hv => cases hv; exact cell_of_row W g 70 _ _ _ hn
    | 5, hv => cases hv; exact cell_of_row W g 71 _ _ _ hn
    | i + 6, hv => cases hv

set_option maxRecDepth 100000 in
set_option maxHeartbeats 16000000 in
theorem pathForms_walk (which : Int) (w : World) (hg : Tab w) :
    Calls Tryd.prog 4 #[.int .i64 which] w fun e w' => e = .returned (.bool true) ∧ Below w.heap.size w w' := by
  have hlt := hg.lt
  obtain ⟨J, hJ, hJ12⟩ : ∃ J : Nat, (bits .and .i64 which 255).tmod 12 = (J : Int) ∧ J < 12 := by
    rw [i64_and255, Int.tmod_eq_emod_of_nonneg (Int.emod_nonneg _ (by decide))]
    exact ⟨(which % 256 % 12).toNat, by omega, by omega⟩
  obtain ⟨n, a, l, t, o, c, hr, hP⟩ := rowP J hJ12 (w.alloc (Obj.cells #[Value.int .i64 1, Value.int .i64 0, Value.int .i64 0, Value.int .i64 0, Value.bool true, Value.int .i64 1, Value.int .i64 1, Value.int .i64 0, Value.int .i64 1, Value.int .i64 0, Value.bool false, Value.int .i64 1, Value.int .i64 1, Value.int .i64 1, Value.int .i64 0, Value.int .i64 0, Value.bool false, Value.int .i64 0, Value.int .i64 2, Value.int .i64 1, Value.int .i64 1, Value.int .i64 2, Value.bool true, Value.int .i64 2, Value.int .i64 3, Value.int .i64 0, Value.int .i64 0, Value.int .i64 0, Value.bool false, Value.int .i64 0, Value.int .i64 0, Value.int .i64 0, Value.int .i64 0, Value.int .i64 0, Value.bool false, Value.int .i64 0, Value.int .i64 (-4), Value.int .i64 0, Value.int .i64 0, Value.int .i64 0, Value.bool false, Value.int .i64 0, Value.int .i64 4, Value.int .i64 (-1), Value.int .i64 0, Value.int .i64 0, Value.bool false, Value.int .i64 0, Value.int .i64 4, Value.int .i64 3, Value.int .i64 (-1), Value.int .i64 0, Value.bool false, Value.int .i64 3, Value.int .i64 4, Value.int .i64 3, Value.int .i64 3, Value.int .i64 0, Value.bool false, Value.int .i64 3, Value.int .i64 65536, Value.int .i64 65535, Value.int .i64 16, Value.int .i64 131070, Value.bool true, Value.int .i64 17, Value.int .i64 131072, Value.int .i64 0, Value.int .i64 0, Value.int .i64 0, Value.bool false, Value.int .i64 0] 30)) w.heap.size (heap_alloc_new w _)
  have hbt := below_alloc (Below.refl w.heap.size w) (Obj.cells #[Value.int .i64 1, Value.int .i64 0, Value.int .i64 0, Value.int .i64 0, Value.bool true, Value.int .i64 1, Value.int .i64 1, Value.int .i64 0, Value.int .i64 1, Value.int .i64 0, Value.bool false, Value.int .i64 1, Value.int .i64 1, Value.int .i64 1, Value.int .i64 0, Value.int .i64 0, Value.bool false, Value.int .i64 0, Value.int .i64 2, Value.int .i64 1, Value.int .i64 1, Value.int .i64 2, Value.bool true, Value.int .i64 2, Value.int .i64 3, Value.int .i64 0, Value.int .i64 0, Value.int .i64 0, Value.bool false, Value.int .i64 0, Value.int .i64 0, Value.int .i64 0, Value.int .i64 0, Value.int .i64 0, Value.bool false, Value.int .i64 0, Value.int .i64 (-4), Value.int .i64 0, Value.int .i64 0, Value.int .i64 0, Value.bool false, Value.int .i64 0, Value.int .i64 4, Value.int .i64 (-1), Value.int .i64 0, Value.int .i64 0, Value.bool false, Value.int .i64 0, Value.int .i64 4, Value.int .i64 3, Value.int .i64 (-1), Value.int .i64 0, Value.bool false, Value.int .i64 3, Value.int .i64 4, Value.int .i64 3, Value.int .i64 3, Value.int .i64 0, Value.bool false, Value.int .i64 3, Value.int .i64 65536, Value.int .i64 65535, Value.int .i64 16, Value.int .i64 131070, Value.bool true, Value.int .i64 17, Value.int .i64 131072, Value.int .i64 0, Value.int .i64 0, Value.int .i64 0, Value.bool false, Value.int .i64 0] 30)
  go_enter Tryd.func4, Tryd.ntmps4
  go_wp2_with (refine wpList_load_mid rfl 30 _ (by rfl) w.heap.size (J * 6) (by rfl) [.int .i64 n, .int .i64 a, .int .i64 l, .int .i64 t, .bool o, .int .i64 (c : Int)] _ hr Tryd.underlying30 rfl size_pf ?_)
  have hrow := heap_alloc_new (w.alloc (Obj.cells #[Value.int .i64 1, Value.int .i64 0, Value.int .i64 0, Value.int .i64 0, Value.bool true, Value.int .i64 1, Value.int .i64 1, Value.int .i64 0, Value.int .i64 1, Value.int .i64 0, Value.bool false, Value.int .i64 1, Value.int .i64 1, Value.int .i64 1, Value.int .i64 0, Value.int .i64 0, Value.bool false, Value.int .i64 0, Value.int .i64 2, Value.int .i64 1, Value.int .i64 1, Value.int .i64 2, Value.bool true, Value.int .i64 2, Value.int .i64 3, Value.int .i64 0, Value.int .i64 0, Value.int .i64 0, Value.bool false, Value.int .i64 0, Value.int .i64 0, Value.int .i64 0, Value.int .i64 0, Value.int .i64 0, Value.bool false, Value.int .i64 0, Value.int .i64 (-4), Value.int .i64 0, Value.int .i64 0, Value.int .i64 0, Value.bool false, Value.int .i64 0, Value.int .i64 4, Value.int .i64 (-1), Value.int .i64 0, Value.int .i64 0, Value.bool false, Value.int .i64 0, Value.int .i64 4, Value.int .i64 3, Value.int .i64 (-1), Value.int .i64 0, Value.bool false, Value.int .i64 3, Value.int .i64 4, Value.int .i64 3, Value.int .i64 3, Value.int .i64 0, Value.bool false, Value.int .i64 3, Value.int .i64 65536, Value.int .i64 65535, Value.int .i64 16, Value.int .i64 131070, Value.bool true, Value.int .i64 17, Value.int .i64 131072, Value.int .i64 0, Value.int .i64 0, Value.int .i64 0, Value.bool false, Value.int .i64 0] 30)) (Obj.cells #[.int .i64 n, .int .i64 a, .int .i64 l, .int .i64 t, .bool o, .int .i64 (c : Int)] 30)
  rw [size_alloc] at hrow
  have hB := below_alloc hbt (Obj.cells #[.int .i64 n, .int .i64 a, .int .i64 l, .int .i64 t, .bool o, .int .i64 (c : Int)] 30)
  clear hr hbt
  generalize ((w.alloc (Obj.cells #[Value.int .i64 1, Value.int .i64 0, Value.int .i64 0, Value.int .i64 0, Value.bool true, Value.int .i64 1, Value.int .i64 1, Value.int .i64 0, Value.int .i64 1, Value.int .i64 0, Value.bool false, Value.int .i64 1, Value.int .i64 1, Value.int .i64 1, Value.int .i64 0, Value.int .i64 0, Value.bool false, Value.int .i64 0, Value.int .i64 2, Value.int .i64 1, Value.int .i64 1, Value.int .i64 2, Value.bool true, Value.int .i64 2, Value.int .i64 3, Value.int .i64 0, Value.int .i64 0, Value.int .i64 0, Value.bool false, Value.int .i64 0, Value.int .i64 0, Value.int .i64 0, Value.int .i64 0, Value.int .i64 0, Value.bool false, Value.int .i64 0, Value.int .i64 (-4), Value.int .i64 0, Value.int .i64 0, Value.int .i64 0, Value.bool false, Value.int .i64 0, Value.int .i64 4, Value.int .i64 (-1), Value.int .i64 0, Value.int .i64 0, Value.bool false, Value.int .i64 0, Value.int .i64 4, Value.int .i64 3, Value.int .i64 (-1), Value.int .i64 0, Value.bool false, Value.int .i64 3, Value.int .i64 4, Value.int .i64 3, Value.int .i64 3, Value.int .i64 0, Value.bool false, Value.int .i64 3, Value.int .i64 65536, Value.int .i64 65535, Value.int .i64 16, Value.int .i64 131070, Value.bool true, Value.int .i64 17, Value.int .i64 131072, Value.int .i64 0, Value.int .i64 0, Value.int .i64 0, Value.bool false, Value.int .i64 0] 30)).alloc (Obj.cells #[.int .i64 n, .int .i64 a, .int .i64 l, .int .i64 t, .bool o, .int .i64 (c : Int)] 30)) = W at *
  generalize w.heap.size + 1 = gx at *
  obtain ⟨hn, hat, hok, hon, hme⟩ := hP
  have hgW := hg.below hB hlt
  have c1 := at_any n a l W hn hgW
  rw [hat, hok] at c1
  have c7 := fun w hg => on_any n a w hn hg
  have c8 := fun w hg => meet_any n a a w hn hg
  generalize meetN n a a = m at *
  have d0 := cell_of_row W gx 0 _ _ _ hrow
  have d1 := cell_of_row W gx 1 _ _ _ hrow
  have d2 := cell_of_row W gx 2 _ _ _ hrow
  have d3 := cell_of_row W gx 3 _ _ _ hrow
  have d4 := cell_of_row W gx 4 _ _ _ hrow
  have d5 := cell_of_row W gx 5 _ _ _ hrow
  clear hat hok
  rcases hme with ⟨hm, hc⟩ | ⟨hm, hc⟩
  · have hc2 : 0 < (c : Int) := by omega
    go_wp2_with fail
    refine c1.mono ?_
    rintro e w1 ⟨rfl, rfl⟩
    go_wp2_with fail
    refine wp_region_rel Kept [0, 1, 2, 3, 4, 5, 6, 7, 8, 9, 10, 11, 12, 13, 14, 17, 18, 15, 16, 19, 20, 21, 22, 23, 24, 25, 26, 27, 30, 31, 32, 28, 29, 33, 34, 35, 36, 37, 38] (by kernel_rfl) (by kernel_rfl) (by kernel_rfl) Kept.refl Kept.trans ?_
    have sd : Below W.heap.size W W.drew := (Below.refl _ _).drew
    have B1 := hB.trans (sd.mono hB.size)
    have R1 : W.drew.heap[gx]? = some (.cells #[.int .i64 n, .int .i64 a, .int .i64 l, .int .i64 t, .bool o, .int .i64 (c : Int)] 30 (0, 0)) := hrow
    have hg1 := hgW.below sd hgW.lt
    have hx1 : gx < W.drew.heap.size := (Array.getElem?_eq_some_iff.1 R1).1
    have HR := hide R1
    have c7 := c7 W.drew hg1
    clear sd hB hrow d0 d1 d2 d3 d4 d5 R1
    generalize W.drew = W1 at *
    repeat' (first
      | (refine wpRel_quiet (v := ?_) rfl rfl (fun _ _ _ h => h) (by rfl) ?_ ?_
         rotate_left
         · (intro w' hR; have r := (hR.block _ hx1).trans HR.out; have e0 := cell_of_row w' gx 0 _ _ _ r; have e1 := cell_of_row w' gx 1 _ _ _ r; have e3 := cell_of_row w' gx 3 _ _ _ r; have e4 := cell_of_row w' gx 4 _ _ _ r; have e5 := cell_of_row w' gx 5 _ _ _ r; go_simp; try rfl)
         simp only [Act.put, List.setIfInBounds_toArray, List.set_cons_zero, List.set_cons_succ])
      | fail)
    refine wpRel_step rfl rfl (by rfl) (fun K' hK => ?_)
    go_simp
    refine (c7).mono ?_
    rintro e W2 ⟨p, len, cap, rfl, hz, b2⟩
    refine hK.out _ _ b2 ?_
    clear hK K'
    try simp only [Act.put, List.setIfInBounds_toArray, List.set_cons_zero, List.set_cons_succ]
    obtain rfl : len = c := by rw [← hz.length, hon]
    have B2 := B1.trans (b2.mono B1.size)
    have hg2 := hg1.below b2 hg1.lt
    have HR2 := hide ((b2.block _ hx1).trans HR.out)
    have hx2 : gx < W2.heap.size := Nat.lt_of_lt_of_le hx1 b2.size
    have c8 := c8 W2 hg2
    clear B1 hg1 HR hx1 c7 hz b2
    repeat' (first
      | (refine wpRel_quiet (v := ?_) rfl rfl (fun _ _ _ h => h) (by rfl) ?_ ?_
         rotate_left
         · (intro w' hR; have r := (hR.block _ hx2).trans HR2.out; have e0 := cell_of_row w' gx 0 _ _ _ r; have e1 := cell_of_row w' gx 1 _ _ _ r; have e5 := cell_of_row w' gx 5 _ _ _ r; go_simp; try rfl)
         simp only [Act.put, List.setIfInBounds_toArray, List.set_cons_zero, List.set_cons_succ])
      | fail)
    refine wpRel_step rfl rfl (by rfl) (fun K' hK => ?_)
    go_simp
    refine (c8).mono ?_
    rintro e W3 ⟨rfl, rfl⟩
    refine hK.out _ _ (Kept.refl _) ?_
    clear hK K'
    try simp only [Act.put, List.setIfInBounds_toArray, List.set_cons_zero, List.set_cons_succ]
    repeat' (first
      | (refine wpRel_quiet (v := ?_) rfl rfl (fun _ _ _ h => h) (by rfl) ?_ ?_
         rotate_left
         · (intro w' hR; have r := (hR.block _ hx2).trans HR2.out; have e5 := cell_of_row w' gx 5 _ _ _ r; go_simp; try rfl)
         simp only [Act.put, List.setIfInBounds_toArray, List.set_cons_zero, List.set_cons_succ])
      | fail)
    refine wpRel_step rfl rfl (by rfl) (fun K' hK => ?_)
    go_simp
    refine (awake_any W2 hg2).mono ?_
    rintro e W3 ⟨rfl, b3⟩
    refine hK.out _ _ b3 ?_
    clear hK K'
    try simp only [Act.put, List.setIfInBounds_toArray, List.set_cons_zero, List.set_cons_succ]
    repeat' (first
      | (refine wpRel_quiet (v := ?_) rfl rfl (fun _ _ _ h => h) (by rfl) ?_ ?_
         rotate_left
         · (intro w' hR; go_simp; try rfl)
         simp only [Act.put, List.setIfInBounds_toArray, List.set_cons_zero, List.set_cons_succ])
      | fail)
    refine wpRel_nil ?_
    go_wp2_with fail
    go_ret
    exact ⟨rfl, B2.trans (b3.mono B2.size)⟩
  · subst hc
    subst hm
    go_wp2_with fail
    refine c1.mono ?_
    rintro e w1 ⟨rfl, rfl⟩
    go_wp2_with fail
    refine wp_region_rel Kept [0, 1, 2, 3, 4, 5, 6, 7, 8, 9, 10, 11, 12, 13, 14, 17, 18, 15, 16, 19, 20, 21, 22, 23, 24, 25, 26, 27, 30, 31, 32, 28, 29, 33, 34, 35, 36, 37, 38] (by kernel_rfl) (by kernel_rfl) (by kernel_rfl) Kept.refl Kept.trans ?_
    have sd : Below W.heap.size W W.drew := (Below.refl _ _).drew
    have B1 := hB.trans (sd.mono hB.size)
    have R1 : W.drew.heap[gx]? = some (.cells #[.int .i64 n, .int .i64 a, .int .i64 l, .int .i64 t, .bool o, .int .i64 0] 30 (0, 0)) := hrow
    have hg1 := hgW.below sd hgW.lt
    have hx1 : gx < W.drew.heap.size := (Array.getElem?_eq_some_iff.1 R1).1
    have HR := hide R1
    have c7 := c7 W.drew hg1
    clear sd hB hrow d0 d1 d2 d3 d4 d5 R1
    generalize W.drew = W1 at *
    repeat' (first
      | (refine wpRel_quiet (v := ?_) rfl rfl (fun _ _ _ h => h) (by rfl) ?_ ?_
         rotate_left
         · (intro w' hR; have r := (hR.block _ hx1).trans HR.out; have e0 := cell_of_row w' gx 0 _ _ _ r; have e1 := cell_of_row w' gx 1 _ _ _ r; have e3 := cell_of_row w' gx 3 _ _ _ r; have e4 := cell_of_row w' gx 4 _ _ _ r; have e5 := cell_of_row w' gx 5 _ _ _ r; go_simp; try rfl)
         simp only [Act.put, List.setIfInBounds_toArray, List.set_cons_zero, List.set_cons_succ])
      | fail)
    refine wpRel_step rfl rfl (by rfl) (fun K' hK => ?_)
    go_simp
    refine (c7).mono ?_
    rintro e W2 ⟨p, len, cap, rfl, hz, b2⟩
    refine hK.out _ _ b2 ?_
    clear hK K'
    try simp only [Act.put, List.setIfInBounds_toArray, List.set_cons_zero, List.set_cons_succ]
    obtain rfl : len = 0 := by rw [← hz.length, hon]
    have B2 := B1.trans (b2.mono B1.size)
    have hg2 := hg1.below b2 hg1.lt
    have HR2 := hide ((b2.block _ hx1).trans HR.out)
    have hx2 : gx < W2.heap.size := Nat.lt_of_lt_of_le hx1 b2.size
    have c8 := c8 W2 hg2
    clear B1 hg1 HR hx1 c7 hz b2
    repeat' (first
      | (refine wpRel_quiet (v := ?_) rfl rfl (fun _ _ _ h => h) (by rfl) ?_ ?_
         rotate_left
         · (intro w' hR; have r := (hR.block _ hx2).trans HR2.out; have e0 := cell_of_row w' gx 0 _ _ _ r; have e1 := cell_of_row w' gx 1 _ _ _ r; have e5 := cell_of_row w' gx 5 _ _ _ r; go_simp; try rfl)
         simp only [Act.put, List.setIfInBounds_toArray, List.set_cons_zero, List.set_cons_succ])
      | fail)
    refine wpRel_step rfl rfl (by rfl) (fun K' hK => ?_)
    go_simp
    refine (c8).mono ?_
    rintro e W3 ⟨rfl, rfl⟩
    refine hK.out _ _ (Kept.refl _) ?_
    clear hK K'
    try simp only [Act.put, List.setIfInBounds_toArray, List.set_cons_zero, List.set_cons_succ]
    repeat' (first
      | (refine wpRel_quiet (v := ?_) rfl rfl (fun _ _ _ h => h) (by rfl) ?_ ?_
         rotate_left
         · (intro w' hR; have r := (hR.block _ hx2).trans HR2.out; have e5 := cell_of_row w' gx 5 _ _ _ r; skip; go_simp; try rfl)
         simp only [Act.put, List.setIfInBounds_toArray, List.set_cons_zero, List.set_cons_succ])
      | fail)
    refine wpRel_step rfl rfl (by rfl) (fun K' hK => ?_)
    go_simp
    refine (awake_any W2 hg2).mono ?_
    rintro e W3 ⟨rfl, b3⟩
    refine hK.out _ _ b3 ?_
    clear hK K'
    try simp only [Act.put, List.setIfInBounds_toArray, List.set_cons_zero, List.set_cons_succ]
    repeat' (first
      | (refine wpRel_quiet (v := ?_) rfl rfl (fun _ _ _ h => h) (by rfl) ?_ ?_
         rotate_left
         · (intro w' hR; go_simp; try rfl)
         simp only [Act.put, List.setIfInBounds_toArray, List.set_cons_zero, List.set_cons_succ])
      | fail)
    refine wpRel_nil ?_
    go_wp2_with fail
    go_ret
    exact ⟨rfl, B2.trans (b3.mono B2.size)⟩
end Go.Proofs.YtmaknnlccmfmpaaDoor
