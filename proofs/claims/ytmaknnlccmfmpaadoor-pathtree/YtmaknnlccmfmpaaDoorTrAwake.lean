
/- What a call of dumbwaiterlaw13's awake answers, wherever bits.deBruijn64tab reads as its text says; nothing that was there is turned. -/
import Derived.Test.YtmaknnlccmfmpaaDoorTrRow
namespace Go.Proofs.YtmaknnlccmfmpaaDoor
open Go.RowKit
set_option maxRecDepth 20000

set_option maxRecDepth 100000 in
set_option maxHeartbeats 4000000 in
theorem awake_any (w : World) (hg : Tab w) : Calls Tryd.prog 10 #[] w fun e w' => e = .returned (.bool true) ∧ Below w.heap.size w w' := by
  have c1 := at_any 4 3 2 w (by decide) hg
  rw [show atN 4 3 2 = 6 by decide +kernel, show atB 4 3 2 = true by decide +kernel] at c1
  have c2 := at_any 4 4 0 w (by decide) hg
  rw [show atN 4 4 0 = 0 by decide +kernel, show atB 4 4 0 = false by decide +kernel] at c2
  have c3 := depth_any 8 w (by decide) hg
  rw [show dep 8 = 3 by decide +kernel] at c3
  have c4 := depth_any 6 w (by decide) hg
  rw [show dep 6 = 0 by decide +kernel] at c4
  have c5 := buckets_any 4 w (by decide)
  rw [show cntB 4 = 7 by decide +kernel] at c5
  have c6 := buckets_any 0 w (by decide)
  rw [show cntB 0 = 0 by decide +kernel] at c6
  have c7 := on_any 4 2 w (by decide) hg
  rw [show wayL 4 2 = [0, 2, 5] by decide +kernel] at c7
  have c8 := fun w hg => meet_any 4 2 3 w (by decide) hg
  rw [show meetN 4 2 3 = 1 by decide +kernel] at c8
  have c9 := fun w hg => meet_any 4 0 4 w (by decide) hg
  rw [show meetN 4 0 4 = -1 by decide +kernel] at c9
  have hlt := hg.lt
  go_enter Tryd.func10, Tryd.ntmps10
  go_wp2_with fail
  refine c1.mono ?_
  rintro e w1 ⟨rfl, rfl⟩
  go_wp2_with fail
  refine c2.mono ?_
  rintro e w1 ⟨rfl, rfl⟩
  go_wp2_with fail
  refine c3.mono ?_
  rintro e w1 ⟨rfl, rfl⟩
  go_wp2_with fail
  refine c4.mono ?_
  rintro e w1 ⟨rfl, rfl⟩
  go_wp2_with fail
  refine c5.mono ?_
  rintro e w1 ⟨rfl, rfl⟩
  go_wp2_with fail
  refine c6.mono ?_
  rintro e w1 ⟨rfl, rfl⟩
  go_wp2_with fail
  refine c7.mono ?_
  rintro e w1 ⟨p, len, cap, rfl, hx, b1⟩
  go_wp2_with fail
  have n2 : OwnN .i64 3 (w1.alloc (Obj.cells #[Value.int .i64 0, Value.int .i64 2, Value.int .i64 5] 3)) w1.heap.size [0, 2, 5] := heap_alloc_new w1 _
  have hy := n2.ns (by unfold AllK; decide) 3 rfl (by decide)
  have b2 := below_alloc (Below.refl w1.heap.size w1) (Obj.cells #[Value.int .i64 0, Value.int .i64 2, Value.int .i64 5] 3)
  have hx2 := hx.below b2
  have B := b1.trans (b2.mono b1.size)
  refine (sameInts_any _ hx2 hy).mono ?_
  rintro e w3 ⟨rfl, b3⟩
  have B3 := B.trans (b3.mono B.size)
  have hg3 := hg.below B3 hlt
  rw [show decide (([0, 2, 5] : List Int) = [0, 2, 5]) = true by decide]
  go_wp2_with fail
  refine (c8 w3 hg3).mono ?_
  rintro e w4 ⟨rfl, rfl⟩
  go_wp2_with fail
  refine (c9 w3 hg3).mono ?_
  rintro e w4 ⟨rfl, rfl⟩
  go_wp2_with fail
  go_ret
  exact ⟨rfl, B3⟩
#print axioms awake_any
end Go.Proofs.YtmaknnlccmfmpaaDoor
