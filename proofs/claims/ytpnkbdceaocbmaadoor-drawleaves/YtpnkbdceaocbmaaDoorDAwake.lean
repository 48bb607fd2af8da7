/- What a call of dumbwaiterlaw4's awake answers, wherever quar.rounds reads as its text says; nothing that was there is turned. -/
import Derived.Test.YtpnkbdceaocbmaaDoorDSrc
namespace Go.Proofs.YtpnkbdceaocbmaaDoor
open Go.RowKit

set_option maxRecDepth 100000 in
set_option maxHeartbeats 1000000 in
theorem awake_any (w : World) (hg : Glob w) : Calls Tryd.prog 11 #[] w fun e w' => e = .returned (.bool true) ∧ Below w.heap.size w w' := by
  have h0 := hg.lt
  go_enter Tryd.func11, Tryd.ntmps11
  go_wp2_with fail
  have n1 : OwnN .u32 33 (w.alloc (Obj.cells #[Value.int IntKind.u32 7, Value.int IntKind.u32 9] 33)) w.heap.size [7, 9] := heap_alloc_new w _
  have hb1 := below_alloc (Below.refl w.heap.size w) (Obj.cells #[Value.int IntKind.u32 7, Value.int IntKind.u32 9] 33)
  have hg1 := hg.below hb1 h0
  refine (tape_any _ (n1.ns (by unfold AllK; decide) 2 rfl (by decide)) (by decide)).mono ?_
  rintro e w2 ⟨g, b, rfl, hgl, _, _, hS, hb2⟩
  have hb2' := hb1.trans (hb2.mono hb1.size)
  have hg2 := hg1.below hb2 hg1.lt
  have hgw : w.heap.size ≤ g := Nat.le_trans hb1.size hgl
  have hne : g ≠ 0 := by omega
  clear n1 hg1 hb1 hb2 hgl
  go_wp2_with fail
  refine (next_tape 4 w2 hS hg2 hne (by decide)).mono ?_
  rintro e w3 ⟨rfl, hS3, hg3, hB3⟩
  have hb3 := hB3.below hb2' hgw hb2'.size
  rw [show among (tapeD [7, 9] 0) 4 = 3 by decide]
  simp only [show (0 + 1) % 18446744073709551616 = 1 from rfl] at hS3
  clear hS hg2 hB3 hb2'
  go_wp2_with fail
  refine (next_tape 8 w3 hS3 hg3 hne (by decide)).mono ?_
  rintro e w4 ⟨rfl, hS4, hg4, hB4⟩
  have hb4 := hB4.below hb3 hgw hb3.size
  rw [show among (tapeD [7, 9] 1) 8 = 1 by decide]
  simp only [show (1 + 1) % 18446744073709551616 = 2 from rfl] at hS4
  clear hS3 hg3 hB4 hb3
  go_wp2_with fail
  refine (next_tape 8 w4 hS4 hg4 hne (by decide)).mono ?_
  rintro e w5 ⟨rfl, hS5, hg5, hB5⟩
  have hb5 := hB5.below hb4 hgw hb4.size
  rw [show among (tapeD [7, 9] 2) 8 = 0 by decide]
  simp only [show (2 + 1) % 18446744073709551616 = 3 from rfl] at hS5
  clear hS4 hg4 hB5 hb4
  go_wp2_with fail
  refine (used_any w5 hS5).mono ?_
  rintro e w6 ⟨rfl, rfl⟩
  go_wp2_with fail
  refine (leaves_any 1 w5 (by decide)).mono ?_
  rintro e w6 ⟨rfl, rfl⟩
  rw [show lvs 1 = true by decide]
  go_wp2_with fail
  refine (leaves_any 65536 w5 (by decide)).mono ?_
  rintro e w6 ⟨rfl, rfl⟩
  rw [show lvs 65536 = true by decide]
  go_wp2_with fail
  refine (leaves_any 6 w5 (by decide)).mono ?_
  rintro e w6 ⟨rfl, rfl⟩
  rw [show lvs 6 = false by decide]
  go_wp2_with fail
  refine (leaves_any 0 w5 (by decide)).mono ?_
  rintro e w6 ⟨rfl, rfl⟩
  rw [show lvs 0 = false by decide]
  go_wp2_with fail
  go_ret
  exact ⟨rfl, hb5⟩
#print axioms awake_any
end Go.Proofs.YtpnkbdceaocbmaaDoor
