/- The law QuarVectors answers true wherever quar.rounds reads as its text says; nothing that was there is turned. -/
import Derived.Test.YtinbfbcikodekaaDoorQAwake
namespace Go.Proofs.YtinbfbcikodekaaDoor
open Go.RowKit

set_option maxHeartbeats 1000000 in
theorem quarVectors_walk (w : World) (hg : Glob w) : Calls Tryd.prog 3 #[] w fun e w' => e = .returned (.bool true) ∧ Below w.heap.size w w' := by
  have hl := hg.lt
  go_enter Tryd.func3, Tryd.ntmps3
  go_wp2_with fail
  refine (round_at 0x516461b1#32 0x2a5f714c#32 0x53372767#32 0x3d631689#32 _ _ _ _ rfl rfl rfl rfl (0xbdb886dc#32, 0xcfacafd2#32, 0xe46bea80#32, 0xccc07c79#32) (by decide) _).mono ?_
  rintro e w1 ⟨rfl, rfl⟩
  go_wp2_with fail
  have hb1 := (Below.refl w.heap.size w).alloc (Nat.le_refl _) (Obj.cells
        #[Value.int IntKind.u32 2274701792, Value.int IntKind.u32 3320640381, Value.int IntKind.u32 1365533105,
          Value.int IntKind.u32 3383111562, Value.int IntKind.u32 1153568499, Value.int IntKind.u32 865120127,
          Value.int IntKind.u32 3657197835, Value.int IntKind.u32 710897996, Value.int IntKind.u32 1396123495,
          Value.int IntKind.u32 2953467441, Value.int IntKind.u32 2538361882, Value.int IntKind.u32 899586403,
          Value.int IntKind.u32 1553404001, Value.int IntKind.u32 1029904009, Value.int IntKind.u32 546888150,
          Value.int IntKind.u32 2447102752]
        23)
  refine (awake2_any _ (hg.below hb1 hl)).mono ?_
  rintro e w2 ⟨rfl, hb⟩
  go_wp2_with fail
  go_ret
  exact ⟨rfl, hb1.trans (hb.mono hb1.size)⟩

#print axioms quarVectors_walk
end Go.Proofs.YtinbfbcikodekaaDoor
