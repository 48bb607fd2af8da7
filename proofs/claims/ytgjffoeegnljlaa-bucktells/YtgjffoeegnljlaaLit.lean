
/- Rows of bytes that a text writes out. No conditions but those that each line states. -/
import Derived.Test.YtgjffoeegnljlaaSame1
import Derived.Lib.SlBytesConst
namespace Go.Proofs.Ytgjffoeegnljlaa
open Go.RowKit
set_option maxRecDepth 20000
theorem conv_bytes (w : World) (C : Array Value) (n c : Nat) : (convert 22 22 (.slice (some ⟨w.heap.size, 0, none⟩) n c)).run Try.prog (w.alloc (.cells C 5)) = .ok (.slice (some ⟨w.heap.size, 0, none⟩) n c) (w.alloc (.cells C 5 (C.size, C.size + 1))) :=
  Lib.run_convert_bytes_const w 22 5 C n c Try.underlying22 Try.underlying5
theorem Bs.lit {w : World} {o : Obj} {E : TypeId} {fr : Nat × Nat} {vs : Array Value} {zs : List Int} {n : Nat} (ho : o = .cells vs E fr) (hv : vs.toList = zs.map (Value.int .u8)) (hz : IsBytes zs) (hn : zs.length = n) (h63 : n ≤ 9223372036854775807) :
    Bs (w.alloc o) (some ⟨w.heap.size, 0, none⟩) n n zs := by
  subst ho
  refine ⟨hn, Nat.le_refl _, h63, hz, .inr ⟨w.heap.size, 0, rfl, fun i hi => ?_⟩⟩
  have hvs : vs = (zs.map (Value.int .u8)).toArray := by rw [← hv]
  subst hvs
  have hi' : i < zs.length := by omega
  rw [Nat.zero_add]
  unfold World.cell?
  rw [heap_alloc_new]
  simp [hi', List.getD]
theorem OwnB.lit {E : TypeId} {w : World} {g : Nat} {zs : List Int} {vs : Array Value} (h : w.heap[g]? = some (.cells vs E (0, 0))) (hv : vs.toList = zs.map (Value.int .u8)) : OwnB E w g zs := by
  unfold OwnB
  rw [h, ← hv]
theorem bytes_lit {l : List Int} (h : (l.all fun x => decide (0 ≤ x) && decide (x < 256)) = true) : IsBytes l := by
  intro n hn
  have := List.all_eq_true.1 h n hn
  simp at this
  exact this
end Go.Proofs.Ytgjffoeegnljlaa
