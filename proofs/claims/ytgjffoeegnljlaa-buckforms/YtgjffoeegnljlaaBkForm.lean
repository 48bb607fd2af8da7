
/- The closure of the law's table: a Cell whose bytes are noughts. No conditions but those that each line states. -/
import Derived.Test.YtgjffoeegnljlaaBkRead
import Derived.Test.YtgjffoeegnljlaaBkTell
namespace Go.Proofs.Ytgjffoeegnljlaa
open Go.RowKit
set_option maxRecDepth 20000

/-- A Cell of noughts, laid in block g. -/
def nilC (i l : Int) (n g : Nat) : CV := ⟨i, l, ⟨some ⟨g, 0, none⟩, n, n, zL n⟩⟩
set_option maxHeartbeats 1000000 in
theorem form_any (i l : Int) (n : Nat) (w : World) (hi : -9223372036854775808 ≤ i ∧ i ≤ 9223372036854775807) (hl : -9223372036854775808 ≤ l ∧ l ≤ 9223372036854775807) (hn : n ≤ 60000) :
    Calls Try.prog 7 #[.int .i64 i, .int .i64 l, .int .i64 n] w fun e w' => ∃ g, e = .returned (.agg #[.int .i64 i, .int .i64 l, .slice (some ⟨g, 0, none⟩) n n]) ∧ (nilC i l n g).At w' ∧ Below w.heap.size w w' := by
  have hmk := run_make_row' (P := Try.prog) 22 5 (.int .u8 0) 1 Try.underlying22 Try.info_u8 rfl .i64 .i64 n (by omega) (by omega)
  have n0 := heap_alloc_new w (.cells #[.int .i64 i, .int .i64 l, .slice (some ⟨w.heap.size + 1, 0, none⟩) n n] 24)
  have b0 := below_alloc (Below.refl w.heap.size w) (.cells #[.int .i64 i, .int .i64 l, .slice (some ⟨w.heap.size + 1, 0, none⟩) n n] 24)
  have s0 := size_alloc w (.cells #[.int .i64 i, .int .i64 l, .slice (some ⟨w.heap.size + 1, 0, none⟩) n n] 24)
  have hZ := made_zB (w.alloc (.cells #[.int .i64 i, .int .i64 l, .slice (some ⟨w.heap.size + 1, 0, none⟩) n n] 24)) n 5
  have b1 := below_alloc b0 (Obj.cells (madeCells #[Value.int .u8 0] n) 5)
  have n1 := block_alloc n0 (Obj.cells (madeCells #[Value.int .u8 0] n) 5)
  rw [s0] at hZ
  have hz := (OwnB.owns (base := 0) (n := n) hZ (zL_bytes n) (zL_length _) (by omega) (Nat.zero_le _)).bs
  have HC : (nilC i l n (w.heap.size + 1)).At _ := ⟨hi, hl, hz⟩
  have HC := hide HC
  have HN := hide n1
  have HB := hide b1
  clear n0 b0 hZ b1 n1 hz
  go_enter Try.func7, Try.ntmps7
  go_wp2_with (refine wpList_newA (by rfl) 24 (by rfl) _ zero_cell w.heap.size rfl ?_)
  refine bodyPost_ret (results_cell_row rfl _ _ _ _ _ _ _ rfl HN.out Try.underlying24 rfl size_cell) rfl ?_
  exact ⟨w.heap.size + 1, rfl, HC.out, HB.out⟩
theorem builtS_two (c d : CV) : Try.prog.builtSlice 24 2 [(0, .agg c.row.toArray), (1, .agg d.row.toArray)] = some #[.int .i64 c.id, .int .i64 c.leaf, c.d.v, .int .i64 d.id, .int .i64 d.leaf, d.d.v] := by
  kernel_rfl
/-- A row of the table. -/
structure RB where
  cs : List CV
  a : Option Addr
  len : Nat
  cap : Nat
  z : Int
  size : Int
  ok : Bool
abbrev RB.vals (x : RB) : List Value := [.slice x.a x.len x.cap, .int .i64 x.z, .int .i64 x.size, .bool x.ok]
structure RB.Good (W : World) (x : RB) : Prop where
  ces : Ces W x.a x.len x.cap x.cs
  ok : okK (x.cs.map CV.pc) x.z x.size = x.ok
theorem RB.vals_length (x : RB) : x.vals.length = 4 := rfl
/-- A row of the table in memory. -/
theorem RB.rng {W : World} {g : Nat} {rows : List RB} {vs : Array Value} {E : TypeId} (hn : W.heap[g]? = some (.cells vs E (0, 0))) (hv : vs = (rows.flatMap RB.vals).toArray) (J : Nat) (hJ : J < rows.length) : W.rangeAt g (J * 4) rows[J].vals := by
  subst hv
  intro j v hv
  have hj : j < 4 := (List.getElem?_eq_some_iff.1 hv).1
  rw [show J * 4 + j = 4 * J + j by omega, cell_of_row W g _ _ _ _ hn, List.getElem?_toArray, flat_get 4 RB.vals RB.vals_length rows J j hj, List.getElem?_eq_getElem hJ]
  exact hv
#print axioms form_any
end Go.Proofs.Ytgjffoeegnljlaa
