
/- What reading one Cell off the front of a bucket's bytes does. No conditions but those that each line states. -/
import Derived.Test.YtgjffoeegnljlaaBkCode
import Derived.Test.YtgjffoeegnljlaaBkBuilt
namespace Go.Proofs.Ytgjffoeegnljlaa
open Go.RowKit
set_option maxRecDepth 20000

theorem leNum4 {zs : List Int} (h : IsBytes zs) (hl : zs.length ≤ 4) : 0 ≤ leNum zs ∧ leNum zs < 4294967296 := by
  have := leNum_lt zs h
  have h2 : (256 : Int) ^ zs.length ≤ 256 ^ 4 := by
    rcases (by omega : zs.length = 0 ∨ zs.length = 1 ∨ zs.length = 2 ∨ zs.length = 3 ∨ zs.length = 4) with e | e | e | e | e <;> rw [e] <;> decide
  have h3 : (256 : Int) ^ 4 = 4294967296 := by decide
  omega
/-- The Cell that is read at the front of bytes, its bytes laid in block g. -/
def cellAt (zs : List Int) (s g : Nat) : CV := ⟨leNum (zs.take 4), leNum ((zs.drop 4).take 4), ⟨some ⟨g, 0, none⟩, s, s, (zs.drop 8).take s⟩⟩
set_option maxHeartbeats 1000000 in
theorem getCell_any {a : Option Addr} {len cap : Nat} {zs : List Int} (w : World) (h : Bs w a len cap zs) (s : Nat) (hs : s ≤ 60000) (h8 : 8 + s ≤ len) :
    Calls Try.prog 22 #[.slice a len cap, .int .i64 s] w fun e w' => ∃ g, e = .returned (.agg (cellAt zs s g).row.toArray) ∧ (cellAt zs s g).At w' ∧ w.heap.size ≤ g ∧ Below w.heap.size w w' := by
  have hlc := h.le_cap
  have hlz := h.length
  have hcut8 := run_cut_from (P := Try.prog) Try.underlying22 Try.size_u8 a len cap .i64 8 8 rfl (by omega)
  have hcut4 := run_cut_to (P := Try.prog) Try.underlying22 Try.size_u8 h .i64 4 4 rfl (by omega)
  have hcutm := run_cut_mid (P := Try.prog) Try.underlying22 Try.size_u8 a len cap .i64 .i64 4 8 4 8 rfl rfl (by omega) (by omega)
  have hmk := run_make_row' (P := Try.prog) 22 5 (.int .u8 0) 1 Try.underlying22 Try.info_u8 rfl .i64 .i64 s (by omega) (by omega)
  have n0 := heap_alloc_new w (.cells #[.int .i64 0, .int .i64 0, .slice none 0 0] 24)
  have b0 := below_alloc (Below.refl w.heap.size w) (.cells #[.int .i64 0, .int .i64 0, .slice none 0 0] 24)
  have s0 := size_alloc w (.cells #[.int .i64 0, .int .i64 0, .slice none 0 0] 24)
  have hZ := made_zB (w.alloc (.cells #[.int .i64 0, .int .i64 0, .slice none 0 0] 24)) s 5
  have b1 := below_alloc b0 (Obj.cells (madeCells #[Value.int .u8 0] s) 5)
  have n1 := block_alloc n0 (Obj.cells (madeCells #[Value.int .u8 0] s) 5)
  have e1 := size_alloc (w.alloc (.cells #[.int .i64 0, .int .i64 0, .slice none 0 0] 24)) (Obj.cells (madeCells #[Value.int .u8 0] s) 5)
  rw [s0] at hZ e1
  obtain ⟨w2, hr2, g2, on2⟩ := run_copy_bytes (P := Try.prog) Try.underlying22 Try.size_u8 3 ((w.alloc (.cells #[.int .i64 0, .int .i64 0, .slice none 0 0] 24)).alloc (Obj.cells (madeCells #[Value.int .u8 0] s) 5)) (some ⟨w.heap.size + 1, 0, none⟩) (cutA a cap 8) s s (len - 8) (cap - 8) (w.heap.size + 1) 0 s (zL s) _ hZ (by omega) (.inr rfl) ((h.cut 8 (by omega)).below b1) (by rw [zL_length]; omega)
  rw [splice_full _ _ s (zL_length _) (by rw [List.length_drop]; omega)] at g2
  have b2 := on2.below b1 (by omega)
  have n2 := (on2.block w.heap.size (by omega)).trans n1
  have s2 := on2.size
  rw [e1] at s2
  have hB2 := h.below b2
  clear hZ b1 n1 on2 b0 n0
  go_enter Try.func22, Try.ntmps22
  go_wp2_with (refine wpList_newA (by rfl) 24 (by rfl) _ zero_cell w.heap.size rfl ?_)
  clear hr2 hmk hcut8
  refine wp_region_ord 1000 [0, 1, 3, 4, 2, 5, 6, 7] (fun _ => True) (fun _ => True) (by kernel_rfl) (by kernel_rfl) (by kernel_rfl) trivial trivial (fun _ _ => ?_)
  replace b2 := b2.drew
  replace n2 : w2.drew.heap[w.heap.size]? = some (.cells #[.int .i64 0, .int .i64 0, .slice none 0 0] 24 (0, 0)) := n2
  replace g2 : OwnB 5 w2.drew (w.heap.size + 1) ((zs.drop 8).take s) := g2
  replace hB2 := hB2.below (Below.refl _ _).drew
  replace s2 : w2.drew.heap.size = w.heap.size + 1 + 1 := s2
  generalize w2.drew = w3 at *
  have hM := (hB2.cut 4 (by omega)).taken 4 (by omega)
  have hA := leNum4 (h.bytes.take 4) (by rw [List.length_take]; omega)
  have hL := leNum4 ((h.bytes.drop 4).take 4) (by rw [List.length_take]; omega)
  have hC1 := get_any w3 (hB2.taken 4 (by omega))
  have hC2 := get_any w3 hM
  rw [List.take_take, show min 8 4 = 4 from rfl] at hC1 hC2
  have w1' := wrap_i64_low _ (show -9223372036854775808 ≤ leNum (zs.take 4) ∧ leNum (zs.take 4) ≤ 9223372036854775807 by omega)
  have w2' := wrap_i64_low _ (show -9223372036854775808 ≤ leNum ((zs.drop 4).take 4) ∧ leNum ((zs.drop 4).take 4) ≤ 9223372036854775807 by omega)
  have hcell : (cellAt zs s (w.heap.size + 1)).At w3 := ⟨by unfold cellAt; simp only; omega, by unfold cellAt; simp only; omega, (OwnB.owns (base := 0) (n := s) g2 ((h.bytes.drop 8).take s) (by rw [List.length_take, List.length_drop]; omega) (by omega) (Nat.zero_le _)).bs⟩
  have hres : (cellAt zs s (w.heap.size + 1)).row = [.int .i64 (leNum (zs.take 4)), .int .i64 (leNum ((zs.drop 4).take 4)), .slice (some ⟨w.heap.size + 1, 0, none⟩) s s] := rfl
  have HC := hide hcell
  have HE := hide hres
  have HN := hide n2
  clear hM hcell hres g2 n2
  generalize leNum (zs.take 4) = A at *
  generalize leNum ((zs.drop 4).take 4) = B at *
  repeat' (first
    | (refine wpOrd_quiet (v := ?_) rfl rfl (fun _ _ _ h => h) (by rfl) ?_ ?_
       rotate_left
       · (intro w' hT _; go_simp; try rfl)
       simp only [Act.put, List.setIfInBounds_toArray, List.set_cons_zero, List.set_cons_succ])
    | fail)
  refine wpOrd_step rfl rfl (by rfl) (fun K' hK => ?_)
  go_simp
  refine hC1.mono ?_
  rintro e w4 ⟨rfl, rfl⟩
  refine hK.out _ _ trivial (fun h => absurd h (by decide)) (fun _ => ?_)
  clear hK K'
  try simp only [Act.put, List.setIfInBounds_toArray, List.set_cons_zero, List.set_cons_succ]
  repeat' (first
    | (refine wpOrd_quiet (v := ?_) rfl rfl (fun _ _ _ h => h) (by rfl) ?_ ?_
       rotate_left
       · (intro w' hT _; go_simp; try rfl)
       simp only [Act.put, List.setIfInBounds_toArray, List.set_cons_zero, List.set_cons_succ])
    | fail)
  refine wpOrd_step rfl rfl (by rfl) (fun K' hK => ?_)
  go_simp
  refine hC2.mono ?_
  rintro e w4 ⟨rfl, rfl⟩
  refine hK.out _ _ trivial (fun h => absurd h (by decide)) (fun _ => ?_)
  clear hK K'
  try simp only [Act.put, List.setIfInBounds_toArray, List.set_cons_zero, List.set_cons_succ]
  repeat' (first
    | (refine wpOrd_quiet (v := ?_) rfl rfl (fun _ _ _ h => h) (by rfl) ?_ ?_
       rotate_left
       · (intro w' hT _; go_simp; try rfl)
       simp only [Act.put, List.setIfInBounds_toArray, List.set_cons_zero, List.set_cons_succ])
    | fail)
  refine wpOrd_nil ?_
  go_wp2_with (first
    | (refine wpList_build_at (by rfl) _ _ (by rfl) _ rfl _ (built_cell A B (some ⟨w.heap.size + 1, 0, none⟩) s s) ?_)
    | (refine wpList_putS size_cell (by rfl) _ _ (by rfl) w.heap.size #[.int .i64 A, .int .i64 B, .slice (some ⟨w.heap.size + 1, 0, none⟩) s s] (by rfl) (by rfl) _ HN.out (by rfl) (by rfl) (cell_all ⟨A, B, ⟨some ⟨w.heap.size + 1, 0, none⟩, s, s, []⟩⟩) ?_))
  refine bodyPost_ret (results_cell_row rfl _ _ _ _ _ _ _ rfl (setRow_heap _ _ _ _ _ _ HN.out) Try.underlying24 rfl size_cell) rfl ?_
  refine ⟨w.heap.size + 1, by rw [HE.out], ?_, Nat.le_succ _, (OnlyAt.setRow w.heap.size w3 _).below b2 (Nat.le_refl _)⟩
  refine HC.out.keep fun _ p hp => ?_
  have e : p = ⟨w.heap.size + 1, 0, none⟩ := (Option.some.inj hp).symm
  rw [e]
  exact (OnlyAt.setRow w.heap.size w3 _).block _ (by simp)
#print axioms getCell_any
end Go.Proofs.Ytgjffoeegnljlaa
