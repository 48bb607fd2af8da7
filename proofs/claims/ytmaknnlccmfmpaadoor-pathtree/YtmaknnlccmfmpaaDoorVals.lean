
/- Rows of values of one cell each (truths, texts): made, read, set, copied. No program is named here; no conditions but those that each line states. -/
import Derived.Test.YtmaknnlccmfmpaaDoorRows
import Derived.Test.YtmaknnlccmfmpaaDoorMem
namespace Go.Proofs.YtmaknnlccmfmpaaDoor
open Go.RowKit
set_option maxRecDepth 20000

def vlO (E : TypeId) (f : Nat → Value) (n : Nat) : Obj := .cells ((List.range n).map f).toArray E (0, 0)
def updV (f : Nat → Value) (j : Nat) (v : Value) : Nat → Value := fun i => if i = j then v else f i
theorem vl_cell {E : TypeId} {f : Nat → Value} {n k : Nat} {W : World} (h : W.heap[k]? = some (vlO E f n)) (j : Nat) (hj : j < n) : W.cell? ⟨k, j, none⟩ = some (f j) := by
  rw [cell_of_row W k j _ _ _ h]
  simp [hj]
theorem vl_congr {E : TypeId} {f g : Nat → Value} {n : Nat} (h : ∀ j, j < n → f j = g j) : vlO E f n = vlO E g n := by
  unfold vlO
  congr 2
  exact List.map_congr_left fun j hj => h j (List.mem_range.1 hj)
theorem vl_set {E : TypeId} {f : Nat → Value} {n k : Nat} {W : World} (h : W.heap[k]? = some (vlO E f n)) (j : Nat) (v : Value) : (W.setCell ⟨k, j, none⟩ v).heap[k]? = some (vlO E (updV f j v) n) := by
  rw [heap_setCell_same W k j _ _ _ h]
  unfold vlO
  congr 2
  apply Array.ext_getElem?
  intro i
  rw [Array.getElem?_setIfInBounds]
  by_cases hi : i < n
  · by_cases h1 : j = i
    · subst h1
      simp [hi, updV]
    · simp [hi, updV, h1, Ne.symm h1]
  · simp [hi]
    omega
theorem vl_made (E : TypeId) (z : Value) (n : Nat) : Obj.cells (madeCells #[z] n) E = vlO E (fun _ => z) n := by
  unfold vlO
  congr 1
  apply Array.ext_getElem?
  intro i
  by_cases hi : i < n
  · simp [madeCells, hi, Nat.mod_one]
  · simp [madeCells, hi]
theorem vl_froz {E : TypeId} {f : Nat → Value} {n k : Nat} {W : World} (h : W.heap[k]? = some (vlO E f n)) (j : Nat) : W.frozen? ⟨k, j, none⟩ = false := frozen_of_row W k j _ _ h
/-- 'make([]T, n)'. -/
theorem wp_make_vals {w : World} {o : Oper} {a : Act} {K : Act → World → Prop} {Q : Exit → Act → World → Prop} {T E : TypeId} (z : Value) (by_ : Nat) (hT : Tryd.prog.underlying T = some (.slice E)) (hinfo : (Tryd.prog.info? E).map (fun i => (i.zero, i.size, i.bytes)) = some (some z, 1, by_)) (hz : z.cells = #[z]) (n : Nat) (hn : by_ * n ≤ 281474976710656) (h63 : n ≤ 9223372036854775807) (x y : Operand) (ho : o.op = .makeSlice T x y) (hx : a.eval x = .int .i64 (n : Int)) (hy : a.eval y = .int .i64 (n : Int))
    (h : K (a.put o.dst (.slice (some ⟨w.heap.size, 0, none⟩) n n)) (w.alloc (vlO E (fun _ => z) n))) : o.wp Tryd.prog a w K Q := by
  unfold Oper.wp execOp
  simp only [ho, hx, hy, Sem.run_bind, run_make_row' (P := Tryd.prog) T E z by_ hT hinfo hz .i64 .i64 n hn h63, Result.andThen_ok]
  rw [vl_made]
  exact h
/-- 'copy(a, b)' of two rows of as many. -/
theorem vl_copy {P : Program} {T E E' E'' : TypeId} (hT : P.underlying T = some (.slice E)) (hsz : (P.info? E).map (·.size) = some 1) (ty : TypeId) (w : World) (kd ks n : Nat) (fd fs : Nat → Value) (hd : w.heap[kd]? = some (vlO E' fd n)) (hs : w.heap[ks]? = some (vlO E'' fs n)) (h1 : ∀ j, j < n → (fs j).oneCell' = true) :
    ∃ w2, (Builtin.copy_ #[T, T] ty #[.slice (some ⟨kd, 0, none⟩) n n, .slice (some ⟨ks, 0, none⟩) n n]).run P w = .ok (goInt n) w2 ∧ w2.heap[kd]? = some (vlO E' fs n) ∧ OnlyAt kd w w2 := by
  have hr := run_copy_row (P := P) w T T ty E kd 0 n n ⟨ks, 0, none⟩ n n ((List.range n).map fd).toArray E' ((List.range n).map fs) hT hsz hd (by simp)
    (fun j v hj => by
      have hjl : j < n := by
        rcases Nat.lt_or_ge j n with h | h
        · exact h
        · rw [List.getElem?_eq_none (by simpa using h)] at hj; cases hj
      rw [addr_add, Nat.zero_add, vl_cell hs j hjl, ← hj]
      simp [hjl])
    (by simp) (by
      intro v hv
      obtain ⟨x, hx, rfl⟩ := List.mem_map.1 hv
      exact h1 x (List.mem_range.1 hx))
  have hl : ((List.range n).map fs).length = n := by simp
  have e1 : List.take 0 ((List.range n).map fd).toArray.toList ++ (List.range n).map fs ++ List.drop (0 + ((List.range n).map fs).length) ((List.range n).map fd).toArray.toList = (List.range n).map fs := by simp
  rw [e1, hl] at hr
  exact ⟨_, hr, setRow_heap w kd _ _ E' _ hd, OnlyAt.setRow kd w _⟩
theorem info_bool : (Tryd.prog.info? 4).map (fun i => (i.zero, i.size, i.bytes)) = some (some (.bool false), 1, 1) := by kernel_rfl
theorem info_str : (Tryd.prog.info? 9).map (fun i => (i.zero, i.size, i.bytes)) = some (some (.string ⟨#[]⟩), 1, 16) := by kernel_rfl
theorem size_str : (Tryd.prog.info? 9).map (·.size) = some 1 := by kernel_rfl
#print axioms vl_copy
#print axioms wp_make_vals
end Go.Proofs.YtmaknnlccmfmpaaDoor
