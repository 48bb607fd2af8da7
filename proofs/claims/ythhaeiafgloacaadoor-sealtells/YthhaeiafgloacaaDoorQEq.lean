/- What '==' says of sixteen words. No conditions but those that each line states. -/
import Derived.Test.YthhaeiafgloacaaDoorQArr
import Derived.Test.YthhaeiafgloacaaDoorRows
import Derived.ChangeKeysEq
import Derived.Laws.StructEq
namespace Go.Proofs.YthhaeiafgloacaaDoor
open Go.RowKit

def eqW (xs ys : Ws) : Bool := (List.range 16).all fun i => xs i == ys i

theorem eqW_refl (xs : Ws) : eqW xs xs = true := by simp [eqW]
theorem eqW_at {xs ys : Ws} (h : eqW xs ys = true) (i : Nat) (hi : i < 16) : xs i = ys i := by
  simp only [eqW, List.all_eq_true, List.mem_range, beq_iff_eq] at h
  exact h i hi

theorem run_eqItems_arr {P : Program} {E : TypeId} (he : P.underlying E = some (.int .u32)) (d : Nat) (xs ys : Ws) (w : World) : ∀ is : List Nat, (∀ i ∈ is, i < 16) →
    (Op.eqItems (d + 1) E 1 (arrV xs) (arrV ys) is).run P w = .ok (is.all fun i => xs i == ys i) w
  | [], _ => by simp [Op.eqItems]
  | i :: is, h => by
    have hi : i < 16 := h i (by simp)
    have px : (part E (arrV xs) (i * 1)).run P w = .ok (.int .u32 ((xs i).toNat : Int)) w := by
      simp [part, isAgg, run_underlying he, arrV_get xs i hi]
    have py : (part E (arrV ys) (i * 1)).run P w = .ok (.int .u32 ((ys i).toNat : Int)) w := by
      simp [part, isAgg, run_underlying he, arrV_get ys i hi]
    have pe : (Op.equalIn (d + 1) E (.int .u32 ((xs i).toNat : Int)) (.int .u32 ((ys i).toNat : Int))).run P w = .ok (xs i == ys i) w := by
      rw [run_equalIn_int w d E .u32 .u32 _ _ he]
      congr 1
      rw [Bool.eq_iff_iff]
      simp only [beq_iff_eq, ← BitVec.toNat_inj]
      omega
    simp only [Op.eqItems, Sem.run_bind, px, py, pe, Result.andThen_ok, List.all_cons]
    cases hb : (xs i == ys i)
    · simp
    · simp only [Bool.not_true, Bool.false_eq_true, if_false, Bool.true_and]
      exact run_eqItems_arr he d xs ys w is (fun j hj => h j (by simp [hj]))

theorem info_u32 : (Tryd.prog.info? 23).isSome = true := by kernel_rfl
theorem cells_u32 : Tryd.prog.cellsOf 23 = 1 := by kernel_rfl

/-- '==' of two rows of sixteen words. -/
theorem run_eq16 (xs ys : Ws) (w : World) : (binOp BinOp.eql 49 (.agg (arrV xs)) (.agg (arrV ys))).run Tryd.prog w = .ok (.bool (eqW xs ys)) w := by
  obtain ⟨i, hi⟩ := Option.isSome_iff_exists.1 info_u32
  rw [run_eql_struct, run_equalIn_array w 9999 (arrV xs) (arrV ys) Tryd.underlying49 hi, cells_u32, run_eqItems_arr Tryd.underlying23 9998 xs ys w _ (fun i hi => by simpa using hi)]
  rfl
theorem run_eq16_at (xs ys : Ws) (b : Bool) (c d : Array Value) (hc : c = arrV xs) (hd : d = arrV ys) (hb : eqW xs ys = b) (w : World) : (binOp BinOp.eql 49 (.agg c) (.agg d)).run Tryd.prog w = .ok (.bool b) w := by
  subst hc
  subst hd
  subst hb
  exact run_eq16 xs ys w

#print axioms run_eq16_at
end Go.Proofs.YthhaeiafgloacaaDoor
