/- What '==' says of sixteen words, and what a call of dumbwaiterlaw2's awake answers. No conditions but those that each line states. -/
import Derived.Test.YtinbfbcikodekaaDoorQRef
import Derived.ChangeKeysEq
import Derived.Laws.StructEq
namespace Go.Proofs.YtinbfbcikodekaaDoor
open Go.RowKit

def eqW (xs ys : Ws) : Bool := (List.range 16).all fun i => xs i == ys i

theorem eqW_refl (xs : Ws) : eqW xs xs = true := by simp [eqW]
theorem eqW_at {xs ys : Ws} (h : eqW xs ys = true) (i : Nat) (hi : i < 16) : xs i = ys i := by
  simp only [eqW, List.all_eq_true, List.mem_range, beq_iff_eq] at h
  exact h i hi

theorem run_eqItems_arr {P : Program} {E : TypeId} (he : P.underlying E = some (.int .u32)) (d : Nat) (xs ys : Ws) (w : World) : ∀ is : List Nat, (∀ i ∈ is, i < 16) →
    (Op.eqItems (d + 1) E 1 (arrV xs) (arrV ys) is).run P w = .ok (is.all fun i => xs i == ys i) w
  | [], _ => by simp [Op.eqItems]
  | i :: is, h => by
    have hi : i < 16 := h i (by simp)
    have px : (part E (arrV xs) (i * 1)).run P w = .ok (.int .u32 ((xs i).toNat : Int)) w := by
      simp [part, isAgg, run_underlying he, arrV_get xs i hi]
    have py : (part E (arrV ys) (i * 1)).run P w = .ok (.int .u32 ((ys i).toNat : Int)) w := by
      simp [part, isAgg, run_underlying he, arrV_get ys i hi]
    have pe : (Op.equalIn (d + 1) E (.int .u32 ((xs i).toNat : Int)) (.int .u32 ((ys i).toNat : Int))).run P w = .ok (xs i == ys i) w := by
      rw [run_equalIn_int w d E .u32 .u32 _ _ he]
      congr 1
      rw [Bool.eq_iff_iff]
      simp only [beq_iff_eq, ← BitVec.toNat_inj]
      omega
    simp only [Op.eqItems, Sem.run_bind, px, py, pe, Result.andThen_ok, List.all_cons]
    cases hb : (xs i == ys i)
    · simp
    · simp only [Bool.not_true, Bool.false_eq_true, if_false, Bool.true_and]
      exact run_eqItems_arr he d xs ys w is (fun j hj => h j (by simp [hj]))

theorem info_u32 : (Tryd.prog.info? 22).isSome = true := by kernel_rfl
theorem cells_u32 : Tryd.prog.cellsOf 22 = 1 := by kernel_rfl

/-- '==' of two rows of sixteen words. -/
theorem run_eq16 (xs ys : Ws) (w : World) : (binOp BinOp.eql 23 (.agg (arrV xs)) (.agg (arrV ys))).run Tryd.prog w = .ok (.bool (eqW xs ys)) w := by
  obtain ⟨i, hi⟩ := Option.isSome_iff_exists.1 info_u32
  rw [run_eql_struct, run_equalIn_array w 9999 (arrV xs) (arrV ys) Tryd.underlying23 hi, cells_u32, run_eqItems_arr Tryd.underlying22 9998 xs ys w _ (fun i hi => by simpa using hi)]
  rfl
theorem run_eq16_at (xs ys : Ws) (b : Bool) (c d : Array Value) (hc : c = arrV xs) (hd : d = arrV ys) (hb : eqW xs ys = b) (w : World) : (binOp BinOp.eql 23 (.agg c) (.agg d)).run Tryd.prog w = .ok (.bool b) w := by
  subst hc
  subst hd
  subst hb
  exact run_eq16 xs ys w

def zer : Ws := fun _ => 0
theorem qstep_zer (a b c d : Nat) : qstep zer a b c d = zer := by
  have h : qr 0 0 0 0 = (0, 0, 0, 0) := by decide
  show put4 zer a b c d (qr 0 0 0 0) = zer
  rw [h]
  exact put4_own zer a b c d
theorem dblN_zer : ∀ i, dblN zer i = zer
  | 0 => rfl
  | i + 1 => by rw [dblN, dblN_zer i, qstep_zer]
theorem bck_zer : bck zer = zer := by
  have := bck_dbl zer
  rwa [show dbl zer = zer from dblN_zer 8] at this

theorem back_at (c : Array Value) (xs ys : Ws) (hc : c = arrV xs) (hy : bck xs = ys) (w : World) (hg : Glob w) : Calls Tryd.prog 10 #[.agg c] w fun e w' => e = .returned (.agg (arrV ys)) ∧ Below w.heap.size w w' := by
  subst hc
  subst hy
  exact back_any xs w hg
theorem round_at (x y z u : BitVec 32) (a b c d : Int) (ha : a = (x.toNat : Int)) (hb : b = (y.toNat : Int)) (hc : c = (z.toNat : Int)) (hd : d = (u.toNat : Int)) (r : W4) (hr : r = qr x y z u) (w : World) :
    Calls Tryd.prog 7 #[.int .u32 a, .int .u32 b, .int .u32 c, .int .u32 d] w fun e w' =>
    e = .returned (.tuple #[.int .u32 (r.1.toNat : Int), .int .u32 (r.2.1.toNat : Int), .int .u32 (r.2.2.1.toNat : Int), .int .u32 (r.2.2.2.toNat : Int)]) ∧ w = w' := by
  subst ha
  subst hb
  subst hc
  subst hd
  exact round_any x y z u r hr w

theorem arrV_zer : #[Value.int IntKind.u32 0, Value.int IntKind.u32 0, Value.int IntKind.u32 0, Value.int IntKind.u32 0, Value.int IntKind.u32 0, Value.int IntKind.u32 0, Value.int IntKind.u32 0, Value.int IntKind.u32 0, Value.int IntKind.u32 0, Value.int IntKind.u32 0, Value.int IntKind.u32 0, Value.int IntKind.u32 0, Value.int IntKind.u32 0, Value.int IntKind.u32 0, Value.int IntKind.u32 0, Value.int IntKind.u32 0] = arrV zer := rfl

set_option maxHeartbeats 1000000 in
theorem awake2_any (w : World) (hg : Glob w) : Calls Tryd.prog 8 #[] w fun e w' => e = .returned (.bool true) ∧ Below w.heap.size w w' := by
  have hE := run_eq16_at zer zer true (arrV zer) #[Value.int IntKind.u32 0, Value.int IntKind.u32 0, Value.int IntKind.u32 0, Value.int IntKind.u32 0, Value.int IntKind.u32 0, Value.int IntKind.u32 0, Value.int IntKind.u32 0, Value.int IntKind.u32 0, Value.int IntKind.u32 0, Value.int IntKind.u32 0, Value.int IntKind.u32 0, Value.int IntKind.u32 0, Value.int IntKind.u32 0, Value.int IntKind.u32 0, Value.int IntKind.u32 0, Value.int IntKind.u32 0] rfl arrV_zer (eqW_refl _)
  go_enter Tryd.func8, Tryd.ntmps8
  go_wp2_with fail
  refine (round_at 0x11111111#32 0x01020304#32 0x9b8d6f43#32 0x01234567#32 _ _ _ _ rfl rfl rfl rfl (0xea2a92f4#32, 0xcb1cf8ce#32, 0x4581472e#32, 0x5881c4bb#32) (by decide) w).mono ?_
  rintro e w1 ⟨rfl, rfl⟩
  go_wp2_with fail
  refine (back_at _ zer zer arrV_zer bck_zer w hg).mono ?_
  rintro e w1 ⟨rfl, hb⟩
  go_wp2_with fail
  go_ret
  exact ⟨rfl, hb⟩

#print axioms awake2_any
end Go.Proofs.YtinbfbcikodekaaDoor
