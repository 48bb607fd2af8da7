/- What a call of disk.Try does: for every function handed in that ends, that panics with the power's error, or with a value of another type. -/
import Derived.Test.YtlicafjhkbofbaaDoorKCode
import Derived.Recover
import Derived.Shelf.Abstract
import Derived.LaidEql
namespace Go.Proofs.YtlicafjhkbofbaaDoor
open Go.RowKit

theorem tmps10 (v : Value) : ((Array.replicate 10 undef).setIfInBounds 1 v).setIfInBounds 0 v = #[v, v, undef, undef, undef, undef, undef, undef, undef, undef] := by
  rfl

set_option maxHeartbeats 1000000 in
theorem catch_idle (w : World) : CallsD Tryd.prog 39 #[] .returning w fun e u' w' => e = .returned (.tuple #[]) ∧ u' = .returning ∧ w' = w := by
  refine callsD_of_wpS Tryd.func39 rfl fun c₀ cs hu => ?_
  apply wpS_seq
  apply wpS_region
  simp [wpOpsS, go_sem, recoverD, hu, Tryd.ntmps39, Exit.thenS]
  rw [tmps10]
  refine wpS_of_wp ?_
  go_wp2_with fail
  cases c₀
  simp_all [bodyPostS, results, Tryd.results39]

theorem run_neq_same (p : Addr) (w : World) : (binOp .neq 20 (.iface 65 (.pointer (some p))) (.iface 65 (.pointer (some p)))).run Tryd.prog w = .ok (.bool false) w := by
  have hc : (Tryd.prog.info? 65).map (·.comparable) = some true := by kernel_rfl
  obtain ⟨i, hi, hcc⟩ := Option.map_eq_some_iff.1 hc
  have hs : (Tryd.prog.info? 82).isSome = true := by kernel_rfl
  obtain ⟨j, hj⟩ := Option.isSome_iff_exists.1 hs
  have h := run_equalIn_iface_ptr_same (P := Tryd.prog) w 9998 (ti := 20) (tp := 65) p Tryd.underlying20 Tryd.underlying65 hi hcc hj
  simp only [binOp]
  simp [Op.equal, Op.maxDepth, h]
theorem run_neq_other (t : TypeId) (v : Value) (p : Addr) (ht : t ≠ 65) (w : World) : (binOp .neq 20 (.iface t v) (.iface 65 (.pointer (some p)))).run Tryd.prog w = .ok (.bool true) w := by
  have h : ∀ d : Nat, (Op.equalIn (d + 1) 20 (.iface t v) (.iface 65 (.pointer (some p)))).run Tryd.prog w = .ok false w := fun d => by
    simp [Op.equalIn, run_underlying Tryd.underlying20, ht]
  simp only [binOp]
  simp [Op.equal, Op.maxDepth, h 9999]

set_option maxHeartbeats 1000000 in
theorem catch_power (p : Addr) (w : World) (hp : Pow p w) : CallsD Tryd.prog 39 #[] (.panicking [{ v := errV p, recovered := false }]) w fun e u' w' => e = .returned (.tuple #[]) ∧ u' = .panicking [{ v := errV p, recovered := true }] ∧ w' = w := by
  have c : w.cell? ⟨0, 0, none⟩ = some (.iface 65 (.pointer (some p))) := hp
  have hne := run_neq_same p
  unfold errV
  refine callsD_of_wpS Tryd.func39 rfl fun c₀ cs hu => ?_
  apply wpS_seq
  apply wpS_region
  simp [wpOpsS, go_sem, recoverD, hu, Tryd.ntmps39, Exit.thenS]
  rw [tmps10]
  refine wpS_of_wp ?_
  go_wp2_with fail
  cases c₀
  simp_all [bodyPostS, results, Tryd.results39]

set_option maxHeartbeats 1000000 in
theorem catch_other (t : TypeId) (v : Value) (p : Addr) (ht : t ≠ 65) (w : World) (hp : Pow p w) : CallsD Tryd.prog 39 #[] (.panicking [{ v := .iface t v, recovered := false }]) w fun e u' w' => e = .panicked [{ v := .iface t v, recovered := false }] ∧ u' = .panicking [{ v := .iface t v, recovered := true }] ∧ w' = w := by
  have c : w.cell? ⟨0, 0, none⟩ = some (.iface 65 (.pointer (some p))) := hp
  have hne := run_neq_other t v p ht
  refine callsD_of_wpS Tryd.func39 rfl fun c₀ cs hu => ?_
  apply wpS_seq
  apply wpS_region
  simp [wpOpsS, go_sem, recoverD, hu, Tryd.ntmps39, Exit.thenS]
  rw [tmps10]
  refine wpS_of_wp ?_
  go_wp2_with fail
  cases c₀
  simp_all [bodyPostS]

theorem run_func_nil (fn : Fn) (first cap : Array Value) (w : World) : (binOp .eql 1 (.func fn first cap) .nilFunc).run Tryd.prog w = .ok (.bool false) w := by
  have h : ∀ d : Nat, (Op.equalIn (d + 1) 1 (.func fn first cap) .nilFunc).run Tryd.prog w = .ok false w := fun d => by
    simp [Op.equalIn, run_underlying Tryd.underlying1]
  simp only [binOp]
  simp [Op.equal, Op.maxDepth, h 9999]

section
variable {w : World} {f : Nat} {cap : Array Value} {R : World → Prop}
set_option maxHeartbeats 1000000 in
theorem try_ok (ef : ∀ args w, (callFunc f args).run Tryd.prog w = .ok (.enter f args) w) (hf : Calls Tryd.prog f cap w fun e w' => e = .returned (.tuple #[]) ∧ R w') :
    Calls Tryd.prog 20 #[.func (.func f) #[] cap] w fun e w' => e = .returned (.bool true) ∧ R w' := by
  have HF := hide hf
  clear hf
  have hnil := run_func_nil (.func f) #[] cap
  go_enter_defers Tryd.func20, Tryd.ntmps20
  go_wp2_with fail
  refine HF.out.mono ?_
  rintro e w' ⟨rfl, hR⟩
  go_wp2_with fail
  refine leaves_cons (f := 39) (args := #[]) (by simp) (by simp [go_sem]) ?_
  refine (catch_idle _).mono ?_
  rintro e u' w'' ⟨rfl, rfl, rfl⟩
  simp [Leaves, settle, results, Tryd.results20, go_sem]
  exact hR
set_option maxHeartbeats 1000000 in
theorem try_no {p : Addr} (ef : ∀ args w, (callFunc f args).run Tryd.prog w = .ok (.enter f args) w) (hf : Calls Tryd.prog f cap w fun e w' => e = .panicked [{ v := errV p, recovered := false }] ∧ R w') (hp : ∀ w', R w' → Pow p w') :
    Calls Tryd.prog 20 #[.func (.func f) #[] cap] w fun e w' => e = .returned (.bool false) ∧ R w' := by
  have HF := hide hf
  clear hf
  have hnil := run_func_nil (.func f) #[] cap
  go_enter_defers Tryd.func20, Tryd.ntmps20
  go_wp2_with fail
  refine HF.out.mono ?_
  rintro e w' ⟨rfl, hR⟩
  go_wp2_with fail
  refine leaves_cons (f := 39) (args := #[]) (by simp) (by simp [go_sem]) ?_
  refine (catch_power p _ (hp _ hR)).mono ?_
  rintro e u' w'' ⟨rfl, rfl, rfl⟩
  simp [Leaves, settle, results, Tryd.results20, go_sem]
  exact hR
set_option maxHeartbeats 1000000 in
theorem try_thru {t : TypeId} {v : Value} {p : Addr} (ht : t ≠ 65) (ef : ∀ args w, (callFunc f args).run Tryd.prog w = .ok (.enter f args) w) (hf : Calls Tryd.prog f cap w fun e w' => e = .panicked [{ v := .iface t v, recovered := false }] ∧ R w') (hp : ∀ w', R w' → Pow p w') :
    Calls Tryd.prog 20 #[.func (.func f) #[] cap] w fun e w' => e = .panicked [{ v := .iface t v, recovered := false }, { v := .iface t v, recovered := true }] ∧ R w' := by
  have HF := hide hf
  clear hf
  have hnil := run_func_nil (.func f) #[] cap
  go_enter_defers Tryd.func20, Tryd.ntmps20
  go_wp2_with fail
  refine HF.out.mono ?_
  rintro e w' ⟨rfl, hR⟩
  go_wp2_with fail
  refine leaves_cons (f := 39) (args := #[]) (by simp) (by simp [go_sem]) ?_
  refine (catch_other t v p ht _ (hp _ hR)).mono ?_
  rintro e u' w'' ⟨rfl, rfl, rfl⟩
  simp [Leaves, raised, go_sem]
  exact hR
end
#print axioms try_ok
#print axioms try_no
#print axioms try_thru
end Go.Proofs.YtlicafjhkbofbaaDoor
