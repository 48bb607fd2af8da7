/- What the condition on quar.rounds gives the walks, that the program's own start meets it, and how a row of sixteen words that came in is opened. No conditions but those that each line states. -/
import Derived.Test.YthhaeiafgloacaaDoorQDouble
import Derived.Test.YthhaeiafgloacaaDoorQEq
import Derived.ProofKit
import Derived.LaidMore
import Derived.LaidHandle
import Derived.LaidLaws
import Derived.OpenShut
import Derived.WideKeyArr2
import Derived.Stop.Joined
import Derived.Laws.IdiomArrays
import Derived.ChangeOld
import Derived.Below
namespace Go.Proofs.YthhaeiafgloacaaDoor
open Go.ChangeShapes Go.WideShapes Go.ChangeAt Go.RowKit

theorem own : ownKnob Tryd.prog.godebug = none := by kernel_rfl
theorem laidOut : laidOutB Tryd.prog = true := by kernel_rfl
theorem gRounds : Tryd.prog.globalNamed "dumbwaiter/quar.rounds" = some 0 := by kernel_rfl
theorem tRounds : (Tryd.prog.globals[0]?).map (·.type) = some 58 := by kernel_rfl

abbrev laidR : List (String × DataW Unit) := [("dumbwaiter/quar.rounds", Rows.laid_dumbwaiter_quar_rounds)]

theorem door_met (os : Os) (args : Array Value) : laidMetH Tryd.prog laidR ((World.doorLaid Tryd.prog 400 os).forCall (fun _ _ => 0) ⟨#[], args, []⟩).memory :=
  laidMetH_of_parts3 (fuel := 8) (laidMet_of_run' 8 (by kernel_rfl) (by kernel_rfl)) (by kernel_rfl) (by kernel_rfl)

theorem cells_int : Tryd.prog.cellsOf 3 = 1 := by kernel_rfl
theorem cells_row : Tryd.prog.cellsOf 57 = 4 := by kernel_rfl
theorem cells_rows : Tryd.prog.cellsOf 58 = 32 := by kernel_rfl
theorem cells_arr : Tryd.prog.cellsOf 49 = 16 := by kernel_rfl

section
variable {H : Type} {enc : TypeId × Value → H} {W : World} {base : Nat} {sp : Nat → Bool} {held : Bool}

theorem row_cells {fuel : Nat} {cs : List Value} {a b c d : Int} {x : DataW H × List MemPlace} (hx : x.1 = .agg [.lit (.int .i64 a), .lit (.int .i64 b), .lit (.int .i64 c), .lit (.int .i64 d)])
    (h : DataW.trod enc Tryd.prog W base sp held fuel 57 cs = some x) : cs = [.int .i64 a, .int .i64 b, .int .i64 c, .int .i64 d] := by
  obtain ⟨ys, m, _, _, hlen, _⟩ := DataW.trod_array Tryd.underlying57 h
  rw [cells_row] at hlen
  match cs, hlen with
  | [c0, c1, c2, c3], _ =>
    obtain ⟨y0, y1, y2, y3, n, rfl, h0, h1, h2, h3⟩ := trod_array4 Tryd.underlying57 cells_int h
    obtain ⟨n0, e0, rfl, _⟩ := DataW.trod_int Tryd.underlying3 h0
    obtain ⟨n1, e1, rfl, _⟩ := DataW.trod_int Tryd.underlying3 h1
    obtain ⟨n2, e2, rfl, _⟩ := DataW.trod_int Tryd.underlying3 h2
    obtain ⟨n3, e3, rfl, _⟩ := DataW.trod_int Tryd.underlying3 h3
    simp only [DataW.agg.injEq, List.cons.injEq, DataW.lit.injEq, Lit.int.injEq, true_and, and_true] at hx
    obtain ⟨rfl, rfl, rfl, rfl⟩ := hx
    simp only [List.cons.injEq, and_true] at e0 e1 e2 e3
    rw [e0, e1, e2, e3]

/-- A row of sixteen words that came in. -/
theorem open_arr16 {r : Reach} {b0 : Nat} {v : Value} {d : DataW H} {p : List MemPlace} (hok : Value.okWide Tryd.prog W r b0 49 v)
    (h : DataW.Trod enc Tryd.prog W base sp held 49 v d p) : ∃ xs : Ws, v = .agg (arrV xs) ∧ p = [] := by
  obtain ⟨cs, rfl, hn⟩ := WideMaps.okWide_arr (P := Tryd.prog) (k := 49) (e := 23) (n := 16) ⟨Tryd.underlying49, by kernel_rfl, cells_u32, cells_arr⟩ hok
  obtain ⟨fuel, hf⟩ := h
  obtain ⟨ys, m, _, hx, hlen, hy, hel⟩ := DataW.trod_array Tryd.underlying49 hf
  rw [cells_u32] at hel
  have key : ∀ i, i < 16 → ∃ x : BitVec 32, cs[i]? = some (.int .u32 (x.toNat : Int)) ∧ ys[i]? = some (.lit (.int .u32 (x.toNat : Int)), []) := by
    intro i hi
    obtain ⟨y, hy'⟩ : ∃ y, ys[i]? = some y := ⟨_, List.getElem?_eq_getElem (by omega)⟩
    obtain ⟨n, e1, e2, hw⟩ := DataW.trod_int Tryd.underlying23 ((hel i hi).trans hy')
    have hb : 0 ≤ n ∧ n < 4294967296 := by
      simp [Lit.wf, IntKind.min, IntKind.max, IntKind.signed, IntKind.bits] at hw
      omega
    have hx' : ((BitVec.ofNat 32 n.toNat).toNat : Int) = n := by
      rw [BitVec.toNat_ofNat]
      omega
    refine ⟨BitVec.ofNat 32 n.toNat, ?_, ?_⟩
    · rw [hx']
      have := congrArg (fun l => l[0]?) e1
      simpa [Value.cells, List.getElem?_take, List.getElem?_drop] using this
    · rw [hx', hy', e2]
  have key2 : ∀ i, ∃ x : BitVec 32, i < 16 → cs[i]? = some (.int .u32 (x.toNat : Int)) ∧ ys[i]? = some (.lit (.int .u32 (x.toNat : Int)), []) := fun i => by
    by_cases h : i < 16
    · obtain ⟨x, hx⟩ := key i h
      exact ⟨x, fun _ => hx⟩
    · exact ⟨0, fun h' => absurd h' h⟩
  obtain ⟨f, hf'⟩ := Classical.axiomOfChoice key2
  refine ⟨f, ?_, ?_⟩
  · congr 1
    apply Array.ext_getElem?
    intro i
    rcases Nat.lt_or_ge i 16 with hi | hi
    · rw [arrV_get _ i hi, (hf' i hi).1]
    · rw [Array.getElem?_eq_none (by omega), Array.getElem?_eq_none (by rw [arrV_size]; omega)]
  · have hp := (Prod.mk.inj hx).2
    rw [hp, List.flatMap_eq_nil_iff]
    intro y hy'
    obtain ⟨i, hi, rfl⟩ := List.mem_iff_getElem.1 hy'
    have := (hf' i (by omega)).2
    rw [List.getElem?_eq_getElem hi] at this
    rw [Option.some.inj this]
end

/-- What the condition on quar.rounds gives. -/
theorem of_laid {W : World} (h : laidMetH Tryd.prog laidR W) : Glob W := by
  rw [MakeChecks.laidMetH_plain _ _ _ (by kernel_rfl)] at h
  obtain ⟨ps, ⟨g0, t0, cs0, f0, p0, q0, hg0, ht0, hv0, hd0, _, _⟩, _, _⟩ := h
  obtain rfl := Option.some.inj (gRounds.symm.trans hg0)
  obtain rfl := Option.some.inj (tRounds.symm.trans ht0)
  have hcell := World.var?_cell hg0 hv0
  obtain ⟨ys, m, _, hx, hlen, hy, hel⟩ := DataW.trod_array Tryd.underlying58 hd0
  rw [cells_row] at hel
  have hrow : ∀ i, i < 8 → (cs0.toList.drop (i * 4)).take 4 = [.int .i64 (pl i 0 : Nat), .int .i64 (pl i 1 : Nat), .int .i64 (pl i 2 : Nat), .int .i64 (pl i 3 : Nat)] := by
    intro i hi
    obtain ⟨y, hy'⟩ : ∃ y, ys[i]? = some y := ⟨_, List.getElem?_eq_getElem (by omega)⟩
    refine row_cells (x := y) ?_ ((hel i hi).trans hy')
    have h1 := (Prod.mk.inj hx).1
    simp only [Rows.laid_dumbwaiter_quar_rounds, DataW.agg.injEq] at h1
    have h2 := congrArg (fun l => l[i]?) h1
    simp only [List.getElem?_map, hy', Option.map_some] at h2
    rcases i with _ | _ | _ | _ | _ | _ | _ | _ | i
    all_goals first | (exfalso; omega) | exact (Option.some.inj h2).symm
  intro j v hv
  have hj : j < 32 := (List.getElem?_eq_some_iff.1 hv).1
  rw [Nat.zero_add, hcell j]
  have e1 := congrArg (fun l => l[j % 4]?) (hrow (j / 4) (by omega))
  simp only [List.getElem?_take, List.getElem?_drop, if_pos (show j % 4 < 4 by omega)] at e1
  rw [show j / 4 * 4 + j % 4 = j by omega, Array.getElem?_toList] at e1
  rw [e1]
  have key : ∀ i, i < 8 → ∀ j, j < 4 → rdL[i * 4 + j]? = [Value.int .i64 (pl i 0 : Nat), .int .i64 (pl i 1 : Nat), .int .i64 (pl i 2 : Nat), .int .i64 (pl i 3 : Nat)][j]? := by
    intro i hi j hj
    rcases i with _ | _ | _ | _ | _ | _ | _ | _ | i
    all_goals first | (exfalso; omega) | (rcases j with _ | _ | _ | _ | j <;> first | (exfalso; omega) | rfl)
  rw [← key (j / 4) (by omega) (j % 4) (by omega), show j / 4 * 4 + j % 4 = j by omega]
  exact hv

#print axioms of_laid
#print axioms open_arr16
#print axioms door_met
end Go.Proofs.YthhaeiafgloacaaDoor
