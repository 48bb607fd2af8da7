/- What the condition on disk.errPower gives the walks, that the program's own start meets it, and how slices of bytes, of ints and of slices of bytes that came in are opened. No conditions but those that each line states. -/
import Derived.Test.YtlicafjhkbofbaaDoorKAwake
import Derived.ProofKit
import Derived.LaidMore
import Derived.LaidHandle
import Derived.LaidLaws
import Derived.OpenShut
import Derived.Stop.Joined
import Derived.Stop.LaidErr
import Derived.ChangeOld
import Derived.Below
import Derived.MakeChecks
import Derived.Deep.Slices
namespace Go.Proofs.YtlicafjhkbofbaaDoor
open Go.ChangeShapes Go.WideShapes Go.ChangeAt Go.RowKit

theorem own : ownKnob Tryd.prog.godebug = none := by kernel_rfl
theorem laidOut : laidOutB Tryd.prog = true := by kernel_rfl
theorem gPower : Tryd.prog.globalNamed "dumbwaiter/disk.errPower" = some 0 := by kernel_rfl
theorem tPower : (Tryd.prog.globals[0]?).map (·.type) = some 61 := by kernel_rfl
theorem starErr : "*" ++ "errors.errorString" = "*errors.errorString" := by decide
theorem rowErr (u : TypeId) (h : Tryd.prog.typeName? 3 u = some "*errors.errorString") : u = 65 :=
  typeName_ptr_named (nm := "errors.errorString") (by rw [starErr]; kernel_rfl) (by kernel_rfl) (by decide) u (by rw [starErr]; exact h)
theorem cells_err : Tryd.prog.cellsOf 82 = 1 := by kernel_rfl
theorem cells_str : Tryd.prog.cellsOf 9 = 1 := by kernel_rfl
theorem cells_u8 : Tryd.prog.cellsOf 5 = 1 := by kernel_rfl
theorem cells_bs : Tryd.prog.cellsOf 22 = 1 := by kernel_rfl

abbrev laidR : List (String × DataW Unit) := [("dumbwaiter/disk.errPower", Rows.laid_dumbwaiter_disk_errPower)]

theorem door_met (os : Os) (args : Array Value) : laidMetH Tryd.prog laidR ((World.doorLaid Tryd.prog 400 os).forCall (fun _ _ => 0) ⟨#[], args, []⟩).memory :=
  laidMetH_of_parts3 (fuel := 8) (laidMet_of_run' 8 (by kernel_rfl) (by kernel_rfl)) (by kernel_rfl) (by kernel_rfl)

/-- What the condition on disk.errPower gives. -/
theorem of_laid {W : World} (h : laidMetH Tryd.prog laidR W) : ∃ p, Pow p W := by
  rw [MakeChecks.laidMetH_plain _ _ _ (by kernel_rfl)] at h
  obtain ⟨a0, s0, hv0, hc0, hs0, hz0⟩ := laid_sentinel h gPower tPower Tryd.underlying61 rowErr Tryd.underlying65 Tryd.underlying82 rfl rfl Tryd.underlying9 cells_err cells_str
  refine ⟨a0, ?_⟩
  have := World.var?_cell gPower hv0 0
  simpa [Pow, errV] using this

section
variable {H : Type} {enc : TypeId × Value → H} {W : World} {base : Nat} {sp : Nat → Bool} {held : Bool}
theorem bs_of_trod {fuel : Nat} {v : Value} {x : DataW H × List MemPlace} (hf : DataW.trod enc Tryd.prog W base (fun _ => true) held fuel 22 [v] = some x) : ∃ y : BV, v = y.v ∧ Bs W y.a y.len y.cap y.zs := by
  rcases open_ints Tryd.underlying22 Tryd.underlying5 cells_u8 hf with ⟨hcs, _⟩ | ⟨x, l, c, zs, hcs, _, hl, hm, hz, _, hcell, hwz⟩
  · simp only [List.cons.injEq, and_true] at hcs
    exact ⟨BV.nil, hcs, Bs.nil W⟩
  · simp only [List.cons.injEq, and_true] at hcs
    exact ⟨⟨some x, l, c, zs.take l⟩, hcs, bs_of_row (.inr ⟨_, rfl, hl, hm, by simpa using hz, hcell, hwz⟩)⟩
/-- A slice of bytes that came in. -/
theorem open_bs {r : Reach} {b0 : Nat} {v : Value} {d : DataW H} {p : List MemPlace} (hok : Value.okWide Tryd.prog W r b0 22 v)
    (h : DataW.Trod enc Tryd.prog W base (fun _ => true) held 22 v d p) : ∃ a len cap zs, v = .slice a len cap ∧ Bs W a len cap zs := by
  obtain ⟨a, len, cap, rfl⟩ := okWide_slice Tryd.underlying22 hok
  obtain ⟨fuel, hf⟩ := h
  obtain ⟨y, hy, hb⟩ := bs_of_trod (v := .slice a len cap) (by simpa [Value.cells] using hf)
  exact ⟨y.a, y.len, y.cap, y.zs, hy, hb⟩
/-- A slice of ints that came in. -/
theorem open_i64s {r : Reach} {b0 : Nat} {v : Value} {d : DataW H} {p : List MemPlace} (hok : Value.okWide Tryd.prog W r b0 37 v)
    (h : DataW.Trod enc Tryd.prog W base (fun _ => true) held 37 v d p) : ∃ a len cap zs, v = .slice a len cap ∧ Ns .i64 W a len cap zs := by
  obtain ⟨a, len, cap, rfl⟩ := okWide_slice Tryd.underlying37 hok
  obtain ⟨fuel, hf⟩ := h
  rcases open_ints Tryd.underlying37 Tryd.underlying3 (by kernel_rfl) hf with ⟨hcs, _⟩ | ⟨x, l, c, zs, hcs, _, hl, hm, hz, _, hcell, hwz⟩
  · simp [Value.cells] at hcs
    obtain ⟨rfl, rfl, rfl⟩ := hcs
    exact ⟨none, 0, 0, _, rfl, Ns.nil .i64 W⟩
  · simp [Value.cells] at hcs
    obtain ⟨rfl, rfl, rfl⟩ := hcs
    exact ⟨_, _, _, zs.take len, rfl, ns_of_row (.inr ⟨_, rfl, hl, hm, by simpa using hz, hcell, hwz⟩)⟩
/-- A slice of slices of bytes that came in. -/
theorem open_bss {r : Reach} {b0 : Nat} {v : Value} {d : DataW H} {p : List MemPlace} (hok : Value.okWide Tryd.prog W r b0 42 v)
    (h : DataW.Trod enc Tryd.prog W base (fun _ => true) held 42 v d p) : ∃ a len cap xs, v = .slice a len cap ∧ BBs W a len cap xs := by
  obtain ⟨a, len, cap, rfl⟩ := okWide_slice Tryd.underlying42 hok
  obtain ⟨fuel, hf⟩ := h
  rcases Deep.open_slice1 Tryd.underlying42 cells_bs hf with ⟨hcs, _⟩ | ⟨x, l, c, m, n, V, D, Pl, hcs, _, hl, hm, hmm, _, hV⟩
  · simp [Value.cells] at hcs
    obtain ⟨rfl, rfl, rfl⟩ := hcs
    exact ⟨none, 0, 0, fun _ => BV.nil, rfl, Nat.le_refl _, by omega, fun i hi => absurd hi (Nat.not_lt_zero _)⟩
  · simp [Value.cells] at hcs
    obtain ⟨rfl, rfl, rfl⟩ := hcs
    simp only [if_true] at hmm
    unfold maxLen at hm
    have key : ∀ i, ∃ y : BV, i < len → W.cell? (x.add i) = some y.v ∧ Bs W y.a y.len y.cap y.zs := fun i => by
      by_cases hi : i < len
      · obtain ⟨h1, h2⟩ := hV i (by omega)
        obtain ⟨y, hy, hb⟩ := bs_of_trod h2
        exact ⟨y, fun _ => ⟨by rw [h1, hy], hb⟩⟩
      · exact ⟨BV.nil, fun h => absurd h hi⟩
    obtain ⟨f, hf'⟩ := Classical.axiomOfChoice key
    refine ⟨some x, len, cap, f, rfl, hl, by omega, fun i hi => ?_⟩
    obtain ⟨b, off, spot⟩ := x
    have hspot : spot = none := by
      have := World.cell?_spot (hf' 0 (by omega)).1
      simpa [Addr.add] using this
    subst hspot
    have := (hf' i hi).1
    rw [addr_add] at this
    exact ⟨⟨b, off, rfl, this⟩, (hf' i hi).2⟩
end
#print axioms open_bss
#print axioms of_laid
#print axioms door_met
end Go.Proofs.YtlicafjhkbofbaaDoor
