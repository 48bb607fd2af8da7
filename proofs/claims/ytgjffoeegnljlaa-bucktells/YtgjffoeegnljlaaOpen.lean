
/- How arguments are opened: rows of bytes, slices of bytes and of numbers; that the program's types are laid out. No conditions but those that each line states. -/
import Derived.Test.YtgjffoeegnljlaaRows
import Derived.Test.YtgjffoeegnljlaaNums
import Derived.ProofKit
import Derived.LaidMore
import Derived.LaidHandle
import Derived.LaidLaws
import Derived.OpenShut
import Derived.WideKeyArr2
import Derived.Stop.Joined
import Derived.Laws.IdiomArrays
import Derived.ChangeOld
import Derived.Below
import Derived.MakeChecks
import Derived.Stop.LaidErr
import Derived.Deep.Slices
import Derived.SizedLaws
namespace Go.Proofs.Ytgjffoeegnljlaa
open Go.ChangeShapes Go.WideShapes Go.ChangeAt Go.RowKit
set_option maxRecDepth 20000

theorem own : ownKnob Try.prog.godebug = none := by kernel_rfl
theorem laidOut : laidOutB Try.prog = true := by kernel_rfl
theorem cells_u8 : Try.prog.cellsOf 5 = 1 := by kernel_rfl
section
variable {H : Type} {enc : TypeId × Value → H} {W : World} {base : Nat} {sp : Nat → Bool} {held : Bool}
theorem open_barr {ty n : Nat} (A : WideMaps.ArrKey Try.prog ty 5 n) {r : Reach} {b0 : Nat} {v : Value} {d : DataW H} {p : List MemPlace} (hok : Value.okWide Try.prog W r b0 ty v)
    (h : DataW.Trod enc Try.prog W base sp held ty v d p) : ∃ zs : List Int, v = .agg (bV zs) ∧ zs.length = n ∧ IsBytes zs ∧ p = [] := by
  obtain ⟨cs, rfl, hn⟩ := WideMaps.okWide_arr A hok
  obtain ⟨fuel, hf⟩ := h
  obtain ⟨ys, m, _, hx, hlen, hy, hel⟩ := DataW.trod_array A.hu hf
  rw [cells_u8] at hel
  have key : ∀ i, i < n → ∃ x : Int, (0 ≤ x ∧ x < 256) ∧ cs[i]? = some (.int .u8 x) ∧ ys[i]? = some (.lit (.int .u8 x), []) := by
    intro i hi
    obtain ⟨y, hy'⟩ : ∃ y, ys[i]? = some y := ⟨_, List.getElem?_eq_getElem (by omega)⟩
    obtain ⟨x, e1, e2, hw⟩ := DataW.trod_int Try.underlying5 ((hel i hi).trans hy')
    refine ⟨x, byte_of_wf hw, ?_, ?_⟩
    · have := congrArg (fun l => l[0]?) e1
      simpa [Value.cells, List.getElem?_take, List.getElem?_drop] using this
    · rw [hy', e2]
  have key2 : ∀ i, ∃ x : Int, i < n → (0 ≤ x ∧ x < 256) ∧ cs[i]? = some (.int .u8 x) ∧ ys[i]? = some (.lit (.int .u8 x), []) := fun i => by
    by_cases h : i < n
    · obtain ⟨x, hx⟩ := key i h
      exact ⟨x, fun _ => hx⟩
    · exact ⟨0, fun h' => absurd h' h⟩
  obtain ⟨f, hf'⟩ := Classical.axiomOfChoice key2
  refine ⟨rowL f n, ?_, rowL_length _ _, rowL_bytes _ _ fun i hi => (hf' i hi).1, ?_⟩
  · congr 1
    apply Array.ext_getElem?
    intro i
    rcases Nat.lt_or_ge i n with hi | hi
    · rw [(hf' i hi).2.1]
      simp [bV, rowL_get f n i hi]
    · rw [Array.getElem?_eq_none (by omega), Array.getElem?_eq_none (by rw [bV_size, rowL_length]; omega)]
  · have hp := (Prod.mk.inj hx).2
    rw [hp, List.flatMap_eq_nil_iff]
    intro y hy'
    obtain ⟨i, hi, rfl⟩ := List.mem_iff_getElem.1 hy'
    have := (hf' i (by omega)).2.2
    rw [List.getElem?_eq_getElem hi] at this
    rw [Option.some.inj this]

/-- A slice of bytes that came in. -/
theorem open_bs {r : Reach} {b0 : Nat} {v : Value} {d : DataW H} {p : List MemPlace} (hok : Value.okWide Try.prog W r b0 22 v)
    (h : DataW.Trod enc Try.prog W base (fun _ => true) held 22 v d p) : ∃ a len cap zs, v = .slice a len cap ∧ Bs W a len cap zs := by
  obtain ⟨a, len, cap, rfl⟩ := okWide_slice Try.underlying22 hok
  obtain ⟨fuel, hf⟩ := h
  rcases open_ints Try.underlying22 Try.underlying5 (by kernel_rfl) hf with ⟨hcs, _⟩ | ⟨x, l, c, zs, hcs, _, hl, hm, hz, _, hcell, hwz⟩
  · simp [Value.cells] at hcs
    obtain ⟨rfl, rfl, rfl⟩ := hcs
    exact ⟨none, 0, 0, _, rfl, Bs.nil W⟩
  · simp [Value.cells] at hcs
    obtain ⟨rfl, rfl, rfl⟩ := hcs
    exact ⟨_, _, _, zs.take len, rfl, bs_of_row (.inr ⟨_, rfl, hl, hm, by simpa using hz, hcell, hwz⟩)⟩
/-- A slice of bytes that came in, its room within reach. -/
theorem open_bz {r : Reach} {b0 : Nat} {v : Value} {d : DataW H} {p : List MemPlace} (hok : Value.okWide Try.prog W r b0 22 v)
    (h : DataW.Trod enc Try.prog W base (fun _ => true) held 22 v d p) (hs : ∀ el sp, d = .slice el sp → (el.length + sp.length) * Try.prog.bytesOf 5 ≤ reachBytes) : ∃ a len cap zs, v = .slice a len cap ∧ Bs W a len cap zs ∧ cap ≤ 140737488351232 := by
  obtain ⟨a, len, cap, rfl⟩ := okWide_slice Try.underlying22 hok
  obtain ⟨fuel, hf⟩ := h
  rcases open_ints Try.underlying22 Try.underlying5 (by kernel_rfl) hf with ⟨hcs, _⟩ | ⟨x, l, c, zs, hcs, _, hl, hm, hz, hdat, hcell, hwz⟩
  · simp [Value.cells] at hcs
    obtain ⟨rfl, rfl, rfl⟩ := hcs
    exact ⟨none, 0, 0, _, rfl, Bs.nil W, by omega⟩
  · simp [Value.cells] at hcs
    obtain ⟨rfl, rfl, rfl⟩ := hcs
    have hsl := hs _ _ (Prod.mk.inj hdat).1
    rw [show Try.prog.bytesOf 5 = 1 by kernel_rfl] at hsl
    simp only [lits, List.length_map, List.length_take, List.length_drop, reachBytes] at hsl
    have hz' : zs.length = cap := by simpa using hz
    exact ⟨_, _, _, zs.take len, rfl, bs_of_row (.inr ⟨_, rfl, hl, hm, by simpa using hz, hcell, hwz⟩), by omega⟩
/-- A slice of numbers that came in. -/
theorem open_ns {k : IntKind} {T E : TypeId} (hT : Try.prog.underlying T = some (.slice E)) (hE : Try.prog.underlying E = some (.int k)) (hc : Try.prog.cellsOf E = 1) {r : Reach} {b0 : Nat} {v : Value} {d : DataW H} {p : List MemPlace} (hok : Value.okWide Try.prog W r b0 T v)
    (h : DataW.Trod enc Try.prog W base (fun _ => true) held T v d p) : ∃ a len cap zs, v = .slice a len cap ∧ Ns k W a len cap zs := by
  obtain ⟨a, len, cap, rfl⟩ := okWide_slice hT hok
  obtain ⟨fuel, hf⟩ := h
  rcases open_ints hT hE hc hf with ⟨hcs, _⟩ | ⟨x, l, c, zs, hcs, _, hl, hm, hz, _, hcell, hwz⟩
  · simp [Value.cells] at hcs
    obtain ⟨rfl, rfl, rfl⟩ := hcs
    exact ⟨none, 0, 0, _, rfl, Ns.nil k W⟩
  · simp [Value.cells] at hcs
    obtain ⟨rfl, rfl, rfl⟩ := hcs
    exact ⟨_, _, _, zs.take len, rfl, ns_of_row (.inr ⟨_, rfl, hl, hm, by simpa using hz, hcell, hwz⟩)⟩
end
#print axioms open_bs
end Go.Proofs.Ytgjffoeegnljlaa
