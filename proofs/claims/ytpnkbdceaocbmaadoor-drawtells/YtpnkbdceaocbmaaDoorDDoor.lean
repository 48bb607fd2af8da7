/- How slices of uint32, int and uint64 that came in are opened. No conditions but those that each line states. -/
import Derived.Test.YtpnkbdceaocbmaaDoorCDoor
import Derived.Test.YtpnkbdceaocbmaaDoorDBase
namespace Go.Proofs.YtpnkbdceaocbmaaDoor
open Go.ChangeShapes Go.WideShapes Go.ChangeAt Go.RowKit

section
variable {H : Type} {enc : TypeId × Value → H} {W : World} {base : Nat} {sp : Nat → Bool} {held : Bool}

/-- A slice of numbers that came in. -/
theorem open_ns {k : IntKind} {T E : TypeId} (hT : Tryd.prog.underlying T = some (.slice E)) (hE : Tryd.prog.underlying E = some (.int k)) (hc : Tryd.prog.cellsOf E = 1) {r : Reach} {b0 : Nat} {v : Value} {d : DataW H} {p : List MemPlace} (hok : Value.okWide Tryd.prog W r b0 T v)
    (h : DataW.Trod enc Tryd.prog W base (fun _ => true) held T v d p) : ∃ a len cap zs, v = .slice a len cap ∧ Ns k W a len cap zs := by
  obtain ⟨a, len, cap, rfl⟩ := okWide_slice hT hok
  obtain ⟨fuel, hf⟩ := h
  rcases open_ints hT hE hc hf with ⟨hcs, _⟩ | ⟨x, l, c, zs, hcs, _, hl, hm, hz, _, hcell, hwz⟩
  · simp [Value.cells] at hcs
    obtain ⟨rfl, rfl, rfl⟩ := hcs
    exact ⟨none, 0, 0, _, rfl, Ns.nil k W⟩
  · simp [Value.cells] at hcs
    obtain ⟨rfl, rfl, rfl⟩ := hcs
    exact ⟨_, _, _, zs.take len, rfl, ns_of_row (.inr ⟨_, rfl, hl, hm, by simpa using hz, hcell, hwz⟩)⟩
theorem open_u32s {r : Reach} {b0 : Nat} {v : Value} {d : DataW H} {p : List MemPlace} (hok : Value.okWide Tryd.prog W r b0 31 v)
    (h : DataW.Trod enc Tryd.prog W base (fun _ => true) held 31 v d p) : ∃ a len cap zs, v = .slice a len cap ∧ Ns .u32 W a len cap zs := open_ns Tryd.underlying31 Tryd.underlying33 (by kernel_rfl) hok h
theorem open_i64s {r : Reach} {b0 : Nat} {v : Value} {d : DataW H} {p : List MemPlace} (hok : Value.okWide Tryd.prog W r b0 37 v)
    (h : DataW.Trod enc Tryd.prog W base (fun _ => true) held 37 v d p) : ∃ a len cap zs, v = .slice a len cap ∧ Ns .i64 W a len cap zs := open_ns Tryd.underlying37 Tryd.underlying3 (by kernel_rfl) hok h
theorem open_u64s {r : Reach} {b0 : Nat} {v : Value} {d : DataW H} {p : List MemPlace} (hok : Value.okWide Tryd.prog W r b0 38 v)
    (h : DataW.Trod enc Tryd.prog W base (fun _ => true) held 38 v d p) : ∃ a len cap zs, v = .slice a len cap ∧ Ns .u64 W a len cap zs := open_ns Tryd.underlying38 Tryd.underlying23 (by kernel_rfl) hok h
end
#print axioms open_u32s
end Go.Proofs.YtpnkbdceaocbmaaDoor
