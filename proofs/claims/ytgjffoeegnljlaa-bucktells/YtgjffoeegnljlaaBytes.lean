
/- Rows of bytes by their places, noughts, exclusive or of bytes: no program is named here; no conditions but those that each line states. -/
import Derived.Test.YtgjffoeegnljlaaMem
import Derived.Laws.Rows
import Derived.Laws.Tables
import Derived.Deep.MidRow
namespace Go.Proofs.Ytgjffoeegnljlaa
open Go.RowKit
set_option maxRecDepth 20000

/-- A row of bytes as a value. -/
def bV (zs : List Int) : Array Value := (zs.map (Value.int .u8)).toArray
theorem bV_size (zs : List Int) : (bV zs).size = zs.length := by simp [bV]
theorem bV_one (zs : List Int) : (bV zs).all (·.oneCell') = true := by
  refine all_oneCell_toArray fun v hv => ?_
  obtain ⟨j, _, rfl⟩ := List.mem_map.1 hv
  rfl

def rowL (f : Nat → Int) (n : Nat) : List Int := (List.range n).map f
theorem rowL_length (f : Nat → Int) (n : Nat) : (rowL f n).length = n := by simp [rowL]
theorem rowL_getD (f : Nat → Int) (n i : Nat) (h : i < n) : (rowL f n).getD i 0 = f i := by simp [rowL, List.getD, h]
theorem rowL_get (f : Nat → Int) (n i : Nat) (h : i < n) : (rowL f n)[i]? = some (f i) := by simp [rowL, h]
theorem rowL_none (f : Nat → Int) (n i : Nat) (h : n ≤ i) : (rowL f n)[i]? = none := by simp [rowL, h]
theorem rowL_bytes (f : Nat → Int) (n : Nat) (h : ∀ i, i < n → 0 ≤ f i ∧ f i < 256) : IsBytes (rowL f n) := by
  intro x hx
  obtain ⟨i, hi, rfl⟩ := List.mem_map.1 hx
  exact h i (List.mem_range.1 hi)
theorem rowL_congr {f g : Nat → Int} {n : Nat} (h : ∀ i, i < n → f i = g i) : rowL f n = rowL g n :=
  List.map_congr_left fun i hi => h i (List.mem_range.1 hi)
theorem rowL_of (zs : List Int) (n : Nat) (f : Nat → Int) (hn : zs.length = n) (h : ∀ i, i < n → zs.getD i 0 = f i) : zs = rowL f n := by
  apply List.ext_getElem?
  intro i
  rcases Nat.lt_or_ge i n with hi | hi
  · rw [rowL_get f n i hi, ← h i hi]
    simp [List.getD, show i < zs.length by omega]
  · rw [rowL_none f n i hi, List.getElem?_eq_none (by omega)]

/-- Noughts. -/
def zL (n : Nat) : List Int := rowL (fun _ => 0) n
theorem zL_length (n : Nat) : (zL n).length = n := rowL_length _ _
theorem zL_bytes (n : Nat) : IsBytes (zL n) := rowL_bytes _ _ fun _ _ => by omega
theorem zL_getD (n i : Nat) : (zL n).getD i 0 = 0 := by
  rcases Nat.lt_or_ge i n with h | h
  · exact rowL_getD _ _ _ h
  · rw [List.getD, zL, rowL_none _ _ _ h]; rfl

/-- Exclusive or of two bytes. -/
def xr (a b : Int) : Int := ((a.toNat ^^^ b.toNat : Nat) : Int)
theorem bits_xr (a b : Int) (ha : 0 ≤ a ∧ a < 256) (hb : 0 ≤ b ∧ b < 256) : bits .xor .u8 a b = xr a b := u8_xor a b ha.1 ha.2 hb.1 hb.2
theorem xr_lt (a b : Int) (ha : 0 ≤ a ∧ a < 256) (hb : 0 ≤ b ∧ b < 256) : 0 ≤ xr a b ∧ xr a b < 256 := by
  have : a.toNat ^^^ b.toNat < 2 ^ 8 := Nat.xor_lt_two_pow (by omega) (by omega)
  unfold xr
  omega
theorem xr_back (a b : Int) (ha : 0 ≤ a ∧ a < 256) : xr (xr a b) b = a := by
  unfold xr
  rw [Int.toNat_natCast, Nat.xor_assoc, Nat.xor_self, Nat.xor_zero]
  omega
theorem xr_zero (b : Int) (hb : 0 ≤ b ∧ b < 256) : xr 0 b = b := by
  unfold xr
  rw [show (0 : Int).toNat = 0 from rfl, Nat.zero_xor]
  omega
theorem xr_two (a b k : Int) : xr (xr a k) (xr b k) = xr a b := by
  unfold xr
  rw [Int.toNat_natCast, Int.toNat_natCast]
  congr 1
  rw [Nat.xor_comm b.toNat k.toNat, Nat.xor_assoc, ← Nat.xor_assoc k.toNat, Nat.xor_self, Nat.zero_xor]

/-! ### New memory -/
theorem size_alloc (w : World) (o : Obj) : (w.alloc o).heap.size = w.heap.size + 1 := by simp
theorem below_alloc {w W : World} (h : Below w.heap.size w W) (o : Obj) : Below w.heap.size w (W.alloc o) := h.alloc h.size o
theorem block_alloc {W : World} {g : Nat} {x : Obj} (h : W.heap[g]? = some x) (o : Obj) : (W.alloc o).heap[g]? = some x := (Below.heap_alloc W o g (Array.getElem?_eq_some_iff.1 h).1).trans h
theorem rangeAt_keep {w w' : World} {g o : Nat} {l : List Value} (h : w.rangeAt g o l) (hb : w'.heap[g]? = w.heap[g]?) : w'.rangeAt g o l := fun j v hv => (World.cell?_of_block (w := w) hb).trans (h j v hv)
#print axioms xr_two
end Go.Proofs.Ytgjffoeegnljlaa
