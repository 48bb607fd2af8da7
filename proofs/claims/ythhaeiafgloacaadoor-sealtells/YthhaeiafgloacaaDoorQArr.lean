/- Sixteen words in a row: what they read as, what one store turns, what a double round and its way back make of them. No program is named here; no conditions but those that each line states. -/
import Derived.Test.YthhaeiafgloacaaDoorU32
import Derived.Laws.Rows
import Derived.Laws.Tables
import Derived.Deep.MidRow
namespace Go.Proofs.YthhaeiafgloacaaDoor
open Go.RowKit

/-- Words by their places. -/
abbrev Ws := Nat → BitVec 32

def arrL (xs : Ws) : List Value := (List.range 16).map fun j => Value.int .u32 ((xs j).toNat : Int)
def arrV (xs : Ws) : Array Value := (arrL xs).toArray

def upd (xs : Ws) (k : Nat) (v : BitVec 32) : Ws := fun j => if j = k then v else xs j

theorem arrL_length (xs : Ws) : (arrL xs).length = 16 := by simp [arrL]
theorem arrV_size (xs : Ws) : (arrV xs).size = 16 := by simp [arrV, arrL]
theorem arrV_get (xs : Ws) (j : Nat) (h : j < 16) : (arrV xs)[j]? = some (.int .u32 ((xs j).toNat : Int)) := by simp [arrV, arrL, h]
theorem arrV_one (xs : Ws) : (arrV xs).all (·.oneCell') = true := by
  refine all_oneCell_toArray fun v hv => ?_
  obtain ⟨j, _, rfl⟩ := List.mem_map.1 hv
  rfl
theorem arrV_set (xs : Ws) (k : Nat) (v : BitVec 32) : (arrV xs).setIfInBounds k (.int .u32 (v.toNat : Int)) = arrV (upd xs k v) := by
  apply Array.ext_getElem?
  intro j
  rcases Nat.lt_or_ge j 16 with h | h
  · rw [arrV_get _ _ h, Array.getElem?_setIfInBounds]
    by_cases e : k = j
    · subst e
      simp [arrV_size, h, upd]
    · rw [if_neg e, arrV_get _ _ h]
      simp [upd, Ne.symm e]
  · rw [Array.getElem?_eq_none (by simp [arrV_size]; omega), Array.getElem?_eq_none (by simp [arrV_size]; omega)]

/-- Block g is a row of sixteen words. -/
def ArrU (E : TypeId) (w : World) (g : Nat) (xs : Ws) : Prop := w.heap[g]? = some (.cells (arrV xs) E (0, 0))

theorem ArrU.lt {E : TypeId} {w : World} {g : Nat} {xs : Ws} (h : ArrU E w g xs) : g < w.heap.size := (Array.getElem?_eq_some_iff.1 h).1
theorem ArrU.cell {E : TypeId} {w : World} {g : Nat} {xs : Ws} (h : ArrU E w g xs) (j : Nat) (hj : j < 16) : w.cell? ⟨g, j, none⟩ = some (.int .u32 ((xs j).toNat : Int)) := by
  rw [cell_of_row w g j _ _ _ h, arrV_get xs j hj]
theorem ArrU.frozen {E : TypeId} {w : World} {g : Nat} {xs : Ws} (h : ArrU E w g xs) (j : Nat) : w.frozen? ⟨g, j, none⟩ = false := frozen_of_row w g j _ _ h
theorem ArrU.set {E : TypeId} {w : World} {g : Nat} {xs : Ws} (h : ArrU E w g xs) (k : Nat) (v : BitVec 32) : ArrU E (w.setCell ⟨g, k, none⟩ (.int .u32 (v.toNat : Int))) g (upd xs k v) := by
  unfold ArrU
  rw [heap_setCell_same w g k _ _ _ h, arrV_set]
theorem ArrU.setRow {E : TypeId} {w : World} {g : Nat} {xs : Ws} (h : ArrU E w g xs) (ys : Ws) : ArrU E (w.setRow g (arrV ys)) g ys := setRow_heap w g _ _ _ _ h
theorem ArrU.below {E : TypeId} {w w' : World} {g B : Nat} {xs : Ws} (h : ArrU E w g xs) (hb : Below B w w') (hB : g < B) : ArrU E w' g xs := by
  unfold ArrU at h ⊢
  rw [hb.block g hB]; exact h
theorem ArrU.other {E : TypeId} {w w' : World} {g : Nat} {xs : Ws} (h : ArrU E w g xs) (hb : w'.heap[g]? = w.heap[g]?) : ArrU E w' g xs := by
  unfold ArrU at h ⊢
  rw [hb]; exact h

theorem Below.setRow {B : Nat} {a w : World} (h : Below B a w) {g : Nat} (hg : B ≤ g) (cs : Array Value) : Below B a (w.setRow g cs) :=
  h.trans ⟨rfl, rfl, rfl, by simp, fun k hk => setRow_other w g k cs (by omega)⟩

/-! ### The places -/
def plT : List (List Nat) := [[0, 4, 8, 12], [1, 5, 9, 13], [2, 6, 10, 14], [3, 7, 11, 15], [0, 5, 10, 15], [1, 6, 11, 12], [2, 7, 8, 13], [3, 4, 9, 14]]
def pl (i j : Nat) : Nat := (plT.getD i []).getD j 0

theorem pl_ok (i : Nat) (h : i < 8) : (pl i 0 < 16 ∧ pl i 1 < 16 ∧ pl i 2 < 16 ∧ pl i 3 < 16) ∧
    pl i 0 ≠ pl i 1 ∧ pl i 0 ≠ pl i 2 ∧ pl i 0 ≠ pl i 3 ∧ pl i 1 ≠ pl i 2 ∧ pl i 1 ≠ pl i 3 ∧ pl i 2 ≠ pl i 3 := by
  have : ∀ i, i < 8 → (pl i 0 < 16 ∧ pl i 1 < 16 ∧ pl i 2 < 16 ∧ pl i 3 < 16) ∧
    pl i 0 ≠ pl i 1 ∧ pl i 0 ≠ pl i 2 ∧ pl i 0 ≠ pl i 3 ∧ pl i 1 ≠ pl i 2 ∧ pl i 1 ≠ pl i 3 ∧ pl i 2 ≠ pl i 3 := by decide
  exact this i h

/-- Four words into their places. -/
def put4 (xs : Ws) (a b c d : Nat) (r : W4) : Ws := upd (upd (upd (upd xs a r.1) b r.2.1) c r.2.2.1) d r.2.2.2
def qstep (xs : Ws) (a b c d : Nat) : Ws := put4 xs a b c d (qr (xs a) (xs b) (xs c) (xs d))
def ustep (xs : Ws) (a b c d : Nat) : Ws := put4 xs a b c d (uq (xs a) (xs b) (xs c) (xs d))

theorem put4_read (xs : Ws) (a b c d : Nat) (r : W4) (h1 : a ≠ b) (h2 : a ≠ c) (h3 : a ≠ d) (h4 : b ≠ c) (h5 : b ≠ d) (h6 : c ≠ d) :
    put4 xs a b c d r a = r.1 ∧ put4 xs a b c d r b = r.2.1 ∧ put4 xs a b c d r c = r.2.2.1 ∧ put4 xs a b c d r d = r.2.2.2 := by
  simp [put4, upd, h1, h2, h3, h4, h5, h6]
theorem put4_put4 (xs : Ws) (a b c d : Nat) (r s : W4) : put4 (put4 xs a b c d r) a b c d s = put4 xs a b c d s := by
  funext j
  simp only [put4, upd]
  by_cases e4 : j = d <;> by_cases e3 : j = c <;> by_cases e2 : j = b <;> by_cases e1 : j = a <;> simp [e1, e2, e3, e4]
theorem put4_own (xs : Ws) (a b c d : Nat) : put4 xs a b c d (xs a, xs b, xs c, xs d) = xs := by
  funext j
  simp only [put4, upd]
  by_cases e4 : j = d
  · simp [e4]
  · by_cases e3 : j = c
    · rw [if_neg e4]; simp [e3]
    · by_cases e2 : j = b
      · rw [if_neg e4, if_neg e3]; simp [e2]
      · rw [if_neg e4, if_neg e3, if_neg e2]
        by_cases e1 : j = a
        · simp [e1]
        · rw [if_neg e1]

theorem ustep_qstep (xs : Ws) (a b c d : Nat) (h1 : a ≠ b) (h2 : a ≠ c) (h3 : a ≠ d) (h4 : b ≠ c) (h5 : b ≠ d) (h6 : c ≠ d) : ustep (qstep xs a b c d) a b c d = xs := by
  unfold ustep qstep
  obtain ⟨e1, e2, e3, e4⟩ := put4_read xs a b c d (qr (xs a) (xs b) (xs c) (xs d)) h1 h2 h3 h4 h5 h6
  rw [e1, e2, e3, e4, uq_qr, put4_put4, put4_own]
theorem qstep_ustep (xs : Ws) (a b c d : Nat) (h1 : a ≠ b) (h2 : a ≠ c) (h3 : a ≠ d) (h4 : b ≠ c) (h5 : b ≠ d) (h6 : c ≠ d) : qstep (ustep xs a b c d) a b c d = xs := by
  unfold ustep qstep
  obtain ⟨e1, e2, e3, e4⟩ := put4_read xs a b c d (uq (xs a) (xs b) (xs c) (xs d)) h1 h2 h3 h4 h5 h6
  rw [e1, e2, e3, e4, qr_uq, put4_put4, put4_own]

def dblN (xs : Ws) : Nat → Ws
  | 0 => xs
  | i + 1 => qstep (dblN xs i) (pl i 0) (pl i 1) (pl i 2) (pl i 3)
def bckF : Nat → Ws → Ws
  | 0, xs => xs
  | i + 1, xs => bckF i (ustep xs (pl i 0) (pl i 1) (pl i 2) (pl i 3))
/-- The double round, and its way back. -/
def dbl (xs : Ws) : Ws := dblN xs 8
def bck (xs : Ws) : Ws := bckF 8 xs

theorem bckF_dblN (xs : Ws) : ∀ i, i ≤ 8 → bckF i (dblN xs i) = xs
  | 0, _ => rfl
  | i + 1, h => by
    obtain ⟨_, h1, h2, h3, h4, h5, h6⟩ := pl_ok i (by omega)
    rw [dblN, bckF, ustep_qstep _ _ _ _ _ h1 h2 h3 h4 h5 h6, bckF_dblN xs i (by omega)]
theorem dblN_bckF : ∀ (i : Nat) (xs : Ws), i ≤ 8 → dblN (bckF i xs) i = xs
  | 0, _, _ => rfl
  | i + 1, xs, h => by
    obtain ⟨_, h1, h2, h3, h4, h5, h6⟩ := pl_ok i (by omega)
    rw [dblN, bckF, dblN_bckF i _ (by omega), qstep_ustep _ _ _ _ _ h1 h2 h3 h4 h5 h6]
theorem bck_dbl (xs : Ws) : bck (dbl xs) = xs := bckF_dblN xs 8 (Nat.le_refl _)
theorem dbl_bck (xs : Ws) : dbl (bck xs) = xs := dblN_bckF 8 xs (Nat.le_refl _)

#print axioms dbl_bck
end Go.Proofs.YthhaeiafgloacaaDoor
