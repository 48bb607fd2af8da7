
/- Rows as long as a block: the first bytes of a row, noughts behind them; a slice of bytes as it lies. No program is named here; no conditions but those that each line states. -/
import Derived.Test.YtgjffoeegnljlaaBytes
namespace Go.Proofs.Ytgjffoeegnljlaa
open Go.RowKit
set_option maxRecDepth 20000

/-! ### Rows as long as a block -/
/-- The first n of zs, noughts behind them. -/
def fitL (n : Nat) (zs : List Int) : List Int := zs.take n ++ zL (n - zs.length)
theorem fitL_length (n : Nat) (zs : List Int) : (fitL n zs).length = n := by
  simp only [fitL, List.length_append, List.length_take, zL_length]
  omega
theorem fitL_bytes (n : Nat) {zs : List Int} (h : IsBytes zs) : IsBytes (fitL n zs) := (h.take n).append (zL_bytes _)
theorem zL_drop (n k : Nat) : (zL n).drop k = zL (n - k) := by
  apply List.ext_getElem?
  intro i
  rw [List.getElem?_drop]
  rcases Nat.lt_or_ge i (n - k) with h | h
  · rw [zL, rowL_get _ _ _ (by omega), zL, rowL_get _ _ _ h]
  · rw [zL, rowL_none _ _ _ (by omega), zL, rowL_none _ _ _ h]
theorem fitL_splice (n : Nat) (zs : List Int) : splice (zL n) 0 (zs.take (min zs.length n)) = fitL n zs := by
  unfold splice fitL
  rw [List.take_zero, List.nil_append, zL_drop]
  have e : zs.take (min zs.length n) = zs.take n := by
    rcases Nat.le_total zs.length n with h | h
    · rw [Nat.min_eq_left h, List.take_of_length_le (Nat.le_refl _), List.take_of_length_le h]
    · rw [Nat.min_eq_right h]
  rw [e]
  congr 2
  rw [List.length_take]
  omega
theorem fitL_take (n : Nat) (zs : List Int) : fitL n (zs.take n) = fitL n zs := by
  unfold fitL
  rw [List.take_take, Nat.min_self, List.length_take]
  congr 2
  omega
theorem fitL_self (n : Nat) (zs : List Int) (h : zs.length = n) : fitL n zs = zs := by
  unfold fitL
  rw [List.take_of_length_le (by omega), h, Nat.sub_self]
  exact List.append_nil _
theorem fitL_nil (n : Nat) : fitL n [] = zL n := by
  unfold fitL
  rw [List.take_nil]
  rfl
theorem fitL_getD (n : Nat) (zs : List Int) (i : Nat) (h : i < n) : (fitL n zs).getD i 0 = zs.getD i 0 := by
  unfold fitL
  rcases Nat.lt_or_ge i zs.length with h1 | h1
  · rw [List.getD, List.getElem?_append_left (by rw [List.length_take]; omega), List.getElem?_take, if_pos h]; rfl
  · rw [List.getD, List.getElem?_append_right (by rw [List.length_take]; omega), List.getD, List.getElem?_eq_none h1]
    have := zL_getD (n - zs.length) (i - (zs.take n).length)
    rw [List.getD] at this
    exact this
/-- Each byte exclusive or with 165. -/
def badL (zs : List Int) : List Int := zs.map fun z => xr z 165
theorem badL_length (zs : List Int) : (badL zs).length = zs.length := by simp [badL]
theorem badL_bytes {zs : List Int} (h : IsBytes zs) : IsBytes (badL zs) := by
  intro z hz
  obtain ⟨y, hy, rfl⟩ := List.mem_map.1 hz
  exact xr_lt _ _ (h y hy) ⟨by decide, by decide⟩
theorem badL_getD (zs : List Int) (i : Nat) (h : i < zs.length) : (badL zs).getD i 0 = xr (zs.getD i 0) 165 := by
  simp [badL, List.getD, h]
/-- A slice of bytes: where it lies, and what it reads as. -/
structure BV where
  a : Option Addr
  len : Nat
  cap : Nat
  zs : List Int
abbrev BV.v (x : BV) : Value := .slice x.a x.len x.cap
def BV.nil : BV := ⟨none, 0, 0, []⟩
#print axioms fitL_splice
end Go.Proofs.Ytgjffoeegnljlaa
