
/- A map that counts how many leaves lie below each bucket of a level: what it holds behind i rounds. No program is named here; no conditions but those that each line states. -/
import Derived.Test.YtmaknnlccmfmpaaDoorTrBase
import Derived.Maps.OwnOps
import Derived.Maps.RangeWalk
import Derived.Maps.Ext
namespace Go.Proofs.YtmaknnlccmfmpaaDoor
open Go.RowKit Go.Maps
set_option maxRecDepth 20000

abbrev keyI (z : Int) : Lit := .int .i64 z
/-- Behind i rounds: the first numbers, s each, behind 'base'. -/
structure CntP (base s i : Nat) (D : DataW Unit) : Prop where
  tidy : Tidy D
  size : Maps.size D = (i + s - 1) / s
  at_ : ∀ q : Nat, q * s < i → ∀ z, D.atKey (keyI ((base + q : Nat) : Int)) z = .lit (.int .i64 ((min s (i - q * s) : Nat) : Int))
  no : ∀ q : Nat, i ≤ q * s → Maps.has D (keyI ((base + q : Nat) : Int)) = false
  only : ∀ k, Maps.has D k = true → ∃ q : Nat, k = keyI ((base + q : Nat) : Int) ∧ q * s < i
theorem key_ne {a b : Nat} (h : a ≠ b) : keyI ((a : Nat) : Int) ≠ keyI ((b : Nat) : Int) := by
  intro e
  have := (Lit.int.inj e).2
  omega
theorem CntP.start (base s : Nat) (hs : 0 < s) : CntP base s 0 (.map []) :=
  ⟨tidy_empty, by show 0 = (0 + s - 1) / s; rw [Nat.div_eq_of_lt (by omega)], fun q h => by omega, fun _ _ => rfl, fun k h => by cases h⟩
/-- What stands at the next key. -/
theorem CntP.next {base s i : Nat} {D : DataW Unit} (h : CntP base s i D) (hs : 0 < s) : D.atKey (keyI ((base + i / s : Nat) : Int)) (.lit (.int .i64 0)) = .lit (.int .i64 ((i % s : Nat) : Int)) := by
  have h1 := Nat.div_add_mod i s
  have h2 := Nat.mod_lt i hs
  rw [Nat.mul_comm] at h1
  by_cases hq : i / s * s < i
  · rw [h.at_ _ hq, show min s (i - i / s * s) = i % s by omega]
  · rw [atKey_of_not_has (h.no _ (by omega)), show i % s = 0 by omega]
    rfl
theorem mul_apart {a b s : Nat} (h : a < b) : a * s + s ≤ b * s := by
  have := Nat.mul_le_mul_right s (show a + 1 ≤ b from h)
  rwa [Nat.succ_mul] at this
theorem CntP.step {base s i : Nat} {D : DataW Unit} (h : CntP base s i D) (hs : 0 < s) : CntP base s (i + 1) (D.put (keyI ((base + i / s : Nat) : Int)) (.lit (.int .i64 ((i % s + 1 : Nat) : Int)))) := by
  have h1 := Nat.div_add_mod i s
  have h2 := Nat.mod_lt i hs
  rw [Nat.mul_comm] at h1
  have hm := h.tidy.isMap
  have hk : WideAt.IsKeyLit (keyI ((base + i / s : Nat) : Int)) := trivial
  refine ⟨h.tidy.put hk _, ?_, fun q hq z => ?_, fun q hq => ?_, fun k hk' => ?_⟩
  · rw [size_put h.tidy, h.size]
    by_cases hq : i / s * s < i
    · have hh : Maps.has D (keyI ((base + i / s : Nat) : Int)) = true := has_true_of_atKey (h.at_ _ hq)
      rw [hh, if_pos rfl]
      have e1 : (i + s - 1) / s = i / s + 1 := Nat.div_eq_of_lt_le (by rw [Nat.succ_mul]; omega) (by rw [Nat.succ_mul, Nat.succ_mul]; omega)
      have e2 : (i + 1 + s - 1) / s = i / s + 1 := Nat.div_eq_of_lt_le (by rw [Nat.succ_mul]; omega) (by rw [Nat.succ_mul, Nat.succ_mul]; omega)
      rw [e1, e2]
    · rw [h.no _ (by omega), if_neg (by decide)]
      have e1 : (i + s - 1) / s = i / s := Nat.div_eq_of_lt_le (by omega) (by rw [Nat.succ_mul]; omega)
      have e2 : (i + 1 + s - 1) / s = i / s + 1 := Nat.div_eq_of_lt_le (by rw [Nat.succ_mul]; omega) (by rw [Nat.succ_mul, Nat.succ_mul]; omega)
      rw [e1, e2]
  · by_cases e : q = i / s
    · subst e
      rw [atKey_put_same hm hk, show min s (i + 1 - i / s * s) = i % s + 1 by omega]
    · rw [atKey_put_other (key_ne (by omega))]
      have hlt : q < i / s := by
        rcases Nat.lt_or_ge q (i / s) with h3 | h3
        · exact h3
        · have := mul_apart (s := s) (show i / s < q by omega)
          omega
      have := mul_apart (s := s) hlt
      rw [h.at_ q (by omega) z, show min s (i - q * s) = min s (i + 1 - q * s) by omega]
  · have hne : q ≠ i / s := fun e => by subst e; omega
    rw [has_put_other (key_ne (by omega))]
    exact h.no q (by omega)
  · by_cases e : k = keyI ((base + i / s : Nat) : Int)
    · exact ⟨i / s, e, by omega⟩
    · rw [has_put_other e] at hk'
      obtain ⟨q, e1, e2⟩ := h.only k hk'
      exact ⟨q, e1, by omega⟩
/-- At the end: every key is one of so many, and holds s. -/
theorem CntP.all {base s m : Nat} {D : DataW Unit} (h : CntP base s (m * s) D) (hs : 0 < s) : Maps.size D = m ∧ ∀ x c, Maps.has D (keyI x) = true → (∀ z, D.atKey (keyI x) z = .lit (.int .i64 c)) → c = (s : Int) ∧ (base : Int) ≤ x ∧ x < (base : Int) + (m : Int) := by
  refine ⟨?_, fun x c hh ha => ?_⟩
  · rw [h.size]
    exact Nat.div_eq_of_lt_le (by omega) (by rw [Nat.succ_mul]; omega)
  · obtain ⟨q, e1, e2⟩ := h.only _ hh
    obtain rfl := (Lit.int.inj e1).2
    have hq : q < m := Nat.lt_of_mul_lt_mul_right e2
    have := mul_apart (s := s) hq
    have h1 := ha (.lit (.int .i64 0))
    rw [h.at_ q e2, show min s (m * s - q * s) = s by omega] at h1
    have h2 := (Lit.int.inj (DataW.lit.inj h1)).2
    exact ⟨h2.symm, by omega, by omega⟩
#print axioms CntP.step
#print axioms CntP.all
end Go.Proofs.YtmaknnlccmfmpaaDoor
