
/- The law on regions that draw their order (Rel), for a long region in the text's own order: the order's check in pieces, so that no one of them is great. No program is named here; no conditions but those that each line states. -/
import Derived.Test.YtgkhaedlfmloeaaDoorXBase
namespace Go.Proofs.YtgkhaedlfmloeaaDoor
open Go

/-- The first k of N. -/
def tk (N k : Nat) : Array Bool := ((List.range N).map fun j => decide (j < k)).toArray
theorem tk_zero (N : Nat) : Array.replicate N false = tk N 0 := by
  apply Array.ext_getElem?
  intro i
  unfold tk
  rcases Nat.lt_or_ge i N with h | h
  · simp [h]
  · simp [Nat.not_lt.2 h]
theorem tk_set (N k : Nat) : (tk N k).setIfInBounds k true = tk N (k + 1) := by
  apply Array.ext_getElem?
  intro i
  unfold tk
  rw [Array.getElem?_setIfInBounds]
  rcases Nat.lt_or_ge i N with h | h
  · by_cases e : k = i
    · subst e
      simp [h]
    · simp [h, e]
      omega
  · have : ¬ i < N := by omega
    simp [this]
    intro e
    omega
section
variable {P : Program} {Q : Exit → Act → World → Prop} {R : World → World → Prop}
def relPart (md : Region.Mode) (ops : Array Oper) : Nat → Nat → Array Bool → Bool
  | 0, _, _ => true
  | n + 1, k, listed =>
    (match ops[k]? with
      | none => false
      | some o =>
        if stepOp o then Region.ready md ops listed == [k]
        else (Region.ready md ops listed).contains k && Region.free md ops listed k)
    && relPart md ops n (k + 1) (listed.setIfInBounds k true)
theorem relOk_split {md : Region.Mode} {ops : Array Oper} {N : Nat} : ∀ (n m k : Nat), relPart md ops n k (tk N k) = true → relOk md ops (List.range' (k + n) m) (tk N (k + n)) = true → relOk md ops (List.range' k (n + m)) (tk N k) = true
  | 0, m, k, _, h => by rw [Nat.zero_add]; exact h
  | n + 1, m, k, hp, h => by
    unfold relPart at hp
    rw [Bool.and_eq_true] at hp
    rw [Nat.add_right_comm n 1 m, List.range'_succ]
    unfold relOk
    rw [tk_set] at hp ⊢
    rw [Bool.and_eq_true]
    refine ⟨hp.1, ?_⟩
    exact relOk_split n m (k + 1) hp.2 (by rw [show k + 1 + n = k + (n + 1) by omega]; exact h)
theorem wp_region_long {l : List Oper} {id : Nat} {a : Act} {w : World} (R : World → World → Prop) (N : Nat) (ord : List Nat) (ho : ord = List.range' 0 N) (hN : l.length = N) (hm : P.follows .mixedOrders = true) (hs : Region.noSelect l.toArray = true)
    (hB : relOk .any l.toArray (List.range' 0 N) (tk N 0) = true) (hrefl : ∀ w, R w w) (htrans : ∀ a b c, R a b → R b c → R a c)
    (h : wpRel P .any l.toArray Q R ord a w.drew) : (Code.region id l.toArray true).wp P Q a w := by
  subst ho
  refine wp_region_rel R (List.range' 0 N) hm hs ?_ hrefl htrans h
  rw [hN, tk_zero, hB, List.length_range', beq_self_eq_true, Bool.and_self]
end
#print axioms wp_region_long
end Go.Proofs.YtgkhaedlfmloeaaDoor
