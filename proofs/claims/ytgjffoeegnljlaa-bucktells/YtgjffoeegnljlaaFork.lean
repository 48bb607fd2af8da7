
/- A law on regions that draw the order of their operations, where two of them may come next: both ways are walked. No program is named here; no conditions but those that each line states. -/
import Derived.Test.YtgjffoeegnljlaaRel
namespace Go.Proofs.Ytgjffoeegnljlaa
open Go
set_option maxRecDepth 20000

section
variable {P : Program} {ops : Array Oper} {Q : Exit → Act → World → Prop} {md : Region.Mode} {R : World → World → Prop}

def doneAll : List Nat → Array Bool → Array Bool
  | [], l => l
  | k :: rest, l => doneAll rest (l.setIfInBounds k true)
/-- These may be read ahead. -/
def preOk (md : Region.Mode) (ops : Array Oper) : List Nat → Array Bool → Bool
  | [], _ => true
  | k :: rest, listed => (Region.ready md ops listed).contains k && Region.free md ops listed k && preOk md ops rest (listed.setIfInBounds k true)
def wpPre (P : Program) (ops : Array Oper) (Q : Exit → Act → World → Prop) (R : World → World → Prop) (K : Act → World → Prop) : List Nat → Act → World → Prop
  | [], a, w => K a w
  | k :: rest, a, w =>
    match ops[k]? with
    | none => False
    | some o => ∃ v, (∀ c a w, Q (.panic c) (a.put o.dst v) w → Q (.panic c) a w) ∧ YieldsIf P ops (fun w' => R w w') o v a ∧ wpPre P ops Q R K rest (a.put o.dst v) w

theorem wpR_of_pre (hs : Region.noSelect ops = true) (hrefl : ∀ w, R w w) (htrans : ∀ a b c, R a b → R b c → R a c) (fuel : Nat) : ∀ (pre : List Nat) (listed : Array Bool) (a : Act) (w : World),
    preOk md ops pre listed = true → wpPre P ops Q R (fun a w => wpR P md ops Q R fuel (doneAll pre listed) a w) pre a w → wpR P md ops Q R (pre.length + fuel) listed a w
  | [], listed, a, w, _, h => by simpa [wpPre, doneAll] using h
  | k :: rest, listed, a, w, hB, h => by
    unfold wpPre at h
    unfold preOk at hB
    simp only [Bool.and_eq_true] at hB
    obtain ⟨⟨hr, hf⟩, hB2⟩ := hB
    cases ho : ops[k]? with
    | none => rw [ho] at h; exact h.elim
    | some o =>
      rw [ho] at h
      obtain ⟨v, hQ, hy, hW⟩ := h
      have := wpR_of_pre hs hrefl htrans fuel rest _ _ w hB2 hW
      rw [show (k :: rest).length + fuel = (rest.length + fuel) + 1 by simp; omega]
      exact wpR_first (S := fun w' => R w w') ho (Region.noSelect_spec hs) hQ hrefl (fun _ _ h1 h2 => htrans _ _ _ h1 h2) (rest.length + fuel) listed a w (Region.free_spec ho hf) (by simpa using hr) hy (hrefl w) this

/-- THE LAW: what is read ahead, then whatever may come. -/
theorem wp_region_pre {l : List Oper} {id : Nat} {a : Act} {w : World} (R : World → World → Prop) (pre : List Nat) (fuel : Nat) (hm : P.follows .mixedOrders = true) (hs : Region.noSelect l.toArray = true)
    (hB : (preOk .any l.toArray pre (Array.replicate l.length false) && pre.length + fuel == l.length) = true) (hrefl : ∀ w, R w w) (htrans : ∀ a b c, R a b → R b c → R a c)
    (h : wpPre P l.toArray Q R (fun a w => wpR P .any l.toArray Q R fuel (doneAll pre (Array.replicate l.length false)) a w) pre a w.drew) : (Code.region id l.toArray true).wp P Q a w := by
  simp only [Bool.and_eq_true, beq_iff_eq] at hB
  refine wp_region_any hm (wpAny_of_R (R := R) _ _ _ _ ?_)
  have := wpR_of_pre (P := P) (Q := Q) (R := R) hs hrefl htrans fuel pre (Array.replicate l.length false) a w.drew hB.1 h
  rw [hB.2] at this
  simpa using this

theorem wpPre_nil {K : Act → World → Prop} {a : Act} {w : World} (h : K a w) : wpPre P ops Q R K [] a w := h
theorem wpPre_quiet {l : List Oper} {K : Act → World → Prop} {k : Nat} {rest : List Nat} {o : Oper} {v : Value} {a : Act} {w : World} (ho : l[k]? = some o)
    (hQ : ∀ c a w, Q (.panic c) (a.put o.dst v) w → Q (.panic c) a w) (hw : Region.wanted o (yielded l.toArray a.tmps) = true)
    (hy : ∀ w', R w w' → (execOp a.eval o).run P w' = .ok (.value v) w')
    (h : wpPre P l.toArray Q R K rest (a.put o.dst v) w) : wpPre P l.toArray Q R K (k :: rest) a w := by
  unfold wpPre
  have ho' : l.toArray[k]? = some o := by simpa using ho
  simp only [ho']
  exact ⟨v, hQ, .inl ⟨hw, fun w hw => hy w hw⟩, h⟩

/-- Two may come next. -/
theorem wpR_two {fuel : Nat} {listed : Array Bool} {a : Act} {w : World} (i j : Nat) (hr : (Region.ready md ops listed == [i, j]) = true)
    (h1 : wpOp P ops Q i (fun a' w' => R w w' ∧ wpR P md ops Q R fuel (listed.setIfInBounds i true) a' w') a w)
    (h2 : wpOp P ops Q j (fun a' w' => R w w' ∧ wpR P md ops Q R fuel (listed.setIfInBounds j true) a' w') a w) : wpR P md ops Q R (fuel + 1) listed a w := by
  have hr' : Region.ready md ops listed = [i, j] := by simpa using hr
  refine ⟨fun h => (by rw [hr'] at h; cases h), fun k hk => ?_⟩
  rw [hr'] at hk
  simp only [List.mem_cons, List.not_mem_nil, or_false] at hk
  rcases hk with rfl | rfl
  · exact h1
  · exact h2
/-- A step, and then whatever may come. -/
theorem wpOp_go {l : List Oper} {fuel : Nat} {listed : Array Bool} {k : Nat} {o : Oper} {a : Act} {w : World} (ho : l[k]? = some o) (hw : Region.wanted o (yielded l.toArray a.tmps) = true)
    (h : ∀ K' : Act → World → Prop, Shut (∀ a' w', R w w' → wpR P md l.toArray Q R fuel (listed.setIfInBounds k true) a' w' → K' a' w') → Oper.wp P o a w K' Q) :
    wpOp P l.toArray Q k (fun a' w' => R w w' ∧ wpR P md l.toArray Q R fuel (listed.setIfInBounds k true) a' w') a w := by
  have ho' : l.toArray[k]? = some o := by simpa using ho
  unfold wpOp
  simp only [ho', hw, if_true]
  exact .inl (h _ (fun a' w' h1 h2 => ⟨h1, h2⟩))
/-- From here on one order serves. -/
theorem wpR_ord {fuel : Nat} {listed : Array Bool} {a : Act} {w : World} (ord : List Nat) (hs : Region.noSelect ops = true) (hB : (relOk md ops ord listed && ord.length == fuel) = true) (hrefl : ∀ w, R w w) (htrans : ∀ a b c, R a b → R b c → R a c)
    (h : wpRel P md ops Q R ord a w) : wpR P md ops Q R fuel listed a w := by
  simp only [Bool.and_eq_true, beq_iff_eq] at hB
  have := wpR_of_rel (P := P) (Q := Q) (R := R) hs hrefl htrans ord listed a w hB.1 h
  rw [hB.2] at this
  exact this
end
#print axioms wp_region_pre
end Go.Proofs.Ytgjffoeegnljlaa
