
/- A second law on regions that draw the order of their operations: one order that is named serves for all, if each operation leaves what was there (a relation R of worlds), and what is read stands in every world that R comes to. No program is named here; no conditions but those that each line states. -/
import Derived.Test.YtgjffoeegnljlaaText
import Derived.Below
namespace Go.Proofs.Ytgjffoeegnljlaa
open Go
set_option maxRecDepth 20000

section
variable {P : Program} {ops : Array Oper} {Q : Exit → Act → World → Prop} {md : Region.Mode} {R : World → World → Prop}

def wpR (P : Program) (md : Region.Mode) (ops : Array Oper) (Q : Exit → Act → World → Prop) (R : World → World → Prop) : Nat → Array Bool → Act → World → Prop
  | 0, listed, a, w => Region.ready md ops listed = [] ∧ Q .normal a w
  | fuel + 1, listed, a, w =>
    (Region.ready md ops listed = [] → Q .normal a w) ∧
    ∀ i ∈ Region.ready md ops listed, wpOp P ops Q i (fun a' w' => R w w' ∧ wpR P md ops Q R fuel (listed.setIfInBounds i true) a' w') a w

theorem wpAny_of_R : ∀ (fuel : Nat) (listed : Array Bool) (a : Act) (w : World), wpR P md ops Q R fuel listed a w → wpAny P md ops Q fuel listed a w
  | 0, _, _, _, h => h
  | fuel + 1, _, _, _, h => ⟨h.1, fun i hi => wpOp_mono (fun a' w' h' => wpAny_of_R fuel _ a' w' h'.2) (h.2 i hi)⟩

theorem wpR_first {i : Nat} {oi : Oper} {v : Value} {S : World → Prop} (hi : ops[i]? = some oi) (hsel : ∀ (j : Nat) (o : Oper) cs b, ops[j]? = some o → o.op ≠ .select cs b)
    (hQ : ∀ c a w, Q (.panic c) (a.put oi.dst v) w → Q (.panic c) a w) (hrefl : ∀ w, R w w) (hSR : ∀ w w', S w → R w w' → S w') :
    ∀ (fuel : Nat) (listed : Array Bool) (a : Act) (w : World),
      (∀ j oj, ops[j]? = some oj → j ≠ i → listed.getD j true = false → (∀ e ∈ oj.after, Region.binds md e = true → e.on ≠ i) → oi.apart ops oj = true) →
      i ∈ Region.ready md ops listed → YieldsIf P ops S oi v a → S w →
      wpR P md ops Q R fuel (listed.setIfInBounds i true) (a.put oi.dst v) w → wpR P md ops Q R (fuel + 1) listed a w := by
  intro fuel
  induction fuel with
  | zero =>
    intro listed a w _ hr hy hT H
    refine ⟨fun h => (by rw [h] at hr; cases hr), fun j hj => ?_⟩
    by_cases hji : j = i
    · subst hji
      exact hy.wpOp hi hT ⟨hrefl w, H⟩
    · have := ready_mono hj hji
      rw [H.1] at this
      cases this
  | succ fuel ih =>
    intro listed a w hfree hr hy hT H
    refine ⟨fun h => (by rw [h] at hr; cases hr), fun j hj => ?_⟩
    by_cases hji : j = i
    · subst hji
      exact hy.wpOp hi hT ⟨hrefl w, H⟩
    · have h1 := H.2 j (ready_mono hj hji)
      obtain ⟨hjun, oj, hoj, hall⟩ := mem_ready.1 hj
      have hiun := (mem_ready.1 hr).1
      have hnoti : listed.getD i false = false := by
        rcases Nat.lt_or_ge i listed.size with h' | h'
        · simp [h'] at hiun ⊢; exact hiun
        · simp [Array.getElem?_eq_none h']
      have hnot : ∀ e ∈ oj.after, Region.binds md e = true → e.on ≠ i := fun e he hb heq => by
        have h1 := hall e he hb
        rw [heq, hnoti] at h1
        cases h1
      have h2 := wpOp_putIf hoj (hfree j oj hoj hji hjun hnot) (fun cs b => hsel i oi cs b hi) (fun cs b => hsel j oj cs b hoj) hQ hy h1
      have hfree' : ∀ k ok, ops[k]? = some ok → k ≠ i → (listed.setIfInBounds j true).getD k true = false →
          (∀ e ∈ ok.after, Region.binds md e = true → e.on ≠ i) → oi.apart ops ok = true := fun k ok hk hki hun hno => by
        refine hfree k ok hk hki ?_ hno
        by_cases hjk : j = k
        · subst hjk; exact hjun
        · rw [getD_set_ne true hjk] at hun; exact hun
      refine wpOp_mono (fun a' w' h3 => ?_) h2
      obtain ⟨hy', hT', hW'⟩ := h3
      rw [Array.setIfInBounds_comm _ _ (Ne.symm hji)] at hW'
      exact ⟨hT', ih (listed.setIfInBounds j true) a' w' hfree' (ready_mono hr (Ne.symm hji)) hy' (hSR _ _ hT hT') hW'⟩

/-- The order that is named serves. -/
def relOk (md : Region.Mode) (ops : Array Oper) : List Nat → Array Bool → Bool
  | [], listed => (Region.ready md ops listed).isEmpty
  | k :: rest, listed =>
    (match ops[k]? with
      | none => false
      | some o =>
        if stepOp o then Region.ready md ops listed == [k]
        else (Region.ready md ops listed).contains k && Region.free md ops listed k)
    && relOk md ops rest (listed.setIfInBounds k true)

/-- The walk in that order. -/
def wpRel (P : Program) (md : Region.Mode) (ops : Array Oper) (Q : Exit → Act → World → Prop) (R : World → World → Prop) : List Nat → Act → World → Prop
  | [], a, w => Q .normal a w
  | k :: rest, a, w =>
    match ops[k]? with
    | none => False
    | some o =>
      if stepOp o then wpOp P ops Q k (fun a' w' => R w w' ∧ wpRel P md ops Q R rest a' w') a w
      else ∃ v, (∀ c a w, Q (.panic c) (a.put o.dst v) w → Q (.panic c) a w) ∧ YieldsIf P ops (fun w' => R w w') o v a ∧ wpRel P md ops Q R rest (a.put o.dst v) w

theorem wpR_of_rel (hs : Region.noSelect ops = true) (hrefl : ∀ w, R w w) (htrans : ∀ a b c, R a b → R b c → R a c) : ∀ (ord : List Nat) (listed : Array Bool) (a : Act) (w : World),
    relOk md ops ord listed = true → wpRel P md ops Q R ord a w → wpR P md ops Q R ord.length listed a w
  | [], listed, a, w, hB, h => ⟨by simpa [relOk] using hB, h⟩
  | k :: rest, listed, a, w, hB, h => by
    unfold wpRel at h
    unfold relOk at hB
    rw [Bool.and_eq_true] at hB
    obtain ⟨hB1, hB2⟩ := hB
    cases ho : ops[k]? with
    | none => rw [ho] at h; exact h.elim
    | some o =>
      rw [ho] at h hB1
      dsimp only at h hB1
      by_cases hst : stepOp o = true
      · rw [if_pos hst] at h hB1
        have hr : Region.ready md ops listed = [k] := by simpa using hB1
        refine ⟨fun h0 => (by rw [hr] at h0; cases h0), fun i hi => ?_⟩
        rw [hr, List.mem_singleton] at hi
        subst hi
        refine wpOp_mono (fun a' w' h' => ?_) h
        exact ⟨h'.1, wpR_of_rel hs hrefl htrans rest _ a' w' hB2 h'.2⟩
      · rw [if_neg hst] at h hB1
        obtain ⟨v, hQ, hy, hW⟩ := h
        rw [Bool.and_eq_true] at hB1
        exact wpR_first (S := fun w' => R w w') ho (Region.noSelect_spec hs) hQ hrefl (fun _ _ h1 h2 => htrans _ _ _ h1 h2) rest.length listed a w (Region.free_spec ho hB1.2) (by simpa using hB1.1) hy (hrefl w)
          (wpR_of_rel hs hrefl htrans rest _ _ w hB2 hW)

/-- THE LAW. -/
theorem wp_region_rel {l : List Oper} {id : Nat} {a : Act} {w : World} (R : World → World → Prop) (ord : List Nat) (hm : P.follows .mixedOrders = true) (hs : Region.noSelect l.toArray = true)
    (hB : (relOk .any l.toArray ord (Array.replicate l.length false) && ord.length == l.length) = true) (hrefl : ∀ w, R w w) (htrans : ∀ a b c, R a b → R b c → R a c)
    (h : wpRel P .any l.toArray Q R ord a w.drew) : (Code.region id l.toArray true).wp P Q a w := by
  simp only [Bool.and_eq_true, beq_iff_eq] at hB
  refine wp_region_any hm (wpAny_of_R (R := R) _ _ _ _ ?_)
  have := wpR_of_rel (P := P) (Q := Q) (R := R) hs hrefl htrans ord (Array.replicate l.length false) a w.drew hB.1 h
  rw [hB.2] at this
  simpa using this

theorem wpRel_nil {a : Act} {w : World} (h : Q .normal a w) : wpRel P md ops Q R [] a w := h
/-- What is read. -/
theorem wpRel_quiet {l : List Oper} {k : Nat} {rest : List Nat} {o : Oper} {v : Value} {a : Act} {w : World} (ho : l[k]? = some o) (hst : stepOp o = false)
    (hQ : ∀ c a w, Q (.panic c) (a.put o.dst v) w → Q (.panic c) a w) (hw : Region.wanted o (yielded l.toArray a.tmps) = true)
    (hy : ∀ w', R w w' → (execOp a.eval o).run P w' = .ok (.value v) w')
    (h : wpRel P md l.toArray Q R rest (a.put o.dst v) w) : wpRel P md l.toArray Q R (k :: rest) a w := by
  unfold wpRel
  have ho' : l.toArray[k]? = some o := by simpa using ho
  simp only [ho', hst, Bool.false_eq_true, if_false]
  exact ⟨v, hQ, .inl ⟨hw, fun w hw => hy w hw⟩, h⟩
/-- What is passed by, its guard saying no. -/
theorem wpRel_pass {l : List Oper} {k : Nat} {rest : List Nat} {o : Oper} {a : Act} {w : World} (ho : l[k]? = some o)
    (hQ : ∀ c a w, Q (.panic c) (a.put o.dst undef) w → Q (.panic c) a w) (hw : Region.wanted o (yielded l.toArray a.tmps) = false) (hR : R w w)
    (h : wpRel P md l.toArray Q R rest (a.put o.dst undef) w) : wpRel P md l.toArray Q R (k :: rest) a w := by
  unfold wpRel
  have ho' : l.toArray[k]? = some o := by simpa using ho
  simp only [ho']
  split
  · unfold wpOp
    simp only [ho', hw, Bool.false_eq_true, if_false]
    exact ⟨hR, h⟩
  · exact ⟨undef, hQ, .inr ⟨hw, rfl⟩, h⟩
/-- What is carried out. -/
theorem wpRel_step {l : List Oper} {k : Nat} {rest : List Nat} {o : Oper} {a : Act} {w : World} (ho : l[k]? = some o) (hst : stepOp o = true) (hw : Region.wanted o (yielded l.toArray a.tmps) = true)
    (h : ∀ K' : Act → World → Prop, Shut (∀ a' w', R w w' → wpRel P md l.toArray Q R rest a' w' → K' a' w') → Oper.wp P o a w K' Q) : wpRel P md l.toArray Q R (k :: rest) a w := by
  unfold wpRel
  have ho' : l.toArray[k]? = some o := by simpa using ho
  simp only [ho', hst, if_true]
  unfold wpOp
  simp only [ho', hw, if_true]
  exact .inl (h _ (fun a' w' h1 h2 => ⟨h1, h2⟩))
end

/-- Nothing that was there has turned. -/
def Kept (w w' : World) : Prop := RowKit.Below w.heap.size w w'
theorem Kept.refl (w : World) : Kept w w := RowKit.Below.refl _ _
theorem Kept.trans (a b c : World) (h : Kept a b) (k : Kept b c) : Kept a c := RowKit.Below.trans h (RowKit.Below.mono k (RowKit.Below.size h))
#print axioms wp_region_rel
end Go.Proofs.Ytgjffoeegnljlaa
