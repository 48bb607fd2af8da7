
/- A law on regions that draw the order of their operations: one order that is named serves for all, if what is only read stands in every world that the region comes to. No program is named here; no conditions but those that each line states. -/
import Derived.Deep.RegionHeld3
namespace Go.Proofs.Ytgjffoeegnljlaa
open Go
set_option maxRecDepth 20000

/-- What is carried out where it stands (all else is read, and may come ahead). -/
def stepOp (o : Oper) : Bool :=
  match o.op with
  | .move _ | .assign _ | .pick .. | .load .. | .binOp .. | .unOp .. | .convert .. | .fieldAddr .. | .field .. | .indexAddr .. | .index .. | .extract .. | .slice .. | .build .. | .nilCheck _ => false
  | .call c =>
    match c.callee with
    | .builtin .len | .builtin .min | .builtin .max => false
    | _ => true
  | _ => true

section
variable {P : Program} {ops : Array Oper} {Q : Exit → Act → World → Prop} {md : Region.Mode} {T U : World → Prop} {c : Nat}

def waitsFor (md : Region.Mode) (ops : Array Oper) (c k : Nat) : Bool :=
  match ops[c]? with
  | some oc => oc.after.any (fun e => Region.binds md e && e.on == k)
  | none => false

/-- Whatever order is picked from here on; T holds behind every operation, and U as long as c has not come up. -/
def wpTU (P : Program) (md : Region.Mode) (ops : Array Oper) (Q : Exit → Act → World → Prop) (T U : World → Prop) (c : Nat) : Nat → Array Bool → Act → World → Prop
  | 0, listed, a, w => Region.ready md ops listed = [] ∧ Q .normal a w
  | fuel + 1, listed, a, w =>
    (Region.ready md ops listed = [] → Q .normal a w) ∧
    ∀ i ∈ Region.ready md ops listed, wpOp P ops Q i (fun a' w' => T w' ∧ ((listed.setIfInBounds i true).getD c true = false → U w') ∧ wpTU P md ops Q T U c fuel (listed.setIfInBounds i true) a' w') a w

theorem wpAny_of_TU : ∀ (fuel : Nat) (listed : Array Bool) (a : Act) (w : World), wpTU P md ops Q T U c fuel listed a w → wpAny P md ops Q fuel listed a w
  | 0, _, _, _, h => h
  | fuel + 1, _, _, _, h => ⟨h.1, fun i hi => wpOp_mono (fun a' w' h' => wpAny_of_TU fuel _ a' w' h'.2.2) (h.2 i hi)⟩

theorem wpTU_first {i : Nat} {oi : Oper} {v : Value} (hi : ops[i]? = some oi) (hsel : ∀ (j : Nat) (o : Oper) cs b, ops[j]? = some o → o.op ≠ .select cs b)
    (hQ : ∀ c a w, Q (.panic c) (a.put oi.dst v) w → Q (.panic c) a w) (hic : i ≠ c) :
    ∀ (fuel : Nat) (listed : Array Bool) (a : Act) (w : World),
      (∀ j oj, ops[j]? = some oj → j ≠ i → listed.getD j true = false → (∀ e ∈ oj.after, Region.binds md e = true → e.on ≠ i) → oi.apart ops oj = true) →
      i ∈ Region.ready md ops listed → (waitsFor md ops c i = true → listed.getD c true = false) →
      YieldsIf P ops (fun w => T w ∧ (waitsFor md ops c i = true → U w)) oi v a → T w → (listed.getD c true = false → U w) →
      wpTU P md ops Q T U c fuel (listed.setIfInBounds i true) (a.put oi.dst v) w → wpTU P md ops Q T U c (fuel + 1) listed a w := by
  intro fuel
  induction fuel with
  | zero =>
    intro listed a w _ hr hcl hy hT hU H
    refine ⟨fun h => (by rw [h] at hr; cases hr), fun j hj => ?_⟩
    by_cases hji : j = i
    · subst hji
      exact hy.wpOp hi ⟨hT, fun hb => hU (hcl hb)⟩ ⟨hT, fun h => hU (by rwa [getD_set_ne true hic] at h), H⟩
    · have := ready_mono hj hji
      rw [H.1] at this
      cases this
  | succ fuel ih =>
    intro listed a w hfree hr hcl hy hT hU H
    refine ⟨fun h => (by rw [h] at hr; cases hr), fun j hj => ?_⟩
    by_cases hji : j = i
    · subst hji
      exact hy.wpOp hi ⟨hT, fun hb => hU (hcl hb)⟩ ⟨hT, fun h => hU (by rwa [getD_set_ne true hic] at h), H⟩
    · have h1 := H.2 j (ready_mono hj hji)
      obtain ⟨hjun, oj, hoj, hall⟩ := mem_ready.1 hj
      have hiun := (mem_ready.1 hr).1
      have hnoti : listed.getD i false = false := by
        rcases Nat.lt_or_ge i listed.size with h' | h'
        · simp [h'] at hiun ⊢; exact hiun
        · simp [Array.getElem?_eq_none h']
      have hnot : ∀ e ∈ oj.after, Region.binds md e = true → e.on ≠ i := fun e he hb heq => by
        have h1 := hall e he hb
        rw [heq, hnoti] at h1
        cases h1
      have h2 := wpOp_putIf hoj (hfree j oj hoj hji hjun hnot) (fun cs b => hsel i oi cs b hi) (fun cs b => hsel j oj cs b hoj) hQ hy h1
      have hfree' : ∀ k ok, ops[k]? = some ok → k ≠ i → (listed.setIfInBounds j true).getD k true = false →
          (∀ e ∈ ok.after, Region.binds md e = true → e.on ≠ i) → oi.apart ops ok = true := fun k ok hk hki hun hno => by
        refine hfree k ok hk hki ?_ hno
        by_cases hjk : j = k
        · subst hjk; exact hjun
        · rw [getD_set_ne true hjk] at hun; exact hun
      have hcl' : waitsFor md ops c i = true → (listed.setIfInBounds j true).getD c true = false := fun hb => by
        have hjc : j ≠ c := by
          rintro rfl
          unfold waitsFor at hb
          rw [hoj] at hb
          obtain ⟨e, he, hbe⟩ := Array.any_eq_true'.1 hb
          rw [Bool.and_eq_true, beq_iff_eq] at hbe
          exact hnot e he hbe.1 hbe.2
        rw [getD_set_ne true hjc]
        exact hcl hb
      have hcc : ∀ (l : Array Bool), (l.setIfInBounds i true).getD c true = l.getD c true := fun l => getD_set_ne true hic
      refine wpOp_mono (fun a' w' h3 => ?_) h2
      obtain ⟨hy', hT', hU', hW'⟩ := h3
      rw [Array.setIfInBounds_comm _ _ (Ne.symm hji)] at hW'
      have hU'' : (listed.setIfInBounds j true).getD c true = false → U w' := fun h => hU' (by
        rw [Array.setIfInBounds_comm _ _ (Ne.symm hji), hcc]; exact h)
      exact ⟨hT', hU'', ih (listed.setIfInBounds j true) a' w' hfree' (ready_mono hr (Ne.symm hji)) hcl' hy' hT' hU'' hW'⟩

/-- The order that is named serves. -/
def ordOk (md : Region.Mode) (ops : Array Oper) (c : Nat) : List Nat → Array Bool → Bool
  | [], listed => (Region.ready md ops listed).isEmpty
  | k :: rest, listed =>
    (match ops[k]? with
      | none => false
      | some o =>
        if stepOp o then Region.ready md ops listed == [k]
        else (Region.ready md ops listed).contains k && Region.free md ops listed k && k != c && (!(waitsFor md ops c k) || !(listed.getD c true)))
    && ordOk md ops c rest (listed.setIfInBounds k true)

/-- The walk in that order. -/
def wpOrd (P : Program) (md : Region.Mode) (ops : Array Oper) (Q : Exit → Act → World → Prop) (T U : World → Prop) (c : Nat) : List Nat → Act → World → Prop
  | [], a, w => Q .normal a w
  | k :: rest, a, w =>
    match ops[k]? with
    | none => False
    | some o =>
      if stepOp o then wpOp P ops Q k (fun a' w' => (T w' ∧ (rest.contains c = true → U w')) ∧ wpOrd P md ops Q T U c rest a' w') a w
      else ∃ v, (∀ c a w, Q (.panic c) (a.put o.dst v) w → Q (.panic c) a w) ∧ YieldsIf P ops (fun w => T w ∧ (waitsFor md ops c k = true → U w)) o v a ∧ wpOrd P md ops Q T U c rest (a.put o.dst v) w

theorem wpTU_of_ord (hs : Region.noSelect ops = true) : ∀ (ord : List Nat) (listed : Array Bool) (a : Act) (w : World),
    ordOk md ops c ord listed = true → (listed.getD c true = false → ord.contains c = true) → T w → (listed.getD c true = false → U w) →
    wpOrd P md ops Q T U c ord a w → wpTU P md ops Q T U c ord.length listed a w
  | [], listed, a, w, hB, _, _, _, h => ⟨by simpa [ordOk] using hB, h⟩
  | k :: rest, listed, a, w, hB, hin, hT, hU, h => by
    unfold wpOrd at h
    unfold ordOk at hB
    rw [Bool.and_eq_true] at hB
    obtain ⟨hB1, hB2⟩ := hB
    have hin' : (listed.setIfInBounds k true).getD c true = false → rest.contains c = true := fun hf => by
      by_cases hkc : k = c
      · subst hkc
        exfalso
        rcases Nat.lt_or_ge k listed.size with h' | h'
        · simp [h'] at hf
        · simp [h'] at hf
      · rw [getD_set_ne true hkc] at hf
        have := hin hf
        rw [List.contains_cons, Bool.or_eq_true, beq_iff_eq] at this
        rcases this with h1 | h1
        · exact absurd h1.symm hkc
        · exact h1
    cases ho : ops[k]? with
    | none => rw [ho] at h; exact h.elim
    | some o =>
      rw [ho] at h hB1
      dsimp only at h hB1
      by_cases hst : stepOp o = true
      · rw [if_pos hst] at h hB1
        have hr : Region.ready md ops listed = [k] := by simpa using hB1
        refine ⟨fun h0 => (by rw [hr] at h0; cases h0), fun i hi => ?_⟩
        rw [hr, List.mem_singleton] at hi
        subst hi
        refine wpOp_mono (fun a' w' h' => ?_) h
        obtain ⟨⟨hT', hU'⟩, hW⟩ := h'
        exact ⟨hT', fun hf => hU' (hin' hf), wpTU_of_ord hs rest _ a' w' hB2 hin' hT' (fun hf => hU' (hin' hf)) hW⟩
      · rw [if_neg hst] at h hB1
        obtain ⟨v, hQ, hy, hW⟩ := h
        simp only [Bool.and_eq_true, bne_iff_ne, ne_eq, Bool.or_eq_true, Bool.not_eq_true'] at hB1
        obtain ⟨⟨⟨hr, hf⟩, hkc⟩, hcl⟩ := hB1
        refine wpTU_first ho (Region.noSelect_spec hs) hQ hkc rest.length listed a w (Region.free_spec ho hf) (by simpa using hr) (fun hb => ?_) hy hT hU
          (wpTU_of_ord hs rest _ _ w hB2 hin' hT (fun hf => hU (by rwa [getD_set_ne true hkc] at hf)) hW)
        rcases hcl with h1 | h1
        · rw [hb] at h1; cases h1
        · exact h1

/-- THE LAW. -/
theorem wp_region_ord {l : List Oper} {id : Nat} {a : Act} {w : World} (c : Nat) (ord : List Nat) (T U : World → Prop) (hm : P.follows .mixedOrders = true) (hs : Region.noSelect l.toArray = true)
    (hB : (ordOk .any l.toArray c ord (Array.replicate l.length false) && ord.length == l.length && (ord.contains c || Nat.ble l.length c)) = true)
    (hT : T w.drew) (hU : U w.drew) (h : T w.drew → U w.drew → wpOrd P .any l.toArray Q T U c ord a w.drew) : (Code.region id l.toArray true).wp P Q a w := by
  simp only [Bool.and_eq_true, beq_iff_eq, Bool.or_eq_true] at hB
  obtain ⟨⟨h1, h2⟩, h3⟩ := hB
  refine wp_region_any hm (wpAny_of_TU (T := T) (U := U) (c := c) _ _ _ _ ?_)
  have := wpTU_of_ord (P := P) (Q := Q) (T := T) (U := U) hs ord (Array.replicate l.length false) a w.drew h1 (fun hf => by
    rcases h3 with h3 | h3
    · exact h3
    · have := Nat.le_of_ble_eq_true h3
      simp [this] at hf) hT (fun _ => hU) (h hT hU)
  rw [h2] at this
  simpa using this

theorem wpOrd_nil {a : Act} {w : World} (h : Q .normal a w) : wpOrd P md ops Q T U c [] a w := h
/-- What is read. -/
theorem wpOrd_quiet {l : List Oper} {k : Nat} {rest : List Nat} {o : Oper} {v : Value} {a : Act} {w : World} (ho : l[k]? = some o) (hst : stepOp o = false)
    (hQ : ∀ c a w, Q (.panic c) (a.put o.dst v) w → Q (.panic c) a w) (hw : Region.wanted o (yielded l.toArray a.tmps) = true)
    (hy : ∀ w, T w → (waitsFor md l.toArray c k = true → U w) → (execOp a.eval o).run P w = .ok (.value v) w)
    (h : wpOrd P md l.toArray Q T U c rest (a.put o.dst v) w) : wpOrd P md l.toArray Q T U c (k :: rest) a w := by
  unfold wpOrd
  have ho' : l.toArray[k]? = some o := by simpa using ho
  simp only [ho', hst, Bool.false_eq_true, if_false]
  exact ⟨v, hQ, .inl ⟨hw, fun w hw => hy w hw.1 hw.2⟩, h⟩
/-- What is read as long as c has not come up. -/
theorem wpOrd_early {l : List Oper} {k : Nat} {rest : List Nat} {o : Oper} {v : Value} {a : Act} {w : World} (ho : l[k]? = some o) (hst : stepOp o = false) (hwt : waitsFor md l.toArray c k = true)
    (hQ : ∀ c a w, Q (.panic c) (a.put o.dst v) w → Q (.panic c) a w) (hw : Region.wanted o (yielded l.toArray a.tmps) = true)
    (hy : ∀ w, T w → U w → (execOp a.eval o).run P w = .ok (.value v) w)
    (h : wpOrd P md l.toArray Q T U c rest (a.put o.dst v) w) : wpOrd P md l.toArray Q T U c (k :: rest) a w :=
  wpOrd_quiet ho hst hQ hw (fun w h1 h2 => hy w h1 (h2 hwt)) h
/-- What is passed by, its guard saying no. -/
theorem wpOrd_pass {l : List Oper} {k : Nat} {rest : List Nat} {o : Oper} {a : Act} {w : World} (ho : l[k]? = some o)
    (hQ : ∀ c a w, Q (.panic c) (a.put o.dst undef) w → Q (.panic c) a w) (hw : Region.wanted o (yielded l.toArray a.tmps) = false)
    (hTU : T w ∧ (rest.contains c = true → U w))
    (h : wpOrd P md l.toArray Q T U c rest (a.put o.dst undef) w) : wpOrd P md l.toArray Q T U c (k :: rest) a w := by
  unfold wpOrd
  have ho' : l.toArray[k]? = some o := by simpa using ho
  simp only [ho']
  split
  · unfold wpOp
    simp only [ho', hw, Bool.false_eq_true, if_false]
    exact ⟨hTU, h⟩
  · exact ⟨undef, hQ, .inr ⟨hw, rfl⟩, h⟩
/-- What is carried out. -/
theorem wpOrd_step {l : List Oper} {k : Nat} {rest : List Nat} {o : Oper} {a : Act} {w : World} (ho : l[k]? = some o) (hst : stepOp o = true) (hw : Region.wanted o (yielded l.toArray a.tmps) = true)
    (h : ∀ K' : Act → World → Prop, Shut (∀ a' w', T w' → (rest.contains c = true → U w') → (T w' → wpOrd P md l.toArray Q T U c rest a' w') → K' a' w') → Oper.wp P o a w K' Q) : wpOrd P md l.toArray Q T U c (k :: rest) a w := by
  unfold wpOrd
  have ho' : l.toArray[k]? = some o := by simpa using ho
  simp only [ho', hst, if_true]
  unfold wpOp
  simp only [ho', hw, if_true]
  exact .inl (h _ (fun a' w' h1 h2 h3 => ⟨⟨h1, h2⟩, h3 h1⟩))
end

#print axioms wp_region_ord
end Go.Proofs.Ytgjffoeegnljlaa
