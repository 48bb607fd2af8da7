
/- A law on regions that draw the order of their operations, where each operation's value is used by one other at most (a tree): what each one makes of what it was handed, told once, whatever comes between; what it made is its own until it is used. No program is named here; no conditions but those that each line states. -/
import Derived.Test.YthiinflodgjdjaaDoorXBase
import Derived.OrdersHeld
namespace Go.Proofs.YthiinflodgjdjaaDoor
open Go
set_option maxRecDepth 20000

/-- Blocks from size B of the start on that one value is made of. -/
abbrev Blocks := Nat → Prop
/-- All but what stands in X is as it was, and what is new is in Y or in nobody's. -/
structure Turn (X : Blocks) (w : World) (Y : Blocks) (w' : World) : Prop where
  os : w'.os = w.os
  tape : w'.tape = w.tape
  output : w'.output = w.output
  size : w.heap.size ≤ w'.heap.size
  block : ∀ k, k < w.heap.size → ¬ X k → w'.heap[k]? = w.heap[k]?
  own : ∀ k, Y k → k < w'.heap.size ∧ (X k ∨ w.heap.size ≤ k)
theorem Turn.of_below {X Y : Blocks} {w w' : World} (h : RowKit.Below w.heap.size w w') (hy : ∀ k, Y k → k < w'.heap.size ∧ (X k ∨ w.heap.size ≤ k)) : Turn X w Y w' :=
  ⟨h.os, h.tape, h.output, h.size, fun k hk _ => h.block k hk, hy⟩
theorem Turn.same {X Y : Blocks} {w : World} (hy : ∀ k, Y k → X k) (hx : ∀ k, X k → k < w.heap.size) : Turn X w Y w :=
  ⟨rfl, rfl, rfl, Nat.le_refl _, fun _ _ _ => rfl, fun k hk => ⟨hx k (hy k hk), .inl (hy k hk)⟩⟩

section
variable {P : Program} {l : List Oper} {Q : Exit → Act → World → Prop}

/-- The temporary of operation k. -/
def dstOf (l : List Oper) (k : Nat) : Option Tmp := (l[k]?).bind (·.dst)
/-- What is asked of the region's form: each operation unguarded, with a temporary of its own among the first n; each waits for elder ones alone, among them those that it uses; no two use one. -/
def treeOk (n : Nat) (l : List Oper) (deps : Nat → List Nat) : Bool :=
  (List.range l.length).all fun k =>
    match l[k]? with
    | none => false
    | some o => o.guard.isNone
      && (match o.dst with | none => false | some d => decide (d < n) && (List.range l.length).all fun j => j == k || dstOf l j != some d)
      && o.after.toList.all (fun e => decide (e.on < k))
      && (deps k).all (fun j => (o.after.toList.any fun e => Region.binds .any e && e.on == j) && (List.range l.length).all fun i => i == k || !(deps i).contains j)

structure TreeAt (n : Nat) (l : List Oper) (deps : Nat → List Nat) (k : Nat) (o : Oper) (d : Tmp) : Prop where
  guard : o.guard = none
  dst : o.dst = some d
  lt : d < n
  uniq : ∀ j, j < l.length → j ≠ k → dstOf l j ≠ some d
  elder : ∀ e ∈ o.after, e.on < k
  waits : ∀ j ∈ deps k, ∃ e ∈ o.after, Region.binds .any e = true ∧ e.on = j
  once : ∀ j ∈ deps k, ∀ i, i < l.length → i ≠ k → j ∉ deps i
theorem treeOk_at {n : Nat} {l : List Oper} {deps : Nat → List Nat} (h : treeOk n l deps = true) {k : Nat} {o : Oper} (ho : l[k]? = some o) : ∃ d, TreeAt n l deps k o d := by
  have hk : k < l.length := (List.getElem?_eq_some_iff.1 ho).1
  unfold treeOk at h
  rw [List.all_eq_true] at h
  have h1 := h k (List.mem_range.2 hk)
  simp only [ho, Bool.and_eq_true] at h1
  obtain ⟨⟨⟨h1, h2⟩, h3⟩, h4⟩ := h1
  cases hd : o.dst with
  | none => rw [hd] at h2; cases h2
  | some d =>
    rw [hd] at h2
    simp only [Bool.and_eq_true, decide_eq_true_eq, List.all_eq_true, List.mem_range, Bool.or_eq_true, beq_iff_eq, bne_iff_ne] at h2
    simp only [List.all_eq_true, decide_eq_true_eq] at h3
    simp only [List.all_eq_true, Bool.and_eq_true, List.any_eq_true, beq_iff_eq, List.mem_range, Bool.or_eq_true, Bool.not_eq_true', List.contains_eq_mem, decide_eq_false_iff_not] at h4
    refine ⟨d, ⟨by simpa using h1, hd, h2.1, fun j hj hne => (h2.2 j hj).resolve_left hne, fun e he => h3 e (by simpa using he), fun j hj => ?_, fun j hj i hi hne => ((h4 j hj).2 i hi).resolve_left hne⟩⟩
    obtain ⟨e, he, hb, hon⟩ := (h4 j hj).1
    exact ⟨e, by simpa using he, hb, hon⟩

/-- What stands once these have come up. -/
structure TreeI (n : Nat) (l : List Oper) (deps : Nat → List Nat) (B : Nat) (w0 : World) (a0 : Act) (Fact : Nat → Blocks → Value → World → Prop) (listed : Array Bool) (a : Act) (w : World) (S : Nat → Blocks) : Prop where
  below : RowKit.Below B w0 w
  base : B ≤ w.heap.size
  defers : a.defers = a0.defers
  size : a.tmps.size = n
  tmps : ∀ i, (∀ j, j < l.length → dstOf l j ≠ some i) → a.tmps[i]? = a0.tmps[i]?
  fact : ∀ k d, listed.getD k false = true → (∀ i, i < l.length → k ∈ deps i → listed.getD i true = false) → dstOf l k = some d → Fact k (S k) (a.tmps.getD d undef) w ∧ ∀ g, S k g → B ≤ g ∧ g < w.heap.size
  apart : ∀ k k', listed.getD k false = true → (∀ i, i < l.length → k ∈ deps i → listed.getD i true = false) → listed.getD k' false = true → (∀ i, i < l.length → k' ∈ deps i → listed.getD i true = false) → k ≠ k' → ∀ g, S k g → ¬ S k' g

/-- What one operation makes of what it was handed. -/
def TreeStep (P : Program) (Q : Exit → Act → World → Prop) (l : List Oper) (deps : Nat → List Nat) (B : Nat) (w0 : World) (a0 : Act) (Fact : Nat → Blocks → Value → World → Prop) (k : Nat) : Prop :=
  ∀ (o : Oper) (a : Act) (w : World) (S : Nat → Blocks) (K : Act → World → Prop), l[k]? = some o → RowKit.Below B w0 w → B ≤ w.heap.size → (∀ i, (∀ j, j < l.length → dstOf l j ≠ some i) → a.tmps[i]? = a0.tmps[i]?) →
    (∀ j ∈ deps k, ∀ d, dstOf l j = some d → Fact j (S j) (a.tmps.getD d undef) w ∧ ∀ g, S j g → B ≤ g ∧ g < w.heap.size) →
    (∀ j ∈ deps k, ∀ j' ∈ deps k, j ≠ j' → ∀ g, S j g → ¬ S j' g) →
    (∀ v w' Y, Turn (fun g => ∃ j ∈ deps k, S j g) w Y w' → RowKit.Below B w0 w' → Fact k Y v w' → K (a.put o.dst v) w') → o.wp P a w K Q

theorem getD_any {l : Array Bool} {i : Nat} (h : l.getD i true = true) (hi : i < l.size) : l.getD i false = true := by
  rw [Array.getD, dif_pos hi] at h ⊢
  exact h
theorem tree_ready {n : Nat} {deps : Nat → List Nat} (hok : treeOk n l deps = true) {listed : Array Bool} (hs : listed.size = l.length) (hno : Region.ready .any l.toArray listed = []) : ∀ k, k < l.length → listed.getD k true = true := by
  intro k
  induction k using Nat.strongRecOn with
  | ind k ih =>
    intro hk
    cases hl : listed.getD k true with
    | true => rfl
    | false =>
      exfalso
      have ho : l[k]? = some l[k] := List.getElem?_eq_getElem hk
      obtain ⟨d, hT⟩ := treeOk_at hok ho
      have hr : k ∈ Region.ready .any l.toArray listed := mem_ready.2 ⟨hl, l[k], by simp, fun e he _ => by
        have h1 := hT.elder e he
        have h2 := ih e.on h1 (by omega)
        exact getD_any h2 (by omega)⟩
      rw [hno] at hr
      cases hr
theorem wanted_plain {o : Oper} (h : o.guard = none) (y : Nat → Option Bool) : Region.wanted o y = true := by
  unfold Region.wanted
  rw [h]

theorem wpAny_tree {n B : Nat} {deps : Nat → List Nat} {w0 : World} {a0 : Act} {Fact : Nat → Blocks → Value → World → Prop} (hok : treeOk n l deps = true)
    (hst : ∀ k S v w w', Fact k S v w → (∀ g, g < B ∨ S g → w'.heap[g]? = w.heap[g]?) → Fact k S v w')
    (hstep : ∀ k, k < l.length → TreeStep P Q l deps B w0 a0 Fact k)
    (hend : ∀ a w, RowKit.Below B w0 w → a.defers = a0.defers → a.tmps.size = n → (∀ i, (∀ j, j < l.length → dstOf l j ≠ some i) → a.tmps[i]? = a0.tmps[i]?) →
      (∀ r d, r < l.length → (∀ i, i < l.length → r ∉ deps i) → dstOf l r = some d → ∃ S, Fact r S (a.tmps.getD d undef) w) → Q .normal a w) :
    ∀ (fuel : Nat) (rem : List Nat) (listed : Array Bool) (a : Act) (w : World) (S : Nat → Blocks), TreeI n l deps B w0 a0 Fact listed a w S → listed.size = l.length → rem.Nodup → (∀ i, listed.getD i true = false ↔ i ∈ rem) → rem.length = fuel →
      wpAny P .any l.toArray Q fuel listed a w := by
  intro fuel
  have fin : ∀ (listed : Array Bool) (a : Act) (w : World) (S : Nat → Blocks), TreeI n l deps B w0 a0 Fact listed a w S → listed.size = l.length → (∀ k, k < l.length → listed.getD k true = true) → Q .normal a w := by
    intro listed a w S hI hs hall
    refine hend a w hI.below hI.defers hI.size hI.tmps fun r d hr hno hd => ⟨S r, (hI.fact r d (getD_any (hall r hr) (by omega)) (fun i hi hm => absurd hm (hno i hi)) hd).1⟩
  induction fuel with
  | zero =>
    intro rem listed a w S hI hs _ hrem h0
    have hall : ∀ k, k < l.length → listed.getD k true = true := fun k _ => by
      cases hk : listed.getD k true with
      | true => rfl
      | false =>
        have := (hrem k).1 hk
        rw [List.eq_nil_of_length_eq_zero h0] at this
        cases this
    refine ⟨?_, fin listed a w S hI hs hall⟩
    apply List.eq_nil_iff_forall_not_mem.2
    intro i hi
    have h1 := (mem_ready.1 hi).1
    have h2 := (hrem i).1 h1
    rw [List.eq_nil_of_length_eq_zero h0] at h2
    cases h2
  | succ fuel ih =>
    intro rem listed a w S hI hs hnd hrem hlen
    refine ⟨fun hr => fin listed a w S hI hs (tree_ready hok hs hr), fun i hi => ?_⟩
    obtain ⟨hun, o, ho, hall⟩ := mem_ready.1 hi
    have ho' : l[i]? = some o := by simpa using ho
    have hil : i < l.length := (List.getElem?_eq_some_iff.1 ho').1
    obtain ⟨d, hT⟩ := treeOk_at hok ho'
    have hdi : dstOf l i = some d := by unfold dstOf; rw [ho']; exact hT.dst
    unfold wpOp
    simp only [ho]
    rw [if_pos (wanted_plain hT.guard _)]
    left
    have hdl : ∀ j ∈ deps i, listed.getD j false = true := fun j hj => by
      obtain ⟨e, he, hb, rfl⟩ := hT.waits j hj
      exact hall e he hb
    have hlive : ∀ j ∈ deps i, ∀ k, k < l.length → j ∈ deps k → listed.getD k true = false := fun j hj k hk hm => by
      by_cases hki : k = i
      · rw [hki]; exact hun
      · exact absurd hm (hT.once j hj k hk hki)
    refine hstep i hil o a w S _ ho' hI.below hI.base hI.tmps (fun j hj dj hdj => hI.fact j dj (hdl j hj) (hlive j hj) hdj) (fun j hj j' hj' hne => hI.apart j j' (hdl j hj) (hlive j hj) (hdl j' hj') (hlive j' hj') hne) ?_
    intro v w' Y hturn hbel hfact
    have hput : a.put o.dst v = { a with tmps := a.tmps.setIfInBounds d v } := by rw [hT.dst]; rfl
    rw [hput]
    -- what was live and is not used here stays so, and stays live's
    have hkeep : ∀ k, listed.getD k false = true → (∀ m, m < l.length → k ∈ deps m → (listed.setIfInBounds i true).getD m true = false) → (∀ m, m < l.length → k ∈ deps m → listed.getD m true = false) ∧ k ∉ deps i := fun k hk h => by
      constructor
      · intro m hm hmem
        have := h m hm hmem
        by_cases hmi : i = m
        · subst hmi; exact hun
        · rwa [getD_set_ne true hmi] at this
      · intro hmem
        have := h i hil hmem
        have h2 : (listed.setIfInBounds i true).getD i true = true := by
          have : i < listed.size := by omega
          simp [this]
        rw [h2] at this
        cases this
    have hback : ∀ k, k ≠ i → (listed.setIfInBounds i true).getD k false = true → listed.getD k false = true := fun k hk h => by rwa [getD_set_ne false (fun e => hk e.symm)] at h
    have hlt : ∀ k, listed.getD k false = true → k < l.length := fun k hk => by
      rcases Nat.lt_or_ge k listed.size with h | h
      · omega
      · simp [Array.getElem?_eq_none h] at hk
    refine ih (rem.erase i) (listed.setIfInBounds i true) _ w' (fun k => if k = i then Y else S k) ?_ (by simpa using hs) (hnd.erase i) ?_ ?_
    · refine ⟨hbel, Nat.le_trans hI.base hturn.size, hI.defers, by simpa using hI.size, fun j hj => ?_, fun k dk hk hl hdk => ?_, fun k k' hk hl hk' hl' hne => ?_⟩
      · have hne : d ≠ j := fun e => hj i hil (by rw [hdi, e])
        show (a.tmps.setIfInBounds d v)[j]? = _
        rw [Array.getElem?_setIfInBounds_ne hne]
        exact hI.tmps j hj
      · by_cases hki : k = i
        · subst hki
          rw [hdi] at hdk
          obtain rfl := Option.some.inj hdk
          rw [if_pos rfl]
          have hv : (a.tmps.setIfInBounds d v).getD d undef = v := by
            have : d < a.tmps.size := by rw [hI.size]; exact hT.lt
            simp [this]
          show Fact k Y ((a.tmps.setIfInBounds d v).getD d undef) w' ∧ _
          rw [hv]
          refine ⟨hfact, fun g hg => ?_⟩
          obtain ⟨h1, h2⟩ := hturn.own g hg
          refine ⟨?_, h1⟩
          rcases h2 with ⟨j, hj, hjg⟩ | h2
          · cases hdj : dstOf l j with
            | none =>
              have hjl := hlt j (hdl j hj)
              obtain ⟨dj, hTj⟩ := treeOk_at hok (List.getElem?_eq_getElem hjl)
              unfold dstOf at hdj
              rw [List.getElem?_eq_getElem hjl] at hdj
              rw [show (some l[j]).bind (·.dst) = l[j].dst from rfl, hTj.dst] at hdj
              cases hdj
            | some dj => exact ((hI.fact j dj (hdl j hj) (hlive j hj) hdj).2 g hjg).1
          · exact Nat.le_trans hI.base h2
        · rw [if_neg hki]
          have hk1 := hback k hki hk
          obtain ⟨hl1, hnd1⟩ := hkeep k hk1 hl
          obtain ⟨hf, hS⟩ := hI.fact k dk hk1 hl1 hdk
          have hkl := hlt k hk1
          have hdne : d ≠ dk := fun e => hT.uniq k hkl hki (by rw [hdk, e])
          have hsame : ∀ g, g < B ∨ S k g → w'.heap[g]? = w.heap[g]? := fun g hg => by
            have hgl : g < w.heap.size := by
              rcases hg with hg | hg
              · exact Nat.lt_of_lt_of_le hg hI.base
              · exact (hS g hg).2
            refine hturn.block g hgl ?_
            rintro ⟨j, hj, hjg⟩
            rcases hg with hg | hg
            · cases hdj : dstOf l j with
              | none =>
                have hjl := hlt j (hdl j hj)
                obtain ⟨dj, hTj⟩ := treeOk_at hok (List.getElem?_eq_getElem hjl)
                unfold dstOf at hdj
                rw [List.getElem?_eq_getElem hjl] at hdj
                rw [show (some l[j]).bind (·.dst) = l[j].dst from rfl, hTj.dst] at hdj
                cases hdj
              | some dj =>
                have := ((hI.fact j dj (hdl j hj) (hlive j hj) hdj).2 g hjg).1
                omega
            · have hjk : k ≠ j := fun e => hnd1 (e ▸ hj)
              exact hI.apart k j hk1 hl1 (hdl j hj) (hlive j hj) hjk g hg hjg
          show Fact k (S k) ((a.tmps.setIfInBounds d v).getD dk undef) w' ∧ _
          have hv : (a.tmps.setIfInBounds d v).getD dk undef = a.tmps.getD dk undef := by
            simp [Array.getElem?_setIfInBounds_ne hdne]
          rw [hv]
          exact ⟨hst k (S k) _ w w' hf hsame, fun g hg => ⟨(hS g hg).1, Nat.lt_of_lt_of_le (hS g hg).2 hturn.size⟩⟩
      · have hYS : ∀ q, q ≠ i → (listed.setIfInBounds i true).getD q false = true → (∀ m, m < l.length → q ∈ deps m → (listed.setIfInBounds i true).getD m true = false) → ∀ g, Y g → ¬ S q g := fun q hqi hq hlq g hg hgq => by
          have hq1 := hback q hqi hq
          obtain ⟨hl1, hnd1⟩ := hkeep q hq1 hlq
          have hql := hlt q hq1
          obtain ⟨dq, hTq⟩ := treeOk_at hok (List.getElem?_eq_getElem hql)
          have hdq : dstOf l q = some dq := by unfold dstOf; rw [List.getElem?_eq_getElem hql]; exact hTq.dst
          obtain ⟨_, h2⟩ := hturn.own g hg
          rcases h2 with ⟨j, hj, hjg⟩ | h2
          · exact hI.apart j q (hdl j hj) (hlive j hj) hq1 hl1 (fun e => hnd1 (e ▸ hj)) g hjg hgq
          · have := ((hI.fact q dq hq1 hl1 hdq).2 g hgq).2
            omega
        by_cases hki : k = i
        · have hk'i : k' ≠ i := fun e => hne (hki.trans e.symm)
          intro g
          rw [if_pos hki, if_neg hk'i]
          exact hYS k' hk'i hk' hl' g
        · by_cases hk'i : k' = i
          · intro g
            rw [if_neg hki, if_pos hk'i]
            exact fun hg hy => hYS k hki hk hl g hy hg
          · intro g
            rw [if_neg hki, if_neg hk'i]
            have hk1 := hback k hki hk
            have hk1' := hback k' hk'i hk'
            exact hI.apart k k' hk1 (hkeep k hk1 hl).1 hk1' (hkeep k' hk1' hl').1 hne g
    · intro m
      rw [hnd.mem_erase_iff]
      by_cases hmi : i = m
      · subst hmi
        have h2 : (listed.setIfInBounds i true).getD i true = true := by
          have : i < listed.size := by omega
          simp [this]
        rw [h2]
        simp
      · rw [getD_set_ne true hmi, hrem m]
        exact ⟨fun h => ⟨fun e => hmi e.symm, h⟩, fun h => h.2⟩
    · rw [List.length_erase_of_mem ((hrem i).1 hun), hlen]
      rfl

/-- THE LAW. -/
theorem wp_region_tree {id n : Nat} {a : Act} {w : World} {deps : Nat → List Nat} {Fact : Nat → Blocks → Value → World → Prop} (hm : P.follows .mixedOrders = true) (hok : treeOk n l deps = true) (hn : a.tmps.size = n)
    (hst : ∀ k S v w1 w2, Fact k S v w1 → (∀ g, g < w.heap.size ∨ S g → w2.heap[g]? = w1.heap[g]?) → Fact k S v w2)
    (hstep : ∀ k, k < l.length → TreeStep P Q l deps w.heap.size w a Fact k)
    (hend : ∀ a' w', RowKit.Below w.heap.size w w' → a'.defers = a.defers → a'.tmps.size = n → (∀ i, (∀ j, j < l.length → dstOf l j ≠ some i) → a'.tmps[i]? = a.tmps[i]?) →
      (∀ r d, r < l.length → (∀ i, i < l.length → r ∉ deps i) → dstOf l r = some d → ∃ S, Fact r S (a'.tmps.getD d undef) w') → Q .normal a' w') : (Code.region id l.toArray true).wp P Q a w := by
  refine wp_region_any hm ?_
  have hnone : ∀ k, (Array.replicate l.length false).getD k false = true → False := fun k h => by
    rcases Nat.lt_or_ge k l.length with hk | hk
    · simp [hk] at h
    · simp [Nat.not_lt.2 hk] at h
  have := wpAny_tree (P := P) (Q := Q) hok hst hstep hend l.length (List.range l.length) (Array.replicate l.length false) a w.drew (fun _ _ => False)
    ⟨(RowKit.Below.refl _ _).drew, Nat.le_refl _, rfl, hn, fun _ _ => rfl, fun k d hk => (hnone k hk).elim, fun k k' hk => (hnone k hk).elim⟩ (by simp) List.nodup_range (fun i => by
      rw [List.mem_range]
      rcases Nat.lt_or_ge i l.length with hk | hk
      · simp [hk]
      · simp [Nat.not_lt.2 hk]) (by simp)
  simpa using this
end
#print axioms wp_region_tree
end Go.Proofs.YthiinflodgjdjaaDoor
