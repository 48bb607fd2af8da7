
/- The table of dumbwaiterlaw8.BootForms: what each operation makes of what it was handed, whatever comes between. No conditions but those that each line states. -/
import Derived.Test.YtgkhaedlfmloeaaDoorBTable
namespace Go.Proofs.YtgkhaedlfmloeaaDoor
open Go.RowKit

def R2 : List Int := recL 258
theorem R2_length : R2.length = 24 := recL_length _
theorem R2_bytes : IsBytes R2 := recL_bytes _
/-- The rows of the table, and which of them are records. -/
def rowAt (i : Nat) : List Int := [R2, R2 ++ [0, 0], R2 ++ [0, 1], R2.take 23, [], zL 30, recL 0, turnL R2 0, turnL R2 11, turnL R2 12, turnL R2 15, turnL R2 16, turnL R2 23, badL R2].getD i []
def okAt (i : Nat) : Bool := [true, true, false, false, false, false, false, false, false, false, false, false, false, false].getD i false
theorem row_fact (i : Nat) (hi : i < 14) : recOk (rowAt i) = okAt i ∧ (okAt i = true → recN (rowAt i) = 258) ∧ (rowAt i).length ≤ 30 := by
  have h : ((List.range 14).all fun i => (recOk (rowAt i) == okAt i) && (!okAt i || recN (rowAt i) == 258) && decide ((rowAt i).length ≤ 30)) = true := by kernel_rfl
  have h1 := (List.all_eq_true.1 h) i (List.mem_range.2 hi)
  simp only [Bool.and_eq_true, beq_iff_eq, Bool.or_eq_true, Bool.not_eq_true', decide_eq_true_eq] at h1
  exact ⟨h1.1.1, fun hk => h1.1.2.resolve_left (by rw [hk]; decide), h1.2⟩

def kindAt (k : Nat) : Nat := [0, 4, 2, 0, 2, 2, 2, 4, 2, 0, 2, 2, 2, 4, 0, 3, 4, 4, 2, 4, 2, 4, 1, 2, 4, 1, 2, 4, 1, 2, 4, 1, 2, 4, 1, 2, 4, 1, 2, 4, 0, 2, 4, 5, 5].getD k 9
def rowOf (k : Nat) : List Int := [[], rowAt 0, [], [], R2, [0, 0], rowAt 1, rowAt 1, [], [], R2, [0, 1], rowAt 2, rowAt 2, [], rowAt 3, rowAt 3, rowAt 4, rowAt 5, rowAt 5, rowAt 6, rowAt 6, [], rowAt 7, rowAt 7, [], rowAt 8, rowAt 8, [], rowAt 9, rowAt 9, [], rowAt 10, rowAt 10, [], rowAt 11, rowAt 11, [], rowAt 12, rowAt 12, [], rowAt 13, rowAt 13, [], []].getD k []
def okOf (k : Nat) : Bool := [false, true, false, false, false, false, false, true, false, false, false, false, false, false, false, false, false, false, false, false, false, false, false, false, false, false, false, false, false, false, false, false, false, false, false, false, false, false, false, false, false, false, false, false, false].getD k false
def depsF (k : Nat) : List Nat := [[], [0], [], [], [2, 3], [], [4, 5], [6], [], [], [8, 9], [], [10, 11], [12], [], [14], [15], [], [], [18], [], [20], [], [22], [23], [], [25], [26], [], [28], [29], [], [31], [32], [], [34], [35], [], [37], [38], [], [40], [41], [1, 7, 13, 16, 17, 19, 21, 24, 27, 30, 33, 36, 39, 42], [43]].getD k []
/-- The whole table. -/
def TabF (B : Nat) (S : Blocks) (v : Value) (w : World) : Prop := ∃ (g : Nat) (xs : Nat → BV), v = .slice (some ⟨g, 0, none⟩) 14 14 ∧ (∀ i, i < 14 → w.rangeAt g (2 * i) [(xs i).v, .bool (okAt i)]) ∧ (∀ i, i < 14 → SliX B S (xs i) w (rowAt i)) ∧ S g
def factF (B : Nat) (rv fv : Value) (k : Nat) (S : Blocks) (v : Value) (w : World) : Prop :=
  match kindAt k with
  | 0 => v = rv
  | 1 => v = fv
  | 2 => OwnF B S v w (rowOf k)
  | 3 => ∃ x : BV, v = x.v ∧ SliX B S x w (rowOf k)
  | 4 => AggF B S v w (rowOf k) (okOf k)
  | _ => TabF B S v w
theorem fact_0 {B : Nat} {rv fv : Value} {k : Nat} {S : Blocks} {v : Value} {w : World} (h : kindAt k = 0) : factF B rv fv k S v w = (v = rv) := by unfold factF; rw [h]; rfl
theorem fact_1 {B : Nat} {rv fv : Value} {k : Nat} {S : Blocks} {v : Value} {w : World} (h : kindAt k = 1) : factF B rv fv k S v w = (v = fv) := by unfold factF; rw [h]; rfl
theorem fact_2 {B : Nat} {rv fv : Value} {k : Nat} {S : Blocks} {v : Value} {w : World} (h : kindAt k = 2) : factF B rv fv k S v w = OwnF B S v w (rowOf k) := by unfold factF; rw [h]; rfl
theorem fact_3 {B : Nat} {rv fv : Value} {k : Nat} {S : Blocks} {v : Value} {w : World} (h : kindAt k = 3) : factF B rv fv k S v w = ∃ x : BV, v = x.v ∧ SliX B S x w (rowOf k) := by unfold factF; rw [h]; rfl
theorem fact_4 {B : Nat} {rv fv : Value} {k : Nat} {S : Blocks} {v : Value} {w : World} (h : kindAt k = 4) : factF B rv fv k S v w = AggF B S v w (rowOf k) (okOf k) := by unfold factF; rw [h]; rfl
theorem fact_5 {B : Nat} {rv fv : Value} {k : Nat} {S : Blocks} {v : Value} {w : World} (h : kindAt k = 5) : factF B rv fv k S v w = TabF B S v w := by unfold factF; rw [h]; rfl
theorem TabF.keep {B : Nat} {S : Blocks} {v : Value} {w w' : World} (h : TabF B S v w) (hk : ∀ g, g < B ∨ S g → w'.heap[g]? = w.heap[g]?) : TabF B S v w' := by
  obtain ⟨g, xs, rfl, hr, hx, hS⟩ := h
  exact ⟨g, xs, rfl, fun i hi => rangeAt_keep (hr i hi) (hk g (.inr hS)), fun i hi => (hx i hi).keep hk, hS⟩
theorem fact_keep {B : Nat} {rv fv : Value} (k : Nat) (S : Blocks) (v : Value) (w w' : World) (h : factF B rv fv k S v w) (hk : ∀ g, g < B ∨ S g → w'.heap[g]? = w.heap[g]?) : factF B rv fv k S v w' := by
  unfold factF at h ⊢
  split at h
  · exact h
  · exact h
  · exact OwnF.keep h hk
  · obtain ⟨x, rfl, hx⟩ := h
    exact ⟨x, rfl, hx.keep hk⟩
  · exact AggF.keep h hk
  · exact TabF.keep h hk

section
variable {Q : Exit → Act → World → Prop} {l : List Oper} {w0 : World} {a0 : Act} {rv fv : Value} {rb gr cr : Nat}
/-- What the frame and the memory hold when the table is begun. -/
structure Tab0 (l : List Oper) (w0 : World) (a0 : Act) (rv fv : Value) (rb gr cr : Nat) : Prop where
  t3 : ∀ j, j < l.length → dstOf l j ≠ some 3
  t4 : ∀ j, j < l.length → dstOf l j ≠ some 4
  a3 : a0.tmps[3]? = some (.pointer (some ⟨rb, 0, none⟩))
  a4 : a0.tmps[4]? = some fv
  hrv : rv = .slice (some ⟨gr, 0, none⟩) 24 cr
  hfv : fv = .func (.func 16) #[] #[.pointer (some ⟨rb, 0, none⟩)]
  cell : w0.cell? ⟨rb, 0, none⟩ = some rv
  bs : Bs w0 (some ⟨gr, 0, none⟩) 24 cr R2
theorem eval_of {a a1 : Act} {i : Nat} {v : Value} (h : a.tmps[i]? = a1.tmps[i]?) (h1 : a1.tmps[i]? = some v) : a.eval (.tmp i) = v := by
  rw [h1] at h
  show a.tmps.getD i undef = v
  simp [h]
theorem Tab0.old (h : Tab0 l w0 a0 rv fv rb gr cr) {w : World} (hb : Below w0.heap.size w0 w) : w.cell? ⟨rb, 0, none⟩ = some rv ∧ Bs w (some ⟨gr, 0, none⟩) 24 cr R2 ∧ gr < w0.heap.size :=
  ⟨(hb.cell (World.block_lt_of_cell? w0 _ h.cell)).trans h.cell, h.bs.below hb, h.bs.block_lt (by omega)⟩
/-- What is old is handed on: nothing is turned. -/
theorem Turn.none {X Y : Blocks} {w : World} (hy : ∀ k, Y k → k < w.heap.size ∧ (X k ∨ w.heap.size ≤ k)) : Turn X w Y w := ⟨rfl, rfl, rfl, Nat.le_refl _, fun _ _ _ => rfl, hy⟩
/-- A new row. -/
theorem Turn.fresh {X : Blocks} {w w' : World} {g : Nat} (hb : Below w.heap.size w w') (h1 : w.heap.size ≤ g) (h2 : g < w'.heap.size) : Turn X w (fun k => k = g) w' :=
  Turn.of_below hb fun k hk => by subst hk; exact ⟨h2, .inr h1⟩
theorem OwnF.new {w' : World} {B g n c : Nat} {zs : List Int} (hn : zs.length = n) (ho : OwnS 5 B w' (some ⟨g, 0, none⟩) n c zs) : OwnF B (fun k => k = g) (.slice (some ⟨g, 0, none⟩) n c) w' zs := by
  subst hn
  exact ⟨g, c, rfl, ho, rfl⟩
theorem OwnS.own_lt {w' : World} {B g n c : Nat} {zs : List Int} (ho : OwnS 5 B w' (some ⟨g, 0, none⟩) n c zs) : B ≤ g ∧ g < w'.heap.size := ho.2.2.lt g rfl

abbrev Step8 (Q : Exit → Act → World → Prop) (l : List Oper) (w0 : World) (a0 : Act) (rv fv : Value) (k : Nat) : Prop := TreeStep Tryd.prog Q l depsF w0.heap.size w0 a0 (factF w0.heap.size rv fv) k

theorem ts_load (h : Tab0 l w0 a0 rv fv rb gr cr) (k : Nat) (hk : kindAt k = 0) (hop : ∀ o, l[k]? = some o → o.op = .load 26 (.tmp 3)) : Step8 Q l w0 a0 rv fv k := by
  intro o a w S K ho hb hB htm _ _ hK
  refine op_load 3 rb rv (hop o ho) (eval_of (htm 3 h.t3) h.a3) (h.old hb).1 ?_
  exact hK rv w (fun _ => False) (Turn.none fun _ hf => hf.elim) hb (by rw [fact_0 hk])
theorem ts_func (h : Tab0 l w0 a0 rv fv rb gr cr) (k : Nat) (hk : kindAt k = 1) (hop : ∀ o, l[k]? = some o → o.op = .move (.tmp 4)) : Step8 Q l w0 a0 rv fv k := by
  intro o a w S K ho hb hB htm _ _ hK
  refine op_move 4 fv (hop o ho) (eval_of (htm 4 h.t4) h.a4) ?_
  exact hK fv w (fun _ => False) (Turn.none fun _ hf => hf.elim) hb (by rw [fact_1 hk])
theorem ts_nought (k : Nat) (hk : kindAt k = 2) (hr : rowOf k = []) (hop : ∀ o, l[k]? = some o → o.op = .buildSlice 26 0 #[]) : Step8 Q l w0 a0 rv fv k := by
  intro o a w S K ho hb hB htm _ _ hK
  refine op_nought (hop o ho) ?_
  have b1 := below_alloc (Below.refl w.heap.size w) (.cells #[] 5)
  have ho1 : OwnB 5 (w.alloc (.cells #[] 5)) w.heap.size [] := heap_alloc_new w _
  refine hK _ _ (fun g => g = w.heap.size) (Turn.fresh b1 (Nat.le_refl _) ho1.lt) (hb.trans (b1.mono hB)) ?_
  rw [fact_2 hk, hr]
  exact OwnF.new rfl (ho1.owns IsBytes.nil rfl (by omega) hB)
theorem ts_two (k : Nat) (x y : Int) (hxy : IsBytes [x, y]) (hk : kindAt k = 2) (hr : rowOf k = [x, y]) (hop : ∀ o, l[k]? = some o → o.op = .buildSlice 26 2 #[(0, .const (.int .u8 x)), (1, .const (.int .u8 y))]) : Step8 Q l w0 a0 rv fv k := by
  intro o a w S K ho hb hB htm _ _ hK
  refine wp_buildSliceTo 26 5 2 _ (hop o ho) Tryd.underlying26 [(0, .int .u8 x), (1, .int .u8 y)] (by simp [Act.eval]) #[.int .u8 x, .int .u8 y] (by kernel_rfl) ?_
  have b1 := below_alloc (Below.refl w.heap.size w) (.cells #[.int .u8 x, .int .u8 y] 5)
  have ho1 : OwnB 5 (w.alloc (.cells #[.int .u8 x, .int .u8 y] 5)) w.heap.size [x, y] := heap_alloc_new w _
  refine hK _ _ (fun g => g = w.heap.size) (Turn.fresh b1 (Nat.le_refl _) ho1.lt) (hb.trans (b1.mono hB)) ?_
  rw [fact_2 hk, hr]
  exact OwnF.new rfl (ho1.owns hxy rfl (by omega) hB)
theorem ts_make (k : Nat) (hk : kindAt k = 2) (hr : rowOf k = zL 30) (hop : ∀ o, l[k]? = some o → o.op = .makeSlice 26 (.const (.int .i64 30)) (.const (.int .i64 30))) : Step8 Q l w0 a0 rv fv k := by
  intro o a w S K ho hb hB htm _ _ hK
  refine wp_make_bytes 30 (by omega) _ _ (hop o ho) rfl rfl ?_
  have b1 := below_alloc (Below.refl w.heap.size w) (.cells (madeCells #[Value.int .u8 0] 30) 5)
  have ho1 := made_zB w 30 5
  refine hK _ _ (fun g => g = w.heap.size) (Turn.fresh b1 (Nat.le_refl _) ho1.lt) (hb.trans (b1.mono hB)) ?_
  rw [fact_2 hk, hr]
  exact OwnF.new (zL_length 30) (ho1.owns (zL_bytes _) (zL_length _) (by omega) hB)
/-- What a call's contract makes: a new row. -/
theorem call_new {o : Oper} {a : Act} {w : World} {K : Act → World → Prop} {X : Blocks} {k n : Nat} {zs : List Int} (hk : kindAt k = 2) (hr : rowOf k = zs) (hn : zs.length = n) (hb : Below w0.heap.size w0 w) (hB : w0.heap.size ≤ w.heap.size)
    (hK : ∀ v w' Y, Turn X w Y w' → Below w0.heap.size w0 w' → factF w0.heap.size rv fv k Y v w' → K (a.put o.dst v) w') :
    ∀ (e : Ending) (w' : World), (∃ g c, e = .returned (.slice (some ⟨g, 0, none⟩) n c) ∧ OwnS 5 w.heap.size w' (some ⟨g, 0, none⟩) n c zs ∧ Below w.heap.size w w') → ∃ v, e = .returned v ∧ K (a.put o.dst v) w' := by
  rintro e w' ⟨g, c, rfl, ho, b1⟩
  obtain ⟨h1, h2⟩ := OwnS.own_lt ho
  refine ⟨_, rfl, hK _ w' (fun x => x = g) (Turn.fresh b1 h1 h2) (hb.trans (b1.mono hB)) ?_⟩
  rw [fact_2 hk, hr]
  exact OwnF.new hn (ho.mono hB)
theorem ts_rec (k : Nat) (hk : kindAt k = 2) (hr : rowOf k = recL 0) (hop : ∀ o, l[k]? = some o → o.op = .call { callee := .value (.func 9), args := #[.const (.int .u32 0)], argTypes := #[22] }) : Step8 Q l w0 a0 rv fv k := by
  intro o a w S K ho hb hB htm _ _ hK
  exact op_rec 0 _ (hop o ho) (rrec_any 0 w (by omega)) (call_new hk hr (recL_length 0) hb hB hK)
theorem ts_turn (h : Tab0 l w0 a0 rv fv rb gr cr) (k j d : Nat) (m : Nat) (hm : m < 24) (hd : depsF k = [j]) (hj : kindAt j = 1) (hdj : dstOf l j = some d) (hk : kindAt k = 2) (hr : rowOf k = turnL R2 m)
    (hop : ∀ o, l[k]? = some o → o.op = .call { callee := .value (.tmp d), args := #[.const (.int .i64 (m : Int))], argTypes := #[3] }) : Step8 Q l w0 a0 rv fv k := by
  intro o a w S K ho hb hB htm hf _ hK
  have h1 := (hf j (by rw [hd]; exact List.mem_singleton.2 rfl) d hdj).1
  rw [fact_1 hj, h.hfv] at h1
  obtain ⟨c1, c2, _⟩ := h.old hb
  rw [h.hrv] at c1
  exact op_turn d m rb _ (hop o ho) h1 (turned_any w c2 c1 m hm (by omega)) (call_new hk hr (by rw [turnL, List.length_set, R2_length]) hb hB hK)
theorem ts_garb (h : Tab0 l w0 a0 rv fv rb gr cr) (k j d : Nat) (hd : depsF k = [j]) (hj : kindAt j = 0) (hdj : dstOf l j = some d) (hk : kindAt k = 2) (hr : rowOf k = badL R2)
    (hop : ∀ o, l[k]? = some o → o.op = .call { callee := .value (.func 17), args := #[.tmp d], argTypes := #[26] }) : Step8 Q l w0 a0 rv fv k := by
  intro o a w S K ho hb hB htm hf _ hK
  have h1 := (hf j (by rw [hd]; exact List.mem_singleton.2 rfl) d hdj).1
  rw [fact_0 hj, h.hrv] at h1
  obtain ⟨_, c2, _⟩ := h.old hb
  exact op_garb d _ _ (hop o ho) h1 (rgarb_any w c2 (by omega) (by omega)) (call_new hk hr (by rw [badL_length, R2_length]) hb hB hK)
/-- A row of the table out of a row of the region's own. -/
theorem ts_agg_own (k j d : Nat) (hd : depsF k = [j]) (hj : kindAt j = 2) (hdj : dstOf l j = some d) (hk : kindAt k = 4) (hr : rowOf k = rowOf j)
    (hop : ∀ o, l[k]? = some o → o.op = .build 41 #[(0, .tmp d), (1, .const (.bool (okOf k)))]) : Step8 Q l w0 a0 rv fv k := by
  intro o a w S K ho hb hB htm hf _ hK
  obtain ⟨h1, h2⟩ := hf j (by rw [hd]; exact List.mem_singleton.2 rfl) d hdj
  rw [fact_2 hj] at h1
  obtain ⟨x, hx, hs⟩ := h1.agg
  refine op_row (.tmp d) x (okOf k) (hop o ho) hx ?_
  refine hK _ w (S j) (Turn.none fun g hg => ⟨(h2 g hg).2, .inl ⟨j, by rw [hd]; exact List.mem_singleton.2 rfl, hg⟩⟩) hb ?_
  rw [fact_4 hk, hr]
  exact ⟨x, rfl, hs⟩
theorem ts_agg_sli (k j d : Nat) (hd : depsF k = [j]) (hj : kindAt j = 3) (hdj : dstOf l j = some d) (hk : kindAt k = 4) (hr : rowOf k = rowOf j)
    (hop : ∀ o, l[k]? = some o → o.op = .build 41 #[(0, .tmp d), (1, .const (.bool (okOf k)))]) : Step8 Q l w0 a0 rv fv k := by
  intro o a w S K ho hb hB htm hf _ hK
  obtain ⟨h1, h2⟩ := hf j (by rw [hd]; exact List.mem_singleton.2 rfl) d hdj
  rw [fact_3 hj] at h1
  obtain ⟨x, hx, hs⟩ := h1
  refine op_row (.tmp d) x (okOf k) (hop o ho) hx ?_
  refine hK _ w (S j) (Turn.none fun g hg => ⟨(h2 g hg).2, .inl ⟨j, by rw [hd]; exact List.mem_singleton.2 rfl, hg⟩⟩) hb ?_
  rw [fact_4 hk, hr]
  exact ⟨x, rfl, hs⟩
theorem ts_agg_old (h : Tab0 l w0 a0 rv fv rb gr cr) (k j d : Nat) (hd : depsF k = [j]) (hj : kindAt j = 0) (hdj : dstOf l j = some d) (hk : kindAt k = 4) (hr : rowOf k = R2)
    (hop : ∀ o, l[k]? = some o → o.op = .build 41 #[(0, .tmp d), (1, .const (.bool (okOf k)))]) : Step8 Q l w0 a0 rv fv k := by
  intro o a w S K ho hb hB htm hf _ hK
  have h1 := (hf j (by rw [hd]; exact List.mem_singleton.2 rfl) d hdj).1
  rw [fact_0 hj, h.hrv] at h1
  obtain ⟨_, c2, c3⟩ := h.old hb
  refine op_row (.tmp d) ⟨some ⟨gr, 0, none⟩, 24, cr, R2⟩ (okOf k) (hop o ho) h1 ?_
  refine hK _ w (fun _ => False) (Turn.none fun _ hf => hf.elim) hb ?_
  rw [fact_4 hk, hr]
  exact ⟨_, rfl, ⟨rfl, c2, fun _ p hp => by cases hp; exact .inl c3⟩⟩
theorem ts_agg_nil (k : Nat) (hk : kindAt k = 4) (hr : rowOf k = []) (hop : ∀ o, l[k]? = some o → o.op = .build 41 #[(0, .const (.slice none 0 0)), (1, .const (.bool (okOf k)))]) : Step8 Q l w0 a0 rv fv k := by
  intro o a w S K ho hb hB htm hf _ hK
  refine op_row (.const (.slice none 0 0)) BV.nil (okOf k) (hop o ho) rfl ?_
  refine hK _ w (fun _ => False) (Turn.none fun _ hf => hf.elim) hb ?_
  rw [fact_4 hk, hr]
  exact ⟨BV.nil, rfl, ⟨rfl, Bs.nil w, fun h0 => absurd h0 (Nat.lt_irrefl _)⟩⟩
theorem ts_cut (h : Tab0 l w0 a0 rv fv rb gr cr) (k j d : Nat) (hd : depsF k = [j]) (hj : kindAt j = 0) (hdj : dstOf l j = some d) (hk : kindAt k = 3) (hr : rowOf k = R2.take 23)
    (hop : ∀ o, l[k]? = some o → o.op = .slice 26 (.tmp d) none (some (.const (.int .i64 ((23 : Nat) : Int)))) none) : Step8 Q l w0 a0 rv fv k := by
  intro o a w S K ho hb hB htm hf _ hK
  have h1 := (hf j (by rw [hd]; exact List.mem_singleton.2 rfl) d hdj).1
  rw [fact_0 hj, h.hrv] at h1
  obtain ⟨_, c2, c3⟩ := h.old hb
  have hcl := c2.le_cap
  refine op_cut d ⟨some ⟨gr, 0, none⟩, 24, cr, R2⟩ 23 (hop o ho) h1 c2 (by show 23 ≤ cr; omega) ?_
  refine hK _ w (fun _ => False) (Turn.none fun _ hf => hf.elim) hb ?_
  rw [fact_3 hk, hr]
  exact ⟨⟨some ⟨gr, 0, none⟩, 23, cr, R2.take 23⟩, rfl, ⟨rfl, c2.taken 23 (by omega), fun _ p hp => by cases hp; exact .inl c3⟩⟩
/-- One row behind another. -/
theorem ts_append (k j i d e : Nat) (ys : List Int) (hd : depsF k = [j, i]) (hj : kindAt j = 2) (hdj : dstOf l j = some d) (hdi : dstOf l i = some e) (hk : kindAt k = 2) (hr : rowOf k = rowOf j ++ ys) (h0 : 0 < ys.length) (hlim : (rowOf j).length + ys.length ≤ 100000)
    (hsrc : ∀ S v w, factF w0.heap.size rv fv i S v w → Below w0.heap.size w0 w → ∃ a n c, v = .slice a n c ∧ Bs w a n c ys)
    (hop : ∀ o, l[k]? = some o → o.op = .call { callee := .builtin .append, args := #[.tmp d, .tmp e], argTypes := #[26, 26] } ∧ o.type = 26) : Step8 Q l w0 a0 rv fv k := by
  intro o a w S K ho hb hB htm hf _ hK
  have mj : j ∈ depsF k := by rw [hd]; simp
  have mi : i ∈ depsF k := by rw [hd]; simp
  obtain ⟨h1, h2⟩ := hf j mj d hdj
  have h3 := (hf i mi e hdi).1
  rw [fact_2 hj] at h1
  obtain ⟨g, c, hv, hown, hS⟩ := h1
  obtain ⟨sa, sn, sc, hu, hsb⟩ := hsrc (S i) _ w h3 hb
  have hyl := hsb.length
  obtain ⟨a', c', w', hr2, ho2, hg2, hat⟩ := run_append_bytes (P := Tryd.prog) Tryd.underlying26 Tryd.info_u8 26 w0.heap.size w (some ⟨g, 0, none⟩) (rowOf j).length c (rowOf j) hown sa sn sc ys hsb (by omega) hB
  obtain ⟨g', rfl, hg'1, hg'2⟩ := ho2.form (by omega)
  have hop' := hop o ho
  refine wp_append_run (.tmp d) (.tmp e) 26 hop'.1 _ _ _ hv hu (by rw [hop'.2]; exact hr2) ?_
  have hgw : g < w.heap.size := (h2 g hS).2
  refine hK _ w' (fun x => x = g') ⟨hg2.os, hg2.tape, hg2.output, hg2.size, fun x hx hn => hg2.block x hx (fun e => hn ⟨j, mj, by cases e; exact hS⟩), fun x hx => ?_⟩ (hb.grown hg2 hB (fun x hx => by cases hx; exact (h2 g hS).1)) ?_
  · subst hx
    refine ⟨hg'2, ?_⟩
    rcases hat with e | e
    · cases e
      exact .inl ⟨j, mj, hS⟩
    · cases e
      exact .inr (Nat.le_refl _)
  · rw [fact_2 hk, hr]
    exact OwnF.new (by rw [List.length_append, hyl]) ho2
theorem src_old (h : Tab0 l w0 a0 rv fv rb gr cr) (i : Nat) (hi : kindAt i = 0) : ∀ S v w, factF w0.heap.size rv fv i S v w → Below w0.heap.size w0 w → ∃ a n c, v = .slice a n c ∧ Bs w a n c R2 := fun S v w hf hb => by
  rw [fact_0 hi, h.hrv] at hf
  exact ⟨_, _, _, hf, (h.old hb).2.1⟩
theorem src_own (i : Nat) (ys : List Int) (hi : kindAt i = 2) (hr : rowOf i = ys) : ∀ S v w, factF w0.heap.size rv fv i S v w → Below w0.heap.size w0 w → ∃ a n c, v = .slice a n c ∧ Bs w a n c ys := fun S v w hf hb => by
  rw [fact_2 hi, hr] at hf
  obtain ⟨g, c, hv, hb⟩ := hf.bs
  exact ⟨_, _, _, hv, hb⟩
theorem ts_last (h43 : dstOf l 43 = some 54) (hop : ∀ o, l[44]? = some o → o.op = .assign (.tmp 54)) : Step8 Q l w0 a0 rv fv 44 := by
  intro o a w S K ho hb hB htm hf _ hK
  obtain ⟨h1, h2⟩ := hf 43 (by show 43 ∈ [43]; simp) 54 h43
  rw [fact_5 rfl] at h1
  refine op_assign 54 _ (hop o ho) rfl ?_
  refine hK _ w (S 43) (Turn.none fun g hg => ⟨(h2 g hg).2, .inl ⟨43, by show 43 ∈ [43]; simp, hg⟩⟩) hb ?_
  rw [fact_5 rfl]
  exact h1
theorem built_tab (x0 x1 x2 x3 x4 x5 x6 x7 x8 x9 x10 x11 x12 x13 : BV) : Tryd.prog.builtSlice 41 14 [(0, .agg #[x0.v, .bool true]), (1, .agg #[x1.v, .bool true]), (2, .agg #[x2.v, .bool false]), (3, .agg #[x3.v, .bool false]), (4, .agg #[x4.v, .bool false]), (5, .agg #[x5.v, .bool false]), (6, .agg #[x6.v, .bool false]), (7, .agg #[x7.v, .bool false]), (8, .agg #[x8.v, .bool false]), (9, .agg #[x9.v, .bool false]), (10, .agg #[x10.v, .bool false]), (11, .agg #[x11.v, .bool false]), (12, .agg #[x12.v, .bool false]), (13, .agg #[x13.v, .bool false])] = some #[x0.v, .bool true, x1.v, .bool true, x2.v, .bool false, x3.v, .bool false, x4.v, .bool false, x5.v, .bool false, x6.v, .bool false, x7.v, .bool false, x8.v, .bool false, x9.v, .bool false, x10.v, .bool false, x11.v, .bool false, x12.v, .bool false, x13.v, .bool false] := by kernel_rfl
set_option maxHeartbeats 2000000 in
theorem ts_table (hdst : ∀ j ∈ depsF 43, dstOf l j = some (11 + j)) (hop : ∀ o, l[43]? = some o → o.op = .buildSlice 43 14 #[(0, .tmp 12), (1, .tmp 18), (2, .tmp 24), (3, .tmp 27), (4, .tmp 28), (5, .tmp 30), (6, .tmp 32), (7, .tmp 35), (8, .tmp 38), (9, .tmp 41), (10, .tmp 44), (11, .tmp 47), (12, .tmp 50), (13, .tmp 53)]) : Step8 Q l w0 a0 rv fv 43 := by
  intro o a w S K ho hb hB htm hf _ hK
  have hd : depsF 43 = [1, 7, 13, 16, 17, 19, 21, 24, 27, 30, 33, 36, 39, 42] := rfl
  obtain ⟨h0, g0⟩ := hf 1 (by rw [hd]; simp) 12 (hdst 1 (by rw [hd]; simp))
  rw [fact_4 (by rfl)] at h0
  obtain ⟨x0, v0, s0⟩ := h0
  obtain ⟨h1, g1⟩ := hf 7 (by rw [hd]; simp) 18 (hdst 7 (by rw [hd]; simp))
  rw [fact_4 (by rfl)] at h1
  obtain ⟨x1, v1, s1⟩ := h1
  obtain ⟨h2, g2⟩ := hf 13 (by rw [hd]; simp) 24 (hdst 13 (by rw [hd]; simp))
  rw [fact_4 (by rfl)] at h2
  obtain ⟨x2, v2, s2⟩ := h2
  obtain ⟨h3, g3⟩ := hf 16 (by rw [hd]; simp) 27 (hdst 16 (by rw [hd]; simp))
  rw [fact_4 (by rfl)] at h3
  obtain ⟨x3, v3, s3⟩ := h3
  obtain ⟨h4, g4⟩ := hf 17 (by rw [hd]; simp) 28 (hdst 17 (by rw [hd]; simp))
  rw [fact_4 (by rfl)] at h4
  obtain ⟨x4, v4, s4⟩ := h4
  obtain ⟨h5, g5⟩ := hf 19 (by rw [hd]; simp) 30 (hdst 19 (by rw [hd]; simp))
  rw [fact_4 (by rfl)] at h5
  obtain ⟨x5, v5, s5⟩ := h5
  obtain ⟨h6, g6⟩ := hf 21 (by rw [hd]; simp) 32 (hdst 21 (by rw [hd]; simp))
  rw [fact_4 (by rfl)] at h6
  obtain ⟨x6, v6, s6⟩ := h6
  obtain ⟨h7, g7⟩ := hf 24 (by rw [hd]; simp) 35 (hdst 24 (by rw [hd]; simp))
  rw [fact_4 (by rfl)] at h7
  obtain ⟨x7, v7, s7⟩ := h7
  obtain ⟨h8, g8⟩ := hf 27 (by rw [hd]; simp) 38 (hdst 27 (by rw [hd]; simp))
  rw [fact_4 (by rfl)] at h8
  obtain ⟨x8, v8, s8⟩ := h8
  obtain ⟨h9, g9⟩ := hf 30 (by rw [hd]; simp) 41 (hdst 30 (by rw [hd]; simp))
  rw [fact_4 (by rfl)] at h9
  obtain ⟨x9, v9, s9⟩ := h9
  obtain ⟨h10, g10⟩ := hf 33 (by rw [hd]; simp) 44 (hdst 33 (by rw [hd]; simp))
  rw [fact_4 (by rfl)] at h10
  obtain ⟨x10, v10, s10⟩ := h10
  obtain ⟨h11, g11⟩ := hf 36 (by rw [hd]; simp) 47 (hdst 36 (by rw [hd]; simp))
  rw [fact_4 (by rfl)] at h11
  obtain ⟨x11, v11, s11⟩ := h11
  obtain ⟨h12, g12⟩ := hf 39 (by rw [hd]; simp) 50 (hdst 39 (by rw [hd]; simp))
  rw [fact_4 (by rfl)] at h12
  obtain ⟨x12, v12, s12⟩ := h12
  obtain ⟨h13, g13⟩ := hf 42 (by rw [hd]; simp) 53 (hdst 42 (by rw [hd]; simp))
  rw [fact_4 (by rfl)] at h13
  obtain ⟨x13, v13, s13⟩ := h13
  refine wp_buildSliceTo 43 41 14 _ (hop o ho) Tryd.underlying43 [(0, .agg #[x0.v, .bool true]), (1, .agg #[x1.v, .bool true]), (2, .agg #[x2.v, .bool false]), (3, .agg #[x3.v, .bool false]), (4, .agg #[x4.v, .bool false]), (5, .agg #[x5.v, .bool false]), (6, .agg #[x6.v, .bool false]), (7, .agg #[x7.v, .bool false]), (8, .agg #[x8.v, .bool false]), (9, .agg #[x9.v, .bool false]), (10, .agg #[x10.v, .bool false]), (11, .agg #[x11.v, .bool false]), (12, .agg #[x12.v, .bool false]), (13, .agg #[x13.v, .bool false])] ?_ _ (built_tab x0 x1 x2 x3 x4 x5 x6 x7 x8 x9 x10 x11 x12 x13) ?_
  · have e : ∀ i, a.eval (.tmp i) = a.tmps.getD i undef := fun _ => rfl
    simp only [List.map_toArray, List.map_cons, List.map_nil, e, v0, v1, v2, v3, v4, v5, v6, v7, v8, v9, v10, v11, v12, v13]
    rfl
  have b1 := below_alloc (Below.refl w.heap.size w) (.cells #[x0.v, .bool true, x1.v, .bool true, x2.v, .bool false, x3.v, .bool false, x4.v, .bool false, x5.v, .bool false, x6.v, .bool false, x7.v, .bool false, x8.v, .bool false, x9.v, .bool false, x10.v, .bool false, x11.v, .bool false, x12.v, .bool false, x13.v, .bool false] 41)
  have n1 := heap_alloc_new w (.cells #[x0.v, .bool true, x1.v, .bool true, x2.v, .bool false, x3.v, .bool false, x4.v, .bool false, x5.v, .bool false, x6.v, .bool false, x7.v, .bool false, x8.v, .bool false, x9.v, .bool false, x10.v, .bool false, x11.v, .bool false, x12.v, .bool false, x13.v, .bool false] 41)
  refine hK _ _ (fun g => g = w.heap.size ∨ ∃ j ∈ depsF 43, S j g) (Turn.of_below b1 fun g hg => ?_) (hb.trans (b1.mono hB)) ?_
  · rcases hg with rfl | ⟨j, hj, hg⟩
    · exact ⟨by rw [size_alloc]; omega, .inr (Nat.le_refl _)⟩
    · have h1 := ((hf j hj _ (hdst j hj)).2 g hg).2
      exact ⟨by rw [size_alloc]; omega, .inl ⟨j, hj, hg⟩⟩
  · rw [fact_5 rfl]
    have up : ∀ (x : BV) (zs : List Int) (j : Nat), j ∈ depsF 43 → SliX w0.heap.size (S j) x w zs → (∀ g, S j g → w0.heap.size ≤ g ∧ g < w.heap.size) → SliX w0.heap.size (fun g => g = w.heap.size ∨ ∃ j ∈ depsF 43, S j g) x (w.alloc (.cells #[x0.v, .bool true, x1.v, .bool true, x2.v, .bool false, x3.v, .bool false, x4.v, .bool false, x5.v, .bool false, x6.v, .bool false, x7.v, .bool false, x8.v, .bool false, x9.v, .bool false, x10.v, .bool false, x11.v, .bool false, x12.v, .bool false, x13.v, .bool false] 41)) zs := fun x zs j hj hs hg =>
      (hs.keep fun g hg' => b1.block g (hg'.elim (fun h => Nat.lt_of_lt_of_le h hB) (fun h => (hg g h).2))).sub fun g hgj => .inr ⟨j, hj, hgj⟩
    generalize w.alloc _ = W at *
    refine ⟨w.heap.size, fun i => [x0, x1, x2, x3, x4, x5, x6, x7, x8, x9, x10, x11, x12, x13].getD i BV.nil, rfl, fun i hi => ?_, fun i hi => ?_, .inl rfl⟩
    · intro j v hj
      rw [cell_of_row W w.heap.size _ _ _ _ n1]
      have : i = 0 ∨ i = 1 ∨ i = 2 ∨ i = 3 ∨ i = 4 ∨ i = 5 ∨ i = 6 ∨ i = 7 ∨ i = 8 ∨ i = 9 ∨ i = 10 ∨ i = 11 ∨ i = 12 ∨ i = 13 := by omega
      rcases j with _ | _ | j
      · rcases this with rfl | rfl | rfl | rfl | rfl | rfl | rfl | rfl | rfl | rfl | rfl | rfl | rfl | rfl <;> exact hj
      · rcases this with rfl | rfl | rfl | rfl | rfl | rfl | rfl | rfl | rfl | rfl | rfl | rfl | rfl | rfl <;> exact hj
      · cases hj
    · have : i = 0 ∨ i = 1 ∨ i = 2 ∨ i = 3 ∨ i = 4 ∨ i = 5 ∨ i = 6 ∨ i = 7 ∨ i = 8 ∨ i = 9 ∨ i = 10 ∨ i = 11 ∨ i = 12 ∨ i = 13 := by omega
      rcases this with rfl | rfl | rfl | rfl | rfl | rfl | rfl | rfl | rfl | rfl | rfl | rfl | rfl | rfl
      · exact up x0 _ 1 (by rw [hd]; simp) s0 g0
      · exact up x1 _ 7 (by rw [hd]; simp) s1 g1
      · exact up x2 _ 13 (by rw [hd]; simp) s2 g2
      · exact up x3 _ 16 (by rw [hd]; simp) s3 g3
      · exact up x4 _ 17 (by rw [hd]; simp) s4 g4
      · exact up x5 _ 19 (by rw [hd]; simp) s5 g5
      · exact up x6 _ 21 (by rw [hd]; simp) s6 g6
      · exact up x7 _ 24 (by rw [hd]; simp) s7 g7
      · exact up x8 _ 27 (by rw [hd]; simp) s8 g8
      · exact up x9 _ 30 (by rw [hd]; simp) s9 g9
      · exact up x10 _ 33 (by rw [hd]; simp) s10 g10
      · exact up x11 _ 36 (by rw [hd]; simp) s11 g11
      · exact up x12 _ 39 (by rw [hd]; simp) s12 g12
      · exact up x13 _ 42 (by rw [hd]; simp) s13 g13
end
#print axioms ts_table
#print axioms ts_append
end Go.Proofs.YtgkhaedlfmloeaaDoor
