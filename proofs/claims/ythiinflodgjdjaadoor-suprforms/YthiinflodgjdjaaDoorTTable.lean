
/- Operations of regions that draw their order, as a law on trees takes them: rows laid, marked, appended, cut, moved; tables of rows. (BTable, of stage 8, has some of these under the same names.) No conditions but those that each line states. -/
import Derived.Test.YthiinflodgjdjaaDoorTree
import Derived.Test.YthiinflodgjdjaaDoorXDisk
import Derived.Test.YthiinflodgjdjaaDoorXBase
import Derived.Test.YthiinflodgjdjaaDoorXLe
namespace Go.Proofs.YthiinflodgjdjaaDoor
open Go.RowKit
set_option maxRecDepth 20000

section
variable {o : Oper} {a : Act} {w : World} {K : Act → World → Prop} {Q : Exit → Act → World → Prop}
theorem op_move (x : Nat) (v : Value) (hop : o.op = .move (.tmp x)) (hv : a.eval (.tmp x) = v) (h : K (a.put o.dst v) w) : o.wp Tryd.prog a w K Q := by
  unfold Oper.wp execOp
  simp only [hop, hv]
  go_simp
  exact h
theorem op_assign (x : Nat) (v : Value) (hop : o.op = .assign (.tmp x)) (hv : a.eval (.tmp x) = v) (h : K (a.put o.dst v) w) : o.wp Tryd.prog a w K Q := by
  unfold Oper.wp execOp
  simp only [hop, hv]
  go_simp
  exact h
theorem op_cut (x : Nat) (y : BV) (n : Nat) (hop : o.op = .slice 37 (.tmp x) none (some (.const (.int .i64 (n : Int)))) none) (hv : a.eval (.tmp x) = y.v) (hb : Bs w y.a y.len y.cap y.zs) (hn : n ≤ y.cap) (h : K (a.put o.dst (.slice y.a n y.cap)) w) : o.wp Tryd.prog a w K Q := by
  obtain ⟨ya, yl, yc, yz⟩ := y
  have hr := run_cut_to (P := Tryd.prog) Tryd.underlying37 Tryd.size_u8 hb .i64 (n : Int) n rfl hn w
  simp only [BV.v] at hv h hr hn
  unfold Oper.wp execOp
  simp only [hop, hv]
  go_simp
  exact h
theorem op_conv (x : Nat) (v : Value) (w' : World) (hop : o.op = .convert 37 37 (.tmp x)) (hv : a.eval (.tmp x) = v) (hr : (convert 37 37 v).run Tryd.prog w = .ok v w') (h : K (a.put o.dst v) w') : o.wp Tryd.prog a w K Q := by
  unfold Oper.wp execOp
  simp only [hop, hv, Sem.run_bind, hr, Result.andThen_ok]
  exact h
theorem op_rput (x : Nat) (u : Value) (post : Ending → World → Prop) (hop : o.op = .call { callee := .value (.func 14), args := #[.tmp x, .const (.int .i64 8)], argTypes := #[30, 3] }) (hv : a.eval (.tmp x) = u) (hc : Calls Tryd.prog 14 #[u, .int .i64 8] w post)
    (h : ∀ e w', post e w' → ∃ v, e = .returned v ∧ K (a.put o.dst v) w') : o.wp Tryd.prog a w K Q := by
  have hv' : a.tmps[x]?.getD undef = u := by rw [← hv]; simp [Act.eval]
  have e1 : ∀ args w, (callFunc 14 args).run Tryd.prog w = .ok (.enter 14 args) w := enters_of Tryd.func14 (by kernel_rfl) rfl
  unfold Oper.wp execOp
  simp only [hop, resolve, Act.eval]
  simp [hv', go_sem, e1]
  refine hc.mono ?_
  intro e w' hp
  obtain ⟨v, rfl, hk⟩ := h e w' hp
  exact hk
end

/-! ### A row that was marked -/
theorem run_conv_at {E : TypeId} {w : World} {g : Nat} {zs : List Int} (n c : Nat) (h : OwnB E w g zs) :
    (convert 37 37 (.slice (some ⟨g, 0, none⟩) n c)).run Tryd.prog w = .ok (.slice (some ⟨g, 0, none⟩) n c) (w.freeze ⟨g, zs.length, none⟩ 1) := by
  have hsh : w.shape? g = some (E, zs.length) := by
    unfold World.shape?
    rw [h]
    simp
  simp [convert, run_underlying Tryd.underlying37, run_underlying Tryd.underlying5, markStringish, hsh]
theorem freeze_size (w : World) (p : Addr) : (w.freeze p 1).heap.size = w.heap.size := by
  unfold World.freeze
  rw [if_neg (by decide)]
  simp
theorem freeze_other (w : World) (p : Addr) (k : Nat) (h : k ≠ p.block) : (w.freeze p 1).heap[k]? = w.heap[k]? := by
  unfold World.freeze
  rw [if_neg (by decide)]
  simp [Array.getElem?_modify, Ne.symm h]
theorem freeze_bs {E : TypeId} {w : World} {g : Nat} {zs : List Int} (h : OwnB E w g zs) (hz : IsBytes zs) (hl : zs.length ≤ 9223372036854775807) : Bs (w.freeze ⟨g, zs.length, none⟩ 1) (some ⟨g, 0, none⟩) zs.length zs.length zs := by
  have hh : ∃ f, (w.freeze ⟨g, zs.length, none⟩ 1).heap[g]? = some (.cells (zs.map (Value.int .u8)).toArray E f) := by
    unfold OwnB at h
    unfold World.freeze
    rw [if_neg (by decide)]
    simp [Array.getElem?_modify, h]
  obtain ⟨f, hf⟩ := hh
  refine ⟨rfl, Nat.le_refl _, hl, hz, .inr ⟨g, 0, rfl, fun i hi => ?_⟩⟩
  unfold World.cell?
  rw [hf]
  simp [hi, List.getD]

/-! ### What each value is -/
section
variable {B : Nat} {S S' : Blocks} {w w' : World} {v : Value} {zs : List Int}
/-- A row that is the region's own. -/
def OwnF (B : Nat) (S : Blocks) (v : Value) (w : World) (zs : List Int) : Prop := ∃ g c, v = .slice (some ⟨g, 0, none⟩) zs.length c ∧ OwnS 5 B w (some ⟨g, 0, none⟩) zs.length c zs ∧ S g
/-- A row that can be read: old, or the region's own. -/
structure SliX (B : Nat) (S : Blocks) (x : BV) (w : World) (zs : List Int) : Prop where
  zs : x.zs = zs
  bs : Bs w x.a x.len x.cap x.zs
  mem : 0 < x.len → ∀ p, x.a = some p → p.block < B ∨ S p.block
abbrev FactT := Blocks → Value → World → Prop
def FVal (v0 : Value) : FactT := fun _ v _ => v = v0
def FOwn (B : Nat) (zs : List Int) : FactT := fun S v w => OwnF B S v w zs
def FNew (zs : List Int) : FactT := fun S v w => ∃ g, v = .slice (some ⟨g, 0, none⟩) zs.length zs.length ∧ OwnB 5 w g zs ∧ S g
def FLit (zs : List Int) : FactT := fun S v w => ∃ g, v = .slice (some ⟨g, 0, none⟩) zs.length zs.length ∧ Bs w (some ⟨g, 0, none⟩) zs.length zs.length zs ∧ S g
def FSli (B : Nat) (zs : List Int) : FactT := fun S v w => ∃ x : BV, v = x.v ∧ SliX B S x w zs
def FTab (B n : Nat) (row : Nat → List Int) : FactT := fun S v w => ∃ (g : Nat) (xs : Nat → BV), v = .slice (some ⟨g, 0, none⟩) n n ∧ (∀ i, i < n → w.cell? ⟨g, i, none⟩ = some (xs i).v) ∧ (∀ i, i < n → SliX B S (xs i) w (row i)) ∧ S g
/-- It stays while what it is made of stays. -/
def Stays (B : Nat) (f : FactT) : Prop := ∀ S v w w', f S v w → (∀ g, g < B ∨ S g → w'.heap[g]? = w.heap[g]?) → f S v w'
theorem stays_val (v0 : Value) : Stays B (FVal v0) := fun _ _ _ _ h _ => h
theorem stays_own (zs : List Int) : Stays B (FOwn B zs) := fun S v w w' h hk => by
  obtain ⟨g, c, rfl, ⟨h0, hl, h1, h2⟩, hS⟩ := h
  refine ⟨g, c, rfl, ⟨h0, hl, h1, ?_⟩, hS⟩
  rcases h2 with h3 | ⟨g', c', cur, h3, h4, h5, h6⟩
  · exact .inl h3
  · refine .inr ⟨g', c', cur, h3, h4, ?_, h6⟩
    simp only [Value.slice.injEq, Option.some.injEq, Addr.mk.injEq, true_and, and_true] at h3
    obtain ⟨rfl, _⟩ := h3
    rw [hk g (.inr hS)]
    exact h5
theorem stays_new (zs : List Int) : Stays B (FNew zs) := fun S v w w' h hk => by
  obtain ⟨g, rfl, hO, hS⟩ := h
  refine ⟨g, rfl, ?_, hS⟩
  unfold OwnB at hO ⊢
  rw [hk g (.inr hS)]
  exact hO
theorem stays_lit (zs : List Int) : Stays B (FLit zs) := fun S v w w' h hk => by
  obtain ⟨g, rfl, hb, hS⟩ := h
  exact ⟨g, rfl, hb.keepAt (fun _ p hp => by cases hp; exact hk g (.inr hS)), hS⟩
theorem SliX.keep {x : BV} (h : SliX B S x w zs) (hk : ∀ g, g < B ∨ S g → w'.heap[g]? = w.heap[g]?) : SliX B S x w' zs :=
  ⟨h.zs, h.bs.keepAt (fun h0 p hp => hk _ (h.mem h0 p hp)), h.mem⟩
theorem SliX.sub {x : BV} (h : SliX B S x w zs) (hS : ∀ g, S g → S' g) : SliX B S' x w zs := ⟨h.zs, h.bs, fun h0 p hp => (h.mem h0 p hp).imp id (hS _)⟩
theorem stays_sli (zs : List Int) : Stays B (FSli B zs) := fun S v w w' h hk => by
  obtain ⟨x, rfl, hx⟩ := h
  exact ⟨x, rfl, hx.keep hk⟩
theorem stays_tab (n : Nat) (row : Nat → List Int) : Stays B (FTab B n row) := fun S v w w' h hk => by
  obtain ⟨g, xs, rfl, hr, hx, hS⟩ := h
  refine ⟨g, xs, rfl, fun i hi => ?_, fun i hi => (hx i hi).keep hk, hS⟩
  rw [World.cell?_of_block (w := w) (a := ⟨g, i, none⟩) (hk g (.inr hS))]
  exact hr i hi
/-- Each of these is a row that can be read. -/
theorem FOwn.sli (h : FOwn B zs S v w) : FSli B zs S v w := by
  obtain ⟨g, c, rfl, ho, hS⟩ := h
  exact ⟨⟨some ⟨g, 0, none⟩, zs.length, c, zs⟩, rfl, ⟨rfl, ho.bs, fun _ p hp => by cases hp; exact .inr hS⟩⟩
theorem FLit.sli (h : FLit zs S v w) : FSli B zs S v w := by
  obtain ⟨g, rfl, hb, hS⟩ := h
  exact ⟨⟨some ⟨g, 0, none⟩, zs.length, zs.length, zs⟩, rfl, ⟨rfl, hb, fun _ p hp => by cases hp; exact .inr hS⟩⟩
end
theorem stays_all {B : Nat} {l : List FactT} {d : FactT} (h : ∀ f ∈ l, Stays B f) (hd : Stays B d) (k : Nat) : Stays B (l.getD k d) := by
  rw [List.getD]
  cases hk : l[k]? with
  | none => exact hd
  | some f => exact h f (List.mem_of_getElem? hk)
theorem eval_of {a a1 : Act} {i : Nat} {v : Value} (h : a.tmps[i]? = a1.tmps[i]?) (h1 : a1.tmps[i]? = some v) : a.eval (.tmp i) = v := by
  rw [h1] at h
  show a.tmps.getD i undef = v
  simp [h]
/-- What is old is handed on: nothing is turned. -/
theorem Turn.none {X Y : Blocks} {w : World} (hy : ∀ k, Y k → k < w.heap.size ∧ (X k ∨ w.heap.size ≤ k)) : Turn X w Y w := ⟨rfl, rfl, rfl, Nat.le_refl _, fun _ _ _ => rfl, hy⟩
/-- A new row. -/
theorem Turn.fresh {X : Blocks} {w w' : World} {g : Nat} (hb : Below w.heap.size w w') (h1 : w.heap.size ≤ g) (h2 : g < w'.heap.size) : Turn X w (fun k => k = g) w' :=
  Turn.of_below hb fun k hk => by subst hk; exact ⟨h2, .inr h1⟩
theorem FOwn.new {w' : World} {B g n c : Nat} {zs : List Int} (hn : zs.length = n) (ho : OwnS 5 B w' (some ⟨g, 0, none⟩) n c zs) : FOwn B zs (fun k => k = g) (.slice (some ⟨g, 0, none⟩) n c) w' := by
  subst hn
  exact ⟨g, c, rfl, ho, rfl⟩

/-! ### What each operation makes of what it was handed -/
section
variable {Q : Exit → Act → World → Prop} {l : List Oper} {w0 : World} {a0 : Act} {deps : Nat → List Nat} {Fact : Nat → FactT}
abbrev StepT (Q : Exit → Act → World → Prop) (l : List Oper) (deps : Nat → List Nat) (w0 : World) (a0 : Act) (Fact : Nat → FactT) (k : Nat) : Prop := TreeStep Tryd.prog Q l deps w0.heap.size w0 a0 Fact k
theorem st_lit (k n : Nat) (zs : List Int) (ps : List (Nat × Value)) (parts : Array (Nat × Operand)) (hn : zs.length = n) (hF : Fact k = FNew zs)
    (hop : ∀ o, l[k]? = some o → o.op = .buildSlice 37 n parts) (hps : ∀ a : Act, (parts.map fun (i, x) => (i, a.eval x)).toList = ps) (hbu : Tryd.prog.builtSlice 5 n ps = some (zs.map (Value.int .u8)).toArray) : StepT Q l deps w0 a0 Fact k := by
  intro o a w S K ho hb hB htm _ _ hK
  refine wp_buildSliceTo 37 5 n parts (hop o ho) Tryd.underlying37 ps (hps a) _ hbu ?_
  have b1 := below_alloc (Below.refl w.heap.size w) (.cells (zs.map (Value.int .u8)).toArray 5)
  have ho1 : OwnB 5 (w.alloc (.cells (zs.map (Value.int .u8)).toArray 5)) w.heap.size zs := heap_alloc_new w _
  refine hK _ _ (fun g => g = w.heap.size) (Turn.fresh b1 (Nat.le_refl _) ho1.lt) (hb.trans (b1.mono hB)) ?_
  rw [hF]
  subst hn
  exact ⟨_, rfl, ho1, rfl⟩
theorem st_make (k n : Nat) (hn : n ≤ 1000000) (x y : Operand) (hF : Fact k = FOwn w0.heap.size (zL n)) (hop : ∀ o, l[k]? = some o → o.op = .makeSlice 37 x y) (hx : ∀ a : Act, a.eval x = .int .i64 (n : Int)) (hy : ∀ a : Act, a.eval y = .int .i64 (n : Int)) : StepT Q l deps w0 a0 Fact k := by
  intro o a w S K ho hb hB htm _ _ hK
  refine wp_make_bytes n (by omega) x y (hop o ho) (hx a) (hy a) ?_
  have b1 := below_alloc (Below.refl w.heap.size w) (.cells (madeCells #[Value.int .u8 0] n) 5)
  have ho1 := made_zB w n 5
  refine hK _ _ (fun g => g = w.heap.size) (Turn.fresh b1 (Nat.le_refl _) ho1.lt) (hb.trans (b1.mono hB)) ?_
  rw [hF]
  exact FOwn.new (zL_length n) (ho1.owns (zL_bytes _) (zL_length _) (by omega) hB)
theorem st_move (k x : Nat) (v0 : Value) (hx : ∀ j, j < l.length → dstOf l j ≠ some x) (h0 : a0.tmps[x]? = some v0) (hF : Fact k = FVal v0) (hop : ∀ o, l[k]? = some o → o.op = .move (.tmp x)) : StepT Q l deps w0 a0 Fact k := by
  intro o a w S K ho hb hB htm _ _ hK
  refine op_move x v0 (hop o ho) (eval_of (htm x hx) h0) ?_
  refine hK v0 w (fun _ => False) (Turn.none fun _ hf => hf.elim) hb ?_
  rw [hF]
  rfl
theorem st_conv (k j d : Nat) (zs : List Int) (hz : IsBytes zs) (hl : zs.length ≤ 1000000) (hd : deps k = [j]) (hdj : dstOf l j = some d) (hj : Fact j = FNew zs) (hF : Fact k = FLit zs) (hop : ∀ o, l[k]? = some o → o.op = .convert 37 37 (.tmp d)) : StepT Q l deps w0 a0 Fact k := by
  intro o a w S K ho hb hB htm hf _ hK
  have mj : j ∈ deps k := by rw [hd]; exact List.mem_singleton.2 rfl
  obtain ⟨h1, h2⟩ := hf j mj d hdj
  rw [hj] at h1
  obtain ⟨g, hv, hO, hS⟩ := h1
  have hg := h2 g hS
  refine op_conv d _ _ (hop o ho) hv (run_conv_at zs.length zs.length hO) ?_
  refine hK _ _ (fun x => x = g) ⟨rfl, rfl, rfl, Nat.le_of_eq (freeze_size _ _).symm, fun x hx hn => freeze_other _ _ x (fun e => hn ⟨j, mj, by cases e; exact hS⟩), fun x hx => ?_⟩ ?_ ?_
  · subst hx
    exact ⟨by rw [freeze_size]; exact hg.2, .inl ⟨j, mj, hS⟩⟩
  · refine hb.trans ⟨rfl, rfl, rfl, Nat.le_of_eq (freeze_size _ _).symm, fun x hx => freeze_other _ _ x (fun e => ?_)⟩
    have h3 : x = g := e
    omega
  · rw [hF]
    exact ⟨g, rfl, freeze_bs hO hz (by omega), rfl⟩
theorem st_cut (k j d n : Nat) (gn c m : Nat) (zs : List Int) (hd : deps k = [j]) (hdj : dstOf l j = some d) (hj : Fact j = FVal (.slice (some ⟨gn, 0, none⟩) m c)) (hbs : Bs w0 (some ⟨gn, 0, none⟩) m c zs) (hgn : gn < w0.heap.size) (hn : n ≤ m) (hF : Fact k = FSli w0.heap.size (zs.take n))
    (hop : ∀ o, l[k]? = some o → o.op = .slice 37 (.tmp d) none (some (.const (.int .i64 (n : Int)))) none) : StepT Q l deps w0 a0 Fact k := by
  intro o a w S K ho hb hB htm hf _ hK
  have mj : j ∈ deps k := by rw [hd]; exact List.mem_singleton.2 rfl
  have h1 := (hf j mj d hdj).1
  rw [hj] at h1
  have hbw := hbs.below hb
  have hcl := hbs.le_cap
  refine op_cut d ⟨some ⟨gn, 0, none⟩, m, c, zs⟩ n (hop o ho) h1 hbw (Nat.le_trans hn hcl) ?_
  refine hK _ w (fun _ => False) (Turn.none fun _ hf => hf.elim) hb ?_
  rw [hF]
  exact ⟨⟨some ⟨gn, 0, none⟩, n, c, zs.take n⟩, rfl, ⟨rfl, hbw.taken n hn, fun _ p hp => by cases hp; exact .inl hgn⟩⟩
theorem st_rput (k j d : Nat) (n : Int) (hn : 0 ≤ n ∧ n < 18446744073709551616) (hd : deps k = [j]) (hdj : dstOf l j = some d) (hj : Fact j = FVal (.int .u64 n)) (hF : Fact k = FOwn w0.heap.size (putL n 8))
    (hop : ∀ o, l[k]? = some o → o.op = .call { callee := .value (.func 14), args := #[.tmp d, .const (.int .i64 8)], argTypes := #[30, 3] }) : StepT Q l deps w0 a0 Fact k := by
  intro o a w S K ho hb hB htm hf _ hK
  have mj : j ∈ deps k := by rw [hd]; exact List.mem_singleton.2 rfl
  have h1 := (hf j mj d hdj).1
  rw [hj] at h1
  refine op_rput d _ _ (hop o ho) h1 (rput_ok n 8 w hn (by omega)) ?_
  rintro e w' ⟨p, c, rfl, hO, b1⟩
  obtain ⟨g, rfl, hg1, hg2⟩ := hO.form (by omega)
  refine ⟨_, rfl, hK _ w' (fun x => x = g) (Turn.fresh b1 hg1 hg2) (hb.trans (b1.mono hB)) ?_⟩
  rw [hF]
  exact FOwn.new (length_putL _ _) (hO.mono hB)
/-- What a source of an append is. -/
def SrcOf (w0 : World) (f : FactT) (ys : List Int) : Prop := ∀ S v w, f S v w → Below w0.heap.size w0 w → ∃ a n c, v = .slice a n c ∧ Bs w a n c ys
theorem src_val {a : Option Addr} {n c : Nat} {ys : List Int} (hb : Bs w0 a n c ys) : SrcOf w0 (FVal (.slice a n c)) ys := fun _ _ _ h b => ⟨_, _, _, h, hb.below b⟩
theorem src_own {ys : List Int} : SrcOf w0 (FOwn w0.heap.size ys) ys := fun _ _ _ h _ => by
  obtain ⟨g, c, rfl, ho, _⟩ := h
  exact ⟨_, _, _, rfl, ho.bs⟩
theorem src_new {ys : List Int} (hz : IsBytes ys) (hl : ys.length ≤ 1000000) : SrcOf w0 (FNew ys) ys := fun _ _ _ h _ => by
  obtain ⟨g, rfl, ho, _⟩ := h
  exact ⟨_, _, _, rfl, OwnB.bs ho hz _ rfl (by omega)⟩
theorem src_sli {ys : List Int} : SrcOf w0 (FSli w0.heap.size ys) ys := fun _ _ _ h _ => by
  obtain ⟨x, rfl, hx⟩ := h
  have hb := hx.bs
  rw [hx.zs] at hb
  exact ⟨_, _, _, rfl, hb⟩
/-- Behind a marked row there is no room. -/
theorem st_append_lit (k j i d e : Nat) (zs ys : List Int) (hd : deps k = [j, i]) (hdj : dstOf l j = some d) (hdi : dstOf l i = some e) (hj : Fact j = FLit zs) (hF : Fact k = FOwn w0.heap.size (zs ++ ys)) (h0 : 0 < ys.length) (hlim : zs.length + ys.length ≤ 100000)
    (hsrc : SrcOf w0 (Fact i) ys) (hop : ∀ o, l[k]? = some o → o.op = .call { callee := .builtin .append, args := #[.tmp d, .tmp e], argTypes := #[37, 37] } ∧ o.type = 37) : StepT Q l deps w0 a0 Fact k := by
  intro o a w S K ho hb hB htm hf _ hK
  have mj : j ∈ deps k := by rw [hd]; simp
  have mi : i ∈ deps k := by rw [hd]; simp
  obtain ⟨h1, h2⟩ := hf j mj d hdj
  have h3 := (hf i mi e hdi).1
  rw [hj] at h1
  obtain ⟨g, hv, hbs, hS⟩ := h1
  obtain ⟨sa, sn, sc, hu, hsb⟩ := hsrc (S i) _ w h3 hb
  have hyl := hsb.length
  obtain ⟨c', w', hr, ho2, b2⟩ := run_append_new (P := Tryd.prog) Tryd.underlying37 Tryd.info_u8 37 w (some ⟨g, 0, none⟩) zs.length zs.length zs hbs sa sn sc ys hsb (fun h => by cases h) (by omega) (by omega)
  have hop' := hop o ho
  refine wp_append_run (.tmp d) (.tmp e) 37 hop'.1 _ _ _ hv hu (by rw [hop'.2]; exact hr) ?_
  obtain ⟨g', e', hg1, hg2⟩ := ho2.form (by omega)
  cases e'
  refine hK _ w' (fun x => x = w.heap.size) (Turn.fresh b2 (Nat.le_refl _) hg2) (hb.trans (b2.mono hB)) ?_
  rw [hF]
  exact FOwn.new (by rw [List.length_append, hyl]) (ho2.mono hB)
/-- Behind a row of the region's own. -/
theorem st_append_own (k j i d e : Nat) (zs ys : List Int) (hd : deps k = [j, i]) (hdj : dstOf l j = some d) (hdi : dstOf l i = some e) (hj : Fact j = FOwn w0.heap.size zs) (hF : Fact k = FOwn w0.heap.size (zs ++ ys)) (h0 : 0 < ys.length) (hlim : zs.length + ys.length ≤ 100000)
    (hsrc : SrcOf w0 (Fact i) ys) (hop : ∀ o, l[k]? = some o → o.op = .call { callee := .builtin .append, args := #[.tmp d, .tmp e], argTypes := #[37, 37] } ∧ o.type = 37) : StepT Q l deps w0 a0 Fact k := by
  intro o a w S K ho hb hB htm hf _ hK
  have mj : j ∈ deps k := by rw [hd]; simp
  have mi : i ∈ deps k := by rw [hd]; simp
  obtain ⟨h1, h2⟩ := hf j mj d hdj
  have h3 := (hf i mi e hdi).1
  rw [hj] at h1
  obtain ⟨g, c, hv, hown, hS⟩ := h1
  obtain ⟨sa, sn, sc, hu, hsb⟩ := hsrc (S i) _ w h3 hb
  have hyl := hsb.length
  obtain ⟨a', c', w', hr2, ho2, hg2, hat⟩ := run_append_bytes (P := Tryd.prog) Tryd.underlying37 Tryd.info_u8 37 w0.heap.size w (some ⟨g, 0, none⟩) zs.length c zs hown sa sn sc ys hsb (by omega) hB
  obtain ⟨g', rfl, hg'1, hg'2⟩ := ho2.form (by omega)
  have hop' := hop o ho
  refine wp_append_run (.tmp d) (.tmp e) 37 hop'.1 _ _ _ hv hu (by rw [hop'.2]; exact hr2) ?_
  have hgw : g < w.heap.size := (h2 g hS).2
  refine hK _ w' (fun x => x = g') ⟨hg2.os, hg2.tape, hg2.output, hg2.size, fun x hx hn => hg2.block x hx (fun e => hn ⟨j, mj, by cases e; exact hS⟩), fun x hx => ?_⟩ (hb.grown hg2 hB (fun x hx => by cases hx; exact (h2 g hS).1)) ?_
  · subst hx
    refine ⟨hg'2, ?_⟩
    rcases hat with e | e
    · cases e
      exact .inl ⟨j, mj, hS⟩
    · cases e
      exact .inr (Nat.le_refl _)
  · rw [hF]
    exact FOwn.new (by rw [List.length_append, hyl]) ho2
/-- The root is handed on. -/
theorem st_root (k j d : Nat) (hd : deps k = [j]) (hdj : dstOf l j = some d) (hF : Fact k = Fact j) (hop : ∀ o, l[k]? = some o → o.op = .assign (.tmp d)) : StepT Q l deps w0 a0 Fact k := by
  intro o a w S K ho hb hB htm hf _ hK
  have mj : j ∈ deps k := by rw [hd]; exact List.mem_singleton.2 rfl
  obtain ⟨h1, h2⟩ := hf j mj d hdj
  refine op_assign d _ (hop o ho) rfl ?_
  refine hK _ w (S j) (Turn.none fun g hg => ⟨(h2 g hg).2, .inl ⟨j, mj, hg⟩⟩) hb ?_
  rw [hF]
  exact h1
end
#print axioms st_append_own
end Go.Proofs.YthiinflodgjdjaaDoor
