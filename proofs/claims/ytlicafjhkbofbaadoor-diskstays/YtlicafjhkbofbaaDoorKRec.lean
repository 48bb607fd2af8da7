/- What a call of (*Disk).record does: for every device in memory; what is not the device's own is as it was. -/
import Derived.Test.YtlicafjhkbofbaaDoorKCode
namespace Go.Proofs.YtlicafjhkbofbaaDoor
open Go.RowKit

/-- The cells of an event. -/
def evL (k a : Int) (head : List Int) (v : Value) : List Value := .int .i64 k :: .int .i64 a :: (head.map (Value.int .u8) ++ [v])
theorem Ev.cells_ev (e : Ev) : e.cells = evL e.kind e.at_ (fitL 12 e.head) e.body.v := rfl
theorem evL_length (k a : Int) (head : List Int) (v : Value) (h : head.length = 12) : (evL k a head v).length = 15 := by simp [evL, h]
theorem evL_one (k a : Int) (head : List Int) (x : BV) : ∀ u ∈ evL k a head x.v, u.oneCell' = true := by
  intro u hu
  simp only [evL, List.mem_cons, List.mem_append, List.mem_map, List.not_mem_nil, or_false] at hu
  rcases hu with rfl | rfl | ⟨j, _, rfl⟩ | rfl <;> rfl
theorem evL_splice (k a : Int) (zs : List Int) (v : Value) : splice (evL k a (zL 12) v) 2 ((zs.take (min zs.length 12)).map (Value.int .u8)) = evL k a (fitL 12 zs) v := by
  have e := fitL_splice 12 zs
  unfold splice at e ⊢
  unfold evL
  rw [List.take_zero, List.nil_append] at e
  rw [← e]
  have hl : (zs.take (min zs.length 12)).length ≤ 12 := by rw [List.length_take]; omega
  generalize zs.take (min zs.length 12) = ys at *
  simp only [List.take_succ_cons, List.take_zero, List.cons_append, List.nil_append, List.length_map, List.map_append]
  rw [show 2 + ys.length = ys.length + 1 + 1 by omega, List.drop_succ_cons, List.drop_succ_cons, List.append_assoc, List.drop_append_of_le_length (by simp [zL_length]; omega), List.map_drop, Nat.zero_add]

/-- 'copy(dst, src)' of bytes into a part of a row of whatever cells. -/
theorem run_copy_into {P : Program} {T E E' : TypeId} (hT : P.underlying T = some (.slice E)) (hsz : (P.info? E).map (·.size) = some 1) (ty : TypeId) (w : World) (sp : Option Addr) (dLen dCap sLen sCap g off n : Nat) (cur : List Value) (zs : List Int)
    (hg : w.heap[g]? = some (.cells cur.toArray E' (0, 0))) (hn : min sLen dLen = n) (hs : Bs w sp sLen sCap zs) (hfit : off + n ≤ cur.length) :
    ∃ w2, (Builtin.copy_ #[T, T] ty #[.slice (some ⟨g, off, none⟩) dLen dCap, .slice sp sLen sCap]).run P w = .ok (goInt n) w2 ∧ w2.heap[g]? = some (.cells (splice cur off ((zs.take n).map (Value.int .u8))).toArray E' (0, 0)) ∧ OnlyAt g w w2 := by
  have hzl := hs.length
  by_cases h0 : n = 0
  · subst h0
    refine ⟨w, run_copy_none (P := P) w T T ty E _ sp dLen dCap sLen sCap hT hsz hn, ?_, ⟨rfl, rfl, rfl, rfl, fun _ _ => rfl⟩⟩
    simpa [splice] using hg
  · have hsl := hs.le_cap
    rcases hs.place with h | ⟨b, boff, rfl, hc⟩
    · omega
    have hlen : (zs.take n).length = n := by simp; omega
    have hr := run_copy_row (P := P) w T T ty E g off dLen dCap ⟨b, boff, none⟩ sLen sCap cur.toArray E' ((zs.take n).map (Value.int .u8)) hT hsz hg (by simp only [List.length_map, hlen]; exact hn.symm)
      (fun j v hj => by
        have hjl : j < n := by
          rcases Nat.lt_or_ge j n with h | h
          · exact h
          · rw [List.getElem?_eq_none (by simp; omega)] at hj; cases hj
        rw [addr_add, hc j (by omega), ← hj]
        have : j < zs.length := by omega
        simp [List.getD, List.getElem?_eq_getElem this, hjl])
      (by simp only [List.length_map, hlen, List.size_toArray]; exact hfit) (by intro v hv; obtain ⟨x, _, rfl⟩ := List.mem_map.1 hv; rfl)
    refine ⟨w.setRow g (splice cur off ((zs.take n).map (Value.int .u8))).toArray, ?_, setRow_heap w g _ _ E' _ hg, OnlyAt.setRow g w _⟩
    rw [hr]
    simp only [List.length_map, hlen, splice, List.append_assoc]

theorem run_arr_at {P : Program} {ty E : TypeId} {n : Nat} (hu : P.underlying ty = some (.array n E)) (hsz : (P.info? E).map (·.size) = some 1) (g o : Nat) (w : World) :
    (Instr.sliceAt ty (.pointer (some ⟨g, o, none⟩)) none none none).run P w = .ok (.slice (some ⟨g, o, none⟩) n n) w := by
  obtain ⟨info, hq, hs⟩ := Option.map_eq_some_iff.1 hsz
  have e1 : P.elem ty = E := by simp [Program.elem, hu]
  have e2 : P.arrayLen ty = n := by simp [Program.arrayLen, hu]
  rw [run_sliceAt_array_all w ty ⟨g, o, none⟩ (by rw [e1, e2]; exact hu), e1, e2]
  simp [sizeOf, typeInfo, hq, hs, slicedAt, addr_add]

theorem wp_buildSliceTo {P : Program} {o : Oper} {a : Act} {w : World} {K : Act → World → Prop} {Q : Exit → Act → World → Prop} (t e : TypeId) (len : Nat) (parts : Array (Nat × Operand)) (ho : o.op = .buildSlice t len parts)
    (hu : P.underlying t = some (.slice e)) (ps : List (Nat × Value)) (hps : (parts.map fun (i, x) => (i, a.eval x)).toList = ps) (cells : Array Value) (hf : P.builtSlice e len ps = some cells)
    (h : K (a.put o.dst (.slice (some ⟨w.heap.size, 0, none⟩) len len)) (w.alloc (.cells cells e))) : o.wp P a w K Q := by
  subst hps
  unfold Program.builtSlice at hf
  cases hie : P.info? e with
  | none => simp [hie] at hf
  | some ie =>
    simp only [hie] at hf
    cases hz : ie.zero with
    | none => simp [hz] at hf
    | some z =>
      simp only [hz] at hf
      by_cases hc : len * ie.size > 2 ^ 24 ∨ len * ie.size = 0
      · simp [hc] at hf
      · rw [if_neg hc] at hf
        exact wp_buildSlice t e len parts ho cells ie z hu hie hz (fun h' => hc (Or.inl h')) (fun h' => hc (Or.inr h')) hf h
theorem wpList_buildSliceAt {P : Program} {ops : Array Oper} {rest : List Oper} {o : Oper} {a : Act} {w : World} {Q : Exit → Act → World → Prop} (hw : Region.wanted o (yielded ops a.tmps) = true) (t e : TypeId) (len : Nat) (parts : Array (Nat × Operand)) (ho : o.op = .buildSlice t len parts)
    (hu : P.underlying t = some (.slice e)) (ps : List (Nat × Value)) (hps : (parts.map fun (i, x) => (i, a.eval x)).toList = ps) (cells : Array Value) (hf : P.builtSlice e len ps = some cells) (N : Nat) (hN : w.heap.size = N)
    (h : wpList P ops Q rest (a.put o.dst (.slice (some ⟨N, 0, none⟩) len len)) (w.alloc (.cells cells e))) : wpList P ops Q (o :: rest) a w := by
  subst hN
  refine wpList_step fun K hK => ?_
  rw [if_pos hw]
  exact wp_buildSliceTo t e len parts ho hu ps hps cells hf (hK _ _ h)

/-- A store of a whole struct into its own block. -/
theorem wpList_putS {P : Program} {Q : Exit → Act → World → Prop} {ops : Array Oper} {rest : List Oper} {o : Oper} {a : Act} {w : World} {ty : TypeId} {n : Nat} (hi : (P.info? ty).map (·.size) = some n) (hw : Region.wanted o (yielded ops a.tmps) = true) (x y : Operand) (hop : o.op = .store ty x y) (g : Nat) (cs : Array Value) (hx : a.eval x = .pointer (some ⟨g, 0, none⟩)) (hy : a.eval y = .agg cs)
    (old : Array Value) (hg : w.heap[g]? = some (.cells old ty (0, 0))) (hn : cs.size = n) (ho : old.size = n) (h1 : cs.all (·.oneCell') = true) (h : wpList P ops Q rest (a.put o.dst undef) (w.setRow g cs)) : wpList P ops Q (o :: rest) a w := by
  refine wpList_step fun K hK => ?_
  rw [if_pos hw]
  exact wp_store_row _ x y hop g _ hx hy _ _ hg (by rw [hn, hi]) (by rw [hn, ho]) h1 (hK _ _ h)

/-- A load of a whole struct in a drawn region. -/
theorem wpOrd_loadM {P : Program} {Q : Exit → Act → World → Prop} {ty : TypeId} {md : Region.Mode} {T U : World → Prop} {c : Nat} {l : List Oper} {k : Nat} {rest : List Nat} {o : Oper} {a : Act} {w : World} (d : TypeDesc) (hu : P.underlying ty = some d) (hd : d.isRow = true) (ho : l[k]? = some o) (hst : stepOp o = false) (x : Operand) (hop : o.op = .load ty x)
    (b off : Nat) (cs : List Value) (hx : a.eval x = .pointer (some ⟨b, off, none⟩)) (hT : ∀ w, T w → w.rangeAt b off cs) (hn : (P.info? ty).map (·.size) = some cs.length)
    (hQ : ∀ c a w, Q (.panic c) (a.put o.dst (.agg cs.toArray)) w → Q (.panic c) a w) (hw : Region.wanted o (yielded l.toArray a.tmps) = true)
    (h : wpOrd P md l.toArray Q T U c rest (a.put o.dst (.agg cs.toArray)) w) : wpOrd P md l.toArray Q T U c (k :: rest) a w :=
  wpOrd_quiet ho hst hQ hw (fun w hw' _ => by
    unfold execOp
    simp only [hop, hx, Instr.loadAt, Instr.sureAddr, Sem.run_bind, Sem.run_pure, Result.andThen_ok, run_loadVar_mid w b off ty cs d (hT w hw') hu hd hn]) h

theorem built_ev (k a : Int) (v : BV) : Tryd.prog.built 35 [(0, .int .i64 k), (1, .int .i64 a), (3, v.v)] = some (evL k a (zL 12) v.v).toArray := by kernel_rfl
theorem zero_ev : (Tryd.prog.info? 35).bind (·.zero) = some (.agg (evL 0 0 (zL 12) (.slice none 0 0)).toArray) := by kernel_rfl
theorem Tryd.size_ev : (Tryd.prog.info? 35).map (·.size) = some 15 := by kernel_rfl
theorem Tryd.info_ev : (Tryd.prog.info? 35).map (fun i => (i.zero, i.size, i.bytes)) = some (some (.agg (evL 0 0 (zL 12) (.slice none 0 0)).toArray), 15, 56) := by kernel_rfl
theorem builtS_ev (k a : Int) (head : List Int) (x : BV) (h : head.length = 12) : Tryd.prog.builtSlice 35 1 [(0, .agg (evL k a head x.v).toArray)] = some (evL k a head x.v).toArray := by
  match head, h with
  | [h0, h1, h2, h3, h4, h5, h6, h7, h8, h9, h10, h11], _ => show (_ : Option (Array Value)) = _; kernel_rfl
theorem range_of_row {w : World} {g : Nat} {cs : List Value} {E : TypeId} (h : w.heap[g]? = some (.cells cs.toArray E (0, 0))) : w.rangeAt g 0 cs := fun j v hv => by
  rw [cell_of_row w g (0 + j) _ _ _ h, Nat.zero_add]
  simpa using hv

theorem evL_all (k a : Int) (head : List Int) (x : BV) : (evL k a head x.v).toArray.all (·.oneCell') = true := all_oneCell_toArray (evL_one k a head x)
theorem BV.In.out {w : World} {R : Nat → Prop} {x : BV} (h : x.In w R) : Bs w x.a x.len x.cap x.zs := h.bs

set_option maxRecDepth 100000 in
set_option maxHeartbeats 2000000 in
theorem record_any {w : World} {Z : Own} {g : Nat} {D : DS} {gb : Nat} {wv tv : Value} (h : DkAt w Z g D gb wv tv) (kind at_ : Int) {a : Option Addr} {len cap : Nat} {zs : List Int} (hx : Bs w a len cap zs) (body : BV) (hb : body.In w Z.R) (hlim : D.tr.length < 1000000) :
    Calls Tryd.prog 36 #[.pointer (some ⟨g, 0, none⟩), .int .i64 kind, .int .i64 at_, .slice a len cap, body.v] w fun e w' =>
      e = .returned (.tuple #[]) ∧ ∃ Z' tv', DkAt w' Z' g { D with tr := D.tr ++ [⟨kind, at_, zs, body⟩] } gb wv tv' ∧ Step Z w Z' w' := by
  have hz := hx.length
  have hzb := hx.bytes
  obtain ⟨W0, hW0⟩ : ∃ W0, (w.alloc (.cells (evL 0 0 (zL 12) (.slice none 0 0)).toArray 35)).setRow w.heap.size (evL kind at_ (zL 12) body.v).toArray = W0 := ⟨_, rfl⟩
  have n0 := heap_alloc_new w (.cells (evL 0 0 (zL 12) (.slice none 0 0)).toArray 35)
  have n1 : W0.heap[w.heap.size]? = some (.cells (evL kind at_ (zL 12) body.v).toArray 35 (0, 0)) := by rw [← hW0]; exact setRow_heap _ _ _ _ _ _ n0
  have b1 : Below w.heap.size w W0 := by
    rw [← hW0]
    exact (OnlyAt.setRow w.heap.size (w.alloc (.cells (evL 0 0 (zL 12) (.slice none 0 0)).toArray 35)) _).below (below_alloc (Below.refl _ w) _) (Nat.le_refl _)
  obtain ⟨w2, hr2, n2, o2⟩ := run_copy_into (P := Tryd.prog) Tryd.underlying22 Tryd.size_u8 3 W0 a 12 12 len cap w.heap.size 2 (min len 12) _ zs n1 rfl (hx.below b1) (by rw [evL_length _ _ _ _ (zL_length _)]; omega)
  rw [← hz, evL_splice] at n2
  have b2 := o2.below b1 (Nat.le_refl _)
  have hA := run_arr_at (P := Tryd.prog) Tryd.underlying33 Tryd.size_u8 w.heap.size 2
  have hB := built_ev kind at_ body
  have hE := evL_length 0 0 (zL 12) (.slice none 0 0) (zL_length _)
  have hE2 := evL_length kind at_ (zL 12) body.v (zL_length _)
  have HN := hide n0
  rw [← hW0] at hr2
  have H2 := hide n2
  have HB := hide b2
  clear n0 hW0 n1 b1 o2 n2 b2
  go_enter Tryd.func36, Tryd.ntmps36
  go_wp2_with (first
    | (refine wpList_newA (by rfl) 35 (by rfl) _ zero_ev w.heap.size rfl ?_)
    | (refine wpList_build_is rfl 35 _ rfl (evL kind at_ (zL 12) body.v).toArray (by rw [show (_ : List (Nat × Value)) = [(0, .int .i64 kind), (1, .int .i64 at_), (3, body.v)] from by kernel_rfl]; exact hB) ?_)
    | (refine wpList_putS Tryd.size_ev (by rfl) _ _ (by rfl) w.heap.size (evL kind at_ (zL 12) body.v).toArray (by rfl) (by rfl) _ HN.out (by simpa using hE2) (by simpa using hE) (evL_all _ _ _ _) ?_))
  clear hr2 hA hB HN hE hE2
  have n2 := H2.out
  have b2 := HB.out
  have h2 := h.below b2
  have hb2 : body.In w2 Z.R := hb.keep (fun k hk => b2.block k (h.lt k (h.sub k hk))) (fun _ hk => hk)
  have hNS : ¬ Z.S w.heap.size := fun hs => absurd (h.lt _ hs) (Nat.lt_irrefl _)
  clear H2 HB hx
  have c3 := h2.c3
  refine wp_region_ord 7 [0, 1, 2, 3, 4, 5, 6, 7, 8, 9, 10] (fun w' => w'.rangeAt w.heap.size 0 (evL kind at_ (fitL 12 zs) body.v)) (fun w' => w'.cell? ⟨g, 3, none⟩ = some tv) (by kernel_rfl) (by kernel_rfl) (by kernel_rfl) (range_of_row n2) c3 (fun _ _ => ?_)
  have h3 : DkAt w2.drew Z g D gb wv tv := h2.drew
  have b3 : Below w.heap.size w w2.drew := b2.drew
  have n3 : w2.drew.heap[w.heap.size]? = some (.cells (evL kind at_ (fitL 12 zs) body.v).toArray 35 (0, 0)) := n2
  have hb3 : body.In w2.drew Z.R := hb2.keep (fun _ _ => rfl) (fun _ hk => hk)
  clear h2 b2 n2 hb2 c3 h
  generalize w2.drew = W at *
  refine wpOrd_quiet (v := ?_) rfl rfl (fun _ _ _ h => h) (by rfl) ?_ ?_
  rotate_left
  · (intro w' _ _; go_simp; try rfl)
  simp only [Act.put, List.setIfInBounds_toArray, List.set_cons_zero, List.set_cons_succ]
  refine wpOrd_quiet (v := ?_) rfl rfl (fun _ _ _ h => h) (by rfl) ?_ ?_
  rotate_left
  · (intro w' _ _; go_simp; try rfl)
  simp only [Act.put, List.setIfInBounds_toArray, List.set_cons_zero, List.set_cons_succ]
  refine wpOrd_quiet (v := ?_) rfl rfl (fun _ _ _ h => h) (by rfl) ?_ ?_
  rotate_left
  · (intro w' _ _; go_simp; try rfl)
  simp only [Act.put, List.setIfInBounds_toArray, List.set_cons_zero, List.set_cons_succ]
  refine wpOrd_quiet (v := ?_) rfl rfl (fun _ _ _ h => h) (by rfl) ?_ ?_
  rotate_left
  · (intro w' _ _; go_simp; try rfl)
  simp only [Act.put, List.setIfInBounds_toArray, List.set_cons_zero, List.set_cons_succ]
  refine wpOrd_early (v := tv) rfl rfl (by kernel_rfl) (fun _ _ _ h => h) (by rfl) ?_ ?_
  · (intro w' _ hU; have hU : w'.cell? ⟨g, 3, none⟩ = some tv := hU; go_simp; done)
  simp only [Act.put, List.setIfInBounds_toArray, List.set_cons_zero, List.set_cons_succ]
  refine wpOrd_loadM _ Tryd.underlying35 rfl rfl rfl _ (by rfl) w.heap.size 0 (evL kind at_ (fitL 12 zs) body.v) (by rfl) (fun _ hT => hT) (by rw [evL_length _ _ _ _ (fitL_length _ _)]; exact Tryd.size_ev) (fun _ _ _ h => h) (by rfl) ?_
  simp only [Act.put, List.setIfInBounds_toArray, List.set_cons_zero, List.set_cons_succ]
  refine wpOrd_step rfl rfl (by rfl) (fun K' hK => ?_)
  refine wp_buildSliceTo 29 35 1 _ (by rfl) Tryd.underlying29 [(0, .agg (evL kind at_ (fitL 12 zs) body.v).toArray)] (by kernel_rfl) _ (builtS_ev kind at_ (fitL 12 zs) body (fitL_length _ _)) ?_
  have n4 := heap_alloc_new W (.cells (evL kind at_ (fitL 12 zs) body.v).toArray 35)
  have n5 := block_alloc n3 (.cells (evL kind at_ (fitL 12 zs) body.v).toArray 35)
  have ba := below_alloc (Below.refl W.heap.size W) (.cells (evL kind at_ (fitL 12 zs) body.v).toArray 35)
  have h4 := h3.below ba
  have b4 := b3.trans (ba.mono b3.size)
  have hb4 : body.In _ Z.R := hb3.keep (fun k hk => ba.block k (h3.lt k (h3.sub k hk))) (fun _ hk => hk)
  have hsz := size_alloc W (.cells (evL kind at_ (fitL 12 zs) body.v).toArray 35)
  refine hK.out _ _ (range_of_row n5) (fun _ => h4.c3) (fun _ => ?_)
  clear hK K' h3 b3 n3 hb3 ba
  generalize W.heap.size = N1 at *
  generalize W.alloc (.cells (evL kind at_ (fitL 12 zs) body.v).toArray 35) = W1 at *
  simp only [Act.put, List.setIfInBounds_toArray, List.set_cons_zero, List.set_cons_succ]
  obtain ⟨tv', w5, hr5, ow5, gr5, at5, ga, ca, hform⟩ := run_append_elem (P := Tryd.prog) 15 56 _ Tryd.underlying29 Tryd.info_ev (by rfl) (by decide) (by decide) 29 W1 tv D.tr.length _ h4.trace N1 (evL kind at_ (fitL 12 zs) body.v) (evL_length _ _ _ _ (fitL_length _ _)) (range_of_row n4) (evL_one _ _ _ _) hlim
  subst hform
  have hl : ∀ e ∈ D.tr ++ [⟨kind, at_, zs, body⟩], IsBytes e.head ∧ e.body.In W1 Z.R := by
    intro e he
    rcases List.mem_append.1 he with h1 | h1
    · exact h4.okt e h1
    · rw [List.mem_singleton] at h1
      subst h1
      exact ⟨hzb, hb4⟩
  obtain ⟨Z', h6, s6⟩ := h4.setTrace (D.tr ++ [⟨kind, at_, zs, body⟩]) gr5 (by rw [List.flatMap_append, List.length_append]; simpa [Ev.cells_ev] using ow5) hl at5
  have hgl := h4.lt g h4.gS
  have hg5 : w5.heap[g]? = W1.heap[g]? := gr5.block g hgl (fun e => h4.tg e.symm)
  have c5 : w5.cell? ⟨g, 3, none⟩ = some tv := (World.cell?_of_block (w := W1) (a := ⟨g, 3, none⟩) hg5).trans h4.c3
  have f5 : w5.frozen? ⟨g, 3, none⟩ = false := (World.frozen?_of_block (w := W1) (a := ⟨g, 3, none⟩) hg5).trans (h4.froz 3)
  have r5 : w5.rangeAt w.heap.size 0 (evL kind at_ (fitL 12 zs) body.v) := range_of_row ((gr5.block w.heap.size (Array.getElem?_eq_some_iff.1 n5).1 (fun e => hNS (h4.tS _ e.symm))).trans n5)
  have r6 : (w5.setCell ⟨g, 3, none⟩ (.slice (some ⟨ga, 0, none⟩) (D.tr.length + 1) ca)).rangeAt w.heap.size 0 (evL kind at_ (fitL 12 zs) body.v) := rangeAt_keep r5 (Below.heap_setCell w5 ⟨g, 3, none⟩ (.slice (some ⟨ga, 0, none⟩) (D.tr.length + 1) ca) _ (fun e => hNS (e ▸ h4.gS)))
  refine wpOrd_step rfl rfl (by rfl) (fun K' hK => ?_)
  refine wp_append_run (.tmp 23) (.tmp 25) 29 (by rfl) _ _ _ (by rfl) (by rfl) hr5 ?_
  refine hK.out _ _ r5 (fun h => absurd h (by decide)) (fun _ => ?_)
  clear hK K'
  simp only [Act.put, List.setIfInBounds_toArray, List.set_cons_zero, List.set_cons_succ]
  refine wpOrd_quiet (v := ?_) rfl rfl (fun _ _ _ h => h) (by rfl) ?_ ?_
  rotate_left
  · (intro w' _ _; go_simp; try rfl)
  simp only [Act.put, List.setIfInBounds_toArray, List.set_cons_zero, List.set_cons_succ]
  refine wpOrd_quiet (v := ?_) rfl rfl (fun _ _ _ h => h) (by rfl) ?_ ?_
  rotate_left
  · (intro w' _ _; go_simp; try rfl)
  simp only [Act.put, List.setIfInBounds_toArray, List.set_cons_zero, List.set_cons_succ]
  refine wpOrd_step rfl rfl (by rfl) (fun K' hK => ?_)
  go_simp
  refine hK.out _ _ r6 (fun h => absurd h (by decide)) (fun _ => ?_)
  clear hK K'
  refine wpOrd_nil ?_
  have S4 := (Step.of_below Z (b4.mono (Nat.le_refl _))).trans s6
  clear h4 s6 b4 hl n4 n5 hr5 ow5 gr5 at5 hgl hg5 c5 f5 r5 r6
  go_wp2_with fail
  refine bodyPost_end (results_none rfl _ _ _) rfl ?_
  exact ⟨rfl, Z', _, h6, S4⟩
#print axioms record_any
#print axioms builtS_ev
#print axioms built_ev
end Go.Proofs.YtlicafjhkbofbaaDoor
