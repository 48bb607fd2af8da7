/- What a call of (*Disk).Trace does: for every device in memory it answers what was done, in order, in new memory; all else is as it was. -/
import Derived.Test.YtlicafjhkbofbaaDoorKCrash
namespace Go.Proofs.YtlicafjhkbofbaaDoor
open Go.RowKit

theorem evL_14 (k a : Int) (head : List Int) (v : Value) (h : head.length = 12) : (evL k a head v)[14]? = some v := by
  unfold evL
  rw [List.getElem?_cons_succ, List.getElem?_cons_succ, List.getElem?_append_right (by simp [h])]
  simp [h]
theorem evL_set (k a : Int) (head : List Int) (v u : Value) (h : head.length = 12) : (evL k a head v).set 14 u = evL k a head u := by
  unfold evL
  rw [List.set_cons_succ, List.set_cons_succ, List.set_append_right _ _ (by simp [h])]
  simp [h]
theorem evL_head (k a : Int) (head : List Int) (v : Value) (h : head.length = 12) (j : Nat) (hj : j < 12) : (evL k a head v)[2 + j]? = some (.int .u8 (head.getD j 0)) := by
  unfold evL
  rw [show 2 + j = j + 1 + 1 by omega, List.getElem?_cons_succ, List.getElem?_cons_succ, List.getElem?_append_left (by simp [h]; omega)]
  have : j < head.length := by omega
  simp [List.getD, this]

/-- A row of events that lies aside: what it tells. -/
structure Tr (Z : Own) (w : World) (te n size : Nat) (l : List Ev) : Prop where
  there : w.there te 0 (15 * n)
  out : ¬ Z.S te
  ev : ∀ i e, l[i]? = some e → ∃ v : BV, w.rangeAt te (15 * i) (evL e.kind e.at_ (fitL 12 e.head) v.v) ∧
    ((e.kind = 2 ∧ ∃ m, v = ⟨some ⟨m, 0, none⟩, size, size, fitL size e.body.zs⟩ ∧ te < m ∧ ¬ Z.S m ∧ OwnB 5 w m (fitL size e.body.zs)) ∨ (e.kind ≠ 2 ∧ v = e.body))
theorem there_keep {w w' : World} {b o n : Nat} (h : w.there b o n) (hb : w'.heap[b]? = w.heap[b]?) : w'.there b o n := fun j hj =>
  ⟨by rw [World.cell?_of_block (w := w) (a := ⟨b, o + j, none⟩) hb]; exact (h j hj).1, by rw [World.frozen?_of_block (w := w) (a := ⟨b, o + j, none⟩) hb]; exact (h j hj).2⟩
theorem Tr.keep {Z Z' : Own} {w w' : World} {te n size : Nat} {l : List Ev} (h : Tr Z w te n size l) (hb : ∀ k, ¬ Z.S k → k = te ∨ k < w.heap.size → w'.heap[k]? = w.heap[k]? ∧ ¬ Z'.S k) : Tr Z' w' te n size l := by
  have ht := hb te h.out (.inl rfl)
  refine ⟨there_keep h.there ht.1, ht.2, fun i e he => ?_⟩
  obtain ⟨v, hv, h2⟩ := h.ev i e he
  refine ⟨v, rangeAt_keep hv ht.1, ?_⟩
  rcases h2 with ⟨hk, m, rfl, hm, hs, hO⟩ | h2
  · have hm' := hb m hs (.inr hO.lt)
    refine .inl ⟨hk, m, rfl, hm, hm'.2, ?_⟩
    unfold OwnB at hO ⊢
    rw [hm'.1]; exact hO
  · exact .inr h2

theorem made_there (w : World) (z : Array Value) (n : Nat) (E : TypeId) : (w.alloc (.cells (madeCells z n) E)).there w.heap.size 0 n := fun j hj => by
  have h := heap_alloc_new w (.cells (madeCells z n) E)
  refine ⟨?_, frozen_of_row _ _ _ _ _ h⟩
  rw [cell_of_row _ _ _ _ _ _ h, Nat.zero_add]
  have : j < (madeCells z n).size := by rw [size_madeCells]; exact hj
  simp [this]

theorem setCells_only (b : Nat) : ∀ (vs : List Value) (o : Nat) (w : World), OnlyAt b w (w.setCells b o vs)
  | [], o, w => ⟨rfl, rfl, rfl, rfl, fun _ _ => rfl⟩
  | v :: vs, o, w => by
    have h1 := OnlyAt.setC b o w v
    have h2 := setCells_only b vs (o + 1) (w.setCell ⟨b, o, none⟩ v)
    exact ⟨h2.os.trans h1.os, h2.tape.trans h1.tape, h2.output.trans h1.output, h2.size.trans h1.size, fun k hk => (h2.block k hk).trans (h1.block k hk)⟩

theorem Tr.push {Z : Own} {w w1 : World} {te n size : Nat} {l : List Ev} (h : Tr Z w te n size l) (e : Ev) (v : BV) (k : Nat) (hk : l.length = k) (hkn : k < n) (hb : ∀ i, i < w.heap.size → w1.heap[i]? = w.heap[i]?) (hte : te < w.heap.size)
    (hv : (e.kind = 2 ∧ ∃ m, v = ⟨some ⟨m, 0, none⟩, size, size, fitL size e.body.zs⟩ ∧ te < m ∧ ¬ Z.S m ∧ OwnB 5 w1 m (fitL size e.body.zs)) ∨ (e.kind ≠ 2 ∧ v = e.body)) :
    Tr Z (w1.setCells te (15 * k) (evL e.kind e.at_ (fitL 12 e.head) v.v)) te n size (l ++ [e]) := by
  subst hk
  have hlen : (evL e.kind e.at_ (fitL 12 e.head) v.v).length = 15 := evL_length _ _ _ _ (fitL_length _ _)
  have ho := setCells_only te (evL e.kind e.at_ (fitL 12 e.head) v.v) (15 * l.length) w1
  have ht1 : w1.there te 0 (15 * n) := there_keep h.there (hb te hte)
  have hold : ∀ m, m ≠ te → ∀ zs, OwnB 5 w1 m zs → OwnB 5 (w1.setCells te (15 * l.length) (evL e.kind e.at_ (fitL 12 e.head) v.v)) m zs := fun m hm zs hO => ho.own hO hm
  refine ⟨World.there_setCells ht1 _ _ _, h.out, fun i e' he => ?_⟩
  rcases Nat.lt_or_ge i l.length with hi | hi
  · rw [List.getElem?_append_left hi] at he
    obtain ⟨u, hu, h2⟩ := h.ev i e' he
    refine ⟨u, World.rangeAt_setCells_apart (rangeAt_keep hu (hb te hte)) _ _ _ (.inr (.inl (by rw [evL_length _ _ _ _ (fitL_length _ _)]; omega))), ?_⟩
    rcases h2 with ⟨hk, m, rfl, hm, hs, hO⟩ | h2
    · refine .inl ⟨hk, m, rfl, hm, hs, hold m (Nat.ne_of_gt hm) _ ?_⟩
      unfold OwnB at hO ⊢
      rw [hb m (Array.getElem?_eq_some_iff.1 hO).1]; exact hO
    · exact .inr h2
  · rw [List.getElem?_append_right hi] at he
    have hi0 : i = l.length := by
      have := (List.getElem?_eq_some_iff.1 he).1
      simp at this
      omega
    subst hi0
    simp only [Nat.sub_self, List.getElem?_cons_zero, Option.some.injEq] at he
    subst he
    refine ⟨v, World.rangeAt_setCells_same _ _ _ _ (fun j hj => ?_), ?_⟩
    · have := ht1 (15 * l.length + j) (by rw [hlen] at hj; omega)
      rw [Nat.zero_add] at this
      exact this
    · rcases hv with ⟨hk, m, rfl, hm, hs, hO⟩ | h2
      · exact .inl ⟨hk, m, rfl, hm, hs, hold m (Nat.ne_of_gt hm) _ hO⟩
      · exact .inr h2
theorem Tr.there_at {Z : Own} {w : World} {te n size : Nat} {l : List Ev} (h : Tr Z w te n size l) (k : Nat) (hk : k < n) : w.there te (15 * k) 15 := fun j hj => by
  have := h.there (15 * k + j) (by omega)
  rw [Nat.zero_add] at this
  exact this

/-- The cells of n new events. -/
def zE (n : Nat) : Array Value := madeCells (evL 0 0 (zL 12) (.slice none 0 0)).toArray (15 * n)
theorem run_make_ev (n : Nat) (hn : n < 1000000) (w : World) : (Instr.makeSlice 29 (.int .i64 (n : Int)) (.int .i64 (n : Int))).run Tryd.prog w = .ok (.slice (some ⟨w.heap.size, 0, none⟩) n n) (w.alloc (.cells (zE n) 35)) := by
  obtain ⟨ie, hie, hzz⟩ := Option.map_eq_some_iff.1 Tryd.info_ev
  simp only [Prod.mk.injEq] at hzz
  obtain ⟨hz, hs, hby⟩ := hzz
  have hmk := run_make (P := Tryd.prog) w 29 35 ie _ Tryd.underlying29 hie hz .i64 .i64 (n : Int) (n : Int) (by omega) (Int.le_refl _) (by rw [hby]; omega) (by omega)
  rw [Int.toNat_natCast, hs, Nat.mul_comm] at hmk
  exact hmk

set_option maxRecDepth 100000 in
set_option maxHeartbeats 4000000 in
theorem trace_any {w : World} {Z : Own} {g : Nat} {D : DS} (h : Dk w Z g D) (hlim : D.tr.length < 1000000) :
    Calls Tryd.prog 16 #[.pointer (some ⟨g, 0, none⟩)] w fun e w' =>
      e = .returned (.slice (some ⟨w.heap.size, 0, none⟩) D.tr.length D.tr.length) ∧ Tr Z w' w.heap.size D.tr.length D.size D.tr ∧ Below w.heap.size w w' := by
  obtain ⟨gb, wv, tv, h⟩ := h
  obtain ⟨ta, tc, rfl, htc, htm, htg⟩ := ownsRow_form h.trace
  unfold maxLen at htm
  have c3 : w.cell? ⟨g, 3, none⟩ = some (.slice ta D.tr.length tc) := h.c3
  have hNS0 : ¬ Z.S w.heap.size := fun hs => absurd (h.lt _ hs) (Nat.lt_irrefl _)
  have hmk := run_make_ev D.tr.length hlim
  have ht0 : (w.alloc (.cells (zE D.tr.length) 35)).there w.heap.size 0 (15 * D.tr.length) := made_there w _ _ _
  have b0 := below_alloc (Below.refl _ w) (.cells (zE D.tr.length) 35)
  have h0 := h.below b0
  have c3' : (w.alloc (.cells (zE D.tr.length) 35)).cell? ⟨g, 3, none⟩ = some (.slice ta D.tr.length tc) := h0.c3
  have H0 := hide h0
  have HT := hide ht0
  have HB := hide b0
  have hlt := h.lt
  have hall : ∀ k, Z.S k → k < w.heap.size := hlt
  have hsz := h.size
  have hW0 : w.heap.size < (w.alloc (.cells (zE D.tr.length) 35)).heap.size := by rw [size_alloc]; omega
  clear h ht0 b0 h0 hlt
  go_enter Tryd.func16, Tryd.ntmps16
  go_wp2_with fail
  clear hmk c3 c3'
  generalize (w.alloc (.cells (zE D.tr.length) 35)) = W0 at *
  go_loopw [17] (fun v wr => ∃ k : Nat, k ≤ D.tr.length ∧ v = .int .i64 k ∧ DkAt wr Z g D gb wv (.slice ta D.tr.length tc) ∧ Tr Z wr w.heap.size D.tr.length D.size (D.tr.take k) ∧ Below w.heap.size w wr ∧ w.heap.size < wr.heap.size) (fun v _ => D.tr.length - (intOf v).toNat)
  case atStart => exact ⟨0, Nat.zero_le _, rfl, H0.out, ⟨HT.out, hNS0, fun i e he => by simp at he⟩, HB.out, hW0⟩
  case round =>
    obtain ⟨k, hk, rfl, hD, hT, hB, hW⟩ := hrel
    clear H0 HT HB hW0
    by_cases hlt : k < D.tr.length
    · obtain ⟨gw, hgw, hob⟩ := htg (by omega)
      obtain ⟨e, hp⟩ : ∃ p, D.tr[k]? = some p := ⟨_, List.getElem?_eq_getElem hlt⟩
      have hr := ownsRow_rec Ev.cells_length hD.trace hob k e hp
      rw [Ev.cells_ev] at hr
      have hpm := hD.okt e (List.mem_of_getElem? hp)
      subst hgw
      rw [Nat.mul_comm] at hr
      have hE0 : (evL 0 0 (zL 12) (.slice none 0 0)).length = 15 := evL_length _ _ _ _ (zL_length _)
      have hh12 := fitL_length 12 e.head
      have hE1 : (evL e.kind e.at_ (fitL 12 e.head) e.body.v).length = 15 := evL_length _ _ _ _ hh12
      have n0 := heap_alloc_new wr (.cells (evL 0 0 (zL 12) (.slice none 0 0)).toArray 35)
      have HN := hide n0
      have n1 : ((wr.alloc (.cells (evL 0 0 (zL 12) (.slice none 0 0)).toArray 35)).setRow wr.heap.size (evL e.kind e.at_ (fitL 12 e.head) e.body.v).toArray).heap[wr.heap.size]? = some (.cells (evL e.kind e.at_ (fitL 12 e.head) e.body.v).toArray 35 (0, 0)) := setRow_heap _ _ _ _ _ _ n0
      have b1 := (OnlyAt.setRow wr.heap.size (wr.alloc (.cells (evL 0 0 (zL 12) (.slice none 0 0)).toArray 35)) (evL e.kind e.at_ (fitL 12 e.head) e.body.v).toArray).below (below_alloc (Below.refl _ wr) _) (Nat.le_refl _)
      have hal := evL_all e.kind e.at_ (fitL 12 e.head) e.body
      have hNS : ¬ Z.S wr.heap.size := fun hs => absurd (hD.lt _ hs) (Nat.lt_irrefl _)
      have h2 := hD.below b1
      have hx2 : e.body.In _ Z.R := hpm.2.keep (fun k hk => b1.block k (hD.lt k (hD.sub k hk))) (fun _ hk => hk)
      have HS := hide (Tryd.size_ev.trans (by rw [hE1]) : (Tryd.prog.info? 35).map (·.size) = some (evL e.kind e.at_ (fitL 12 e.head) e.body.v).length)
      obtain ⟨W1, hW1⟩ : ∃ W1, ((wr.alloc (.cells (evL 0 0 (zL 12) (.slice none 0 0)).toArray 35)).setRow wr.heap.size (evL e.kind e.at_ (fitL 12 e.head) e.body.v).toArray) = W1 := ⟨_, rfl⟩
      have k0 : ((wr.alloc (.cells (evL 0 0 (zL 12) (.slice none 0 0)).toArray 35)).setRow wr.heap.size (evL e.kind e.at_ (fitL 12 e.head) e.body.v).toArray).cell? ⟨wr.heap.size, 0, none⟩ = some (.int .i64 e.kind) := cell_of_row _ _ 0 _ _ _ n1
      have k14 : ((wr.alloc (.cells (evL 0 0 (zL 12) (.slice none 0 0)).toArray 35)).setRow wr.heap.size (evL e.kind e.at_ (fitL 12 e.head) e.body.v).toArray).cell? ⟨wr.heap.size, 14, none⟩ = some e.body.v := by
        rw [cell_of_row _ _ 14 _ _ _ n1]
        simpa using evL_14 e.kind e.at_ (fitL 12 e.head) e.body.v hh12
      rw [hW1] at h2 hx2 n1 b1
      have H2 := hide h2
      have HX := hide hx2
      have HT := hide hT
      have HB := hide hB
      have H1 := hide b1
      have HN1 := hide n1
      have HW := hide hW1
      clear hD n0 n1 b1 h2 htg hob hx2 hT hB hpm hW1
      have hsz15 : (Tryd.prog.info? 35).map (·.size) = some (evL e.kind e.at_ (fitL 12 e.head) e.body.v).toArray.size := by rw [Tryd.size_ev]; simp [hE1]
      by_cases hk2 : e.kind = 2
      · have hkb : (e.kind == 2) = true := by simpa using hk2
        have HK2 := hide hk2
        clear hk2
        go_wp2_with (first
          | (refine wpList_newA (by rfl) 35 (by rfl) _ zero_ev wr.heap.size rfl ?_)
          | (refine wpList_load_mid rfl 35 _ (by rfl) gw (k * 15) (by rfl) (evL e.kind e.at_ (fitL 12 e.head) e.body.v) _ hr Tryd.underlying35 rfl HS.out ?_)
          | (refine wpList_putS Tryd.size_ev (by rfl) _ _ (by rfl) wr.heap.size (evL e.kind e.at_ (fitL 12 e.head) e.body.v).toArray (by rfl) (by rfl) _ HN.out (by simpa using hE1) (by simpa using hE0) hal ?_))
        rw [HW.out]
        have h2 := H2.out
        refine (fitted_any h2 HX.out.bs).mono ?_
        rintro e3 w3 ⟨rfl, hO, hb3⟩
        have n3 : w3.heap[wr.heap.size]? = some (.cells (evL e.kind e.at_ (fitL 12 e.head) e.body.v).toArray 35 (0, 0)) := by rw [hb3.block _ (Array.getElem?_eq_some_iff.1 HN1.out).1]; exact HN1.out
        have hVlt : wr.heap.size < W1.heap.size := (Array.getElem?_eq_some_iff.1 HN1.out).1
        have b3 := H1.out.trans (hb3.mono H1.out.size)
        have h3 := h2.below hb3
        have hNS1 : ¬ Z.S W1.heap.size := fun hs => absurd (h2.lt _ hs) (Nat.lt_irrefl _)
        have c14 : w3.cell? ⟨wr.heap.size, 14, none⟩ = some e.body.v := by
          rw [cell_of_row _ _ 14 _ _ _ n3]
          simpa using evL_14 e.kind e.at_ (fitL 12 e.head) e.body.v hh12
        have f14 : w3.frozen? ⟨wr.heap.size, 14, none⟩ = false := frozen_of_row _ _ _ _ _ n3
        obtain ⟨v, hv⟩ : ∃ v : BV, v = ⟨some ⟨W1.heap.size, 0, none⟩, D.size, D.size, fitL D.size e.body.zs⟩ := ⟨_, rfl⟩
        have hvv : Value.slice (some ⟨W1.heap.size, 0, none⟩) D.size D.size = v.v := by rw [hv]
        rw [hvv]
        have hE2 : (evL e.kind e.at_ (fitL 12 e.head) v.v).length = 15 := evL_length _ _ _ _ hh12
        have hal2 := evL_all e.kind e.at_ (fitL 12 e.head) v
        have hsz2 : (Tryd.prog.info? 35).map (·.size) = some (evL e.kind e.at_ (fitL 12 e.head) v.v).length := by rw [Tryd.size_ev, hE2]
        have hsz3 : (Tryd.prog.info? 35).map (·.size) = some (evL e.kind e.at_ (fitL 12 e.head) v.v).toArray.size := by rw [Tryd.size_ev]; simp [hE2]
        have o4 := OnlyAt.setC wr.heap.size 14 w3 v.v
        have n4 : (w3.setCell ⟨wr.heap.size, 14, none⟩ v.v).heap[wr.heap.size]? = some (.cells (evL e.kind e.at_ (fitL 12 e.head) v.v).toArray 35 (0, 0)) := by
          rw [heap_setCell_same w3 wr.heap.size 14 _ _ _ n3, List.setIfInBounds_toArray, evL_set _ _ _ _ _ hh12]
        have b4 : Below wr.heap.size wr (w3.setCell ⟨wr.heap.size, 14, none⟩ v.v) := b3.setCell (p := ⟨wr.heap.size, 14, none⟩) (Nat.le_refl _) v.v
        have hO4 : OwnB 5 (w3.setCell ⟨wr.heap.size, 14, none⟩ v.v) W1.heap.size (fitL D.size e.body.zs) := o4.own hO (by omega)
        have hT := HT.out
        have hB := HB.out
        have hpush := hT.push (w1 := w3.setCell ⟨wr.heap.size, 14, none⟩ v.v) e v k (by rw [List.length_take]; omega) hlt (fun i hi => b4.block i hi) hW (.inl ⟨HK2.out, W1.heap.size, hv, by omega, hNS1, hO4⟩)
        rw [← take_next _ _ _ hp, Nat.mul_comm] at hpush
        have hth : (w3.setCell ⟨wr.heap.size, 14, none⟩ v.v).there w.heap.size (k * 15) (evL e.kind e.at_ (fitL 12 e.head) v.v).toArray.size := by
          have := there_keep (hT.there_at k hlt) (b4.block _ hW)
          rw [Nat.mul_comm] at this
          simpa [hE2] using this
        have h4 := h3.keep (w' := w3.setCell ⟨wr.heap.size, 14, none⟩ v.v) (fun i hi => o4.block i (fun e => hNS (e ▸ hi))) (Nat.le_of_eq o4.size.symm)
        have o5 := setCells_only w.heap.size (evL e.kind e.at_ (fitL 12 e.head) v.v) (k * 15) (w3.setCell ⟨wr.heap.size, 14, none⟩ v.v)
        have h5 := h4.keep (fun i hi => o5.block i (fun e => hNS0 (e ▸ hi))) (Nat.le_of_eq o5.size.symm)
        have b5 : Below w.heap.size w ((w3.setCell ⟨wr.heap.size, 14, none⟩ v.v).setCells w.heap.size (k * 15) (evL e.kind e.at_ (fitL 12 e.head) v.v)) := o5.below (hB.trans (b4.mono (Nat.le_of_lt hW))) (Nat.le_refl _)
        have hW5 : w.heap.size < ((w3.setCell ⟨wr.heap.size, 14, none⟩ v.v).setCells w.heap.size (k * 15) (evL e.kind e.at_ (fitL 12 e.head) v.v)).heap.size := by
          have := b4.size
          rw [o5.size]
          omega
        have HR4 := hide (range_of_row n4)
        have HP := hide hpush
        have HTh := hide hth
        have H5 := hide h5
        have HB5 := hide b5
        clear H2 HX HT HB H1 HN1 HW h2 hO hb3 n3 b3 h3 hv hvv o4 n4 b4 hO4 hT hB hpush hth h4 o5 h5 b5 hr k0 k14 hE1 hal hsz15 HN HS
        go_wp2_with (first
          | (refine wpList_load_mid rfl 35 _ (by rfl) wr.heap.size 0 (by rfl) (evL e.kind e.at_ (fitL 12 e.head) v.v) _ HR4.out Tryd.underlying35 rfl hsz2 ?_)
          | (refine wpList_store_mid rfl 35 _ _ (by rfl) w.heap.size (k * 15) (evL e.kind e.at_ (fitL 12 e.head) v.v).toArray (by rfl) (by rfl) HTh.out hsz3 hal2 ?_))
        go_roundw
        case rel => exact ⟨k + 1, by omega, by go_num, H5.out, HP.out, HB5.out, hW5⟩
        case measure => simp [intOf]; omega
      · have hkb : (e.kind == 2) = false := by simpa using hk2
        have hT := HT.out
        have hB := HB.out
        have b1 := H1.out
        have hpush := hT.push (w1 := W1) e e.body k (by rw [List.length_take]; omega) hlt (fun i hi => b1.block i hi) hW (.inr ⟨hk2, rfl⟩)
        rw [← take_next _ _ _ hp, Nat.mul_comm] at hpush
        have hth : W1.there w.heap.size (k * 15) (evL e.kind e.at_ (fitL 12 e.head) e.body.v).toArray.size := by
          have := there_keep (hT.there_at k hlt) (b1.block _ hW)
          rw [Nat.mul_comm] at this
          simpa [hE1] using this
        have o5 := setCells_only w.heap.size (evL e.kind e.at_ (fitL 12 e.head) e.body.v) (k * 15) W1
        have h5 := H2.out.keep (fun i hi => o5.block i (fun e => hNS0 (e ▸ hi))) (Nat.le_of_eq o5.size.symm)
        have b5 : Below w.heap.size w (W1.setCells w.heap.size (k * 15) (evL e.kind e.at_ (fitL 12 e.head) e.body.v)) := o5.below (hB.trans (b1.mono (Nat.le_of_lt hW))) (Nat.le_refl _)
        have hW5 : w.heap.size < (W1.setCells w.heap.size (k * 15) (evL e.kind e.at_ (fitL 12 e.head) e.body.v)).heap.size := by
          have := b1.size
          rw [o5.size]
          omega
        have HR4 := hide (range_of_row HN1.out)
        rw [← HW.out] at hpush hth h5 b5 hW5 HR4
        have HP := hide hpush
        have HTh := hide hth
        have H5 := hide h5
        have HB5 := hide b5
        clear H2 HX HT HB H1 HN1 HW hT hB b1 hpush hth o5 h5 b5
        go_wp2_with (first
          | (refine wpList_newA (by rfl) 35 (by rfl) _ zero_ev wr.heap.size rfl ?_)
          | (refine wpList_load_mid rfl 35 _ (by rfl) gw (k * 15) (by rfl) (evL e.kind e.at_ (fitL 12 e.head) e.body.v) _ hr Tryd.underlying35 rfl HS.out ?_)
          | (refine wpList_load_mid rfl 35 _ (by rfl) wr.heap.size 0 (by rfl) (evL e.kind e.at_ (fitL 12 e.head) e.body.v) _ HR4.out Tryd.underlying35 rfl HS.out ?_)
          | (refine wpList_putS Tryd.size_ev (by rfl) _ _ (by rfl) wr.heap.size (evL e.kind e.at_ (fitL 12 e.head) e.body.v).toArray (by rfl) (by rfl) _ HN.out (by simpa using hE1) (by simpa using hE0) hal ?_)
          | (refine wpList_store_mid rfl 35 _ _ (by rfl) w.heap.size (k * 15) (evL e.kind e.at_ (fitL 12 e.head) e.body.v).toArray (by rfl) (by rfl) HTh.out hsz15 hal ?_))
        go_roundw
        case rel => exact ⟨k + 1, by omega, by go_num, H5.out, HP.out, HB5.out, hW5⟩
        case measure => simp [intOf]; omega
    · obtain rfl : k = D.tr.length := by omega
      rw [List.take_length] at hT
      go_wp2_with fail
      go_ret
      exact ⟨rfl, hT, hB⟩
#print axioms trace_any
end Go.Proofs.YtlicafjhkbofbaaDoor
