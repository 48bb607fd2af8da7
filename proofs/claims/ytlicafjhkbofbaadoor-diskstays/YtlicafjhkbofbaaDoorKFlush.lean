/- What a call of (*Disk).Flush does: for every device in memory; what is not the device's own is as it was. -/
import Derived.Test.YtlicafjhkbofbaaDoorKWrite
namespace Go.Proofs.YtlicafjhkbofbaaDoor
open Go.RowKit

/-- Writes that waited are flushed, in their order. -/
def flushN (b : Nat → BV × BV) (l : List (Nat × BV)) : Nat → BV × BV := l.foldl (fun b p => updF b p.1 p.2) b
theorem flushN_snoc (b : Nat → BV × BV) (l : List (Nat × BV)) (p : Nat × BV) : flushN b (l ++ [p]) = updF (flushN b l) p.1 p.2 := by simp [flushN]
theorem take_next {α : Type} (l : List α) (k : Nat) (x : α) (h : l[k]? = some x) : l.take (k + 1) = l.take k ++ [x] := by
  rw [List.take_add_one, h]; rfl
def DS.flush (D : DS) : DS := { D with left := spendL D.left, blk := flushN D.blk D.wait, wait := [], tr := D.tr ++ [⟨3, 0, [], BV.nil⟩] }

section
variable {w : World} {Z : Own} {g : Nat} {D : DS} {gb : Nat} {wv tv : Value}
theorem ownsRow_form {w : World} {base : Nat} {e : TypeId} {size : Nat} {v : Value} {n : Nat} {xs : List Value} (h : w.ownsRow base e size v n xs) : ∃ a cap, v = .slice a n cap ∧ n ≤ cap ∧ cap ≤ maxLen ∧ (0 < n → ∃ gw, a = some ⟨gw, 0, none⟩ ∧ v.ownBlock = some gw) := by
  rcases h.2 with ⟨h1, h0⟩ | ⟨ga, ca, cur, h1, _, _, h4, h5, _⟩
  · subst h0
    exact ⟨none, 0, h1, Nat.le_refl _, by unfold maxLen; omega, fun h => absurd h (Nat.lt_irrefl _)⟩
  · exact ⟨_, ca, h1, h4, h5, fun _ => ⟨ga, rfl, by rw [h1]; rfl⟩⟩
/-- Record i of a row that is owned. -/
theorem ownsRow_rec {α : Type} {w : World} {base : Nat} {e : TypeId} {m : Nat} {v : Value} {l : List α} {f : α → List Value} (hm : ∀ x, (f x).length = m) (h : w.ownsRow base e m v l.length (l.flatMap f)) {gw : Nat} (hg : v.ownBlock = some gw) (i : Nat) (x : α) (hx : l[i]? = some x) : w.rangeAt gw (m * i) (f x) := by
  intro j u hj
  have hjl : j < m := by rw [← hm x]; exact (List.getElem?_eq_some_iff.1 hj).1
  have := h.cells hg (m * i + j) u (by rw [flat_get m f hm l i j hjl, hx]; exact hj)
  rw [addr_add, Nat.zero_add] at this
  exact this
end

set_option maxHeartbeats 2000000 in
theorem flush_no {p : Addr} {w : World} {Z : Own} {g : Nat} {D : DS} (h : Dk w Z g D) (hp : Pow p w) (hl : D.left = 0) :
    Calls Tryd.prog 17 #[.pointer (some ⟨g, 0, none⟩)] w fun e w' => e = .panicked [{ v := errV p, recovered := false }] ∧ w = w' := by
  obtain ⟨gb, wv, tv, h⟩ := h
  have hS := spend_no h hp hl
  clear h hp
  go_enter Tryd.func17, Tryd.ntmps17
  go_wp2_with fail
  refine hS.mono ?_
  rintro e w1 ⟨rfl, rfl⟩
  go_wp2_with fail
  exact ⟨rfl, rfl, rfl⟩

theorem zero_wr : (Tryd.prog.info? 58).bind (·.zero) = some (.agg #[.int .i64 0, .slice none 0 0]) := by kernel_rfl
theorem Tryd.size_wr : (Tryd.prog.info? 58).map (·.size) = some 2 := by kernel_rfl

set_option maxRecDepth 100000 in
set_option maxHeartbeats 4000000 in
theorem flush_ok {w : World} {Z : Own} {g : Nat} {D : DS} (h : Dk w Z g D) (hl : ¬ D.left = 0) (hlim : D.tr.length < 1000000) :
    Calls Tryd.prog 17 #[.pointer (some ⟨g, 0, none⟩)] w fun e w' => ∃ Z', e = .returned (.tuple #[]) ∧ Dk w' Z' g D.flush ∧ Step Z w Z' w' := by
  obtain ⟨gb, wv, tv, h⟩ := h
  have hS := spend_ok h hl
  have hn := h.n
  obtain ⟨wa, wc, rfl, hwc, hwm, hwg⟩ := ownsRow_form h.waits
  unfold maxLen at hwm
  clear h
  go_enter Tryd.func17, Tryd.ntmps17
  go_wp2_with fail
  refine hS.mono ?_
  rintro e w1 ⟨rfl, h1, s1⟩
  clear hS
  have c2 : w1.cell? ⟨g, 2, none⟩ = some (.slice wa D.wait.length wc) := h1.c2
  have H1 := hide h1
  clear h1
  go_wp2_with fail
  go_loopw [11] (fun v wr => ∃ k : Nat, k ≤ D.wait.length ∧ v = .int .i64 k ∧ DkAt wr Z g { D.spent with blk := flushN D.blk (D.wait.take k) } gb (.slice wa D.wait.length wc) tv ∧ Step Z w Z wr) (fun v _ => D.wait.length - (intOf v).toNat)
  case atStart => exact ⟨0, Nat.zero_le _, rfl, H1.out, s1⟩
  case round =>
    obtain ⟨k, hk, rfl, hD, hSt⟩ := hrel
    clear H1 s1 c2
    by_cases hlt : k < D.wait.length
    · obtain ⟨gw, hgw, hob⟩ := hwg (by omega)
      obtain ⟨⟨i, x⟩, hp⟩ : ∃ p, D.wait[k]? = some p := ⟨_, List.getElem?_eq_getElem hlt⟩
      have hr := ownsRow_rec wrC_length hD.waits hob k (i, x) hp
      have hpm := hD.okw (i, x) (List.mem_of_getElem? hp)
      subst hgw
      rw [Nat.mul_comm] at hr
      have n0 := heap_alloc_new wr (.cells #[.int .i64 0, .slice none 0 0] 58)
      have HN := hide n0
      have n1 : ((wr.alloc (.cells #[.int .i64 0, .slice none 0 0] 58)).setRow wr.heap.size #[.int .i64 (i : Int), x.v]).heap[wr.heap.size]? = some (.cells #[.int .i64 (i : Int), x.v] 58 (0, 0)) := setRow_heap _ _ _ _ _ _ n0
      have b1 := (OnlyAt.setRow wr.heap.size (wr.alloc (.cells #[.int .i64 0, .slice none 0 0] 58)) #[.int .i64 (i : Int), x.v]).below (below_alloc (Below.refl _ wr) _) (Nat.le_refl _)
      have h2 := hD.below b1
      have hx2 : x.In ((wr.alloc (.cells #[.int .i64 0, .slice none 0 0] 58)).setRow wr.heap.size #[.int .i64 (i : Int), x.v]) Z.R := hpm.2.keep (fun k hk => b1.block k (hD.lt k (hD.sub k hk))) (fun _ hk => hk)
      have hNS : ¬ Z.S wr.heap.size := fun hs => absurd (hD.lt _ hs) (Nat.lt_irrefl _)
      have s2 := hSt.trans (Step.of_below Z b1)
      have hall : (#[.int .i64 (i : Int), x.v] : Array Value).all (·.oneCell') = true := all_oneCell_toArray (wrC_one (i, x))
      have H2 := hide h2
      have HN1 := hide n1
      clear hD n0 n1 b1 h2 hwg hob
      go_wp2_with (first
        | (refine wpList_newA (by rfl) 58 (by rfl) _ zero_wr wr.heap.size rfl ?_)
        | (refine wpList_load_mid rfl 58 _ (by rfl) gw (k * 2) (by rfl) (wrC (i, x)) _ hr Tryd.underlying58 rfl Tryd.size_wr ?_)
        | (refine wpList_putS Tryd.size_wr (by rfl) _ _ (by rfl) wr.heap.size #[.int .i64 (i : Int), x.v] (by rfl) (by rfl) _ HN.out (by rfl) (by rfl) hall ?_))
      have h2 := H2.out
      have n1 := HN1.out
      clear H2 HN1 HN hr hSt hall
      generalize ((wr.alloc (.cells #[.int .i64 0, .slice none 0 0] 58)).setRow wr.heap.size #[.int .i64 (i : Int), x.v]) = W at *
      have t1 : W.cell? ⟨g, 1, none⟩ = some (.slice (some ⟨gb, 0, none⟩) D.n D.n) := h2.c1
      have t2 : W.cell? ⟨wr.heap.size, 0, none⟩ = some (.int .i64 (i : Int)) := cell_of_row W _ 0 _ _ _ n1
      have t3 : W.cell? ⟨wr.heap.size, 1, none⟩ = some x.v := cell_of_row W _ 1 _ _ _ n1
      have hin : i < D.n := hpm.1
      refine wp_region_ord 1000 [0, 1, 2, 3, 4, 5, 6, 7, 8, 9, 10] (fun w' => w'.cell? ⟨g, 1, none⟩ = some (.slice (some ⟨gb, 0, none⟩) D.n D.n) ∧ w'.cell? ⟨wr.heap.size, 0, none⟩ = some (.int .i64 (i : Int)) ∧ w'.cell? ⟨wr.heap.size, 1, none⟩ = some x.v) (fun _ => True) (by kernel_rfl) (by kernel_rfl) (by kernel_rfl) ⟨t1, t2, t3⟩ trivial (fun _ _ => ?_)
      have h3 := h2.drew
      have s3 := s2.drew
      have hx3 : x.In W.drew Z.R := hx2.keep (fun _ _ => rfl) (fun _ hk => hk)
      have n3 : W.drew.heap[wr.heap.size]? = some (.cells #[.int .i64 (i : Int), x.v] 58 (0, 0)) := n1
      clear h2 s2 hx2 t1 t2 t3 n1 hpm
      generalize W.drew = W1 at *
      refine wpOrd_quiet (v := ?_) rfl rfl (fun _ _ _ h => h) (by rfl) ?_ ?_
      rotate_left
      · (intro w' hT _; obtain ⟨t1, t2, t3⟩ := hT; go_simp; try rfl)
      simp only [Act.put, List.setIfInBounds_toArray, List.set_cons_zero, List.set_cons_succ]
      refine wpOrd_quiet (v := ?_) rfl rfl (fun _ _ _ h => h) (by rfl) ?_ ?_
      rotate_left
      · (intro w' hT _; obtain ⟨t1, t2, t3⟩ := hT; go_simp; try rfl)
      simp only [Act.put, List.setIfInBounds_toArray, List.set_cons_zero, List.set_cons_succ]
      refine wpOrd_quiet (v := ?_) rfl rfl (fun _ _ _ h => h) (by rfl) ?_ ?_
      rotate_left
      · (intro w' hT _; obtain ⟨t1, t2, t3⟩ := hT; go_simp; try rfl)
      simp only [Act.put, List.setIfInBounds_toArray, List.set_cons_zero, List.set_cons_succ]
      refine wpOrd_quiet (v := ?_) rfl rfl (fun _ _ _ h => h) (by rfl) ?_ ?_
      rotate_left
      · (intro w' hT _; obtain ⟨t1, t2, t3⟩ := hT; go_simp; try rfl)
      simp only [Act.put, List.setIfInBounds_toArray, List.set_cons_zero, List.set_cons_succ]
      refine wpOrd_quiet (v := ?_) rfl rfl (fun _ _ _ h => h) (by rfl) ?_ ?_
      rotate_left
      · (intro w' hT _; obtain ⟨t1, t2, t3⟩ := hT; go_simp; try rfl)
      simp only [Act.put, List.setIfInBounds_toArray, List.set_cons_zero, List.set_cons_succ]
      refine wpOrd_quiet (v := ?_) rfl rfl (fun _ _ _ h => h) (by rfl) ?_ ?_
      rotate_left
      · (intro w' hT _; obtain ⟨t1, t2, t3⟩ := hT; go_simp; try rfl)
      simp only [Act.put, List.setIfInBounds_toArray, List.set_cons_zero, List.set_cons_succ]
      refine wpOrd_quiet (v := ?_) rfl rfl (fun _ _ _ h => h) (by rfl) ?_ ?_
      rotate_left
      · (intro w' hT _; obtain ⟨t1, t2, t3⟩ := hT; go_simp; try rfl)
      simp only [Act.put, List.setIfInBounds_toArray, List.set_cons_zero, List.set_cons_succ]
      refine wpOrd_quiet (v := ?_) rfl rfl (fun _ _ _ h => h) (by rfl) ?_ ?_
      rotate_left
      · (intro w' hT _; obtain ⟨t1, t2, t3⟩ := hT; go_simp; try rfl)
      simp only [Act.put, List.setIfInBounds_toArray, List.set_cons_zero, List.set_cons_succ]
      refine wpOrd_quiet (v := ?_) rfl rfl (fun _ _ _ h => h) (by rfl) ?_ ?_
      rotate_left
      · (intro w' hT _; obtain ⟨t1, t2, t3⟩ := hT; go_simp; try rfl)
      simp only [Act.put, List.setIfInBounds_toArray, List.set_cons_zero, List.set_cons_succ]
      refine wpOrd_quiet (v := ?_) rfl rfl (fun _ _ _ h => h) (by rfl) ?_ ?_
      rotate_left
      · (intro w' hT _; obtain ⟨t1, t2, t3⟩ := hT; go_simp; try rfl)
      simp only [Act.put, List.setIfInBounds_toArray, List.set_cons_zero, List.set_cons_succ]
      have cb : W1.cell? ⟨gb, i * 2 + 1, none⟩ = some ((flushN D.blk (D.wait.take k)) i).2.v := by rw [Nat.mul_comm]; exact h3.cb1 i hin
      have fb := h3.frozb (i * 2 + 1)
      obtain ⟨h4, s4⟩ := h3.setF i x hx3
      have hgb : wr.heap.size ≠ gb := fun e => hNS (e ▸ h3.bS)
      rw [Nat.mul_comm 2 i] at h4 s4
      have n4 : (W1.setCell ⟨gb, i * 2 + 1, none⟩ x.v).heap[wr.heap.size]? = some (.cells #[.int .i64 (i : Int), x.v] 58 (0, 0)) := ((OnlyAt.setC gb (i * 2 + 1) W1 x.v).block _ hgb).trans n3
      have s5 := s3.trans s4
      refine wpOrd_step rfl rfl (by rfl) (fun K' hK => ?_)
      go_simp
      refine hK.out _ _ ⟨h4.c1, cell_of_row _ _ 0 _ _ _ n4, cell_of_row _ _ 1 _ _ _ n4⟩ (fun h => absurd h (by decide)) (fun _ => ?_)
      clear hK K'
      refine wpOrd_nil ?_
      have e : updF (flushN D.blk (D.wait.take k)) i x = flushN D.blk (D.wait.take (k + 1)) := by rw [take_next _ _ _ hp, flushN_snoc]
      rw [e] at h4
      clear h3 s3 s4 n3 n4 cb fb hx3 e
      go_wp2_with fail
      go_roundw
      case rel => exact ⟨k + 1, by omega, by go_num, h4, s5⟩
      case measure => simp [intOf]; omega
    · obtain rfl : k = D.wait.length := by omega
      rw [List.take_length] at hD
      have c2 := hD.c2
      have f2 := hD.froz 2
      obtain ⟨Z2, h6, s6⟩ := hD.setWait [] (w1 := wr) (wv' := .slice none 0 0) ⟨rfl, rfl, rfl, Nat.le_refl _, fun _ _ _ => rfl⟩ (World.ownsRow_nil _ _ _ _) (fun _ h => by cases h) (.inl rfl)
      have HR := hide (record_any h6 3 0 (Bs.nil _) BV.nil (BV.In.nil _ _) hlim)
      have S6 := hSt.trans s6
      clear hD h6 s6 hwg hSt
      go_wp2_with fail
      refine HR.out.mono ?_
      rintro e w6 ⟨rfl, Z', tv', h7, s7⟩
      clear HR c2 f2
      go_wp2_with fail
      refine bodyPost_end (results_none rfl _ _ _) rfl ?_
      exact ⟨Z', rfl, ⟨gb, _, tv', h7⟩, S6.trans s7⟩
#print axioms flush_ok
end Go.Proofs.YtlicafjhkbofbaaDoor
