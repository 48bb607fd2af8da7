
/- What a log holds, rec by rec, where the power goes and whatever is kept, lost or garbled fairly: facts about devices alone. No conditions but those that each line states. -/
import Derived.Test.YtkpkipjelpedeaaDoorXRing
import Derived.Test.YtkpkipjelpedeaaDoorUHold
namespace Go.Proofs.YtkpkipjelpedeaaDoor
open Go.RowKit
set_option maxRecDepth 20000

/-- Nothing waits, none is lost; the log of epoch 7, from block 2 on, of 16 places, holds rs; behind it nothing is opened. -/
structure LogP (key : List Int) (D : DS) (rs : List (List Int)) : Prop where
  size : D.size = 80
  nb : D.n = 20
  wait : D.wait = []
  same : ∀ j, (D.blk j).1.zs = (D.blk j).2.zs
  quiet : Quiet D
  ok : ∀ j (h : j < rs.length), txtR key D 2 j = headR 7 (j : Int) ++ rs[j]
  rest : ∀ j, rs.length ≤ j → openB key (D.at_ (2 + j)) = false
  le : rs.length ≤ 16
theorem LogP.start {key : List Int} {D : DS} (h1 : D.size = 80) (h2 : D.n = 20) (h3 : D.wait = []) (h4 : ∀ j, (D.blk j).1.zs = (D.blk j).2.zs) (h5 : Quiet D) (h6 : ∀ j, openB key (D.at_ j) = false) : LogP key D [] :=
  ⟨h1, h2, h3, h4, h5, fun j hj => absurd hj (Nat.not_lt_zero j), fun _ _ => h6 _, Nat.zero_le _⟩
theorem LogP.cut {key : List Int} {D : DS} {rs : List (List Int)} (h : LogP key D rs) (c : Int) : LogP key { D with left := c } rs := ⟨h.size, h.nb, h.wait, h.same, h.quiet, h.ok, h.rest, h.le⟩
/-- What is loaded of texts like these. -/
theorem logP_load {key : List Int} {D : DS} {rs : List (List Int)} (ok : ∀ j (h : j < rs.length), txtR key D 2 j = headR 7 (j : Int) ++ rs[j]) (rest : rs.length < 16 → openB key (D.at_ (2 + rs.length)) = false) (le : rs.length ≤ 16) : loadL (txtR key D 2) 7 16 = rs :=
  loadL_all ok le fun h => by rw [txt_closed (rest h)]; exact okR_nil _ _
theorem txt_at {key : List Int} {D D' : DS} {b j : Nat} (h : D'.at_ (b + j) = D.at_ (b + j)) : txtR key D' b j = txtR key D b j := by unfold txtR; rw [h]
section
variable {key : List Int} {D : DS} {rs : List (List Int)} {r : List Int} {bt sq : Int} {x : BV}
theorem seal_fit (hl : r.length ≤ 46) : fitL 80 (sealL key bt sq (headR 7 (rs.length : Int) ++ r) 58) = sealL key bt sq (headR 7 (rs.length : Int) ++ r) 58 := fitL_sealL _ _ _ _ _ _ (by rw [List.length_append, headR_length]; omega) rfl
theorem txt_new {D' : DS} (ha : D'.at_ (2 + rs.length) = sealL key bt sq (headR 7 (rs.length : Int) ++ r) 58) (hb : 0 ≤ bt ∧ bt < 4294967296) (hs : 0 ≤ sq ∧ sq < 18446744073709551616) (hr : IsBytes r) (hl : r.length ≤ 46) : txtR key D' 2 rs.length = headR 7 (rs.length : Int) ++ r :=
  txt_sealed ha hb hs ((headR_bytes _ _).append hr) (by rw [List.length_append, headR_length]; omega) (by omega)
theorem ok_snoc {D' : DS} (h : LogP key D rs) (ho : ∀ j, j < rs.length → D'.at_ (2 + j) = D.at_ (2 + j)) (hn : txtR key D' 2 rs.length = headR 7 (rs.length : Int) ++ r) : ∀ j (hj : j < (rs ++ [r]).length), txtR key D' 2 j = headR 7 (j : Int) ++ (rs ++ [r])[j] := fun j hj => by
  rw [List.length_append, List.length_singleton] at hj
  by_cases hje : j = rs.length
  · subst hje
    rw [hn, List.getElem_append_right (Nat.le_refl _)]
    simp
  · rw [txt_at (ho j (by omega)), List.getElem_append_left (by omega)]
    exact h.ok j (by omega)
/-- A rec more, written and flushed. -/
theorem LogP.next (h : LogP key D rs) (hlt : rs.length < 16) (hx : x.zs = sealL key bt sq (headR 7 (rs.length : Int) ++ r) 58) (hb : 0 ≤ bt ∧ bt < 4294967296) (hs : 0 ≤ sq ∧ sq < 18446744073709551616) (hr : IsBytes r) (hl : r.length ≤ 46) (i : Int) (hi : i = ((2 + rs.length : Nat) : Int)) : LogP key (D.done i x) (rs ++ [r]) := by
  subst hi
  have hj : 2 + rs.length < D.n := by rw [h.nb]; omega
  have ha : ∀ k, (D.done ((2 + rs.length : Nat) : Int) x).at_ k = if k = 2 + rs.length then sealL key bt sq (headR 7 (rs.length : Int) ++ r) 58 else D.at_ k := fun k => by
    rw [done_at _ _ _ _ hj, hx, h.size, seal_fit hl]
  obtain ⟨f1, f2, f3, f4⟩ := done_is D ((2 + rs.length : Nat) : Int) x
  refine ⟨f1.trans h.size, f2.trans h.nb, f4, fun j => ?_, quiet_done _ _ _, ok_snoc h (fun j hj => by rw [ha, if_neg (by omega)]) (txt_new (by rw [ha, if_pos rfl]) hb hs hr hl), fun j hjl => ?_, by rw [List.length_append, List.length_singleton]; omega⟩
  · rw [done_blk h.wait _ _ _ hj]
    split
    · rfl
    · exact h.same j
  · rw [List.length_append, List.length_singleton] at hjl
    rw [ha, if_neg (by omega)]
    exact h.rest j (by omega)
/-- A fair crash where nothing waits. -/
theorem LogP.crash (h : LogP key D rs) {b : Nat → BV × BV} {ch : List Int} (hz : zOf b = crashN D.size (fairL key D ch) (zOf D.blk) (wz D.wait)) : loadL (txtR key (D.crash b) 2) 7 16 = rs := by
  have hw : wz D.wait = [] := by rw [h.wait]; rfl
  rw [hw] at hz
  have g1 : ∀ i, (D.crash b).at_ i = D.at_ i := fun i => by
    show fitL D.size (b i).1.zs = fitL D.size (D.blk i).1.zs
    rw [zOf_one hz i]
    rfl
  exact logP_load (fun j hj => (txt_at (g1 _)).trans (h.ok j hj)) (fun _ => by rw [g1]; exact h.rest _ (Nat.le_refl _)) h.le
/-- What is left where the power ended it. -/
def BrokenR (key : List Int) (D : DS) (bt sq : Int) (rs : List (List Int)) (r : List Int) (D' : DS) : Prop := D' = D ∨ ∃ x : BV, x.zs = sealL key bt sq (headR 7 (rs.length : Int) ++ r) 58 ∧ D' = D.puts ((2 + rs.length : Nat) : Int) x
theorem BrokenR.len {D' : DS} (h : BrokenR key D bt sq rs r D') : D'.tr.length ≤ D.tr.length + 1 := by
  rcases h with rfl | ⟨x, -, rfl⟩
  · omega
  · rw [puts_len]; omega
theorem BrokenR.is {D' : DS} (h : BrokenR key D bt sq rs r D') : D'.size = D.size ∧ D'.n = D.n := by
  rcases h with rfl | ⟨x, -, rfl⟩
  · exact ⟨rfl, rfl⟩
  · exact ⟨(puts_is _ _ _).1, (puts_is _ _ _).2.1⟩
/-- Ended by the power, and then a fair crash. -/
theorem LogP.broken {D' : DS} (h : LogP key D rs) (hlt : rs.length < 16) (hB : BrokenR key D bt sq rs r D') (hb : 0 ≤ bt ∧ bt < 4294967296) (hs : 0 ≤ sq ∧ sq < 18446744073709551616) (hr : IsBytes r) (hl : r.length ≤ 46) {b : Nat → BV × BV} {ch : List Int} (hz : zOf b = crashN D'.size (fairL key D' ch) (zOf D'.blk) (wz D'.wait)) : loadL (txtR key (D'.crash b) 2) 7 16 = rs ∨ loadL (txtR key (D'.crash b) 2) 7 16 = rs ++ [r] := by
  rcases hB with rfl | ⟨x, hx, rfl⟩
  · exact .inl (h.crash hz)
  · have hj : 2 + rs.length < D.n := by rw [h.nb]; omega
    obtain ⟨k, hk⟩ : ∃ k, 2 + rs.length = k := ⟨_, rfl⟩
    obtain ⟨f1, f2, f3⟩ := puts_is D ((2 + rs.length : Nat) : Int) x
    have hfit : fitL 80 x.zs = x.zs := by rw [hx]; exact seal_fit hl
    have hw : wz (D.puts ((2 + rs.length : Nat) : Int) x).wait = [(2 + rs.length, x.zs)] := by
      rw [puts_wait_in _ _ _ hj, h.wait]
      rfl
    have hf := h.quiet.puts key ch (2 + rs.length) x hj
    rw [h.size, hfit] at hf
    rw [hw, f1, h.size, hf, puts_blk _ _ hj] at hz
    obtain ⟨C, hC⟩ : ∃ C, fairC key x.zs (chL ch 0) = C := ⟨_, rfl⟩
    have hcs := fairC_cases key x.zs (chL_cases ch 0)
    rw [hC] at hcs hz
    have hch : chL [C] 0 = C := by
      show C % 3 = C
      rcases hcs with h1 | h1 | h1 <;> omega
    have e : ∀ i, (crashN 80 [C] (fun i => if i = 2 + rs.length then (x.zs, (D.blk (2 + rs.length)).2.zs) else zOf D.blk i) [(2 + rs.length, x.zs)]) i = if i = 2 + rs.length then (pickZ 80 x.zs (D.blk (2 + rs.length)).2.zs C, pickZ 80 x.zs (D.blk (2 + rs.length)).2.zs C) else zOf D.blk i := fun i => by
      show (if i = 2 + rs.length then (pickZ 80 x.zs ((if 2 + rs.length = 2 + rs.length then (x.zs, (D.blk (2 + rs.length)).2.zs) else zOf D.blk (2 + rs.length)) : List Int × List Int).2 (chL [C] 0), pickZ 80 x.zs ((if 2 + rs.length = 2 + rs.length then (x.zs, (D.blk (2 + rs.length)).2.zs) else zOf D.blk (2 + rs.length)) : List Int × List Int).2 (chL [C] 0)) else (if i = 2 + rs.length then (x.zs, (D.blk (2 + rs.length)).2.zs) else zOf D.blk i)) = _
      rw [hch]
      by_cases hi : i = 2 + rs.length
      · simp [hi]
      · simp [hi]
    have g1 : ∀ i, (b i).1.zs = ((if i = 2 + rs.length then (pickZ 80 x.zs (D.blk (2 + rs.length)).2.zs C, pickZ 80 x.zs (D.blk (2 + rs.length)).2.zs C) else zOf D.blk i) : List Int × List Int).1 := fun i => by rw [← e i]; exact zOf_one hz i
    have ho : ∀ i, i ≠ 2 + rs.length → ((D.puts ((2 + rs.length : Nat) : Int) x).crash b).at_ i = D.at_ i := fun i hi => by
      show fitL (D.puts ((2 + rs.length : Nat) : Int) x).size (b i).1.zs = fitL D.size (D.blk i).1.zs
      rw [g1, if_neg hi, f1]
      rfl
    have hn : ((D.puts ((2 + rs.length : Nat) : Int) x).crash b).at_ (2 + rs.length) = fitL 80 (pickZ 80 x.zs (D.blk (2 + rs.length)).2.zs C) := by
      show fitL (D.puts ((2 + rs.length : Nat) : Int) x).size (b (2 + rs.length)).1.zs = _
      rw [g1, if_pos rfl, f1, h.size]
    have hold : ∀ j (hj : j < rs.length), txtR key ((D.puts ((2 + rs.length : Nat) : Int) x).crash b) 2 j = headR 7 (j : Int) ++ rs[j] := fun j hj => (txt_at (ho _ (by omega))).trans (h.ok j hj)
    rcases hcs with rfl | rfl | ⟨rfl, hcl⟩
    · refine .inr (logP_load (ok_snoc h (fun j hj => ho _ (by omega)) (txt_new ?_ hb hs hr hl)) (fun _ => ?_) (by rw [List.length_append, List.length_singleton]; omega))
      · rw [hn]
        show fitL 80 x.zs = _
        rw [hfit, hx]
      · rw [List.length_append, List.length_singleton, ho _ (by omega)]
        exact h.rest _ (by omega)
    · refine .inl (logP_load hold (fun _ => ?_) h.le)
      rw [hn]
      show openB key (fitL 80 (D.blk (2 + rs.length)).2.zs) = false
      rw [← h.same]
      have := h.rest rs.length (Nat.le_refl _)
      unfold DS.at_ at this
      rwa [h.size] at this
    · refine .inl (logP_load hold (fun _ => ?_) h.le)
      rw [hn]
      show openB key (fitL 80 (badL (fitL 80 x.zs))) = false
      rw [hfit, fitL_self 80 (badL x.zs) (by rw [badL_length, ← hfit, fitL_length])]
      exact hcl
end
#print axioms LogP.next
#print axioms LogP.broken
end Go.Proofs.YtkpkipjelpedeaaDoor
