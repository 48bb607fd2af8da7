
/- What two places tell, beginning by beginning, however the power goes and whatever is kept, lost or garbled: facts about devices alone; the closure of dumbwaiterlaw8.BootRises. No conditions but those that each line states. -/
import Derived.Test.YtgkhaedlfmloeaaDoorBAwake
namespace Go.Proofs.YtgkhaedlfmloeaaDoor
open Go.RowKit

/-- What a block tells. -/
def tellN (zs : List Int) : Int := recN (fitL 40 zs)
/-- Nothing waits; the first place tells an odd number or none, the second one an even one; none is lost. -/
structure Rise (D : DS) (last : Int) : Prop where
  size : D.size = 40
  n : D.n = 3
  wait : D.wait = []
  same : ∀ j, (D.blk j).1.zs = (D.blk j).2.zs
  odd : tellN (D.blk 0).1.zs = 0 ∨ tellN (D.blk 0).1.zs % 2 = 1
  even : tellN (D.blk 1).1.zs % 2 = 0
  nn : 0 ≤ tellN (D.blk 0).1.zs ∧ 0 ≤ tellN (D.blk 1).1.zs
  low : last ≤ topN D 0
theorem topN_tell {D : DS} (h : D.size = 40) : topN D 0 = max (tellN (D.blk 0).1.zs) (tellN (D.blk 1).1.zs) := by
  unfold topN tellN
  rw [h]
theorem Rise.new : Rise (DS.new 3 40) 0 :=
  ⟨rfl, rfl, rfl, fun _ => rfl, .inl (recN_nought 40), by show recN (fitL 40 []) % 2 = 0; rw [recN_nought]; rfl, ⟨by show 0 ≤ recN (fitL 40 []); rw [recN_nought]; omega, by show 0 ≤ recN (fitL 40 []); rw [recN_nought]; omega⟩, by rw [topN_new]; omega⟩
theorem Rise.looks {D : DS} {last : Int} (h : Rise D last) : Rise (D.looks 0) last := ⟨h.size, h.n, h.wait, h.same, h.odd, h.even, h.nn, h.low⟩
/-- All but one place is as it was, and that one tells what was told there, or one more than all, or nothing. -/
theorem Rise.next {D D2 : DS} {last N M : Int} (h : Rise D last) (hN : topN D 0 = N) (hs : D2.size = 40) (hn : D2.n = 3) (hw : D2.wait = []) (hsame : ∀ j, (D2.blk j).1.zs = (D2.blk j).2.zs)
    (ho : ∀ j, j ≠ plB (N + 1) 0 → (D2.blk j).1.zs = (D.blk j).1.zs) (hM : tellN (D2.blk (plB (N + 1) 0)).1.zs = M) (hMc : M = 0 ∨ M = N + 1 ∨ M = tellN (D.blk (plB (N + 1) 0)).1.zs) :
    Rise D2 last ∧ topN D2 0 ≤ N + 1 ∧ (M = N + 1 → topN D2 0 = N + 1) := by
  have h1 := h.odd
  have h2 := h.even
  have h3 := h.nn
  have h4 := h.low
  have h5 := topN_tell h.size
  have h6 := topN_tell hs
  rw [hN] at h4 h5
  by_cases hp : (N + 1) % 2 = 1
  · have e : plB (N + 1) 0 = 0 := by simp [plB, hp]
    rw [e] at ho hM hMc
    have h7 := ho 1 (by omega)
    rw [h7, hM] at h6
    refine ⟨⟨hs, hn, hw, hsame, ?_, ?_, ?_, ?_⟩, ?_, ?_⟩
    · rw [hM]; omega
    · rw [h7]; omega
    · rw [hM, h7]; omega
    · omega
    · omega
    · omega
  · have e : plB (N + 1) 0 = 1 := by simp [plB, hp]
    rw [e] at ho hM hMc
    have h7 := ho 0 (by omega)
    rw [h7, hM] at h6
    refine ⟨⟨hs, hn, hw, hsame, ?_, ?_, ?_, ?_⟩, ?_, ?_⟩
    · rw [h7]; omega
    · rw [hM]; omega
    · rw [hM, h7]; omega
    · omega
    · omega
    · omega
theorem Rise.raise {D : DS} {last N : Int} (h : Rise D last) (hN : topN D 0 = N) : Rise D N := ⟨h.size, h.n, h.wait, h.same, h.odd, h.even, h.nn, by omega⟩

theorem zOf_1 {b : Nat → BV × BV} {f : Nat → List Int × List Int} (h : zOf b = f) (j : Nat) : (b j).1.zs = (f j).1 := congrArg Prod.fst (congrFun h j)
theorem zOf_2 {b : Nat → BV × BV} {f : Nat → List Int × List Int} (h : zOf b = f) (j : Nat) : (b j).2.zs = (f j).2 := congrArg Prod.snd (congrFun h j)

/-- Had, and then a crash. -/
theorem rise_ok {D : DS} {last N c : Int} {x : BV} {b : Nat → BV × BV} {ch : List Int} (h : Rise D last) (hN : topN D 0 = N) (h0 : 0 ≤ N) (h1 : N < 4294967295) (hx : x.zs = recL (N + 1))
    (hb : zOf b = crashN (DS.begun { D with left := c } 0 (N + 1) x).size ch (zOf (DS.begun { D with left := c } 0 (N + 1) x).blk) (wz (DS.begun { D with left := c } 0 (N + 1) x).wait)) :
    Rise ((DS.begun { D with left := c } 0 (N + 1) x).crash b) (N + 1) ∧ topN ((DS.begun { D with left := c } 0 (N + 1) x).crash b) 0 = N + 1 := by
  have hw : ({ D with left := c } : DS).wait = [] := h.wait
  have e : ∀ j, (DS.begun { D with left := c } 0 (N + 1) x).blk j = if j = plB (N + 1) 0 then (x, x) else D.blk j := fun j => begun_blk hw j
  have f1 : ∀ j, (b j).1.zs = ((if j = plB (N + 1) 0 then (x, x) else D.blk j) : BV × BV).1.zs := fun j => by
    rw [zOf_1 hb j, ← e j]; rfl
  have f2 : ∀ j, (b j).2.zs = ((if j = plB (N + 1) 0 then (x, x) else D.blk j) : BV × BV).2.zs := fun j => by
    rw [zOf_2 hb j, ← e j]; rfl
  have key := Rise.next (D2 := (DS.begun { D with left := c } 0 (N + 1) x).crash b) (M := N + 1) h hN h.size h.n rfl (fun j => by
    show (b j).1.zs = (b j).2.zs
    rw [f1, f2]
    split
    · rfl
    · exact h.same j) (fun j hj => by
    show (b j).1.zs = _
    rw [f1, if_neg hj]) (by
    show tellN (b _).1.zs = _
    rw [f1, if_pos rfl, hx]
    exact recN_fit _ _ (by omega) (by omega)) (.inr (.inl rfl))
  have ht := key.2.2 rfl
  exact ⟨key.1.raise ht, ht⟩
theorem tell_pick {N : Int} {zs old : List Int} {c : Int} (h : zs = recL (N + 1)) (h0 : 0 ≤ N) (h1 : N < 4294967295) : tellN (pickZ 40 zs old c) = 0 ∨ tellN (pickZ 40 zs old c) = N + 1 ∨ tellN (pickZ 40 zs old c) = tellN old := by
  subst h
  unfold pickZ tellN
  split
  · exact .inr (.inr rfl)
  · split
    · left
      rw [fitL_self _ _ (by rw [badL_length, fitL_length])]
      exact recN_bad _ _ (by omega)
    · right; left
      exact recN_fit _ _ (by omega) (by omega)
/-- Ended by the power, and then a crash. -/
theorem rise_cut {D D1 : DS} {last N c : Int} {b : Nat → BV × BV} {ch : List Int} (h : Rise D last) (hN : topN D 0 = N) (h0 : 0 ≤ N) (h1 : N < 4294967295) (hC : Cutoff { D with left := c } 0 N D1)
    (hb : zOf b = crashN D1.size ch (zOf D1.blk) (wz D1.wait)) : Rise (D1.crash b) last ∧ topN (D1.crash b) 0 ≤ N + 1 := by
  have still : D1.size = D.size → D1.n = D.n → D1.blk = D.blk → D1.wait = [] → Rise (D1.crash b) last ∧ topN (D1.crash b) 0 ≤ N + 1 := fun hs hn e ew => by
    rw [e, ew] at hb
    have f1 : ∀ j, (b j).1.zs = (D.blk j).1.zs := fun j => zOf_1 hb j
    have f2 : ∀ j, (b j).2.zs = (D.blk j).2.zs := fun j => zOf_2 hb j
    have key := Rise.next (D2 := D1.crash b) h hN (hs.trans h.size) (hn.trans h.n) rfl (fun j => by show (b j).1.zs = (b j).2.zs; rw [f1, f2]; exact h.same j) (fun j _ => f1 j) (by show tellN (b _).1.zs = _; rw [f1]) (.inr (.inr rfl))
    exact ⟨key.1, key.2.1⟩
  rcases hC with rfl | rfl | rfl | ⟨x, hx, rfl⟩
  · exact still rfl rfl rfl h.wait
  · exact still rfl rfl rfl h.wait
  · exact still rfl rfl rfl h.wait
  · have ew : (DS.writes (DS.looks { D with left := c } 0) (plB (N + 1) 0) x).wait = [(plB (N + 1) 0, x)] := by
      show D.wait ++ [(plB (N + 1) 0, x)] = _
      rw [h.wait]; rfl
    rw [ew] at hb
    have es : (DS.writes (DS.looks { D with left := c } 0) (plB (N + 1) 0) x).size = 40 := h.size
    rw [es] at hb
    have eb : zOf b = fun j => if j = plB (N + 1) 0 then (pickZ 40 x.zs (D.blk (plB (N + 1) 0)).2.zs (chL ch 0), pickZ 40 x.zs (D.blk (plB (N + 1) 0)).2.zs (chL ch 0)) else zOf D.blk j := by
      have eu : ∀ j, zOf (updW D.blk (plB (N + 1) 0) x) j = if j = plB (N + 1) 0 then (x.zs, (D.blk (plB (N + 1) 0)).2.zs) else zOf D.blk j := fun j => by
        unfold zOf updW
        by_cases hj : j = plB (N + 1) 0
        · simp [hj]
        · simp [hj]
      rw [hb]
      funext j
      show (if j = plB (N + 1) 0 then (pickZ 40 x.zs (zOf (updW D.blk (plB (N + 1) 0) x) (plB (N + 1) 0)).2 (chL ch 0), pickZ 40 x.zs (zOf (updW D.blk (plB (N + 1) 0) x) (plB (N + 1) 0)).2 (chL ch 0)) else zOf (updW D.blk (plB (N + 1) 0) x) j) = _
      rw [eu, if_pos rfl, eu]
      by_cases hj : j = plB (N + 1) 0
      · rw [if_pos hj, if_pos hj]
      · rw [if_neg hj, if_neg hj, if_neg hj]
    have f1 := zOf_1 eb
    have f2 := zOf_2 eb
    have hp := tell_pick (old := (D.blk (plB (N + 1) 0)).2.zs) (c := chL ch 0) hx h0 h1
    have key := Rise.next (D2 := (DS.writes (DS.looks { D with left := c } 0) (plB (N + 1) 0) x).crash b) h hN h.size h.n rfl (fun j => by
      show (b j).1.zs = (b j).2.zs
      rw [f1, f2]
      split
      · rfl
      · exact h.same j) (fun j hj => by
      show (b j).1.zs = _
      rw [f1]
      rw [if_neg hj]
      rfl) rfl (by
      show tellN (b _).1.zs = 0 ∨ tellN (b _).1.zs = _ ∨ tellN (b _).1.zs = _
      rw [f1]
      rw [if_pos rfl, h.same]
      exact hp)
    exact ⟨key.1, key.2.1⟩
theorem Cutoff.len {D D1 : DS} {N : Int} (h : Cutoff D 0 N D1) : D1.tr.length ≤ D.tr.length + 3 := by
  rcases h with rfl | rfl | rfl | ⟨x, _, rfl⟩
  · omega
  · show (D.tr ++ [_]).length ≤ _
    simp
  · rw [looks_len]; omega
  · rw [writes_len, looks_len]; omega
#print axioms rise_ok
#print axioms rise_cut
end Go.Proofs.YtgkhaedlfmloeaaDoor
