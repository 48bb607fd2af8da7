/- What is wanted of the device, in rows of four bytes: the rows of a list of 32 bytes, and what writes, flushes and crashes make of them. -/
import Derived.Test.YtlicafjhkbofbaaDoorKAwake
namespace Go.Proofs.YtlicafjhkbofbaaDoor
open Go.RowKit

/-- Row i of rows of four bytes. -/
def sub4 (zs : List Int) (i : Nat) : List Int := (zs.drop (4 * i)).take 4
theorem sub4_get (zs : List Int) (i j : Nat) : (sub4 zs i)[j]? = if j < 4 then zs[4 * i + j]? else none := by
  unfold sub4
  rw [List.getElem?_take]
  split
  · rw [List.getElem?_drop]
  · rfl
theorem sub4_length (zs : List Int) (i : Nat) (hz : zs.length = 32) (hi : i < 8) : (sub4 zs i).length = 4 := by
  unfold sub4
  rw [List.length_take, List.length_drop]
  omega
theorem splice_get {α : Type} (L : List α) (off : Nat) (cs : List α) (h : off + cs.length ≤ L.length) (j : Nat) : (splice L off cs)[j]? = if j < off then L[j]? else if j < off + cs.length then cs[j - off]? else L[j]? := by
  unfold splice
  by_cases h1 : j < off
  · rw [if_pos h1, List.getElem?_append_left (by rw [List.length_take]; omega), List.getElem?_take, if_pos h1]
  · rw [if_neg h1, List.getElem?_append_right (by rw [List.length_take]; omega), List.length_take, Nat.min_eq_left (by omega)]
    by_cases h2 : j < off + cs.length
    · rw [if_pos h2, List.getElem?_append_left (by omega)]
    · rw [if_neg h2, List.getElem?_append_right (by omega), List.getElem?_drop]
      congr 1
      omega
theorem splice_length {α : Type} (L : List α) (off : Nat) (cs : List α) (h : off + cs.length ≤ L.length) : (splice L off cs).length = L.length := by
  unfold splice
  rw [List.length_append, List.length_append, List.length_take, List.length_drop]
  omega
theorem splice_bytes {L cs : List Int} {off : Nat} (hL : IsBytes L) (hc : IsBytes cs) : IsBytes (splice L off cs) := by
  unfold splice
  exact (hL.take _).append (hc.append (fun z hz => hL z (List.mem_of_mem_drop hz)))
theorem sub4_splice (zs ys : List Int) (i k : Nat) (hz : zs.length = 32) (hi : i < 8) (hy : ys.length ≤ 4) : sub4 (splice zs (4 * i) ys) k = if k = i then splice (sub4 zs i) 0 ys else sub4 zs k := by
  apply List.ext_getElem?
  intro j
  rw [sub4_get, splice_get _ _ _ (by omega)]
  by_cases hk : k = i
  · subst hk
    rw [if_pos rfl, splice_get _ _ _ (by rw [sub4_length _ _ hz hi]; omega), sub4_get]
    have n1 : ¬ 4 * k + j < 4 * k := by omega
    have n2 : ¬ j < 0 := by omega
    rw [if_neg n1, if_neg n2]
    by_cases h4 : j < 4
    · by_cases h5 : j < ys.length
      · have p1 : 4 * k + j < 4 * k + ys.length := by omega
        have p2 : j < 0 + ys.length := by omega
        rw [if_pos h4, if_pos p1, if_pos p2]
        congr 1
        omega
      · have p1 : ¬ 4 * k + j < 4 * k + ys.length := by omega
        have p2 : ¬ j < 0 + ys.length := by omega
        rw [if_pos h4, if_neg p1, if_neg p2, if_pos h4]
    · have p2 : ¬ j < 0 + ys.length := by omega
      rw [if_neg h4, if_neg p2, if_neg h4]
  · rw [if_neg hk, sub4_get]
    by_cases h4 : j < 4
    · rw [if_pos h4, if_pos h4]
      by_cases h5 : 4 * k + j < 4 * i
      · rw [if_pos h5]
      · rw [if_neg h5, if_neg (by omega)]
    · rw [if_neg h4, if_neg h4]
theorem sub4_set (zs : List Int) (i k j : Nat) (v : Int) (hj : j < 4) : sub4 (zs.set (4 * i + j) v) k = if k = i then (sub4 zs i).set j v else sub4 zs k := by
  apply List.ext_getElem?
  intro m
  rw [sub4_get, List.getElem?_set]
  by_cases hk : k = i
  · subst hk
    rw [if_pos rfl, List.getElem?_set, sub4_get, sub4]
    by_cases h4 : m < 4
    · rw [if_pos h4, if_pos h4, List.length_take, List.length_drop]
      by_cases h5 : j = m
      · subst h5
        rw [if_pos rfl, if_pos rfl]
        by_cases h6 : 4 * k + j < zs.length
        · rw [if_pos h6, if_pos (by omega)]
        · rw [if_neg h6, if_neg (by omega)]
      · rw [if_neg (by omega), if_neg h5]
    · rw [if_neg h4, if_neg h4, if_neg (by omega)]
  · rw [if_neg hk, sub4_get]
    by_cases h4 : m < 4
    · rw [if_pos h4, if_pos h4, if_neg (by omega)]
    · rw [if_neg h4, if_neg h4]

/-! ### In memory -/
theorem OwnB.setCells {E : TypeId} {g : Nat} : ∀ (ys : List Int) (off : Nat) {w : World} {zs : List Int}, OwnB E w g zs → off + ys.length ≤ zs.length → OwnB E (w.setCells g off (ys.map (Value.int .u8))) g (splice zs off ys)
  | [], off, w, zs, h, _ => by simpa [World.setCells, splice] using h
  | y :: ys, off, w, zs, h, hl => by
    have h1 := OwnB.setCells ys (off + 1) (h.set off y) (by rw [List.length_set]; simp only [List.length_cons] at hl; omega)
    have e : splice (zs.set off y) (off + 1) ys = splice zs off (y :: ys) := by
      simp only [List.length_cons] at hl
      apply List.ext_getElem?
      intro j
      rw [splice_get _ _ _ (by rw [List.length_set]; omega), splice_get _ _ _ (by simp only [List.length_cons]; omega), List.getElem?_set]
      simp only [List.length_cons]
      by_cases h1 : j < off
      · rw [if_pos (by omega), if_neg (by omega), if_pos h1]
      · rw [if_neg h1]
        by_cases h2 : j = off
        · subst h2
          rw [if_pos (by omega), if_pos rfl, if_pos (by omega), if_pos (by omega), Nat.sub_self]
          rfl
        · rw [if_neg (by omega)]
          by_cases h3 : j < off + 1 + ys.length
          · rw [if_pos h3, if_pos (by omega), show j - off = (j - (off + 1)) + 1 by omega]
            rfl
          · rw [if_neg h3, if_neg (by omega), if_neg (by omega)]
    rw [e] at h1
    exact h1
theorem OwnB.there {E : TypeId} {w : World} {g : Nat} {zs : List Int} (h : OwnB E w g zs) (off n : Nat) (hn : off + n ≤ zs.length) : w.there g off n := fun j hj =>
  ⟨by rw [h.cell (off + j) (by omega)]; rfl, h.froz _⟩
theorem OwnB.range {E : TypeId} {w : World} {g : Nat} {zs : List Int} (h : OwnB E w g zs) : w.rangeAt g 0 (zs.map (Value.int .u8)) := fun j v hv => by
  rw [List.getElem?_map] at hv
  obtain ⟨z, hz, rfl⟩ := Option.map_eq_some_iff.1 hv
  obtain ⟨hl, he⟩ := List.getElem?_eq_some_iff.1 hz
  rw [Nat.zero_add, h.cell j hl, List.getD, hz]
  rfl
theorem OwnB.bs4 {E : TypeId} {w : World} {g : Nat} {zs : List Int} (h : OwnB E w g zs) (hz : zs.length = 32) (hb : IsBytes zs) (i : Nat) (hi : i < 8) : Bs w (some ⟨g, 4 * i, none⟩) 4 4 (sub4 zs i) := by
  refine ⟨sub4_length _ _ hz hi, Nat.le_refl _, by omega, fun z hz => hb z (List.mem_of_mem_drop (List.mem_of_mem_take hz)), .inr ⟨g, 4 * i, rfl, fun j hj => ?_⟩⟩
  rw [h.cell (4 * i + j) (by omega), List.getD, List.getD, sub4_get, if_pos hj]

/-! ### What is wanted -/
structure Want (zs : List Int) (f : Nat → List Int × List Int) : Prop where
  len : zs.length = 32
  by_ : IsBytes zs
  at1 : ∀ i, i < 8 → fitL 4 (f i).1 = sub4 zs i
  at2 : ∀ i, i < 8 → fitL 4 (f i).2 = sub4 zs i

theorem flushN_first (i : Nat) (x : BV) : ∀ (l : List (Nat × BV)) (b b' : Nat → BV × BV), (∀ j, b' j = (if j = i then x else (b j).1, (b j).2)) → ∀ j, flushN b' l j = (if j = i then x else (flushN b l j).1, (flushN b l j).2)
  | [], _, _, h => h
  | p :: l, b, b', h => flushN_first i x l (updF b p.1 p.2) (updF b' p.1 p.2) fun j => by
    unfold updF
    by_cases hj : j = p.1
    · rw [if_pos hj, if_pos hj, h p.1, ← hj]
    · rw [if_neg hj, if_neg hj, h j]
theorem flushN_updW (b : Nat → BV × BV) (i : Nat) (x : BV) (l : List (Nat × BV)) (j : Nat) : flushN (updW b i x) l j = (if j = i then x else (flushN b l j).1, (flushN b l j).2) :=
  flushN_first i x l b _ (fun j => by
    unfold updW
    by_cases h : j = i
    · subst h; rw [if_pos rfl, if_pos rfl]
    · rw [if_neg h, if_neg h]) j
theorem zL_sub4 : ∀ i, i < 8 → zL 4 = sub4 (zL 32) i := by decide
theorem Want.new : Want (zL 32) (zOf (flushN (DS.new 8 4).blk (DS.new 8 4).wait)) :=
  ⟨zL_length _, zL_bytes _, fun i hi => (fitL_nil 4).trans (zL_sub4 i hi), fun i hi => (fitL_nil 4).trans (zL_sub4 i hi)⟩

theorem Want.first {zs ys : List Int} {D : DS} {x : BV} {i : Nat} (h : Want zs (zOf (flushN D.blk D.wait))) (hi : i < 8) (hx : x.zs = ys.take 4) (hy : IsBytes ys) :
    Want (splice (splice zs (4 * i) (zL 4)) (4 * i) (ys.take (min ys.length 4))) (zOf (flushN (D.writes i x).blk (D.writes i x).wait)) := by
  have hl := h.len
  have hz4 : (zL 4).length = 4 := zL_length _
  have l1 : (splice zs (4 * i) (zL 4)).length = 32 := by rw [splice_length _ _ _ (by omega)]; exact hl
  have hm : (ys.take (min ys.length 4)).length ≤ 4 := by rw [List.length_take]; omega
  have hs : ∀ k, sub4 (splice (splice zs (4 * i) (zL 4)) (4 * i) (ys.take (min ys.length 4))) k = if k = i then fitL 4 ys else sub4 zs k := fun k => by
    rw [sub4_splice _ _ _ _ l1 hi hm]
    by_cases hk : k = i
    · rw [if_pos hk, if_pos hk, sub4_splice _ _ _ _ hl hi (by omega), if_pos rfl, ← fitL_splice]
      congr 1
      have := splice_whole (sub4 zs i) (zL 4) (by rw [sub4_length _ _ hl hi]; exact hz4)
      rwa [sub4_length _ _ hl hi, List.take_of_length_le (by omega)] at this
    · rw [if_neg hk, if_neg hk, sub4_splice _ _ _ _ hl hi (by omega), if_neg hk]
  have hW : ∀ j, flushN (D.writes i x).blk (D.writes i x).wait j = if j = i then (x, x) else flushN D.blk D.wait j := fun j => by
    show flushN (updW D.blk i x) (D.wait ++ [(i, x)]) j = _
    rw [flushN_snoc]
    unfold updF
    by_cases hj : j = i
    · rw [if_pos hj, if_pos hj, flushN_updW, if_pos rfl]
    · rw [if_neg hj, if_neg hj, flushN_updW, if_neg hj]
  refine ⟨by rw [splice_length _ _ _ (by omega)]; exact l1, splice_bytes (splice_bytes h.by_ (zL_bytes _)) (hy.take _), fun k hk => ?_, fun k hk => ?_⟩
  · rw [hs]
    unfold zOf
    rw [hW]
    by_cases hj : k = i
    · rw [if_pos hj, if_pos hj]
      show fitL 4 x.zs = _
      rw [hx, fitL_take]
    · rw [if_neg hj, if_neg hj]
      exact h.at1 k hk
  · rw [hs]
    unfold zOf
    rw [hW]
    by_cases hj : k = i
    · rw [if_pos hj, if_pos hj]
      show fitL 4 x.zs = _
      rw [hx, fitL_take]
    · rw [if_neg hj, if_neg hj]
      exact h.at2 k hk

theorem settles_fst (size : Nat) (ch : List Int) (i : Nat) : ∀ (l : List ((Nat × List Int) × Nat)) (f f' : Nat → List Int × List Int), (∀ j, (f' j).2 = (f j).2) → (∀ j, j ≠ i → (f' j).1 = (f j).1) →
    (∀ j, (l.foldl (fun f p => settleZ size f p.1.1 p.1.2 (chL ch p.2)) f' j).2 = (l.foldl (fun f p => settleZ size f p.1.1 p.1.2 (chL ch p.2)) f j).2) ∧ ∀ j, j ≠ i → (l.foldl (fun f p => settleZ size f p.1.1 p.1.2 (chL ch p.2)) f' j).1 = (l.foldl (fun f p => settleZ size f p.1.1 p.1.2 (chL ch p.2)) f j).1
  | [], _, _, h2, h1 => ⟨h2, h1⟩
  | p :: l, f, f', h2, h1 => settles_fst size ch i l (settleZ size f p.1.1 p.1.2 (chL ch p.2)) (settleZ size f' p.1.1 p.1.2 (chL ch p.2)) (fun j => by
      unfold settleZ
      by_cases h : j = p.1.1
      · rw [if_pos h, if_pos h, h2 p.1.1]
      · rw [if_neg h, if_neg h]; exact h2 j) (fun j hj => by
      unfold settleZ
      by_cases h : j = p.1.1
      · rw [if_pos h, if_pos h, h2 p.1.1]
      · rw [if_neg h, if_neg h]; exact h1 j hj)
theorem crashN_fst (size : Nat) (ch : List Int) (f f' : Nat → List Int × List Int) (i : Nat) (h2 : ∀ j, (f' j).2 = (f j).2) (h1 : ∀ j, j ≠ i → (f' j).1 = (f j).1) (l : List (Nat × List Int)) : (∀ j, (crashN size ch f' l j).2 = (crashN size ch f l j).2) ∧ ∀ j, j ≠ i → (crashN size ch f' l j).1 = (crashN size ch f l j).1 :=
  settles_fst size ch i _ f f' h2 h1

theorem Want.second {zs zs' ys ch : List Int} {D : DS} {x : BV} {i : Nat} (h : Want zs (crashN 4 ch (zOf D.blk) (wz D.wait))) (hi : i < 8) (hx : x.zs = ys.take 4)
    (hl : zs'.length = 32) (hb : IsBytes zs') (hk : ∀ k, k ≠ i → sub4 zs' k = sub4 zs k) (he : sub4 zs' i = if chL ch D.wait.length = 1 then sub4 zs i else if chL ch D.wait.length = 2 then badL (fitL 4 ys) else fitL 4 ys) :
    Want zs' (crashN 4 ch (zOf (D.writes i x).blk) (wz (D.writes i x).wait)) := by
  obtain ⟨g2, g1⟩ := crashN_fst 4 ch (zOf D.blk) (zOf (updW D.blk i x)) i (fun j => by
    unfold zOf updW
    by_cases h : j = i
    · rw [if_pos h]; subst h; rfl
    · rw [if_neg h]) (fun j hj => by
    unfold zOf updW
    rw [if_neg hj]) (wz D.wait)
  have hW : crashN 4 ch (zOf (D.writes i x).blk) (wz (D.writes i x).wait) = settleZ 4 (crashN 4 ch (zOf (updW D.blk i x)) (wz D.wait)) i x.zs (chL ch D.wait.length) := by
    show crashN 4 ch (zOf (updW D.blk i x)) (wz (D.wait ++ [(i, x)])) = _
    have : wz (D.wait ++ [(i, x)]) = wz D.wait ++ [(i, x.zs)] := by simp [wz]
    rw [this, crashN_snoc]
    simp [wz]
  have hp : fitL 4 (pickZ 4 x.zs (crashN 4 ch (zOf (updW D.blk i x)) (wz D.wait) i).2 (chL ch D.wait.length)) = sub4 zs' i := by
    rw [he, g2, hx]
    unfold pickZ
    split
    · exact h.at2 i hi
    · split
      · rw [fitL_take, fitL_self 4 _ (by rw [badL_length, fitL_length])]
      · rw [fitL_take]
  rw [hW]
  unfold settleZ
  refine ⟨hl, hb, fun k h8 => ?_, fun k h8 => ?_⟩
  · by_cases hj : k = i
    · rw [if_pos hj, hj]; exact hp
    · rw [if_neg hj, g1 k hj, hk k hj]; exact h.at1 k h8
  · by_cases hj : k = i
    · rw [if_pos hj, hj]; exact hp
    · rw [if_neg hj, g2 k, hk k hj]; exact h.at2 k h8

/-! ### What stands in the loops -/
abbrev wantO (zs : List Int) : Obj := .cells (zs.map (Value.int .u8)).toArray 45 (0, 0)
abbrev fourO (zs : List Int) : Obj := .cells (zs.map (Value.int .u8)).toArray 44 (0, 0)
structure SecondI (w wr : World) (Z : Own) (g gw k : Nat) (D : DS) (zs ch : List Int) : Prop where
  cl : Cl w wr Z g D
  has : Has Z wr gw (wantO zs)
  size : D.size = 4
  n : D.n = 8
  left : D.left = -1
  tr : D.tr.length ≤ 100 + k
  wait : D.wait.length = k
  want : Want zs (crashN 4 ch (zOf D.blk) (wz D.wait))
/-- While a row is garbled, byte by byte: j bytes are. -/
structure InnerI (w wr : World) (Z : Own) (g gw gb i j : Nat) (D : DS) (zs B zs' : List Int) : Prop where
  cl : Cl w wr Z g D
  has : Has Z wr gw (wantO zs')
  bh : Has Z wr gb (fourO B)
  len : zs'.length = 32
  by_ : IsBytes zs'
  oth : ∀ k, k ≠ i → sub4 zs' k = sub4 zs k
  at_ : sub4 zs' i = (badL B).take j ++ (sub4 zs i).drop j
theorem take_drop_set {α : Type} (A O : List α) (j : Nat) (v : α) (h : j < A.length) (ho : j < O.length) (hv : A[j]? = some v) : (A.take j ++ O.drop j).set j v = A.take (j + 1) ++ O.drop (j + 1) := by
  apply List.ext_getElem?
  intro m
  rw [List.getElem?_set, List.length_append, List.length_take, List.length_drop]
  by_cases h1 : j = m
  · subst h1
    rw [if_pos rfl, if_pos (by omega), List.getElem?_append_left (by rw [List.length_take]; omega), List.getElem?_take, if_pos (by omega), hv]
  · rw [if_neg h1]
    by_cases h2 : m < j
    · rw [List.getElem?_append_left (by rw [List.length_take]; omega), List.getElem?_append_left (by rw [List.length_take]; omega), List.getElem?_take, List.getElem?_take, if_pos h2, if_pos (by omega)]
    · rw [List.getElem?_append_right (by rw [List.length_take]; omega), List.getElem?_append_right (by rw [List.length_take]; omega), List.getElem?_drop, List.getElem?_drop, List.length_take, List.length_take]
      congr 1
      omega
theorem InnerI.start {w wr : World} {Z : Own} {g gw gb i : Nat} {D : DS} {zs B : List Int} (hc : Cl w wr Z g D) (hh : Has Z wr gw (wantO zs)) (hb : Has Z wr gb (fourO B)) (hl : zs.length = 32) (hy : IsBytes zs) : InnerI w wr Z g gw gb i 0 D zs B zs :=
  ⟨hc, hh, hb, hl, hy, fun _ _ => rfl, rfl⟩
theorem InnerI.next {w wr : World} {Z : Own} {g gw gb i j : Nat} {D : DS} {zs B zs' : List Int} (h : InnerI w wr Z g gw gb i j D zs B zs') (hne : gb ≠ gw) (hbase : w.heap.size ≤ gw) (hi : i < 8) (hj : j < 4) (hB : B.length = 4) (hBy : IsBytes B) (hl : zs.length = 32) :
    InnerI w (wr.setCell ⟨gw, i * 4 + j, none⟩ (.int .u8 (xr (B.getD j 0) 165))) Z g gw gb i (j + 1) D zs B (zs'.set (i * 4 + j) (xr (B.getD j 0) 165)) := by
  have o := OnlyAt.setC gw (i * 4 + j) wr (.int .u8 (xr (B.getD j 0) 165))
  have hx : (badL B)[j]? = some (xr (B.getD j 0) 165) := by
    simp [badL, List.getD, hB, hj]
  refine ⟨h.cl.only o h.has.2 hbase, ⟨OwnB.set (E := 45) h.has.1 _ _, h.has.2⟩, h.bh.only o hne, by rw [List.length_set]; exact h.len, fun z hz => ?_, fun k hk => ?_, ?_⟩
  · rcases List.mem_or_eq_of_mem_set hz with h1 | h1
    · exact h.by_ z h1
    · rw [h1]
      refine xr_lt _ _ ?_ ⟨by decide, by decide⟩
      rw [List.getD, List.getElem?_eq_getElem (by omega)]
      exact hBy _ (List.getElem_mem _)
  · rw [Nat.mul_comm i 4, sub4_set _ _ _ _ _ hj, if_neg hk]
    exact h.oth k hk
  · rw [Nat.mul_comm i 4, sub4_set _ _ _ _ _ hj, if_pos rfl, h.at_]
    exact take_drop_set _ _ _ _ (by rw [badL_length]; omega) (by rw [sub4_length _ _ hl hi]; omega) hx
structure LastI (w wr : World) (Z : Own) (g gw k : Nat) (D : DS) (zs : List Int) : Prop where
  cl : Cl w wr Z g D
  has : Has Z wr gw (wantO zs)
  size : D.size = 4
  n : D.n = 8
  left : D.left = -1
  tr : D.tr.length ≤ 200 + k
  want : Want zs (zOf D.blk)
/-- What lies beside S is kept. -/
def KeptBut (S : Nat → Prop) (w w' : World) : Prop := w.heap.size ≤ w'.heap.size ∧ ∀ k, k < w.heap.size → ¬ S k → w'.heap[k]? = w.heap[k]?
theorem KeptBut.refl (S : Nat → Prop) (w : World) : KeptBut S w w := ⟨Nat.le_refl _, fun _ _ _ => rfl⟩
theorem KeptBut.trans {S : Nat → Prop} (a b c : World) (h : KeptBut S a b) (k : KeptBut S b c) : KeptBut S a c := ⟨Nat.le_trans h.1 k.1, fun i hi hs => (k.2 i (Nat.lt_of_lt_of_le hi h.1) hs).trans (h.2 i hi hs)⟩
theorem KeptBut.of_below (S : Nat → Prop) {w w' : World} (h : Below w.heap.size w w') : KeptBut S w w' := ⟨h.size, fun k hk _ => h.block k hk⟩
theorem KeptBut.of_step {Z Z' : Own} {w w' : World} (h : Step Z w Z' w') : KeptBut Z.S w w' := ⟨h.size, fun k hk hs => h.block k hk hs⟩
theorem KeptBut.bs {S : Nat → Prop} {w w' : World} (h : KeptBut S w w') {g o len cap : Nat} {zs : List Int} (hb : Bs w (some ⟨g, o, none⟩) len cap zs) (hg : g < w.heap.size) (hs : ¬ S g) : Bs w' (some ⟨g, o, none⟩) len cap zs :=
  hb.keepAt fun _ p hp => by cases hp; exact h.2 g hg hs
end Go.Proofs.YtlicafjhkbofbaaDoor
