
/- Rows of numbers of any kind, and what a call may turn beside one block: no function is named here; no conditions but those that each line states. -/
import Derived.Test.YtgjffoeegnljlaaMem
import Derived.Test.YtgjffoeegnljlaaBytes
namespace Go.Proofs.Ytgjffoeegnljlaa
open Go.RowKit
set_option maxRecDepth 20000

/-- What was there is as it was, block g aside. -/
structure But (g : Nat) (w w' : World) : Prop where
  os : w'.os = w.os
  tape : w'.tape = w.tape
  output : w'.output = w.output
  size : w.heap.size ≤ w'.heap.size
  block : ∀ k, k < w.heap.size → k ≠ g → w'.heap[k]? = w.heap[k]?
theorem But.refl (g : Nat) (w : World) : But g w w := ⟨rfl, rfl, rfl, Nat.le_refl _, fun _ _ _ => rfl⟩
theorem But.trans {g : Nat} {a b c : World} (h : But g a b) (k : But g b c) : But g a c :=
  ⟨k.os.trans h.os, k.tape.trans h.tape, k.output.trans h.output, Nat.le_trans h.size k.size, fun i hi hg => (k.block i (Nat.lt_of_lt_of_le hi h.size) hg).trans (h.block i hi hg)⟩
theorem But.of_below (g : Nat) {w w' : World} (h : Below w.heap.size w w') : But g w w' := ⟨h.os, h.tape, h.output, h.size, fun k hk _ => h.block k hk⟩
theorem But.of_only {g : Nat} {w w' : World} (h : OnlyAt g w w') : But g w w' := ⟨h.os, h.tape, h.output, Nat.le_of_eq h.size.symm, fun k _ hg => h.block k hg⟩
theorem But.below {g B : Nat} {w0 w w' : World} (h : But g w w') (hb : Below B w0 w) (hg : B ≤ g) (hB : B ≤ w.heap.size) : Below B w0 w' :=
  hb.trans ⟨h.os, h.tape, h.output, h.size, fun k hk => h.block k (by omega) (by omega)⟩
theorem But.drew {g : Nat} {w w' : World} (h : But g w w') : But g w w'.drew := ⟨h.os, h.tape, h.output, h.size, h.block⟩
theorem But.heap {g k : Nat} {w w' : World} {o : Obj} (h : But g w w') (hk : w.heap[k]? = some o) (hg : k ≠ g) : w'.heap[k]? = some o :=
  (h.block k (Array.getElem?_eq_some_iff.1 hk).1 hg).trans hk

/-! ### Rows of numbers -/
def AllK (k : IntKind) (l : List Int) : Prop := ∀ z ∈ l, (Lit.int k z).wf = true
theorem AllK.take {k : IntKind} {l : List Int} (h : AllK k l) (n : Nat) : AllK k (l.take n) := fun z hz => h z (List.mem_of_mem_take hz)

/-- The value '.slice a len cap', a slice of numbers of kind k, reads in w as zs. -/
structure Ns (k : IntKind) (w : World) (a : Option Addr) (len cap : Nat) (zs : List Int) : Prop where
  length : zs.length = len
  le_cap : len ≤ cap
  cap_le : cap ≤ 9223372036854775807
  wf : AllK k zs
  place : cap = 0 ∨ ∃ b off, a = some ⟨b, off, none⟩ ∧ ∀ i, i < len → w.cell? ⟨b, off + i, none⟩ = some (.int k (zs.getD i 0))
theorem Ns.below {k : IntKind} {w w' : World} {a : Option Addr} {len cap : Nat} {zs : List Int} (h : Ns k w a len cap zs) (hb : Below w.heap.size w w') : Ns k w' a len cap zs := by
  refine ⟨h.length, h.le_cap, h.cap_le, h.wf, ?_⟩
  rcases h.place with h1 | ⟨b, off, rfl, hc⟩
  · exact .inl h1
  · refine .inr ⟨b, off, rfl, fun i hi => ?_⟩
    rw [hb.cell (World.block_lt_of_cell? w _ (hc i hi))]
    exact hc i hi
theorem Ns.drew {k : IntKind} {w : World} {a : Option Addr} {len cap : Nat} {zs : List Int} (h : Ns k w a len cap zs) : Ns k w.drew a len cap zs := ⟨h.length, h.le_cap, h.cap_le, h.wf, h.place⟩
theorem Ns.nil (k : IntKind) (w : World) : Ns k w none 0 0 [] := ⟨rfl, Nat.le_refl _, by omega, fun _ h => (by cases h), .inl rfl⟩
theorem Ns.getD {k : IntKind} {w : World} {a : Option Addr} {len cap : Nat} {zs : List Int} (h : Ns k w a len cap zs) (i : Nat) (hi : i < len) : (Lit.int k (zs.getD i 0)).wf = true := by
  have hl := h.length
  refine h.wf _ ?_
  rw [List.getD, List.getElem?_eq_getElem (by omega)]
  exact List.getElem_mem _

/-- A row of the call's own, all of its cells numbers of kind k. -/
def OwnN (k : IntKind) (E : TypeId) (w : World) (g : Nat) (zs : List Int) : Prop := w.heap[g]? = some (.cells (zs.map (Value.int k)).toArray E (0, 0))
theorem OwnN.cell {k : IntKind} {E : TypeId} {w : World} {g : Nat} {zs : List Int} (h : OwnN k E w g zs) (i : Nat) (hi : i < zs.length) : w.cell? ⟨g, i, none⟩ = some (.int k (zs.getD i 0)) := by
  unfold OwnN at h
  simp [World.cell?, h, hi, List.getD]
theorem OwnN.lt {k : IntKind} {E : TypeId} {w : World} {g : Nat} {zs : List Int} (h : OwnN k E w g zs) : g < w.heap.size := (Array.getElem?_eq_some_iff.1 h).1
theorem OwnN.below {k : IntKind} {E : TypeId} {w w' : World} {g : Nat} {zs : List Int} (h : OwnN k E w g zs) (hb : Below w.heap.size w w') : OwnN k E w' g zs := by
  have hl := h.lt
  unfold OwnN at h ⊢
  rw [hb.block g hl]; exact h
theorem OwnN.but {k : IntKind} {E : TypeId} {w w' : World} {g g' : Nat} {zs : List Int} (h : OwnN k E w g zs) (hb : But g' w w') (hg : g ≠ g') : OwnN k E w' g zs := hb.heap h hg
theorem OwnN.ns {k : IntKind} {E : TypeId} {w : World} {g : Nat} {zs : List Int} (h : OwnN k E w g zs) (hz : AllK k zs) (n : Nat) (hn : zs.length = n) (hl : n ≤ 9223372036854775807) : Ns k w (some ⟨g, 0, none⟩) n n zs :=
  ⟨hn, Nat.le_refl _, hl, hz, .inr ⟨g, 0, rfl, fun i hi => by rw [Nat.zero_add]; exact h.cell i (by omega)⟩⟩
theorem splice_mapK (k : IntKind) (cur zs : List Int) (off : Nat) : splice (cur.map (Value.int k)) off (zs.map (Value.int k)) = (splice cur off zs).map (Value.int k) := by
  simp [splice]

/-- 'copy(dst, src)' into a row of the call's own. -/
theorem run_copy_nums {P : Program} {T E E' : TypeId} (k : IntKind) (hT : P.underlying T = some (.slice E)) (hsz : (P.info? E).map (·.size) = some 1) (ty : TypeId) (w : World) (dp sp : Option Addr) (dLen dCap sLen sCap g off n : Nat) (cur zs : List Int)
    (hg : OwnN k E' w g cur) (hn : min sLen dLen = n) (hd : n = 0 ∨ dp = some ⟨g, off, none⟩) (hs : Ns k w sp sLen sCap zs) (hfit : off + n ≤ cur.length) :
    ∃ w2, (Builtin.copy_ #[T, T] ty #[.slice dp dLen dCap, .slice sp sLen sCap]).run P w = .ok (goInt n) w2 ∧ OwnN k E' w2 g (splice cur off (zs.take n)) ∧ OnlyAt g w w2 := by
  have hzl := hs.length
  by_cases h0 : n = 0
  · subst h0
    refine ⟨w, run_copy_none (P := P) w T T ty E dp sp dLen dCap sLen sCap hT hsz hn, ?_, ⟨rfl, rfl, rfl, rfl, fun _ _ => rfl⟩⟩
    simpa [splice] using hg
  · rcases hd with h | rfl
    · exact absurd h h0
    have hsl := hs.le_cap
    rcases hs.place with h | ⟨b, boff, rfl, hc⟩
    · omega
    have hlen : (zs.take n).length = n := by simp; omega
    have hr := run_copy_row (P := P) w T T ty E g off dLen dCap ⟨b, boff, none⟩ sLen sCap (cur.map (Value.int k)).toArray E' ((zs.take n).map (Value.int k)) hT hsz hg (by simp only [List.length_map, hlen]; exact hn.symm)
      (fun j v hj => by
        have hjl : j < n := by
          rcases Nat.lt_or_ge j n with h | h
          · exact h
          · rw [List.getElem?_eq_none (by simp; omega)] at hj; cases hj
        rw [addr_add, hc j (by omega), ← hj]
        have : j < zs.length := by omega
        simp [List.getD, List.getElem?_eq_getElem this, hjl])
      (by simp only [List.length_map, hlen, List.size_toArray]; exact hfit) (by intro v hv; obtain ⟨x, _, rfl⟩ := List.mem_map.1 hv; rfl)
    refine ⟨w.setRow g ((splice cur off (zs.take n)).map (Value.int k)).toArray, ?_, ?_, OnlyAt.setRow g w _⟩
    · rw [hr, ← splice_mapK]
      simp only [List.length_map, hlen, splice, List.append_assoc]
    · unfold OwnN
      exact setRow_heap w g _ _ E' _ hg

theorem OwnN.of_rowIs {k : IntKind} {E : TypeId} {w : World} {g n : Nat} {f : Nat → Value} (h : w.rowIs g E n f) (zs : List Int) (hn : zs.length = n) (hf : ∀ i, i < n → f i = .int k (zs.getD i 0)) : OwnN k E w g zs := by
  obtain ⟨c, hb, hc, hi⟩ := h
  unfold OwnN
  rw [hb]
  congr 2
  apply Array.ext_getElem?
  intro i
  rcases Nat.lt_or_ge i n with h1 | h1
  · rw [hi i h1, hf i h1]
    simp [List.getD, show i < zs.length by omega]
  · rw [Array.getElem?_eq_none (by omega), Array.getElem?_eq_none (by simp; omega)]
theorem made_zN (k : IntKind) (w : World) (n : Nat) (E : TypeId) : OwnN k E (w.alloc (Obj.cells (madeCells #[Value.int k 0] n) E)) w.heap.size (zL n) :=
  OwnN.of_rowIs (World.rowIs_made w (.int k 0) n E) _ (zL_length _) fun i _ => by rw [zL_getD]
theorem splice_whole (cur zs : List Int) (h : zs.length = cur.length) : splice cur 0 (zs.take cur.length) = zs := by
  simp [splice, ← h]
theorem ns_of_row {k : IntKind} {w : World} {a : Option Addr} {len cap : Nat} {zs : List Int} (h : (a = none ∧ len = 0 ∧ cap = 0 ∧ zs = []) ∨
    ∃ x, a = some x ∧ len ≤ cap ∧ cap ≤ maxLen ∧ zs.length = cap ∧ (∀ i, i < zs.length → w.cell? (x.add i) = some (.int k (zs.getD i 0))) ∧ ∀ n ∈ zs, (Lit.int k n).wf = true) : Ns k w a len cap (zs.take len) := by
  rcases h with ⟨rfl, rfl, rfl, rfl⟩ | ⟨x, rfl, hl, hm, hz, hcell, hwz⟩
  · exact Ns.nil k w
  · unfold maxLen at hm
    refine ⟨by simp; omega, hl, by omega, AllK.take hwz _, ?_⟩
    by_cases h0 : cap = 0
    · exact .inl h0
    · obtain ⟨b, off, spot⟩ := x
      have hspot : spot = none := by simpa [Addr.add] using World.cell?_spot (hcell 0 (by omega))
      subst hspot
      refine .inr ⟨b, off, rfl, fun i hi => ?_⟩
      have := hcell i (by omega)
      rw [addr_add] at this
      rw [this]
      congr 2
      simp [List.getD, hi]

#print axioms run_copy_nums
end Go.Proofs.Ytgjffoeegnljlaa
