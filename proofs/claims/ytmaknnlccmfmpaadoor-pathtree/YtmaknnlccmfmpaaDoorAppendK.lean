
/- What 'append' does to a row of numbers of the call's own, one number more: no program is named here; no conditions but those that each line states. -/
import Derived.Test.YtmaknnlccmfmpaaDoorNums
import Derived.Test.YtmaknnlccmfmpaaDoorAppend
namespace Go.Proofs.YtmaknnlccmfmpaaDoor
open Go.RowKit
set_option maxRecDepth 20000

/-- The slice '.slice a n cap' of numbers of kind k is one of the call's own (its block is from 'base' on), and reads as xs. -/
def OwnK (k : IntKind) (E : TypeId) (base : Nat) (w : World) (a : Option Addr) (n cap : Nat) (xs : List Int) : Prop :=
  AllK k xs ∧ xs.length = n ∧ w.ownsRow base E 1 (.slice a n cap) n (xs.map (Value.int k))
theorem OwnK.nil (k : IntKind) (E : TypeId) (base : Nat) (w : World) : OwnK k E base w none 0 0 [] := ⟨fun _ h => (by cases h), rfl, World.ownsRow_nil _ _ _ _⟩
theorem OwnK.alloc {k : IntKind} {E : TypeId} {base : Nat} {w : World} {a : Option Addr} {n cap : Nat} {xs : List Int} (h : OwnK k E base w a n cap xs) (o : Obj) : OwnK k E base (w.alloc o) a n cap xs := ⟨h.1, h.2.1, h.2.2.alloc o⟩
theorem OwnK.form {k : IntKind} {E : TypeId} {base : Nat} {w : World} {a : Option Addr} {n cap : Nat} {xs : List Int} (h : OwnK k E base w a n cap xs) (hn : 0 < n) : ∃ g, a = some ⟨g, 0, none⟩ ∧ base ≤ g ∧ g < w.heap.size := by
  rcases h.2.2.2 with ⟨_, h0⟩ | ⟨g, c, cur, h3, hb, hg, _⟩
  · omega
  · simp only [Value.slice.injEq, true_and] at h3
    exact ⟨g, h3.1, hb, (Array.getElem?_eq_some_iff.1 hg).1⟩
theorem OwnK.cell {k : IntKind} {E : TypeId} {base : Nat} {w : World} {g n cap : Nat} {xs : List Int} (h : OwnK k E base w (some ⟨g, 0, none⟩) n cap xs) (i : Nat) (hi : i < n) : w.cell? ⟨g, i, none⟩ = some (.int k (xs.getD i 0)) := by
  rw [h.2.2.cellAt i (by omega)]
  have : i < xs.length := by have := h.2.1; omega
  simp [List.getD, this]
theorem OwnK.keep {k : IntKind} {E : TypeId} {base : Nat} {w w' : World} {a : Option Addr} {n cap : Nat} {xs : List Int} (h : OwnK k E base w a n cap xs) (hb : ∀ g, base ≤ g → g < w.heap.size → w'.heap[g]? = w.heap[g]?) : OwnK k E base w' a n cap xs := by
  refine ⟨h.1, h.2.1, h.2.2.1, ?_⟩
  rcases h.2.2.2 with h0 | ⟨g, c, cur, h3, h4, h5, h6⟩
  · exact .inl h0
  · exact .inr ⟨g, c, cur, h3, h4, by rw [hb g h4 (Array.getElem?_eq_some_iff.1 h5).1]; exact h5, h6⟩
theorem OwnK.but {k : IntKind} {E : TypeId} {base g' : Nat} {w w' : World} {a : Option Addr} {n cap : Nat} {xs : List Int} (h : OwnK k E base w a n cap xs) (hb : But g' w w') (hg : g' < base) : OwnK k E base w' a n cap xs :=
  h.keep fun g h1 h2 => hb.block g h2 (by omega)
theorem OwnK.below {k : IntKind} {E : TypeId} {base : Nat} {w w' : World} {a : Option Addr} {n cap : Nat} {xs : List Int} (h : OwnK k E base w a n cap xs) (hb : Below w.heap.size w w') : OwnK k E base w' a n cap xs :=
  h.keep fun g _ h2 => hb.block g h2
theorem OwnK.drew {k : IntKind} {E : TypeId} {base : Nat} {w : World} {a : Option Addr} {n cap : Nat} {xs : List Int} (h : OwnK k E base w a n cap xs) : OwnK k E base w.drew a n cap xs := h

theorem OwnK.ns {k : IntKind} {E : TypeId} {base : Nat} {w : World} {a : Option Addr} {n cap : Nat} {xs : List Int} (h : OwnK k E base w a n cap xs) : Ns k w a n cap xs := by
  obtain ⟨hb, hl, h1, h2⟩ := h
  rcases h2 with ⟨h3, h4⟩ | ⟨g, c, cur, h3, h4, h5, h6, h7, h8, h9⟩
  · subst h4
    simp only [Value.slice.injEq, true_and] at h3
    obtain ⟨rfl, rfl⟩ := h3
    exact ⟨hl, Nat.le_refl _, by omega, hb, .inl rfl⟩
  · simp only [Value.slice.injEq, true_and] at h3
    obtain ⟨rfl, rfl⟩ := h3
    unfold maxLen at h7
    refine ⟨hl, h6, by omega, hb, .inr ⟨g, 0, rfl, fun i hi => ?_⟩⟩
    rw [Nat.zero_add, cell_of_row w g i cur E (0, 0) h5]
    have : (List.take (n * 1) cur.toList)[i]? = (xs.map (Value.int k))[i]? := by rw [h9]
    rw [Nat.mul_one, List.getElem?_take, if_pos hi] at this
    rw [← Array.getElem?_toList, this]
    have hi' : i < xs.length := by omega
    simp [hi', List.getD]

/-- One number more behind a row of the call's own: the number is laid in a block of its own first. -/
theorem run_append_num {P : Program} {T E : TypeId} (k : IntKind) (by_ : Nat) (hT : P.underlying T = some (.slice E)) (hinfo : (P.info? E).map (fun i => (i.zero, i.size, i.bytes)) = some (some (.int k 0), 1, by_)) (hby8 : by_ ≤ 8) (ty : TypeId) (base : Nat) (w0 w : World) (a : Option Addr) (n cap : Nat) (xs : List Int) (x : Int)
    (hown : OwnK k E base w a n cap xs) (hx : (Lit.int k x).wf = true) (hlim : n + 1 ≤ 1099511627776) (hbase : base ≤ w.heap.size) (hb : Below base w0 w) :
    ∃ a' cap' w', (Builtin.append_ #[T, T] ty #[.slice a n cap, .slice (some ⟨w.heap.size, 0, none⟩) 1 1]).run P (w.alloc (.cells #[.int k x] E)) = .ok (.slice a' (n + 1) cap') w' ∧ OwnK k E base w' a' (n + 1) cap' (xs ++ [x]) ∧ Below base w0 w' ∧ base ≤ w'.heap.size := by
  obtain ⟨i, hi, hz⟩ := Option.map_eq_some_iff.1 hinfo
  simp only [Prod.mk.injEq] at hz
  obtain ⟨hz, hsz, hby⟩ := hz
  have hbase' : base ≤ (w.alloc (.cells #[.int k x] E)).heap.size := by simp; omega
  have hcell : (w.alloc (.cells #[.int k x] E)).cell? ⟨w.heap.size, 0, none⟩ = some (.int k x) := by
    unfold World.cell?
    rw [heap_alloc_new]
    rfl
  have hbytes : (n + 1) * by_ ≤ 140737488355328 := Nat.le_trans (Nat.mul_le_mul hlim hby8) (by decide)
  obtain ⟨v', w', hr, h2, h3, _, h5⟩ := run_append_own_at (P := P) (w.alloc (.cells #[.int k x] E)) base T ty E i (.int k 0) 1 by_ hT hi hz hsz hby rfl (by decide) (.slice a n cap) n (xs.map (Value.int k)) (hown.alloc _).2.2 ⟨w.heap.size, 0, none⟩ 1 1 [.int k x] (by simp)
    (fun j u hj => by
      rcases j with _ | j
      · simp only [List.getElem?_cons_zero, Option.some.injEq] at hj
        subst hj
        rw [addr_add]
        exact hcell
      · simp at hj)
    (by intro u hu; rw [List.mem_singleton] at hu; subst hu; rfl) (by unfold maxLen; omega) hbytes hbase'
  have hform : ∃ a' cap', v' = .slice a' (n + 1) cap' := by
    rcases h2.2 with ⟨h, h0⟩ | ⟨g, c, cur, h, _⟩
    · exact ⟨none, 0, by rw [h, h0]⟩
    · exact ⟨_, _, h⟩
  obtain ⟨a', cap', rfl⟩ := hform
  refine ⟨a', cap', w', hr, ⟨fun z hz => ?_, by simp [hown.2.1], by rw [List.map_append]; exact h2⟩, (hb.alloc hbase _).grown h3 hbase' (fun j hj => (hown.2.2.lt j hj).1), Nat.le_trans hbase' h3.size⟩
  rcases List.mem_append.1 hz with h | h
  · exact hown.1 z h
  · rw [List.mem_singleton] at h
    subst h
    exact hx
#print axioms run_append_num
end Go.Proofs.YtmaknnlccmfmpaaDoor
