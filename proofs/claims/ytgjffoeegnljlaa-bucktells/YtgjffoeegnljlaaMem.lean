
/- What a slice of bytes reads as in a world, and how that goes on while new memory is made: no program is named here; no conditions but those that each line states. -/
import Derived.Test.YtgjffoeegnljlaaPlain
import Derived.Deep.OwnRows
import Derived.Laws.BytesArg
import Derived.Laws.CopyOwn
namespace Go.Proofs.Ytgjffoeegnljlaa
open Go.RowKit
set_option maxRecDepth 20000

/-- The value '.slice a len cap', a slice of bytes, reads in w as the numbers zs. -/
structure Bs (w : World) (a : Option Addr) (len cap : Nat) (zs : List Int) : Prop where
  length : zs.length = len
  le_cap : len ≤ cap
  cap_le : cap ≤ 9223372036854775807
  bytes : IsBytes zs
  place : cap = 0 ∨ ∃ b off, a = some ⟨b, off, none⟩ ∧ ∀ i, i < len → w.cell? ⟨b, off + i, none⟩ = some (.int .u8 (zs.getD i 0))

theorem Bs.block_lt {w : World} {b off len cap : Nat} {zs : List Int} (h : Bs w (some ⟨b, off, none⟩) len cap zs) (h0 : 0 < len) : b < w.heap.size := by
  have hl := h.le_cap
  rcases h.place with h1 | ⟨b', off', e, hc⟩
  · omega
  · have := hc 0 h0
    simp only [Option.some.injEq, Addr.mk.injEq] at e
    obtain ⟨rfl, rfl, _⟩ := e
    exact World.block_lt_of_cell? w _ this

/-- Where nothing old has turned a slice reads as it did. -/
theorem Bs.below {w w' : World} {a : Option Addr} {len cap : Nat} {zs : List Int} (h : Bs w a len cap zs) (hb : Below w.heap.size w w') : Bs w' a len cap zs := by
  refine ⟨h.length, h.le_cap, h.cap_le, h.bytes, ?_⟩
  rcases h.place with h1 | ⟨b, off, rfl, hc⟩
  · exact .inl h1
  · refine .inr ⟨b, off, rfl, fun i hi => ?_⟩
    rw [hb.cell (World.block_lt_of_cell? w _ (hc i hi))]
    exact hc i hi

theorem Bs.nil (w : World) : Bs w none 0 0 [] := ⟨rfl, Nat.le_refl _, by omega, IsBytes.nil, .inl rfl⟩

/-- A row of the call's own, all of its cells bytes. -/
def OwnB (E : TypeId) (w : World) (g : Nat) (zs : List Int) : Prop := w.heap[g]? = some (.cells (zs.map (Value.int .u8)).toArray E (0, 0))

theorem OwnB.cell {E : TypeId} {w : World} {g : Nat} {zs : List Int} (h : OwnB E w g zs) (i : Nat) (hi : i < zs.length) : w.cell? ⟨g, i, none⟩ = some (.int .u8 (zs.getD i 0)) := by
  unfold OwnB at h
  simp [World.cell?, h, hi, List.getD]
theorem OwnB.lt {E : TypeId} {w : World} {g : Nat} {zs : List Int} (h : OwnB E w g zs) : g < w.heap.size := (Array.getElem?_eq_some_iff.1 h).1
theorem OwnB.bs {E : TypeId} {w : World} {g : Nat} {zs : List Int} (h : OwnB E w g zs) (hz : IsBytes zs) (n : Nat) (hn : zs.length = n) (hl : n ≤ 9223372036854775807) : Bs w (some ⟨g, 0, none⟩) n n zs :=
  ⟨hn, Nat.le_refl _, hl, hz, .inr ⟨g, 0, rfl, fun i hi => by rw [Nat.zero_add]; exact h.cell i (by omega)⟩⟩
theorem OwnB.below {E : TypeId} {w w' : World} {g : Nat} {zs : List Int} (h : OwnB E w g zs) (hb : Below w.heap.size w w') : OwnB E w' g zs := by
  have hl := h.lt
  unfold OwnB at h ⊢
  rw [hb.block g hl]; exact h
theorem OwnB.of_rowIs {E : TypeId} {w : World} {g n : Nat} {f : Nat → Value} (h : w.rowIs g E n f) (zs : List Int) (hn : zs.length = n) (hf : ∀ i, i < n → f i = .int .u8 (zs.getD i 0)) : OwnB E w g zs := by
  obtain ⟨c, hb, hc, hi⟩ := h
  unfold OwnB
  rw [hb]
  congr 2
  apply Array.ext_getElem?
  intro i
  rcases Nat.lt_or_ge i n with h1 | h1
  · rw [hi i h1, hf i h1]
    simp [List.getD, show i < zs.length by omega]
  · rw [Array.getElem?_eq_none (by omega), Array.getElem?_eq_none (by simp; omega)]

/-- Where the tail of a slice lies. -/
def cutA (a : Option Addr) (cap l : Nat) : Option Addr := if cap = l then a else a.map (·.add l)

theorem addr_add (b off j : Nat) : (⟨b, off, none⟩ : Addr).add j = ⟨b, off + j, none⟩ := by unfold Addr.add; split <;> simp_all

/-- The tail of a slice. -/
theorem Bs.cut {w : World} {a : Option Addr} {len cap : Nat} {zs : List Int} (h : Bs w a len cap zs) (k : Nat) (hk : k ≤ len) : Bs w (cutA a cap k) (len - k) (cap - k) (zs.drop k) := by
  have hl := h.le_cap
  refine ⟨by rw [List.length_drop, h.length], by omega, by have := h.cap_le; omega, h.bytes.drop k, ?_⟩
  unfold cutA
  by_cases hc0 : cap = k
  · exact .inl (by omega)
  · rw [if_neg hc0]
    rcases h.place with h1 | ⟨b, off, rfl, hc⟩
    · omega
    · refine .inr ⟨b, off + k, by simp [addr_add], fun i hi => ?_⟩
      have := hc (k + i) (by omega)
      rw [show off + k + i = off + (k + i) by omega, this]
      congr 2
      simp [List.getD, List.getElem?_drop]

theorem run_cut_from {P : Program} {T E : TypeId} (hT : P.underlying T = some (.slice E)) (hsz : (P.info? E).map (·.size) = some 1) (a : Option Addr) (len cap : Nat) (k : IntKind) (i : Int) (l : Nat) (hi : i = l) (h1 : l ≤ len) (w : World) :
    (Instr.slice T (.slice a len cap) (some (.int k i)) none none).run P w = .ok (.slice (cutA a cap l) (len - l) (cap - l)) w := by
  subst hi
  obtain ⟨info, hq, hs⟩ := Option.map_eq_some_iff.1 hsz
  have e : P.elem T = E := by simp [Program.elem, hT]
  rw [run_slice_l w T a len cap (by rw [e]; exact hT) k l (by omega) (by omega), e]
  simp [sizeOf, typeInfo, hq, hs, sliced, cutA]

theorem run_cut_mid {P : Program} {T E : TypeId} (hT : P.underlying T = some (.slice E)) (hsz : (P.info? E).map (·.size) = some 1) (a : Option Addr) (len cap : Nat) (k k' : IntKind) (i j : Int) (l h : Nat) (hi : i = l) (hj : j = h) (h1 : l ≤ h) (h2 : h ≤ cap) (w : World) :
    (Instr.slice T (.slice a len cap) (some (.int k i)) (some (.int k' j)) none).run P w = .ok (.slice (cutA a cap l) (h - l) (cap - l)) w := by
  subst hi
  subst hj
  obtain ⟨info, hq, hs⟩ := Option.map_eq_some_iff.1 hsz
  have e : P.elem T = E := by simp [Program.elem, hT]
  rw [run_slice_lh w T a len cap (by rw [e]; exact hT) k k' l h (by omega) (by omega) (by omega), e]
  simp [sizeOf, typeInfo, hq, hs, sliced, cutA]

theorem run_cut_to {P : Program} {T E : TypeId} (hT : P.underlying T = some (.slice E)) (hsz : (P.info? E).map (·.size) = some 1) {w0 : World} {a : Option Addr} {len cap : Nat} {zs : List Int} (hb : Bs w0 a len cap zs) (k : IntKind) (i : Int) (l : Nat) (hi : i = l) (h1 : l ≤ cap) (w : World) :
    (Instr.slice T (.slice a len cap) none (some (.int k i)) none).run P w = .ok (.slice a l cap) w := by
  subst hi
  obtain ⟨info, hq, hs⟩ := Option.map_eq_some_iff.1 hsz
  have e : P.elem T = E := by simp [Program.elem, hT]
  rw [run_slice_h w T a len cap (by rw [e]; exact hT) k l (by omega) (by omega), e]
  rcases hb.place with h0 | ⟨b, off, rfl, _⟩
  · simp [sizeOf, typeInfo, hq, sliced, h0]
  · simp [sizeOf, typeInfo, hq, sliced, addr_add]

/-- The head of a slice. -/
theorem Bs.taken {w : World} {a : Option Addr} {len cap : Nat} {zs : List Int} (h : Bs w a len cap zs) (k : Nat) (hk : k ≤ len) : Bs w a k cap (zs.take k) := by
  refine ⟨by rw [List.length_take, h.length]; omega, by have := h.le_cap; omega, h.cap_le, h.bytes.take k, ?_⟩
  rcases h.place with h1 | ⟨b, off, rfl, hc⟩
  · exact .inl h1
  · refine .inr ⟨b, off, rfl, fun i hi => ?_⟩
    rw [hc i (by omega)]
    congr 2
    simp [List.getD, hi]
/-- All but block g is as it was. -/
structure OnlyAt (g : Nat) (w w' : World) : Prop where
  os : w'.os = w.os
  tape : w'.tape = w.tape
  output : w'.output = w.output
  size : w'.heap.size = w.heap.size
  block : ∀ k, k ≠ g → w'.heap[k]? = w.heap[k]?

theorem OnlyAt.below {g B : Nat} {w0 w w' : World} (h : OnlyAt g w w') (hb : Below B w0 w) (hB : B ≤ g) : Below B w0 w' :=
  hb.trans ⟨h.os, h.tape, h.output, Nat.le_of_eq h.size.symm, fun k hk => h.block k (by omega)⟩
theorem OnlyAt.own {g k : Nat} {w w' : World} {E : TypeId} {zs : List Int} (h : OnlyAt g w w') (ho : OwnB E w k zs) (hk : k ≠ g) : OwnB E w' k zs := by
  unfold OwnB at ho ⊢
  rw [h.block k hk]; exact ho
theorem OnlyAt.bs {g : Nat} {w w' : World} {b off len cap : Nat} {zs : List Int} (h : OnlyAt g w w') (hs : Bs w (some ⟨b, off, none⟩) len cap zs) (hne : b ≠ g) : Bs w' (some ⟨b, off, none⟩) len cap zs := by
  refine ⟨hs.length, hs.le_cap, hs.cap_le, hs.bytes, ?_⟩
  rcases hs.place with h1 | ⟨b', off', e, hc⟩
  · exact .inl h1
  · simp only [Option.some.injEq, Addr.mk.injEq] at e
    obtain ⟨rfl, rfl, _⟩ := e
    refine .inr ⟨b, off, rfl, fun i hi => ?_⟩
    rw [World.cell?_of_block (w := w) (h.block b hne)]; exact hc i hi
theorem OnlyAt.setRow (g : Nat) (w : World) (cs : Array Value) : OnlyAt g w (w.setRow g cs) :=
  ⟨rfl, rfl, rfl, by simp [World.setRow], fun k hk => setRow_other w g k cs hk⟩

theorem splice_map (cur zs : List Int) (off : Nat) : splice (cur.map (Value.int .u8)) off (zs.map (Value.int .u8)) = (splice cur off zs).map (Value.int .u8) := by
  simp [splice]

/-- 'copy(dst, src)' into a row of the call's own. -/
theorem run_copy_bytes {P : Program} {T E E' : TypeId} (hT : P.underlying T = some (.slice E)) (hsz : (P.info? E).map (·.size) = some 1) (ty : TypeId) (w : World) (dp sp : Option Addr) (dLen dCap sLen sCap g off n : Nat) (cur zs : List Int)
    (hg : OwnB E' w g cur) (hn : min sLen dLen = n) (hd : n = 0 ∨ dp = some ⟨g, off, none⟩) (hs : Bs w sp sLen sCap zs) (hfit : off + n ≤ cur.length) :
    ∃ w2, (Builtin.copy_ #[T, T] ty #[.slice dp dLen dCap, .slice sp sLen sCap]).run P w = .ok (goInt n) w2 ∧ OwnB E' w2 g (splice cur off (zs.take n)) ∧ OnlyAt g w w2 := by
  have hzl := hs.length
  by_cases h0 : n = 0
  · subst h0
    refine ⟨w, run_copy_none (P := P) w T T ty E dp sp dLen dCap sLen sCap hT hsz hn, ?_, ⟨rfl, rfl, rfl, rfl, fun _ _ => rfl⟩⟩
    simpa [splice] using hg
  · rcases hd with h | rfl
    · exact absurd h h0
    have hsl := hs.le_cap
    rcases hs.place with h | ⟨b, boff, rfl, hc⟩
    · omega
    have hlen : (zs.take n).length = n := by simp; omega
    have hr := run_copy_row (P := P) w T T ty E g off dLen dCap ⟨b, boff, none⟩ sLen sCap (cur.map (Value.int .u8)).toArray E' ((zs.take n).map (Value.int .u8)) hT hsz hg (by simp only [List.length_map, hlen]; exact hn.symm)
      (fun j v hj => by
        have hjl : j < n := by
          rcases Nat.lt_or_ge j n with h | h
          · exact h
          · rw [List.getElem?_eq_none (by simp; omega)] at hj; cases hj
        rw [addr_add, hc j (by omega), ← hj]
        have : j < zs.length := by omega
        simp [List.getD, List.getElem?_eq_getElem this, hjl])
      (by simp only [List.length_map, hlen, List.size_toArray]; exact hfit) (by intro v hv; obtain ⟨x, _, rfl⟩ := List.mem_map.1 hv; rfl)
    refine ⟨w.setRow g ((splice cur off (zs.take n)).map (Value.int .u8)).toArray, ?_, ?_, OnlyAt.setRow g w _⟩
    · rw [hr, ← splice_map]
      simp only [List.length_map, hlen, splice, List.append_assoc]
    · unfold OwnB
      exact setRow_heap w g _ _ E' _ hg
/-- Out of what the shell of a proof tells of a slice that came in. -/
theorem bs_of_row {w : World} {a : Option Addr} {len cap : Nat} {zs : List Int} (h : (a = none ∧ len = 0 ∧ cap = 0 ∧ zs = []) ∨
    ∃ x, a = some x ∧ len ≤ cap ∧ cap ≤ maxLen ∧ zs.length = cap ∧ (∀ i, i < zs.length → w.cell? (x.add i) = some (.int .u8 (zs.getD i 0))) ∧ ∀ n ∈ zs, (Lit.int .u8 n).wf = true) : Bs w a len cap (zs.take len) := by
  rcases h with ⟨rfl, rfl, rfl, rfl⟩ | ⟨x, rfl, hl, hm, hz, hcell, hwz⟩
  · exact Bs.nil w
  · unfold maxLen at hm
    have hb : IsBytes zs := by
      intro n hn
      have := hwz n hn
      simp [Lit.wf, IntKind.min, IntKind.max, IntKind.signed, IntKind.bits] at this
      omega
    refine ⟨by simp; omega, hl, by omega, hb.take _, ?_⟩
    by_cases h0 : cap = 0
    · exact .inl h0
    · obtain ⟨b, off, spot⟩ := x
      have hspot : spot = none := by simpa [Addr.add] using World.cell?_spot (hcell 0 (by omega))
      subst hspot
      refine .inr ⟨b, off, rfl, fun i hi => ?_⟩
      have := hcell i (by omega)
      rw [addr_add] at this
      rw [this]
      congr 2
      simp [List.getD, hi]

/-- 'string(b)'. -/
theorem run_string_bytes {P : Program} {T E S : TypeId} (hT : P.underlying T = some (.slice E)) (hE : P.underlying E = some (.int .u8)) (hS : P.underlying S = some .string) {w : World} {a : Option Addr} {len cap : Nat} {zs : List Int} (h : Bs w a len cap zs) :
    (convert T S (.slice a len cap)).run P w = .ok (.string (strOfNums zs)) w := by
  rcases h.place with h0 | ⟨b, off, rfl, hc⟩
  · subst h0
    obtain rfl : len = 0 := by have := h.le_cap; omega
    obtain rfl : zs = [] := List.eq_nil_of_length_eq_zero h.length
    cases a with
    | none => rw [run_convert_bytes_nil w T E hT hE 0 0 S hS]; rfl
    | some x =>
      have := run_bytesToString (P := P) w x 0 0 [] (by simpa using run_loadCells_list (P := P) w x [] (by simp))
      rw [run_convert_bytes_string w T S E _ 0 0 hT hE hS, this]; rfl
  · exact run_convert_bytes_arg w T E hT hE b off len cap zs h.length hc S hS
#print axioms run_copy_bytes
end Go.Proofs.Ytgjffoeegnljlaa
