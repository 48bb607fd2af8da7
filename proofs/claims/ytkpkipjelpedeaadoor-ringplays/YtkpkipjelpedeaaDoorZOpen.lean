
/- How slices of slices of bytes that came in are opened, where what came in is within reach of memory. No conditions but those that each line states. -/
import Derived.Test.YtkpkipjelpedeaaDoorXDisk
namespace Go.Proofs.YtkpkipjelpedeaaDoor
open Go.ChangeShapes Go.WideShapes Go.ChangeAt Go.RowKit
set_option maxRecDepth 20000

section
variable {H : Type} {enc : TypeId × Value → H} {W : World} {base : Nat} {held : Bool}
theorem weightsAll_mem {P : Program} {e : TypeId} : ∀ {ds : List (DataW H)} {d : DataW H} {n : Nat}, d ∈ ds → n ∈ d.weights P e → n ∈ DataW.weightsAll P e ds
  | d0 :: ds, d, n, hd, hn => by
    simp only [DataW.weightsAll, List.mem_append]
    rcases List.mem_cons.1 hd with rfl | hd
    · exact .inl hn
    · exact .inr (weightsAll_mem hd hn)
theorem bz_of_trod {fuel : Nat} {v : Value} {d : DataW H} {pl : List MemPlace} (hf : DataW.trod enc Tryd.prog W base (fun _ => true) held fuel 36 [v] = some (d, pl)) (hs : ∀ n ∈ d.weights Tryd.prog 36, n ≤ reachBytes) : ∃ y : BV, v = y.v ∧ Bs W y.a y.len y.cap y.zs ∧ y.len ≤ 140737488351232 := by
  rcases open_ints Tryd.underlying36 Tryd.underlying5 cells_u8 hf with ⟨hcs, _⟩ | ⟨x, l, c, zs, hcs, _, hl, hm, hz, hdat, hcell, hwz⟩
  · simp only [List.cons.injEq, and_true] at hcs
    exact ⟨BV.nil, hcs, Bs.nil W, Nat.zero_le _⟩
  · simp only [List.cons.injEq, and_true] at hcs
    have hd := (Prod.mk.inj hdat).1
    subst hd
    have hsl := hs _ (by rw [DataW.weights, Tryd.underlying36]; exact List.mem_cons_self)
    rw [show Tryd.prog.bytesOf 5 = 1 by kernel_rfl] at hsl
    simp only [lits, List.length_map, List.length_take, List.length_drop, reachBytes] at hsl
    have hz' : zs.length = c := by simpa using hz
    exact ⟨⟨some x, l, c, zs.take l⟩, hcs, bs_of_row (.inr ⟨_, rfl, hl, hm, by simpa using hz, hcell, hwz⟩), by show l ≤ _; omega⟩
/-- A slice of slices of bytes that came in, all of it within reach. -/
theorem open_bssz {r : Reach} {b0 : Nat} {v : Value} {d : DataW H} {p : List MemPlace} (hok : Value.okWide Tryd.prog W r b0 22 v)
    (h : DataW.Trod enc Tryd.prog W base (fun _ => true) held 22 v d p) (hs : ∀ n ∈ d.weights Tryd.prog 22, n ≤ reachBytes) : ∃ a len cap xs, v = .slice a len cap ∧ BBs W a len cap xs ∧ ∀ i, i < len → (xs i).len ≤ 140737488351232 := by
  obtain ⟨a, len, cap, rfl⟩ := okWide_slice Tryd.underlying22 hok
  obtain ⟨fuel, hf⟩ := h
  rcases Deep.open_slice1 Tryd.underlying22 cells_bs hf with ⟨hcs, _⟩ | ⟨x, l, c, m, n, V, D, Pl, hcs, _, hl, hm, hmm, hx, hV⟩
  · simp [Value.cells] at hcs
    obtain ⟨rfl, rfl, rfl⟩ := hcs
    exact ⟨none, 0, 0, fun _ => BV.nil, rfl, ⟨Nat.le_refl _, by omega, fun i hi => absurd hi (Nat.not_lt_zero _)⟩, fun i hi => absurd hi (Nat.not_lt_zero _)⟩
  · simp [Value.cells] at hcs
    obtain ⟨rfl, rfl, rfl⟩ := hcs
    simp only [if_true] at hmm
    unfold maxLen at hm
    have hd := (Prod.mk.inj hx).1
    subst hd
    have key : ∀ i, ∃ y : BV, i < len → W.cell? (x.add i) = some y.v ∧ Bs W y.a y.len y.cap y.zs ∧ y.len ≤ 140737488351232 := fun i => by
      by_cases hi : i < len
      · obtain ⟨h1, h2⟩ := hV i (by omega)
        obtain ⟨y, hy, hb, hle⟩ := bz_of_trod h2 fun k hk => hs k (by
          rw [DataW.weights, Tryd.underlying22]
          exact List.mem_cons_of_mem _ (List.mem_append_left _ (weightsAll_mem (List.mem_map.2 ⟨i, List.mem_range.2 hi, rfl⟩) hk)))
        exact ⟨y, fun _ => ⟨by rw [h1, hy], hb, hle⟩⟩
      · exact ⟨BV.nil, fun h => absurd h hi⟩
    obtain ⟨f, hf'⟩ := Classical.axiomOfChoice key
    obtain ⟨b, off, spot⟩ := x
    refine ⟨some ⟨b, off, spot⟩, len, cap, f, rfl, ⟨hl, by omega, fun i hi => ?_⟩, fun i hi => (hf' i hi).2.2⟩
    have hspot : spot = none := by
      have := World.cell?_spot (hf' 0 (by omega)).1
      simpa [Addr.add] using this
    subst hspot
    have := (hf' i hi).1
    rw [addr_add] at this
    exact ⟨⟨b, off, rfl, this⟩, (hf' i hi).2.1⟩
end
#print axioms open_bssz
end Go.Proofs.YtkpkipjelpedeaaDoor
