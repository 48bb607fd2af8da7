
/- How a slice of steps that came in is opened. No conditions but those that each line states. -/
import Derived.Test.YtlfcejfpdgdnkaaDoorXDisk
import Derived.Deep.Strs
namespace Go.Proofs.YtlfcejfpdgdnkaaDoor
open Go.ChangeShapes Go.WideShapes Go.ChangeAt Go.RowKit
set_option maxRecDepth 20000

/-- The value '.slice a len cap', a slice of steps, reads in w as these kinds, places and texts. -/
structure Sts (w : World) (a : Option Addr) (len cap : Nat) (kd pl : Nat → Int) (xs : Nat → BV) : Prop where
  le_cap : len ≤ cap
  cap_le : cap ≤ 9223372036854775807
  item : ∀ i, i < len → (∃ b off, a = some ⟨b, off, none⟩ ∧ w.cell? ⟨b, off + i * 3, none⟩ = some (.int .i64 (kd i)) ∧ w.cell? ⟨b, off + i * 3 + 1, none⟩ = some (.int .i64 (pl i)) ∧ w.cell? ⟨b, off + i * 3 + 2, none⟩ = some (xs i).v) ∧ Bs w (xs i).a (xs i).len (xs i).cap (xs i).zs
theorem cells_int1 : Tryd.prog.cellsOf 3 = 1 := by kernel_rfl
theorem cells_step : Tryd.prog.cellsOf 50 = 3 := by kernel_rfl
section
variable {H : Type} {enc : TypeId × Value → H} {W : World} {base : Nat} {held : Bool}
theorem step_of_trod {fuel : Nat} {cs : List Value} {x : DataW H × List MemPlace} (hf : DataW.trod enc Tryd.prog W base (fun _ => true) held fuel 50 cs = some x) :
    ∃ (k p : Int) (y : BV), cs = [.int .i64 k, .int .i64 p, y.v] ∧ Bs W y.a y.len y.cap y.zs := by
  obtain ⟨y0, y1, y2, n, -, hl, h0, h1, h2⟩ := Deep.trod_struct3 Tryd.underlying50 hf
  rw [cells_step] at hl
  match cs, hl with
  | [v0, v1, v2], _ =>
    simp only [cells_int1, cells_bs, List.drop_zero, List.drop_succ_cons, List.take_succ_cons, List.take_zero] at h0 h1 h2
    obtain ⟨k, e0, -, -⟩ := DataW.trod_int Tryd.underlying3 h0
    obtain ⟨p, e1, -, -⟩ := DataW.trod_int Tryd.underlying3 h1
    obtain ⟨y, e2, hb⟩ := bs_of_trod h2
    simp only [List.cons.injEq, and_true] at e0 e1
    exact ⟨k, p, y, by rw [e0, e1, e2], hb⟩
/-- A slice of steps that came in. -/
theorem open_sts {r : Reach} {b0 : Nat} {v : Value} {d : DataW H} {p : List MemPlace} (hok : Value.okWide Tryd.prog W r b0 45 v)
    (h : DataW.Trod enc Tryd.prog W base (fun _ => true) held 45 v d p) : ∃ a len cap kd pl xs, v = .slice a len cap ∧ Sts W a len cap kd pl xs := by
  obtain ⟨a, len, cap, rfl⟩ := okWide_slice Tryd.underlying45 hok
  obtain ⟨fuel, hf⟩ := h
  rcases Deep.open_slice Tryd.underlying45 hf with ⟨hcs, _⟩ | ⟨x, l, c, m, n, D, Pl, hcs, _, hl, hm, hmm, _, hV⟩
  · simp [Value.cells] at hcs
    obtain ⟨rfl, rfl, rfl⟩ := hcs
    exact ⟨none, 0, 0, fun _ => 0, fun _ => 0, fun _ => BV.nil, rfl, Nat.le_refl _, by omega, fun i hi => absurd hi (Nat.not_lt_zero _)⟩
  · simp [Value.cells] at hcs
    obtain ⟨rfl, rfl, rfl⟩ := hcs
    simp only [if_true] at hmm
    unfold maxLen at hm
    rw [cells_step] at hV
    have key : ∀ i, ∃ q : Int × Int × BV, i < len → (W.cell? (x.add (i * 3)) = some (.int .i64 q.1) ∧ W.cell? ((x.add (i * 3)).add 1) = some (.int .i64 q.2.1) ∧ W.cell? ((x.add (i * 3)).add 2) = some q.2.2.v) ∧ Bs W q.2.2.a q.2.2.len q.2.2.cap q.2.2.zs := fun i => by
      by_cases hi : i < len
      · obtain ⟨cs', h1, h2⟩ := hV i (by omega)
        obtain ⟨k, p, y, rfl, hb⟩ := step_of_trod h2
        obtain ⟨_, _, hc⟩ := World.cells?_some h1
        have c0 := hc 0 (by omega)
        have c1 := hc 1 (by omega)
        have c2 := hc 2 (by omega)
        refine ⟨(k, p, y), fun _ => ⟨⟨?_, by simpa using c1, by simpa using c2⟩, hb⟩⟩
        have e : (x.add (i * 3)).add 0 = x.add (i * 3) := by
          obtain ⟨b, off, spot⟩ := x
          cases spot <;> simp [Addr.add]
        rw [e] at c0
        simpa using c0
      · exact ⟨(0, 0, BV.nil), fun h => absurd h hi⟩
    obtain ⟨f, hf'⟩ := Classical.axiomOfChoice key
    refine ⟨some x, len, cap, fun i => (f i).1, fun i => (f i).2.1, fun i => (f i).2.2, rfl, hl, by omega, fun i hi => ?_⟩
    obtain ⟨b, off, spot⟩ := x
    have hspot : spot = none := by
      have := World.cell?_spot (hf' 0 (by omega)).1.1
      simpa [Addr.add] using this
    subst hspot
    obtain ⟨⟨k0, k1, k2⟩, hb⟩ := hf' i hi
    rw [addr_add] at k0 k1 k2
    rw [addr_add] at k1 k2
    exact ⟨⟨b, off, rfl, k0, k1, k2⟩, hb⟩
end
#print axioms open_sts
end Go.Proofs.YtlfcejfpdgdnkaaDoor
