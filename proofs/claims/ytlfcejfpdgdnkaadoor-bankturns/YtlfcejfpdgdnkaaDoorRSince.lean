
/- What a call of dumbwaiterlaw6.Since tells: the events from one on; all else is as it was. No conditions but those that each line states. -/
import Derived.Test.YtlfcejfpdgdnkaaDoorXSupr
namespace Go.Proofs.YtlfcejfpdgdnkaaDoor
open Go.RowKit
set_option maxRecDepth 20000

theorem size_ev : (Tryd.prog.info? 42).map (·.size) = some 15 := by kernel_rfl
/-- The slice '.slice a n n' tells kinds and places of these events. -/
structure Sees (w : World) (a : Option Addr) (l : List Ev) : Prop where
  ev : ∀ (j : Nat) (e : Ev), l[j]? = some e → ∃ te o, a = some ⟨te, o, none⟩ ∧ te < w.heap.size ∧ w.cell? ⟨te, o + j * 15, none⟩ = some (.int .i64 e.kind) ∧ w.cell? ⟨te, o + j * 15 + 1, none⟩ = some (.int .i64 e.at_)
theorem Sees.below {w w' : World} {a : Option Addr} {l : List Ev} (h : Sees w a l) (b : Below w.heap.size w w') : Sees w' a l := ⟨fun j e he => by
  obtain ⟨te, o, h1, h2, h3, h4⟩ := h.ev j e he
  exact ⟨te, o, h1, Nat.lt_of_lt_of_le h2 b.size, keep_cell h3 b, keep_cell h4 b⟩⟩
set_option maxHeartbeats 2000000 in
theorem since_new {w0 W : World} {Z : Own} {g : Nat} {D : DS} (h : Cl w0 W Z g D) (k n : Nat) (hk : D.tr.length = k + n) (hlim : k + n < 900000) (l : List Ev) (hl : D.tr.drop k = l) :
    Calls Tryd.prog 13 #[.pointer (some ⟨g, 0, none⟩), .int .i64 (k : Int)] W fun e W' => ∃ a, e = .returned (.slice a n n) ∧ Sees W' a l ∧ Cl w0 W' Z g D ∧ Below W.heap.size W W' ∧ (∀ p, a = some p → W.heap.size ≤ p.block) := by
  have HTr := hide (h.trace (by omega) (k + n) D.size hk rfl)
  have hsl : ∀ te w', (Instr.slice 33 (.slice (some ⟨te, 0, none⟩) (k + n) (k + n)) (some (.int .i64 (k : Int))) none none).run Tryd.prog w' = .ok (.slice (if n = 0 then some ⟨te, 0, none⟩ else some ⟨te, 15 * k, none⟩) n n) w' := fun te w' => by
    obtain ⟨info, hq, hsz⟩ := Option.map_eq_some_iff.1 size_ev
    have e : Tryd.prog.elem 33 = 42 := by simp [Program.elem, Tryd.underlying33]
    rw [run_slice_l w' 33 _ (k + n) (k + n) (by rw [e]; exact Tryd.underlying33) .i64 k (by omega) (by omega), e]
    by_cases h0 : n = 0
    · subst h0
      simp [sizeOf, typeInfo, hq, hsz, sliced]
    · simp [sizeOf, typeInfo, hq, hsz, sliced, addr_add, Nat.mul_comm, h0]
  have hmin : min (k : Int) ((k : Int) + (n : Int)) = (k : Int) := by omega
  subst hl
  clear h
  go_enter Tryd.func13, Tryd.ntmps13
  go_wp2_with fail
  refine HTr.out.mono ?_
  rintro e W1 ⟨rfl, T, C, b⟩
  have hs1 := hsl W.heap.size
  have hT : Sees W1 (if n = 0 then some ⟨W.heap.size, 0, none⟩ else some ⟨W.heap.size, 15 * k, none⟩) (D.tr.drop k) := ⟨fun j ev he => by
    rw [List.getElem?_drop] at he
    have hj : k + j < D.tr.length := (List.getElem?_eq_some_iff.1 he).1
    have hn : ¬ n = 0 := by omega
    have c1 := T.kind (k + j) ev he
    have c2 := T.place (k + j) ev he
    rw [if_neg hn]
    refine ⟨_, _, rfl, World.block_lt_of_cell? W1 _ c1, ?_, ?_⟩
    · rw [show 15 * k + j * 15 = (k + j) * 15 by omega]; exact c1
    · rw [show 15 * k + j * 15 = (k + j) * 15 by omega]; exact c2⟩
  have hnw : ∀ p, (if n = 0 then some (⟨W.heap.size, 0, none⟩ : Addr) else some ⟨W.heap.size, 15 * k, none⟩) = some p → W.heap.size ≤ p.block := fun p hp => by
    split at hp <;> (cases hp; exact Nat.le_refl _)
  have HNW := hide hnw
  clear HTr hsl T hk hnw
  generalize (if n = 0 then some (⟨W.heap.size, 0, none⟩ : Addr) else some ⟨W.heap.size, 15 * k, none⟩) = a at *
  go_wp2_with fail
  go_ret
  exact ⟨a, rfl, hT, C, b, HNW.out⟩
theorem since_any {w0 W : World} {Z : Own} {g : Nat} {D : DS} (h : Cl w0 W Z g D) (k n : Nat) (hk : D.tr.length = k + n) (hlim : k + n < 900000) (l : List Ev) (hl : D.tr.drop k = l) :
    Calls Tryd.prog 13 #[.pointer (some ⟨g, 0, none⟩), .int .i64 (k : Int)] W fun e W' => ∃ a, e = .returned (.slice a n n) ∧ Sees W' a l ∧ Cl w0 W' Z g D ∧ Below W.heap.size W W' := by
  refine (since_new h k n hk hlim l hl).mono ?_
  rintro e W' ⟨a, h1, h2, h3, h4, -⟩
  exact ⟨a, h1, h2, h3, h4⟩
#print axioms since_any
end Go.Proofs.YtlfcejfpdgdnkaaDoor
