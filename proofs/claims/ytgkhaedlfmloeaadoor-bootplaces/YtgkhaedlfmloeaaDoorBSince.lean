
/- What a call of dumbwaiterlaw6.Since tells behind a beginning: two reads, a write and a flush; all else is as it was. -/
import Derived.Test.YtgkhaedlfmloeaaDoorBAwake
namespace Go.Proofs.YtgkhaedlfmloeaaDoor
open Go.RowKit

theorem size_ev15 : (Tryd.prog.info? 36).map (·.size) = some 15 := by kernel_rfl
/-- The four events, from offset o of block te on; the write's bytes lie in block m. -/
structure Four (w : World) (te o m i : Nat) (pl : Nat) (size : Nat) (zs : List Int) : Prop where
  k0 : w.cell? ⟨te, o, none⟩ = some (.int .i64 1)
  a0 : w.cell? ⟨te, o + 1, none⟩ = some (.int .i64 (i : Int))
  a1 : w.cell? ⟨te, o + 15 + 1, none⟩ = some (.int .i64 ((i + 1 : Nat) : Int))
  k2 : w.cell? ⟨te, o + 30, none⟩ = some (.int .i64 2)
  a2 : w.cell? ⟨te, o + 30 + 1, none⟩ = some (.int .i64 (pl : Int))
  b2 : w.cell? ⟨te, o + 30 + 14, none⟩ = some (.slice (some ⟨m, 0, none⟩) size size)
  k3 : w.cell? ⟨te, o + 45, none⟩ = some (.int .i64 3)
  own : OwnB 5 w m zs

set_option maxHeartbeats 2000000 in
theorem since_begun {w0 W : World} {Z : Own} {g : Nat} {D : DS} {i : Nat} {n : Int} {x : BV} (h : Cl w0 W Z g (D.begun i n x)) (k : Nat) (hk : D.tr.length = k) (hlim : k < 900000) (sz : Nat) (hs : D.size = sz) (zs : List Int) (hz : fitL sz x.zs = zs) :
    Calls Tryd.prog 13 #[.pointer (some ⟨g, 0, none⟩), .int .i64 (k : Int)] W fun e W' => ∃ te o m, e = .returned (.slice (some ⟨te, o, none⟩) 4 4) ∧ Four W' te o m i (plB n i) sz zs ∧ Cl w0 W' Z g (D.begun i n x) ∧ Below W.heap.size W W' := by
  have hl := begun_len D i n x
  have HTr := hide (h.trace (by omega) (k + 4) sz (by omega) hs)
  have hsl : ∀ te w', (Instr.slice 28 (.slice (some ⟨te, 0, none⟩) (k + 4) (k + 4)) (some (.int .i64 (k : Int))) none none).run Tryd.prog w' = .ok (.slice (some ⟨te, 15 * k, none⟩) 4 4) w' := fun te w' => by
    obtain ⟨info, hq, hsz⟩ := Option.map_eq_some_iff.1 size_ev15
    have e : Tryd.prog.elem 28 = 36 := by simp [Program.elem, Tryd.underlying28]
    rw [run_slice_l w' 28 _ (k + 4) (k + 4) (by rw [e]; exact Tryd.underlying28) .i64 k (by omega) (by omega), e]
    simp [sizeOf, typeInfo, hq, hsz, sliced, addr_add, Nat.mul_comm]
  have t0 : (D.begun i n x).tr[k]? = some ⟨1, i, fitL D.size (D.blk i).1.zs, BV.nil⟩ := by
    show ((((D.tr ++ [_]) ++ [_]) ++ [_]) ++ [_])[k]? = _
    subst hk
    simp
  have t1 : (D.begun i n x).tr[k + 1]? = some ⟨1, ((i + 1 : Nat) : Int), fitL D.size (D.blk (i + 1)).1.zs, BV.nil⟩ := by
    show ((((D.tr ++ [_]) ++ [_]) ++ [_]) ++ [_])[k + 1]? = _
    subst hk
    simp
    rfl
  have t2 : (D.begun i n x).tr[k + 2]? = some ⟨2, (plB n i : Nat), x.zs, x⟩ := by
    show ((((D.tr ++ [_]) ++ [_]) ++ [_]) ++ [_])[k + 2]? = _
    subst hk
    simp
  have t3 : (D.begun i n x).tr[k + 3]? = some ⟨3, 0, [], BV.nil⟩ := by
    show ((((D.tr ++ [_]) ++ [_]) ++ [_]) ++ [_])[k + 3]? = _
    subst hk
    simp
  clear h hl
  generalize D.begun i n x = D' at *
  go_enter Tryd.func13, Tryd.ntmps13
  go_wp2_with fail
  refine HTr.out.mono ?_
  rintro e W1 ⟨rfl, T, C, b⟩
  have hs1 := hsl W.heap.size
  obtain ⟨v0, r0, _⟩ := T.ev k _ t0
  obtain ⟨v1, r1, _⟩ := T.ev (k + 1) _ t1
  obtain ⟨v2, r2, h2⟩ := T.ev (k + 2) _ t2
  obtain ⟨v3, r3, _⟩ := T.ev (k + 3) _ t3
  obtain ⟨m, rfl, hm, hmS, hO⟩ : ∃ m, v2 = ⟨some ⟨m, 0, none⟩, sz, sz, fitL sz x.zs⟩ ∧ W.heap.size < m ∧ ¬ Z.S m ∧ OwnB 5 W1 m (fitL sz x.zs) := by
    rcases h2 with ⟨_, h0⟩ | ⟨h0, _⟩
    · exact h0
    · exact absurd rfl h0
  rw [hz] at hO
  have F4 : Four W1 W.heap.size (15 * k) m i (plB n i) sz zs :=
    { k0 := by have := r0 0 _ rfl; rwa [Nat.add_zero] at this
      a0 := r0 1 _ rfl
      a1 := by have := r1 1 _ rfl; rwa [show 15 * (k + 1) + 1 = 15 * k + 15 + 1 by omega] at this
      k2 := by have := r2 0 _ rfl; rwa [show 15 * (k + 2) + 0 = 15 * k + 30 by omega] at this
      a2 := by have := r2 1 _ rfl; rwa [show 15 * (k + 2) + 1 = 15 * k + 30 + 1 by omega] at this
      b2 := by have := r2 14 _ (evL_14 _ _ _ _ (fitL_length _ _)); rwa [show 15 * (k + 2) + 14 = 15 * k + 30 + 14 by omega] at this
      k3 := by have := r3 0 _ rfl; rwa [show 15 * (k + 3) + 0 = 15 * k + 45 by omega] at this
      own := hO }
  have H4 := hide F4
  have hmin : min (k : Int) ((k : Int) + 4) = (k : Int) := by omega
  clear T r0 r1 r2 r3 h2 hO F4 HTr hsl t0 t1 t2 t3
  go_wp2_with fail
  go_ret
  exact ⟨_, _, m, rfl, H4.out, C, b⟩
#print axioms since_begun
end Go.Proofs.YtgkhaedlfmloeaaDoor
