/- What calls of (*Disk).spoiled and settle do: for every device in memory; what is not the device's own is as it was. -/
import Derived.Test.YtlicafjhkbofbaaDoorKFlush
namespace Go.Proofs.YtlicafjhkbofbaaDoor
open Go.RowKit

theorem OwnB.set {E : TypeId} {w : World} {g : Nat} {zs : List Int} (h : OwnB E w g zs) (k : Nat) (z : Int) : OwnB E (w.setCell ⟨g, k, none⟩ (.int .u8 z)) g (zs.set k z) := by
  unfold OwnB at h ⊢
  rw [heap_setCell_same w g k _ _ _ h]
  simp [List.map_set]
theorem OwnB.froz {E : TypeId} {w : World} {g : Nat} {zs : List Int} (h : OwnB E w g zs) (k : Nat) : w.frozen? ⟨g, k, none⟩ = false := frozen_of_row w g k _ _ h

/-- The first k bytes are garbled. -/
def halfL (k : Nat) (ys : List Int) : List Int := badL (ys.take k) ++ ys.drop k
theorem halfL_zero (ys : List Int) : halfL 0 ys = ys := by simp [halfL, badL]
theorem halfL_all (ys : List Int) : halfL ys.length ys = badL ys := by simp [halfL]
theorem halfL_length (k : Nat) (ys : List Int) : (halfL k ys).length = ys.length := by
  simp only [halfL, List.length_append, badL_length, List.length_take, List.length_drop]; omega
theorem halfL_get (k : Nat) (ys : List Int) (h : k < ys.length) : (halfL k ys).getD k 0 = ys.getD k 0 := by
  unfold halfL
  rw [List.getD, List.getElem?_append_right (by rw [badL_length, List.length_take]; omega), badL_length, List.length_take, List.getElem?_drop, show k + (k - min k ys.length) = k by omega]
  rfl
theorem halfL_step (k : Nat) (ys : List Int) (h : k < ys.length) : (halfL k ys).set k (xr (ys.getD k 0) 165) = halfL (k + 1) ys := by
  unfold halfL
  have hl : (badL (ys.take k)).length = k := by rw [badL_length, List.length_take]; omega
  rw [List.set_append_right _ _ (by omega), hl, Nat.sub_self, take_snoc ys k h]
  have : ys.drop k = ys.getD k 0 :: ys.drop (k + 1) := by
    rw [List.drop_eq_getElem_cons h]
    simp [List.getD, h]
  rw [this, List.set_cons_zero]
  simp [badL]

section
variable {w : World} {Z : Own} {g : Nat} {D : DS} {gb : Nat} {wv tv : Value}

theorem DkAt.cd0 (h : DkAt w Z g D gb wv tv) (i : Nat) (hi : i < D.n) : w.cell? ⟨gb, i * 2, none⟩ = some (D.blk i).1.v := by rw [Nat.mul_comm]; exact h.cb0 i hi
theorem DkAt.cd1 (h : DkAt w Z g D gb wv tv) (i : Nat) (hi : i < D.n) : w.cell? ⟨gb, i * 2 + 1, none⟩ = some (D.blk i).2.v := by rw [Nat.mul_comm]; exact h.cb1 i hi

set_option maxHeartbeats 2000000 in
theorem spoiled_any (h : DkAt w Z g D gb wv tv) {a : Option Addr} {len cap : Nat} {zs : List Int} (hx : Bs w a len cap zs) :
    Calls Tryd.prog 42 #[.pointer (some ⟨g, 0, none⟩), .slice a len cap] w fun e w' => e = .returned (.slice (some ⟨w.heap.size, 0, none⟩) D.size D.size) ∧ OwnB 5 w' w.heap.size (badL (fitL D.size zs)) ∧ Below w.heap.size w w' := by
  have HF := hide (fitted_any h hx)
  have hs := h.size
  have hyl := fitL_length D.size zs
  have hyb := fitL_bytes D.size hx.bytes
  clear h hx
  generalize fitL D.size zs = ys at *
  generalize D.size = sz at *
  subst hyl
  go_enter Tryd.func42, Tryd.ntmps42
  go_wp2_with fail
  refine HF.out.mono ?_
  rintro e w1 ⟨rfl, hO, hb⟩
  clear HF
  go_wp2_with fail
  go_loopw [12] (fun v wr => ∃ k : Nat, k ≤ ys.length ∧ v = .int .i64 k ∧ OwnB 5 wr w.heap.size (halfL k ys) ∧ Below w.heap.size w wr) (fun v _ => ys.length - (intOf v).toNat)
  case atStart => exact ⟨0, Nat.zero_le _, rfl, by rw [halfL_zero]; exact hO, hb⟩
  case round =>
    obtain ⟨k, hk, rfl, hO2, hb2⟩ := hrel
    clear hO hb
    by_cases hlt : k < ys.length
    · have c := hO2.cell k (by rw [halfL_length]; exact hlt)
      rw [halfL_get k ys hlt] at c
      have f := hO2.froz k
      have hz := hyb.getD k
      have hX := bits_xr (ys.getD k 0) 165 hz ⟨by decide, by decide⟩
      have hO3 := hO2.set k (xr (ys.getD k 0) 165)
      rw [halfL_step k ys hlt] at hO3
      have hb3 := hb2.setCell (p := ⟨w.heap.size, k, none⟩) (Nat.le_refl _) (.int .u8 (xr (ys.getD k 0) 165))
      clear hO2 hb2
      generalize ys.getD k 0 = z at *
      go_wp2_with fail
      go_roundw
      case rel => exact ⟨k + 1, by omega, by go_num, hO3, hb3⟩
      case measure => simp [intOf]; omega
    · obtain rfl : k = ys.length := by omega
      rw [halfL_all] at hO2
      go_wp2_with fail
      go_ret
      exact ⟨rfl, hO2, hb2⟩

/-- Both of block i. -/
def updB (blk : Nat → BV × BV) (i : Nat) (y : BV) : Nat → BV × BV := fun j => if j = i then (y, y) else blk j
theorem updB_updF (blk : Nat → BV × BV) (i : Nat) (y : BV) : updW (updF blk i y) i y = updB blk i y := by
  funext j
  unfold updW updF updB
  by_cases h : j = i
  · rw [if_pos h, if_pos h, if_pos rfl]
  · rw [if_neg h, if_neg h, if_neg h]
theorem updB_updW (blk : Nat → BV × BV) (i : Nat) : updW blk i (blk i).2 = updB blk i (blk i).2 := by
  funext j
  unfold updW updB
  by_cases h : j = i
  · rw [if_pos h]
  · rw [if_neg h]

/-- What becomes of a write by its choice. -/
def Settled (size : Nat) (zs old : List Int) (c : Int) (ys : List Int) : Prop := (c = 0 → ys = zs) ∧ (c = 1 → ys = old) ∧ (c = 2 → ys = badL (fitL size zs))

set_option maxRecDepth 100000 in
set_option maxHeartbeats 4000000 in
theorem settle_any (h : DkAt w Z g D gb wv tv) (i : Nat) (hi : i < D.n) (x : BV) (hx : x.In w Z.R) (c : Int) (hc : c = 0 ∨ c = 1 ∨ c = 2) :
    Calls Tryd.prog 40 #[.pointer (some ⟨g, 0, none⟩), .agg #[.int .i64 (i : Int), x.v], .int .i64 c] w fun e w' =>
      e = .returned (.tuple #[]) ∧ ∃ Z' y, Settled D.size x.zs (D.blk i).2.zs c y.zs ∧ DkAt w' Z' g { D with blk := updB D.blk i y } gb wv tv ∧ Step Z w Z' w' := by
  have n1 := heap_alloc_new w (.cells #[.int .i64 (i : Int), x.v] 58)
  have b1 := below_alloc (Below.refl _ w) (.cells #[.int .i64 (i : Int), x.v] 58)
  have h1 := h.below b1
  have hx1 : x.In (w.alloc (.cells #[.int .i64 (i : Int), x.v] 58)) Z.R := hx.keep (fun k hk => b1.block k (h.lt k (h.sub k hk))) (fun _ hk => hk)
  have hNS : ¬ Z.S w.heap.size := fun hs => absurd (h.lt _ hs) (Nat.lt_irrefl _)
  have s1 := Step.of_below Z b1
  have hn := h.n
  go_enter Tryd.func40, Tryd.ntmps40
  clear h hx b1
  go_wp2_with fail
  generalize (w.alloc (.cells #[.int .i64 (i : Int), x.v] 58)) = W at *
  have t1 : W.cell? ⟨g, 1, none⟩ = some (.slice (some ⟨gb, 0, none⟩) D.n D.n) := h1.c1
  have t2 : W.cell? ⟨w.heap.size, 0, none⟩ = some (.int .i64 (i : Int)) := cell_of_row W _ 0 _ _ _ n1
  refine wp_region_ord 1000 [0, 1, 2, 3, 4, 5, 6, 7] (fun w' => w'.cell? ⟨g, 1, none⟩ = some (.slice (some ⟨gb, 0, none⟩) D.n D.n) ∧ w'.cell? ⟨w.heap.size, 0, none⟩ = some (.int .i64 (i : Int))) (fun _ => True) (by kernel_rfl) (by kernel_rfl) (by kernel_rfl) ⟨t1, t2⟩ trivial (fun _ _ => ?_)
  have h2 := h1.drew
  have s2 := s1.drew
  have hx2 : x.In W.drew Z.R := hx1.keep (fun _ _ => rfl) (fun _ hk => hk)
  have n2 : W.drew.heap[w.heap.size]? = some (.cells #[.int .i64 (i : Int), x.v] 58 (0, 0)) := n1
  clear h1 s1 hx1 n1 t1 t2
  generalize W.drew = W1 at *
  refine wpOrd_quiet (v := ?_) rfl rfl (fun _ _ _ h => h) (by rfl) ?_ ?_
  rotate_left
  · (intro w' hT _; obtain ⟨t1, t2⟩ := hT; go_simp; try rfl)
  simp only [Act.put, List.setIfInBounds_toArray, List.set_cons_zero, List.set_cons_succ]
  refine wpOrd_quiet (v := ?_) rfl rfl (fun _ _ _ h => h) (by rfl) ?_ ?_
  rotate_left
  · (intro w' hT _; obtain ⟨t1, t2⟩ := hT; go_simp; try rfl)
  simp only [Act.put, List.setIfInBounds_toArray, List.set_cons_zero, List.set_cons_succ]
  refine wpOrd_quiet (v := ?_) rfl rfl (fun _ _ _ h => h) (by rfl) ?_ ?_
  rotate_left
  · (intro w' hT _; obtain ⟨t1, t2⟩ := hT; go_simp; try rfl)
  simp only [Act.put, List.setIfInBounds_toArray, List.set_cons_zero, List.set_cons_succ]
  refine wpOrd_quiet (v := ?_) rfl rfl (fun _ _ _ h => h) (by rfl) ?_ ?_
  rotate_left
  · (intro w' hT _; obtain ⟨t1, t2⟩ := hT; go_simp; try rfl)
  simp only [Act.put, List.setIfInBounds_toArray, List.set_cons_zero, List.set_cons_succ]
  refine wpOrd_quiet (v := ?_) rfl rfl (fun _ _ _ h => h) (by rfl) ?_ ?_
  rotate_left
  · (intro w' hT _; obtain ⟨t1, t2⟩ := hT; go_simp; try rfl)
  simp only [Act.put, List.setIfInBounds_toArray, List.set_cons_zero, List.set_cons_succ]
  refine wpOrd_quiet (v := ?_) rfl rfl (fun _ _ _ h => h) (by rfl) ?_ ?_
  rotate_left
  · (intro w' hT _; obtain ⟨t1, t2⟩ := hT; go_simp; try rfl)
  simp only [Act.put, List.setIfInBounds_toArray, List.set_cons_zero, List.set_cons_succ]
  refine wpOrd_quiet (v := ?_) rfl rfl (fun _ _ _ h => h) (by rfl) ?_ ?_
  rotate_left
  · (intro w' hT _; obtain ⟨t1, t2⟩ := hT; go_simp; try rfl)
  simp only [Act.put, List.setIfInBounds_toArray, List.set_cons_zero, List.set_cons_succ]
  refine wpOrd_quiet (v := ?_) rfl rfl (fun _ _ _ h => h) (by rfl) ?_ ?_
  rotate_left
  · (intro w' hT _; obtain ⟨t1, t2⟩ := hT; go_simp; try rfl)
  simp only [Act.put, List.setIfInBounds_toArray, List.set_cons_zero, List.set_cons_succ]
  refine wpOrd_nil ?_
  have hgl : W1.heap[w.heap.size]? = some (.cells #[.int .i64 (i : Int), x.v] 58 (0, 0)) := n2
  have c0 : W1.cell? ⟨w.heap.size, 1, none⟩ = some x.v := cell_of_row W1 _ 1 _ _ _ n2
  have cb1 : W1.cell? ⟨gb, i * 2 + 1, none⟩ = some (D.blk i).2.v := by rw [Nat.mul_comm]; exact h2.cb1 i hi
  have fb1 := h2.frozb (i * 2 + 1)
  rcases hc with rfl | rfl | rfl
  · obtain ⟨h3, s3⟩ := h2.setF i x hx2
    rw [Nat.mul_comm 2 i] at h3 s3
    have hx3 := (h3.okb i hi).2
    have e3 : (updF D.blk i x i).2 = x := by simp [updF]
    have cb3 : (W1.setCell ⟨gb, i * 2 + 1, none⟩ x.v).cell? ⟨gb, i * 2 + 1, none⟩ = some x.v := by
      have := h3.cd1 i hi
      rw [e3] at this
      exact this
    have cb4 : (W1.setCell ⟨gb, i * 2 + 1, none⟩ x.v).cell? ⟨gb, i * 2, none⟩ = some (updF D.blk i x i).1.v := h3.cd0 i hi
    have fb4 : (W1.setCell ⟨gb, i * 2 + 1, none⟩ x.v).frozen? ⟨gb, i * 2, none⟩ = false := h3.frozb (i * 2)
    obtain ⟨h4, s4⟩ := h3.setW i x (by rw [e3] at hx3; exact hx3)
    rw [Nat.mul_comm 2 i] at h4 s4
    have h5 := h4
    dsimp only at h5
    rw [updB_updF] at h5
    have S5 := (s2.trans s3).trans s4
    clear h2 h3 h4 s2 s3 s4 hx2 hx3 n2 hgl e3
    go_wp2_with fail
    refine bodyPost_end (results_none rfl _ _ _) rfl ?_
    exact ⟨rfl, Z, x, ⟨fun _ => rfl, fun h => absurd h (by decide), fun h => absurd h (by decide)⟩, h5, S5⟩
  · have cb4 : W1.cell? ⟨gb, i * 2, none⟩ = some (D.blk i).1.v := by rw [Nat.mul_comm]; exact h2.cb0 i hi
    have fb4 := h2.frozb (i * 2)
    obtain ⟨h4, s4⟩ := h2.setW i (D.blk i).2 (h2.okb i hi).2
    rw [Nat.mul_comm 2 i] at h4 s4
    have h5 := h4
    rw [updB_updW] at h5
    have S5 := s2.trans s4
    clear h2 h4 s2 s4 hx2 n2 hgl
    go_wp2_with fail
    refine bodyPost_end (results_none rfl _ _ _) rfl ?_
    exact ⟨rfl, Z, _, ⟨fun h => absurd h (by decide), fun _ => rfl, fun h => absurd h (by decide)⟩, h5, S5⟩
  · have HS := hide (spoiled_any h2 hx2.bs)
    have hzb := hx2.bs.bytes
    go_wp2_with fail
    refine HS.out.mono ?_
    rintro e w3 ⟨rfl, hO, hb⟩
    clear HS
    obtain ⟨y, hyd⟩ : ∃ y : BV, y = ⟨some ⟨W1.heap.size, 0, none⟩, D.size, D.size, badL (fitL D.size x.zs)⟩ := ⟨_, rfl⟩
    have hNS1 : ¬ Z.S W1.heap.size := fun hs => absurd (h2.lt _ hs) (Nat.lt_irrefl _)
    have h3 := (h2.below hb).adopt W1.heap.size hNS1 hO.lt
    have s3 := (s2.trans (Step.of_below Z hb)).add W1.heap.size s2.size
    have hsz : D.size ≤ 60000 := h2.size
    have hy : y.In w3 (Z.add W1.heap.size).R := by
      rw [hyd]
      exact ⟨hO.bs (badL_bytes (fitL_bytes _ hzb)) _ (by rw [badL_length, fitL_length]) (by show D.size ≤ _; omega), fun p hp => .inr (by cases hp; rfl)⟩
    have hyz : y.zs = badL (fitL D.size x.zs) := by rw [hyd]
    have hv : Value.slice (some ⟨W1.heap.size, 0, none⟩) D.size D.size = y.v := by rw [hyd]
    rw [hv]
    clear h2 s2 hx2 hb hO hyd hv cb1 fb1 c0 n2 hgl hNS1 hzb
    generalize Z.add W1.heap.size = Z1 at *
    have cb1 : w3.cell? ⟨gb, i * 2 + 1, none⟩ = some (D.blk i).2.v := by rw [Nat.mul_comm]; exact h3.cb1 i hi
    have fb1 := h3.frozb (i * 2 + 1)
    obtain ⟨h4, s4⟩ := h3.setF i y hy
    rw [Nat.mul_comm 2 i] at h4 s4
    have hx3 := (h4.okb i hi).2
    have e3 : (updF D.blk i y i).2 = y := by simp [updF]
    have cb3 : (w3.setCell ⟨gb, i * 2 + 1, none⟩ y.v).cell? ⟨gb, i * 2 + 1, none⟩ = some y.v := by
      have := h4.cd1 i hi
      rw [e3] at this
      exact this
    have cb4 : (w3.setCell ⟨gb, i * 2 + 1, none⟩ y.v).cell? ⟨gb, i * 2, none⟩ = some (updF D.blk i y i).1.v := h4.cd0 i hi
    have fb4 : (w3.setCell ⟨gb, i * 2 + 1, none⟩ y.v).frozen? ⟨gb, i * 2, none⟩ = false := h4.frozb (i * 2)
    obtain ⟨h5, s5⟩ := h4.setW i y (by rw [e3] at hx3; exact hx3)
    rw [Nat.mul_comm 2 i] at h5 s5
    have h6 := h5
    dsimp only at h6
    rw [updB_updF] at h6
    have S6 := (s3.trans s4).trans s5
    clear h3 h4 h5 s3 s4 s5 hy hx3 e3
    go_wp2_with fail
    refine bodyPost_end (results_none rfl _ _ _) rfl ?_
    exact ⟨rfl, Z1, y, ⟨fun h => absurd h (by decide), fun h => absurd h (by decide), fun _ => hyz⟩, h6, S6⟩
end
#print axioms settle_any
end Go.Proofs.YtlicafjhkbofbaaDoor
