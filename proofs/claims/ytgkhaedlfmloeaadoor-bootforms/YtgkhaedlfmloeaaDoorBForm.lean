
/- What calls of dumbwaiterref6.Garbled and of the closure of dumbwaiterlaw8.BootForms do. No conditions but those that each line states. -/
import Derived.Test.YtgkhaedlfmloeaaDoorBAwake
import Derived.Test.YtgkhaedlfmloeaaDoorTree
namespace Go.Proofs.YtgkhaedlfmloeaaDoor
open Go.RowKit

set_option maxHeartbeats 2000000 in
theorem rgarb_any {a : Option Addr} {len cap : Nat} {zs : List Int} (w : World) (h : Bs w a len cap zs) (h0 : 0 < len) (hl : len ≤ 1000000) :
    Calls Tryd.prog 17 #[.slice a len cap] w fun e w' => ∃ g c, e = .returned (.slice (some ⟨g, 0, none⟩) len c) ∧ OwnS 5 w.heap.size w' (some ⟨g, 0, none⟩) len c (badL zs) ∧ Below w.heap.size w w' := by
  obtain ⟨a1, c1, w1, hr1, ho1, hb1⟩ := run_append_fresh w a len cap zs h (by omega)
  obtain ⟨g, rfl, hg1, hg2⟩ := ho1.form h0
  have hzl := h.length
  go_enter Tryd.func17, Tryd.ntmps17
  go_wp2_with (at_builtin; refine wpList_append_run (by rfl) (.tmp 5) (.tmp 6) 26 (by rfl) _ _ _ _ (by rfl) (by rfl) hr1 ?_)
  go_loopw [4] (fun v wr => ∃ k : Nat, k ≤ len ∧ v = .int .i64 k ∧ OwnS 5 w.heap.size wr (some ⟨g, 0, none⟩) len c1 (halfL k zs) ∧ Below w.heap.size w wr) (fun v _ => len - (intOf v).toNat)
  case atStart => exact ⟨0, Nat.zero_le _, rfl, by rw [halfL_zero]; exact ho1, hb1⟩
  case round =>
    obtain ⟨k, hk, rfl, ho, hb⟩ := hrel
    clear hr1 ho1 hb1
    by_cases hlt : k < len
    · have hc := ho.cell k hlt
      rw [halfL_get k zs (by omega)] at hc
      have hf := ho.frozen k
      have hx := h.bytes.getD k
      have hxr := bits_xr (zs.getD k 0) 165 hx (by omega)
      have ho2 := ho.set k (xr (zs.getD k 0) 165) (xr_lt _ _ hx (by omega))
      rw [halfL_step k zs (by omega)] at ho2
      have hb2 := hb.setCell (p := ⟨g, k, none⟩) hg1 (.int .u8 (xr (zs.getD k 0) 165))
      clear ho hb
      have HO := hide ho2
      have HB := hide hb2
      clear ho2 hb2
      generalize zs.getD k 0 = X at *
      go_wp2_with fail
      go_roundw
      case rel => exact ⟨k + 1, by omega, by go_num, HO.out, HB.out⟩
      case measure => simp [intOf]; omega
    · obtain rfl : k = len := by omega
      have e : halfL k zs = badL zs := by rw [← hzl]; exact halfL_all zs
      rw [e] at ho
      go_wp2_with fail
      go_ret
      exact ⟨g, c1, rfl, ho, hb⟩

/-- A row with one byte turned. -/
def turnL (zs : List Int) (j : Nat) : List Int := zs.set j (xr (zs.getD j 0) 1)
set_option maxHeartbeats 2000000 in
theorem turned_any {a : Option Addr} {len cap rb : Nat} {zs : List Int} (w : World) (h : Bs w a len cap zs) (hr : w.cell? ⟨rb, 0, none⟩ = some (.slice a len cap)) (j : Nat) (hj : j < len) (hl : len ≤ 1000000) :
    Calls Tryd.prog 16 #[.int .i64 (j : Int), .pointer (some ⟨rb, 0, none⟩)] w fun e w' => ∃ g c, e = .returned (.slice (some ⟨g, 0, none⟩) len c) ∧ OwnS 5 w.heap.size w' (some ⟨g, 0, none⟩) len c (turnL zs j) ∧ Below w.heap.size w w' := by
  obtain ⟨a1, c1, w1, hr1, ho1, hb1⟩ := run_append_fresh w a len cap zs h (by omega)
  obtain ⟨g, rfl, hg1, hg2⟩ := ho1.form (by omega)
  have hc := ho1.cell j hj
  have hf := ho1.frozen j
  have hx := h.bytes.getD j
  have hxr := bits_xr (zs.getD j 0) 1 hx (by omega)
  have hr' : (w.alloc (Obj.cells #[] 5)).cell? ⟨rb, 0, none⟩ = some (.slice a len cap) := by
    rw [(below_alloc (Below.refl w.heap.size w) (Obj.cells #[] 5)).cell (World.block_lt_of_cell? w _ hr)]
    exact hr
  have HO := hide (ho1.set j (xr (zs.getD j 0) 1) (xr_lt _ _ hx (by omega)))
  have HB := hide (hb1.setCell (p := ⟨g, j, none⟩) hg1 (.int .u8 (xr (zs.getD j 0) 1)))
  have HT : Hid (zs.set j (xr (zs.getD j 0) 1) = turnL zs j) := rfl
  clear ho1 hb1
  generalize zs.getD j 0 = X at *
  go_enter Tryd.func16, Tryd.ntmps16
  go_wp2_with (at_builtin; refine wpList_append_run (by rfl) (.tmp 5) (.tmp 6) 26 (by rfl) _ _ _ _ (by rfl) (by rfl) hr1 ?_)
  go_ret
  exact ⟨g, c1, rfl, by rw [← HT.out]; exact HO.out, HB.out⟩
#print axioms rgarb_any
#print axioms turned_any
end Go.Proofs.YtgkhaedlfmloeaaDoor
