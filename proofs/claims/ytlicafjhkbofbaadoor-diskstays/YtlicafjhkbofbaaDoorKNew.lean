/- What a call of disk.New does: for any numbers it answers a new device; nothing that was there is turned. -/
import Derived.Test.YtlicafjhkbofbaaDoorKTrace
namespace Go.Proofs.YtlicafjhkbofbaaDoor
open Go.RowKit

def DS.new (n size : Nat) : DS := ⟨size, n, fun _ => (BV.nil, BV.nil), [], [], -1⟩
theorem Tryd.info_bk : (Tryd.prog.info? 56).map (fun i => (i.zero, i.size, i.bytes)) = some (some (.agg #[.slice none 0 0, .slice none 0 0]), 2, 48) := by kernel_rfl
/-- The cells of n new blocks. -/
def zK (n : Nat) : Array Value := madeCells #[.slice none 0 0, .slice none 0 0] (2 * n)
theorem run_make_bk (n : Nat) (hn : n ≤ 100000) (w : World) : (Instr.makeSlice 49 (.int .i64 (n : Int)) (.int .i64 (n : Int))).run Tryd.prog w = .ok (.slice (some ⟨w.heap.size, 0, none⟩) n n) (w.alloc (.cells (zK n) 56)) := by
  obtain ⟨ie, hie, hzz⟩ := Option.map_eq_some_iff.1 Tryd.info_bk
  simp only [Prod.mk.injEq] at hzz
  obtain ⟨hz, hs, hby⟩ := hzz
  have hmk := run_make (P := Tryd.prog) w 49 56 ie _ Tryd.underlying49 hie hz .i64 .i64 (n : Int) (n : Int) (by omega) (Int.le_refl _) (by rw [hby]; omega) (by omega)
  rw [Int.toNat_natCast, hs, Nat.mul_comm] at hmk
  exact hmk
theorem zK_row (w : World) (n : Nat) : (w.alloc (.cells (zK n) 56)).rowIs w.heap.size 56 (2 * n) (bkF fun _ => (BV.nil, BV.nil)) := by
  have h := World.rowIs_alloc w (zK n) 56 (bkF fun _ => (BV.nil, BV.nil)) (fun i hi => by
    have e : bkF (fun _ => (BV.nil, BV.nil)) i = .slice none 0 0 := by unfold bkF; split <;> rfl
    rw [e]
    unfold zK madeCells at *
    rcases Nat.mod_two_eq_zero_or_one i with h2 | h2
    all_goals
      simp at hi
      simp [hi, h2])
  rw [show (zK n).size = 2 * n from size_madeCells _ _] at h
  exact h
theorem built_dk (size gb n : Nat) : Tryd.prog.built 52 [(0, .int .i64 (size : Int)), (1, .slice (some ⟨gb, 0, none⟩) n n), (4, .int .i64 (-1))] = some (dkV size gb n (.slice none 0 0) (.slice none 0 0) (-1)) := by kernel_rfl

set_option maxHeartbeats 2000000 in
theorem new_any (blocks size : Int) (n sz : Nat) (hn : min (max blocks 0) 100000 = (n : Int)) (hs : min (max size 0) 60000 = (sz : Int)) (w : World) :
    Calls Tryd.prog 10 #[.int .i64 blocks, .int .i64 size] w fun e w' => ∃ g Z, e = .returned (.pointer (some ⟨g, 0, none⟩)) ∧ Dk w' Z g (DS.new n sz) ∧ (∀ k, Z.S k → w.heap.size ≤ k) ∧ Below w.heap.size w w' := by
  have h1 := held_any size 60000 w
  rw [hs] at h1
  have h2 := held_any blocks 100000 w
  rw [hn] at h2
  have hnl : n ≤ 100000 := by omega
  have hsl : sz ≤ 60000 := by omega
  have hmk := run_make_bk n hnl
  have hB := built_dk sz w.heap.size n
  have r1 := zK_row w n
  have b1 := below_alloc (Below.refl _ w) (.cells (zK n) 56)
  have n2 := heap_alloc_new (w.alloc (.cells (zK n) 56)) (.cells (dkV sz w.heap.size n (.slice none 0 0) (.slice none 0 0) (-1)) 52)
  rw [size_alloc] at n2
  have b2 := below_alloc b1 (.cells (dkV sz w.heap.size n (.slice none 0 0) (.slice none 0 0) (-1)) 52)
  have r2 := r1.alloc (.cells (dkV sz w.heap.size n (.slice none 0 0) (.slice none 0 0) (-1)) 52)
  have hsz : ((w.alloc (.cells (zK n) 56)).alloc (.cells (dkV sz w.heap.size n (.slice none 0 0) (.slice none 0 0) (-1)) 52)).heap.size = w.heap.size + 2 := by rw [size_alloc, size_alloc]
  have hD : DkAt ((w.alloc (.cells (zK n) 56)).alloc (.cells (dkV sz w.heap.size n (.slice none 0 0) (.slice none 0 0) (-1)) 52)) ⟨fun k => k = w.heap.size ∨ k = w.heap.size + 1, fun _ => False⟩ (w.heap.size + 1) (DS.new n sz) w.heap.size (.slice none 0 0) (.slice none 0 0) :=
    { disk := n2
      blks := r2
      waits := World.ownsRow_nil _ _ _ _
      trace := World.ownsRow_nil _ _ _ _
      okb := fun i _ => ⟨BV.In.nil _ _, BV.In.nil _ _⟩
      okw := fun _ h => by cases h
      okt := fun _ h => by cases h
      lt := fun k hk => by rw [hsz]; rcases hk with rfl | rfl <;> omega
      sub := fun _ h => h.elim
      gS := .inr rfl
      bS := .inl rfl
      wS := fun k h => by cases h
      tS := fun k h => by cases h
      gR := fun h => h
      bR := fun h => h
      wR := fun _ _ h => h
      tR := fun _ _ h => h
      gb_ne := by omega
      wg := by intro h; cases h
      wb := by intro h; cases h
      tg := by intro h; cases h
      tb := by intro h; cases h
      wt := fun k h => by cases h
      size := hsl
      n := hnl
      left := by show -9223372036854775808 ≤ (-1 : Int) ∧ (-1 : Int) ≤ 9223372036854775807; omega }
  have HD := hide hD
  have HB := hide b2
  clear r1 b1 n2 b2 r2 hsz hD hn hs
  go_enter Tryd.func10, Tryd.ntmps10
  go_wp2_with fail
  refine h1.mono ?_
  rintro e w1 ⟨rfl, rfl⟩
  clear h1
  go_wp2_with fail
  refine h2.mono ?_
  rintro e w1 ⟨rfl, rfl⟩
  clear h2
  go_wp2_with (refine wpList_build_is rfl 52 _ rfl (dkV sz w.heap.size n (.slice none 0 0) (.slice none 0 0) (-1)) (by rw [show (_ : List (Nat × Value)) = [(0, .int .i64 (sz : Int)), (1, .slice (some ⟨w.heap.size, 0, none⟩) n n), (4, .int .i64 (-1))] from by kernel_rfl]; exact hB) ?_)
  go_ret
  exact ⟨w.heap.size + 1, _, rfl, ⟨_, _, _, HD.out⟩, fun k hk => by rcases hk with rfl | rfl <;> omega, HB.out⟩
#print axioms new_any
end Go.Proofs.YtlicafjhkbofbaaDoor
