
/- What a call of le.Put and of le.Get does: for every number below 2^64, every size, every slice of bytes that can be read; nothing that was there is turned. -/
import Derived.Test.YtgjffoeegnljlaaRows
import Derived.Test.YtgjffoeegnljlaaU8
import Derived.Test.YtgjffoeegnljlaaMem
import Derived.WalkLawsBesides
import Derived.WalkSpells
namespace Go.Proofs.Ytgjffoeegnljlaa
open Go.RowKit
set_option maxRecDepth 20000
def putF (n : Int) (k : Nat) : Nat → Value := fun i => if i < k then .int .u8 (byteAt n i) else .int .u8 0

theorem putF_step {w : World} {g n : Nat} {N : Int} {E : TypeId} (k : Nat) (h : w.rowIs g E n (putF N k)) : (w.setCell ⟨g, k, none⟩ (.int .u8 (N / 256 ^ k % 256))).rowIs g E n (putF N (k + 1)) := by
  refine (h.set k _).congr fun i _ => ?_
  unfold putF
  by_cases e : i = k
  · subst e; simp [byteAt]
  · by_cases e2 : i < k
    · simp [e, e2, show i < k + 1 by omega]
    · simp [e, e2, show ¬ i < k + 1 by omega]

set_option maxHeartbeats 400000 in
theorem put_ok (n : Int) (size : Nat) (w : World) (hn : 0 ≤ n ∧ n < 18446744073709551616) (hs : size ≤ 8) :
    Calls Try.prog 28 #[.int .u64 n, .int .i64 size] w fun e w' => e = .returned (.slice (some ⟨w.heap.size, 0, none⟩) size size) ∧ OwnB 5 w' w.heap.size (putL n size) ∧ Below w.heap.size w w' := by
  have hmk := run_make_row' (P := Try.prog) 22 5 (.int .u8 0) 1 Try.underlying22 Try.info_u8 rfl .i64 .i64 size (by omega) (by omega)
  go_enter Try.func28, Try.ntmps28
  go_wp2
  go_loopw [0, 17] (fun q i wr => ∃ k : Nat, k ≤ size ∧ i = .int .i64 k ∧ q = .int .u64 (n / 256 ^ k) ∧ wr.rowIs w.heap.size 5 size (putF n k) ∧ Below w.heap.size w wr) (fun _ i _ => size - (intOf i).toNat)
  case atStart => exact ⟨0, Nat.zero_le _, rfl, by simp, (World.rowIs_made w _ size _).congr fun i _ => by simp [putF], (Below.refl _ _).alloc (Nat.le_refl _) _⟩
  case round =>
    obtain ⟨k, hk, rfl, rfl, hrow, hbel⟩ := hrel
    by_cases hlt : k < size
    · have hcell := hrow.cell hlt
      have hfro := hrow.frozen k
      have hrow' := putF_step k hrow
      have hbel' : Below w.heap.size w (wr.setCell ⟨w.heap.size, k, none⟩ (.int .u8 (n / 256 ^ k % 256))) := hbel.setCell (Nat.le_refl _) _
      have hN0 : 0 ≤ n / 256 ^ k := Int.ediv_nonneg hn.1 (Int.le_of_lt (Int.pow_pos (by decide)))
      have hN1 : n / 256 ^ k < 18446744073709551616 := Int.lt_of_le_of_lt (Int.ediv_le_self _ hn.1) hn.2
      have hS : n / 256 ^ k / 256 = n / 256 ^ (k + 1) := shr_succ n k
      have HR : Hid ((wr.setCell ⟨w.heap.size, k, none⟩ (.int .u8 (n / 256 ^ k % 256))).rowIs w.heap.size 5 size (putF n (k + 1))) := hrow'
      have HB : Hid (Below w.heap.size w (wr.setCell ⟨w.heap.size, k, none⟩ (.int .u8 (n / 256 ^ k % 256)))) := hbel'
      have HS : Hid (n / 256 ^ k / 256 = n / 256 ^ (k + 1)) := hS
      clear hrow hbel hrow' hbel' hS
      generalize n / 256 ^ k = N at *
      go_wp2
      go_roundw
      case rel => exact ⟨k + 1, by omega, by go_num, by rw [HS.out], HR.out, HB.out⟩
      case measure => simp [intOf]; omega
    · have hk' : k = size := by omega
      subst hk'
      go_wp2
      go_ret
      exact ⟨rfl, OwnB.of_rowIs hrow _ (length_putL _ _) (fun i hi => by rw [putL_getD _ _ _ hi]; simp [putF, hi]), hbel⟩

theorem put_at (n s : Int) (size : Nat) (w : World) (hs : s = size) (hn : 0 ≤ n ∧ n < 18446744073709551616) (h8 : size ≤ 8) :
    Calls Try.prog 28 #[.int .u64 n, .int .i64 s] w fun e w' => e = .returned (.slice (some ⟨w.heap.size, 0, none⟩) size size) ∧ OwnB 5 w' w.heap.size (putL n size) ∧ Below w.heap.size w w' := by
  subst hs
  exact put_ok n size w hn h8

theorem put_bad (n size : Int) (w : World) (hs : size < 0 ∨ 8 < size) :
    Calls Try.prog 28 #[.int .u64 n, .int .i64 size] w fun e w' => e = .returned (.slice none 0 0) ∧ w = w' := by
  rcases hs with hs | hs
  · go_enter Try.func28, Try.ntmps28
    go_wp2
    go_ret
    exact ⟨rfl, rfl⟩
  · have h0 : decide (size < 0) = false := by simp; omega
    go_enter Try.func28, Try.ntmps28
    go_wp2
    go_ret
    exact ⟨rfl, rfl⟩
#print axioms put_ok
#print axioms put_bad
end Go.Proofs.Ytgjffoeegnljlaa
