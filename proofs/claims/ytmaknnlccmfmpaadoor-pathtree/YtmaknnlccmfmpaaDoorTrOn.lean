
/- What a call of path.On answers, of all numbers: the way's row, new; nothing that was there is turned. -/
import Derived.Test.YtmaknnlccmfmpaaDoorTrCode
import Derived.Test.YtmaknnlccmfmpaaDoorVals
namespace Go.Proofs.YtmaknnlccmfmpaaDoor
open Go.RowKit
set_option maxRecDepth 20000

theorem info_int : (Tryd.prog.info? 3).map (fun i => (i.zero, i.size, i.bytes)) = some (some (.int .i64 0), 1, 8) := by kernel_rfl
theorem size_int : (Tryd.prog.info? 3).map (·.size) = some 1 := by kernel_rfl
/-- A way's row, k places of it laid. -/
def wayO (n a : Int) (k : Nat) : Obj := vlO 3 (fun j => .int .i64 (if j < k then ((bkt (dep n) a.toNat j : Nat) : Int) else 0)) (dep n + 1)
theorem wayO_start (n a : Int) : vlO 3 (fun _ => Value.int .i64 0) (dep n + 1) = wayO n a 0 := vl_congr fun j _ => by rw [if_neg (by omega)]
theorem wayO_step {n a : Int} {k g : Nat} {w : World} (h : w.heap[g]? = some (wayO n a k)) : (w.setCell ⟨g, k, none⟩ (.int .i64 ((bkt (dep n) a.toNat k : Nat) : Int))).heap[g]? = some (wayO n a (k + 1)) := by
  unfold wayO at h
  rw [vl_set h k _]
  unfold wayO
  congr 1
  refine vl_congr fun j _ => ?_
  show (if j = k then _ else _) = _
  by_cases e : j = k
  · subst e
    rw [if_pos rfl, if_pos (by omega)]
  · rw [if_neg e]
    by_cases e2 : j < k
    · simp only [if_pos e2]; rw [if_pos (by omega)]
    · simp only [if_neg e2]; rw [if_neg (by omega)]
theorem wayO_ns {n a : Int} {g : Nat} {w : World} (hl : hasL n a = true) (h : w.heap[g]? = some (wayO n a (dep n + 1))) : Ns .i64 w (some ⟨g, 0, none⟩) (dep n + 1) (dep n + 1) (wayL n a) := by
  have hd := dep_le n
  refine ⟨by rw [wayL_length, if_pos hl], Nat.le_refl _, by omega, wayL_wf n a, .inr ⟨g, 0, rfl, fun i hi => ?_⟩⟩
  unfold wayO at h
  rw [Nat.zero_add, vl_cell h i hi, if_pos hi, wayL_getD hl i (by omega)]

set_option maxRecDepth 100000 in
set_option maxHeartbeats 4000000 in
theorem on_any (n a : Int) (w : World) (hn : -9223372036854775808 ≤ n ∧ n ≤ 9223372036854775807) (hg : Tab w) :
    Calls Tryd.prog 11 #[.int .i64 n, .int .i64 a] w fun e w' => ∃ p len cap, e = .returned (.slice p len cap) ∧ Ns .i64 w' p len cap (wayL n a) ∧ Below w.heap.size w w' := by
  have ca := hasLeaf_any n a w hn
  cases hl : hasL n a with
  | false =>
    rw [hl] at ca
    go_enter Tryd.func11, Tryd.ntmps11
    go_wp2_with fail
    refine ca.mono ?_
    rintro e w1 ⟨rfl, rfl⟩
    go_wp2_with fail
    go_ret
    exact ⟨none, 0, 0, rfl, by unfold wayL; rw [if_neg (by rw [hl]; decide)]; exact Ns.nil _ _, Below.refl _ _⟩
  | true =>
    rw [hl] at ca
    obtain ⟨h1, h2, h3⟩ := (hasL_iff n a).1 hl
    have hd := depth_any n w hn hg
    have hdl := dep_le n
    have hlt := hg.lt
    obtain ⟨x, rfl⟩ := Int.eq_ofNat_of_zero_le h2
    have hbk : ∀ (k : Nat) (w : World), k ≤ dep n → Tab w → Calls Tryd.prog 21 #[.int .i64 n, .int .i64 (x : Int), .int .i64 (k : Int)] w fun e w' => e = .returned (.int .i64 ((bkt (dep n) x k : Nat) : Int)) ∧ w = w' := fun k w hk hg => bucket_any n x k w h1 h3 hk hg
    obtain ⟨d, hde⟩ : ∃ d : Nat, dep n + 1 = d := ⟨_, rfl⟩
    have hdi : (dep n : Int) + 1 = (d : Int) := by omega
    have hmk := run_make_row' (P := Tryd.prog) 32 3 (.int .i64 0) 8 Tryd.underlying32 info_int rfl .i64 .i64 d (by omega) (by omega)
    go_enter Tryd.func11, Tryd.ntmps11
    go_wp2_with fail
    refine ca.mono ?_
    rintro e w1 ⟨rfl, rfl⟩
    go_wp2_with fail
    refine hd.mono ?_
    rintro e w1 ⟨rfl, rfl⟩
    go_wp2_with fail
    have hn0 : (w.alloc (Obj.cells (madeCells #[Value.int .i64 0] d) 3)).heap[w.heap.size]? = some (wayO n (x : Int) 0) := by
      rw [heap_alloc_new, vl_made, ← hde, wayO_start]
    have hb0 := below_alloc (Below.refl w.heap.size w) (Obj.cells (madeCells #[Value.int .i64 0] d) 3)
    go_loopw [17] (fun i wr => ∃ k : Nat, k ≤ d ∧ i = .int .i64 (k : Int) ∧ wr.heap[w.heap.size]? = some (wayO n (x : Int) k) ∧ Below w.heap.size w wr) (fun i _ => d - (intOf i).toNat)
    case atStart => exact ⟨0, Nat.zero_le _, rfl, hn0, hb0⟩
    case round =>
      obtain ⟨k, hk, rfl, hr, hb⟩ := hrel
      by_cases hkd : k < d
      · have hcb := hbk k wr (by omega) (hg.below hb hlt)
        have hst := wayO_step hr
        have hcell : wr.cell? ⟨w.heap.size, k, none⟩ = some (.int .i64 (if k < k then ((bkt (dep n) (x : Int).toNat k : Nat) : Int) else 0)) := vl_cell hr k (by omega)
        have hfr : wr.frozen? ⟨w.heap.size, k, none⟩ = false := vl_froz hr k
        rw [if_neg (Nat.lt_irrefl k)] at hcell
        rw [Int.toNat_natCast] at hst
        generalize bkt (dep n) x k = y at *
        have HST := hide hst
        clear hst hbk hmk hn0 hb0
        go_wp2_with fail
        refine hcb.mono ?_
        rintro e w1 ⟨rfl, rfl⟩
        go_wp2_with fail
        go_roundw
        case rel => exact ⟨k + 1, by omega, by go_num, HST.out, hb.setCell (Nat.le_refl _) _⟩
        case measure => simp [intOf]; omega
      · obtain rfl : k = d := by omega
        go_wp2_with fail
        go_ret
        rw [← hde] at hr ⊢
        exact ⟨_, _, _, rfl, wayO_ns hl hr, hb⟩
#print axioms on_any
end Go.Proofs.YtmaknnlccmfmpaaDoor
