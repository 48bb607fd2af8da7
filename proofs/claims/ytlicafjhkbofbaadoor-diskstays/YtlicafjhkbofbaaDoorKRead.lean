/- What calls of (*Disk).Read and Stable do: for every device in memory; what is not the device's own is as it was. -/
import Derived.Test.YtlicafjhkbofbaaDoorKRec
namespace Go.Proofs.YtlicafjhkbofbaaDoor
open Go.RowKit

def DS.did (D : DS) (e : Ev) : DS := { D with tr := D.tr ++ [e] }
/-- Block i was read. -/
def DS.reads (D : DS) (i : Nat) : DS := D.spent.did ⟨1, i, fitL D.size (D.blk i).1.zs, BV.nil⟩
/-- A place that is none was read. -/
def DS.misses (D : DS) (i : Int) : DS := D.spent.did ⟨1, i, [], BV.nil⟩

theorem hasI_nat {n i : Nat} (h : i < n) : hasI n (i : Int) = true := by simp [hasI, h]

set_option maxHeartbeats 2000000 in
theorem read_no {p : Addr} {w : World} {Z : Own} {g : Nat} {D : DS} (h : Dk w Z g D) (hp : Pow p w) (hl : D.left = 0) (i : Int) :
    Calls Tryd.prog 14 #[.pointer (some ⟨g, 0, none⟩), .int .i64 i] w fun e w' => e = .panicked [{ v := errV p, recovered := false }] ∧ w = w' := by
  obtain ⟨gb, wv, tv, h⟩ := h
  have hS := spend_no h hp hl
  clear h hp
  go_enter Tryd.func14, Tryd.ntmps14
  go_wp2_with fail
  refine hS.mono ?_
  rintro e w1 ⟨rfl, rfl⟩
  go_wp2_with fail
  exact ⟨rfl, rfl, rfl⟩

set_option maxHeartbeats 2000000 in
theorem read_at {w : World} {Z : Own} {g : Nat} {D : DS} (h : Dk w Z g D) (hl : ¬ D.left = 0) (hlim : D.tr.length < 1000000) (i : Nat) (hi : i < D.n) :
    Calls Tryd.prog 14 #[.pointer (some ⟨g, 0, none⟩), .int .i64 (i : Int)] w fun e w' =>
      ∃ k Z', e = .returned (.slice (some ⟨k, 0, none⟩) D.size D.size) ∧ w.heap.size ≤ k ∧ ¬ Z'.S k ∧ OwnB 5 w' k (fitL D.size (D.blk i).1.zs) ∧ Dk w' Z' g (D.reads i) ∧ Step Z w Z' w' := by
  obtain ⟨gb, wv, tv, h⟩ := h
  have hS := spend_ok h hl
  have hn := h.n
  clear h
  go_enter Tryd.func14, Tryd.ntmps14
  go_wp2_with fail
  refine hS.mono ?_
  rintro e w1 ⟨rfl, h1, s1⟩
  clear hS
  have hH := has_any h1 (i : Int)
  rw [show D.spent.n = D.n from rfl, hasI_nat hi] at hH
  have c1 : w1.cell? ⟨g, 1, none⟩ = some (.slice (some ⟨gb, 0, none⟩) D.n D.n) := h1.c1
  have hx := (h1.okb i hi).1
  have cb : w1.cell? ⟨gb, i * 2, none⟩ = some (D.blk i).1.v := by rw [Nat.mul_comm]; exact h1.cb0 i hi
  have hF := fitted_any h1 hx.bs
  have HF := hide hF
  clear hF
  go_wp2_with fail
  refine hH.mono ?_
  rintro e w2 ⟨rfl, rfl⟩
  clear hH
  go_wp2_with fail
  refine HF.out.mono ?_
  rintro e w3 ⟨rfl, hO, hb⟩
  have h3 := h1.below hb
  have hNS : ¬ Z.S w1.heap.size := fun hs => absurd (h1.lt _ hs) (Nat.lt_irrefl _)
  have hR := record_any h3 1 (i : Int) (hO.bs (fitL_bytes _ hx.bs.bytes) D.size (fitL_length _ _) (by have : D.size ≤ 60000 := h1.size; omega)) BV.nil (BV.In.nil _ _) hlim
  have s3 := s1.trans (Step.of_below Z hb)
  have hle : w.heap.size ≤ w1.heap.size := s1.size
  have HR := hide hR
  clear HF hb h1 s1 c1 cb hx hR
  go_wp2_with fail
  refine HR.out.mono ?_
  rintro e w4 ⟨rfl, Z', tv', h4, s4⟩
  clear HR
  have hO4 : OwnB 5 w4 w1.heap.size (fitL D.size (D.blk i).1.zs) := s4.heap hO hNS
  have hA := s4.aside hO.lt hNS
  go_wp2_with fail
  go_ret
  exact ⟨w1.heap.size, Z', rfl, hle, hA, hO4, ⟨gb, wv, tv', h4⟩, s3.trans s4⟩

set_option maxHeartbeats 2000000 in
theorem read_out {w : World} {Z : Own} {g : Nat} {D : DS} (h : Dk w Z g D) (hl : ¬ D.left = 0) (hlim : D.tr.length < 1000000) (i : Int) (hi : hasI D.n i = false) :
    Calls Tryd.prog 14 #[.pointer (some ⟨g, 0, none⟩), .int .i64 i] w fun e w' =>
      ∃ Z', e = .returned (.slice none 0 0) ∧ Dk w' Z' g (D.misses i) ∧ Step Z w Z' w' := by
  obtain ⟨gb, wv, tv, h⟩ := h
  have hS := spend_ok h hl
  clear h
  go_enter Tryd.func14, Tryd.ntmps14
  go_wp2_with fail
  refine hS.mono ?_
  rintro e w1 ⟨rfl, h1, s1⟩
  clear hS
  have hH := has_any h1 i
  rw [show D.spent.n = D.n from rfl, hi] at hH
  have HR := hide (record_any h1 1 i (Bs.nil w1) BV.nil (BV.In.nil _ _) hlim)
  clear h1
  go_wp2_with fail
  refine hH.mono ?_
  rintro e w2 ⟨rfl, rfl⟩
  clear hH
  go_wp2_with fail
  refine HR.out.mono ?_
  rintro e w4 ⟨rfl, Z', tv', h4, s4⟩
  clear HR
  go_wp2_with fail
  go_ret
  exact ⟨Z', rfl, ⟨gb, wv, tv', h4⟩, s1.trans s4⟩

set_option maxHeartbeats 2000000 in
theorem stable_at {w : World} {Z : Own} {g : Nat} {D : DS} (h : Dk w Z g D) (i : Nat) (hi : i < D.n) :
    Calls Tryd.prog 15 #[.pointer (some ⟨g, 0, none⟩), .int .i64 (i : Int)] w fun e w' =>
      e = .returned (.slice (some ⟨w.heap.size, 0, none⟩) D.size D.size) ∧ OwnB 5 w' w.heap.size (fitL D.size (D.blk i).2.zs) ∧ Below w.heap.size w w' := by
  obtain ⟨gb, wv, tv, h1⟩ := h
  have hn := h1.n
  have hH := has_any h1 (i : Int)
  rw [hasI_nat hi] at hH
  have c1 : w.cell? ⟨g, 1, none⟩ = some (.slice (some ⟨gb, 0, none⟩) D.n D.n) := h1.c1
  have hx := (h1.okb i hi).2
  have cb : w.cell? ⟨gb, i * 2 + 1, none⟩ = some (D.blk i).2.v := by rw [Nat.mul_comm]; exact h1.cb1 i hi
  have HF := hide (fitted_any h1 hx.bs)
  clear h1
  go_enter Tryd.func15, Tryd.ntmps15
  go_wp2_with fail
  refine hH.mono ?_
  rintro e w2 ⟨rfl, rfl⟩
  clear hH
  go_wp2_with fail
  refine HF.out.mono ?_
  rintro e w3 ⟨rfl, hO, hb⟩
  clear HF
  go_wp2_with fail
  go_ret
  exact ⟨rfl, hO, hb⟩
theorem stable_out {w : World} {Z : Own} {g : Nat} {D : DS} (h : Dk w Z g D) (i : Int) (hi : hasI D.n i = false) :
    Calls Tryd.prog 15 #[.pointer (some ⟨g, 0, none⟩), .int .i64 i] w fun e w' => e = .returned (.slice none 0 0) ∧ w = w' := by
  obtain ⟨gb, wv, tv, h1⟩ := h
  have hH := has_any h1 i
  rw [hi] at hH
  clear h1
  go_enter Tryd.func15, Tryd.ntmps15
  go_wp2_with fail
  refine hH.mono ?_
  rintro e w2 ⟨rfl, rfl⟩
  clear hH
  go_wp2_with fail
  go_ret
  exact ⟨rfl, rfl⟩
#print axioms read_at
#print axioms read_no
#print axioms stable_at
end Go.Proofs.YtlicafjhkbofbaaDoor
