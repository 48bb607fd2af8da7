/- What a call of (*Disk).Write does: for every device in memory; what is not the device's own is as it was. -/
import Derived.Test.YtlicafjhkbofbaaDoorKRead
import Derived.OwnWalk
namespace Go.Proofs.YtlicafjhkbofbaaDoor
open Go.RowKit

/-- x was written at block i. -/
def DS.writes (D : DS) (i : Nat) (x : BV) : DS := { D with left := spendL D.left, blk := updW D.blk i x, wait := D.wait ++ [(i, x)], tr := D.tr ++ [⟨2, i, x.zs, x⟩] }
/-- x was written at a place that is none. -/
def DS.loses (D : DS) (i : Int) (x : BV) : DS := D.spent.did ⟨2, i, x.zs, x⟩

set_option maxHeartbeats 2000000 in
theorem write_no {p : Addr} {w : World} {Z : Own} {g : Nat} {D : DS} (h : Dk w Z g D) (hp : Pow p w) (hl : D.left = 0) (i : Int) (v : Value) :
    Calls Tryd.prog 13 #[.pointer (some ⟨g, 0, none⟩), .int .i64 i, v] w fun e w' => e = .panicked [{ v := errV p, recovered := false }] ∧ w = w' := by
  obtain ⟨gb, wv, tv, h⟩ := h
  have hS := spend_no h hp hl
  clear h hp
  go_enter Tryd.func13, Tryd.ntmps13
  go_wp2_with fail
  refine hS.mono ?_
  rintro e w1 ⟨rfl, rfl⟩
  go_wp2_with fail
  exact ⟨rfl, rfl, rfl⟩

theorem builtS_wr (i : Int) (x : BV) : Tryd.prog.builtSlice 58 1 [(0, .agg #[.int .i64 i, x.v])] = some #[.int .i64 i, x.v] := by kernel_rfl
theorem built_wr (i : Int) (x : BV) : Tryd.prog.built 58 [(0, .int .i64 i), (1, x.v)] = some #[.int .i64 i, x.v] := by kernel_rfl
theorem Tryd.info_wr : (Tryd.prog.info? 58).map (fun i => (i.zero, i.size, i.bytes)) = some (some (.agg #[.int .i64 0, .slice none 0 0]), 2, 32) := by kernel_rfl
theorem wrC_one (p : Nat × BV) : ∀ u ∈ wrC p, u.oneCell' = true := by
  intro u hu
  simp only [wrC, List.mem_cons, List.not_mem_nil, or_false] at hu
  rcases hu with rfl | rfl <;> rfl

set_option maxHeartbeats 2000000 in
theorem write_out {w : World} {Z : Own} {g : Nat} {D : DS} (h : Dk w Z g D) (hl : ¬ D.left = 0) (hlim : D.tr.length < 1000000) (i : Int) (hi : hasI D.n i = false) {a : Option Addr} {len cap : Nat} {zs : List Int} (hx : Bz Z w a len cap zs) :
    Calls Tryd.prog 13 #[.pointer (some ⟨g, 0, none⟩), .int .i64 i, .slice a len cap] w fun e w' =>
      ∃ Z' x, e = .returned (.tuple #[]) ∧ x.zs = zs.take D.size ∧ Dk w' Z' g (D.loses i x) ∧ Step Z w Z' w' := by
  obtain ⟨gb, wv, tv, h⟩ := h
  have hS := spend_ok h hl
  clear h
  go_enter Tryd.func13, Tryd.ntmps13
  go_wp2_with fail
  refine hS.mono ?_
  rintro e w1 ⟨rfl, h1, s1⟩
  clear hS
  have hx1 := hx.step s1
  have HK := hide (kept_any h1 hx1.bs)
  have hNS : ¬ Z.S w1.heap.size := fun hs => absurd (h1.lt _ hs) (Nat.lt_irrefl _)
  go_wp2_with fail
  refine HK.out.mono ?_
  rintro e w2 ⟨rfl, hO, hb⟩
  clear HK
  obtain ⟨x, hxd⟩ : ∃ x : BV, x = ⟨some ⟨w1.heap.size, 0, none⟩, min len D.size, min len D.size, zs.take D.size⟩ := ⟨_, rfl⟩
  have h2 := (h1.below hb).adopt w1.heap.size hNS hO.lt
  have s2 := (s1.trans (Step.of_below Z hb)).add w1.heap.size s1.size
  have hsz : D.size ≤ 60000 := h1.size
  have hin : x.In w2 (Z.add w1.heap.size).R := by
    rw [hxd]
    exact ⟨hO.bs (hx1.bs.bytes.take _) _ (by rw [List.length_take, hx1.bs.length]; exact Nat.min_comm _ _) (by show min len D.size ≤ _; omega), fun p hp => .inr (by cases hp; rfl)⟩
  have hH := has_any h2 i
  rw [show D.spent.n = D.n from rfl, hi] at hH
  have HR := hide (record_any h2 2 i hin.bs x hin hlim)
  have hz : x.zs = zs.take D.size := by rw [hxd]
  have hv : Value.slice (some ⟨w1.heap.size, 0, none⟩) (min len D.size) (min len D.size) = x.v := by rw [hxd]
  rw [show D.spent.size = D.size from rfl, hv]
  clear h1 s1 hx hx1 hb hO h2 hin hxd hv
  go_wp2_with fail
  refine hH.mono ?_
  rintro e w3 ⟨rfl, rfl⟩
  clear hH
  go_wp2_with fail
  refine HR.out.mono ?_
  rintro e w4 ⟨rfl, Z', tv', h4, s4⟩
  clear HR
  go_wp2_with fail
  refine bodyPost_end (results_none rfl _ _ _) rfl ?_
  exact ⟨Z', x, rfl, hz, ⟨gb, wv, tv', h4⟩, s2.trans s4⟩

set_option maxHeartbeats 4000000 in
theorem write_at {w : World} {Z : Own} {g : Nat} {D : DS} (h : Dk w Z g D) (hl : ¬ D.left = 0) (hlim : D.tr.length < 1000000) (hlw : D.wait.length < 1000000) (i : Nat) (hi : i < D.n) {a : Option Addr} {len cap : Nat} {zs : List Int} (hx : Bz Z w a len cap zs) :
    Calls Tryd.prog 13 #[.pointer (some ⟨g, 0, none⟩), .int .i64 (i : Int), .slice a len cap] w fun e w' =>
      ∃ Z' x, e = .returned (.tuple #[]) ∧ x.zs = zs.take D.size ∧ Dk w' Z' g (D.writes i x) ∧ Step Z w Z' w' := by
  obtain ⟨gb, wv, tv, h⟩ := h
  have hS := spend_ok h hl
  have hn := h.n
  clear h
  go_enter Tryd.func13, Tryd.ntmps13
  go_wp2_with fail
  refine hS.mono ?_
  rintro e w1 ⟨rfl, h1, s1⟩
  clear hS
  have hx1 := hx.step s1
  have HK := hide (kept_any h1 hx1.bs)
  have hNS : ¬ Z.S w1.heap.size := fun hs => absurd (h1.lt _ hs) (Nat.lt_irrefl _)
  go_wp2_with fail
  refine HK.out.mono ?_
  rintro e w2 ⟨rfl, hO, hb⟩
  clear HK
  obtain ⟨x, hxd⟩ : ∃ x : BV, x = ⟨some ⟨w1.heap.size, 0, none⟩, min len D.size, min len D.size, zs.take D.size⟩ := ⟨_, rfl⟩
  have h2 := (h1.below hb).adopt w1.heap.size hNS hO.lt
  have s2 := (s1.trans (Step.of_below Z hb)).add w1.heap.size s1.size
  have hsz : D.size ≤ 60000 := h1.size
  have hin : x.In w2 (Z.add w1.heap.size).R := by
    rw [hxd]
    exact ⟨hO.bs (hx1.bs.bytes.take _) _ (by rw [List.length_take, hx1.bs.length]; exact Nat.min_comm _ _) (by show min len D.size ≤ _; omega), fun p hp => .inr (by cases hp; rfl)⟩
  have hH := has_any h2 (i : Int)
  rw [show D.spent.n = D.n from rfl, hasI_nat hi] at hH
  have hz : x.zs = zs.take D.size := by rw [hxd]
  have hv : Value.slice (some ⟨w1.heap.size, 0, none⟩) (min len D.size) (min len D.size) = x.v := by rw [hxd]
  rw [show D.spent.size = D.size from rfl, hv]
  clear h1 s1 hx hx1 hb hO hxd hv hNS
  generalize Z.add w1.heap.size = Z1 at *
  have c1 : w2.cell? ⟨g, 1, none⟩ = some (.slice (some ⟨gb, 0, none⟩) D.n D.n) := h2.c1
  have cb : w2.cell? ⟨gb, i * 2, none⟩ = some (D.blk i).1.v := by rw [Nat.mul_comm]; exact h2.cb0 i hi
  have fb := h2.frozb (i * 2)
  obtain ⟨h3, s3⟩ := h2.setW i x hin
  rw [Nat.mul_comm 2 i] at h3 s3
  have c2 : (w2.setCell ⟨gb, i * 2, none⟩ x.v).cell? ⟨g, 2, none⟩ = some wv := h3.c2
  have hin3 : x.In (w2.setCell ⟨gb, i * 2, none⟩ x.v) Z1.R := hin.keep (fun k hk => (OnlyAt.setC gb (i * 2) w2 x.v).block k (fun e => h2.bR (e ▸ hk))) (fun _ hk => hk)
  have s3' := s2.trans s3
  have hws : (w2.setCell ⟨gb, i * 2, none⟩ x.v).heap.size = w2.heap.size := (OnlyAt.setC gb (i * 2) w2 x.v).size
  have ba := below_alloc (Below.refl (w2.setCell ⟨gb, i * 2, none⟩ x.v).heap.size (w2.setCell ⟨gb, i * 2, none⟩ x.v)) (.cells #[.int .i64 (i : Int), x.v] 58)
  have n4 := heap_alloc_new (w2.setCell ⟨gb, i * 2, none⟩ x.v) (.cells #[.int .i64 (i : Int), x.v] 58)
  rw [hws] at n4
  have h4 := h3.below ba
  have s4 := s3'.trans (Step.of_below Z1 ba)
  have hin4 : x.In _ Z1.R := hin3.keep (fun k hk => ba.block k (h3.lt k (h3.sub k hk))) (fun _ hk => hk)
  obtain ⟨wv', w5, hr5, ow5, gr5, at5, ga, ca, hform⟩ := run_append_elem (P := Tryd.prog) 2 32 _ Tryd.underlying50 Tryd.info_wr (by rfl) (by decide) (by decide) 50 _ wv D.wait.length _ h4.waits w2.heap.size (wrC (i, x)) rfl (range_of_row n4) (wrC_one _) hlw
  subst hform
  have hlst : ∀ p ∈ D.wait ++ [(i, x)], p.1 < D.n ∧ p.2.In ((w2.setCell ⟨gb, i * 2, none⟩ x.v).alloc (.cells #[.int .i64 (i : Int), x.v] 58)) Z1.R := by
    intro p hp
    rcases List.mem_append.1 hp with h1 | h1
    · exact h4.okw p h1
    · rw [List.mem_singleton] at h1
      subst h1
      exact ⟨hi, hin4⟩
  have e6 : (D.wait ++ [(i, x)]).flatMap wrC = D.wait.flatMap wrC ++ wrC (i, x) := by rw [List.flatMap_append]; simp
  have ow6 : w5.ownsRow 0 58 2 (.slice (some ⟨ga, 0, none⟩) (D.wait.length + 1) ca) (D.wait ++ [(i, x)]).length ((D.wait ++ [(i, x)]).flatMap wrC) := by rw [e6, List.length_append]; exact ow5
  obtain ⟨Z2, h6, s6⟩ := h4.setWait (D.wait ++ [(i, x)]) gr5 ow6 hlst at5
  have hgl := h4.lt g h4.gS
  have hg5 := gr5.block g hgl (fun e => h4.wg e.symm)
  have c5 : w5.cell? ⟨g, 2, none⟩ = some wv := (World.cell?_of_block (a := ⟨g, 2, none⟩) hg5).trans h4.c2
  have f5 : w5.frozen? ⟨g, 2, none⟩ = false := (World.frozen?_of_block (a := ⟨g, 2, none⟩) hg5).trans (h4.froz 2)
  have hin6 := (h6.okw (i, x) (List.mem_append_right _ (List.mem_singleton.2 rfl))).2
  have HR := hide (record_any h6 2 (i : Int) hin6.bs x hin6 hlim)
  have S6 := s4.trans s6
  have HC := hide c2
  clear h2 s2 s3 hin c2 h3 hin3 s3' h4 s4 hin4 ow5 ow6 e6 gr5 at5 hlst h6 s6 hgl hg5 hin6 ba n4 hws
  go_wp2_with fail
  refine hH.mono ?_
  rintro e w3 ⟨rfl, rfl⟩
  clear hH
  have c2 := HC.out
  clear HC
  go_wp2_with (at_builtin; refine wpList_append_run (by rfl) (.tmp 27) (.tmp 31) 50 (by rfl) _ _ _ _ (by rfl) (by rfl) hr5 ?_)
  refine HR.out.mono ?_
  rintro e w6 ⟨rfl, Z', tv', h7, s7⟩
  clear HR hr5 c2 c5 f5
  go_wp2_with fail
  refine bodyPost_end (results_none rfl _ _ _) rfl ?_
  exact ⟨Z', x, rfl, hz, ⟨gb, _, tv', h7⟩, S6.trans s7⟩
#print axioms write_at
#print axioms write_out
end Go.Proofs.YtlicafjhkbofbaaDoor
