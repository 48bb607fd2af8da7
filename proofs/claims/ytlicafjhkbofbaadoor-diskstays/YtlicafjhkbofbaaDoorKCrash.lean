/- What a call of (*Disk).Crash does: for every device in memory, any choices; what is not the device's own is as it was. -/
import Derived.Test.YtlicafjhkbofbaaDoorKSettle
namespace Go.Proofs.YtlicafjhkbofbaaDoor
open Go.RowKit

/-- What the blocks hold, written and flushed. -/
def zOf (blk : Nat → BV × BV) : Nat → List Int × List Int := fun j => ((blk j).1.zs, (blk j).2.zs)
/-- What a write comes to by its choice. -/
def pickZ (size : Nat) (zs old : List Int) (c : Int) : List Int := if c = 1 then old else if c = 2 then badL (fitL size zs) else zs
theorem Settled.pick {size : Nat} {zs old : List Int} {c : Int} {ys : List Int} (h : Settled size zs old c ys) (hc : c = 0 ∨ c = 1 ∨ c = 2) : ys = pickZ size zs old c := by
  unfold pickZ
  rcases hc with rfl | rfl | rfl
  · rw [if_neg (by decide), if_neg (by decide)]; exact h.1 rfl
  · rw [if_pos rfl]; exact h.2.1 rfl
  · rw [if_neg (by decide), if_pos rfl]; exact h.2.2 rfl
def settleZ (size : Nat) (f : Nat → List Int × List Int) (i : Nat) (zs : List Int) (c : Int) : Nat → List Int × List Int := fun j => if j = i then (pickZ size zs (f i).2 c, pickZ size zs (f i).2 c) else f j
def crashN (size : Nat) (ch : List Int) (f : Nat → List Int × List Int) (l : List (Nat × List Int)) : Nat → List Int × List Int := l.zipIdx.foldl (fun f p => settleZ size f p.1.1 p.1.2 (chL ch p.2)) f
theorem crashN_snoc (size : Nat) (ch : List Int) (f : Nat → List Int × List Int) (l : List (Nat × List Int)) (p : Nat × List Int) : crashN size ch f (l ++ [p]) = settleZ size (crashN size ch f l) p.1 p.2 (chL ch l.length) := by
  simp [crashN, List.zipIdx_append]
def wz (l : List (Nat × BV)) : List (Nat × List Int) := l.map fun p => (p.1, p.2.zs)
def DS.crash (D : DS) (b : Nat → BV × BV) : DS := { D with blk := b, wait := [], tr := D.tr ++ [⟨4, 0, [], BV.nil⟩], left := -1 }

/-- A slice of numbers that lies aside. -/
structure Nz (k : IntKind) (Z : Own) (w : World) (a : Option Addr) (len cap : Nat) (zs : List Int) : Prop where
  ns : Ns k w a len cap zs
  out : 0 < len → ∀ p, a = some p → p.block < w.heap.size ∧ ¬ Z.S p.block
theorem Ns.keepAt {k : IntKind} {w w' : World} {a : Option Addr} {len cap : Nat} {zs : List Int} (h : Ns k w a len cap zs) (hb : 0 < len → ∀ p, a = some p → w'.heap[p.block]? = w.heap[p.block]?) : Ns k w' a len cap zs := by
  refine ⟨h.length, h.le_cap, h.cap_le, h.wf, ?_⟩
  rcases h.place with h1 | ⟨b, off, rfl, hc⟩
  · exact .inl h1
  · refine .inr ⟨b, off, rfl, fun i hi => ?_⟩
    have := hb (by omega) ⟨b, off, none⟩ rfl
    rw [World.cell?_of_block (w := w) (a := ⟨b, off + i, none⟩) this]
    exact hc i hi
theorem Nz.step {k : IntKind} {Z Z' : Own} {w w' : World} {a : Option Addr} {len cap : Nat} {zs : List Int} (h : Nz k Z w a len cap zs) (s : Step Z w Z' w') : Nz k Z' w' a len cap zs :=
  ⟨h.ns.keepAt fun h0 p hp => s.block _ (h.out h0 p hp).1 (h.out h0 p hp).2, fun h0 p hp => ⟨Nat.lt_of_lt_of_le (h.out h0 p hp).1 s.size, s.aside (h.out h0 p hp).1 (h.out h0 p hp).2⟩⟩

set_option maxRecDepth 100000 in
set_option maxHeartbeats 4000000 in
theorem crash_any {w : World} {Z : Own} {g : Nat} {D : DS} (h : Dk w Z g D) (hlim : D.tr.length < 1000000) {a : Option Addr} {len cap : Nat} {ch : List Int} (hx : Nz .i64 Z w a len cap ch) :
    Calls Tryd.prog 24 #[.pointer (some ⟨g, 0, none⟩), .slice a len cap] w fun e w' =>
      ∃ Z' b, e = .returned (.tuple #[]) ∧ Hid (zOf b = crashN D.size ch (zOf D.blk) (wz D.wait)) ∧ Dk w' Z' g (D.crash b) ∧ Step Z w Z' w' := by
  obtain ⟨gb, wv, tv, h⟩ := h
  have hn := h.n
  obtain ⟨wa, wc, rfl, hwc, hwm, hwg⟩ := ownsRow_form h.waits
  unfold maxLen at hwm
  have c2 : w.cell? ⟨g, 2, none⟩ = some (.slice wa D.wait.length wc) := h.c2
  have H1 := hide h
  have HX := hide hx
  clear h hx
  go_enter Tryd.func24, Tryd.ntmps24
  go_wp2_with fail
  go_loopw [11] (fun v wr => ∃ (k : Nat) (Z1 : Own) (b : Nat → BV × BV), k ≤ D.wait.length ∧ v = .int .i64 k ∧ Hid (zOf b = crashN D.size ch (zOf D.blk) (wz (D.wait.take k))) ∧ DkAt wr Z1 g { D with blk := b } gb (.slice wa D.wait.length wc) tv ∧ Nz .i64 Z1 wr a len cap ch ∧ Step Z w Z1 wr) (fun v _ => D.wait.length - (intOf v).toNat)
  case atStart => exact ⟨0, Z, D.blk, Nat.zero_le _, rfl, hide rfl, H1.out, HX.out, Step.refl _ _⟩
  case round =>
    obtain ⟨k, Z1, b, hk, rfl, hZ, hD, hx, hSt⟩ := hrel
    clear H1 HX c2
    by_cases hlt : k < D.wait.length
    · obtain ⟨gw, hgw, hob⟩ := hwg (by omega)
      obtain ⟨⟨i, x⟩, hp⟩ : ∃ p, D.wait[k]? = some p := ⟨_, List.getElem?_eq_getElem hlt⟩
      have hr := ownsRow_rec wrC_length hD.waits hob k (i, x) hp
      have hpm := hD.okw (i, x) (List.mem_of_getElem? hp)
      subst hgw
      rw [Nat.mul_comm] at hr
      have n0 := heap_alloc_new wr (.cells #[.int .i64 0, .slice none 0 0] 58)
      have HN := hide n0
      have n1 : ((wr.alloc (.cells #[.int .i64 0, .slice none 0 0] 58)).setRow wr.heap.size #[.int .i64 (i : Int), x.v]).heap[wr.heap.size]? = some (.cells #[.int .i64 (i : Int), x.v] 58 (0, 0)) := setRow_heap _ _ _ _ _ _ n0
      have b1 := (OnlyAt.setRow wr.heap.size (wr.alloc (.cells #[.int .i64 0, .slice none 0 0] 58)) #[.int .i64 (i : Int), x.v]).below (below_alloc (Below.refl _ wr) _) (Nat.le_refl _)
      have h2 := hD.below b1
      have hx2 : x.In ((wr.alloc (.cells #[.int .i64 0, .slice none 0 0] 58)).setRow wr.heap.size #[.int .i64 (i : Int), x.v]) Z1.R := hpm.2.keep (fun k hk => b1.block k (hD.lt k (hD.sub k hk))) (fun _ hk => hk)
      have hNS : ¬ Z1.S wr.heap.size := fun hs => absurd (hD.lt _ hs) (Nat.lt_irrefl _)
      have hc2 := hx.step (Step.of_below Z1 b1)
      have s2 := hSt.trans (Step.of_below Z1 b1)
      have hall : (#[.int .i64 (i : Int), x.v] : Array Value).all (·.oneCell') = true := all_oneCell_toArray (wrC_one (i, x))
      have H2 := hide h2
      have HN1 := hide n1
      have HC := hide hc2
      have hin : i < D.n := hpm.1
      clear hD n0 n1 b1 h2 hwg hob hx hc2 hpm
      go_wp2_with (first
        | (refine wpList_newA (by rfl) 58 (by rfl) _ zero_wr wr.heap.size rfl ?_)
        | (refine wpList_load_mid rfl 58 _ (by rfl) gw (k * 2) (by rfl) (wrC (i, x)) _ hr Tryd.underlying58 rfl Tryd.size_wr ?_)
        | (refine wpList_putS Tryd.size_wr (by rfl) _ _ (by rfl) wr.heap.size #[.int .i64 (i : Int), x.v] (by rfl) (by rfl) _ HN.out (by rfl) (by rfl) hall ?_))
      have h2 := H2.out
      have n1 := HN1.out
      have hc2 := HC.out
      clear H2 HN1 HN hr hSt hall HC
      generalize ((wr.alloc (.cells #[.int .i64 0, .slice none 0 0] 58)).setRow wr.heap.size #[.int .i64 (i : Int), x.v]) = W at *
      refine wp_region_ord 1000 [0, 1, 2, 3, 4, 5] (fun w' => w'.rangeAt wr.heap.size 0 (wrC (i, x))) (fun _ => True) (by kernel_rfl) (by kernel_rfl) (by kernel_rfl) (range_of_row n1) trivial (fun _ _ => ?_)
      have h3 := h2.drew
      have s3 := s2.drew
      have hx3 : x.In W.drew Z1.R := hx2.keep (fun _ _ => rfl) (fun _ hk => hk)
      have hc3 : Nz .i64 Z1 W.drew a len cap ch := ⟨hc2.ns.drew, hc2.out⟩
      have n3 : W.drew.heap[wr.heap.size]? = some (.cells #[.int .i64 (i : Int), x.v] 58 (0, 0)) := n1
      clear h2 s2 hx2 n1 hc2
      generalize W.drew = W1 at *
      refine wpOrd_quiet (v := ?_) rfl rfl (fun _ _ _ h => h) (by rfl) ?_ ?_
      rotate_left
      · (intro w' hT _; go_simp; try rfl)
      simp only [Act.put, List.setIfInBounds_toArray, List.set_cons_zero, List.set_cons_succ]
      refine wpOrd_loadM _ Tryd.underlying58 rfl rfl rfl _ (by rfl) wr.heap.size 0 (wrC (i, x)) (by rfl) (fun _ hT => hT) Tryd.size_wr (fun _ _ _ h => h) (by rfl) ?_
      simp only [Act.put, List.setIfInBounds_toArray, List.set_cons_zero, List.set_cons_succ]
      refine wpOrd_quiet (v := ?_) rfl rfl (fun _ _ _ h => h) (by rfl) ?_ ?_
      rotate_left
      · (intro w' hT _; go_simp; try rfl)
      simp only [Act.put, List.setIfInBounds_toArray, List.set_cons_zero, List.set_cons_succ]
      refine wpOrd_quiet (v := ?_) rfl rfl (fun _ _ _ h => h) (by rfl) ?_ ?_
      rotate_left
      · (intro w' hT _; go_simp; try rfl)
      simp only [Act.put, List.setIfInBounds_toArray, List.set_cons_zero, List.set_cons_succ]
      have hC := choice_any k hc3.ns
      have hcc := chL_cases ch k
      have HS := hide (settle_any h3 i hin x hx3 (chL ch k) hcc)
      refine wpOrd_step rfl rfl (by rfl) (fun K' hK => ?_)
      go_simp
      refine hC.mono ?_
      rintro e w3 ⟨rfl, rfl⟩
      refine hK.out _ _ (range_of_row n3) (fun h => absurd h (by decide)) (fun _ => ?_)
      clear hK K' hC
      try simp only [Act.put, List.setIfInBounds_toArray, List.set_cons_zero, List.set_cons_succ]
      refine wpOrd_step rfl rfl (by rfl) (fun K' hK => ?_)
      go_simp
      refine HS.out.mono ?_
      rintro e w4 ⟨rfl, Z2, y, hy, h4, s4⟩
      clear HS
      have n4 := s4.heap n3 hNS
      have hc4 := hc3.step s4
      have s5 := s3.trans s4
      have HY : Hid (zOf (updB b i y) = crashN D.size ch (zOf D.blk) (wz (D.wait.take (k + 1)))) := by
        have e1 : wz (D.wait.take (k + 1)) = wz (D.wait.take k) ++ [(i, x.zs)] := by rw [take_next _ _ _ hp]; simp [wz]
        have e2 : (wz (D.wait.take k)).length = k := by simp [wz]; omega
        refine hide ?_
        rw [e1, crashN_snoc, e2, ← hZ.out]
        funext j
        have := hy.pick hcc
        unfold settleZ zOf updB
        by_cases hj : j = i
        · rw [if_pos hj, if_pos hj]
          simp only
          rw [this]
        · rw [if_neg hj, if_neg hj]
      refine hK.out _ _ (range_of_row n4) (fun h => absurd h (by decide)) (fun _ => ?_)
      clear hK K'
      refine wpOrd_nil ?_
      clear h3 s3 s4 n3 n4 hx3 hc3 hy hcc hZ
      go_wp2_with fail
      go_roundw
      case rel => exact ⟨k + 1, Z2, updB b i y, by omega, by go_num, HY, h4, hc4, s5⟩
      case measure => simp [intOf]; omega
    · obtain rfl : k = D.wait.length := by omega
      rw [List.take_length] at hZ
      have c2 := hD.c2
      have f2 := hD.froz 2
      obtain ⟨Z2, h6, s6⟩ := hD.setWait [] (w1 := wr) (wv' := .slice none 0 0) ⟨rfl, rfl, rfl, Nat.le_refl _, fun _ _ _ => rfl⟩ (World.ownsRow_nil _ _ _ _) (fun _ h => by cases h) (.inl rfl)
      have c4 := h6.c4
      have f4 := h6.froz 4
      obtain ⟨h7, s7⟩ := h6.setLeft (-1) (by omega)
      have HR := hide (record_any h7 4 0 (Bs.nil _) BV.nil (BV.In.nil _ _) hlim)
      have S7 := (hSt.trans s6).trans s7
      clear hD h6 s6 hwg hSt h7 s7 hx
      go_wp2_with fail
      refine HR.out.mono ?_
      rintro e w6 ⟨rfl, Z', tv', h8, s8⟩
      clear HR c2 f2 c4 f4
      go_wp2_with fail
      refine bodyPost_end (results_none rfl _ _ _) rfl ?_
      exact ⟨Z', b, rfl, hZ, ⟨gb, _, tv', h8⟩, S7.trans s8⟩
#print axioms crash_any
end Go.Proofs.YtlicafjhkbofbaaDoor
