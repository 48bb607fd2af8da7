
/- What the law's Tame makes of Cells: some of them, each one that may be in a bucket. No conditions but those that each line states. -/
import Derived.Test.YtgjffoeegnljlaaBkBuilt
import Derived.Test.YtgjffoeegnljlaaRel
namespace Go.Proofs.Ytgjffoeegnljlaa
open Go.RowKit
set_option maxRecDepth 20000

/-- A Cell that may be in a bucket, out of any. -/
def tameC (S : Nat) (c : PC) : PC := (c.1 % 256 + 1, c.2.1 % 65536, fitL S c.2.2)
def tameL (cs : List PC) (most S : Nat) : List PC := (cs.take most).map (tameC S)
theorem tameC_ok (S : Nat) (c : PC) : okC S (tameC S c) = true := by
  refine decide_eq_true ⟨?_, ?_, ?_⟩
  · simp only [tameC]; omega
  · simp only [tameC]; omega
  · simp only [tameC, fitL_length]
theorem tameL_length (cs : List PC) (most S : Nat) : (tameL cs most S).length = min most cs.length := by
  simp [tameL]
/-- Some Cells, made such, are what a bucket may hold. -/
theorem tameL_ok (cs : List PC) (most S : Nat) (z : Int) (hz : (most : Int) ≤ z) (hz2 : z ≤ 16) (hS : S ≤ 60000) : okK (tameL cs most S) z S = true := by
  refine okK_of (decide_eq_true ⟨⟨by omega, hz2⟩, by omega, by omega⟩) (by rw [tameL_length]; omega) (fun c hc => ?_)
  obtain ⟨d, _, rfl⟩ := List.mem_map.1 hc
  exact tameC_ok S d
/-- Its bytes lie in a block from b on. -/
def CV.Fresh (b : Nat) (c : CV) : Prop := ∀ p, c.d.a = some p → b ≤ p.block
/-- What a round of Tame finds. -/
structure TameI (w wr : World) (cs : List CV) (S k : Nat) (a : Option Addr) (cap : Nat) (ds : List CV) : Prop where
  nw : ∀ d ∈ ds, d.Fresh w.heap.size
  own : OwnC w.heap.size wr a k cap ds
  pcs : ds.map CV.pc = ((cs.map CV.pc).take k).map (tameC S)
  bel : Below w.heap.size w wr
theorem map_take_one {α β : Type} (f : α → β) (cs : List α) (k : Nat) (hk : k < cs.length) : (cs.map f).take (k + 1) = (cs.map f).take k ++ [f cs[k]] := by
  rw [List.take_add_one, List.getElem?_map, List.getElem?_eq_getElem hk]
  rfl
theorem TameI.next {w wr w' : World} {cs : List CV} {S k : Nat} {a : Option Addr} {cap : Nat} {ds : List CV} (h : TameI w wr cs S k a cap ds) (hk : k < cs.length) (d : CV) (hd : d.pc = tameC S cs[k].pc) (hn : d.Fresh w.heap.size) {a' : Option Addr} {cap' : Nat} (ho : OwnC w.heap.size w' a' (k + 1) cap' (ds ++ [d])) (hb : Below w.heap.size w w') : TameI w w' cs S (k + 1) a' cap' (ds ++ [d]) := by
  refine ⟨fun c hc => ?_, ho, ?_, hb⟩
  · rcases List.mem_append.1 hc with h1 | h1
    · exact h.nw c h1
    · cases List.mem_singleton.1 h1
      exact hn
  rw [List.map_append, h.pcs, map_take_one CV.pc cs k hk, List.map_append, List.map_cons, List.map_nil, hd]
  rfl
/-- What Tame answers. -/
structure TameE (w w' : World) (cs : List CV) (most S : Nat) (e : Ending) : Prop where
  ex : ∃ a' n' c' ds, e = .returned (.slice a' n' c') ∧ ds.map CV.pc = tameL (cs.map CV.pc) most S ∧ OwnC w.heap.size w' a' n' c' ds ∧ Below w.heap.size w w'
/-- What Tame answers, and that its Cells' bytes are new. -/
structure TameN (w w' : World) (cs : List CV) (most S : Nat) (e : Ending) : Prop where
  ex : ∃ a' n' c' ds, e = .returned (.slice a' n' c') ∧ ds.map CV.pc = tameL (cs.map CV.pc) most S ∧ OwnC w.heap.size w' a' n' c' ds ∧ Below w.heap.size w w' ∧ ∀ d ∈ ds, d.Fresh w.heap.size
set_option maxHeartbeats 2000000 in
theorem tame_new {a : Option Addr} {len cap : Nat} {cs : List CV} (w : World) (h : Ces w a len cap cs) (most S : Nat) (hm : most ≤ 1000) (hS : S ≤ 60000) :
    Calls Try.prog 12 #[.slice a len cap, .int .i64 most, .int .i64 S] w fun e w' => TameN w w' cs most S e := by
  have hlen := h.length
  have hlc := h.le_cap
  have hcl := h.cap_le
  have h0 : TameI w w cs S 0 none 0 [] := ⟨(fun _ h => by cases h), OwnC.nil _ _, by simp, Below.refl _ _⟩
  go_enter Try.func12, Try.ntmps12
  go_wp2_with fail
  go_loopw [7, 8] (fun o i wr => ∃ (k : Nat) (oa : Option Addr) (oc : Nat) (ds : List CV), k ≤ min most len ∧ i = .int .i64 k ∧ o = .slice oa k oc ∧ TameI w wr cs S k oa oc ds) (fun _ i _ => len - (intOf i).toNat)
  case atStart => exact ⟨0, none, 0, [], Nat.zero_le _, rfl, rfl, h0⟩
  case round =>
    clear h0
    obtain ⟨k, oa, oc, ds, hk, rfl, rfl, hI⟩ := hrel
    by_cases hlt : k < min most len
    · have h1 : k < len := by omega
      have h2 : k < most := by omega
      have hbel := hI.bel
      obtain ⟨b, off, rfl, hsp⟩ := h.spot (by omega)
      have hk2 : k < cs.length := by omega
      have hca := (h.item cs[k] (List.getElem_mem hk2)).below hbel
      have hmk := run_make_row' (P := Try.prog) 22 5 (.int .u8 0) 1 Try.underlying22 Try.info_u8 rfl .i64 .i64 S (by omega) (by omega)
      have hZ := made_zB wr S 5
      have b1 := below_alloc (Below.refl wr.heap.size wr) (Obj.cells (madeCells #[Value.int .u8 0] S) 5)
      have hD1 := hca.bs.below b1
      have hzl := hD1.length
      obtain ⟨w2, hr2, g2, on2⟩ := run_copy_bytes (P := Try.prog) Try.underlying22 Try.size_u8 3 _ (some ⟨wr.heap.size, 0, none⟩) cs[k].d.a S S cs[k].d.len cs[k].d.cap wr.heap.size 0 (min cs[k].d.len S) (zL S) _ hZ rfl (.inr rfl) hD1 (by rw [zL_length]; omega)
      rw [← hzl, fitL_splice] at g2
      have b2 := on2.below b1 (Nat.le_refl _)
      have e2 : (wr.alloc (Obj.cells (madeCells #[Value.int .u8 0] S) 5)).cell? ⟨b, off + k * 3 + 2, none⟩ = some (.slice cs[k].d.a cs[k].d.len cs[k].d.cap) := hsp _ (hbel.trans (b1.mono hbel.size)) k hk2 2 _ rfl
      obtain ⟨A, hA, hA0⟩ : ∃ A : Int, cs[k].id % 256 = A ∧ 0 ≤ A ∧ A < 256 := ⟨_, rfl, by omega⟩
      obtain ⟨L, hL, hL0⟩ : ∃ L : Int, cs[k].leaf % 65536 = L ∧ 0 ≤ L ∧ L < 65536 := ⟨_, rfl, by omega⟩
      have m1 : bits .and .i64 cs[k].id 255 = A := by rw [← hA]; exact i64_mask _ 8 (by decide) 255 (by decide)
      have m2 : bits .and .i64 cs[k].leaf 65535 = L := by rw [← hL]; exact i64_mask _ 16 (by decide) 65535 (by decide)
      have m3 : IntKind.i64.wrap (A + 1) = A + 1 := wrap_i64_low _ (by omega)
      have hdat : (CV.mk (A + 1) L ⟨some ⟨wr.heap.size, 0, none⟩, S, S, fitL S cs[k].d.zs⟩).At w2 := ⟨by simp only; omega, by simp only; omega, (OwnB.owns (base := 0) (n := S) g2 (fitL_bytes _ hca.bs.bytes) (fitL_length _ _) (by omega) (Nat.zero_le _)).bs⟩
      have hdoff : (CV.mk (A + 1) L ⟨some ⟨wr.heap.size, 0, none⟩, S, S, fitL S cs[k].d.zs⟩).Off (Value.slice oa k oc).ownBlock := by
        intro _ p hp e
        have e2 : p = ⟨wr.heap.size, 0, none⟩ := (Option.some.inj hp).symm
        rw [e2] at e
        have := (hI.own.row.lt wr.heap.size e).2
        omega
      have hdpc : (CV.mk (A + 1) L ⟨some ⟨wr.heap.size, 0, none⟩, S, S, fitL S cs[k].d.zs⟩).pc = tameC S cs[k].pc := by
        simp only [CV.pc, tameC]
        rw [hA, hL]
      have hnw : (CV.mk (A + 1) L ⟨some ⟨wr.heap.size, 0, none⟩, S, S, fitL S cs[k].d.zs⟩).Fresh w.heap.size := by
        intro p hp
        have e2 : p = ⟨wr.heap.size, 0, none⟩ := (Option.some.inj hp).symm
        rw [e2]
        exact hbel.size
      have hN := fun (w' : World) (a' : Option Addr) (cap' : Nat) => hI.next (w' := w') (a' := a') (cap' := cap') hk2 _ hdpc hnw
      have hown := hI.own.below b2
      have B2 := hbel.trans (b2.mono hbel.size)
      have HS := hide (fun w' (hb : Below w.heap.size w w') => hsp w' hb k hk2)
      have m1 := hide m1
      have m2 := hide m2
      have m3 := hide m3
      clear hZ hD1 hI hdpc hsp g2 on2 hca hA hL
      go_wp2_with fail
      clear hr2 hmk e2 b1
      refine wp_region_rel (fun v v' => Below w.heap.size v v') [0, 1, 2, 3, 4, 5, 6, 7, 8, 9, 10, 11, 12, 13, 14, 15, 16, 17, 18] (by kernel_rfl) (by kernel_rfl) (by kernel_rfl) (fun _ => Below.refl _ _) (fun _ _ _ h k => h.trans k) ?_
      have sd := (Below.refl w2.heap.size w2).drew
      have hown := hown.below sd
      have hdat := hdat.below sd
      have B3 := B2.trans (sd.mono B2.size)
      clear sd B2 b2
      generalize w2.drew = w3 at *
      have m1 := m1.out
      have m2 := m2.out
      have m3 := m3.out
      repeat' (first
        | (refine wpRel_quiet (v := ?_) rfl rfl (fun _ _ _ h => h) (by rfl) ?_ ?_
           rotate_left
           · (intro w' hR; have hr := HS.out w' (B3.trans hR); have e0 : w'.cell? ⟨b, off + k * 3, none⟩ = some (.int .i64 cs[k].id) := hr 0 _ rfl; have e1 : w'.cell? ⟨b, off + k * 3 + 1, none⟩ = some (.int .i64 cs[k].leaf) := hr 1 _ rfl; go_simp; try rfl)
           simp only [Act.put, List.setIfInBounds_toArray, List.set_cons_zero, List.set_cons_succ])
        | fail)
      refine wpRel_step rfl rfl (by rfl) (fun K' hK => ?_)
      refine wp_buildSliceTo 26 24 1 _ (by rfl) Try.underlying26 [(0, .agg #[.int .i64 (A + 1), .int .i64 L, .slice (some ⟨wr.heap.size, 0, none⟩) S S])] (by simp [Act.eval]) #[.int .i64 (A + 1), .int .i64 L, .slice (some ⟨wr.heap.size, 0, none⟩) S S] (builtS_cell (CV.mk (A + 1) L ⟨some ⟨wr.heap.size, 0, none⟩, S, S, fitL S cs[k].d.zs⟩)) ?_
      have b4 := cells_below w3 #[.int .i64 (A + 1), .int .i64 L, .slice (some ⟨wr.heap.size, 0, none⟩) S S]
      have hs4 := Ces.lit (w := w3) (cs := [CV.mk (A + 1) L ⟨some ⟨wr.heap.size, 0, none⟩, S, S, fitL S cs[k].d.zs⟩]) (vs := #[.int .i64 (A + 1), .int .i64 L, .slice (some ⟨wr.heap.size, 0, none⟩) S S]) (n := 1) rfl rfl (by omega) (fun c h => by cases List.mem_singleton.1 h; exact hdat)
      have B4 := B3.trans (b4.mono B3.size)
      have hown := hown.below b4
      refine hK.out _ _ (b4.mono B3.size) ?_
      clear hK K'
      try simp only [Act.put, List.setIfInBounds_toArray, List.set_cons_zero, List.set_cons_succ]
      clear b4 hdat B3
      generalize (w3.alloc (Obj.cells #[.int .i64 (A + 1), .int .i64 L, .slice (some ⟨wr.heap.size, 0, none⟩) S S] 24)) = w4 at *
      obtain ⟨a5, c5, w5, hr5, ho5, b5⟩ := run_append_cells w.heap.size w4 w4 oa k oc ds hown (Below.refl _ _) B4.size _ 1 1 _ hs4 (fun d hd => by cases List.mem_singleton.1 hd; exact hdoff) (by omega)
      refine wpRel_step rfl rfl (by rfl) (fun K' hK => ?_)
      refine wp_append_run (.tmp 30) (.tmp 46) 26 (by rfl) _ _ _ (by rfl) (by rfl) hr5 ?_
      refine hK.out _ _ b5 ?_
      clear hK K'
      try simp only [Act.put, List.setIfInBounds_toArray, List.set_cons_zero, List.set_cons_succ]
      have hF := hN w5 a5 c5 ho5 (B4.trans b5)
      clear hr5 ho5 b5 hown hs4 hN hdoff HS m1 m2 m3
      repeat' (first
        | (refine wpRel_quiet (v := ?_) rfl rfl (fun _ _ _ h => h) (by rfl) ?_ ?_
           rotate_left
           · (intro w' hR; go_simp; try rfl)
           simp only [Act.put, List.setIfInBounds_toArray, List.set_cons_zero, List.set_cons_succ])
        | fail)
      refine wpRel_nil ?_
      go_wp2_with fail
      go_roundw
      case rel => exact ⟨k + 1, a5, c5, _, by omega, by go_num, rfl, hF⟩
      case measure => simp [intOf]; omega
    · have hkm : k = min most len := by omega
      have hF : (ds.map CV.pc = tameL (cs.map CV.pc) most S) := by
        rw [hI.pcs, tameL, hkm]
        congr 1
        rw [← hlen]
        by_cases hml : most ≤ cs.length
        · rw [Nat.min_eq_left hml]
        · rw [Nat.min_eq_right (by omega), List.take_of_length_le (by rw [List.length_map]; omega), List.take_of_length_le (by rw [List.length_map]; omega)]
      have HF := hide hF
      have hown := hI.own
      have hbel := hI.bel
      have hnw := hI.nw
      clear hF hI h hlt hk
      by_cases h1 : most < len
      · have h2 : min most len = most := by omega
        obtain rfl : k = most := by omega
        clear h2 hkm
        go_wp2_with fail
        go_ret
        exact ⟨oa, _, oc, ds, rfl, HF.out, hown, hbel, hnw⟩
      · have h2 : min most len = len := by omega
        obtain rfl : k = len := by omega
        clear h2 hkm
        go_wp2_with fail
        go_ret
        exact ⟨oa, _, oc, ds, rfl, HF.out, hown, hbel, hnw⟩
theorem tame_any {a : Option Addr} {len cap : Nat} {cs : List CV} (w : World) (h : Ces w a len cap cs) (most S : Nat) (hm : most ≤ 1000) (hS : S ≤ 60000) :
    Calls Try.prog 12 #[.slice a len cap, .int .i64 most, .int .i64 S] w fun e w' => TameE w w' cs most S e := by
  refine (tame_new w h most S hm hS).mono ?_
  rintro e w' ⟨a', n', c', ds, h1, h2, h3, h4, -⟩
  exact ⟨a', n', c', ds, h1, h2, h3, h4⟩
#print axioms tame_any
end Go.Proofs.Ytgjffoeegnljlaa
