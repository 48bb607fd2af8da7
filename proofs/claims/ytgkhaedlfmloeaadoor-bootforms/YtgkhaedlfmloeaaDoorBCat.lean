
/- What calls of slices.Grow (of no slice) and of slices.Concat do: for every row of slices of bytes whose lengths together are at most 2^46; nothing that was there is turned. -/
import Derived.Test.YtgkhaedlfmloeaaDoorXLe
import Derived.Lib.AppendZeros
namespace Go.Proofs.YtgkhaedlfmloeaaDoor
open Go.RowKit

set_option maxHeartbeats 1000000 in
theorem grow_nil (n : Nat) (w : World) (hn : n ≤ 70368744177664) :
    Calls Tryd.prog 46 #[.slice none 0 0, .int .i64 n] w fun e w' => ∃ a c, e = .returned (.slice a 0 c) ∧ OwnS 5 w.heap.size w' a 0 c [] ∧ Below w.heap.size w w' := by
  obtain ⟨i, hi, hz⟩ := Option.map_eq_some_iff.1 Tryd.info_u8
  simp only [Prod.mk.injEq] at hz
  obtain ⟨hz, hsz, hby⟩ := hz
  rcases Nat.eq_zero_or_pos n with rfl | h0
  · go_enter Tryd.func46, Tryd.ntmps46
    go_wp2_with fail
    go_ret
    exact ⟨none, 0, rfl, OwnS.nil _ _ _, Below.refl _ _⟩
  · have hr := Lib.run_append_nil_zeros (P := Tryd.prog) w 26 3 26 5 i (.int .u8 0) .i64 .i64 Tryd.underlying26 Tryd.underlying3 hi hz n h0 (by omega) (by omega) (by rw [hby]; omega)
    have hge := grownCap_ge w n 0 5
    have hle := grownCap_le_maxLen w n 0 5 (by unfold maxLen; omega)
    have hcut0 := run_cut_to (P := Tryd.prog) Tryd.underlying26 Tryd.size_u8 (Bs.nil w) .i64 0 0 rfl (Nat.le_refl _)
    have hsz' : (Builtin.zeroCells (Value.int .u8 0).cells n ++ Builtin.zeroCells (Value.int .u8 0).cells (grownCap w n 0 5 - n)).size = grownCap w n 0 5 * 1 := by
      rw [Array.size_append, size_zeroCells, size_zeroCells]
      simp only [Value.cells]
      simp
      omega
    have hown : OwnS 5 w.heap.size (w.drew.alloc (.cells (Builtin.zeroCells (Value.int .u8 0).cells n ++ Builtin.zeroCells (Value.int .u8 0).cells (grownCap w n 0 5 - n)) 5)) (some ⟨w.heap.size, 0, none⟩) 0 (grownCap w n 0 5) [] :=
      ⟨IsBytes.nil, rfl, World.ownsRow_made (base := w.heap.size) w.drew _ _ (Nat.le_refl _) hle hsz'⟩
    have hbel : Below w.heap.size w (w.drew.alloc (.cells (Builtin.zeroCells (Value.int .u8 0).cells n ++ Builtin.zeroCells (Value.int .u8 0).cells (grownCap w n 0 5 - n)) 5)) := (Below.refl w.heap.size w).drew.alloc (Nat.le_refl _) _
    generalize (w.drew.alloc (.cells (Builtin.zeroCells (Value.int .u8 0).cells n ++ Builtin.zeroCells (Value.int .u8 0).cells (grownCap w n 0 5 - n)) 5)) = W at *
    have hcut1 := run_cut_to (P := Tryd.prog) (w0 := W) (a := some ⟨w.heap.size, 0, none⟩) (len := 0) (cap := grownCap w n 0 5) (zs := []) Tryd.underlying26 Tryd.size_u8 hown.bs .i64 0 0 rfl (Nat.zero_le _)
    have hcut2 : ∀ w', (Instr.slice 26 (.slice (some ⟨w.heap.size, 0, none⟩) n (grownCap w n 0 5)) none (some (.int .i64 0)) none).run Tryd.prog w' = .ok (.slice (some ⟨w.heap.size, 0, none⟩) 0 (grownCap w n 0 5)) w' := fun w' => by
      rw [run_slice_h w' 26 _ n _ (by simp [Program.elem, Tryd.underlying26]) .i64 0 (by omega) (by omega)]
      simp [sizeOf, typeInfo, Program.elem, Tryd.underlying26, hi, sliced, addr_add]
    clear hcut1 hsz' hge hle hi hz
    generalize grownCap w n 0 5 = C at *
    go_enter Tryd.func46, Tryd.ntmps46
    go_wp2_with (at_builtin; refine Lib.wpList_append_run _ rfl _ _ _ _ rfl _ _ rfl rfl _ _ hr ?_)
    go_ret
    exact ⟨_, _, rfl, hown, hbel⟩

theorem partsBytes_le (ps : List Part) (k : Nat) : (partsBytes (ps.take k)).length ≤ (partsBytes ps).length := by
  have e : partsBytes ps = partsBytes (ps.take k) ++ partsBytes (ps.drop k) := by
    unfold partsBytes
    rw [← List.flatMap_append, List.take_append_drop]
  rw [e, List.length_append]
  omega

set_option maxHeartbeats 1000000 in
theorem concat_any (g off m cap : Nat) (ps : List Part) (w : World) (hm : ps.length = m) (hmc : m ≤ 9223372036854775807) (hT : (partsBytes ps).length ≤ 70368744177664)
    (hc : ∀ i (h : i < ps.length), w.cell? ⟨g, off + i, none⟩ = some (ps[i]).val) (hp : ∀ p ∈ ps, Bs w p.a p.len p.cap p.zs) :
    Calls Tryd.prog 40 #[.slice (some ⟨g, off, none⟩) m cap] w fun e w' => ∃ a n c, e = .returned (.slice a n c) ∧ OwnS 5 w.heap.size w' a n c (partsBytes ps) ∧ Below w.heap.size w w' := by
  have HC : Hid (∀ i (h : i < ps.length), w.cell? ⟨g, off + i, none⟩ = some (ps[i]).val) := hc
  have HP : Hid (∀ p ∈ ps, Bs w p.a p.len p.cap p.zs) := hp
  clear hc hp
  go_enter Tryd.func40, Tryd.ntmps40
  go_wp2
  go_loop [3, 11] (fun s i => ∃ k : Nat, k ≤ m ∧ i = .int .i64 k ∧ s = .int .i64 ((partsBytes (ps.take k)).length : Nat)) (fun _ i => m - (intOf i).toNat)
  case atStart => exact ⟨0, Nat.zero_le _, rfl, rfl⟩
  case round =>
    obtain ⟨k, hk, rfl, rfl⟩ := hrel
    by_cases hlt : k < m
    · have hkp : k < ps.length := by omega
      have hcell := HC.out k hkp
      have hb := HP.out ps[k] (List.getElem_mem hkp)
      have HS : Hid ((partsBytes (ps.take (k + 1))).length = (partsBytes (ps.take k)).length + (ps[k]).len) := by
        show _ = _
        rw [partsBytes_snoc ps k hkp, List.length_append, hb.length]
      have hS1 := partsBytes_le ps (k + 1)
      rw [HS.out] at hS1
      generalize (partsBytes (ps.take k)).length = S at *
      generalize ps[k] = p at *
      obtain ⟨pa, plen, pcap, pz⟩ := p
      simp only [Part.val] at hcell hb HS hS1
      clear hb
      have hw : IntKind.i64.wrap ((S : Int) + (plen : Int)) = ((S + plen : Nat) : Int) := by rw [IntKind.wrap_i64]; omega
      have hT2 : S + plen ≤ 70368744177664 := by omega
      clear hS1
      go_wp2
      go_round
      case rel => exact ⟨k + 1, by omega, by go_num, by rw [HS.out]; exact congrArg _ (by omega)⟩
      case measure => simp [intOf]; omega
    · obtain rfl : k = m := by omega
      have hL : Hid ((partsBytes (ps.take k)).length = (partsBytes ps).length) := by
        show _ = _
        rw [List.take_of_length_le (by omega)]
      have hT3 : (partsBytes (ps.take k)).length ≤ 70368744177664 := by rw [hL.out]; exact hT
      generalize (partsBytes (ps.take k)).length = S at *
      clear hlt
      go_wp2_with fail
      refine (grow_nil S w hT3).mono ?_
      rintro e w1 ⟨a1, c1, rfl, ho1, hb1⟩
      go_wp2
      go_loopw [6, 27] (fun v i wr => ∃ (j n : Nat) (a : Option Addr) (c : Nat), j ≤ k ∧ i = .int .i64 j ∧ v = .slice a n c ∧ OwnS 5 w.heap.size wr a n c (partsBytes (ps.take j)) ∧ Below w.heap.size w wr) (fun _ i _ => k - (intOf i).toNat)
      case atStart => exact ⟨0, 0, a1, c1, Nat.zero_le _, rfl, rfl, ho1, hb1⟩
      case round =>
        obtain ⟨j, n, a, c, hj, rfl, rfl, hown, hbel⟩ := hrel
        by_cases hlt : j < k
        · have hkp : j < ps.length := by omega
          have hcell := HC.out j hkp
          have hcl : wr.cell? ⟨g, off + j, none⟩ = some (ps[j]).val := (hbel.cell (World.block_lt_of_cell? w _ hcell)).trans hcell
          have hb := (HP.out ps[j] (List.getElem_mem hkp)).below hbel
          have hl := hown.2.1
          have hS1 := partsBytes_le ps (j + 1)
          have HS := hide (partsBytes_snoc ps j hkp)
          rw [HS.out, List.length_append, hb.length, hl] at hS1
          obtain ⟨a2, c2, w2, hr2, ho2, hb2⟩ := run_append_more w.heap.size w wr a n c _ hown hbel (Nat.le_refl _) _ _ _ _ hb (by omega)
          rw [← HS.out] at ho2
          clear HS hS1 hl hb hcell hown hbel
          generalize ps[j] = p at *
          obtain ⟨pa, plen, pcap, pz⟩ := p
          simp only [Part.val] at hcl hr2 ho2
          go_wp2_with (at_builtin; refine wpList_append_run (by rfl) (.tmp 31) (.tmp 32) 26 (by rfl) _ _ _ _ (by rfl) (by rfl) hr2 ?_)
          go_roundw
          case rel => exact ⟨j + 1, _, a2, c2, by omega, by go_num, rfl, ho2, hb2⟩
          case measure => simp [intOf]; omega
        · obtain rfl : j = k := by omega
          go_wp2
          go_ret
          rw [List.take_of_length_le (by omega)] at hown
          exact ⟨_, _, _, rfl, hown, hbel⟩
/-- The same, the row of parts just laid, what they come to named. -/
theorem concat_is (g m : Nat) (ps : List Part) (zs : List Int) (n : Nat) (w : World) (hm : ps.length = m) (hmc : m ≤ 9223372036854775807) (hz : partsBytes ps = zs) (hn : zs.length = n) (h0 : 0 < n) (hT : n ≤ 70368744177664)
    (vs : Array Value) (hb : w.heap[g]? = some (.cells vs 26 (0, 0))) (hvs : vs.toList = ps.map Part.val) (hp : ∀ p ∈ ps, Bs w p.a p.len p.cap p.zs) :
    Calls Tryd.prog 40 #[.slice (some ⟨g, 0, none⟩) m m] w fun e w' => ∃ k c, e = .returned (.slice (some ⟨k, 0, none⟩) n c) ∧ OwnS 5 w.heap.size w' (some ⟨k, 0, none⟩) n c zs ∧ Below w.heap.size w w' := by
  subst hz hn
  refine (concat_any g 0 m m ps w hm hmc hT (fun i hi => ?_) hp).mono ?_
  · have e : vs = (ps.map Part.val).toArray := by rw [← hvs]
    subst e
    rw [Nat.zero_add]
    unfold World.cell?
    rw [hb]
    simp [hi]
  · rintro e w' ⟨a, n, c, rfl, ho, hbel⟩
    obtain rfl : (partsBytes ps).length = n := ho.2.1
    obtain ⟨k, rfl, _, _⟩ := ho.form h0
    exact ⟨k, c, rfl, ho, hbel⟩
#print axioms concat_any
end Go.Proofs.YtgkhaedlfmloeaaDoor
