/- The law ChacVectors answers true, wherever quar.rounds reads as its text says; nothing that was there is turned. -/
import Derived.Test.YtidmmncleifoiaaDoorCAwake
import Derived.Great.Walk
import Derived.Lib.SlBytesConst
namespace Go.Proofs.YtidmmncleifoiaaDoor
open Go.RowKit

/-- The RFC's text. -/
def txt : List Int := [76, 97, 100, 105, 101, 115, 32, 97, 110, 100, 32, 71, 101, 110, 116, 108, 101, 109, 101, 110, 32, 111, 102, 32, 116, 104, 101, 32, 99, 108, 97, 115, 115, 32, 111, 102, 32, 39, 57, 57, 58, 32, 73, 102, 32, 73, 32, 99, 111, 117, 108, 100, 32, 111, 102, 102, 101, 114, 32, 121, 111, 117, 32, 111, 110, 108, 121, 32, 111, 110, 101, 32, 116, 105, 112, 32, 102, 111, 114, 32, 116, 104, 101, 32, 102, 117, 116, 117, 114, 101, 44, 32, 115, 117, 110, 115, 99, 114, 101, 101, 110, 32, 119, 111, 117, 108, 100, 32, 98, 101, 32, 105, 116, 46]
theorem txt_length : txt.length = 114 := by decide
theorem txt_bytes : IsBytes txt := by unfold txt IsBytes; decide
def nB : List Int := [0, 0, 0, 0, 0, 0, 0, 74, 0, 0, 0, 0]
theorem nB_bytes : IsBytes nB := by unfold nB IsBytes; decide
theorem blkB : blkW (stW rk nB 1) = wB := bB
theorem blkC : blkW (stW rk nB 2) = wC := bC
theorem blkZ : blkL (stW (zL 32) (zL 12) 0) = rowL (fun i => byteAt ((wZ (i / 4)).toNat : Int) (i % 4)) 64 := blkL_of bZ
theorem blkZ8 : strOfNums (((blkL (stW (zL 32) (zL 12) 0)).drop 0).take 8) = { data := #[118, 184, 224, 173, 160, 241, 61, 144] } := by rw [blkZ]; rfl

/-- The stream at a place of its first and of its second block. -/
theorem ksB (i : Nat) (h : i < 64) : ks rk nB 1 i = byteAt ((wB (i / 4)).toNat : Int) (i % 4) := by
  rw [ks_first _ _ _ _ h, kb, blkB]
theorem ksC (i : Nat) (h1 : 64 ≤ i) (h2 : i < 128) : ks rk nB 1 i = byteAt ((wC ((i - 64) / 4)).toNat : Int) ((i - 64) % 4) := by
  unfold ks
  rw [show i / 64 = 1 by omega, show i % 64 = i - 64 by omega, show (1 : BitVec 32) + BitVec.ofNat 32 1 = 2 from rfl, kb, blkC]
/-- What sealing makes of it, by the two blocks. -/
def sealed : List Int := rowL (fun i => xr (txt.getD i 0) (if i < 64 then byteAt ((wB (i / 4)).toNat : Int) (i % 4) else byteAt ((wC ((i - 64) / 4)).toNat : Int) ((i - 64) % 4))) 114
theorem sealed_eq : xorL rk nB 1 txt = sealed := by
  unfold xorL sealed
  rw [txt_length]
  refine rowL_congr fun i hi => ?_
  by_cases h : i < 64
  · rw [if_pos h, ksB i h]
  · rw [if_neg h, ksC i (by omega) (by omega)]
theorem sealed8 : strOfNums (((xorL rk nB 1 txt).drop 0).take 8) = { data := #[110, 46, 53, 154, 37, 104, 249, 128] } := by rw [sealed_eq]; rfl
theorem sealed112 : strOfNums (((xorL rk nB 1 txt).drop 112).take 2) = { data := #[135, 77] } := by rw [sealed_eq]; rfl

theorem bs_marked {w : World} {g n : Nat} {zs : List Int} {E : TypeId} {fr : Nat × Nat} (h : w.heap[g]? = some (.cells (bV zs) E fr)) (hz : IsBytes zs) (hn : zs.length = n) (hl : n ≤ 9223372036854775807) : Bs w (some ⟨g, 0, none⟩) n n zs :=
  ⟨hn, Nat.le_refl _, hl, hz, .inr ⟨g, 0, rfl, fun i hi => by
    rw [Nat.zero_add, cell_of_row w g i _ _ _ h]
    simp [bV, List.getD, show i < zs.length by omega]⟩⟩

set_option maxRecDepth 100000 in
set_option maxHeartbeats 1000000 in
theorem chacVectors_walk (w : World) (hg : Glob w) : Calls Tryd.prog 3 #[] w fun e w' => e = .returned (.bool true) ∧ Below w.heap.size w w' := by
  have h0 := hg.lt
  go_enter Tryd.func3, Tryd.ntmps3
  go_wp2_with (refine wpList_newA (by rfl) 22 (by rfl) _ zero32 w.heap.size rfl ?_)
  go_loopw [7] (fun v wr => ∃ k : Nat, k ≤ 32 ∧ v = .int .i64 k ∧ OwnB 22 wr w.heap.size (fillL k) ∧ Below w.heap.size w wr) (fun v _ => 32 - (intOf v).toNat)
  case atStart => exact ⟨0, Nat.zero_le _, rfl, by rw [fillL_zero]; exact heap_alloc_new _ _, below_alloc (Below.refl _ _) _⟩
  case round =>
    obtain ⟨k, hk, rfl, hO, hb⟩ := hrel
    by_cases hlt : k < 32
    · have hc := hO.cell k (by rw [fillL_length]; exact hlt)
      have hf := hO.froz k
      have hO' := hO.put k k
      rw [fillL_set k hlt] at hO'
      have hb' : Below w.heap.size w (wr.setCell ⟨w.heap.size, k, none⟩ (.int .u8 (k : Int))) := hb.setCell (Nat.le_refl _) _
      generalize (fillL k).getD k 0 = X at *
      clear hO hb
      go_wp2_with fail
      go_roundw
      case rel => exact ⟨k + 1, by omega, by go_num, hO', hb'⟩
      case measure => simp [intOf]; omega
    · obtain rfl : k = 32 := by omega
      rw [fillL_all] at hO
      have hlw := hO.lt
      have hO1 : OwnB 22 (wr.alloc (Obj.cells (bV txt) 5 ((bV txt).size, (bV txt).size + 1))) w.heap.size rk := block_alloc hO _
      have hT1 : Bs (wr.alloc (Obj.cells (bV txt) 5 ((bV txt).size, (bV txt).size + 1))) (some ⟨wr.heap.size, 0, none⟩) 114 114 txt := bs_marked (heap_alloc_new _ _) txt_bytes txt_length (by decide)
      have hb1 := below_alloc hb (Obj.cells (bV txt) 5 ((bV txt).size, (bV txt).size + 1))
      have hcv := Lib.run_convert_bytes_const (P := Tryd.prog) wr 23 5 (bV txt) 114 114 Tryd.underlying23 Tryd.underlying5
      go_wp2_with (first
        | (refine Go.Great.wpList_buildSliceTo (by rfl) 23 5 114 _ (by rfl) wr.heap.size rfl _ (by rfl) Tryd.underlying23 (bV txt) (by kernel_rfl) ?_)
        | (refine wpList_loadA arrT32 (by rfl) _ (by rfl) w.heap.size (by rfl) (bV rk) hO1 (by rw [bV_size, rk_length]) ?_)
        | (refine wpList_build_is rfl 26 _ rfl (bV nB) (by kernel_rfl) ?_))
      clear hcv
      have hg1 := hg.below hb1 h0
      generalize (wr.alloc (Obj.cells (bV txt) 5 ((bV txt).size, (bV txt).size + 1))) = W1 at *
      generalize wr.heap.size = gt at *
      clear hO hb
      refine (xor_at rk nB 1 _ _ _ W1 rfl rfl rfl rk_bytes rk_length nB_bytes rfl hT1 (by decide) (by decide) hg1).mono ?_
      rintro e w2 ⟨gx, rfl, hX2, hgx, hb2⟩
      have hb2' := hb1.trans (hb2.mono hb1.size)
      have hg2 := hg.below hb2' h0
      clear hb1 hb2 hO1 hT1 hg1
      go_wp2_with (first
        | (refine wpList_build_is rfl 22 _ rfl (bV (zL 32)) (by kernel_rfl) ?_)
        | (refine wpList_build_is rfl 26 _ rfl (bV (zL 12)) (by kernel_rfl) ?_))
      refine (block_at (zL 32) (zL 12) 0 _ _ _ w2 rfl rfl rfl (zL_bytes _) (zL_length _) (zL_bytes _) (zL_length _) hg2).mono ?_
      rintro e w3 ⟨rfl, hb3⟩
      have hX3 := hX2.below hb3
      have hb3' := hb2'.trans (hb3.mono hb2'.size)
      have hxl := hX3.lt
      clear hb2' hb3 hX2 hg2
      have hbl := blkL_length (stW (zL 32) (zL 12) 0)
      have hbb := blkL_bytes (stW (zL 32) (zL 12) 0)
      have z8 := blkZ8
      have hsl := xorL_length rk nB 1 txt
      rw [txt_length] at hsl
      have hsb := xorL_bytes rk nB 1 txt txt_bytes
      have x8 := sealed8
      have x112 := sealed112
      generalize blkL (stW (zL 32) (zL 12) 0) = blk at *
      generalize xorL rk nB 1 txt = sea at *
      have n3 := heap_alloc_new w3 (Obj.cells (bV (zL 64)) 28)
      have hs3 := hb3'.size
      have hb4 := Below.setRow (below_alloc hb3' (Obj.cells (bV (zL 64)) 28)) hs3 (bV blk)
      have hX4 : OwnB 5 ((w3.alloc (Obj.cells (bV (zL 64)) 28)).setRow w3.heap.size (bV blk)) gx sea := (setRow_other _ _ _ _ (by omega)).trans (block_alloc hX3 _)
      have hB4 : OwnB 28 ((w3.alloc (Obj.cells (bV (zL 64)) 28)).setRow w3.heap.size (bV blk)) w3.heap.size blk := setRow_heap _ _ _ _ _ _ n3
      have c1 := str_bytes (hX4.bsAt hsb 0 8 114 (by omega) (by decide) (by decide))
      have c2 := str_bytes (hX4.bsAt hsb 112 2 2 (by omega) (by decide) (by decide))
      have c3 := str_bytes (hB4.bsAt hbb 0 8 64 (by omega) (by decide) (by decide))
      rw [x8] at c1
      rw [x112] at c2
      rw [z8] at c3
      have s3 := run_arr_to (P := Tryd.prog) Tryd.underlying28 Tryd.size_u8 w3.heap.size .i64 8 8 rfl (by decide)
      have hg4 := hg.below hb4 h0
      clear x8 x112 z8 hX3 hb3' hX4 hB4
      go_wp2_with (first
        | (refine wpList_newA (by rfl) 28 (by rfl) _ zero64 w3.heap.size rfl ?_)
        | (refine wpList_putA arrT64 (by rfl) _ _ (by rfl) w3.heap.size (bV blk) (by rfl) (by rfl) _ n3 (by rw [bV_size, hbl]) (bV_size _) (bV_one _) ?_))
      refine (awake_any _ hg4).mono ?_
      rintro e w5 ⟨rfl, hb5⟩
      have hb5' := hb4.trans (hb5.mono hb4.size)
      go_wp2_with fail
      go_ret
      exact ⟨rfl, hb5'⟩
#print axioms chacVectors_walk
end Go.Proofs.YtidmmncleifoiaaDoor
