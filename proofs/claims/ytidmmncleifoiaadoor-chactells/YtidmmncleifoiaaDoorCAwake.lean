/- What a call of dumbwaiterlaw3's awake answers, wherever quar.rounds reads as its text says; nothing that was there is turned. -/
import Derived.Test.YtidmmncleifoiaaDoorCXor
import Derived.Test.YtidmmncleifoiaaDoorCEval
import Derived.Test.YtidmmncleifoiaaDoorSame1
import Derived.Test.YtidmmncleifoiaaDoorQRef
namespace Go.Proofs.YtidmmncleifoiaaDoor
open Go.RowKit

theorem zero32 : (Tryd.prog.info? 22).bind (·.zero) = some (.agg (bV (zL 32))) := by kernel_rfl

theorem OwnB.put {E : TypeId} {w : World} {g : Nat} {zs : List Int} (h : OwnB E w g zs) (i : Nat) (x : Int) : OwnB E (w.setCell ⟨g, i, none⟩ (.int .u8 x)) g (zs.set i x) := by
  unfold OwnB at h ⊢
  rw [heap_setCell_same w g i _ _ _ h]
  congr 2
  simp
theorem OwnB.froz {E : TypeId} {w : World} {g : Nat} {zs : List Int} (h : OwnB E w g zs) (j : Nat) : w.frozen? ⟨g, j, none⟩ = false := frozen_of_row w g j _ _ h

/-- Noughts of which the first k are 0, 1, 2 and so on. -/
def fillL (k : Nat) : List Int := rowL (fun i => if i < k then (i : Int) else 0) 32
theorem fillL_zero : fillL 0 = zL 32 := rowL_congr fun i _ => by simp
theorem fillL_all : fillL 32 = rk := rowL_congr fun i hi => by simp [hi]
theorem fillL_length (k : Nat) : (fillL k).length = 32 := rowL_length _ _
theorem fillL_set (k : Nat) (hk : k < 32) : (fillL k).set k (k : Int) = fillL (k + 1) := by
  refine rowL_of _ _ _ (by simp [fillL_length]) fun i hi => ?_
  by_cases e : i = k
  · subst e
    simp [List.getD, fillL_length, hk]
  · have : ((fillL k).set k (k : Int)).getD i 0 = (fillL k).getD i 0 := by simp [List.getD, Ne.symm e]
    rw [this, fillL, rowL_getD _ _ _ hi]
    by_cases h : i < k
    · rw [if_pos h, if_pos (by omega)]
    · rw [if_neg h, if_neg (by omega)]

theorem blkL_of {xs ws : Ws} (h : blkW xs = ws) : blkL xs = rowL (fun i => byteAt ((ws (i / 4)).toNat : Int) (i % 4)) 64 := by
  unfold blkL kb
  rw [h]

theorem block_at (key nonce : List Int) (c : BitVec 32) (K M : Array Value) (ci : Int) (w : World) (hK : K = bV key) (hM : M = bV nonce) (hc : ci = (c.toNat : Int)) (hk : IsBytes key) (hkl : key.length = 32) (hn : IsBytes nonce) (hnl : nonce.length = 12) (hg : Glob w) :
    Calls Tryd.prog 10 #[.agg K, .agg M, .int .u32 ci] w fun e w' => e = .returned (.agg (bV (blkL (stW key nonce c)))) ∧ Below w.heap.size w w' := by
  subst hK hM hc
  exact block_any key nonce c w hk hkl hn hnl hg
theorem xor_no_at (key nonce : List Int) (c : BitVec 32) (K M : Array Value) (ci : Int) {a : Option Addr} {len cap : Nat} (w : World) (hK : K = bV key) (hM : M = bV nonce) (hc : ci = (c.toNat : Int)) (hl : len ≤ 1099511627776) (hf : fits c len = false) :
    Calls Tryd.prog 9 #[.agg K, .agg M, .int .u32 ci, .slice a len cap] w fun e w' => e = .returned (.tuple #[.slice none 0 0, .bool false]) ∧ Below w.heap.size w w' := by
  subst hK hM hc
  exact xor_no key nonce c w hl hf
theorem xor_at (key nonce : List Int) (c : BitVec 32) (K M : Array Value) (ci : Int) {a : Option Addr} {len cap : Nat} {zs : List Int} (w : World) (hK : K = bV key) (hM : M = bV nonce) (hc : ci = (c.toNat : Int)) (hk : IsBytes key) (hkl : key.length = 32) (hn : IsBytes nonce) (hnl : nonce.length = 12) (hb : Bs w a len cap zs) (hl : len ≤ 1099511627776) (hf : fits c len = true) (hg : Glob w) :
    Calls Tryd.prog 9 #[.agg K, .agg M, .int .u32 ci, .slice a len cap] w fun e w' => ∃ g, e = .returned (.tuple #[.slice (some ⟨g, 0, none⟩) len len, .bool true]) ∧ OwnB 5 w' g (xorL key nonce c zs) ∧ w.heap.size ≤ g ∧ Below w.heap.size w w' := by
  subst hK hM hc
  exact xor_ok key nonce c w hk hkl hn hnl hb hl hf hg

def nA : List Int := [0, 0, 0, 9, 0, 0, 0, 74, 0, 0, 0, 0]
theorem nA_bytes : IsBytes nA := by unfold nA IsBytes; decide
theorem blkA : blkL (stW rk nA 1) = rowL (fun i => byteAt ((wA (i / 4)).toNat : Int) (i % 4)) 64 := blkL_of bA
theorem blkA8 : strOfNums (((blkL (stW rk nA 1)).drop 0).take 8) = { data := #[16, 241, 231, 228, 209, 59, 89, 21] } := by rw [blkA]; rfl
theorem blkA60 : strOfNums (((blkL (stW rk nA 1)).drop 60).take 4) = { data := #[162, 80, 60, 78] } := by rw [blkA]; rfl

set_option maxHeartbeats 1000000 in
theorem awake_any (w : World) (hg : Glob w) : Calls Tryd.prog 11 #[] w fun e w' => e = .returned (.bool true) ∧ Below w.heap.size w w' := by
  have h0 := hg.lt
  go_enter Tryd.func11, Tryd.ntmps11
  go_wp2_with (refine wpList_newA (by rfl) 22 (by rfl) _ zero32 w.heap.size rfl ?_)
  go_loopw [6] (fun v wr => ∃ k : Nat, k ≤ 32 ∧ v = .int .i64 k ∧ OwnB 22 wr w.heap.size (fillL k) ∧ Below w.heap.size w wr) (fun v _ => 32 - (intOf v).toNat)
  case atStart => exact ⟨0, Nat.zero_le _, rfl, by rw [fillL_zero]; exact heap_alloc_new _ _, below_alloc (Below.refl _ _) _⟩
  case round =>
    obtain ⟨k, hk, rfl, hO, hb⟩ := hrel
    by_cases hlt : k < 32
    · have hc := hO.cell k (by rw [fillL_length]; exact hlt)
      have hf := hO.froz k
      have hO' := hO.put k k
      rw [fillL_set k hlt] at hO'
      have hb' : Below w.heap.size w (wr.setCell ⟨w.heap.size, k, none⟩ (.int .u8 (k : Int))) := hb.setCell (Nat.le_refl _) _
      generalize (fillL k).getD k 0 = X at *
      clear hO hb
      go_wp2_with fail
      go_roundw
      case rel => exact ⟨k + 1, by omega, by go_num, hO', hb'⟩
      case measure => simp [intOf]; omega
    · obtain rfl : k = 32 := by omega
      rw [fillL_all] at hO
      go_wp2_with (first
        | (refine wpList_loadA arrT32 (by rfl) _ (by rfl) w.heap.size (by rfl) (bV rk) hO (by rw [bV_size, rk_length]) ?_)
        | (refine wpList_build_is rfl 26 _ rfl (bV nA) (by kernel_rfl) ?_))
      have hgr := hg.below hb h0
      refine (block_at rk nA 1 _ _ _ wr rfl rfl rfl rk_bytes rk_length nA_bytes rfl hgr).mono ?_
      rintro e w1 ⟨rfl, hb1⟩
      have hb1' := hb.trans (hb1.mono hb.size)
      have hO1 := hO.below hb1
      have hgr1 := hgr.below hb1 hgr.lt
      have hlt1 : w.heap.size < w1.heap.size := hO1.lt
      clear hb1 hb hO hgr
      have n1 := heap_alloc_new w1 (Obj.cells (bV (zL 64)) 28)
      have hb2 := Below.setRow (below_alloc hb1' (Obj.cells (bV (zL 64)) 28)) (show w.heap.size ≤ w1.heap.size by omega) (bV (blkL (stW rk nA 1)))
      have hO2 : OwnB 22 ((w1.alloc (Obj.cells (bV (zL 64)) 28)).setRow w1.heap.size (bV (blkL (stW rk nA 1)))) w.heap.size rk := (setRow_other _ _ _ _ (by omega)).trans (block_alloc hO1 _)
      have hB2 : OwnB 28 ((w1.alloc (Obj.cells (bV (zL 64)) 28)).setRow w1.heap.size (bV (blkL (stW rk nA 1)))) w1.heap.size (blkL (stW rk nA 1)) := setRow_heap _ _ _ _ _ _ n1
      go_wp2_with (first
        | (refine wpList_newA (by rfl) 28 (by rfl) _ zero64 w1.heap.size rfl ?_)
        | (refine wpList_putA arrT64 (by rfl) _ _ (by rfl) w1.heap.size (bV (blkL (stW rk nA 1))) (by rfl) (by rfl) _ n1 (by rw [bV_size, blkL_length]) (bV_size _) (bV_one _) ?_))
      generalize ((w1.alloc (Obj.cells (bV (zL 64)) 28)).setRow w1.heap.size (bV (blkL (stW rk nA 1)))) = W2 at *
      generalize w1.heap.size = gb at *
      clear n1 hO1 hb1' hgr1
      refine wp_region_ord 1000 [0, 1, 2, 3, 4, 5, 6, 7, 8] (fun w' => OwnB 22 w' w.heap.size rk) (fun _ => True) (by kernel_rfl) (by kernel_rfl) (by kernel_rfl) hO2 trivial (fun _ _ => ?_)
      replace hb2 := hb2.drew
      replace hB2 : OwnB 28 W2.drew gb (blkL (stW rk nA 1)) := hB2
      replace hO2 : OwnB 22 W2.drew w.heap.size rk := hO2
      generalize W2.drew = W3 at *
      refine wpOrd_loadA arrT32 rfl rfl _ rfl w.heap.size (bV rk) (by rfl) (fun _ h => h) (by rw [bV_size, rk_length]) (fun _ _ _ h => h) (by rfl) ?_
      simp only [Act.put, List.setIfInBounds_toArray, List.set_cons_zero, List.set_cons_succ]
      refine wpOrd_quiet (v := .agg (bV (zL 12))) rfl rfl (fun _ _ _ h => h) (by rfl) (by intro w' _ _; go_simp; rfl) ?_
      simp only [Act.put, List.setIfInBounds_toArray, List.set_cons_zero, List.set_cons_succ]
      have hmk := run_make_row' (P := Tryd.prog) 23 5 (.int .u8 0) 1 Tryd.underlying23 Tryd.info_u8 rfl .i64 .i64 65 (by omega) (by omega)
      simp only [show ((65 : Nat) : Int) = 65 from rfl] at hmk
      refine wpOrd_step rfl rfl (by rfl) (fun K' hK => ?_)
      go_simp
      have hO3 : OwnB 22 (W3.alloc (Obj.cells (madeCells #[Value.int IntKind.u8 0] 65) 5)) w.heap.size rk := block_alloc hO2 _
      have hB3 : OwnB 28 (W3.alloc (Obj.cells (madeCells #[Value.int IntKind.u8 0] 65) 5)) gb (blkL (stW rk nA 1)) := block_alloc hB2 _
      have hb3 := below_alloc hb2 (Obj.cells (madeCells #[Value.int IntKind.u8 0] 65) 5)
      refine hK.out _ _ hO3 (fun h => absurd h (by decide)) (fun _ => ?_)
      clear hK K' hmk hO2 hB2 hb2
      generalize (W3.alloc (Obj.cells (madeCells #[Value.int IntKind.u8 0] 65) 5)) = W4 at *
      try simp only [Act.put, List.setIfInBounds_toArray, List.set_cons_zero, List.set_cons_succ]
      refine wpOrd_step rfl rfl (by rfl) (fun K' hK => ?_)
      go_simp
      refine (xor_no_at rk (zL 12) 4294967295 _ _ _ W4 rfl rfl rfl (by decide) (by decide)).mono ?_
      rintro e w5 ⟨rfl, hb5⟩
      have hO5 := hO3.below hb5
      have hB5 := hB3.below hb5
      have hb5' := hb3.trans (hb5.mono hb3.size)
      clear hb5 hO3 hB3 hb3
      refine hK.out _ _ hO5 (fun h => absurd h (by decide)) (fun _ => ?_)
      clear hK K'
      try simp only [Act.put, List.setIfInBounds_toArray, List.set_cons_zero, List.set_cons_succ]
      repeat' (refine wpOrd_quiet (v := ?_) rfl rfl (fun _ _ _ h => h) (by rfl) ?_ ?_
               rotate_left
               · (intro w' _ _; go_simp; try rfl)
               simp only [Act.put, List.setIfInBounds_toArray, List.set_cons_zero, List.set_cons_succ])
      refine wpOrd_nil ?_
      have hbl := blkL_length (stW rk nA 1)
      have c1 := str_bytes (hB5.bsAt (blkL_bytes _) 0 8 64 (by omega) (by decide) (by decide))
      have c2 := str_bytes (hB5.bsAt (blkL_bytes _) 60 4 4 (by omega) (by decide) (by decide))
      rw [blkA8] at c1
      rw [blkA60] at c2
      have s1 := run_arr_to (P := Tryd.prog) Tryd.underlying28 Tryd.size_u8 gb .i64 8 8 rfl (by decide)
      have s2 := run_arr_from (P := Tryd.prog) Tryd.underlying28 Tryd.size_u8 gb .i64 60 60 rfl (by decide)
      generalize blkL (stW rk nA 1) = blk at *
      go_wp2_with fail
      go_ret
      exact ⟨rfl, hb5'⟩
#print axioms awake_any
end Go.Proofs.YtidmmncleifoiaaDoor
