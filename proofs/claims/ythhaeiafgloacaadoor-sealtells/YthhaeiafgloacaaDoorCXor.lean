/- What a call of chac.Xor does: for every key, nonce, counter and every slice of bytes of at most 2^40 that can be read; nothing that was there is turned. -/
import Derived.Test.YthhaeiafgloacaaDoorCBlock
namespace Go.Proofs.YthhaeiafgloacaaDoor
open Go.RowKit

theorem reaches_any (c : BitVec 32) (n : Nat) (hn : n ≤ 1099511627776) (w : World) : Calls Tryd.prog 30 #[.int .u32 (c.toNat : Int), .int .i64 n] w fun e w' => e = .returned (.bool (fits c n)) ∧ w = w' := by
  have hc := u32_lt c
  have h1 : IntKind.u32.wrap (4294967295 - (c.toNat : Int)) = 4294967295 - (c.toNat : Int) := by rw [IntKind.wrap_u32']; omega
  go_enter Tryd.func30, Tryd.ntmps30
  go_wp2_with fail
  go_ret
  refine ⟨ret_bool ?_, rfl⟩
  unfold fits
  rw [decide_eq_decide]
  omega

/-- What is mixed when k bytes are done. -/
def mixF (key nonce : List Int) (c : BitVec 32) (zs : List Int) (k : Nat) : Nat → Value := fun i => if i < k then .int .u8 (xr (zs.getD i 0) (ks key nonce c i)) else .int .u8 0
theorem mixF_step {w : World} {g n : Nat} {E : TypeId} {key nonce zs : List Int} {c : BitVec 32} (k : Nat) (h : w.rowIs g E n (mixF key nonce c zs k)) : (w.setCell ⟨g, k, none⟩ (.int .u8 (xr (zs.getD k 0) (ks key nonce c k)))).rowIs g E n (mixF key nonce c zs (k + 1)) := by
  refine (h.set k _).congr fun i _ => ?_
  unfold mixF
  by_cases e : i = k
  · subst e; simp
  · by_cases e2 : i < k
    · simp [e, e2, show i < k + 1 by omega]
    · simp [e, e2, show ¬ i < k + 1 by omega]
theorem mixF_all {w : World} {g n : Nat} {E : TypeId} {key nonce zs : List Int} {c : BitVec 32} (hn : zs.length = n) (h : w.rowIs g E n (mixF key nonce c zs n)) : OwnB E w g (xorL key nonce c zs) :=
  OwnB.of_rowIs h _ (by rw [xorL_length, hn]) fun i hi => by rw [xorL_getD _ _ _ _ _ (by omega)]; simp [mixF, hi]

theorem xor_no (key nonce : List Int) (c : BitVec 32) {a : Option Addr} {len cap : Nat} (w : World) (hl : len ≤ 1099511627776) (hf : fits c len = false) :
    Calls Tryd.prog 21 #[.agg (bV key), .agg (bV nonce), .int .u32 (c.toNat : Int), .slice a len cap] w fun e w' => e = .returned (.tuple #[.slice none 0 0, .bool false]) ∧ Below w.heap.size w w' := by
  go_enter Tryd.func21, Tryd.ntmps21
  go_wp2_with fail
  refine (reaches_any c len hl _).mono ?_
  rintro e w1 ⟨rfl, rfl⟩
  go_wp2_with fail
  go_ret2
  exact ⟨rfl, below_alloc (below_alloc (Below.refl _ _) _) _⟩

/-- The state of chac.Xor: the mixed bytes and the words. -/
structure XS (w W : World) (gm gs : Nat) (n : Nat) (f : Nat → Value) (xs : Ws) : Prop where
  mix : W.rowIs gm 5 n f
  st : ArrU 49 W gs xs
  bel : Below w.heap.size w W
  gl : Glob W

theorem rowIs_keep {w w' : World} {g n : Nat} {E : TypeId} {f : Nat → Value} (h : w.rowIs g E n f) (hb : w'.heap[g]? = w.heap[g]?) : w'.rowIs g E n f := by
  obtain ⟨c, h1, h2, h3⟩ := h
  exact ⟨c, hb.trans h1, h2, h3⟩
theorem rowIs_lt {w : World} {g n : Nat} {E : TypeId} {f : Nat → Value} (h : w.rowIs g E n f) : g < w.heap.size := by
  obtain ⟨c, h1, _⟩ := h
  exact (Array.getElem?_eq_some_iff.1 h1).1
theorem XS.later {w W W' : World} {gm gs n : Nat} {f : Nat → Value} {xs : Ws} (h : XS w W gm gs n f xs) (hb : Below W.heap.size W W') : XS w W' gm gs n f xs :=
  ⟨rowIs_keep h.mix (hb.block _ (rowIs_lt h.mix)), h.st.below hb h.st.lt, h.bel.trans (hb.mono h.bel.size), h.gl.below hb h.gl.lt⟩
theorem XS.only {w W W' : World} {gm gs n g : Nat} {f : Nat → Value} {xs : Ws} (h : XS w W gm gs n f xs) (ho : OnlyAt g W W') (h1 : gm ≠ g) (h2 : gs ≠ g) (h3 : w.heap.size ≤ g) (h0 : 0 < w.heap.size) : XS w W' gm gs n f xs :=
  ⟨rowIs_keep h.mix (ho.block _ h1), h.st.other (ho.block _ h2), ho.below h.bel h3, rangeAt_keep h.gl (ho.block _ (by omega))⟩
theorem XS.drew {w W : World} {gm gs n : Nat} {f : Nat → Value} {xs : Ws} (h : XS w W gm gs n f xs) : XS w W.drew gm gs n f xs := ⟨h.mix, h.st, h.bel.drew, h.gl⟩
theorem XS.put {w W : World} {gm gs n : Nat} {xs : Ws} {key nonce zs : List Int} {c : BitVec 32} (k : Nat) (h : XS w W gm gs n (mixF key nonce c zs k) xs) (h1 : gs ≠ gm) (h3 : w.heap.size ≤ gm) (h0 : 0 < w.heap.size) :
    XS w (W.setCell ⟨gm, k, none⟩ (.int .u8 (xr (zs.getD k 0) (ks key nonce c k)))) gm gs n (mixF key nonce c zs (k + 1)) xs :=
  ⟨mixF_step k h.mix, h.st.other (heap_setCell_other W _ _ _ h1), h.bel.setCell h3 _, rangeAt_keep h.gl (heap_setCell_other W _ _ _ (by simp; omega))⟩
theorem XS.tick {w W : World} {gm gs n : Nat} {f : Nat → Value} {xs : Ws} (h : XS w W gm gs n f xs) (h1 : gm ≠ gs) (h3 : w.heap.size ≤ gs) (h0 : 0 < w.heap.size) (v : BitVec 32) :
    XS w (W.setCell ⟨gs, 12, none⟩ (.int .u32 (v.toNat : Int))) gm gs n f (upd xs 12 v) :=
  ⟨rowIs_keep h.mix (heap_setCell_other W _ _ _ h1), h.st.set 12 v, h.bel.setCell h3 _, rangeAt_keep h.gl (heap_setCell_other W _ _ _ (by simp; omega))⟩
theorem bs_later {w W : World} {a : Option Addr} {len cap : Nat} {zs : List Int} (h : Bs w a len cap zs) (hb : Below w.heap.size w W) : Bs W a len cap zs := h.below hb

set_option maxHeartbeats 1000000 in
theorem xor_ok (key nonce : List Int) (c : BitVec 32) {a : Option Addr} {len cap : Nat} {zs : List Int} (w : World) (hk : IsBytes key) (hkl : key.length = 32) (hn : IsBytes nonce) (hnl : nonce.length = 12) (hb : Bs w a len cap zs) (hl : len ≤ 1099511627776) (hf : fits c len = true) (hg : Glob w) :
    Calls Tryd.prog 21 #[.agg (bV key), .agg (bV nonce), .int .u32 (c.toNat : Int), .slice a len cap] w fun e w' => ∃ g, e = .returned (.tuple #[.slice (some ⟨g, 0, none⟩) len len, .bool true]) ∧ OwnB 5 w' g (xorL key nonce c zs) ∧ w.heap.size ≤ g ∧ Below w.heap.size w w' := by
  have hmk := run_make_row' (P := Tryd.prog) 25 5 (.int .u8 0) 1 Tryd.underlying25 Tryd.info_u8 rfl .i64 .i64 len (by omega) (by omega)
  have hb0 := below_alloc (below_alloc (Below.refl w.heap.size w) (Obj.cells (bV key) 22)) (Obj.cells (bV nonce) 35)
  have n1 := heap_alloc_new w (Obj.cells (bV key) 22)
  have n2 := heap_alloc_new (w.alloc (Obj.cells (bV key) 22)) (Obj.cells (bV nonce) 35)
  simp only [size_alloc] at n2
  go_enter Tryd.func21, Tryd.ntmps21
  go_wp2_with fail
  refine (reaches_any c len hl _).mono ?_
  rintro e w1 ⟨rfl, rfl⟩
  go_wp2_with (first
    | (refine wpList_loadA arrT32 (by rfl) _ (by rfl) w.heap.size (by rfl) (bV key) (block_alloc (block_alloc n1 _) _) (by rw [bV_size, hkl]) ?_)
    | (refine wpList_loadA arrT12 (by rfl) _ (by rfl) (w.heap.size + 1) (by rfl) (bV nonce) (block_alloc n2 _) (by rw [bV_size, hnl]) ?_))
  have hb1 := below_alloc hb0 (Obj.cells (madeCells #[Value.int IntKind.u8 0] len) 5)
  have hm1 : (((w.alloc (Obj.cells (bV key) 22)).alloc (Obj.cells (bV nonce) 35)).alloc (Obj.cells (madeCells #[Value.int IntKind.u8 0] len) 5)).rowIs (w.heap.size + 2) 5 len (mixF key nonce c zs 0) := by
    have := World.rowIs_made ((w.alloc (Obj.cells (bV key) 22)).alloc (Obj.cells (bV nonce) 35)) (.int .u8 0) len 5
    simp only [size_alloc] at this
    exact this.congr fun i _ => by simp [mixF]
  generalize (((w.alloc (Obj.cells (bV key) 22)).alloc (Obj.cells (bV nonce) 35)).alloc (Obj.cells (madeCells #[Value.int IntKind.u8 0] len) 5)) = W1 at *
  clear n1 n2 hb0 hmk
  refine (stateOf_any key nonce c W1 hk hkl hn hnl).mono ?_
  rintro e w2 ⟨rfl, hb2⟩
  have hb2' := hb1.trans (hb2.mono hb1.size)
  have hm2 := rowIs_keep hm1 (hb2.block _ (rowIs_lt hm1))
  have hgm : w.heap.size + 2 < w2.heap.size := rowIs_lt hm2
  have hb3 := below_alloc hb2' (Obj.cells (arrV zW) 49)
  have n3 := heap_alloc_new w2 (Obj.cells (arrV zW) 49)
  have hm3 := rowIs_keep hm2 (Below.heap_alloc w2 (Obj.cells (arrV zW) 49) _ hgm)
  clear hb1 hm1 hb2 hb2' hm2
  go_wp2_with (first
    | (refine wpList_newA (by rfl) 49 (by rfl) _ zero16 w2.heap.size rfl ?_)
    | (refine wpList_putA arrT16 (by rfl) _ _ (by rfl) w2.heap.size (arrV (stW key nonce c)) (by rfl) (by rfl) _ n3 (arrV_size _) (arrV_size _) (arrV_one _) ?_))
  have hX0 : XS w ((w2.alloc (Obj.cells (arrV zW) 49)).setRow w2.heap.size (arrV (stW key nonce c))) (w.heap.size + 2) w2.heap.size len (mixF key nonce c zs 0) (stW key nonce c) := by
    have hb4 := Below.setRow hb3 (show w.heap.size ≤ w2.heap.size by omega) (arrV (stW key nonce c))
    exact ⟨rowIs_keep hm3 (setRow_other _ _ _ _ (by omega)), setRow_heap _ _ _ _ _ _ n3, hb4, hg.below hb4 hg.lt⟩
  generalize ((w2.alloc (Obj.cells (arrV zW) 49)).setRow w2.heap.size (arrV (stW key nonce c))) = W4 at *
  generalize w2.heap.size = gs at *
  clear hb3 n3 hm3
  have h0 := hg.lt
  have hz := hb.length
  have hlc := hb.le_cap
  go_loopw [12] (fun v wr => ∃ q m : Nat, v = .int .i64 q ∧ q = 64 * m ∧ q < len + 64 ∧ XS w wr (w.heap.size + 2) gs len (mixF key nonce c zs (min q len)) (stW key nonce (c + BitVec.ofNat 32 m))) (fun v _ => len + 64 - (intOf v).toNat)
  case atStart => exact ⟨0, 0, rfl, rfl, by omega, by simpa using hX0⟩
  case round =>
    obtain ⟨q, m, rfl, hq, hql, hX⟩ := hrel
    have HQ : Hid (q = 64 * m) := hq
    clear hX0 W4 hq
    by_cases hlt : q < len
    · have hs := hX.st
      rw [show min q len = q by omega] at hX
      go_wp2_with (refine wpList_loadA arrT16 (by rfl) _ (by rfl) gs (by rfl) _ hs (arrV_size _) ?_)
      refine (blockOf_any _ wr hX.gl).mono ?_
      rintro e w3 ⟨rfl, hb3⟩
      have hX3 := hX.later hb3
      have hgs : gs < w3.heap.size := hX3.st.lt
      have hX4 := hX3.later (below_alloc (Below.refl _ _) (Obj.cells (bV (zL 64)) 44))
      have n4 := heap_alloc_new w3 (Obj.cells (bV (zL 64)) 44)
      clear hX hs hb3 hX3
      go_wp2_with (first
        | (refine wpList_newA (by rfl) 44 (by rfl) _ zero64 w3.heap.size rfl ?_)
        | (refine wpList_putA arrT64 (by rfl) _ _ (by rfl) w3.heap.size (bV (blkL _)) (by rfl) (by rfl) _ n4 (by rw [bV_size, blkL_length]) (bV_size _) (bV_one _) ?_))
      have hX5 := hX4.only (OnlyAt.setRow w3.heap.size _ (bV (blkL (stW key nonce (c + BitVec.ofNat 32 m))))) (by omega) (by omega) (by omega) h0
      have hB5 : OwnB 44 ((w3.alloc (Obj.cells (bV (zL 64)) 44)).setRow w3.heap.size (bV (blkL (stW key nonce (c + BitVec.ofNat 32 m))))) w3.heap.size (blkL (stW key nonce (c + BitVec.ofNat 32 m))) := setRow_heap _ _ _ _ _ _ n4
      generalize ((w3.alloc (Obj.cells (bV (zL 64)) 44)).setRow w3.heap.size (bV (blkL (stW key nonce (c + BitVec.ofNat 32 m))))) = W5 at *
      generalize w3.heap.size = gb at *
      clear hX4 n4
      obtain ⟨r, hr⟩ : ∃ r, min (q + 64) len = r := ⟨_, rfl⟩
      have hrI : (if (len : Int) < (q : Int) + 64 then (len : Int) else (q : Int) + 64) = (r : Int) := by split <;> omega
      have hr1 : q ≤ r := by omega
      have hr2 : r ≤ len := by omega
      have hr3 : r ≤ q + 64 := by omega
      have HR : Hid (min (q + 64) len = r) := hr
      clear hr
      have HK : ∀ j, q ≤ j → j < r → Hid ((blkL (stW key nonce (c + BitVec.ofNat 32 m))).getD (j - q) 0 = ks key nonce c j) := fun j h1 h2 => by
        show _ = _
        have e := HQ.out
        rw [blkL, rowL_getD _ _ _ (by omega), ks, show j / 64 = m by omega, show j % 64 = j - q by omega]
      have hBb := blkL_bytes (stW key nonce (c + BitVec.ofNat 32 m))
      have hBl := blkL_length (stW key nonce (c + BitVec.ofNat 32 m))
      generalize blkL (stW key nonce (c + BitVec.ofNat 32 m)) = blk at *
      go_loopw [14] (fun v wr => ∃ i : Nat, v = .int .i64 i ∧ q ≤ i ∧ i ≤ r ∧ XS w wr (w.heap.size + 2) gs len (mixF key nonce c zs i) (stW key nonce (c + BitVec.ofNat 32 m)) ∧ OwnB 44 wr gb blk) (fun v _ => r - (intOf v).toNat)
      case atStart => exact ⟨q, rfl, Nat.le_refl _, hr1, hX5, hB5⟩
      case round =>
        obtain ⟨i, rfl, hqi, hir, hX, hB⟩ := hrel
        clear hX5 hB5 W5
        by_cases hlt2 : i < r
        · have HKi := HK i hqi hlt2
          have hzb := hb.bytes.getD i
          have hyb := hBb.getD (i - q)
          have hbc := bs_later hb hX.bel
          rcases hbc.place with hc0 | ⟨b, off, rfl, hc⟩
          · omega
          have hbw := hb.block_lt (by omega)
          have hci := hc i (by omega)
          have hcb := hB.cell (i - q) (by omega)
          have hsub : IntKind.i64.wrap ((i : Int) - (q : Int)) = ((i - q : Nat) : Int) := by rw [IntKind.wrap_i64]; omega
          have hj64 : ((i - q : Nat) : Int) < 64 := by omega
          have hj64' : i - q < 64 := by omega
          have hil : i < len := by omega
          clear hc hbc
          obtain ⟨X, HX⟩ : ∃ X, Hid (zs.getD i 0 = X) := ⟨_, rfl⟩
          obtain ⟨Y, HY⟩ : ∃ Y, Hid (blk.getD (i - q) 0 = Y) := ⟨_, rfl⟩
          rw [HX.out] at hzb hci
          rw [HY.out] at hyb hcb
          have hxr := bits_xr _ _ hzb hyb
          have hxl := xr_lt _ _ hzb hyb
          go_wp2_with fail
          refine wp_region_ord 1000 [0, 1, 2, 3, 4, 5, 6, 7, 8, 9, 10, 11, 12, 13]
            (fun w' => w'.cell? ⟨b, off + i, none⟩ = some (.int .u8 X) ∧ w'.cell? ⟨gb, i - q, none⟩ = some (.int .u8 Y)) (fun _ => True)
            (by kernel_rfl) (by kernel_rfl) (by kernel_rfl) ⟨hci, hcb⟩ trivial (fun hT _ => ?_)
          have hX1 := hX.drew
          have hB1 : OwnB 44 wr.drew gb blk := hB
          generalize wr.drew = W1 at *
          clear hX hB hci hcb
          repeat' (refine wpOrd_quiet (v := ?_) rfl rfl (fun _ _ _ h => h) (by rfl) ?_ ?_
                   rotate_left
                   · (intro w' hT' _; obtain ⟨hT1, hT2⟩ := hT'; go_simp; try rfl)
                   simp only [Act.put, List.setIfInBounds_toArray, List.set_cons_zero, List.set_cons_succ])
          refine wpOrd_step rfl rfl (by rfl) (fun K' hK => ?_)
          have f1 := hX1.mix.cell hil
          have z1 := hX1.mix.frozen i
          have hX2 := hX1.put i (by omega) (by omega) h0
          rw [← HKi.out, HX.out, HY.out] at hX2
          have hB2 : OwnB 44 (W1.setCell ⟨w.heap.size + 2, i, none⟩ (.int .u8 (xr X Y))) gb blk := by
            unfold OwnB at hB1 ⊢
            rw [heap_setCell_other _ _ _ _ (by simp; omega)]; exact hB1
          have hT2 : (W1.setCell ⟨w.heap.size + 2, i, none⟩ (.int .u8 (xr X Y))).cell? ⟨b, off + i, none⟩ = some (.int .u8 X) ∧ (W1.setCell ⟨w.heap.size + 2, i, none⟩ (.int .u8 (xr X Y))).cell? ⟨gb, i - q, none⟩ = some (.int .u8 Y) :=
            ⟨(World.cell?_of_block (w := W1) (heap_setCell_other _ _ _ _ (by simp; omega))).trans hT.1, (World.cell?_of_block (w := W1) (heap_setCell_other _ _ _ _ (by simp; omega))).trans hT.2⟩
          clear hT hX1 hB1
          go_simp
          refine hK.out _ _ hT2 (fun h => absurd h (by decide)) (fun _ => ?_)
          clear hK K' f1 z1 hT2
          try simp only [Act.put, List.setIfInBounds_toArray, List.set_cons_zero, List.set_cons_succ]
          refine wpOrd_nil ?_
          go_wp2_with fail
          go_roundw
          case rel => exact ⟨i + 1, by go_num, by omega, by omega, hX2, hB2⟩
          case measure => simp [intOf]; omega
        · obtain rfl : i = r := by omega
          have hs := hX.st.cell 12 (by decide)
          have hfz := hX.st.frozen 12
          have hX2 := hX.tick (by omega) (by omega) h0 (stW key nonce (c + BitVec.ofNat 32 m) 12 + 1)
          rw [stW_next] at hX2
          have e12 : stW key nonce (c + BitVec.ofNat 32 m) 12 = c + BitVec.ofNat 32 m := rfl
          have ew := u32_add_bv (c + BitVec.ofNat 32 m) 1
          have el := u32_lt (c + BitVec.ofNat 32 m)
          have em : c + BitVec.ofNat 32 m + 1 = c + BitVec.ofNat 32 (m + 1) := by rw [BitVec.add_assoc, BitVec.ofNat_add]; rfl
          rw [e12] at hs hX2
          rw [em] at ew hX2
          clear e12 em
          rw [show ((1 : BitVec 32).toNat : Int) = 1 from rfl] at ew
          have HC : ∀ (W : World) k, Hid (XS w W (w.heap.size + 2) gs len k (stW key nonce (c + BitVec.ofNat 32 (m + 1))) = XS w W (w.heap.size + 2) gs len k (stW key nonce (c + BitVec.ofNat 32 (m + 1)))) := fun _ _ => rfl
          generalize hc1 : c + BitVec.ofNat 32 (m + 1) = c1 at *
          have HC1 : Hid (c + BitVec.ofNat 32 (m + 1) = c1) := hc1
          clear hc1 HC
          generalize c + BitVec.ofNat 32 m = c0 at *
          go_wp2_with fail
          go_roundw
          case rel =>
            refine ⟨q + 64, m + 1, by go_num, by have := HQ.out; omega, by omega, ?_⟩
            rw [HR.out, HC1.out]
            exact hX2
          case measure => simp [intOf]; omega
    · have hmin : min q len = len := by omega
      rw [hmin] at hX
      have ho := mixF_all hz hX.mix
      have hbe := hX.bel
      clear hmin hX
      go_wp2_with fail
      go_ret2
      exact ⟨_, rfl, ho, by omega, hbe⟩
#print axioms xor_ok
end Go.Proofs.YthhaeiafgloacaaDoor
