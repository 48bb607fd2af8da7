/- What a call of dumbwaiterref1.Block does: for every key, nonce and counter; nothing that was there is turned. -/
import Derived.Test.YthhaeiafgloacaaDoorCBlock
import Derived.Test.YthhaeiafgloacaaDoorRef1Get
import Derived.Test.YthhaeiafgloacaaDoorQRef
namespace Go.Proofs.YthhaeiafgloacaaDoor
open Go.RowKit

/-- A state that is being filled: key, nonce, a block, the words. -/
structure RB (w W : World) (gk gn go gs : Nat) (key nonce O : List Int) (xs : Ws) : Prop where
  kk : OwnB 22 W gk key
  nn : OwnB 35 W gn nonce
  oo : OwnB 44 W go O
  st : ArrU 49 W gs xs
  bel : Below w.heap.size w W
theorem RB.set {w W : World} {gk gn go gs : Nat} {key nonce O : List Int} {xs : Ws} (h : RB w W gk gn go gs key nonce O xs) (h1 : gk ≠ gs) (h2 : gn ≠ gs) (h3 : go ≠ gs) (h4 : w.heap.size ≤ gs) (k : Nat) (v : BitVec 32) :
    RB w (W.setCell ⟨gs, k, none⟩ (.int .u32 (v.toNat : Int))) gk gn go gs key nonce O (upd xs k v) :=
  have ho := OnlyAt.setCell' gs k W (.int .u32 (v.toNat : Int))
  ⟨ho.own h.kk h1, ho.own h.nn h2, ho.own h.oo h3, h.st.set k v, h.bel.setCell h4 _⟩
theorem RB.later {w W W' : World} {gk gn go gs : Nat} {key nonce O : List Int} {xs : Ws} (h : RB w W gk gn go gs key nonce O xs) (hb : Below W.heap.size W W') : RB w W' gk gn go gs key nonce O xs :=
  ⟨h.kk.below hb, h.nn.below hb, h.oo.below hb, h.st.below hb h.st.lt, h.bel.trans (hb.mono h.bel.size)⟩
theorem RB.only {w W W' : World} {gk gn go gs g : Nat} {key nonce O : List Int} {xs : Ws} (h : RB w W gk gn go gs key nonce O xs) (ho : OnlyAt g W W') (h1 : gk ≠ g) (h2 : gn ≠ g) (h3 : go ≠ g) (h4 : gs ≠ g) (h5 : w.heap.size ≤ g) : RB w W' gk gn go gs key nonce O xs :=
  ⟨ho.own h.kk h1, ho.own h.nn h2, ho.own h.oo h3, h.st.other (ho.block _ h4), ho.below h.bel h5⟩
theorem RB.drew {w W : World} {gk gn go gs : Nat} {key nonce O : List Int} {xs : Ws} (h : RB w W gk gn go gs key nonce O xs) : RB w W.drew gk gn go gs key nonce O xs := ⟨h.kk, h.nn, h.oo, h.st, h.bel.drew⟩

theorem arrV_pre0 : #[Value.int .u32 1634760805, .int .u32 857760878, .int .u32 2036477234, .int .u32 1797285236, .int .u32 0, .int .u32 0, .int .u32 0, .int .u32 0, .int .u32 0, .int .u32 0, .int .u32 0, .int .u32 0, .int .u32 0, .int .u32 0, .int .u32 0, .int .u32 0] = arrV (preW 0) := rfl
theorem stW_fill (key nonce : List Int) (c : BitVec 32) : putW (upd (putW (preW 0) 4 key 8) 12 c) 13 nonce 3 = stW key nonce c := by
  have e : upd (putW (preW 0) 4 key 8) 12 c = putW (upd (preW 0) 12 c) 4 key 8 := by
    funext j
    unfold upd putW
    by_cases h : j = 12
    · subst h; simp
    · simp [h]
  rw [e, stW_put key nonce c (upd (preW 0) 12 c) rfl rfl rfl rfl rfl (fun j hj => by simp [upd, preW, show j ≠ 0 by omega, show j ≠ 1 by omega, show j ≠ 2 by omega, show j ≠ 3 by omega, show j ≠ 12 by omega])]

/-- What a Get of four bytes of a row answers. -/
theorem rget_word {E : TypeId} {w : World} {g n : Nat} {zs : List Int} (h : OwnB E w g zs) (hz : IsBytes zs) (hn : zs.length = n) (k : Nat) (hk : 4 * k + 4 ≤ n) (hl : n ≤ 1000) :
    Calls Tryd.prog 18 #[.slice (some ⟨g, 4 * k, none⟩) 4 (n - 4 * k)] w fun e w' => e = .returned (.int .u64 ((word4 zs k).toNat : Int)) ∧ w = w' := by
  have := rget_any w (h.bsAt hz (4 * k) 4 (n - 4 * k) (by omega) (by omega) (by omega))
  rwa [take48, word4_num zs hz k] at this

/-- A block of which j bytes are written. -/
def preB (xs : Ws) (j : Nat) : List Int := rowL (fun i => if i < j then kb xs i else 0) 64
theorem preB_zero (xs : Ws) : preB xs 0 = zL 64 := rowL_congr fun i _ => by simp
theorem preB_all (xs : Ws) : preB xs 64 = blkL xs := rowL_congr fun i hi => by simp [hi]
theorem preB_length (xs : Ws) (k : Nat) : (preB xs k).length = 64 := rowL_length _ _
theorem preB_set (xs : Ws) (k : Nat) (hk : k < 64) : (preB xs k).set k (kb xs k) = preB xs (k + 1) := by
  refine rowL_of _ _ _ (by simp [preB_length]) fun i hi => ?_
  by_cases e : i = k
  · subst e
    simp [List.getD, preB_length, hk]
  · have : ((preB xs k).set k (kb xs k)).getD i 0 = (preB xs k).getD i 0 := by simp [List.getD, Ne.symm e]
    rw [this, preB, rowL_getD _ _ _ hi]
    by_cases h : i < k
    · rw [if_pos h, if_pos (by omega)]
    · rw [if_neg h, if_neg (by omega)]
theorem OwnB.put8 {E : TypeId} {w : World} {g : Nat} {zs : List Int} (h : OwnB E w g zs) (i : Nat) (x : Int) : OwnB E (w.setCell ⟨g, i, none⟩ (.int .u8 x)) g (zs.set i x) := by
  unfold OwnB at h ⊢
  rw [heap_setCell_same w g i _ _ _ h]
  congr 2
  simp
theorem OwnB.froz8 {E : TypeId} {w : World} {g : Nat} {zs : List Int} (h : OwnB E w g zs) (j : Nat) : w.frozen? ⟨g, j, none⟩ = false := frozen_of_row w g j _ _ h

set_option maxRecDepth 100000 in
set_option maxHeartbeats 4000000 in
theorem rblock_any (key nonce : List Int) (c : BitVec 32) (w : World) (hk : IsBytes key) (hkl : key.length = 32) (hn : IsBytes nonce) (hnl : nonce.length = 12) :
    Calls Tryd.prog 28 #[.agg (bV key), .agg (bV nonce), .int .u32 (c.toNat : Int)] w fun e w' => e = .returned (.agg (bV (blkL (stW key nonce c)))) ∧ Below w.heap.size w w' := by
  have n1 := heap_alloc_new w (Obj.cells (bV key) 22)
  have n2 := heap_alloc_new (w.alloc (Obj.cells (bV key) 22)) (Obj.cells (bV nonce) 35)
  have n3 := heap_alloc_new ((w.alloc (Obj.cells (bV key) 22)).alloc (Obj.cells (bV nonce) 35)) (Obj.cells (bV (zL 64)) 44)
  have n4 := heap_alloc_new (((w.alloc (Obj.cells (bV key) 22)).alloc (Obj.cells (bV nonce) 35)).alloc (Obj.cells (bV (zL 64)) 44)) (Obj.cells (arrV zW) 49)
  simp only [size_alloc] at n2 n3 n4
  have hR : RB w (((((w.alloc (Obj.cells (bV key) 22)).alloc (Obj.cells (bV nonce) 35)).alloc (Obj.cells (bV (zL 64)) 44)).alloc (Obj.cells (arrV zW) 49)).setRow (w.heap.size + 3) (arrV (preW 0))) w.heap.size (w.heap.size + 1) (w.heap.size + 2) (w.heap.size + 3) key nonce (zL 64) (preW 0) := by
    have hb := below_alloc (below_alloc (below_alloc (below_alloc (Below.refl w.heap.size w) (Obj.cells (bV key) 22)) (Obj.cells (bV nonce) 35)) (Obj.cells (bV (zL 64)) 44)) (Obj.cells (arrV zW) 49)
    have ho := OnlyAt.setRow (w.heap.size + 3) ((((w.alloc (Obj.cells (bV key) 22)).alloc (Obj.cells (bV nonce) 35)).alloc (Obj.cells (bV (zL 64)) 44)).alloc (Obj.cells (arrV zW) 49)) (arrV (preW 0))
    exact ⟨ho.own (block_alloc (block_alloc (block_alloc n1 _) _) _) (by omega), ho.own (block_alloc (block_alloc n2 _) _) (by omega), ho.own (block_alloc n3 _) (by omega), setRow_heap _ _ _ _ _ _ n4, ho.below hb (by omega)⟩
  go_enter Tryd.func28, Tryd.ntmps28
  go_wp2_with (first
    | (refine wpList_newA (by rfl) 44 (by rfl) _ zero64 (w.heap.size + 2) (by rw [size_alloc, size_alloc]) ?_)
    | (refine wpList_newA (by rfl) 49 (by rfl) _ zero16 (w.heap.size + 3) (by rw [size_alloc, size_alloc, size_alloc]) ?_)
    | (refine wpList_build_is rfl 49 _ rfl (arrV (preW 0)) (by kernel_rfl) ?_)
    | (refine wpList_putA arrT16 (by rfl) _ _ (by rfl) (w.heap.size + 3) (arrV (preW 0)) (by rfl) (by rfl) _ n4 (arrV_size _) (arrV_size _) (arrV_one _) ?_))
  generalize (((((w.alloc (Obj.cells (bV key) 22)).alloc (Obj.cells (bV nonce) 35)).alloc (Obj.cells (bV (zL 64)) 44)).alloc (Obj.cells (arrV zW) 49)).setRow (w.heap.size + 3) (arrV (preW 0))) = W0 at *
  clear n1 n2 n3 n4
  go_loopw [8] (fun v wr => ∃ k : Nat, k ≤ 8 ∧ v = .int .i64 k ∧ RB w wr w.heap.size (w.heap.size + 1) (w.heap.size + 2) (w.heap.size + 3) key nonce (zL 64) (putW (preW 0) 4 key k)) (fun v _ => 8 - (intOf v).toNat)
  case atStart => exact ⟨0, Nat.zero_le _, rfl, by rw [putW_zero]; exact hR⟩
  case round =>
    clear hR
    obtain ⟨k, hk8, rfl, hR⟩ := hrel
    by_cases hlt : k < 8
    · have hcut := run_arr_mid (P := Tryd.prog) Tryd.underlying22 Tryd.size_u8 w.heap.size .i64 .i64 (4 * (k : Int)) (4 * (k : Int) + 4) (4 * k) (4 * k + 4) (by omega) (by omega) (by omega) (by omega) (by omega)
      rw [show 4 * k + 4 - 4 * k = 4 by omega] at hcut
      have HG := rget_word hR.kk hk hkl k (by omega) (by decide)
      have hu := u32_lt (word4 key k)
      have hcell := hR.st.cell (4 + k) (by omega)
      have hfro := hR.st.frozen (4 + k)
      have hR' := hR.set (by omega) (by omega) (by omega) (by omega) (4 + k) (word4 key k)
      rw [putW_succ] at hR'
      clear hR
      generalize word4 key k = X at *
      generalize putW (preW 0) 4 key k (4 + k) = Y at *
      go_wp2_with fail
      refine HG.mono ?_
      rintro e w1 ⟨rfl, rfl⟩
      go_wp2_with fail
      go_roundw
      case rel => exact ⟨k + 1, by omega, by go_num, hR'⟩
      case measure => simp [intOf]; omega
    · obtain rfl : k = 8 := by omega
      have hcell := hR.st.cell 12 (by decide)
      have hfro := hR.st.frozen 12
      have hR2 := hR.set (by omega) (by omega) (by omega) (by omega) 12 c
      clear hR
      generalize putW (preW 0) 4 key 8 12 = Y at *
      go_wp2_with fail
      generalize (wr.setCell ⟨w.heap.size + 3, 12, none⟩ (.int .u32 (c.toNat : Int))) = W1 at *
      clear hcell hfro
      have HF : Hid (putW (upd (putW (preW 0) 4 key 8) 12 c) 13 nonce 3 = stW key nonce c) := stW_fill key nonce c
      generalize upd (putW (preW 0) 4 key 8) 12 c = xs0 at *
      rw [show ((8 : Nat) : Int) = 8 from rfl]
      go_loopw [9] (fun v wr => ∃ k : Nat, k ≤ 3 ∧ v = .int .i64 k ∧ RB w wr w.heap.size (w.heap.size + 1) (w.heap.size + 2) (w.heap.size + 3) key nonce (zL 64) (putW xs0 13 nonce k)) (fun v _ => 3 - (intOf v).toNat)
      case atStart => exact ⟨0, Nat.zero_le _, rfl, by rw [putW_zero]; exact hR2⟩
      case round =>
        clear hR2
        obtain ⟨k, hk3, rfl, hR⟩ := hrel
        by_cases hlt2 : k < 3
        · have hcut := run_arr_mid (P := Tryd.prog) Tryd.underlying35 Tryd.size_u8 (w.heap.size + 1) .i64 .i64 (4 * (k : Int)) (4 * (k : Int) + 4) (4 * k) (4 * k + 4) (by omega) (by omega) (by omega) (by omega) (by omega)
          rw [show 4 * k + 4 - 4 * k = 4 by omega] at hcut
          have HG := rget_word hR.nn hn hnl k (by omega) (by decide)
          have hu := u32_lt (word4 nonce k)
          have hcell := hR.st.cell (13 + k) (by omega)
          have hfro := hR.st.frozen (13 + k)
          have hR' := hR.set (by omega) (by omega) (by omega) (by omega) (13 + k) (word4 nonce k)
          rw [putW_succ] at hR'
          clear hR
          generalize word4 nonce k = X at *
          generalize putW xs0 13 nonce k (13 + k) = Y at *
          go_wp2_with fail
          refine HG.mono ?_
          rintro e w1 ⟨rfl, rfl⟩
          go_wp2_with fail
          go_roundw
          case rel => exact ⟨k + 1, by omega, by go_num, hR'⟩
          case measure => simp [intOf]; omega
        · obtain rfl : k = 3 := by omega
          rw [HF.out] at hR
          clear HF
          obtain ⟨xs, HX⟩ : ∃ xs, Hid (stW key nonce c = xs) := ⟨_, rfl⟩
          rw [HX.out] at hR
          have hst := hR.st
          have hlt4 : w.heap.size + 3 < wr.heap.size := hst.lt
          have n5 := heap_alloc_new wr (Obj.cells (arrV zW) 49)
          have hR5 := (hR.later (below_alloc (Below.refl _ _) (Obj.cells (arrV zW) 49))).only (OnlyAt.setRow wr.heap.size _ (arrV xs)) (by omega) (by omega) (by omega) (by omega) (by omega)
          have hT5 : ArrU 49 ((wr.alloc (Obj.cells (arrV zW) 49)).setRow wr.heap.size (arrV xs)) wr.heap.size xs := setRow_heap _ _ _ _ _ _ n5
          go_wp2_with (first
            | (refine wpList_loadA arrT16 (by rfl) _ (by rfl) (w.heap.size + 3) (by rfl) (arrV xs) hst (arrV_size _) ?_)
            | (refine wpList_newA (by rfl) 49 (by rfl) _ zero16 wr.heap.size rfl ?_)
            | (refine wpList_putA arrT16 (by rfl) _ _ (by rfl) wr.heap.size (arrV xs) (by rfl) (by rfl) _ n5 (arrV_size _) (arrV_size _) (arrV_one _) ?_))
          generalize ((wr.alloc (Obj.cells (arrV zW) 49)).setRow wr.heap.size (arrV xs)) = W5 at *
          generalize wr.heap.size = gw at *
          clear hR hst n5
          go_loopw [11] (fun v wr => ∃ k : Nat, k ≤ 10 ∧ v = .int .i64 k ∧ RB w wr w.heap.size (w.heap.size + 1) (w.heap.size + 2) (w.heap.size + 3) key nonce (zL 64) xs ∧ ArrU 49 wr gw (turnN xs k)) (fun v _ => 10 - (intOf v).toNat)
          case atStart => exact ⟨0, Nat.zero_le _, rfl, hR5, hT5⟩
          case round =>
            clear hR5 hT5
            obtain ⟨k, hk10, rfl, hR, hT⟩ := hrel
            by_cases hlt5 : k < 10
            · have HT : Hid (dbl (turnN xs k) = turnN xs (k + 1)) := rfl
              generalize turnN xs k = ys at *
              go_wp2_with (refine wpList_loadA arrT16 (by rfl) _ (by rfl) gw (by rfl) (arrV ys) hT (arrV_size _) ?_)
              refine (rdouble_any ys wr).mono ?_
              rintro e w1 ⟨rfl, hb⟩
              have hT1 := hT.below hb hT.lt
              have hR1 := hR.later hb
              have hR2 := hR1.only (OnlyAt.setRow gw w1 (arrV (dbl ys))) (by omega) (by omega) (by omega) (by omega) (by omega)
              have hT2 := hT1.setRow (dbl ys)
              clear hT hR hb hR1
              generalize dbl ys = zs at *
              go_wp2_with (refine wpList_putA arrT16 (by rfl) _ _ (by rfl) gw (arrV zs) (by rfl) (by rfl) _ hT1 (arrV_size _) (arrV_size _) (arrV_one _) ?_)
              go_roundw
              case rel => exact ⟨k + 1, by omega, by go_num, hR2, by rw [← HT.out]; exact hT2⟩
              case measure => simp [intOf]; omega
            · obtain rfl : k = 10 := by omega
              have HB : ∀ k, Hid (turnN xs 10 k + xs k = blkW xs k) := fun k => rfl
              generalize turnN xs 10 = ys at *
              have n6 := heap_alloc_new wr (Obj.cells (bV (zL 64)) 44)
              have hR6 := hR.later (below_alloc (Below.refl _ _) (Obj.cells (bV (zL 64)) 44))
              have hT6 : ArrU 49 (wr.alloc (Obj.cells (bV (zL 64)) 44)) gw ys := block_alloc hT _
              have hP6 : OwnB 44 (wr.alloc (Obj.cells (bV (zL 64)) 44)) wr.heap.size (preB xs 0) := by rw [preB_zero]; exact n6
              have hgw : gw < wr.heap.size := hT.lt
              go_wp2_with (refine wpList_newA (by rfl) 44 (by rfl) _ zero64 wr.heap.size rfl ?_)
              generalize (wr.alloc (Obj.cells (bV (zL 64)) 44)) = W6 at *
              generalize wr.heap.size = gb at *
              clear hR hT n6
              go_loopw [13] (fun v wr => ∃ i : Nat, i ≤ 16 ∧ v = .int .i64 i ∧ RB w wr w.heap.size (w.heap.size + 1) (w.heap.size + 2) (w.heap.size + 3) key nonce (zL 64) xs ∧ ArrU 49 wr gw ys ∧ OwnB 44 wr gb (preB xs (4 * i))) (fun v _ => 16 - (intOf v).toNat)
              case atStart => exact ⟨0, Nat.zero_le _, rfl, hR6, hT6, hP6⟩
              case round =>
                clear hR6 hT6 hP6
                obtain ⟨i, hi16, rfl, hR, hT, hP⟩ := hrel
                by_cases hlt6 : i < 16
                · have hX : IntKind.u32.wrap (((ys i).toNat : Int) + ((xs i).toNat : Int)) = ((blkW xs i).toNat : Int) := by rw [← (HB i).out]; exact u32_add_bv _ _
                  have hXl := u32_lt (blkW xs i)
                  have hyl := u32_lt (ys i)
                  have hxl := u32_lt (xs i)
                  have hc1 := hT.cell i hlt6
                  have hc2 := hR.st.cell i hlt6
                  have hiI : (i : Int) < 16 := by omega
                  go_wp2_with fail
                  refine wp_region_ord 1000 [0, 1, 2, 3, 4, 5, 6, 7] (fun w' => w'.cell? ⟨gw, i, none⟩ = some (.int .u32 ((ys i).toNat : Int)) ∧ w'.cell? ⟨w.heap.size + 3, i, none⟩ = some (.int .u32 ((xs i).toNat : Int))) (fun _ => True) (by kernel_rfl) (by kernel_rfl) (by kernel_rfl) ⟨hc1, hc2⟩ trivial (fun _ _ => ?_)
                  have hR1 := hR.drew
                  have hT1 : ArrU 49 wr.drew gw ys := hT
                  have hP1 : OwnB 44 wr.drew gb (preB xs (4 * i)) := hP
                  generalize wr.drew = W7 at *
                  clear hR hT hP hc1 hc2
                  repeat' (refine wpOrd_quiet (v := ?_) rfl rfl (fun _ _ _ h => h) (by rfl) ?_ ?_
                           rotate_left
                           · (intro w' hT' _; obtain ⟨t1, t2⟩ := hT'; go_simp; try rfl)
                           simp only [Act.put, List.setIfInBounds_toArray, List.set_cons_zero, List.set_cons_succ])
                  refine wpOrd_nil ?_
                  go_wp2_with fail
                  have HK : ∀ j, j < 4 → Hid (((blkW xs i).toNat : Int) / 2 ^ (8 * j) % 256 = kb xs (4 * i + j)) := fun j hj => by
                    show _ = _
                    unfold kb byteAt
                    rw [show (4 * i + j) / 4 = i by omega, show (4 * i + j) % 4 = j by omega, Int.pow_mul]
                    rfl
                  generalize ((blkW xs i).toNat : Int) = N at *
                  clear hX hyl hxl
                  go_loopw [15] (fun v wr => ∃ j : Nat, j ≤ 4 ∧ v = .int .i64 j ∧ RB w wr w.heap.size (w.heap.size + 1) (w.heap.size + 2) (w.heap.size + 3) key nonce (zL 64) xs ∧ ArrU 49 wr gw ys ∧ OwnB 44 wr gb (preB xs (4 * i + j))) (fun v _ => 4 - (intOf v).toNat)
                  case atStart => exact ⟨0, Nat.zero_le _, rfl, hR1, hT1, hP1⟩
                  case round =>
                    clear hR1 hT1 hP1
                    obtain ⟨j, hj4, rfl, hR, hT, hP⟩ := hrel
                    by_cases hlt7 : j < 4
                    · have hN0 : 0 ≤ N / 2 ^ (8 * j) := Int.ediv_nonneg hXl.1 (Int.le_of_lt (Int.pow_pos (by decide)))
                      have hN1 : N / 2 ^ (8 * j) < 4294967296 := Int.lt_of_le_of_lt (Int.ediv_le_self _ hXl.1) hXl.2
                      have hcell := hP.cell (4 * i + j) (by rw [preB_length]; omega)
                      have hfro := hP.froz8 (4 * i + j)
                      have ho := OnlyAt.setCell' gb (4 * i + j) wr (.int .u8 (kb xs (4 * i + j)))
                      have hP' := hP.put8 (4 * i + j) (kb xs (4 * i + j))
                      rw [preB_set xs (4 * i + j) (by omega)] at hP'
                      have hR' := hR.only ho (by omega) (by omega) (by omega) (by omega) (by omega)
                      have hT' : ArrU 49 (wr.setCell ⟨gb, 4 * i + j, none⟩ (.int .u8 (kb xs (4 * i + j)))) gw ys := hT.other (ho.block _ (by omega))
                      have HKj := HK j hlt7
                      rw [← HKj.out] at hP' hR' hT'
                      clear hP hR hT ho
                      generalize (preB xs (4 * i + j)).getD (4 * i + j) 0 = Z at *
                      go_wp2_with fail
                      go_roundw
                      case rel => exact ⟨j + 1, by omega, by go_num, hR', hT', hP'⟩
                      case measure => simp [intOf]; omega
                    · obtain rfl : j = 4 := by omega
                      go_wp2_with fail
                      go_roundw
                      case rel => exact ⟨i + 1, by omega, by go_num, hR, hT, hP⟩
                      case measure => simp [intOf]; omega
                · obtain rfl : i = 16 := by omega
                  rw [show 4 * 16 = 64 from rfl, preB_all] at hP
                  have hz := hR.oo
                  go_wp2_with (first
                    | (refine wpList_loadA arrT64 (by rfl) _ (by rfl) gb (by rfl) (bV (blkL xs)) hP (by rw [bV_size, blkL_length]) ?_)
                    | (refine wpList_putA arrT64 (by rfl) _ _ (by rfl) (w.heap.size + 2) (bV (blkL xs)) (by rfl) (by rfl) _ hz (by rw [bV_size, blkL_length]) (bV_size _) (bV_one _) ?_))
                  refine bodyPost_ret (results_cell_row rfl _ _ _ _ _ _ _ rfl (setRow_heap _ _ _ _ _ _ hz) Tryd.underlying44 rfl (by rw [bV_size, blkL_length, info_b64])) rfl ?_
                  exact ⟨by rw [HX.out], Below.setRow hR.bel (by omega) _⟩
#print axioms rblock_any
end Go.Proofs.YthhaeiafgloacaaDoor
