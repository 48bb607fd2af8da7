/- What a call of dumbwaiterref1.Xor does: for every key, nonce, counter and every slice of at most 100000 bytes that can be read; nothing that was there is turned. -/
import Derived.Test.YthhaeiafgloacaaDoorCRef
import Derived.Test.YthhaeiafgloacaaDoorCKN
import Derived.Test.YthhaeiafgloacaaDoorAppend
import Derived.RegionTactic
import Derived.ChangeAlike
import Derived.BigRegion
namespace Go.Proofs.YthhaeiafgloacaaDoor
open Go.RowKit

theorem rblock_at (key nonce : List Int) (c : BitVec 32) (K M : Array Value) (ci : Int) (w : World) (hK : K = bV key) (hM : M = bV nonce) (hc : ci = (c.toNat : Int)) (hk : IsBytes key) (hkl : key.length = 32) (hn : IsBytes nonce) (hnl : nonce.length = 12) :
    Calls Tryd.prog 28 #[.agg K, .agg M, .int .u32 ci] w fun e w' => e = .returned (.agg (bV (blkL (stW key nonce c)))) ∧ Below w.heap.size w w' := by
  subst hK hM hc
  exact rblock_any key nonce c w hk hkl hn hnl

/-- A row of which the first k bytes are sealed. -/
def mixL (key nonce : List Int) (c : BitVec 32) (zs : List Int) (k : Nat) : List Int := rowL (fun i => if i < k then xr (zs.getD i 0) (ks key nonce c i) else zs.getD i 0) zs.length
theorem mixL_length (key nonce : List Int) (c : BitVec 32) (zs : List Int) (k : Nat) : (mixL key nonce c zs k).length = zs.length := rowL_length _ _
theorem mixL_zero (key nonce : List Int) (c : BitVec 32) (zs : List Int) : mixL key nonce c zs 0 = zs := (rowL_of zs _ _ rfl fun i _ => by simp).symm
theorem mixL_all (key nonce : List Int) (c : BitVec 32) (zs : List Int) (k : Nat) (hk : zs.length ≤ k) : mixL key nonce c zs k = xorL key nonce c zs := rowL_congr fun i hi => by simp [show i < k by omega]
theorem mixL_getD (key nonce : List Int) (c : BitVec 32) (zs : List Int) (k : Nat) (hk : k < zs.length) : (mixL key nonce c zs k).getD k 0 = zs.getD k 0 := by
  rw [mixL, rowL_getD _ _ _ hk, if_neg (by omega)]
theorem mixL_set (key nonce : List Int) (c : BitVec 32) (zs : List Int) (k : Nat) (hk : k < zs.length) : (mixL key nonce c zs k).set k (xr (zs.getD k 0) (ks key nonce c k)) = mixL key nonce c zs (k + 1) := by
  refine rowL_of _ _ _ (by simp [mixL_length]) fun i hi => ?_
  by_cases e : i = k
  · subst e
    simp [List.getD, mixL_length, hk]
  · have : ((mixL key nonce c zs k).set k (xr (zs.getD k 0) (ks key nonce c k))).getD i 0 = (mixL key nonce c zs k).getD i 0 := by simp [List.getD, Ne.symm e]
    rw [this, mixL, rowL_getD _ _ _ hi]
    by_cases h : i < k
    · rw [if_pos h, if_pos (by omega)]
    · rw [if_neg h, if_neg (by omega)]

theorem OwnS.below {E : TypeId} {base : Nat} {w w' : World} {a : Option Addr} {n cap : Nat} {xs : List Int} (h : OwnS E base w a n cap xs) (hb : Below w.heap.size w w') : OwnS E base w' a n cap xs := by
  obtain ⟨h0, hl, h1, h2⟩ := h
  refine ⟨h0, hl, h1, ?_⟩
  rcases h2 with h3 | ⟨g, c, cur, h3, h4, h5, h6⟩
  · exact .inl h3
  · exact .inr ⟨g, c, cur, h3, h4, (hb.block g (Array.getElem?_eq_some_iff.1 h5).1).trans h5, h6⟩
theorem OwnS.other {E : TypeId} {base g : Nat} {w w' : World} {b : Nat} {n cap : Nat} {xs : List Int} (h : OwnS E base w (some ⟨b, 0, none⟩) n cap xs) (ho : OnlyAt g w w') (hne : b ≠ g) : OwnS E base w' (some ⟨b, 0, none⟩) n cap xs := by
  obtain ⟨h0, hl, h1, h2⟩ := h
  refine ⟨h0, hl, h1, ?_⟩
  rcases h2 with h3 | ⟨g', c, cur, h3, h4, h5, h6⟩
  · exact .inl h3
  · have e : b = g' := by
      have h7 := h3
      simp at h7
      exact h7.1
    subst e
    exact .inr ⟨b, c, cur, h3, h4, (ho.block b hne).trans h5, h6⟩

theorem rxor_no (key nonce : List Int) (c : BitVec 32) {a : Option Addr} {len cap : Nat} (w : World) (hl : len ≤ 100000) (hf : fits c len = false) :
    Calls Tryd.prog 16 #[.agg (bV key), .agg (bV nonce), .int .u32 (c.toNat : Int), .slice a len cap] w fun e w' => e = .returned (.tuple #[.slice none 0 0, .bool false]) ∧ Below w.heap.size w w' := by
  have hc := u32_lt c
  have hf' : ¬ len ≤ 64 * (4294967296 - c.toNat) := by simpa [fits] using hf
  have hlt : (4294967296 : Int) - (c.toNat : Int) < ((len : Int) + 63) / 64 := by omega
  clear hf hf'
  go_enter Tryd.func16, Tryd.ntmps16
  go_wp2_with fail
  go_ret2
  exact ⟨rfl, below_alloc (below_alloc (Below.refl _ _) _) _⟩

set_option maxRecDepth 100000 in
set_option maxHeartbeats 4000000 in
theorem rxor_ok (key nonce : List Int) (c : BitVec 32) {a : Option Addr} {len cap : Nat} {zs : List Int} (w : World) (hk : IsBytes key) (hkl : key.length = 32) (hn : IsBytes nonce) (hnl : nonce.length = 12) (hb : Bs w a len cap zs) (hl : len ≤ 100000) (hf : fits c len = true) (hg : Glob w) :
    Calls Tryd.prog 16 #[.agg (bV key), .agg (bV nonce), .int .u32 (c.toNat : Int), .slice a len cap] w fun e w' => ∃ b cap', e = .returned (.tuple #[.slice b len cap', .bool true]) ∧ Bs w' b len cap' (xorL key nonce c zs) ∧ Below w.heap.size w w' := by
  have hc := u32_lt c
  have hf' : len ≤ 64 * (4294967296 - c.toNat) := by simpa [fits] using hf
  have hge : ((len : Int) + 63) / 64 ≤ (4294967296 : Int) - (c.toNat : Int) := by omega
  clear hf hf'
  have hz := hb.length
  have hS := KN.start w key nonce hg
  obtain ⟨W0, hW0⟩ : ∃ W0, ((w.alloc (Obj.cells (bV key) 22)).alloc (Obj.cells (bV nonce) 35)) = W0 := ⟨_, rfl⟩
  have hs0 : W0.heap.size = w.heap.size + 2 := by rw [← hW0, size_alloc, size_alloc]
  rw [hW0] at hS
  obtain ⟨a4, c4, w4, hr4, ho4, hg4, _⟩ := run_append_bytes (P := Tryd.prog) Tryd.underlying25 Tryd.info_u8 25 W0.heap.size (W0.alloc (Obj.cells #[] 5)) (some ⟨W0.heap.size, 0, none⟩) 0 0 [] (OwnB.owns (E := 5) (heap_alloc_new W0 (Obj.cells #[] 5)) IsBytes.nil rfl (by omega) (Nat.le_refl _)) _ len cap _ (hb.below (below_alloc hS.bel _)) (by omega) (by simp)
  have hb4 : Below W0.heap.size W0 w4 := ((Below.refl _ _).alloc (Nat.le_refl _) _).grown hg4 (by simp) (by intro k hk; simp [Value.ownBlock] at hk; omega)
  rw [List.nil_append, Nat.zero_add] at ho4
  rw [Nat.zero_add] at hr4
  have hS4 := hS.later hb4
  rw [hs0] at ho4 hr4
  rw [← hW0] at hr4
  clear hg4 hb4 hS hs0 hW0
  go_enter Tryd.func16, Tryd.ntmps16
  go_wp2_with (at_builtin; refine wpList_append_run (by rfl) (.tmp 22) (.tmp 23) 25 (by rfl) _ _ _ _ (by rfl) (by rfl) hr4 ?_)
  clear hr4
  rw [← mixL_zero key nonce c zs] at ho4
  go_loopw [11] (fun v wr => ∃ q m : Nat, v = .int .i64 q ∧ q = 64 * m ∧ q < len + 64 ∧ KN w wr key nonce ∧ OwnS 5 (w.heap.size + 2) wr a4 len c4 (mixL key nonce c zs q)) (fun v _ => len + 64 - (intOf v).toNat)
  case atStart => exact ⟨0, 0, rfl, rfl, by omega, hS4, ho4⟩
  case round =>
    clear ho4 hS4
    obtain ⟨q, m, rfl, hq, hql, hS, hO⟩ := hrel
    have HQ : Hid (q = 64 * m) := hq
    clear hq
    by_cases hlt : q < len
    · have kk := hS.kk
      have nn := hS.nn
      have hd : (q : Int) / 64 = (m : Int) := by have := HQ.out; omega
      have hm : (m : Int) < 4294967296 := by have := HQ.out; omega
      obtain ⟨c', hc'⟩ : ∃ c', c + BitVec.ofNat 32 m = c' := ⟨_, rfl⟩
      have HW : Hid ((c.toNat : Int) + (m : Int) = (c'.toNat : Int)) := by
        show _ = _
        have := HQ.out
        rw [← hc', ← u32_add_bv, IntKind.wrap_u32', BitVec.toNat_ofNat, Nat.mod_eq_of_lt (show m < 2 ^ 32 by omega)]
        omega
      have HC : Hid (c + BitVec.ofNat 32 m = c') := hc'
      clear hc'
      go_wp2_with (first
        | (refine wpList_loadA arrT32 (by rfl) _ (by rfl) w.heap.size (by rfl) (bV key) kk (by rw [bV_size, hkl]) ?_)
        | (refine wpList_loadA arrT12 (by rfl) _ (by rfl) (w.heap.size + 1) (by rfl) (bV nonce) nn (by rw [bV_size, hnl]) ?_))
      refine (rblock_at key nonce c' _ _ _ wr rfl rfl HW.out hk hkl hn hnl).mono ?_
      rintro e w3 ⟨rfl, hb3⟩
      have hS3 := hS.later hb3
      have hO3 := hO.below hb3
      clear hS hO hb3 kk nn hd
      obtain ⟨g, rfl, hbg, hgl⟩ := hO3.form (by omega)
      have HKS : ∀ j, j < 64 → Hid ((blkL (stW key nonce c')).getD j 0 = ks key nonce c (q + j)) := fun j hj => by
        show _ = _
        have e := HQ.out
        rw [blkL, rowL_getD _ _ _ hj, ks, show (q + j) / 64 = m by omega, show (q + j) % 64 = j by omega, HC.out]
      have hbb := blkL_bytes (stW key nonce c')
      have hbl := blkL_length (stW key nonce c')
      generalize blkL (stW key nonce c') = blk at *
      have n4 := heap_alloc_new w3 (Obj.cells (bV (zL 64)) 44)
      have hlw := hS3.lt
      have ho4 := OnlyAt.setRow w3.heap.size (w3.alloc (Obj.cells (bV (zL 64)) 44)) (bV blk)
      have hS4 := (hS3.alloc (Obj.cells (bV (zL 64)) 44)).only ho4 hlw
      have hO4 := (hO3.alloc (Obj.cells (bV (zL 64)) 44)).other ho4 (by omega)
      have hB4 : OwnB 44 ((w3.alloc (Obj.cells (bV (zL 64)) 44)).setRow w3.heap.size (bV blk)) w3.heap.size blk := setRow_heap _ _ _ _ _ _ n4
      go_wp2_with (first
        | (refine wpList_newA (by rfl) 44 (by rfl) _ zero64 w3.heap.size rfl ?_)
        | (refine wpList_putA arrT64 (by rfl) _ _ (by rfl) w3.heap.size (bV blk) (by rfl) (by rfl) _ n4 (by rw [bV_size, hbl]) (bV_size _) (bV_one _) ?_))
      generalize ((w3.alloc (Obj.cells (bV (zL 64)) 44)).setRow w3.heap.size (bV blk)) = W4 at *
      generalize w3.heap.size = gb at *
      clear hS3 hO3 n4 ho4
      go_loopw [13] (fun v wr => ∃ k : Nat, v = .int .i64 k ∧ k ≤ 64 ∧ q + k ≤ len ∧ KN w wr key nonce ∧ OwnS 5 (w.heap.size + 2) wr (some ⟨g, 0, none⟩) len c4 (mixL key nonce c zs (q + k)) ∧ OwnB 44 wr gb blk) (fun v _ => 64 - (intOf v).toNat)
      case atStart => exact ⟨0, rfl, Nat.zero_le _, by omega, hS4, hO4, hB4⟩
      case round =>
        clear hS4 hO4 hB4
        obtain ⟨k, rfl, hk64, hqk, hS, hO, hB⟩ := hrel
        by_cases hgo : k < 64 ∧ q + k < len
        · obtain ⟨hk1, hk2⟩ := hgo
          have f1 := hO.cell (q + k) hk2
          rw [mixL_getD _ _ _ _ _ (by omega)] at f1
          have z1 := hO.frozen (q + k)
          have f2 := hB.cell k (by omega)
          have bz := hb.bytes.getD (q + k)
          have by' := hbb.getD k
          have HK := HKS k hk1
          have hO' := fun x hx => hO.set (q + k) x hx
          obtain ⟨Z, HZ⟩ : ∃ Z, Hid (zs.getD (q + k) 0 = Z) := ⟨_, rfl⟩
          obtain ⟨Y, HY⟩ : ∃ Y, Hid (blk.getD k 0 = Y) := ⟨_, rfl⟩
          rw [HZ.out] at f1 bz
          rw [HY.out] at f2 by'
          have e1 := bits_xr Z Y bz by'
          have bx := xr_lt Z Y bz by'
          have hO2 := hO' (xr Z Y) bx
          have HM : Hid ((mixL key nonce c zs (q + k)).set (q + k) (xr Z Y) = mixL key nonce c zs (q + k + 1)) := by
            show _ = _
            rw [← HZ.out, ← HY.out, HK.out]
            exact mixL_set _ _ _ _ _ (by omega)
          rw [HM.out] at hO2
          clear hO'
          generalize xr Z Y = X at *
          have hki : (k : Int) < 64 := by omega
          have hql2 : (q : Int) + (k : Int) < (len : Int) := by omega
          go_wp2_with fail
          have ho := OnlyAt.setCell' g (q + k) wr (.int .u8 X)
          have hS2 : KN w (wr.setCell ⟨g, q + k, none⟩ (.int .u8 X)).drew key nonce := (hS.only ho (by omega)).drew
          have hB2 : OwnB 44 (wr.setCell ⟨g, q + k, none⟩ (.int .u8 X)).drew gb blk := ho.own hB (by omega)
          have hO3 : OwnS 5 (w.heap.size + 2) (wr.setCell ⟨g, q + k, none⟩ (.int .u8 X)).drew (some ⟨g, 0, none⟩) len c4 (mixL key nonce c zs (q + k + 1)) := hO2
          clear hS hB hO hO2 ho
          go_region
          generalize (wr.setCell ⟨g, q + k, none⟩ (.int .u8 X)).drew = W9 at *
          go_wp2_with fail
          go_roundw
          case rel => exact ⟨k + 1, by go_num, by omega, by omega, hS2, hO3, hB2⟩
          case measure => simp [intOf]; omega
        · have hm2 : mixL key nonce c zs (q + k) = mixL key nonce c zs (q + 64) := by
            by_cases h1 : k < 64
            · rw [mixL_all _ _ _ _ (q + k) (by omega), mixL_all _ _ _ _ (q + 64) (by omega)]
            · rw [show k = 64 by omega]
          rw [hm2] at hO
          clear hm2
          by_cases h1 : k < 64
          · have h2 : ¬ q + k < len := by omega
            have h3 : (len : Int) ≤ (q : Int) + (k : Int) := by omega
            have hkI : (k : Int) < 64 := by omega
            have HQ4 : Hid (q + 64 < len + 64 + 1 ∧ q + 64 < len + 64) := ⟨by omega, by omega⟩
            have h4 : decide ((q : Int) + (k : Int) < (len : Int)) = false := by simp; omega
            have hw : IntKind.i64.wrap ((q : Int) + (k : Int)) = (q : Int) + (k : Int) := by rw [IntKind.wrap_i64]; omega
            clear hgo h2 hqk HKS h3
            go_wp2_with fail
            go_roundw
            case rel => exact ⟨q + 64, m + 1, by go_num, by have := HQ.out; omega, by omega, hS, hO⟩
            case measure => simp [intOf]; omega
          · have hkI : ¬ (k : Int) < 64 := by omega
            clear hgo hqk HKS
            go_wp2_with fail
            go_roundw
            case rel => exact ⟨q + 64, m + 1, by go_num, by have := HQ.out; omega, by omega, hS, hO⟩
            case measure => simp [intOf]; omega
    · rw [mixL_all _ _ _ _ q (by omega)] at hO
      go_wp2_with fail
      go_ret2
      exact ⟨_, _, rfl, hO.bs, hS.bel⟩
#print axioms rxor_ok

theorem rxor_all (key nonce : List Int) (c : BitVec 32) (K M : Array Value) (ci : Int) {a : Option Addr} {len cap : Nat} {zs : List Int} (w : World) (hK : K = bV key) (hM : M = bV nonce) (hc : ci = (c.toNat : Int)) (hk : IsBytes key) (hkl : key.length = 32) (hn : IsBytes nonce) (hnl : nonce.length = 12) (hb : Bs w a len cap zs) (hl : len ≤ 100000) (hg : Glob w) :
    Calls Tryd.prog 16 #[.agg K, .agg M, .int .u32 ci, .slice a len cap] w fun e w' => ∃ b n cap', e = .returned (.tuple #[.slice b n cap', .bool (fits c len)]) ∧ Bs w' b n cap' (xorR key nonce c zs) ∧ Below w.heap.size w w' := by
  have hz := hb.length
  subst hK hM hc
  cases hf : fits c len with
  | true =>
    refine (rxor_ok key nonce c w hk hkl hn hnl hb hl hf hg).mono ?_
    rintro e w' ⟨b, cap', rfl, hO, hb'⟩
    refine ⟨_, _, _, rfl, ?_, hb'⟩
    unfold xorR
    rw [hz, if_pos hf]
    exact hO
  | false =>
    refine (rxor_no key nonce c w hl hf).mono ?_
    rintro e w' ⟨rfl, hb'⟩
    refine ⟨_, _, _, rfl, ?_, hb'⟩
    unfold xorR
    rw [hz, if_neg (by rw [hf]; decide)]
    exact Bs.nil w'
#print axioms rxor_all
end Go.Proofs.YthhaeiafgloacaaDoor
