/- The law SealTells answers true for every key, numbers, texts, sizes, rows, place and byte, wherever quar.rounds reads as its text says; nothing that was there is turned. -/
import Derived.Test.YthhaeiafgloacaaDoorSAwake
import Derived.Test.YthhaeiafgloacaaDoorSRef
namespace Go.Proofs.YthhaeiafgloacaaDoor
open Go.RowKit

/-- Whether there is room. -/
def sealB (n : Nat) (size : Int) : Bool := decide (22 ≤ size ∧ size ≤ 60022 ∧ (n : Int) + 22 ≤ size)
def sealN (n : Nat) (size : Int) : Nat := if sealB n size = true then size.toNat else 0
def sealR (key : List Int) (boot seq : Int) (zs : List Int) (n : Nat) (size : Int) : List Int := if sealB n size = true then sealL key boot seq zs (size.toNat - 22) else []
theorem sealB_yes {n : Nat} {size : Int} (h : 22 ≤ size ∧ size ≤ 60022 ∧ (n : Int) + 22 ≤ size) : sealB n size = true := decide_eq_true h
theorem sealB_no {n : Nat} {size : Int} (h : ¬ (22 ≤ size ∧ size ≤ 60022 ∧ (n : Int) + 22 ≤ size)) : sealB n size = false := decide_eq_false h

theorem seal_all (key : List Int) (boot seq size : Int) {a : Option Addr} {len cap : Nat} {zs : List Int} (w : World) (hk : IsBytes key) (hkl : key.length = 32) (hb : 0 ≤ boot ∧ boot < 4294967296) (hs : 0 ≤ seq ∧ seq < 18446744073709551616)
    (hbs : Bs w a len cap zs) (hsz : -9223372036854775808 ≤ size ∧ size ≤ 9223372036854775807) (hl : len ≤ 9223372036854775807) (hg : Glob w) :
    Calls Tryd.prog 8 #[.agg (bV key), .int .u32 boot, .int .u64 seq, .slice a len cap, .int .i64 size] w fun e w' => ∃ p c, e = .returned (.tuple #[.slice p (sealN len size) c, .bool (sealB len size)]) ∧ Bs w' p (sealN len size) c (sealR key boot seq zs len size) ∧ Below w.heap.size w w' := by
  unfold sealN sealR
  by_cases h : 22 ≤ size ∧ size ≤ 60022 ∧ (len : Int) + 22 ≤ size
  · rw [sealB_yes h, if_pos rfl, if_pos rfl]
    refine (seal_ok key boot seq size (size.toNat - 22) w hk hkl hb hs hbs (by omega) (by omega) (by omega) hg).mono ?_
    rintro e w' ⟨g, c, rfl, hO, hb'⟩
    rw [show size.toNat - 22 + 22 = size.toNat by omega] at hO ⊢
    exact ⟨_, _, rfl, hO.bs, hb'⟩
  · rw [sealB_no h, if_neg (by decide), if_neg (by decide)]
    refine (seal_no (len := len) key boot seq size w hsz hl (by omega)).mono ?_
    rintro e w' ⟨rfl, hb'⟩
    exact ⟨_, _, rfl, Bs.nil _, hb'⟩
theorem rseal_all (key : List Int) (boot seq size : Int) {a : Option Addr} {len cap : Nat} {zs : List Int} (w : World) (hk : IsBytes key) (hkl : key.length = 32) (hb : 0 ≤ boot ∧ boot < 4294967296) (hs : 0 ≤ seq ∧ seq < 18446744073709551616)
    (hbs : Bs w a len cap zs) (hsz : -9223372036854775808 ≤ size ∧ size ≤ 9223372036854775807) (hl : len ≤ 9223372036854775807) (hg : Glob w) :
    Calls Tryd.prog 12 #[.agg (bV key), .int .u32 boot, .int .u64 seq, .slice a len cap, .int .i64 size] w fun e w' => ∃ p c, e = .returned (.tuple #[.slice p (sealN len size) c, .bool (sealB len size)]) ∧ Bs w' p (sealN len size) c (sealR key boot seq zs len size) ∧ Below w.heap.size w w' := by
  unfold sealN sealR
  by_cases h : 22 ≤ size ∧ size ≤ 60022 ∧ (len : Int) + 22 ≤ size
  · rw [sealB_yes h, if_pos rfl, if_pos rfl]
    refine (rseal_ok key boot seq size (size.toNat - 22) w hk hkl hb hs hbs (by omega) (by omega) (by omega) hg).mono ?_
    rintro e w' ⟨g, c, rfl, hO, hb'⟩
    rw [show size.toNat - 22 + 22 = size.toNat by omega] at hO ⊢
    exact ⟨_, _, rfl, hO, hb'⟩
  · rw [sealB_no h, if_neg (by decide), if_neg (by decide)]
    refine (rseal_no (len := len) key boot seq size w hb hs hsz hl (by omega)).mono ?_
    rintro e w' ⟨rfl, hb'⟩
    exact ⟨_, _, rfl, Bs.nil _, hb'⟩

/-- What is opened, none as nothing. -/
def openR (key zs : List Int) : List Int := (openL key zs).getD []
def openB (key zs : List Int) : Bool := (openL key zs).isSome
def openBoot (key zs : List Int) : Int := if openB key zs = true then leNum (zs.take 4) else 0
def openSeq (key zs : List Int) : Int := if openB key zs = true then leNum ((zs.take 12).drop 4) else 0
theorem openR_some {key zs us : List Int} (h : openL key zs = some us) : openR key zs = us ∧ openB key zs = true ∧ openBoot key zs = leNum (zs.take 4) ∧ openSeq key zs = leNum ((zs.take 12).drop 4) := by
  have hB : openB key zs = true := by unfold openB; rw [h]; rfl
  refine ⟨by unfold openR; rw [h]; rfl, hB, by unfold openBoot; rw [if_pos hB], by unfold openSeq; rw [if_pos hB]⟩
theorem openR_none {key zs : List Int} (h : openL key zs = none) : openR key zs = [] ∧ openB key zs = false ∧ openBoot key zs = 0 ∧ openSeq key zs = 0 := by
  have hB : openB key zs = false := by unfold openB; rw [h]; rfl
  refine ⟨by unfold openR; rw [h]; rfl, hB, by unfold openBoot; rw [hB]; rfl, by unfold openSeq; rw [hB]; rfl⟩
theorem unpadL_bytes {zs us : List Int} {m : Int} (hz : IsBytes zs) (h : unpadL zs m = some us) : IsBytes us := by
  unfold unpadL at h
  split at h
  · obtain rfl := Option.some.inj h
    exact (hz.drop 2).take _
  · cases h
theorem openL_bytes {key zs us : List Int} (hz : IsBytes zs) (h : openL key zs = some us) : IsBytes us := by
  unfold openL at h
  split at h
  · cases h
  · split at h
    · exact unpadL_bytes (textL_bytes key zs hz) h
    · cases h
theorem unpadL_short {zs us : List Int} {m : Int} (h : unpadL zs m = some us) : us.length ≤ zs.length := by
  unfold unpadL at h
  split at h
  · obtain rfl := Option.some.inj h
    simp; omega
  · cases h
theorem openL_short {key zs us : List Int} (h : openL key zs = some us) : us.length ≤ zs.length := by
  unfold openL at h
  split at h
  · cases h
  · split at h
    · have := unpadL_short h
      rw [textL_length] at this
      omega
    · cases h
theorem open_all (key : List Int) {a : Option Addr} {len cap : Nat} {zs : List Int} (w : World) (hk : IsBytes key) (hkl : key.length = 32) (hb : Bs w a len cap zs) (hl : len ≤ 90022) (hg : Glob w) :
    Calls Tryd.prog 9 #[.agg (bV key), .slice a len cap] w fun e w' => ∃ p c, e = .returned (.tuple #[.slice p (openR key zs).length c, .int .u32 (openBoot key zs), .int .u64 (openSeq key zs), .bool (openB key zs)]) ∧ Bs w' p (openR key zs).length c (openR key zs) ∧ Below w.heap.size w w' := by
  have hz := hb.length
  refine (open_any key w hk hkl hb hl hg).mono ?_
  rintro e w' ⟨hb', (⟨us, g, ho, rfl, -, hO⟩ | ⟨ho, rfl⟩)⟩
  · obtain ⟨e1, e2, e3, e4⟩ := openR_some ho
    rw [e1, e2, e3, e4]
    exact ⟨_, _, rfl, hO.bs (openL_bytes hb.bytes ho) _ rfl (by have := openL_short ho; omega), hb'⟩
  · obtain ⟨e1, e2, e3, e4⟩ := openR_none ho
    rw [e1, e2, e3, e4]
    exact ⟨_, _, rfl, Bs.nil _, hb'⟩
theorem ropen_all (key : List Int) {a : Option Addr} {len cap : Nat} {zs : List Int} (w : World) (hk : IsBytes key) (hkl : key.length = 32) (hb : Bs w a len cap zs) (hl : len ≤ 90022) (hg : Glob w) :
    Calls Tryd.prog 10 #[.agg (bV key), .slice a len cap] w fun e w' => ∃ p c, e = .returned (.tuple #[.slice p (openR key zs).length c, .int .u32 (openBoot key zs), .int .u64 (openSeq key zs), .bool (openB key zs)]) ∧ Bs w' p (openR key zs).length c (openR key zs) ∧ Below w.heap.size w w' := by
  refine (ropen_any key w hk hkl hb hl hg).mono ?_
  rintro e w' ⟨hb', (⟨us, p, c, ho, rfl, hO⟩ | ⟨ho, rfl⟩)⟩
  · obtain ⟨e1, e2, e3, e4⟩ := openR_some ho
    rw [e1, e2, e3, e4]
    exact ⟨_, _, rfl, hO, hb'⟩
  · obtain ⟨e1, e2, e3, e4⟩ := openR_none ho
    rw [e1, e2, e3, e4]
    exact ⟨_, _, rfl, Bs.nil _, hb'⟩
theorem same_self {a b : Option Addr} {n c m d : Nat} {xs : List Int} (w : World) (hx : Bs w a n c xs) (hy : Bs w b m d xs) :
    Calls Tryd.prog 13 #[.slice a n c, .slice b m d] w fun e w' => e = .returned (.bool true) ∧ w = w' := by
  refine (same_any w hx hy).mono ?_
  rintro e w' ⟨rfl, rfl⟩
  exact ⟨by simp, rfl⟩
theorem run_neq12 (xs : List Int) (hl : xs.length = 12) (w : World) : (binOp BinOp.neq 35 (.agg (bV xs)) (.agg (bV xs))).run Tryd.prog w = .ok (.bool false) w := by
  rw [run_neq_struct, run_same12 xs hl]
  rfl

set_option maxRecDepth 100000 in
set_option maxHeartbeats 4000000 in
theorem sealTells_walk (key : List Int) (boot seq size at_ by_ : Int) (a : Option Addr) (len cap : Nat) (zs : List Int) (a2 : Option Addr) (len2 cap2 : Nat) (ys : List Int) (w : World) (hk : IsBytes key) (hkl : key.length = 32) (hbo : 0 ≤ boot ∧ boot < 4294967296) (hs : 0 ≤ seq ∧ seq < 18446744073709551616) (hsz : -9223372036854775808 ≤ size ∧ size ≤ 9223372036854775807) (hb : Bs w a len cap zs) (hcap : cap ≤ 140737488351232) (hb2 : Bs w a2 len2 cap2 ys) (hcap2 : cap2 ≤ 140737488351232) (hby : 0 ≤ by_ ∧ by_ < 256) (hg : Glob w) :
    Calls Tryd.prog 5 #[.agg (bV key), .int .u32 boot, .int .u64 seq, .slice a len cap, .int .i64 size, .slice a2 len2 cap2, .int .i64 at_, .int .u8 by_] w fun e w' => e = .returned (.bool true) ∧ Below w.heap.size w w' := by
  have hz := hb.length
  have hS := KK.start w key hg
  have hcl := hb.le_cap
  have hcl2 := hb2.le_cap
  have hwl : IntKind.i64.wrap ((len : Int) + (len2 : Int)) = (len : Int) + (len2 : Int) := by rw [IntKind.wrap_i64]; omega
  by_cases hlen : (1500 : Int) < (len : Int) + (len2 : Int)
  · go_enter Tryd.func5, Tryd.ntmps5
    go_wp2_with fail
    generalize (w.alloc (Obj.cells (bV key) 22)) = W0 at *
    refine (awake_any W0 hS.gl).mono ?_
    rintro e w1 ⟨rfl, hb1⟩
    have hS1 := hS.later hb1
    go_wp2_with fail
    go_ret
    exact ⟨rfl, hS1.bel⟩
  have hl1 : len ≤ 1500 := by omega
  have hl2 : len2 ≤ 1500 := by omega
  have hb20 := hb2.below hS.bel
  clear hcap hcap2 hcl hcl2
  obtain ⟨y, hy0⟩ : ∃ y : Int, at_ % 2 ^ 4 = y := ⟨_, rfl⟩
  have hy1 : 0 ≤ y ∧ y < 16 := by omega
  have hy := i64_mask at_ 4 (by decide) 15 (by decide)
  rw [hy0] at hy
  obtain ⟨Y, rfl⟩ := Int.eq_ofNat_of_zero_le hy1.1
  have hY : Y < 16 := by omega
  obtain ⟨i, hi0⟩ : ∃ i : Int, at_ % 2 ^ 16 = i := ⟨_, rfl⟩
  have hi1 : 0 ≤ i ∧ i < 65536 := by omega
  have hi := i64_mask at_ 16 (by decide) 65535 (by decide)
  rw [hi0] at hi
  have hmk := i64_mask size 10 (by decide) 1023 (by decide)
  obtain ⟨z, hz0⟩ : ∃ z : Int, size % 2 ^ 10 = z := ⟨_, rfl⟩
  have hz1 : 0 ≤ z ∧ z < 1024 := by omega
  rw [hz0] at hmk
  clear hz0 hi0 hy0 hy1
  go_enter Tryd.func5, Tryd.ntmps5
  have hE := run_eq12 (headL boot seq) (headL_length _ _)
  have hE2 := run_same12 (headL boot seq) (headL_length _ _)
  have hE3 := run_neq12 (headL boot seq) (headL_length _ _)
  by_cases hbig : 2000 < size
  all_goals (
    go_wp2_with fail
    generalize (w.alloc (Obj.cells (bV key) 22)) = W0 at *
    go_loopw [4, 5, 17] (fun v4 v5 v17 wr => ∃ (sz : Int) (a5 : Option Addr) (n5 c5 : Nat) (rs : List Int) (t : Nat), v4 = .int .i64 sz ∧ v5 = .slice a5 n5 c5 ∧ v17 = .int .i64 t ∧ t ≤ 3 ∧ -9223372036854775808 ≤ sz ∧ sz ≤ 9223372036854775807 ∧ n5 ≤ 2000 ∧ Bs wr a5 n5 c5 rs ∧ KK w wr key) (fun _ _ v17 _ => 3 - (intOf v17).toNat)
    case atStart => exact ⟨_, a2, len2, cap2, ys, 0, rfl, rfl, rfl, by omega, by omega, by omega, by omega, hb20, hS⟩
    case round =>
      clear hS hb20
      obtain ⟨sz, a5, n5, c5, rs, t, rfl, rfl, rfl, ht, hsz1, hsz2, hn5, hR, hS⟩ := hrel
      by_cases hlt : t < 3
      · have kk := hS.kk
        have hbr := hb.below hS.bel
        go_wp2_with (refine wpList_loadA arrT32 (by rfl) _ (by rfl) w.heap.size (by rfl) (bV key) kk (by rw [bV_size, hkl]) ?_)
        refine (seal_all key boot seq sz wr hk hkl hbo hs hbr ⟨hsz1, hsz2⟩ (by omega) hS.gl).mono ?_
        rintro e w1 ⟨p1, c1, rfl, hA1, hb1⟩
        have hS1 := hS.later hb1
        have hR1 := hR.below hb1
        have hbr1 := hbr.below hb1
        have kk1 := hS1.kk
        clear hS hR hbr kk hb1
        go_wp2_with (refine wpList_loadA arrT32 (by rfl) _ (by rfl) w.heap.size (by rfl) (bV key) kk1 (by rw [bV_size, hkl]) ?_)
        refine (rseal_all key boot seq sz w1 hk hkl hbo hs hbr1 ⟨hsz1, hsz2⟩ (by omega) hS1.gl).mono ?_
        rintro e w2 ⟨p2, c2, rfl, hA2, hb2'⟩
        have hS2 := hS1.later hb2'
        have hR2 := hR1.below hb2'
        have hbr2 := hbr1.below hb2'
        have hA1' := hA1.below hb2'
        have kk2 := hS2.kk
        clear hS1 hR1 hbr1 kk1 hb2' hA1
        generalize sealB len sz = B1 at *
        generalize sealN len sz = N1 at *
        generalize sealR key boot seq zs len sz = R1 at *
        go_wp2_with (refine wpList_loadA arrT32 (by rfl) _ (by rfl) w.heap.size (by rfl) (bV key) kk2 (by rw [bV_size, hkl]) ?_)
        refine (open_all key w2 hk hkl hR2 (by omega) hS2.gl).mono ?_
        rintro e w3 ⟨p3, c3, rfl, hO3, hb3⟩
        have hS3 := hS2.later hb3
        have hR3 := hR2.below hb3
        have hbr3 := hbr2.below hb3
        have hA3 := hA1'.below hb3
        have hC3 := hA2.below hb3
        have kk3 := hS3.kk
        clear hS2 hR2 hbr2 kk2 hb3 hA1' hA2
        go_wp2_with (refine wpList_loadA arrT32 (by rfl) _ (by rfl) w.heap.size (by rfl) (bV key) kk3 (by rw [bV_size, hkl]) ?_)
        refine (ropen_all key w3 hk hkl hR3 (by omega) hS3.gl).mono ?_
        rintro e w4 ⟨p4, c4, rfl, hO4, hb4⟩
        have hS4 := hS3.later hb4
        have hbr4 := hbr3.below hb4
        have hA4 := hA3.below hb4
        have hC4 := hC3.below hb4
        have hP4 := hO3.below hb4
        clear hS3 hR3 hbr3 kk3 hb4 hA3 hC3 hO3
        generalize openBoot key rs = b1 at *
        generalize openSeq key rs = s1 at *
        generalize openB key rs = B2 at *
        generalize openR key rs = R2 at *
        generalize R2.length = N2 at *
        go_wp2_with fail
        refine (same_self w4 hA4 hC4).mono ?_
        rintro e w4' ⟨rfl, rfl⟩
        go_wp2_with fail
        refine (same_self w4 hP4 hO4).mono ?_
        rintro e w4' ⟨rfl, rfl⟩
        clear hP4 hO4 hA4 hC4
        go_wp2_with fail
        refine (head_any boot seq w4 hbo hs).mono ?_
        rintro e w5 ⟨rfl, hb5⟩
        have hS5 := hS4.later hb5
        have hbr5 := hbr4.below hb5
        clear hS4 hbr4 hb5
        go_wp2_with fail
        refine (rhead_any boot seq w5 hbo hs).mono ?_
        rintro e w6 ⟨rfl, hb6⟩
        have hS6 := hS5.later hb6
        have hbr6 := hbr5.below hb6
        have kk6 := hS6.kk
        clear hS5 hbr5 hb6
        obtain ⟨m, hm⟩ : ∃ m, m = len + Y := ⟨_, rfl⟩
        have hlm : len ≤ m := by omega
        have hm1 : m ≤ 1600 := by omega
        have hw3 : IntKind.i64.wrap ((len : Int) + 22 + (Y : Int)) = (m : Int) + 22 := by rw [IntKind.wrap_i64]; omega
        clear hm
        go_wp2_with (refine wpList_loadA arrT32 (by rfl) _ (by rfl) w.heap.size (by rfl) (bV key) kk6 (by rw [bV_size, hkl]) ?_)
        refine (rseal_ok key boot seq ((m : Int) + 22) m w6 hk hkl hbo hs hbr6 rfl hlm (by omega) hS6.gl).mono ?_
        rintro e w7 ⟨p7, c7, rfl, hA7, hb7⟩
        have hS7 := hS6.later hb7
        clear hS6 hbr6 hb7 hw3 kk6
        obtain ⟨a8, c8, w8, hr8, ho8, hb8⟩ := run_append_fresh w7 p7 (m + 22) c7 _ hA7 (by omega)
        have hS8 := hS7.later hb8
        obtain ⟨g8, rfl, hbg, hgl⟩ := ho8.form (by omega)
        have hgw : w.heap.size < g8 := Nat.lt_of_lt_of_le hS7.lt hbg
        clear hA7 hb8 hS7
        generalize sealL key boot seq zs m = AL at *
        by_cases ht1 : t = 1
        · subst ht1
          obtain ⟨j, hj0⟩ : ∃ j : Nat, i % ((m : Int) + 22) = (j : Int) := ⟨(i % ((m : Int) + 22)).toNat, by have := Int.emod_nonneg i (show ((m : Int) + 22) ≠ 0 by omega); omega⟩
          have hj1 : j < m + 22 := by have := Int.emod_lt_of_pos i (show (0 : Int) < (m : Int) + 22 by omega); omega
          have hjt : Int.tmod i ((m : Int) + 22) = (j : Int) := by rw [Int.tmod_eq_emod_of_nonneg hi1.1]; exact hj0
          have f1 := ho8.cell j hj1
          have z1 := ho8.frozen j
          have bz := ho8.1.getD j
          have hO' := fun x hx => ho8.set j x hx
          generalize AL.getD j 0 = Z at *
          have ex := bits_xr Z by_ bz hby
          have bx := xr_lt Z by_ bz hby
          have hO2 := hO' (xr Z by_) bx
          generalize xr Z by_ = X at *
          have hm0 : ¬ (m : Int) + 22 = 0 := by omega
          have hmp : (0 : Int) < (m : Int) + 22 := by omega
          have hS9 := hS8.only (OnlyAt.setCell g8 j w8 (.int .u8 X)) hgw
          clear hO' hj0
          go_wp2_with (at_builtin; refine wpList_append_run (by rfl) (.tmp 133) (.tmp 134) 25 (by rfl) _ _ _ _ (by rfl) (by rfl) hr8 ?_)
          go_roundw
          case rel => exact ⟨_, _, m + 22, c8, AL.set j X, 2, rfl, rfl, by go_num, by omega, by omega, by omega, by omega, hO2.bs, hS9⟩
          case measure => simp [intOf]
        · have ht1' : ¬ (t : Int) = 1 := by omega
          go_wp2_with (at_builtin; refine wpList_append_run (by rfl) (.tmp 133) (.tmp 134) 25 (by rfl) _ _ _ _ (by rfl) (by rfl) hr8 ?_)
          go_roundw
          case rel => exact ⟨_, _, m + 22, c8, AL, t + 1, rfl, rfl, by go_num, by omega, by omega, by omega, by omega, ho8.bs, hS8⟩
          case measure => simp [intOf]; omega
      · go_wp2_with fail
        refine (awake_any wr hS.gl).mono ?_
        rintro e w1 ⟨rfl, hb1⟩
        have hS1 := hS.later hb1
        go_wp2_with fail
        go_ret
        exact ⟨rfl, hS1.bel⟩)
#print axioms sealTells_walk
end Go.Proofs.YthhaeiafgloacaaDoor
