
/- The law PathTree answers true for all numbers, wherever bits.deBruijn64tab reads as its text says; nothing that was there is turned. -/
import Derived.Test.YtmaknnlccmfmpaaDoorTrAwake
import Derived.Test.YtmaknnlccmfmpaaDoorTrCut
namespace Go.Proofs.YtmaknnlccmfmpaaDoor
open Go.RowKit
set_option maxRecDepth 20000

/-- What PathTree asks of the two ways x and y of a tree of k levels, and of the level m where they part. -/
structure TreeP (k p x y m : Nat) (us vs : Nat → Int) : Prop where
  root : us 0 = 0
  leaf : us k = (p : Int) - 1 + (x : Int)
  same : ∀ j, j ≤ k → (us j = vs j ↔ j ≤ m)
  le : m ≤ k
  full : m = k ↔ x = y
  up : ∀ j, j + 1 ≤ k → (us (j + 1) - 1).tdiv 2 = us j
  low : ∀ j, j ≤ k → 0 ≤ us j ∧ us j < 2 * (p : Int) - 1 ∧ us j ≤ 131070
  pos : ∀ j, j + 1 ≤ k → 1 ≤ us (j + 1)
theorem treeP (k x y : Nat) (hk : k ≤ 16) (hx : x < 2 ^ k) (hy : y < 2 ^ k) : ∃ m : Nat, meetN ((2 ^ k : Nat) : Int) (x : Int) (y : Int) = (m : Int) ∧ meetN ((2 ^ k : Nat) : Int) (y : Int) (x : Int) = (m : Int) ∧ TreeP k (2 ^ k) x y m (fun j => ((bkt k x j : Nat) : Int)) (fun j => ((bkt k y j : Nat) : Int)) := by
  have hl := lvs_pow k hk
  have hd := dep_pow k hk
  have ha : hasL ((2 ^ k : Nat) : Int) (x : Int) = true := (hasL_iff _ _).2 ⟨hl, by omega, by omega⟩
  have hb : hasL ((2 ^ k : Nat) : Int) (y : Int) = true := (hasL_iff _ _).2 ⟨hl, by omega, by omega⟩
  have hX := xor_lt hx hy
  have hz := bl_zero x y
  have e1 : meetN ((2 ^ k : Nat) : Int) (x : Int) (y : Int) = ((k - bl (x ^^^ y) : Nat) : Int) := by
    unfold meetN
    rw [ha, hb, if_pos (by rfl), hd, Int.toNat_natCast, Int.toNat_natCast]
    omega
  have e2 : meetN ((2 ^ k : Nat) : Int) (y : Int) (x : Int) = ((k - bl (x ^^^ y) : Nat) : Int) := by
    unfold meetN
    rw [ha, hb, if_pos (by rfl), hd, Int.toNat_natCast, Int.toNat_natCast, Nat.xor_comm]
    omega
  have hp := pow16 hk
  refine ⟨_, e1, e2, ⟨?_, ?_, fun j hj => ?_, by omega, by omega, fun j hj => bkt_up hj, fun j hj => ?_, fun j hj => ?_⟩⟩
  · show ((bkt k x 0 : Nat) : Int) = 0
    rw [bkt_root k x hx]; rfl
  · show ((bkt k x k : Nat) : Int) = _
    rw [bkt_leaf]
    omega
  · show ((bkt k x j : Nat) : Int) = ((bkt k y j : Nat) : Int) ↔ _
    have := bkt_same (a := x) (b := y) hj
    omega
  · have h1 := bkt_le hj hx
    have h2 := bkt_small hk hj hx
    have h3 : 2 ^ j ≤ 2 ^ k := Nat.pow_le_pow_right (by decide) hj
    have h4 : 0 < 2 ^ j := Nat.pow_pos (by decide)
    show 0 ≤ ((bkt k x j : Nat) : Int) ∧ ((bkt k x j : Nat) : Int) < _ ∧ ((bkt k x j : Nat) : Int) ≤ _
    omega
  · have h1 := bkt_le hj hx
    have h3 : 2 ≤ 2 ^ (j + 1) := by
      rw [Nat.pow_succ]
      have h4 : 0 < 2 ^ j := Nat.pow_pos (by decide)
      omega
    show 1 ≤ ((bkt k x (j + 1) : Nat) : Int)
    omega

/-- What calls of package path answer of these two. -/
structure TreeC (k p x y m : Nat) (us vs : Nat → Int) : Prop where
  at_ : ∀ (j : Nat) w, j ≤ k → Tab w → Calls Tryd.prog 7 #[.int .i64 (p : Int), .int .i64 (x : Int), .int .i64 (j : Int)] w fun e w' => e = .returned (.tuple #[.int .i64 (us j), .bool true]) ∧ w = w'
  bk : ∀ w, Calls Tryd.prog 14 #[.int .i64 (p : Int)] w fun e w' => e = .returned (.int .i64 (2 * (p : Int) - 1)) ∧ w = w'
  onx : ∀ w, Tab w → Calls Tryd.prog 11 #[.int .i64 (p : Int), .int .i64 (x : Int)] w fun e w' => ∃ b off cap, e = .returned (.slice (some ⟨b, off, none⟩) (k + 1) cap) ∧ (∀ j, j ≤ k → w'.cell? ⟨b, off + j, none⟩ = some (.int .i64 (us j))) ∧ k + 1 ≤ cap ∧ cap ≤ 9223372036854775807 ∧ Below w.heap.size w w'
  ony : ∀ w, Tab w → Calls Tryd.prog 11 #[.int .i64 (p : Int), .int .i64 (y : Int)] w fun e w' => ∃ b off cap, e = .returned (.slice (some ⟨b, off, none⟩) (k + 1) cap) ∧ (∀ j, j ≤ k → w'.cell? ⟨b, off + j, none⟩ = some (.int .i64 (vs j))) ∧ k + 1 ≤ cap ∧ cap ≤ 9223372036854775807 ∧ Below w.heap.size w w'
  meet : ∀ w, Tab w → Calls Tryd.prog 8 #[.int .i64 (p : Int), .int .i64 (x : Int), .int .i64 (y : Int)] w fun e w' => e = .returned (.int .i64 (m : Int)) ∧ w = w'
  back : ∀ w, Tab w → Calls Tryd.prog 8 #[.int .i64 (p : Int), .int .i64 (y : Int), .int .i64 (x : Int)] w fun e w' => e = .returned (.int .i64 (m : Int)) ∧ w = w'
theorem on_row {k x : Nat} (hk : k ≤ 16) (hx : x < 2 ^ k) (w : World) (hg : Tab w) : Calls Tryd.prog 11 #[.int .i64 ((2 ^ k : Nat) : Int), .int .i64 (x : Int)] w fun e w' => ∃ b off cap, e = .returned (.slice (some ⟨b, off, none⟩) (k + 1) cap) ∧ (∀ j, j ≤ k → w'.cell? ⟨b, off + j, none⟩ = some (.int .i64 ((bkt k x j : Nat) : Int))) ∧ k + 1 ≤ cap ∧ cap ≤ 9223372036854775807 ∧ Below w.heap.size w w' := by
  have hp := pow16 hk
  have hd := dep_pow k hk
  have ha : hasL ((2 ^ k : Nat) : Int) (x : Int) = true := (hasL_iff _ _).2 ⟨lvs_pow k hk, by omega, by omega⟩
  refine (on_any ((2 ^ k : Nat) : Int) (x : Int) w (by omega) hg).mono ?_
  rintro e w' ⟨a, len, cap, rfl, hz, hb⟩
  have hl := hz.length
  rw [wayL_length, if_pos ha, hd] at hl
  subst hl
  have h1 := hz.le_cap
  have h2 := hz.cap_le
  obtain ⟨b, off, rfl, _, hc⟩ := hz.spot (by omega)
  refine ⟨b, off, cap, rfl, fun j hj => ?_, h1, h2, hb⟩
  rw [hc j (by omega), wayL_getD ha j (by omega), hd, Int.toNat_natCast]
theorem treeC (k p x y : Nat) (hp : 2 ^ k = p) (hk : k ≤ 16) (hx : x < p) (hy : y < p) : ∃ (m : Nat) (us vs : Nat → Int), TreeP k p x y m us vs ∧ TreeC k p x y m us vs := by
  subst hp
  obtain ⟨m, hm1, hm2, hT⟩ := treeP k x y hk hx hy
  have hp := pow16 hk
  have hd := dep_pow k hk
  have hl := lvs_pow k hk
  have ha : hasL ((2 ^ k : Nat) : Int) (x : Int) = true := (hasL_iff _ _).2 ⟨hl, by omega, by omega⟩
  refine ⟨m, _, _, hT, ⟨fun j w hj hg => ?_, fun w => ?_, fun w hg => on_row hk hx w hg, fun w hg => on_row hk hy w hg, fun w hg => ?_, fun w hg => ?_⟩⟩
  · have h := at_any ((2 ^ k : Nat) : Int) (x : Int) (j : Int) w (by omega) hg
    have hB : atB ((2 ^ k : Nat) : Int) (x : Int) (j : Int) = true := by
      unfold atB
      rw [ha, hd, decide_eq_true (show (0 : Int) ≤ (j : Int) by omega), decide_eq_true (show (j : Int) ≤ (k : Int) by omega)]
      rfl
    have hN : atN ((2 ^ k : Nat) : Int) (x : Int) (j : Int) = ((bkt k x j : Nat) : Int) := by
      unfold atN
      rw [if_pos hB, hd, Int.toNat_natCast, Int.toNat_natCast]
    rwa [hB, hN] at h
  · have h := buckets_any ((2 ^ k : Nat) : Int) w (by omega)
    unfold cntB at h
    rwa [if_pos hl] at h
  · have h := meet_any ((2 ^ k : Nat) : Int) (x : Int) (y : Int) w (by omega) hg
    rwa [hm1] at h
  · have h := meet_any ((2 ^ k : Nat) : Int) (y : Int) (x : Int) w (by omega) hg
    rwa [hm2] at h
theorem round_facts (i j k p : Nat) (u t : Int) (hji : (j : Int) - 1 = (i : Int)) (hjk : j ≤ k) (hk : k ≤ 12) (hp : 1 ≤ p ∧ p ≤ 4096) (hlow : 0 ≤ u ∧ u < 2 * (p : Int) - 1 ∧ u ≤ 131070) (hpos : 1 ≤ u) (hlt : 0 ≤ t ∧ t ≤ 131070) :
    ¬ (2 * (p : Int) - 1 ≤ u) ∧ ¬ u < 0 ∧ (j : Int) < (k : Int) + 1 ∧ (i : Int) < (k : Int) + 1 ∧ wrap64 (u - 1) = u - 1 ∧ IntKind.i64.wrap (u - 1) = u - 1 ∧ (0 : Int) < (j : Int) ∧ 0 < j ∧ wrap64 (i : Int) = (i : Int) ∧ IntKind.i64.wrap (i : Int) = (i : Int) ∧ IntKind.i64.wrap t = t ∧ wrap64 t = t ∧
    wrap64 (2 * (p : Int)) = 2 * (p : Int) ∧ wrap64 (2 * (p : Int) - 1) = 2 * (p : Int) - 1 ∧ IntKind.i64.wrap (2 * (p : Int)) = 2 * (p : Int) ∧ IntKind.i64.wrap (2 * (p : Int) - 1) = 2 * (p : Int) - 1 :=
  ⟨by omega, by omega, by omega, by omega, wrap64_in _ (by omega), wrap_i64_in _ (by omega), by omega, by omega, wrap64_in _ (by omega), wrap_i64_in _ (by omega), wrap_i64_in _ (by omega), wrap64_in _ (by omega), wrap64_in _ (by omega), wrap64_in _ (by omega), wrap_i64_in _ (by omega), wrap_i64_in _ (by omega)⟩

set_option maxRecDepth 100000 in
set_option maxHeartbeats 16000000 in
theorem pathTree_walk (b0 a0 c0 : Int) (w : World) (hg : Tab w) :
    Calls Tryd.prog 6 #[.int .i64 b0, .int .i64 a0, .int .i64 c0] w fun e w' => e = .returned (.bool true) ∧ Below w.heap.size w w' := by
  have hlt := hg.lt
  have e1 := i64_and255 b0
  obtain ⟨k, hk⟩ : ∃ k : Nat, b0 % 256 % 13 = (k : Int) := ⟨(b0 % 256 % 13).toNat, by omega⟩
  have hk12 : k ≤ 12 := by omega
  have hp : 1 ≤ 2 ^ k ∧ 2 ^ k ≤ 4096 := ⟨Nat.pow_pos (by decide), Nat.pow_le_pow_right (n := 2) (by decide) hk12⟩
  have hpw := wrap_pow k (by omega)
  have hu : IntKind.u64.wrap (k : Int) = (k : Int) := by rw [wrap_u64]; omega
  obtain ⟨p, hpe⟩ : ∃ p : Nat, 2 ^ k = p := ⟨_, rfl⟩
  rw [hpe] at hp hpw
  obtain ⟨x, hx, hxp⟩ := cut_pow a0 k p hpe (by omega)
  obtain ⟨y, hy, hyp⟩ := cut_pow c0 k p hpe (by omega)
  obtain ⟨m, us, vs, T, C⟩ := treeC k p x y hpe (by omega) hxp hyp
  clear hpe
  have hme := T.le
  go_enter Tryd.func6, Tryd.ntmps6
  go_wp2_with fail
  try simp only [hk, hpw]
  clear e1 hk hu hpw hx hy
  refine (C.onx w hg).mono ?_
  rintro e w1 ⟨bx, ox, cx, rfl, hX, hcx, hcx2, b1⟩
  have hg1 := hg.below b1 hlt
  go_wp2_with fail
  refine (C.ony w1 hg1).mono ?_
  rintro e w2 ⟨by_, oy, cy, rfl, hY, hcy, hcy2, b2⟩
  have hX2 : ∀ j, j ≤ k → w2.cell? ⟨bx, ox + j, none⟩ = some (.int .i64 (us j)) := fun j hj => by
    rw [b2.cell (World.block_lt_of_cell? w1 _ (hX j hj))]
    exact hX j hj
  have B := b1.trans (b2.mono b1.size)
  have hg2 := hg.below B hlt
  have x0 : w2.cell? ⟨bx, ox, none⟩ = some (.int .i64 0) := by
    have := hX2 0 (by omega)
    rwa [T.root, Nat.add_zero] at this
  have HX := hide hX2
  have HY := hide hY
  clear hX hX2 hY b1 b2 hg1
  go_wp2_with fail
  refine (C.meet w2 hg2).mono ?_
  rintro e w3 ⟨rfl, rfl⟩
  go_wp2_with fail
  refine (C.bk w2).mono ?_
  rintro e w3 ⟨rfl, rfl⟩
  go_wp2_with fail
  go_loopw [11] (fun i wr => ∃ j : Nat, j ≤ k + 1 ∧ i = .int .i64 (j : Int) ∧ Below w2.heap.size w2 wr) (fun i _ => k + 1 - (intOf i).toNat)
  case atStart => exact ⟨0, Nat.zero_le _, rfl, Below.refl _ _⟩
  case round =>
    obtain ⟨j, hj, rfl, hB⟩ := hrel
    have hgr := hg2.below hB hg2.lt
    by_cases hjk : j ≤ k
    · have cx1 := HX.out j hjk
      have cy1 := HY.out j hjk
      have dx := (hB.cell (p := ⟨bx, ox + j, none⟩) (World.block_lt_of_cell? w2 _ cx1)).trans cx1
      have dy := (hB.cell (p := ⟨by_, oy + j, none⟩) (World.block_lt_of_cell? w2 _ cy1)).trans cy1
      have lx := World.block_lt_of_cell? wr _ dx
      have ly := World.block_lt_of_cell? wr _ dy
      clear cx1 cy1 x0
      have hlow := T.low j hjk
      have hsm := T.same j hjk
      by_cases h0 : j = 0
      · subst h0
        have hu0 := T.root
        have hC00 := C.at_ 0 wr hjk hgr
        have hs0 : vs 0 = 0 := by
          have := (T.same 0 (by omega)).2 (by omega)
          omega
        generalize us 0 = u at *
        generalize vs 0 = v at *
        subst hu0
        subst hs0
        rw [Nat.add_zero] at dx dy
        have hC0 : Calls Tryd.prog 7 #[.int .i64 (p : Int), .int .i64 (x : Int), .int .i64 0] wr fun e w' => e = .returned (.tuple #[.int .i64 0, .bool true]) ∧ wr = w' := hC00
        clear hsm hlow hC00 hj hjk
        go_wp2_with fail
        refine hC0.mono ?_
        rintro e w4 ⟨rfl, rfl⟩
        go_wp2_with fail
        refine wp_region_rel Kept (0 :: 1 :: 2 :: 3 :: 4 :: 5 :: 6 :: 7 :: 8 :: 9 :: 10 :: 11 :: 12 :: 13 :: 14 :: 15 :: 16 :: 17 :: 18 :: 19 :: 20 :: 21 :: 22 :: 23 :: 24 :: 25 :: 26 :: 27 :: 28 :: 29 :: 30 :: 31 :: 32 :: 33 :: 34 :: 35 :: 36 :: 37 :: 38 :: 39 :: 40 :: 41 :: 42 :: 43 :: 44 :: 45 :: 46 :: 47 :: 48 :: 49 :: 50 :: 51 :: 52 :: 53 :: []) (by kernel_rfl) (by kernel_rfl) (by kernel_rfl) Kept.refl Kept.trans ?_
        replace hB := hB.drew
        have DX := hide (show wr.drew.cell? ⟨bx, ox, none⟩ = some (.int .i64 0) from dx)
        have DY := hide (show wr.drew.cell? ⟨by_, oy, none⟩ = some (.int .i64 0) from dy)
        replace lx : bx < wr.drew.heap.size := lx
        replace ly : by_ < wr.drew.heap.size := ly
        clear dx dy
        generalize wr.drew = W1 at *
        have e6 : ¬ (2 * (p : Int) - 1 ≤ 0) := by omega
        have q1 : wrap64 (2 * (p : Int)) = 2 * (p : Int) := wrap64_in _ (by omega)
        have q2 : wrap64 (2 * (p : Int) - 1) = 2 * (p : Int) - 1 := wrap64_in _ (by omega)
        have q3 : IntKind.i64.wrap (2 * (p : Int)) = 2 * (p : Int) := wrap_i64_in _ (by omega)
        have q4 : IntKind.i64.wrap (2 * (p : Int) - 1) = 2 * (p : Int) - 1 := wrap_i64_in _ (by omega)
        repeat' (first
          | (refine wpRel_quiet (v := ?_) rfl rfl (fun _ _ _ h => h) (by rfl) ?_ ?_
             rotate_left
             · (intro w' hR; have e1 := (Below.cell hR (p := ⟨bx, ox, none⟩) lx).trans DX.out; have e2 := (Below.cell hR (p := ⟨by_, oy, none⟩) ly).trans DY.out; go_simp; try rfl)
             simp only [Act.put, List.setIfInBounds_toArray, List.set_cons_zero, List.set_cons_succ])
          | fail)
        repeat' (first
          | (refine wpRel_pass rfl (fun _ _ _ h => h) (by rfl) (Kept.refl _) ?_
             simp only [Act.put, List.setIfInBounds_toArray, List.set_cons_zero, List.set_cons_succ])
          | fail)
        repeat' (first
          | (refine wpRel_quiet (v := ?_) rfl rfl (fun _ _ _ h => h) (by rfl) ?_ ?_
             rotate_left
             · (intro w' hR; go_simp; try rfl)
             simp only [Act.put, List.setIfInBounds_toArray, List.set_cons_zero, List.set_cons_succ])
          | fail)
        refine wpRel_nil ?_
        clear e6 q1 q2 q3 q4
        go_wp2_with fail
        go_roundw
        case rel => exact ⟨1, by omega, by go_num, hB⟩
        case measure => simp [intOf]
      · obtain ⟨i, rfl⟩ : ∃ i, j = i + 1 := ⟨j - 1, by omega⟩
        have cz1 := HX.out i (by omega)
        have dz := (hB.cell (p := ⟨bx, ox + i, none⟩) (World.block_lt_of_cell? w2 _ cz1)).trans cz1
        have hup := T.up i hjk
        have hpos := T.pos i hjk
        have HLT := hide (show 0 ≤ us i ∧ us i ≤ 131070 from ⟨(T.low i (by omega)).1, (T.low i (by omega)).2.2⟩)
        have hji : ((i + 1 : Nat) : Int) - 1 = (i : Int) := by omega
        have hj0 : (0 : Int) < ((i + 1 : Nat) : Int) := by omega
        have hCat := C.at_ (i + 1) wr hjk hgr
        generalize us i = t at *
        generalize us (i + 1) = u at *
        generalize vs (i + 1) = v at *
        obtain ⟨j, hje⟩ : ∃ j : Nat, i + 1 = j := ⟨_, rfl⟩
        rw [hje] at hj hjk dx dy hsm hji hj0 hCat ⊢
        clear cz1 h0
        have HJE := hide hje
        clear hje
        by_cases huv : u = v
        · have hjn : j ≤ m := hsm.1 huv
          have hjm : (j : Int) ≤ (m : Int) := by omega
          subst huv
          have hbe : (u == u) = true := beq_self_eq_true u
          have huv : True := trivial
          clear hsm
          go_wp2_with fail
          refine hCat.mono ?_
          rintro e w4 ⟨rfl, rfl⟩
          have HUV := hide huv
          have HJM := hide hjm
          have HUP := hide hup
          have HJN := hide hjn
          have HBE := hide hbe
          have HJI := hide hji
          clear huv hjm hup hjn hbe
          go_wp2_with fail
          refine wp_region_rel Kept (0 :: 1 :: 2 :: 3 :: 4 :: 5 :: 6 :: 7 :: 8 :: 9 :: 10 :: 11 :: 12 :: 13 :: 14 :: 15 :: 16 :: 17 :: 18 :: 19 :: 20 :: 21 :: 22 :: 23 :: 24 :: 25 :: 26 :: 27 :: 28 :: 29 :: 30 :: 31 :: 32 :: 33 :: 34 :: 35 :: 36 :: 37 :: 38 :: 39 :: 40 :: 41 :: 42 :: 43 :: 44 :: 45 :: 46 :: 47 :: 48 :: 49 :: 50 :: 51 :: 52 :: 53 :: []) (by kernel_rfl) (by kernel_rfl) (by kernel_rfl) Kept.refl Kept.trans ?_
          replace hB := hB.drew
          have DX := hide (show wr.drew.cell? ⟨bx, ox + j, none⟩ = some (.int .i64 u) from dx)
          have DY := hide (show wr.drew.cell? ⟨by_, oy + j, none⟩ = some (.int .i64 u) from dy)
          have DZ := hide (show wr.drew.cell? ⟨bx, ox + i, none⟩ = some (.int .i64 t) from dz)
          replace lx : bx < wr.drew.heap.size := lx
          replace ly : by_ < wr.drew.heap.size := ly
          clear dx dy dz
          generalize wr.drew = W1 at *
          have e3 := HUV.out
          have e4 := HJM.out
          have e8 := HUP.out
          have n2 := HJN.out
          have n3 := HBE.out
          obtain ⟨e6, e7, f1, f2, q5, q6, q9, n1, q11, q12, q13, q14, q1, q2, q3, q4⟩ := round_facts i j k p u t HJI.out hjk hk12 hp hlow hpos HLT.out
          repeat' (first
            | (refine wpRel_quiet (v := ?_) rfl rfl (fun _ _ _ h => h) (by rfl) ?_ ?_
               rotate_left
               · (intro w' hR; have e1 := (Below.cell hR (p := ⟨bx, ox + j, none⟩) lx).trans DX.out; have e2 := (Below.cell hR (p := ⟨by_, oy + j, none⟩) ly).trans DY.out; have e5 := (Below.cell hR (p := ⟨bx, ox + i, none⟩) lx).trans DZ.out; go_simp; try rfl)
               simp only [Act.put, List.setIfInBounds_toArray, List.set_cons_zero, List.set_cons_succ])
            | fail)
          refine wpRel_nil ?_
          clear e6 e7 f1 f2 e3 e4 e8 q5 q6 q9 n1 n2 n3 q11 q12 q13 q14 q1 q2 q3 q4
          go_wp2_with fail
          go_roundw
          case rel => exact ⟨j + 1, by omega, by go_num, hB⟩
          case measure => simp [intOf]; omega
        · have hjn : ¬ j ≤ m := fun h => huv (hsm.2 h)
          have hjm : ¬ (j : Int) ≤ (m : Int) := by omega
          have hbe : (u == v) = false := beq_eq_false_iff_ne.2 huv
          clear hsm
          go_wp2_with fail
          refine hCat.mono ?_
          rintro e w4 ⟨rfl, rfl⟩
          have HUV := hide huv
          have HJM := hide hjm
          have HUP := hide hup
          have HJN := hide hjn
          have HBE := hide hbe
          have HJI := hide hji
          clear huv hjm hup hjn hbe
          go_wp2_with fail
          refine wp_region_rel Kept (0 :: 1 :: 2 :: 3 :: 4 :: 5 :: 6 :: 7 :: 8 :: 9 :: 10 :: 11 :: 12 :: 13 :: 14 :: 15 :: 16 :: 17 :: 18 :: 19 :: 20 :: 21 :: 22 :: 23 :: 24 :: 25 :: 26 :: 27 :: 28 :: 29 :: 30 :: 31 :: 32 :: 33 :: 34 :: 35 :: 36 :: 37 :: 38 :: 39 :: 40 :: 41 :: 42 :: 43 :: 44 :: 45 :: 46 :: 47 :: 48 :: 49 :: 50 :: 51 :: 52 :: 53 :: []) (by kernel_rfl) (by kernel_rfl) (by kernel_rfl) Kept.refl Kept.trans ?_
          replace hB := hB.drew
          have DX := hide (show wr.drew.cell? ⟨bx, ox + j, none⟩ = some (.int .i64 u) from dx)
          have DY := hide (show wr.drew.cell? ⟨by_, oy + j, none⟩ = some (.int .i64 v) from dy)
          have DZ := hide (show wr.drew.cell? ⟨bx, ox + i, none⟩ = some (.int .i64 t) from dz)
          replace lx : bx < wr.drew.heap.size := lx
          replace ly : by_ < wr.drew.heap.size := ly
          clear dx dy dz
          generalize wr.drew = W1 at *
          have e3 := HUV.out
          have e4 := HJM.out
          have e8 := HUP.out
          have n2 := HJN.out
          have n3 := HBE.out
          obtain ⟨e6, e7, f1, f2, q5, q6, q9, n1, q11, q12, q13, q14, q1, q2, q3, q4⟩ := round_facts i j k p u t HJI.out hjk hk12 hp hlow hpos HLT.out
          repeat' (first
            | (refine wpRel_quiet (v := ?_) rfl rfl (fun _ _ _ h => h) (by rfl) ?_ ?_
               rotate_left
               · (intro w' hR; have e1 := (Below.cell hR (p := ⟨bx, ox + j, none⟩) lx).trans DX.out; have e2 := (Below.cell hR (p := ⟨by_, oy + j, none⟩) ly).trans DY.out; have e5 := (Below.cell hR (p := ⟨bx, ox + i, none⟩) lx).trans DZ.out; go_simp; try rfl)
               simp only [Act.put, List.setIfInBounds_toArray, List.set_cons_zero, List.set_cons_succ])
            | fail)
          refine wpRel_nil ?_
          clear e6 e7 f1 f2 e3 e4 e8 q5 q6 q9 n1 n2 n3 q11 q12 q13 q14 q1 q2 q3 q4
          go_wp2_with fail
          go_roundw
          case rel => exact ⟨j + 1, by omega, by go_num, hB⟩
          case measure => simp [intOf]; omega
    · obtain rfl : j = k + 1 := by omega
      have ck1 := HX.out k (Nat.le_refl k)
      have ck := (hB.cell (p := ⟨bx, ox + k, none⟩) (World.block_lt_of_cell? w2 _ ck1)).trans ck1
      have hlf := T.leaf
      have hfu := T.full
      have hCB := C.back wr hgr
      generalize us k = u at *
      subst hlf
      have Bt := B.trans (hB.mono B.size)
      clear ck1 x0 hj hjk hB
      by_cases hxy : x = y
      · have hmk := hfu.2 hxy
        have HXY := hide hxy
        subst hmk
        subst hxy
        clear hfu
        go_wp2_with fail
        all_goals first
          | (refine hCB.mono ?_
             rintro e w4 ⟨rfl, rfl⟩
             go_wp2_with fail
             refine (awake_any wr hgr).mono ?_
             rintro e w5 ⟨rfl, b5⟩
             go_wp2_with fail
             go_ret
             exact ⟨rfl, Bt.trans (b5.mono Bt.size)⟩)
          | (exfalso
             rename_i hno
             exact hno (by rw [wrap64_in ((p : Int) - 1) (by omega), wrap64_in _ (by omega)]))
      · have hmk : ¬ m = k := fun h => hxy (hfu.1 h)
        have hmk2 : ¬ (m : Int) = (k : Int) := by omega
        have hxy2 : ¬ (x : Int) = (y : Int) := by omega
        clear hfu
        go_wp2_with fail
        all_goals first
          | (refine hCB.mono ?_
             rintro e w4 ⟨rfl, rfl⟩
             go_wp2_with fail
             refine (awake_any wr hgr).mono ?_
             rintro e w5 ⟨rfl, b5⟩
             go_wp2_with fail
             go_ret
             exact ⟨rfl, Bt.trans (b5.mono Bt.size)⟩)
          | (exfalso
             rename_i hno
             exact hno (by rw [wrap64_in ((p : Int) - 1) (by omega), wrap64_in _ (by omega)]))
          | (exfalso
             rename_i hno
             exact hno (by rw [beq_eq_false_iff_ne.2 hmk2, beq_eq_false_iff_ne.2 hxy2]))
#print axioms pathTree_walk
end Go.Proofs.YtmaknnlccmfmpaaDoor
