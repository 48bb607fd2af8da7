
/- What calls of dumbwaiterref6's On and Meet and of dumbwaiterref18's SameInts answer, of all numbers, of any two rows; nothing that was there is turned. -/
import Derived.Test.YtmaknnlccmfmpaaDoorTrRef
import Derived.Test.YtmaknnlccmfmpaaDoorText
import Derived.Test.YtmaknnlccmfmpaaDoorRel
namespace Go.Proofs.YtmaknnlccmfmpaaDoor
open Go.RowKit
set_option maxRecDepth 20000

/-- The first k buckets of a way. -/
def wayP (n a : Int) (k : Nat) : List Int := (List.range k).map fun l => ((bkt (dep n) a.toNat l : Nat) : Int)
theorem wayP_step (n a : Int) (k : Nat) : wayP n a (k + 1) = wayP n a k ++ [((bkt (dep n) a.toNat k : Nat) : Int)] := by simp [wayP, List.range_succ]
theorem wayP_all {n a : Int} (h : hasL n a = true) : wayP n a (dep n + 1) = wayL n a := by unfold wayL; rw [if_pos h]; rfl

set_option maxRecDepth 100000 in
set_option maxHeartbeats 4000000 in
theorem ron_any (n a : Int) (w : World) (hn : -9223372036854775808 ≤ n ∧ n ≤ 9223372036854775807) :
    Calls Tryd.prog 17 #[.int .i64 n, .int .i64 a] w fun e w' => ∃ p len cap, e = .returned (.slice p len cap) ∧ Ns .i64 w' p len cap (wayL n a) ∧ Below w.heap.size w w' := by
  have hdl := dep_le n
  have hd := fun w => rdepth_any n w hn
  have hat := fun (l : Int) w => rat_any n a l w hn
  cases hl : hasL n a with
  | false =>
    have hat0 : ∀ (l : Int) w, Calls Tryd.prog 12 #[.int .i64 n, .int .i64 a, .int .i64 l] w fun e w' => e = .returned (.tuple #[.int .i64 0, .bool false]) ∧ w = w' := fun l w => rat_no n a l w hn (by simp [atB, hl])
    have hW : wayL n a = [] := by unfold wayL; rw [if_neg (by rw [hl]; decide)]
    rw [hW]
    generalize dep n = d at *
    clear hat
    go_enter Tryd.func17, Tryd.ntmps17
    go_wp2_with fail
    go_loop [5, 6] (fun v i => ∃ k : Nat, k ≤ d + 1 ∧ v = .slice none 0 0 ∧ i = .int .i64 (k : Int)) (fun _ i => d + 1 - (intOf i).toNat)
    case atStart => exact ⟨0, Nat.zero_le _, rfl, rfl⟩
    case round =>
      obtain ⟨k, hk, rfl, rfl⟩ := hrel
      by_cases hkd : k ≤ d
      · go_wp2_with fail
        refine (hd w).mono ?_
        rintro e w1 ⟨rfl, rfl⟩
        go_wp2_with fail
        refine (hat0 (k : Int) w).mono ?_
        rintro e w1 ⟨rfl, rfl⟩
        go_wp2_with fail
        go_round
        case rel => exact ⟨k + 1, by omega, rfl, by go_num⟩
        case measure => simp [intOf]; omega
      · go_wp2_with fail
        refine (hd w).mono ?_
        rintro e w1 ⟨rfl, rfl⟩
        go_wp2_with fail
        go_ret
        exact ⟨_, _, _, rfl, Ns.nil _ _, Below.refl _ _⟩
  | true =>
    obtain ⟨h1, h2, h3⟩ := (hasL_iff n a).1 hl
    have hb := lvs_in h1
    obtain ⟨e0, _⟩ := dep_is h1
    have hat1 : ∀ (k : Nat) w, k ≤ dep n → Calls Tryd.prog 12 #[.int .i64 n, .int .i64 a, .int .i64 (k : Int)] w fun e w' => e = .returned (.tuple #[.int .i64 ((bkt (dep n) a.toNat k : Nat) : Int), .bool true]) ∧ w = w' := fun k w hk => by
      have := rat_yes n a.toNat k w h1 (by omega) hk
      rwa [Int.toNat_of_nonneg h2] at this
    have hwf : ∀ k : Nat, k ≤ dep n → (Lit.int .i64 ((bkt (dep n) a.toNat k : Nat) : Int)).wf = true := fun k hk => WalkArith.wf_i64 (by
      have := bkt_small (a := a.toNat) hdl hk (by omega)
      omega)
    obtain ⟨d, hde⟩ : ∃ d : Nat, dep n = d := ⟨_, rfl⟩
    clear hat e0
    have HDE := hide hde
    have hat2 : ∀ (k : Nat) w, k ≤ d → Calls Tryd.prog 12 #[.int .i64 n, .int .i64 a, .int .i64 (k : Int)] w fun e w' => e = .returned (.tuple #[.int .i64 ((bkt (dep n) a.toNat k : Nat) : Int), .bool true]) ∧ w = w' := fun k w h => hat1 k w (by omega)
    have hwf2 : ∀ k : Nat, k ≤ d → (Lit.int .i64 ((bkt (dep n) a.toNat k : Nat) : Int)).wf = true := fun k h => hwf k (by omega)
    rw [hde] at hdl
    clear hde hat1 hwf
    go_enter Tryd.func17, Tryd.ntmps17
    go_wp2_with fail
    go_loopw [5, 6] (fun v i wr => ∃ (k : Nat) (p : Option Addr) (cap : Nat), k ≤ d + 1 ∧ v = .slice p k cap ∧ i = .int .i64 (k : Int) ∧ OwnK .i64 3 w.heap.size wr p k cap (wayP n a k) ∧ Below w.heap.size w wr ∧ w.heap.size ≤ wr.heap.size) (fun _ i _ => d + 1 - (intOf i).toNat)
    case atStart => exact ⟨0, none, 0, Nat.zero_le _, rfl, rfl, OwnK.nil _ _ _ _, Below.refl _ _, Nat.le_refl _⟩
    case round =>
      obtain ⟨k, p, cap, hk, rfl, rfl, hO, hB, hbs⟩ := hrel
      have hdw := hd wr
      rw [HDE.out] at hdw
      by_cases hkd : k ≤ d
      · have hak := hat2 k wr hkd
        have hw1 := hwf2 k hkd
        have hst := wayP_step n a k
        obtain ⟨y, hy⟩ : ∃ y : Int, ((bkt (dep n) a.toNat k : Nat) : Int) = y := ⟨_, rfl⟩
        rw [hy] at hak hw1 hst
        obtain ⟨a3, c3, w3, hr3, hO3, hb3, hbs3⟩ := run_append_num (P := Tryd.prog) .i64 8 Tryd.underlying32 info_int (by decide) 32 w.heap.size w wr p k cap _ y hO hw1 (by omega) hbs hB
        rw [← hst] at hO3
        clear hst hy hwf2 hat2 hd hO hB
        go_wp2_with fail
        refine hdw.mono ?_
        rintro e w1 ⟨rfl, rfl⟩
        go_wp2_with fail
        refine hak.mono ?_
        rintro e w1 ⟨rfl, rfl⟩
        go_wp2_with (at_builtin; refine wpList_append_run (by rfl) (.tmp 23) (.tmp 25) 32 (by rfl) _ _ _ _ (by rfl) (by rfl) hr3 ?_)
        go_roundw
        case rel => exact ⟨k + 1, a3, c3, by omega, rfl, by go_num, hO3, hb3, hbs3⟩
        case measure => simp [intOf]; omega
      · obtain rfl : k = d + 1 := by omega
        go_wp2_with fail
        refine hdw.mono ?_
        rintro e w1 ⟨rfl, rfl⟩
        go_wp2_with fail
        go_ret
        rw [← HDE.out] at hO
        rw [wayP_all hl] at hO
        rw [← HDE.out]
        exact ⟨_, _, _, rfl, hO.ns, hB⟩

/-- Where a row's place lies. -/
theorem Ns.spot {k : IntKind} {w : World} {a : Option Addr} {len cap : Nat} {zs : List Int} (h : Ns k w a len cap zs) (hl : 0 < len) : ∃ b off, a = some ⟨b, off, none⟩ ∧ b < w.heap.size ∧ ∀ i, i < len → w.cell? ⟨b, off + i, none⟩ = some (.int k (zs.getD i 0)) := by
  have hlc := h.le_cap
  rcases h.place with h0 | ⟨b, off, rfl, hc⟩
  · omega
  · exact ⟨b, off, rfl, World.block_lt_of_cell? w _ (hc 0 hl), hc⟩

set_option maxRecDepth 100000 in
set_option maxHeartbeats 4000000 in
theorem sameInts_any {a b : Option Addr} {n c m d : Nat} {xs ys : List Int} (w : World) (hx : Ns .i64 w a n c xs) (hy : Ns .i64 w b m d ys) :
    Calls Tryd.prog 16 #[.slice a n c, .slice b m d] w fun e w' => e = .returned (.bool (decide (xs = ys))) ∧ Below w.heap.size w w' := by
  have hxl := hx.length
  have hyl := hy.length
  have hxc := hx.le_cap
  have hxm := hx.cap_le
  have hyc := hy.le_cap
  have hym := hy.cap_le
  by_cases hnm : n = m
  · subst hnm
    have hall : (∀ j, j < n → xs.getD j 0 = ys.getD j 0) → xs = ys := fun h => by
      apply List.ext_getElem?
      intro i
      rcases Nat.lt_or_ge i n with hi | hi
      · have := h i hi
        rw [List.getD, List.getD, List.getElem?_eq_getElem (by omega), List.getElem?_eq_getElem (by omega)] at this
        rw [List.getElem?_eq_getElem (by omega), List.getElem?_eq_getElem (by omega)]
        exact congrArg some this
      · rw [List.getElem?_eq_none (by omega), List.getElem?_eq_none (by omega)]
    go_enter Tryd.func16, Tryd.ntmps16
    go_wp2_with fail
    go_loopw [5] (fun i wr => ∃ k : Nat, k ≤ n ∧ i = .int .i64 (k : Int) ∧ (∀ j, j < k → xs.getD j 0 = ys.getD j 0) ∧ Below w.heap.size w wr) (fun i _ => n - (intOf i).toNat)
    case atStart => exact ⟨0, Nat.zero_le _, rfl, fun j hj => by omega, Below.refl _ _⟩
    case round =>
      obtain ⟨k, hk, rfl, hs, hB⟩ := hrel
      by_cases hkn : k < n
      · obtain ⟨bx, ox, rfl, lx, cx⟩ := hx.spot (by omega)
        obtain ⟨by_, oy, rfl, ly, cy⟩ := hy.spot (by omega)
        have dx := (hB.cell (p := ⟨bx, ox + k, none⟩) lx).trans (cx k hkn)
        have dy := (hB.cell (p := ⟨by_, oy + k, none⟩) ly).trans (cy k hkn)
        have lx2 := World.block_lt_of_cell? wr _ dx
        have ly2 := World.block_lt_of_cell? wr _ dy
        have hXY : Hid (xs.getD k 0 = xs.getD k 0) := rfl
        have hS : Hid (∀ j, j < k → xs.getD j 0 = ys.getD j 0) := hs
        have hA : Hid ((∀ j, j < n → xs.getD j 0 = ys.getD j 0) → xs = ys) := hall
        obtain ⟨u, hu⟩ : ∃ u : Int, Hid (xs.getD k 0 = u) := ⟨_, rfl⟩
        obtain ⟨v, hv⟩ : ∃ v : Int, Hid (ys.getD k 0 = v) := ⟨_, rfl⟩
        rw [hu.out] at dx
        rw [hv.out] at dy
        clear hs hall cx cy hXY
        go_wp2_with fail
        refine wp_region_rel Kept [0, 1, 2, 3, 4, 5, 6, 7, 8] (by kernel_rfl) (by kernel_rfl) (by kernel_rfl) Kept.refl Kept.trans ?_
        replace hB := hB.drew
        have DX := hide (show wr.drew.cell? ⟨bx, ox + k, none⟩ = some (.int .i64 u) from dx)
        have DY := hide (show wr.drew.cell? ⟨by_, oy + k, none⟩ = some (.int .i64 v) from dy)
        replace lx2 : bx < wr.drew.heap.size := lx2
        replace ly2 : by_ < wr.drew.heap.size := ly2
        clear dx dy
        generalize wr.drew = W1 at *
        repeat' (first
          | (refine wpRel_quiet (v := ?_) rfl rfl (fun _ _ _ h => h) (by rfl) ?_ ?_
             rotate_left
             · (intro w' hR; have e1 := (Below.cell hR (p := ⟨bx, ox + k, none⟩) lx2).trans DX.out; have e2 := (Below.cell hR (p := ⟨by_, oy + k, none⟩) ly2).trans DY.out; go_simp; try rfl)
             simp only [Act.put, List.setIfInBounds_toArray, List.set_cons_zero, List.set_cons_succ])
          | fail)
        refine wpRel_nil ?_
        by_cases huv : u = v
        · go_wp2_with fail
          go_roundw
          case rel => exact ⟨k + 1, by omega, by go_num, fun j hj => by
            by_cases h : j = k
            · rw [h, hu.out, hv.out, huv]
            · exact hS.out j (by omega), hB⟩
          case measure => simp [intOf]; omega
        · go_wp2_with fail
          go_ret
          refine ⟨?_, hB⟩
          rw [decide_eq_false fun h => huv (by rw [← hu.out, ← hv.out, h])]
          rfl
      · obtain rfl : k = n := by omega
        go_wp2_with fail
        go_ret
        rw [decide_eq_true (hall hs)]
        exact ⟨rfl, hB⟩
  · have hne : ¬ (n : Int) = (m : Int) := by omega
    go_enter Tryd.func16, Tryd.ntmps16
    go_wp2_with fail
    go_ret
    rw [decide_eq_false fun h => hnm (by rw [← hxl, ← hyl, h])]
    exact ⟨rfl, Below.refl _ _⟩

theorem meetN_no {n a b : Int} (h : (hasL n a && hasL n b) = false) : meetN n a b = -1 := by
  unfold meetN
  rw [h, if_neg (by decide)]
/-- What is known of the deepest level, where both leaves are some. -/
theorem meetN_yes {n a b : Int} (ha : hasL n a = true) (hb : hasL n b = true) : ∃ m : Nat, meetN n a b = (m : Int) ∧ m ≤ dep n ∧ ∀ k, k ≤ dep n → ((wayL n a).getD k 0 = (wayL n b).getD k 0 ↔ k ≤ m) := by
  obtain ⟨h1, h2, h3⟩ := (hasL_iff n a).1 ha
  obtain ⟨_, h5, h6⟩ := (hasL_iff n b).1 hb
  obtain ⟨e, hd⟩ := dep_is h1
  have hx := xor_lt (k := dep n) (a := a.toNat) (b := b.toNat) (by omega) (by omega)
  refine ⟨dep n - bl (a.toNat ^^^ b.toNat), ?_, by omega, fun k hk => ?_⟩
  · unfold meetN
    rw [ha, hb, if_pos (by rfl)]
    omega
  · rw [wayL_getD ha k hk, wayL_getD hb k hk]
    have := bkt_same (a := a.toNat) (b := b.toNat) hk
    omega

set_option maxRecDepth 100000 in
set_option maxHeartbeats 4000000 in
theorem rmeet_any (n a b : Int) (w : World) (hn : -9223372036854775808 ≤ n ∧ n ≤ 9223372036854775807) :
    Calls Tryd.prog 18 #[.int .i64 n, .int .i64 a, .int .i64 b] w fun e w' => e = .returned (.int .i64 (meetN n a b)) ∧ Below w.heap.size w w' := by
  obtain ⟨M, HM⟩ : ∃ M : Int, Hid (meetN n a b = M) := ⟨_, rfl⟩
  rw [HM.out]
  go_enter Tryd.func18, Tryd.ntmps18
  go_wp2_with fail
  refine (ron_any n a w hn).mono ?_
  rintro e w1 ⟨p, lp, cp, rfl, hx, b1⟩
  go_wp2_with fail
  refine (ron_any n b w1 hn).mono ?_
  rintro e w2 ⟨q, lq, cq, rfl, hy, b2⟩
  have hx2 := hx.below b2
  have B := b1.trans (b2.mono b1.size)
  have hxl := hx2.length
  have hyl := hy.length
  have hxc := hx2.le_cap
  have hyc := hy.le_cap
  have hxm := hx2.cap_le
  have hym := hy.cap_le
  rw [wayL_length] at hxl hyl
  clear hx b1 b2
  cases ha : hasL n a with
  | false =>
    obtain rfl : M = -1 := HM.out.symm.trans (meetN_no (by rw [ha]; rfl))
    rw [ha, if_neg (by decide)] at hxl
    subst hxl
    clear hyl hx2 hy HM
    go_wp2_with fail
    refine wp_loop_rounds 1 ?_
    rw [rounds_succ]
    go_wp2_with fail
    go_ret
    exact ⟨rfl, B⟩
  | true =>
    rw [ha, if_pos rfl] at hxl
    cases hb : hasL n b with
    | false =>
      obtain rfl : M = -1 := HM.out.symm.trans (meetN_no (by rw [hb, Bool.and_false]))
      rw [hb, if_neg (by decide)] at hyl
      subst hyl
      have hl0 : (0 : Int) < (lp : Int) := by omega
      clear hxl hx2 hy HM
      go_wp2_with fail
      refine wp_loop_rounds 1 ?_
      rw [rounds_succ]
      go_wp2_with fail
      go_ret
      exact ⟨rfl, B⟩
    | true =>
      rw [hb, if_pos rfl] at hyl
      obtain ⟨m, hm, hmd, hsame⟩ := meetN_yes ha hb
      obtain rfl : M = (m : Int) := HM.out.symm.trans hm
      obtain ⟨d, hd⟩ : ∃ d : Nat, dep n = d := ⟨_, rfl⟩
      rw [hd] at hxl hyl hmd hsame
      subst hxl
      subst hyl
      obtain ⟨bx, ox, rfl, lx, cx⟩ := hx2.spot (by omega)
      obtain ⟨by_, oy, rfl, ly, cy⟩ := hy.spot (by omega)
      have CX := hide cx
      have CY := hide cy
      have HS := hide hsame
      clear hx2 hy hd hsame cx cy hm HM
      go_wp2_with fail
      go_loopw [9, 10] (fun v i wr => ∃ (k : Nat) (z : Int), k ≤ d + 1 ∧ i = .int .i64 (k : Int) ∧ v = .int .i64 z ∧ (z = (k : Int) - 1 ∧ k ≤ m + 1 ∨ z = (m : Int) ∧ m + 1 ≤ k) ∧ Below w2.heap.size w2 wr) (fun _ i _ => d + 1 - (intOf i).toNat)
      case atStart => exact ⟨0, -1, by omega, rfl, rfl, Or.inl ⟨by omega, by omega⟩, Below.refl _ _⟩
      case round =>
        obtain ⟨k, z, hk, rfl, rfl, hz, hB⟩ := hrel
        have HZ := hide hz
        clear hz
        by_cases hkn : k < d + 1
        · have dx := (hB.cell (p := ⟨bx, ox + k, none⟩) lx).trans (CX.out k hkn)
          have dy := (hB.cell (p := ⟨by_, oy + k, none⟩) ly).trans (CY.out k hkn)
          have lx2 := World.block_lt_of_cell? wr _ dx
          have ly2 := World.block_lt_of_cell? wr _ dy
          have hs := HS.out k (by omega)
          obtain ⟨u, hu⟩ : ∃ u : Int, (wayL n a).getD k 0 = u := ⟨_, rfl⟩
          obtain ⟨v, hv⟩ : ∃ v : Int, (wayL n b).getD k 0 = v := ⟨_, rfl⟩
          rw [hu, hv] at hs
          rw [hu] at dx
          rw [hv] at dy
          have HUV := hide hs
          clear hs hu hv
          go_wp2_with fail
          refine wp_region_rel Kept [0, 1, 2, 3, 4, 5, 6, 7, 8] (by kernel_rfl) (by kernel_rfl) (by kernel_rfl) Kept.refl Kept.trans ?_
          replace hB := hB.drew
          have DX := hide (show wr.drew.cell? ⟨bx, ox + k, none⟩ = some (.int .i64 u) from dx)
          have DY := hide (show wr.drew.cell? ⟨by_, oy + k, none⟩ = some (.int .i64 v) from dy)
          replace lx2 : bx < wr.drew.heap.size := lx2
          replace ly2 : by_ < wr.drew.heap.size := ly2
          clear dx dy
          generalize wr.drew = W1 at *
          repeat' (first
            | (refine wpRel_quiet (v := ?_) rfl rfl (fun _ _ _ h => h) (by rfl) ?_ ?_
               rotate_left
               · (intro w' hR; have e1 := (Below.cell hR (p := ⟨bx, ox + k, none⟩) lx2).trans DX.out; have e2 := (Below.cell hR (p := ⟨by_, oy + k, none⟩) ly2).trans DY.out; go_simp; try rfl)
               simp only [Act.put, List.setIfInBounds_toArray, List.set_cons_zero, List.set_cons_succ])
            | fail)
          refine wpRel_nil ?_
          by_cases huv : u = v
          · go_wp2_with fail
            go_roundw
            case rel =>
              have hkm := HUV.out.1 huv
              exact ⟨k + 1, k, by omega, by go_num, rfl, Or.inl ⟨by omega, by omega⟩, hB⟩
            case measure => simp [intOf]; omega
          · go_wp2_with fail
            go_roundw
            case rel =>
              have hkm : ¬ k ≤ m := fun h => huv (HUV.out.2 h)
              have hz := HZ.out
              exact ⟨k + 1, z, by omega, by go_num, rfl, Or.inr ⟨by omega, by omega⟩, hB⟩
            case measure => simp [intOf]; omega
        · obtain rfl : k = d + 1 := by omega
          go_wp2_with fail
          go_ret
          have hz := HZ.out
          obtain rfl : z = (m : Int) := by omega
          exact ⟨rfl, B.trans (hB.mono B.size)⟩
#print axioms ron_any
#print axioms sameInts_any
#print axioms rmeet_any
end Go.Proofs.YtmaknnlccmfmpaaDoor
