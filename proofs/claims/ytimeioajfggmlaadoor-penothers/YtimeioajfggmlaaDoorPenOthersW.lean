
/- The law PenOthers answers true for every key, boots, text and bytes, wherever quar.rounds reads as its text says; nothing that was there is turned. -/
import Derived.Test.YtimeioajfggmlaaDoorPAwake
namespace Go.Proofs.YtimeioajfggmlaaDoor
open Go.RowKit

set_option maxRecDepth 100000 in
set_option maxHeartbeats 2000000 in
theorem penOthers_walk (key : List Int) (a b : Int) (ta ra : Option Addr) (tl tc rl rc : Nat) (tz rz : List Int) (w : World) (hk : IsBytes key) (hkl : key.length = 32) (ha : 0 ≤ a ∧ a < 4294967296) (hb : 0 ≤ b ∧ b < 4294967296) (ht : Bs w ta tl tc tz) (hr : Bs w ra rl rc rz) (hq : Glob w) :
    Calls Tryd.prog 4 #[.agg (bV key), .int .u32 a, .int .u32 b, .slice ta tl tc, .slice ra rl rc] w fun e w' => e = .returned (.bool true) ∧ Below w.heap.size w w' := by
  have hS := KK.start w key hq
  have htl := ht.length
  have hrl := hr.length
  have htc := ht.le_cap
  have htcc := ht.cap_le
  have hrc := hr.le_cap
  have hrcc := hr.cap_le
  by_cases h1 : (20 : Int) < (tl : Int)
  · go_enter Tryd.func4, Tryd.ntmps4
    go_wp2_with fail
    generalize (w.alloc (Obj.cells (bV key) 22)) = W0 at *
    refine (awake_any W0 hS.gl).mono ?_
    rintro e w1 ⟨rfl, hb1⟩
    have hS1 := hS.later hb1
    go_wp2_with fail
    go_ret
    exact ⟨rfl, hS1.bel⟩
  by_cases h2 : (200 : Int) < (rl : Int)
  · go_enter Tryd.func4, Tryd.ntmps4
    go_wp2_with fail
    generalize (w.alloc (Obj.cells (bV key) 22)) = W0 at *
    refine (awake_any W0 hS.gl).mono ?_
    rintro e w1 ⟨rfl, hb1⟩
    have hS1 := hS.later hb1
    go_wp2_with fail
    go_ret
    exact ⟨rfl, hS1.bel⟩
  go_enter Tryd.func4, Tryd.ntmps4
  go_wp2_with fail
  have hbw := hS.bel
  have kk0 := hS.kk
  generalize (w.alloc (Obj.cells (bV key) 22)) = W0 at *
  refine (new_any 2 50 2 50 rfl rfl W0).mono ?_
  rintro e W ⟨g, Z, rfl, hD, hF, hB⟩
  have C : Cl w W Z g (DS.new 2 50) := ⟨hD, fun k hk => Nat.le_trans hbw.size (hF k hk), hbw.trans (hB.mono hbw.size)⟩
  have kk : Has Z W w.heap.size (.cells (bV key) 22 (0, 0)) := ⟨(kk0.below hB : OwnB _ _ _ _), fun hs => by have := hF _ hs; have := kk0.lt; omega⟩
  clear hD hF hB hS kk0 hbw
  go_wp2_with fail
  refine wp_region_rel Kept [0, 1, 2, 4, 5, 6, 3, 7, 8, 9] (by kernel_rfl) (by kernel_rfl) (by kernel_rfl) Kept.refl Kept.trans ?_
  replace C := C.drew
  replace kk : Has Z W.drew w.heap.size (.cells (bV key) 22 (0, 0)) := kk.below (Below.refl _ _).drew
  generalize W.drew = W1 at *
  repeat' (first
    | (refine wpRel_quiet (v := ?_) rfl rfl (fun _ _ _ h => h) (by rfl) ?_ ?_
       rotate_left
       · (intro w' hR; go_simp; try rfl)
       simp only [Act.put, List.setIfInBounds_toArray, List.set_cons_zero, List.set_cons_succ])
    | fail)
  refine wpRel_loadA arrT32 rfl rfl _ rfl w.heap.size (bV key) (by rfl) (fun w' hR => (kk.below hR).1) (by rw [bV_size, hkl]) (fun _ _ _ h => h) (by rfl) ?_
  try simp only [Act.put, List.setIfInBounds_toArray, List.set_cons_zero, List.set_cons_succ]
  repeat' (first
    | (refine wpRel_quiet (v := ?_) rfl rfl (fun _ _ _ h => h) (by rfl) ?_ ?_
       rotate_left
       · (intro w' hR; go_simp; try rfl)
       simp only [Act.put, List.setIfInBounds_toArray, List.set_cons_zero, List.set_cons_succ])
    | fail)
  refine wpRel_loadA arrT32 rfl rfl _ rfl w.heap.size (bV key) (by rfl) (fun w' hR => (kk.below hR).1) (by rw [bV_size, hkl]) (fun _ _ _ h => h) (by rfl) ?_
  try simp only [Act.put, List.setIfInBounds_toArray, List.set_cons_zero, List.set_cons_succ]
  repeat' (first
    | (refine wpRel_quiet (v := ?_) rfl rfl (fun _ _ _ h => h) (by rfl) ?_ ?_
       rotate_left
       · (intro w' hR; go_simp; try rfl)
       simp only [Act.put, List.setIfInBounds_toArray, List.set_cons_zero, List.set_cons_succ])
    | fail)
  refine wpRel_step rfl rfl (by rfl) (fun K' hK => ?_)
  go_simp
  refine (pen_new C hk hkl ha).mono ?_
  rintro e W2 ⟨gp, rfl, hgp, P, b2⟩
  refine hK.out _ _ b2 ?_
  clear hK K'
  try simp only [Act.put, List.setIfInBounds_toArray, List.set_cons_zero, List.set_cons_succ]
  have hgk : w.heap.size < gp := Nat.lt_of_lt_of_le kk.lt hgp
  replace C := C.below b2
  replace kk := kk.below b2
  clear b2
  repeat' (first
    | (refine wpRel_quiet (v := ?_) rfl rfl (fun _ _ _ h => h) (by rfl) ?_ ?_
       rotate_left
       · (intro w' hR; go_simp; try rfl)
       simp only [Act.put, List.setIfInBounds_toArray, List.set_cons_zero, List.set_cons_succ])
    | fail)
  refine wpRel_step rfl rfl (by rfl) (fun K' hK => ?_)
  go_simp
  refine (pen_new C hk hkl hb).mono ?_
  rintro e W3 ⟨gq, rfl, hgq, Q, b3⟩
  refine hK.out _ _ b3 ?_
  clear hK K'
  try simp only [Act.put, List.setIfInBounds_toArray, List.set_cons_zero, List.set_cons_succ]
  have hlt := P.lt
  replace C := C.below b3
  replace P := P.below b3
  replace kk := kk.below b3
  clear b3
  repeat' (first
    | (refine wpRel_quiet (v := ?_) rfl rfl (fun _ _ _ h => h) (by rfl) ?_ ?_
       rotate_left
       · (intro w' hR; go_simp; try rfl)
       simp only [Act.put, List.setIfInBounds_toArray, List.set_cons_zero, List.set_cons_succ])
    | fail)
  refine wpRel_nil ?_
  have hne : gq ≠ gp := by omega
  clear hgp hgq hlt
  have htW : Bs W3 ta tl tc tz := ht.below C.bel
  have hWr := pen_write C P hq (of_decide_eq_true rfl) (of_decide_eq_true rfl) (of_decide_eq_true rfl) (by omega) 0 htW 28 rfl (by omega)
  go_wp2_with fail
  refine hWr.mono ?_
  rintro e W4 ⟨Z4, x, rfl, hx, C4, P4, s4⟩
  have Q4 := Q.beside s4 hne
  have kk4 := kk.beside s4 (by omega)
  clear hWr C P Q s4 htW P4 kk
  have hsh := puts_shows (DS.new 2 50) 0 x (by decide)
  obtain ⟨e1, e2, e3⟩ := puts_is (DS.new 2 50) 0 x
  have e4 := puts_len (DS.new 2 50) 0 x
  replace e1 : ((DS.new 2 50).puts 0 x).size = 50 := e1
  replace e2 : ((DS.new 2 50).puts 0 x).n = 2 := e2
  replace e3 : ((DS.new 2 50).puts 0 x).left = -1 := e3
  replace e4 : ((DS.new 2 50).puts 0 x).tr.length = 1 := e4
  have e5 := puts_wait (DS.new 2 50) 0 x
  replace e5 : ((DS.new 2 50).puts 0 x).wait.length ≤ 1 := e5
  replace hsh : ((DS.new 2 50).puts 0 x).shows 0 = sealL key a 0 tz 28 := by
    refine Eq.trans hsh ?_
    rw [hx.out]
    exact fitL_sealL _ _ _ _ _ _ (by omega) rfl
  generalize (DS.new 2 50).puts 0 x = D1 at *
  obtain ⟨q1, q2, -, -⟩ := open_is key a 0 tz 28 ha (by omega) ht.bytes (by omega) (by omega)
  have hR := pen_read C4 Q4 hq (by omega) (by omega) 0
  rw [hsh, q1, q2] at hR
  go_wp2_with fail
  refine hR.mono ?_
  rintro e W5 ⟨Z5, p5, c5, rfl, B5, C5, Q5, s5⟩
  have kk5 := kk4.step s5
  obtain ⟨f1, f2, f3, f4, f5⟩ := asks_is D1 0
  have f6 := asks_len D1 0
  rw [e3] at f3
  rw [e1] at f1
  rw [e2] at f2
  rw [e4] at f6
  rw [← f4] at e5
  generalize D1.asks 0 = D2 at *
  clear hR C4 Q4 s5 kk4 hsh e1 e2 e3 e4 f4 f5 D1
  have hBr := C5.bz hr
  have hPt := C5.put (i := 1) (by rw [f3]; decide) (by omega) (by omega) hBr (rz.take 50) (by rw [f1])
  go_wp2_with fail
  refine hPt.mono ?_
  rintro e W6 ⟨Z6, y, rfl, hy, C6, s6⟩
  have Q6 := Q5.step s6
  have B6 := B5.step s6
  have kk6 := kk5.step s6
  clear hPt hBr C5 Q5 B5 kk5 s6
  have hs6 := puts_shows D2 1 y (by omega)
  obtain ⟨e1, e2, e3⟩ := puts_is D2 1 y
  have e4 := puts_len D2 1 y
  have e5 : (D2.puts 1 y).wait = D2.wait ++ [(1, y)] := puts_wait_in D2 1 y (by omega)
  obtain ⟨Y, hY⟩ : ∃ Y, Hid (fitL 50 (rz.take 50) = Y) := ⟨_, hide rfl⟩
  have hYl : Y.length = 50 := by rw [← hY.out, fitL_length]
  replace hs6 : (D2.puts 1 y).shows 1 = Y := by
    refine Eq.trans hs6 ?_
    rw [f1, hy.out, hY.out]
  rw [f3] at e3
  rw [f1] at e1
  rw [f2] at e2
  rw [f6] at e4
  generalize D2.puts 1 y = D3 at *
  clear f1 f2 f3 f6
  have hR := pen_read C6 Q6 hq (by rw [e3]; decide) (by omega) 1
  rw [hs6] at hR
  obtain ⟨U, hU⟩ : ∃ U, Hid (openR key Y = U) := ⟨_, hide rfl⟩
  obtain ⟨V, hV⟩ : ∃ V, Hid (openB key Y = V) := ⟨_, hide rfl⟩
  rw [hU.out, hV.out] at hR
  go_wp2_with fail
  refine hR.mono ?_
  rintro e W7 ⟨Z7, p7, c7, rfl, B7, C7, Q7, s7⟩
  have kk7 := kk6.step s7
  have B6' := B6.step s7
  obtain ⟨f1, f2, f3, f4, f5⟩ := asks_is D3 1
  have f6 := asks_len D3 1
  rw [e3] at f3
  rw [e1] at f1
  rw [e2] at f2
  rw [e4] at f6
  rw [e5] at f4
  generalize D3.asks 1 = D4 at *
  clear hR C6 Q6 s7 kk6 B6 hs6 e1 e2 e3 e4 e5 f5 D3 Q7
  have hFl := C7.flush (by rw [f3]; decide) (by omega)
  go_wp2_with fail
  refine hFl.mono ?_
  rintro e W8 ⟨Z8, rfl, C8, s8⟩
  have kk8 := kk7.step s8
  have B6 := B6'.step s8
  have B7' := B7.step s8
  have hbl : (D4.flush.blk 1).2 = y := by
    show (flushN D4.blk D4.wait 1).2 = y
    rw [f4, flushN_snoc]
    unfold updF
    rw [if_pos rfl]
  have g1 : D4.flush.size = 50 := f1
  have g2 : D4.flush.n = 2 := f2
  generalize D4.flush = D5 at *
  clear hFl C7 s8 kk7 B6' B7 f1 f2 f3 f4 f6
  have hg8 : Glob W8 := hq.below C8.bel hq.lt
  go_wp2_with fail
  refine wp_region_rel Kept [0, 1, 2, 3, 4, 5, 6, 7, 8, 9, 10, 11, 12] (by kernel_rfl) (by kernel_rfl) (by kernel_rfl) Kept.refl Kept.trans ?_
  have sd : Below W8.heap.size W8 W8.drew := (Below.refl _ _).drew
  replace C8 := C8.below sd
  replace kk8 := kk8.below sd
  replace B6 := B6.bs.below sd
  replace B7' := B7'.bs.below sd
  replace hg8 := hg8.below sd hg8.lt
  clear sd
  generalize W8.drew = W9 at *
  have hSt := C8.stable 1 (by omega) 50 Y g1 (by rw [hbl, hy.out]; exact hY.out)
  refine wpRel_loadA arrT32 rfl rfl _ rfl w.heap.size (bV key) (by rfl) (fun w' hR => (kk8.below hR).1) (by rw [bV_size, hkl]) (fun _ _ _ h => h) (by rfl) ?_
  try simp only [Act.put, List.setIfInBounds_toArray, List.set_cons_zero, List.set_cons_succ]
  repeat' (first
    | (refine wpRel_quiet (v := ?_) rfl rfl (fun _ _ _ h => h) (by rfl) ?_ ?_
       rotate_left
       · (intro w' hR; go_simp; try rfl)
       simp only [Act.put, List.setIfInBounds_toArray, List.set_cons_zero, List.set_cons_succ])
    | fail)
  refine wpRel_step rfl rfl (by rfl) (fun K' hK => ?_)
  go_simp
  refine (hSt).mono ?_
  rintro e W10 ⟨rfl, S10, C10, b10⟩
  refine hK.out _ _ b10 ?_
  clear hK K'
  try simp only [Act.put, List.setIfInBounds_toArray, List.set_cons_zero, List.set_cons_succ]
  have hYb : IsBytes Y := by rw [← hY.out]; exact fitL_bytes 50 (hr.bytes.take 50)
  have hB10 := S10.bz hYb 50 hYl (by omega)
  replace B6 := B6.below b10
  replace B7' := B7'.below b10
  replace hg8 := hg8.below b10 hg8.lt
  clear hSt C8 kk8 b10 S10
  have hO := ropen_all key W10 hk hkl hB10.bs (by omega) hg8
  rw [hU.out, hV.out] at hO
  refine wpRel_step rfl rfl (by rfl) (fun K' hK => ?_)
  go_simp
  refine (hO).mono ?_
  rintro e W11 ⟨p11, c11, rfl, B11, b11⟩
  refine hK.out _ _ b11 ?_
  clear hK K'
  try simp only [Act.put, List.setIfInBounds_toArray, List.set_cons_zero, List.set_cons_succ]
  have C11 := C10.below b11
  replace B6 := B6.below b11
  replace B7' := B7'.below b11
  clear hO C10 b11 hB10
  repeat' (first
    | (refine wpRel_quiet (v := ?_) rfl rfl (fun _ _ _ h => h) (by rfl) ?_ ?_
       rotate_left
       · (intro w' hR; go_simp; try rfl)
       simp only [Act.put, List.setIfInBounds_toArray, List.set_cons_zero, List.set_cons_succ])
    | fail)
  refine wpRel_nil ?_
  rw [htl] at B6
  have hSa := same_self W11 B6 (ht.below C11.bel)
  have hSb := same_self W11 B7' B11
  have hAw := awake_any W11 (hq.below C11.bel hq.lt)
  go_wp2_with fail
  refine hSa.mono ?_
  rintro e W12 ⟨rfl, rfl⟩
  clear hSa
  go_wp2_with fail
  refine hSb.mono ?_
  rintro e W12 ⟨rfl, rfl⟩
  clear hSb
  go_wp2_with fail
  refine hAw.mono ?_
  rintro e W12 ⟨rfl, b12⟩
  have hbel := C11.bel.trans (b12.mono C11.bel.size)
  go_wp2_with fail
  go_ret
  exact ⟨rfl, hbel⟩
#print axioms penOthers_walk
end Go.Proofs.YtimeioajfggmlaaDoor
