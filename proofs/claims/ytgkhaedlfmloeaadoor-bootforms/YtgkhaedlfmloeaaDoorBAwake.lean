
/- What a beginning makes of what a device tells; what a call of dumbwaiterlaw8.awake does: it answers true; nothing that was there is turned. -/
import Derived.Test.YtgkhaedlfmloeaaDoorBDev
namespace Go.Proofs.YtgkhaedlfmloeaaDoor
open Go.RowKit

/-! ### What a beginning leaves -/
/-- What is told once a number was had. -/
def DS.begun (D : DS) (i : Nat) (n : Int) (x : BV) : DS := ((D.looks i).writes (plB n i) x).flush
theorem begun_blk {D : DS} {i : Nat} {n : Int} {x : BV} (hw : D.wait = []) (j : Nat) : (D.begun i n x).blk j = if j = plB n i then (x, x) else D.blk j := by
  show flushN (updW D.blk (plB n i) x) (D.wait ++ [(plB n i, x)]) j = _
  rw [hw]
  show updF (updW D.blk (plB n i) x) (plB n i) x j = _
  unfold updF updW
  by_cases h : j = plB n i
  · simp [h]
  · simp [h]
theorem plB_or (n : Int) (i : Nat) : plB n i = i ∨ plB n i = i + 1 := by unfold plB; split <;> simp
theorem max_up {a b N : Int} (h : max a b = N) : max (N + 1) b = N + 1 ∧ max a (N + 1) = N + 1 := by omega
theorem topN_put {D D' : DS} {i pl : Nat} {N M : Int} (hs : D'.size = D.size) (hp : pl = i ∨ pl = i + 1) (ho : ∀ j, j ≠ pl → (D'.blk j).1.zs = (D.blk j).1.zs) (hx : recN (fitL D.size (D'.blk pl).1.zs) = M) (hN : topN D i = N) (hM : N ≤ M) : topN D' i = M := by
  unfold topN at *
  rw [hs]
  rcases hp with rfl | rfl
  · rw [hx, ho (pl + 1) (by omega)]
    omega
  · rw [hx, ho i (by omega)]
    omega
theorem topN_begun {D : DS} {i : Nat} {N : Int} {x : BV} (hw : D.wait = []) (hs : 24 ≤ D.size) (hx : x.zs = recL (N + 1)) (hN : topN D i = N) (h0 : 0 ≤ N) (h1 : N < 4294967295) : topN (D.begun i (N + 1) x) i = N + 1 :=
  topN_put (D := D) rfl (plB_or (N + 1) i) (fun j hj => by rw [begun_blk hw, if_neg hj]) (by rw [begun_blk hw, if_pos rfl, hx, recN_fit _ _ hs (by omega)]) hN (by omega)
theorem begun_len (D : DS) (i : Nat) (n : Int) (x : BV) : (D.begun i n x).tr.length = D.tr.length + 4 := by
  show ((((D.tr ++ [_]) ++ [_]) ++ [_]) ++ [_]).length = _
  simp
theorem begun_left (D : DS) (i : Nat) (n : Int) (x : BV) (h : D.left = -1) : (D.begun i n x).left = -1 := by
  show spendL (spendL (spendL (spendL D.left))) = -1
  rw [h]; rfl
theorem topN_new (n size i : Nat) : topN (DS.new n size) i = 0 := by
  show max (recN (fitL size [])) (recN (fitL size [])) = 0
  rw [recN_nought]; rfl

/-- A beginning where the power stays. -/
theorem bump_at {w0 W : World} {Z : Own} {g : Nat} {D : DS} (h : Cl w0 W Z g D) (hl : D.left = -1) (hlim : D.tr.length < 999000) (hw : D.wait = []) (hs24 : 24 ≤ D.size) (i : Nat) (hi : i + 1 < D.n) (hi6 : i < 1000000) (N : Int) (hN : topN D i = N) (hN2 : N < 4294967295) :
    Calls Tryd.prog 12 #[.pointer (some ⟨g, 0, none⟩), .int .i64 (i : Int)] W fun e W' => ∃ Z' x, e = .returned (.tuple #[.int .u32 (N + 1), .int .i64 0]) ∧ Hid (x.zs = recL (N + 1)) ∧ Hid (topN (D.begun i (N + 1) x) i = N + 1) ∧ Cl w0 W' Z' g (D.begun i (N + 1) x) ∧ Step Z W Z' W' := by
  have hNb := h.topN_lt i hi
  refine (bump_ok h (.inl (by omega)) hlim (by rw [hw]; simp) hs24 i hi hi6 N hN hN2).mono ?_
  rintro e W' ⟨Z', x, rfl, hx, C, s⟩
  exact ⟨Z', x, rfl, hx, topN_begun hw hs24 hx.out hN (by omega) hN2, C, s⟩

set_option maxRecDepth 100000 in
set_option maxHeartbeats 4000000 in
theorem awake_any (w : World) : Calls Tryd.prog 15 #[] w fun e w' => e = .returned (.bool true) ∧ Below w.heap.size w w' := by
  go_enter Tryd.func15, Tryd.ntmps15
  go_wp2_with fail
  refine (new_any 4 30 4 30 rfl rfl w).mono ?_
  rintro e W ⟨g, Z, rfl, hD, hF, hB⟩
  have C : Cl w W Z g (DS.new 4 30) := ⟨hD, hF, hB⟩
  clear hD hF hB
  go_wp2_with fail
  refine (bump_at C rfl (of_decide_eq_true rfl) rfl (of_decide_eq_true rfl) 1 (of_decide_eq_true rfl) (by omega) 0 (topN_new _ _ _) (by omega)).mono ?_
  rintro e W1 ⟨Z1, x1, rfl, hx1, hT1, C1, s1⟩
  have hl1 := begun_left (DS.new 4 30) 1 (0 + 1) x1 rfl
  have hn1 := begun_len (DS.new 4 30) 1 (0 + 1) x1
  clear s1 C
  have e1 : ((DS.new 4 30).begun 1 (0 + 1) x1).wait = [] ∧ ((DS.new 4 30).begun 1 (0 + 1) x1).size = 30 ∧ ((DS.new 4 30).begun 1 (0 + 1) x1).n = 4 := ⟨rfl, rfl, rfl⟩
  generalize (DS.new 4 30).begun 1 (0 + 1) x1 = D1 at *
  replace hn1 : D1.tr.length = 4 := hn1
  go_wp2_with fail
  refine (bump_at C1 hl1 (by omega) e1.1 (by omega) 1 (by omega) (by omega) 1 hT1.out (by omega)).mono ?_
  rintro e W2 ⟨Z2, x2, rfl, hx2, hT2, C2, s2⟩
  have hl2 := begun_left D1 1 (1 + 1) x2 hl1
  have hn2 := begun_len D1 1 (1 + 1) x2
  have e2 : (D1.begun 1 (1 + 1) x2).wait = [] ∧ (D1.begun 1 (1 + 1) x2).size = 30 ∧ (D1.begun 1 (1 + 1) x2).n = 4 := ⟨rfl, e1.2.1, e1.2.2⟩
  clear s2 C1
  generalize D1.begun 1 (1 + 1) x2 = D2 at *
  rw [hn1] at hn2
  go_wp2_with fail
  refine (rec_any 7 W2 (by omega)).mono ?_
  rintro e W3 ⟨g3, c3, rfl, hR3, b3⟩
  have C3 := C2.below b3
  have hP := parse_any W3 hR3.bs (by omega)
  have h7 : recOk (recL 7) = true := by kernel_rfl
  have h7' : recN (recL 7) = 7 := by have := recN_rec 7 0 (by omega); simpa [zL, rowL] using this
  rw [h7, h7'] at hP
  clear b3 hR3 C2 h7 h7'
  go_wp2_with fail
  refine hP.mono ?_
  rintro e W4 ⟨rfl, b4⟩
  have C4 := C3.below b4
  clear b4 C3 hP
  go_wp2_with fail
  refine (rec_any 4294967295 W4 (by omega)).mono ?_
  rintro e W5 ⟨g5, c5, rfl, hR5, b5⟩
  have C5 := C4.below b5
  have hB5 := C4.own hR5
  have hW := C5.write (by omega) (by omega) (by rw [e2.1]; simp) 1 (by omega) hB5 (recL 4294967295) (recL_take _ _ (by omega))
  clear b5 hR5 hB5 C4
  go_wp2_with fail
  refine hW.mono ?_
  rintro e W6 ⟨Z6, x6, rfl, hx6, C6, s6⟩
  have hT6 : topN (D2.writes 1 x6) 1 = 4294967295 := topN_put (D := D2) (pl := 1) rfl (.inl rfl) (fun j hj => by show ((updW D2.blk 1 x6 j).1).zs = _; unfold updW; rw [if_neg hj]) (by show recN (fitL D2.size ((updW D2.blk 1 x6 1).1).zs) = _; unfold updW; rw [if_pos rfl, hx6.out, recN_fit _ _ (by omega) (by omega)]) hT2.out (by omega)
  have hl6 : (D2.writes 1 x6).left = -1 := by rw [writes_left, hl2]; rfl
  have hn6 := writes_len D2 1 x6
  have e6 : (D2.writes 1 x6).size = 30 ∧ (D2.writes 1 x6).n = 4 := e2.2
  clear s6 C5 hW
  generalize D2.writes 1 x6 = D6 at *
  rw [hn2] at hn6
  go_wp2_with fail
  refine (bump_full C6 (by omega) (by omega) (by omega) 1 (by omega) hT6).mono ?_
  rintro e W7 ⟨Z7, rfl, C7, s7⟩
  have hT7 : topN (D6.looks 1) 1 = 4294967295 := hT6
  have hl7 : (D6.looks 1).left = -1 := by rw [looks_left, hl6]; rfl
  have hn7 := looks_len D6 1
  have e7 : (D6.looks 1).size = 30 ∧ (D6.looks 1).n = 4 := e6
  clear s7 C6 hT6
  generalize D6.looks 1 = D7 at *
  rw [hn6] at hn7
  have hL := hide (last_ok C7 (by omega) (by omega) (by omega) 1 (by omega) _ hT7)
  go_wp2_with fail
  refine hL.out.mono ?_
  rintro e W8 ⟨Z8, rfl, C8, s8⟩
  have hn8 := looks_len D7 1
  have e8 : (D7.looks 1).size = 30 := e7.1
  clear s8 C7 hL hT7
  generalize D7.looks 1 = D8 at *
  rw [hn7] at hn8
  have hTr := hide (C8.trace (by omega) 13 30 (by omega) e8)
  clear C8
  go_wp2_with fail
  refine hTr.out.mono ?_
  rintro e W9 ⟨rfl, _, C9, _⟩
  have b9 := C9.bel
  go_wp2_with fail
  go_ret
  exact ⟨rfl, b9⟩
#print axioms awake_any
end Go.Proofs.YtgkhaedlfmloeaaDoor
