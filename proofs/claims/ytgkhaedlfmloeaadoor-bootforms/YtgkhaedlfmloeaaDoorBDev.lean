
/- What calls of boot.placeOf, boot.Last and boot.Bump do: for every device in memory that has the two places. No conditions but those that each line states. -/
import Derived.Test.YtgkhaedlfmloeaaDoorBParse
namespace Go.Proofs.YtgkhaedlfmloeaaDoor
open Go.RowKit

/-! ### Records in blocks -/
theorem cntL_rec (n : Int) (t : List Int) (hn : 0 ≤ n ∧ n < 4294967296) : cntL (recL n ++ t) = n := by
  have e : ((recL n ++ t).drop 12).take 4 = putL n 4 := by
    unfold recL
    rw [List.append_assoc, List.drop_append_of_le_length (by rw [zL_length]; omega), List.drop_of_length_le (by rw [zL_length]; omega), List.nil_append, List.append_assoc, List.take_append_of_le_length (by rw [length_putL]; omega), List.take_of_length_le (by rw [length_putL]; omega)]
  unfold cntL
  rw [e, leNum_putL]
  omega
theorem recN_rec (n : Int) (k : Nat) (hn : 0 ≤ n ∧ n < 4294967296) : recN (recL n ++ zL k) = n := by
  have hc := cntL_rec n (zL k) hn
  by_cases h0 : n = 0
  · rw [recN_no (recOk_zero (by rw [hc]; exact h0)), h0]
  · have hl : (recL n ++ zL k).length = 24 + k := by rw [List.length_append, recL_length, zL_length]
    rw [recN_yes (recOk_at (by omega) (by rw [hc]; exact h0) _), hc]
    rw [decide_eq_true_eq, fullL, hc, hl, Nat.add_sub_cancel_left]
theorem fitL_rec (n : Int) (size : Nat) (h : 24 ≤ size) : fitL size (recL n) = recL n ++ zL (size - 24) := by
  unfold fitL
  rw [List.take_of_length_le (by rw [recL_length]; omega), recL_length]
theorem recN_fit (n : Int) (size : Nat) (h : 24 ≤ size) (hn : 0 ≤ n ∧ n < 4294967296) : recN (fitL size (recL n)) = n := by rw [fitL_rec n size h, recN_rec n _ hn]
theorem recN_nought (size : Nat) : recN (fitL size []) = 0 := by
  rw [fitL_nil]
  refine recN_no (recOk_zero ?_)
  unfold cntL
  have e : (zL size).drop 12 = zL (size - 12) := zL_drop _ _
  rw [e]
  have e2 : (zL (size - 12)).take 4 = List.replicate ((zL (size - 12)).take 4).length 0 := by
    refine List.eq_replicate_iff.2 ⟨rfl, fun b hb => ?_⟩
    obtain ⟨i, _, rfl⟩ := List.mem_map.1 (List.mem_of_mem_take hb)
    rfl
  rw [e2, leNum_zeros]
/-- A garbled record is none. -/
theorem recN_bad (n : Int) (size : Nat) (h : 24 ≤ size) : recN (badL (fitL size (recL n))) = 0 := by
  refine recN_no ?_
  have h0 : (badL (fitL size (recL n))).getD 0 0 = 165 := by
    rw [badL_getD _ _ (by rw [fitL_length]; omega), fitL_getD _ _ _ (by omega), show (recL n).getD 0 0 = 0 from rfl]
    decide
  have h1 : ¬ badL (fitL size (recL n)) = fullL (badL (fitL size (recL n))) := fun e => by
    have h2 := congrArg (fun l => l.getD 0 0) e
    simp only [h0] at h2
    have h3 : ∀ m t, (recL m ++ t).getD 0 0 = 0 := fun _ _ => rfl
    rw [fullL, h3] at h2
    exact absurd h2 (by decide)
  simp only [recOk, Bool.and_eq_false_iff, decide_eq_false_iff_not]
  exact .inr (.inr h1)
theorem recL_take (n : Int) (size : Nat) (h : 24 ≤ size) : (recL n).take size = recL n := List.take_of_length_le (by rw [recL_length]; omega)

/-! ### A row of the caller's own, beside a device -/
theorem Cl.own {w0 W W' : World} {Z : Own} {g : Nat} {D : DS} {E : TypeId} {k n c : Nat} {xs : List Int} (h : Cl w0 W Z g D) (ho : OwnS E W.heap.size W' (some ⟨k, 0, none⟩) n c xs) : Bz Z W' (some ⟨k, 0, none⟩) n c xs :=
  ⟨ho.bs, fun h0 p hp => by
    cases hp
    obtain ⟨k', e, h1, h2⟩ := ho.form h0
    cases e
    exact ⟨h2, fun hs => absurd (h.dk.lt _ hs) (Nat.not_lt.2 h1)⟩⟩
theorem Cl.read_int {w0 W : World} {Z : Own} {g : Nat} {D : DS} (h : Cl w0 W Z g D) (hl : ¬ D.left = 0) (hlim : D.tr.length < 1000000) (j : Int) (i : Nat) (hj : j = (i : Int)) (hi : i < D.n) (sz : Nat) (zs : List Int) (hs : D.size = sz) (hz : fitL sz (D.blk i).1.zs = zs) :
    Calls Tryd.prog 34 #[.pointer (some ⟨g, 0, none⟩), .int .i64 j] W fun e W' =>
      ∃ k Z', e = .returned (.slice (some ⟨k, 0, none⟩) sz sz) ∧ W.heap.size ≤ k ∧ Has Z' W' k (.cells (zs.map (Value.int .u8)).toArray 5 (0, 0)) ∧ Cl w0 W' Z' g (D.reads i) ∧ Step Z W Z' W' := by
  subst hj
  exact h.read hl hlim i hi sz zs hs hz
theorem Cl.write_int {w0 W : World} {Z : Own} {g : Nat} {D : DS} (h : Cl w0 W Z g D) (hl : ¬ D.left = 0) (hlim : D.tr.length < 1000000) (hlw : D.wait.length < 1000000) (j : Int) (i : Nat) (hj : j = (i : Int)) (hi : i < D.n) {a : Option Addr} {len cap : Nat} {zs : List Int} (hx : Bz Z W a len cap zs) (ys : List Int) (hy : zs.take D.size = ys) :
    Calls Tryd.prog 8 #[.pointer (some ⟨g, 0, none⟩), .int .i64 j, .slice a len cap] W fun e W' =>
      ∃ Z' x, e = .returned (.tuple #[]) ∧ Hid (x.zs = ys) ∧ Cl w0 W' Z' g (D.writes i x) ∧ Step Z W Z' W' := by
  subst hj
  exact h.write hl hlim hlw i hi hx ys hy

/-! ### The calls of package boot -/
/-- Where n is written. -/
def plB (n : Int) (i : Nat) : Nat := if n % 2 = 1 then i else i + 1
theorem place_any (n : Int) (i : Nat) (w : World) (hn : 0 ≤ n ∧ n < 4294967296) (hi : i < 1000000) : Calls Tryd.prog 33 #[.int .u32 n, .int .i64 (i : Int)] w fun e w' => e = .returned (.int .i64 (plB n i : Nat)) ∧ w = w' := by
  have hm : n.tmod 2 = n % 2 := Int.tmod_eq_emod_of_nonneg hn.1
  by_cases h : n % 2 = 1
  · have hp : plB n i = i := by simp [plB, h]
    have hb : (n % 2 == 1) = true := by simpa using h
    go_enter Tryd.func33, Tryd.ntmps33
    go_wp2_with fail
    go_ret
    exact ⟨by rw [hp]; rfl, rfl⟩
  · have hp : plB n i = i + 1 := by simp [plB, h]
    have hb : (n % 2 == 1) = false := by simpa using h
    go_enter Tryd.func33, Tryd.ntmps33
    go_wp2_with fail
    go_ret
    exact ⟨by rw [hp]; rfl, rfl⟩

/-- Both places are read. -/
def DS.looks (D : DS) (i : Nat) : DS := (D.reads i).reads (i + 1)
/-- What they tell. -/
def topN (D : DS) (i : Nat) : Int := max (recN (fitL D.size (D.blk i).1.zs)) (recN (fitL D.size (D.blk (i + 1)).1.zs))
theorem spendL_pos {l : Int} (h : ¬ l = 0) (h1 : ¬ l = 1) : ¬ spendL l = 0 := by
  unfold spendL
  split <;> omega

set_option maxHeartbeats 1000000 in
theorem last_ok {w0 W : World} {Z : Own} {g : Nat} {D : DS} (h : Cl w0 W Z g D) (hl : ¬ D.left = 0) (hl1 : ¬ D.left = 1) (hlim : D.tr.length < 999999) (i : Nat) (hi : i + 1 < D.n) (N : Int) (hN : topN D i = N) :
    Calls Tryd.prog 14 #[.pointer (some ⟨g, 0, none⟩), .int .i64 (i : Int)] W fun e W' => ∃ Z', e = .returned (.int .u32 N) ∧ Cl w0 W' Z' g (D.looks i) ∧ Step Z W Z' W' := by
  obtain ⟨gb, wv, tv, hd⟩ := h.dk
  have hsz := hd.size
  have hn := hd.n
  have hb1 := fitL_bytes D.size (hd.okb i (by omega)).1.bs.bytes
  have hb2 := fitL_bytes D.size (hd.okb (i + 1) (by omega)).1.bs.bytes
  have hl1' := fitL_length D.size (D.blk i).1.zs
  have hl2' := fitL_length D.size (D.blk (i + 1)).1.zs
  clear hd
  have HT := hide hN
  unfold topN at HT
  clear hN
  have hR1 := h.read hl (by omega) i (by omega) D.size _ rfl rfl
  generalize fitL D.size (D.blk i).1.zs = X at *
  go_enter Tryd.func14, Tryd.ntmps14
  go_wp2_with fail
  refine hR1.mono ?_
  rintro e W1 ⟨k1, Z1, rfl, _, A1, C1, s1⟩
  have B1 := (A1.bz hb1 D.size hl1' (by omega)).bs
  go_wp2_with fail
  refine (parse_any W1 B1 (by omega)).mono ?_
  rintro e W2 ⟨rfl, b2⟩
  have C2 := C1.below b2
  have s2 := s1.trans (Step.of_below Z1 b2)
  clear hR1 A1 B1 C1 s1 b2
  have hR2 := C2.read_int (spendL_pos hl hl1) (show (D.tr ++ [_]).length < 1000000 by rw [List.length_append]; simp; omega) ((i : Int) + 1) (i + 1) (by omega) hi D.size _ rfl rfl
  have e2 : fitL D.size ((D.reads i).blk (i + 1)).1.zs = fitL D.size (D.blk (i + 1)).1.zs := rfl
  rw [e2] at hR2
  clear e2
  generalize fitL D.size (D.blk (i + 1)).1.zs = Y at *
  have hx := recN_lt hb1
  have hy := recN_lt hb2
  obtain ⟨x, hxx⟩ : ∃ x, Hid (recN X = x) := ⟨_, hide rfl⟩
  obtain ⟨y, hyy⟩ : ∃ y, Hid (recN Y = y) := ⟨_, hide rfl⟩
  rw [hxx.out] at hx ⊢
  rw [hyy.out] at hy
  go_wp2_with fail
  refine hR2.mono ?_
  rintro e W3 ⟨k3, Z3, rfl, _, A3, C3, s3⟩
  have B3 := (A3.bz hb2 D.size hl2' (by omega)).bs
  have s3' := s2.trans s3
  clear s3 s2 hR2 C2
  go_wp2_with fail
  refine (parse_any W3 B3 (by omega)).mono ?_
  rintro e W4 ⟨rfl, b4⟩
  have C4 := C3.below b4
  have s4 := s3'.trans (Step.of_below Z3 b4)
  rw [hyy.out]
  clear A3 B3 C3 s3' b4
  go_wp2_with fail
  go_ret
  refine ⟨_, ?_, C4, s4⟩
  rw [← HT.out, hxx.out, hyy.out]
  rfl

set_option maxHeartbeats 1000000 in
theorem last_no {w0 W : World} {Z : Own} {g : Nat} {D : DS} {p : Addr} (h : Cl w0 W Z g D) (hp : Pow p w0) (hl : D.left = 0) (i : Nat) :
    Calls Tryd.prog 14 #[.pointer (some ⟨g, 0, none⟩), .int .i64 (i : Int)] W fun e W' => e = .panicked [{ v := errV p, recovered := false }] ∧ W = W' := by
  have hR1 := read_no h.dk (h.pow hp) hl (i : Int)
  clear h hp
  go_enter Tryd.func14, Tryd.ntmps14
  go_wp2_with fail
  refine hR1.mono ?_
  rintro e W1 ⟨rfl, rfl⟩
  go_wp2_with fail
  exact ⟨rfl, rfl, rfl⟩
set_option maxHeartbeats 1000000 in
theorem last_mid {w0 W : World} {Z : Own} {g : Nat} {D : DS} {p : Addr} (h : Cl w0 W Z g D) (hp : Pow p w0) (hl : D.left = 1) (hlim : D.tr.length < 999999) (i : Nat) (hi : i + 1 < D.n) :
    Calls Tryd.prog 14 #[.pointer (some ⟨g, 0, none⟩), .int .i64 (i : Int)] W fun e W' => ∃ Z', e = .panicked [{ v := errV p, recovered := false }] ∧ Cl w0 W' Z' g (D.reads i) ∧ Step Z W Z' W' := by
  obtain ⟨gb, wv, tv, hd⟩ := h.dk
  have hsz := hd.size
  have hn := hd.n
  have hb1 := fitL_bytes D.size (hd.okb i (by omega)).1.bs.bytes
  have hl1' := fitL_length D.size (D.blk i).1.zs
  clear hd
  have hR1 := h.read (by omega) (by omega) i (by omega) D.size _ rfl rfl
  generalize fitL D.size (D.blk i).1.zs = X at *
  go_enter Tryd.func14, Tryd.ntmps14
  go_wp2_with fail
  refine hR1.mono ?_
  rintro e W1 ⟨k1, Z1, rfl, _, A1, C1, s1⟩
  have B1 := (A1.bz hb1 D.size hl1' (by omega)).bs
  go_wp2_with fail
  refine (parse_any W1 B1 (by omega)).mono ?_
  rintro e W2 ⟨rfl, b2⟩
  have C2 := C1.below b2
  have s2 := s1.trans (Step.of_below Z1 b2)
  clear hR1 A1 B1 C1 s1 b2
  have hR2 := read_no C2.dk (C2.pow hp) (show spendL D.left = 0 by rw [hl]; rfl) ((i : Int) + 1)
  go_wp2_with fail
  refine hR2.mono ?_
  rintro e W3 ⟨rfl, rfl⟩
  go_wp2_with fail
  exact ⟨rfl, _, rfl, C2, s2⟩
theorem Cl.topN_lt {w0 W : World} {Z : Own} {g : Nat} {D : DS} (h : Cl w0 W Z g D) (i : Nat) (hi : i + 1 < D.n) : 0 ≤ topN D i ∧ topN D i < 4294967296 := by
  obtain ⟨gb, wv, tv, hd⟩ := h.dk
  have h1 := recN_lt (fitL_bytes D.size (hd.okb i (by omega)).1.bs.bytes)
  have h2 := recN_lt (fitL_bytes D.size (hd.okb (i + 1) (by omega)).1.bs.bytes)
  unfold topN
  omega
theorem spendL_far {l : Int} (k : Int) (h : l < 0 ∨ k + 1 ≤ l) : spendL l < 0 ∨ k ≤ spendL l := by
  unfold spendL
  split <;> omega
theorem looks_left (D : DS) (i : Nat) : (D.looks i).left = spendL (spendL D.left) := rfl
theorem looks_len (D : DS) (i : Nat) : (D.looks i).tr.length = D.tr.length + 2 := by
  show ((D.tr ++ [_]) ++ [_]).length = _
  simp
theorem writes_len (D : DS) (i : Nat) (x : BV) : (D.writes i x).tr.length = D.tr.length + 1 := by
  show (D.tr ++ [_]).length = _
  simp
theorem writes_left (D : DS) (i : Nat) (x : BV) : (D.writes i x).left = spendL D.left := rfl
theorem plB_lt (n : Int) (i m : Nat) (h : i + 1 < m) : plB n i < m := by unfold plB; split <;> omega

set_option maxHeartbeats 1000000 in
theorem bump_ok {w0 W : World} {Z : Own} {g : Nat} {D : DS} (h : Cl w0 W Z g D) (hl : D.left < 0 ∨ 4 ≤ D.left) (hlim : D.tr.length < 999000) (hlw : D.wait.length < 1000000) (hs24 : 24 ≤ D.size) (i : Nat) (hi : i + 1 < D.n) (hi6 : i < 1000000) (N : Int) (hN : topN D i = N) (hN2 : N < 4294967295) :
    Calls Tryd.prog 12 #[.pointer (some ⟨g, 0, none⟩), .int .i64 (i : Int)] W fun e W' => ∃ Z' x, e = .returned (.tuple #[.int .u32 (N + 1), .int .i64 0]) ∧ Hid (x.zs = recL (N + 1)) ∧ Cl w0 W' Z' g ((D.looks i).writes (plB (N + 1) i) x).flush ∧ Step Z W Z' W' := by
  have hNb := h.topN_lt i hi
  rw [hN] at hNb
  have hL := last_ok h (by omega) (by omega) (by omega) i hi N hN
  have hne : (N == 4294967295) = false := by simp; omega
  have hw : IntKind.u32.wrap (N + 1) = N + 1 := by simp [IntKind.wrap, IntKind.bits, IntKind.signed]; omega
  have hx0 : (D.looks i).left < 0 ∨ 2 ≤ (D.looks i).left := by
    rw [looks_left]
    exact spendL_far 2 (spendL_far 3 (by omega))
  have hx1 : ¬ (D.looks i).left = 0 := by omega
  have hx2 : ¬ spendL (D.looks i).left = 0 := by
    have := spendL_far 1 hx0
    omega
  have hlen := looks_len D i
  have hw1 : (D.looks i).wait.length < 1000000 := hlw
  have hsz : (D.looks i).size = D.size := rfl
  have hpl := plB_lt (N + 1) i (D.looks i).n hi
  clear h hN
  go_enter Tryd.func12, Tryd.ntmps12
  go_wp2_with fail
  refine hL.mono ?_
  rintro e W1 ⟨Z1, rfl, C1, s1⟩
  clear hL
  go_wp2_with fail
  refine (place_any (N + 1) i W1 (by omega) hi6).mono ?_
  rintro e W1' ⟨rfl, rfl⟩
  go_wp2_with fail
  refine (rec_any (N + 1) W1 (by omega)).mono ?_
  rintro e W2 ⟨gr, cr, rfl, hR, b2⟩
  have hB := C1.own hR
  have C2 := C1.below b2
  have s2 := s1.trans (Step.of_below Z1 b2)
  have hW := C2.write hx1 (by omega) hw1 (plB (N + 1) i) hpl hB (recL (N + 1)) (recL_take _ _ (by omega))
  clear hR hB C1 s1 b2
  go_wp2_with fail
  refine hW.mono ?_
  rintro e W3 ⟨Z3, x, rfl, hx, C3, s3⟩
  have s3' := s2.trans s3
  have hF := C3.flush hx2 (by rw [writes_len]; omega)
  clear hW C2 s2 s3
  go_wp2_with fail
  refine hF.mono ?_
  rintro e W4 ⟨Z4, rfl, C4, s4⟩
  go_wp2_with fail
  go_ret2
  exact ⟨Z4, x, rfl, hx, C4, s3'.trans s4⟩

set_option maxHeartbeats 1000000 in
theorem bump_full {w0 W : World} {Z : Own} {g : Nat} {D : DS} (h : Cl w0 W Z g D) (hl : ¬ D.left = 0) (hl1 : ¬ D.left = 1) (hlim : D.tr.length < 999000) (i : Nat) (hi : i + 1 < D.n) (hN : topN D i = 4294967295) :
    Calls Tryd.prog 12 #[.pointer (some ⟨g, 0, none⟩), .int .i64 (i : Int)] W fun e W' => ∃ Z', e = .returned (.tuple #[.int .u32 0, .int .i64 5]) ∧ Cl w0 W' Z' g (D.looks i) ∧ Step Z W Z' W' := by
  have hL := last_ok h hl hl1 (by omega) i hi _ hN
  clear h hN
  go_enter Tryd.func12, Tryd.ntmps12
  go_wp2_with fail
  refine hL.mono ?_
  rintro e W1 ⟨Z1, rfl, C1, s1⟩
  clear hL
  go_wp2_with fail
  go_ret2
  exact ⟨Z1, rfl, C1, s1⟩

/-- What is left of a beginning that the power ended: nothing but what was read, or what was written and not flushed. -/
def Cutoff (D : DS) (i : Nat) (N : Int) (D' : DS) : Prop := D' = D ∨ D' = D.reads i ∨ D' = D.looks i ∨ ∃ x : BV, x.zs = recL (N + 1) ∧ D' = (D.looks i).writes (plB (N + 1) i) x
set_option maxHeartbeats 1000000 in
theorem bump_cut {w0 W : World} {Z : Own} {g : Nat} {D : DS} {p : Addr} (h : Cl w0 W Z g D) (hp : Pow p w0) (hl : D.left = 0 ∨ D.left = 1 ∨ D.left = 2 ∨ D.left = 3) (hlim : D.tr.length < 999000) (hlw : D.wait.length < 1000000) (hs24 : 24 ≤ D.size) (i : Nat) (hi : i + 1 < D.n) (hi6 : i < 1000000) (N : Int) (hN : topN D i = N) (hN2 : N < 4294967295) :
    Calls Tryd.prog 12 #[.pointer (some ⟨g, 0, none⟩), .int .i64 (i : Int)] W fun e W' => ∃ Z' D', e = .panicked [{ v := errV p, recovered := false }] ∧ Cutoff D i N D' ∧ D'.left = 0 ∧ Cl w0 W' Z' g D' ∧ Step Z W Z' W' := by
  have hNb := h.topN_lt i hi
  rw [hN] at hNb
  rcases hl with hl | hl | hl
  · have hL := last_no h hp hl i
    go_enter Tryd.func12, Tryd.ntmps12
    go_wp2_with fail
    refine hL.mono ?_
    rintro e W1 ⟨rfl, rfl⟩
    go_wp2_with fail
    exact ⟨rfl, _, _, rfl, .inl rfl, hl, h, Step.refl _ _⟩
  · have hL := last_mid h hp hl (by omega) i hi
    go_enter Tryd.func12, Tryd.ntmps12
    go_wp2_with fail
    refine hL.mono ?_
    rintro e W1 ⟨Z1, rfl, C1, s1⟩
    go_wp2_with fail
    exact ⟨rfl, _, _, rfl, .inr (.inl rfl), by show spendL D.left = 0; rw [hl]; rfl, C1, s1⟩
  · have hL := last_ok h (by omega) (by omega) (by omega) i hi N hN
    have hne : (N == 4294967295) = false := by simp; omega
    have hw : IntKind.u32.wrap (N + 1) = N + 1 := by simp [IntKind.wrap, IntKind.bits, IntKind.signed]; omega
    have hlen := looks_len D i
    have hw1 : (D.looks i).wait.length < 1000000 := hlw
    have hsz : (D.looks i).size = D.size := rfl
    have hpl := plB_lt (N + 1) i (D.looks i).n hi
    have hll : (D.left = 2 ∧ (D.looks i).left = 0) ∨ (D.left = 3 ∧ ¬ (D.looks i).left = 0 ∧ spendL (D.looks i).left = 0) := by
      rw [looks_left]
      rcases hl with hl | hl
      · left; rw [hl]; exact ⟨rfl, rfl⟩
      · right; rw [hl]; exact ⟨rfl, by decide, by decide⟩
    have HC1 : Hid (Cutoff D i N (D.looks i)) := .inr (.inr (.inl rfl))
    have HC2 : Hid (∀ x : BV, x.zs = recL (N + 1) → Cutoff D i N ((D.looks i).writes (plB (N + 1) i) x)) := fun x hx => .inr (.inr (.inr ⟨x, hx, rfl⟩))
    clear h hN hl
    go_enter Tryd.func12, Tryd.ntmps12
    go_wp2_with fail
    refine hL.mono ?_
    rintro e W1 ⟨Z1, rfl, C1, s1⟩
    clear hL
    generalize D.looks i = D1 at *
    go_wp2_with fail
    refine (place_any (N + 1) i W1 (by omega) hi6).mono ?_
    rintro e W1' ⟨rfl, rfl⟩
    go_wp2_with fail
    refine (rec_any (N + 1) W1 (by omega)).mono ?_
    rintro e W2 ⟨gr, cr, rfl, hR, b2⟩
    have hB := C1.own hR
    have C2 := C1.below b2
    have s2 := s1.trans (Step.of_below Z1 b2)
    clear hR C1 s1 b2
    generalize plB (N + 1) i = pl at *
    rcases hll with ⟨hl, hl0⟩ | ⟨hl, hx1, hx2⟩
    · have hW := write_no C2.dk (C2.pow hp) hl0 (pl : Int) (.slice (some ⟨gr, 0, none⟩) 24 cr)
      clear hB
      go_wp2_with fail
      refine hW.mono ?_
      rintro e W3 ⟨rfl, rfl⟩
      go_wp2_with fail
      exact ⟨rfl, _, _, rfl, HC1.out, hl0, C2, s2⟩
    · have hW := C2.write hx1 (by omega) hw1 pl hpl hB (recL (N + 1)) (recL_take _ _ (by omega))
      clear hB
      go_wp2_with fail
      refine hW.mono ?_
      rintro e W3 ⟨Z3, x, rfl, hx, C3, s3⟩
      have s3' := s2.trans s3
      have hF := flush_no C3.dk (C3.pow hp) (show (D1.writes pl x).left = 0 from hx2)
      clear hW C2 s2 s3
      go_wp2_with fail
      refine hF.mono ?_
      rintro e W4 ⟨rfl, rfl⟩
      go_wp2_with fail
      exact ⟨rfl, _, _, rfl, HC2.out x hx.out, hx2, C3, s3'⟩
#print axioms bump_ok
#print axioms bump_cut
end Go.Proofs.YtgkhaedlfmloeaaDoor
