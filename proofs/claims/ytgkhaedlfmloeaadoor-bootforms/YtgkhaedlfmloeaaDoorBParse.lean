
/- What calls of bytes.Equal, boot.Parse, dumbwaiterref6.Parse and dumbwaiterref6.Garbled do: for every slice of bytes that can be read, the latter ones up to a bound on its length; nothing that was there is turned. -/
import Derived.Test.YtgkhaedlfmloeaaDoorBRec
namespace Go.Proofs.YtgkhaedlfmloeaaDoor
open Go.RowKit

theorem equal_any {a b : Option Addr} {n c m d : Nat} {xs ys : List Int} (w : World) (hx : Bs w a n c xs) (hy : Bs w b m d ys) :
    Calls Tryd.prog 36 #[.slice a n c, .slice b m d] w fun e w' => e = .returned (.bool (decide (xs = ys))) ∧ w = w' := by
  have h1 := str_bytes hx
  have h2 := str_bytes hy
  have HE := str_eq hx.bytes hy.bytes
  have H : RowKit.Hid (((strOfNums xs).toList == (strOfNums ys).toList) = decide (xs = ys)) := HE
  clear HE
  go_enter Tryd.func36, Tryd.ntmps36
  go_wp2_with fail
  go_ret
  refine ⟨?_, rfl⟩
  rw [← H.out]
  rfl

/-- The number that a row of bytes tells, where it is a record. -/
def cntL (zs : List Int) : Int := leNum ((zs.drop 12).take 4)
theorem cntL_lt {zs : List Int} (h : IsBytes zs) : 0 ≤ cntL zs ∧ cntL zs < 4294967296 := by
  have h1 := leNum_lt ((zs.drop 12).take 4) ((h.drop 12).take 4)
  have h2 : ((zs.drop 12).take 4).length ≤ 4 := by simp; omega
  have h3 : (256 : Nat) ^ ((zs.drop 12).take 4).length ≤ 4294967296 := Nat.le_trans (Nat.pow_le_pow_right (by decide) h2) (by decide)
  have h4 : ((256 ^ ((zs.drop 12).take 4).length : Nat) : Int) = (256 : Int) ^ ((zs.drop 12).take 4).length := Int.natCast_pow 256 _
  unfold cntL
  omega
def fullL (zs : List Int) : List Int := recL (cntL zs) ++ zL (zs.length - 24)
def recOk (zs : List Int) : Bool := decide (24 ≤ zs.length) && (!(decide (cntL zs = 0)) && decide (zs = fullL zs))
def recN (zs : List Int) : Int := if recOk zs then cntL zs else 0
theorem recOk_short {zs : List Int} (h : zs.length < 24) : recOk zs = false := by
  simp only [recOk, Bool.and_eq_false_iff, decide_eq_false_iff_not]
  exact .inl (by omega)
theorem recOk_zero {zs : List Int} (h : cntL zs = 0) : recOk zs = false := by simp [recOk, h]
theorem recOk_at {zs : List Int} {E : Bool} (h : 24 ≤ zs.length) (h0 : ¬ cntL zs = 0) (hE : decide (zs = fullL zs) = E) : recOk zs = E := by
  subst hE
  simp [recOk, h, h0]
theorem recN_no {zs : List Int} (h : recOk zs = false) : recN zs = 0 := by simp [recN, h]
theorem recN_yes {zs : List Int} (h : recOk zs = true) : recN zs = cntL zs := by simp [recN, h]
theorem recN_lt {zs : List Int} (h : IsBytes zs) : 0 ≤ recN zs ∧ recN zs < 4294967296 := by
  have := cntL_lt h
  unfold recN
  split <;> omega
theorem splice_rec (n : Int) (len : Nat) : splice (zL len) 0 ((recL n).take 24) = recL n ++ zL (len - 24) := by
  unfold splice
  rw [List.take_zero, List.nil_append, zL_drop, List.take_of_length_le (l := recL n) (by rw [recL_length]; omega), recL_length, Nat.zero_add]
theorem ret_two {n m : Int} {a b : Bool} (h1 : n = m) (h2 : a = b) : Ending.returned (.tuple #[.int .u32 n, .bool a]) = .returned (.tuple #[.int .u32 m, .bool b]) := by rw [h1, h2]
theorem Bs.mid {w : World} {a : Option Addr} {len cap : Nat} {zs : List Int} (h : Bs w a len cap zs) (hl : 24 ≤ len) : Bs w (cutA a cap 12) 4 (cap - 12) ((zs.drop 12).take 4) := (h.cut 12 (by omega)).taken 4 (by omega)

set_option maxHeartbeats 1000000 in
theorem parse_any {a : Option Addr} {len cap : Nat} {zs : List Int} (w : World) (h : Bs w a len cap zs) (hl : len ≤ 281474976710656) :
    Calls Tryd.prog 18 #[.slice a len cap] w fun e w' => e = .returned (.tuple #[.int .u32 (recN zs), .bool (recOk zs)]) ∧ Below w.heap.size w w' := by
  have hz := h.length
  have hlc := h.le_cap
  by_cases h24 : len < 24
  · have hno := recOk_short (zs := zs) (by omega)
    go_enter Tryd.func18, Tryd.ntmps18
    go_wp2_with fail
    go_ret2
    exact ⟨ret_two (recN_no hno).symm hno.symm, Below.refl _ _⟩
  · have hs1 : ∀ w, (Instr.slice 26 (.slice a len cap) (some (.int .i64 12)) (some (.int .i64 16)) none).run Tryd.prog w = .ok (.slice (cutA a cap 12) 4 (cap - 12)) w := run_cut_mid (P := Tryd.prog) Tryd.underlying26 Tryd.size_u8 a len cap .i64 .i64 12 16 12 16 rfl rfl (by omega) (by omega)
    have hM := h.mid (by omega)
    have hN : Hid (leNum (((zs.drop 12).take 4).take 8) = cntL zs) := by
      show _ = _
      rw [List.take_take]
      rfl
    have hN2 := cntL_lt h.bytes
    have hL : Hid (decide (zs = fullL zs) = decide (zs = recL (cntL zs) ++ zL (len - 24))) := by
      show _ = _
      rw [fullL, hz]
    have hOk : Hid (∀ E, decide (zs = fullL zs) = E → ¬ cntL zs = 0 → recOk zs = E) := fun E hE h0 => recOk_at (by omega) h0 hE
    have hZr : Hid (cntL zs = 0 → recOk zs = false) := recOk_zero
    have hNo : Hid (recOk zs = false → recN zs = 0) := recN_no
    have hYes : Hid (recOk zs = true → recN zs = cntL zs) := recN_yes
    obtain ⟨n, hn⟩ : ∃ n, n = cntL zs := ⟨_, rfl⟩
    rw [← hn] at hN hN2 hL hOk hZr hYes
    clear hn
    have hw32 : IntKind.u32.wrap n = n := by simp [IntKind.wrap, IntKind.bits, IntKind.signed]; omega
    have hmk := run_make_row' (P := Tryd.prog) 26 5 (.int .u8 0) 1 Tryd.underlying26 Tryd.info_u8 rfl .i64 .i64 len (by omega) (by omega) w
    generalize cutA a cap 12 = q at *
    go_enter Tryd.func18, Tryd.ntmps18
    go_wp2_with fail
    refine (get_any w hM).mono ?_
    rintro e w' ⟨rfl, rfl⟩
    rw [hN.out]
    go_wp2_with fail
    have b1 : Below w.heap.size w (w.alloc (Obj.cells (madeCells #[Value.int .u8 0] len) 5)) := below_alloc (Below.refl _ _) _
    have hZ := made_zB w len 5
    generalize (w.alloc (Obj.cells (madeCells #[Value.int .u8 0] len) 5)) = W1 at *
    refine (rec_any n W1 hN2).mono ?_
    rintro e W2 ⟨gr, cr, rfl, hR, b2⟩
    have hZ2 := hZ.below b2
    obtain ⟨W3, hr3, hP3, ho3⟩ := run_copy_bytes (P := Tryd.prog) Tryd.underlying26 Tryd.size_u8 3 W2 (some ⟨w.heap.size, 0, none⟩) (some ⟨gr, 0, none⟩) len len 24 cr w.heap.size 0 24 (zL len) _ hZ2 (by omega) (.inr rfl) hR.bs (by rw [zL_length]; omega)
    rw [splice_rec n len] at hP3
    have b3 := ho3.below (b1.trans (b2.mono b1.size)) (Nat.le_refl _)
    have hB3 := h.below b3
    have hF3 := hP3.bs ((recL_bytes n).append (zL_bytes _)) len (by rw [List.length_append, recL_length, zL_length]; omega) (by omega)
    clear hZ hZ2 hR hP3 ho3 b1 b2 hM hmk hs1
    by_cases h0 : n = 0
    · subst h0
      have hno := hZr.out rfl
      go_wp2_with fail
      go_ret2
      exact ⟨ret_two (hNo.out hno).symm hno.symm, b3⟩
    · have h0b : (n == 0) = false := by simpa using h0
      go_wp2_with fail
      refine (equal_any W3 hB3 hF3).mono ?_
      rintro e W3' ⟨rfl, rfl⟩
      rw [← hL.out]
      generalize hE : decide (zs = fullL zs) = E
      have hok := hOk.out E hE h0
      cases E with
      | true =>
        go_wp2_with fail
        go_ret2
        exact ⟨ret_two (hYes.out hok).symm hok.symm, b3⟩
      | false =>
        go_wp2_with fail
        go_ret2
        exact ⟨ret_two (hNo.out hok).symm hok.symm, b3⟩

/-! ### The reference's -/
theorem allZ_zL (n : Nat) : allZ (zL n) = true := by
  rw [allZ, List.all_eq_true]
  intro x hx
  obtain ⟨i, _, rfl⟩ := List.mem_map.1 hx
  rfl
theorem zL_of_allZ {zs : List Int} (h : allZ zs = true) : zs = zL zs.length := by
  rw [allZ, List.all_eq_true] at h
  refine rowL_of zs zs.length _ rfl fun i hi => ?_
  have := h (zs.getD i 0) (by simp [List.getD, hi])
  simpa using this
theorem full_parts {zs : List Int} (n : Int) : decide (zs = recL n ++ zL (zs.length - 24)) = (decide (zs.take 24 = recL n) && allZ (zs.drop 24)) := by
  by_cases h1 : zs.take 24 = recL n
  · by_cases h2 : allZ (zs.drop 24) = true
    · rw [decide_eq_true h1, h2, Bool.and_self, decide_eq_true_eq]
      have h3 := zL_of_allZ h2
      rw [List.length_drop] at h3
      rw [← h1, ← h3, List.take_append_drop]
    · have h2' : allZ (zs.drop 24) = false := by simpa using h2
      rw [decide_eq_true h1, h2', Bool.and_false, decide_eq_false_iff_not]
      intro e
      have e2 : zs.drop 24 = zL (zs.length - 24) := by
        rw [e, List.drop_append_of_le_length (by rw [recL_length]; omega), List.drop_of_length_le (by rw [recL_length]; omega), List.nil_append, List.length_append, recL_length, zL_length, Nat.add_sub_cancel_left]
      rw [e2, allZ_zL] at h2
      exact h2 rfl
  · rw [decide_eq_false h1, Bool.false_and, decide_eq_false_iff_not]
    intro e
    refine h1 ?_
    rw [e, List.take_append_of_le_length (by rw [recL_length]; omega), List.take_of_length_le (by rw [recL_length]; omega)]

set_option maxHeartbeats 1000000 in
theorem rparse_any {a : Option Addr} {len cap : Nat} {zs : List Int} (w : World) (h : Bs w a len cap zs) :
    Calls Tryd.prog 19 #[.slice a len cap] w fun e w' => e = .returned (.tuple #[.int .u32 (recN zs), .bool (recOk zs)]) ∧ Below w.heap.size w w' := by
  have hz := h.length
  have hlc := h.le_cap
  have hcc := h.cap_le
  by_cases h24 : len < 24
  · have hno := recOk_short (zs := zs) (by omega)
    go_enter Tryd.func19, Tryd.ntmps19
    go_wp2_with fail
    go_ret2
    exact ⟨ret_two (recN_no hno).symm hno.symm, Below.refl _ _⟩
  · have hs1 : ∀ w, (Instr.slice 26 (.slice a len cap) (some (.int .i64 12)) (some (.int .i64 16)) none).run Tryd.prog w = .ok (.slice (cutA a cap 12) 4 (cap - 12)) w := run_cut_mid (P := Tryd.prog) Tryd.underlying26 Tryd.size_u8 a len cap .i64 .i64 12 16 12 16 rfl rfl (by omega) (by omega)
    have hs2 := cutTo h .i64 24 24 rfl (by omega)
    have hM := h.mid (by omega)
    have hN : Hid (leNum (((zs.drop 12).take 4).take 8) = cntL zs) := by
      show _ = _
      rw [List.take_take]
      rfl
    have hN2 := cntL_lt h.bytes
    have hL : Hid (decide (zs = fullL zs) = (decide (zs.take 24 = recL (cntL zs)) && allZ (zs.drop 24))) := by
      show _ = _
      rw [fullL, full_parts _]
    have hOk : Hid (∀ E, decide (zs = fullL zs) = E → ¬ cntL zs = 0 → recOk zs = E) := fun E hE h0 => recOk_at (by omega) h0 hE
    have hZr : Hid (cntL zs = 0 → recOk zs = false) := recOk_zero
    have hNo : Hid (recOk zs = false → recN zs = 0) := recN_no
    have hYes : Hid (recOk zs = true → recN zs = cntL zs) := recN_yes
    obtain ⟨n, hn⟩ : ∃ n, n = cntL zs := ⟨_, rfl⟩
    rw [← hn] at hN hN2 hL hOk hZr hYes
    clear hn
    have hw32 : IntKind.u32.wrap n = n := by simp [IntKind.wrap, IntKind.bits, IntKind.signed]; omega
    generalize cutA a cap 12 = q at *
    go_enter Tryd.func19, Tryd.ntmps19
    go_wp2_with fail
    refine (rget_any w hM).mono ?_
    rintro e w' ⟨rfl, rfl⟩
    rw [hN.out]
    by_cases h0 : n = 0
    · subst h0
      have hno := hZr.out rfl
      go_wp2_with fail
      refine wp_region_rel Kept [0, 1, 2, 3, 4, 5, 6, 7, 8, 9] (by kernel_rfl) (by kernel_rfl) (by kernel_rfl) Kept.refl Kept.trans ?_
      repeat' (first
        | (refine wpRel_quiet (v := ?_) rfl rfl (fun _ _ _ h => h) (by rfl) ?_ ?_
           rotate_left
           · (intro w' hR; go_simp; try rfl)
           simp only [Act.put, List.setIfInBounds_toArray, List.set_cons_zero, List.set_cons_succ])
        | fail)
      repeat' (first
        | (refine wpRel_pass rfl (fun _ _ _ h => h) (by rfl) (Kept.refl _) ?_
           simp only [Act.put, List.setIfInBounds_toArray, List.set_cons_zero, List.set_cons_succ])
        | fail)
      repeat' (first
        | (refine wpRel_quiet (v := ?_) rfl rfl (fun _ _ _ h => h) (by rfl) ?_ ?_
           rotate_left
           · (intro w' hR; go_simp; try rfl)
           simp only [Act.put, List.setIfInBounds_toArray, List.set_cons_zero, List.set_cons_succ])
        | fail)
      refine wpRel_nil ?_
      go_wp2_with fail
      go_ret2
      exact ⟨ret_two (hNo.out hno).symm hno.symm, (Below.refl _ _).drew⟩
    · have h0b : (n == 0) = false := by simpa using h0
      go_wp2_with fail
      refine wp_region_rel Kept [0, 1, 2, 3, 4, 5, 6, 7, 8, 9] (by kernel_rfl) (by kernel_rfl) (by kernel_rfl) Kept.refl Kept.trans ?_
      have h1 : Bs w.drew a len cap zs := ⟨h.length, h.le_cap, h.cap_le, h.bytes, h.place⟩
      have b0 : Below w.heap.size w w.drew := (Below.refl _ _).drew
      clear hM hs1
      generalize w.drew = W1 at *
      repeat' (first
        | (refine wpRel_quiet (v := ?_) rfl rfl (fun _ _ _ h => h) (by rfl) ?_ ?_
           rotate_left
           · (intro w' hR; go_simp; try rfl)
           simp only [Act.put, List.setIfInBounds_toArray, List.set_cons_zero, List.set_cons_succ])
        | fail)
      refine wpRel_step rfl rfl (by rfl) (fun K' hK => ?_)
      go_simp
      refine (rrec_any n W1 hN2).mono ?_
      rintro e W2 ⟨gr, cr, rfl, hR, b2⟩
      refine hK.out _ _ b2 ?_
      clear hK K'
      try simp only [Act.put, List.setIfInBounds_toArray, List.set_cons_zero, List.set_cons_succ]
      have hB2 := h1.below b2
      replace b2 := b0.trans (b2.mono b0.size)
      refine wpRel_step rfl rfl (by rfl) (fun K' hK => ?_)
      go_simp
      refine (same_any W2 (hB2.taken 24 (by omega)) hR.bs).mono ?_
      rintro e W2' ⟨rfl, rfl⟩
      refine hK.out _ _ (Kept.refl _) ?_
      clear hK K'
      try simp only [Act.put, List.setIfInBounds_toArray, List.set_cons_zero, List.set_cons_succ]
      clear h1 b0
      by_cases hS : zs.take 24 = recL n
      · rw [decide_eq_true hS]
        have hL' : Hid (decide (zs = fullL zs) = allZ (zs.drop 24)) := by
          show _ = _
          rw [hL.out, decide_eq_true hS, Bool.true_and]
        clear hS hR hs2 hL
        have hdl : (zs.drop 24).length = len - 24 := by rw [List.length_drop, hz]
        repeat' (first
          | (refine wpRel_quiet (v := ?_) rfl rfl (fun _ _ _ h => h) (by rfl) ?_ ?_
             rotate_left
             · (intro w' hR; go_simp; try rfl)
             simp only [Act.put, List.setIfInBounds_toArray, List.set_cons_zero, List.set_cons_succ])
          | fail)
        refine wpRel_nil ?_
        go_wp2_with fail
        go_loop [5] (fun i => ∃ k : Nat, 24 + k ≤ len ∧ i = .int .i64 ((24 + k : Nat) : Int) ∧ allZ ((zs.drop 24).take k) = true) (fun i => len - (intOf i).toNat)
        case atStart => exact ⟨0, by omega, rfl, rfl⟩
        case round =>
          obtain ⟨k, hk, rfl, hall⟩ := hrel
          by_cases hlt : 24 + k < len
          · rcases hB2.place with hp | ⟨b, off, rfl, hc⟩
            · omega
            · have hcell := hc (24 + k) hlt
              have hgd : (zs.drop 24).getD k 0 = zs.getD (24 + k) 0 := by simp [List.getD, List.getElem?_drop]
              clear hc
              by_cases hx : zs.getD (24 + k) 0 = 0
              · have HA : Hid (allZ ((zs.drop 24).take (k + 1)) = true) := allZ_step _ k (by omega) hall (hgd.trans hx)
                rw [hx] at hcell
                clear hx hall hgd
                go_wp2_with fail
                go_round
                case rel => exact ⟨k + 1, by omega, by go_num, HA.out⟩
                case measure => simp [intOf]; omega
              · have HA : Hid (allZ (zs.drop 24) = false) := allZ_stop _ k (by omega) (by rw [hgd]; exact hx)
                have hx' : (zs.getD (24 + k) 0 != 0) = true := by simpa using hx
                have hok := hOk.out false (hL'.out.trans HA.out) h0
                clear hx hall hgd HA
                generalize zs.getD (24 + k) 0 = X at *
                go_wp2_with fail
                go_ret2
                exact ⟨ret_two (hNo.out hok).symm (by first | exact hok.symm | rfl), b2⟩
          · rw [List.take_of_length_le (by omega)] at hall
            have hok := hOk.out true (hL'.out.trans hall) h0
            clear hall
            go_wp2_with fail
            go_ret2
            exact ⟨ret_two (hYes.out hok).symm (by first | exact hok.symm | rfl), b2⟩
      · rw [decide_eq_false hS]
        have hok := hOk.out false (by rw [hL.out, decide_eq_false hS, Bool.false_and]) h0
        clear hS hR hs2 hL
        repeat' (first
          | (refine wpRel_quiet (v := ?_) rfl rfl (fun _ _ _ h => h) (by rfl) ?_ ?_
             rotate_left
             · (intro w' hR; go_simp; try rfl)
             simp only [Act.put, List.setIfInBounds_toArray, List.set_cons_zero, List.set_cons_succ])
          | fail)
        refine wpRel_nil ?_
        go_wp2_with fail
        go_ret2
        exact ⟨ret_two (hNo.out hok).symm (by first | exact hok.symm | rfl), b2⟩
#print axioms parse_any
#print axioms rparse_any
end Go.Proofs.YtgkhaedlfmloeaaDoor
