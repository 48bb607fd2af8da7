
/- The law BankStates answers true for every number of places and every row of bytes, wherever quar.rounds reads as its text says; nothing that was there is turned. -/
import Derived.Test.YtlfcejfpdgdnkaaDoorJAwake
namespace Go.Proofs.YtlfcejfpdgdnkaaDoor
open Go.RowKit
set_option maxRecDepth 20000

def keyZ : List Int := zL 32
theorem keyZ_bytes : IsBytes keyZ := zL_bytes _
theorem keyZ_length : keyZ.length = 32 := zL_length _
theorem n_and63 (n : Int) : bits .and .i64 n 63 = n % 64 := i64_mask n 6 (by decide) 63 (by decide)
theorem u8_bit (x : Int) (h0 : 0 ≤ x) (h1 : x < 256) : bits .and .u8 x 1 = x % 2 := bits_mask .u8 8 (by decide) wraps_u8 1 (by decide) x h0 h1
theorem bit_val8 (z : Int) (hz : 0 ≤ z ∧ z < 256) (r : Nat) : (bits .and .u8 (z / 2 ^ r) 1 == 0) = !(z.toNat.testBit r) := by
  obtain ⟨h1, h2, h3⟩ := div_pow_in z hz r
  rw [u8_bit _ h1 h2, h3, Nat.testBit_eq_decide_div_mod_eq]
  by_cases h : z.toNat / 2 ^ r % 2 = 1
  · rw [decide_eq_true h]
    rw [beq_eq_false_iff_ne.2 (by omega)]; rfl
  · rw [decide_eq_false h]
    have e : (((z.toNat / 2 ^ r : Nat) : Int)) % 2 = 0 := by omega
    rw [e]; rfl
/-- Whether no place from n on, below k, has a bit. -/
def upB (zs : List Int) (n k : Nat) : Bool := decide (zs.length = (n + 7) / 8) && (List.range k).all fun j => decide (j < n) || !bitB zs j
theorem upB_next (zs : List Int) (n k : Nat) (hk : n ≤ k) : upB zs n (k + 1) = (upB zs n k && !bitB zs k) := by
  unfold upB
  rw [List.range_succ, List.all_append, Bool.and_assoc]
  congr 2
  simp
  omega
theorem upB_start (zs : List Int) (n : Nat) : upB zs n n = decide (zs.length = (n + 7) / 8) := by
  unfold upB
  have : ((List.range n).all fun j => decide (j < n) || !bitB zs j) = true := by
    rw [List.all_eq_true]
    intro j hj
    rw [decide_eq_true (List.mem_range.1 hj)]; rfl
  rw [this, Bool.and_true]
theorem upB_no {zs : List Int} {n k : Nat} (hb : IsBytes zs) (h : upB zs n k = false) : stB zs n = false := by
  cases hs : stB zs n with
  | false => rfl
  | true =>
    exfalso
    obtain ⟨h1, h2⟩ := (stB_iff hb).1 hs
    have : upB zs n k = true := by
      unfold upB
      rw [decide_eq_true h1, Bool.true_and, List.all_eq_true]
      intro j _
      by_cases hj : j < n
      · rw [decide_eq_true hj]; rfl
      · rw [h2 j (by omega)]
        cases decide (j < n) <;> rfl
    rw [this] at h
    cases h
theorem upB_yes {zs : List Int} {n k : Nat} (hb : IsBytes zs) (hk : 8 * zs.length ≤ k) (h : upB zs n k = true) : stB zs n = true := by
  unfold upB at h
  rw [Bool.and_eq_true, decide_eq_true_eq, List.all_eq_true] at h
  refine (stB_iff hb).2 ⟨h.1, fun i hi => ?_⟩
  by_cases hl : zs.length ≤ i / 8
  · exact bitB_out hl
  · have := h.2 i (List.mem_range.2 (by omega))
    rw [decide_eq_false (by omega), Bool.false_or] at this
    simpa using this

set_option maxRecDepth 100000 in
set_option maxHeartbeats 16000000 in
theorem bankStates_walk {a : Option Addr} {len cap : Nat} {zs : List Int} (size : Int) (w : World) (hz : Bs w a len cap zs) (hq : Glob w) :
    Calls Tryd.prog 5 #[.int .i64 size, .slice a len cap] w fun e w' => e = .returned (.bool true) ∧ Below w.heap.size w w' := by
  have hlc := hz.le_cap
  have hcm := hz.cap_le
  have hzl := hz.length
  by_cases h100 : 100 < len
  · go_enter Tryd.func5, Tryd.ntmps5
    go_wp2_with fail
    refine (awake_any w hq).mono ?_
    rintro e W ⟨rfl, b1⟩
    go_wp2_with fail
    go_ret
    exact ⟨rfl, b1⟩
  obtain ⟨n, hn, hn63⟩ : ∃ n : Nat, bits .and .i64 size 63 = (n : Int) ∧ n ≤ 63 := ⟨(size % 64).toNat, by rw [n_and63]; omega, by omega⟩
  obtain ⟨m, hm⟩ : ∃ m : Nat, (n + 7) / 8 = m := ⟨_, rfl⟩
  have em : ((n : Int) + 7) / 8 = (m : Int) := by omega
  have hm8 : m ≤ 8 := by omega
  have HZ := hide hz
  have HM := hide hm
  have HL := hide hzl
  clear hz hm hzl
  go_enter Tryd.func5, Tryd.ntmps5
  go_wp2_with fail
  refine (new_any 130 40 130 40 rfl rfl w).mono ?_
  rintro e W ⟨g, Z, rfl, hD, hF, hB⟩
  have C : Cl w W Z g (DS.new 130 40) := ⟨hD, hF, hB⟩
  clear hD hF hB
  go_wp2_with (refine wpList_build_is rfl 29 _ rfl (bV keyZ) (by kernel_rfl) ?_)
  refine (pen_new C keyZ_bytes keyZ_length (boot := 1) (by omega)).mono ?_
  rintro e W1 ⟨gp, rfl, -, P, b1⟩
  replace C := C.below b1
  clear b1
  have hN := hide (bn_new C P 0 n m HM.out (by omega) (by omega))
  clear C P
  go_wp2_with fail
  refine hN.out.mono ?_
  rintro e W2 ⟨gb, gh, gf, rfl, H, -, -⟩
  clear hN
  have hS := hide (bn_state0 H)
  go_wp2_with fail
  refine hS.out.mono ?_
  rintro e W3 ⟨aw, cw, rfl, Bw, hnw, b3⟩
  have hl := H.lts
  have hxw : 0 < m → ∀ p, aw = some p → ¬ three gp gh gf p.block := fun h0 p hp => by have := hnw h0 p hp; exact three_no (by omega) (by omega) (by omega)
  have HXW := hide hxw
  have H3 := H.below b3
  have hwc := Bw.bs.le_cap
  clear hS b3 hl hnw hxw H
  have HI : Hid (Bn w W3 Z g gp gb gh gf 0 n m (DS.new 130 40) keyZ 1 0 (onesL m n) (zL m)) := hide H3
  have HBw := hide Bw
  clear H3 Bw
  have HU : Hid (decide (len = m) = upB zs n n) := hide (by rw [upB_start, HM.out, HL.out])
  have hdec : ((len : Int) == (m : Int)) = decide (len = m) := by
    by_cases h : len = m
    · subst h; simp
    · rw [decide_eq_false h, beq_eq_false_iff_ne]; omega
  go_wp2_with fail
  go_loop [8, 9] (fun v8 v9 => ∃ i : Nat, n ≤ i ∧ i ≤ 1000 ∧ v9 = .int .i64 (i : Int) ∧ v8 = .bool (upB zs n i)) (fun _ v9 => 1000 - (intOf v9).toNat)
  case atStart => exact ⟨n, Nat.le_refl _, by omega, rfl, by rw [← HU.out, ← hdec]⟩
  case round =>
    obtain ⟨i, hni, hi1, rfl, rfl⟩ := hrel
    cases hU : upB zs n i with
    | false =>
      have hst := upB_no HZ.out.bytes hU
      have hzW : Bs W3 a len cap zs := HZ.out.below HI.out.cl.bel
      have hLd := hide (bank_load_no HI.out.bk hzW hst)
      have hS := hide (bn_state0 HI.out)
      clear hU hst hzW HU hdec
      go_wp2_with fail
      refine hLd.out.mono ?_
      rintro e W4 ⟨rfl, rfl⟩
      clear hLd
      go_wp2_with fail
      refine hS.out.mono ?_
      rintro e W5 ⟨an, cn, rfl, B5, -, b5⟩
      have hSm := hide (same_any W5 B5.bs (HBw.out.bs.below b5))
      rw [decide_eq_true rfl] at hSm
      have hbel := HI.out.cl.bel.trans (b5.mono HI.out.cl.bel.size)
      clear hS B5 b5
      go_wp2_with fail
      refine hSm.out.mono ?_
      rintro e _ ⟨rfl, rfl⟩
      clear hSm
      go_wp2_with fail
      refine (awake_any W5 (hq.below hbel hq.lt)).mono ?_
      rintro e W6 ⟨rfl, b6⟩
      have hb6 := hbel.trans (b6.mono hbel.size)
      clear hbel b6
      go_wp2_with fail
      go_ret
      exact ⟨rfl, hb6⟩
    | true =>
      by_cases hi8 : i < 8 * len
      · have hc : ∃ b off, a = some ⟨b, off, none⟩ ∧ ∀ i, i < len → w.cell? ⟨b, off + i, none⟩ = some (.int .u8 (zs.getD i 0)) := by
          rcases HZ.out.place with h1 | h1
          · omega
          · exact h1
        obtain ⟨b, off, rfl, hc⟩ := hc
        obtain ⟨q, hq8⟩ : ∃ q : Nat, q = i / 8 := ⟨_, rfl⟩
        obtain ⟨r, hr8⟩ : ∃ r : Nat, r = i % 8 := ⟨_, rfl⟩
        have e1 : (i : Int) / 8 = (q : Int) := by omega
        have e2 : bits .and .i64 (i : Int) 7 = (r : Int) := by rw [i64_and7]; omega
        have hr : r < 8 := by omega
        have hql : q < len := by omega
        have hcw := (hc q hql)
        have hc0 : W3.cell? ⟨b, off + q, none⟩ = some (.int .u8 (zs.getD q 0)) := (HI.out.cl.bel.cell (World.block_lt_of_cell? w _ hcw)).trans hcw
        have hzb := getD_byte HZ.out.bytes q
        have hv := bit_val8 (zs.getD q 0) hzb r
        have hnx : upB zs n (i + 1) = !((zs.getD q 0).toNat.testBit r) := by
          rw [upB_next zs n i hni, hU, Bool.true_and]
          unfold bitB
          rw [← hq8, ← hr8]
        have HV : Hid (upB zs n (i + 1) = (bits .and .u8 (zs.getD q 0 / 2 ^ r) 1 == 0)) := hide (hnx.trans hv.symm)
        clear hnx hv hcw hc hq8 hr8 hU HU hdec
        generalize zs.getD q 0 = z at *
        go_wp2_with fail
        go_round
        case rel => exact ⟨i + 1, by omega, by omega, by go_num, by rw [HV.out]⟩
        case measure => simp [intOf]; omega
      · have hi8c : ¬ (i : Int) < 8 * (len : Int) := by omega
        have hst := upB_yes HZ.out.bytes (by rw [HL.out]; omega) hU
        have hP := stB_stP HZ.out.bytes hst
        have hzW : Bs W3 a len cap zs := HZ.out.below HI.out.cl.bel
        have hLd := hide (bn_load HI.out hzW hP)
        clear hU hst hzW HU hdec hP hi8
        go_wp2_with fail
        refine hLd.out.mono ?_
        rintro e W4 ⟨rfl, H4, k4⟩
        have hS := hide (bn_state0 H4)
        have H4' := hide H4
        clear hLd H4 k4
        go_wp2_with fail
        refine hS.out.mono ?_
        rintro e W5 ⟨an, cn, rfl, B5, -, b5⟩
        have hbel := H4'.out.cl.bel.trans (b5.mono H4'.out.cl.bel.size)
        have hSm := hide (same_any W5 B5.bs (HZ.out.below hbel))
        rw [decide_eq_true rfl] at hSm
        clear hS B5 b5
        go_wp2_with fail
        refine hSm.out.mono ?_
        rintro e _ ⟨rfl, rfl⟩
        clear hSm
        go_wp2_with fail
        refine (awake_any W5 (hq.below hbel hq.lt)).mono ?_
        rintro e W6 ⟨rfl, b6⟩
        have hb6 := hbel.trans (b6.mono hbel.size)
        clear hbel b6
        go_wp2_with fail
        go_ret
        exact ⟨rfl, hb6⟩
#print axioms bankStates_walk
end Go.Proofs.YtlfcejfpdgdnkaaDoor
