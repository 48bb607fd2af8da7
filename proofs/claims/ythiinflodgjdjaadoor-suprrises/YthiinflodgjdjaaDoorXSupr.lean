
/- Several texts in one, in the order in which they lean on each other; what each says stands at its head. No conditions but those that each line states. -/
import Derived.Test.YthiinflodgjdjaaDoorXBase
import Derived.Test.YthiinflodgjdjaaDoorXPen
import Derived.Test.YthiinflodgjdjaaDoorXLe
/- The least bit of a number below 2^64, told, set and cleared; its lower half. No program is named here; no conditions but those that each line states. -/
namespace Go.Proofs.YthiinflodgjdjaaDoor
open Go.RowKit
set_option maxRecDepth 20000

theorem u64_maskI (n : Int) (k : Nat) (hn : 0 ≤ n ∧ n < 18446744073709551616) (hk : k < 64) (m : Int) (hm : m = 2 ^ k - 1) : bits .and .u64 n m = n % 2 ^ k := by
  obtain ⟨a, rfl⟩ := Int.eq_ofNat_of_zero_le hn.1
  have hp : (2 : Nat) ^ k < 2 ^ 64 := Nat.pow_lt_pow_right (by decide) hk
  have hp0 : 0 < (2 : Nat) ^ k := Nat.pow_pos (by decide)
  have hc : ((2 ^ k : Nat) : Int) = (2 : Int) ^ k := Int.natCast_pow 2 k
  have hm' : m = ((2 ^ k - 1 : Nat) : Int) := by omega
  rw [hm', u64_and_nat _ _ (by omega) (by omega), Nat.and_two_pow_sub_one_eq_mod, ← hc]
  exact Int.natCast_emod _ _
theorem u64_and1 (n : Int) (hn : 0 ≤ n ∧ n < 18446744073709551616) : bits .and .u64 n 1 = n % 2 := u64_maskI n 1 hn (by decide) 1 (by decide)
theorem u64_and32 (n : Int) (hn : 0 ≤ n ∧ n < 18446744073709551616) : bits .and .u64 n 4294967295 = n % 4294967296 := u64_maskI n 32 hn (by decide) 4294967295 (by decide)
theorem u64_or1 (n : Int) (hn : 0 ≤ n ∧ n < 18446744073709551616) (h : n % 2 = 0) : bits .or .u64 n 1 = n + 1 := by
  rw [u64_or _ _ hn.1 hn.2 (by decide) (by decide)]
  obtain ⟨a, rfl⟩ := Int.eq_ofNat_of_zero_le hn.1
  rw [Int.toNat_natCast, show (1 : Int).toNat = 1 from rfl, nat_join 1 a 1 (by omega) (by omega)]
  omega
theorem nat_clear (b : Nat) (h : b < 18446744073709551616) : b &&& 18446744073709551614 = 2 * (b / 2) := by
  apply Nat.eq_of_testBit_eq
  intro i
  rw [Nat.testBit_and]
  cases i with
  | zero => simp [Nat.testBit_zero]
  | succ i =>
    have e1 : (18446744073709551614 : Nat).testBit (i + 1) = decide (i < 63) := by
      rw [Nat.testBit_succ, show (18446744073709551614 : Nat) / 2 = 2 ^ 63 - 1 by decide, Nat.testBit_two_pow_sub_one]
    have e2 : (2 * (b / 2)).testBit (i + 1) = b.testBit (i + 1) := by
      rw [Nat.testBit_succ, Nat.testBit_succ, Nat.mul_div_cancel_left _ (by decide)]
    rw [e1, e2]
    by_cases hi : i < 63
    · simp [hi]
    · have hb : b.testBit (i + 1) = false := Nat.testBit_lt_two_pow (Nat.lt_of_lt_of_le h (Nat.pow_le_pow_right (n := 2) (by decide) (show 64 ≤ i + 1 by omega)))
      simp [hb]
theorem u64_clear1 (n : Int) (hn : 0 ≤ n ∧ n < 18446744073709551616) : bits .andNot .u64 n 1 = 2 * (n / 2) := by
  obtain ⟨a, rfl⟩ := Int.eq_ofNat_of_zero_le hn.1
  rw [show (1 : Int) = ((1 : Nat) : Int) from rfl, u64_andNot_nat a _ (by omega) (by decide), show 18446744073709551615 - 1 = 18446744073709551614 by decide, nat_clear a (by omega)]
  omega
#print axioms u64_or1
#print axioms u64_clear1
end Go.Proofs.YthiinflodgjdjaaDoor

/- What stands in the cells of a trace that was told; cells that later worlds keep; arrays built under a guard. No conditions but those that each line states. -/
namespace Go.Proofs.YthiinflodgjdjaaDoor
open Go.RowKit
set_option maxRecDepth 20000

theorem keep_cell {w w' : World} {p : Addr} {v : Value} (h : w.cell? p = some v) (hb : Below w.heap.size w w') : w'.cell? p = some v := (hb.cell (World.block_lt_of_cell? w _ h)).trans h
theorem Tr.kind {Z : Own} {w : World} {te n size : Nat} {l : List Ev} (h : Tr Z w te n size l) (i : Nat) (e : Ev) (he : l[i]? = some e) : w.cell? ⟨te, i * 15, none⟩ = some (.int .i64 e.kind) := by
  obtain ⟨v, hv, -⟩ := h.ev i e he
  have := hv 0 _ rfl
  rw [Nat.add_zero, Nat.mul_comm] at this
  exact this
theorem Tr.place {Z : Own} {w : World} {te n size : Nat} {l : List Ev} (h : Tr Z w te n size l) (i : Nat) (e : Ev) (he : l[i]? = some e) : w.cell? ⟨te, i * 15 + 1, none⟩ = some (.int .i64 e.at_) := by
  obtain ⟨v, hv, -⟩ := h.ev i e he
  have := hv 1 _ rfl
  rw [Nat.mul_comm] at this
  exact this
theorem Tr.body {Z : Own} {w : World} {te n size : Nat} {l : List Ev} (h : Tr Z w te n size l) (i : Nat) (e : Ev) (he : l[i]? = some e) : ∃ v : BV, w.cell? ⟨te, i * 15 + 14, none⟩ = some v.v ∧ (e.kind = 2 → ∃ m, v = ⟨some ⟨m, 0, none⟩, size, size, fitL size e.body.zs⟩ ∧ ¬ Z.S m ∧ OwnB 5 w m (fitL size e.body.zs)) := by
  obtain ⟨v, hv, h2⟩ := h.ev i e he
  refine ⟨v, ?_, fun hk => ?_⟩
  · have := hv 14 _ (evL_14 _ _ _ _ (fitL_length _ _))
    rw [Nat.mul_comm] at this
    exact this
  · rcases h2 with ⟨-, m, rfl, -, hs, hO⟩ | ⟨h3, -⟩
    · exact ⟨m, rfl, hs, hO⟩
    · exact absurd hk h3
theorem wpList_build_want {P : Program} {ops : Array Oper} {rest : List Oper} {o : Oper} {a : Act} {w : World} {Q : Exit → Act → World → Prop} (hw : Region.wanted o (yielded ops a.tmps) = true) (t : TypeId) (parts : Array (Nat × Operand)) (ho : o.op = .build t parts)
    (cells : Array Value) (hf : P.built t (parts.map fun (i, x) => (i, a.eval x)).toList = some cells)
    (h : wpList P ops Q rest (a.put o.dst (.agg cells)) w) : wpList P ops Q (o :: rest) a w := by
  refine wpList_step fun K hK => ?_
  rw [if_pos hw]
  refine wp_build t parts ho (by rw [hf]; rfl) ?_
  rw [hf]
  exact hK _ _ h
#print axioms Tr.body
end Go.Proofs.YthiinflodgjdjaaDoor

/- The text that tells an epoch; what calls of package supr do, for every device and every pen in memory. No conditions but those that each line states. -/
namespace Go.Proofs.YthiinflodgjdjaaDoor
open Go.RowKit
set_option maxRecDepth 20000

/-! ### The text -/
def wordL : List Int := [101, 112, 111, 99, 104]
/-- The text that tells n. -/
def epoL (n : Int) : List Int := wordL ++ putL n 8
theorem epoL_length (n : Int) : (epoL n).length = 13 := by simp [epoL, length_putL, wordL]
theorem epoL_bytes (n : Int) : IsBytes (epoL n) := IsBytes.append (fun x hx => by
  simp only [wordL, List.mem_cons, List.not_mem_nil, or_false] at hx
  omega) (putL_bytes _ _)
/-- Whether bytes are such a text, and what it tells. -/
def epoOk (zs : List Int) : Bool := decide (zs.take 5 = wordL) && decide (zs.length = 13)
def epoN (zs : List Int) : Int := leNum (zs.drop 5)
def epoV (zs : List Int) : Int := if epoOk zs = true then epoN zs else 0
theorem epoOk_epoL (n : Int) : epoOk (epoL n) = true := by
  unfold epoOk
  rw [epoL_length]
  rfl
theorem epoN_epoL (n : Int) (h : 0 ≤ n ∧ n < 18446744073709551616) : epoN (epoL n) = n := by
  have e : (epoL n).drop 5 = putL n 8 := rfl
  unfold epoN
  rw [e, leNum_all _ h.1 h.2]
theorem epoV_epoL (n : Int) (h : 0 ≤ n ∧ n < 18446744073709551616) : epoV (epoL n) = n := by
  unfold epoV
  rw [if_pos (epoOk_epoL n), epoN_epoL n h]
theorem epoN_lt {zs : List Int} (h : IsBytes zs) (hl : epoOk zs = true) : 0 ≤ epoN zs ∧ epoN zs < 18446744073709551616 := by
  simp only [epoOk, Bool.and_eq_true, decide_eq_true_eq] at hl
  have h1 := leNum_lt (zs.drop 5) (h.drop 5)
  have h2 : (zs.drop 5).length = 8 := by rw [List.length_drop]; omega
  rw [h2] at h1
  unfold epoN
  omega
theorem epoV_lt {zs : List Int} (h : IsBytes zs) : 0 ≤ epoV zs ∧ epoV zs < 18446744073709551616 := by
  unfold epoV
  split
  · exact epoN_lt h (by assumption)
  · omega
theorem epoV_no {zs : List Int} (h : epoOk zs = false) : epoV zs = 0 := by simp [epoV, h]
theorem epoV_yes {zs : List Int} (h : epoOk zs = true) : epoV zs = epoN zs := by simp [epoV, h]
theorem epoOk_word {zs : List Int} (h : ¬ zs.take 5 = wordL) : epoOk zs = false := by simp [epoOk, h]
theorem epoOk_len {zs : List Int} (h : ¬ zs.length = 13) : epoOk zs = false := by simp [epoOk, h]

/-! ### What a block tells, in a place -/
def tellB (key zs : List Int) (pl : Int) : Bool := epoOk (openR key zs) && decide (epoV (openR key zs) % 2 = pl)
def tellV (key zs : List Int) (pl : Int) : Int := if tellB key zs pl = true then epoV (openR key zs) else 0
theorem tellV_no {key zs : List Int} {pl : Int} (h : tellB key zs pl = false) : tellV key zs pl = 0 := by simp [tellV, h]
theorem tell_closed {key zs : List Int} (pl : Int) (h : openB key zs = false) : tellB key zs pl = false := by
  have e : openR key zs = [] := by
    unfold openB at h
    unfold openR
    cases ho : openL key zs with
    | none => rfl
    | some _ => rw [ho] at h; cases h
  unfold tellB
  rw [e]
  rfl
theorem tell_sealed {key : List Int} {boot seq : Int} {zs : List Int} {m : Nat} (pl : Int) (hb : 0 ≤ boot ∧ boot < 4294967296) (hs : 0 ≤ seq ∧ seq < 18446744073709551616) (hz : IsBytes zs) (h : zs.length ≤ m) (hm : m ≤ 60000) :
    tellB key (sealL key boot seq zs m) pl = (epoOk zs && decide (epoV zs % 2 = pl)) ∧ tellV key (sealL key boot seq zs m) pl = if (epoOk zs && decide (epoV zs % 2 = pl)) = true then epoV zs else 0 := by
  have e := (open_is key boot seq zs m hb hs hz h hm).1
  unfold tellV tellB
  rw [e]
  exact ⟨rfl, rfl⟩
/-- An epoch that was sealed is told in its place. -/
theorem tell_epoch {key : List Int} {boot seq : Int} {n : Int} {m : Nat} (hb : 0 ≤ boot ∧ boot < 4294967296) (hs : 0 ≤ seq ∧ seq < 18446744073709551616) (hn : 0 ≤ n ∧ n < 18446744073709551616) (h : 13 ≤ m) (hm : m ≤ 60000) :
    tellB key (sealL key boot seq (epoL n) m) (n % 2) = true ∧ tellV key (sealL key boot seq (epoL n) m) (n % 2) = n := by
  obtain ⟨h1, h2⟩ := tell_sealed (key := key) (boot := boot) (seq := seq) (n % 2) hb hs (epoL_bytes n) (by rw [epoL_length]; exact h) hm
  rw [epoOk_epoL, epoV_epoL n hn] at h1 h2
  simp only [decide_true, Bool.and_self, if_true] at h1 h2
  exact ⟨h1, h2⟩
theorem tellV_lt {key zs : List Int} (pl : Int) (h : IsBytes zs) : 0 ≤ tellV key zs pl ∧ tellV key zs pl < 18446744073709551616 := by
  unfold tellV
  split
  · refine epoV_lt ?_
    unfold openR
    cases ho : openL key zs with
    | none => exact IsBytes.nil
    | some us => exact openL_bytes h ho
  · omega

/-! ### The calls -/
theorem uplace_any (n : Int) (w : World) (hn : 0 ≤ n ∧ n < 18446744073709551616) : Calls Tryd.prog 24 #[.int .u64 n] w fun e w' => e = .returned (.int .i64 (n % 2)) ∧ w = w' := by
  have hm : n.tmod 2 = n % 2 := Int.tmod_eq_emod_of_nonneg hn.1
  have hw : IntKind.i64.wrap (n % 2) = n % 2 := by rw [IntKind.wrap_i64]; omega
  go_enter Tryd.func24, Tryd.ntmps24
  go_wp2_with fail
  go_ret
  exact ⟨rfl, rfl⟩

set_option maxHeartbeats 1000000 in
theorem urec_any (n : Int) (w : World) (hn : 0 ≤ n ∧ n < 18446744073709551616) :
    Calls Tryd.prog 25 #[.int .u64 n] w fun e w' => ∃ g c, e = .returned (.slice (some ⟨g, 0, none⟩) 13 c) ∧ OwnS 5 w.heap.size w' (some ⟨g, 0, none⟩) 13 c (epoL n) ∧ Below w.heap.size w w' := by
  go_enter Tryd.func25, Tryd.ntmps25
  go_wp2_with fail
  rw [conv_bytes]
  have hL : Bs (w.alloc (Obj.cells #[Value.int IntKind.u8 101, Value.int IntKind.u8 112, Value.int IntKind.u8 111, Value.int IntKind.u8 99, Value.int IntKind.u8 104] 5 (5, 6))) (some ⟨w.heap.size, 0, none⟩) 5 5 wordL := Bs.lit rfl rfl (bytes_lit rfl) rfl (by omega)
  have b1 : Below w.heap.size w (w.alloc (Obj.cells #[Value.int IntKind.u8 101, Value.int IntKind.u8 112, Value.int IntKind.u8 111, Value.int IntKind.u8 99, Value.int IntKind.u8 104] 5 (5, 6))) := below_alloc (Below.refl _ _) _
  generalize (w.alloc (Obj.cells #[Value.int IntKind.u8 101, Value.int IntKind.u8 112, Value.int IntKind.u8 111, Value.int IntKind.u8 99, Value.int IntKind.u8 104] 5 (5, 6))) = W1 at *
  go_wp2_with fail
  refine (put_at n 8 8 W1 rfl hn (by omega)).mono ?_
  rintro e W2 ⟨rfl, hC, b2⟩
  have hL2 := hL.below b2
  have hP2 : Bs W2 (some ⟨W1.heap.size, 0, none⟩) 8 8 (putL n 8) := hC.bs (putL_bytes _ _) 8 (length_putL _ _) (by omega)
  replace b2 := b1.trans (b2.mono b1.size)
  clear hL b1 hC
  generalize W1.heap.size = gp at *
  go_wp2_with fail
  have hR := heap_alloc_new W2 (.cells #[.slice (some ⟨w.heap.size, 0, none⟩) 5 5, .slice (some ⟨gp, 0, none⟩) 8 8] 37)
  have b3 := below_alloc (Below.refl W2.heap.size W2) (.cells #[.slice (some ⟨w.heap.size, 0, none⟩) 5 5, .slice (some ⟨gp, 0, none⟩) 8 8] 37)
  have hL3 := hL2.below b3
  have hP3 := hP2.below b3
  replace b3 := b2.trans (b3.mono b2.size)
  clear hL2 hP2 b2
  generalize (W2.alloc _) = W3 at *
  generalize W2.heap.size = gv at *
  refine (concat_is gv 2 [⟨some ⟨w.heap.size, 0, none⟩, 5, 5, wordL⟩, ⟨some ⟨gp, 0, none⟩, 8, 8, putL n 8⟩] (epoL n) 13 W3 rfl (by omega) (by simp [partsBytes, epoL]) (epoL_length n) (by omega) (by omega) _ hR rfl (by
      intro p hp
      simp only [List.mem_cons, List.not_mem_nil, or_false] at hp
      rcases hp with rfl | rfl
      · exact hL3
      · exact hP3)).mono ?_
  rintro e W4 ⟨g4, c4, rfl, ho, b4⟩
  have hb4 := b3.trans (b4.mono b3.size)
  have hle := b3.size
  clear hL3 hP3 hR b3 b4
  go_wp2_with fail
  go_ret
  exact ⟨g4, c4, rfl, ho.mono hle, hb4⟩

set_option maxHeartbeats 1000000 in
theorem uparse_any {a : Option Addr} {len cap : Nat} {zs : List Int} (w : World) (h : Bs w a len cap zs) :
    Calls Tryd.prog 46 #[.slice a len cap] w fun e w' => e = .returned (.tuple #[.int .u64 (epoV zs), .bool (epoOk zs)]) ∧ Below w.heap.size w w' := by
  have hz := h.length
  have HA : Hid (zs.take 5 = wordL → zs.length = 13 → epoV zs = epoN zs ∧ epoOk zs = true) := fun hp hl => by
    have hok : epoOk zs = true := by simp [epoOk, hp, hl]
    exact ⟨epoV_yes hok, hok⟩
  have HW : Hid (¬ zs.take 5 = wordL → epoV zs = 0 ∧ epoOk zs = false) := fun hp => ⟨epoV_no (epoOk_word hp), epoOk_word hp⟩
  have HE : Hid (¬ zs.length = 13 → epoV zs = 0 ∧ epoOk zs = false) := fun hp => ⟨epoV_no (epoOk_len hp), epoOk_len hp⟩
  generalize epoV zs = V at *
  generalize epoOk zs = B at *
  go_enter Tryd.func46, Tryd.ntmps46
  go_wp2_with fail
  rw [conv_bytes]
  have hL : Bs (w.alloc (Obj.cells #[Value.int IntKind.u8 101, Value.int IntKind.u8 112, Value.int IntKind.u8 111, Value.int IntKind.u8 99, Value.int IntKind.u8 104] 5 (5, 6))) (some ⟨w.heap.size, 0, none⟩) 5 5 wordL := Bs.lit rfl rfl (bytes_lit rfl) rfl (by omega)
  have b1 : Below w.heap.size w (w.alloc (Obj.cells #[Value.int IntKind.u8 101, Value.int IntKind.u8 112, Value.int IntKind.u8 111, Value.int IntKind.u8 99, Value.int IntKind.u8 104] 5 (5, 6))) := below_alloc (Below.refl _ _) _
  have h1 := h.below b1
  generalize (w.alloc (Obj.cells #[Value.int IntKind.u8 101, Value.int IntKind.u8 112, Value.int IntKind.u8 111, Value.int IntKind.u8 99, Value.int IntKind.u8 104] 5 (5, 6))) = W1 at *
  have HC := hide (cut_prefix_any W1 h1 hL)
  clear h h1 hL
  by_cases hp : zs.take 5 = wordL
  · rw [if_pos hp, decide_eq_true hp] at HC
    have hd : (zs.drop 5).length = len - 5 := by rw [List.length_drop, hz]
    by_cases hl : zs.length = 13
    · obtain ⟨rfl, rfl⟩ := HA.out hp hl
      have hN : leNum ((zs.drop 5).take 8) = epoN zs := by
        rw [List.take_of_length_le (by omega)]
        rfl
      clear HA HW HE
      go_wp2_with fail
      refine HC.out.mono ?_
      rintro e W2 ⟨p, k, q, rfl, hB, rfl⟩
      have hk : k = 8 := by have := hB.length; omega
      subst hk
      clear hp hl HC
      go_wp2_with fail
      refine (get_any W1 hB).mono ?_
      rintro e W2 ⟨rfl, rfl⟩
      rw [hN]
      go_wp2_with fail
      go_ret2
      exact ⟨rfl, b1⟩
    · obtain ⟨rfl, rfl⟩ := HE.out hl
      clear HA HW HE
      go_wp2_with fail
      refine HC.out.mono ?_
      rintro e W2 ⟨p, k, q, rfl, hB, rfl⟩
      have hk : ¬ (k : Int) = 8 := by
        have h1 := hB.length
        have h2 := congrArg List.length hp
        rw [List.length_take] at h2
        simp [wordL] at h2
        omega
      have hk2 : ((k : Int) != 8) = true := by simpa using hk
      clear hp hl HC hk hB
      go_wp2_with fail
      go_ret2
      exact ⟨rfl, b1⟩
  · obtain ⟨rfl, rfl⟩ := HW.out hp
    rw [if_neg hp, decide_eq_false hp] at HC
    clear HA HW HE hp
    go_wp2_with fail
    refine HC.out.mono ?_
    rintro e W2 ⟨p, k, q, rfl, hB, rfl⟩
    clear HC hB
    go_wp2_with fail
    go_ret2
    exact ⟨rfl, b1⟩
#print axioms urec_any
#print axioms uparse_any
end Go.Proofs.YthiinflodgjdjaaDoor

/- What a device shows; what calls of supr.standing, supr.Last, supr.Commit do, for every device and every pen in memory. No conditions but those that each line states. -/
namespace Go.Proofs.YthiinflodgjdjaaDoor
open Go.RowKit
set_option maxRecDepth 20000

/-! ### What stands on a device -/
/-- What stands in block j. -/
def DS.at_ (D : DS) (j : Nat) : List Int := fitL D.size (D.blk j).1.zs
theorem shows_nat {D : DS} {i : Int} (j : Nat) (hj : i = (j : Int)) (h : j < D.n) : D.shows i = D.at_ j := by
  subst hj
  unfold DS.shows DS.at_
  rw [if_pos (hasI_nat h), Int.toNat_natCast]
theorem asks_at (D : DS) (i : Int) (j : Nat) : (D.asks i).at_ j = D.at_ j := by
  obtain ⟨h1, -, -, -, h5⟩ := asks_is D i
  unfold DS.at_
  rw [h1, h5]
theorem asks_shows (D : DS) (i j : Int) : (D.asks i).shows j = D.shows j := by
  obtain ⟨h1, h2, -, -, h5⟩ := asks_is D i
  unfold DS.shows
  rw [h1, h2, h5]
theorem asks_tr (D : DS) (i : Int) : ∃ e, e.kind = 1 ∧ (D.asks i).tr = D.tr ++ [e] := by
  unfold DS.asks
  split
  · exact ⟨_, rfl, rfl⟩
  · exact ⟨_, rfl, rfl⟩
theorem puts_at (D : DS) (i j : Nat) (x : BV) (h : i < D.n) : (D.puts (i : Int) x).at_ j = if j = i then fitL D.size x.zs else D.at_ j := by
  unfold DS.puts
  rw [if_pos (hasI_nat h), Int.toNat_natCast]
  show fitL D.size (updW D.blk i x j).1.zs = _
  unfold updW DS.at_
  by_cases hj : j = i
  · subst hj; simp
  · simp [hj]
theorem flush_at (D : DS) (j : Nat) : D.flush.at_ j = D.at_ j := by
  show fitL D.size (flushN D.blk D.wait j).1.zs = fitL D.size (D.blk j).1.zs
  have h : ∀ (l : List (Nat × BV)) (b : Nat → BV × BV), (flushN b l j).1 = (b j).1 := by
    intro l
    induction l with
    | nil => intro b; rfl
    | cons p l ih =>
      intro b
      show (flushN (updF b p.1 p.2) l j).1 = _
      rw [ih]
      unfold updF
      by_cases hj : j = p.1
      · simp [hj]
      · simp [hj]
  rw [h]
theorem new_at (n size j : Nat) : (DS.new n size).at_ j = zL size := fitL_nil size
/-- Both places are read. -/
def DS.scan (D : DS) (i : Int) : DS := (D.asks i).asks (i + 1)
theorem scan_is (D : DS) (i : Int) : (D.scan i).size = D.size ∧ (D.scan i).n = D.n ∧ (D.scan i).left = spendL (spendL D.left) ∧ (D.scan i).wait = D.wait ∧ (D.scan i).blk = D.blk := by
  obtain ⟨h1, h2, h3, h4, h5⟩ := asks_is D i
  obtain ⟨g1, g2, g3, g4, g5⟩ := asks_is (D.asks i) (i + 1)
  exact ⟨g1.trans h1, g2.trans h2, g3.trans (by rw [h3]), g4.trans h4, g5.trans h5⟩
theorem scan_len (D : DS) (i : Int) : (D.scan i).tr.length = D.tr.length + 2 := by
  unfold DS.scan
  rw [asks_len, asks_len]
theorem scan_at (D : DS) (i : Int) (j : Nat) : (D.scan i).at_ j = D.at_ j := by
  unfold DS.scan
  rw [asks_at, asks_at]
/-- An epoch is written and flushed. -/
def DS.done (D : DS) (i : Int) (x : BV) : DS := (D.puts i x).flush
theorem done_is (D : DS) (i : Int) (x : BV) : (D.done i x).size = D.size ∧ (D.done i x).n = D.n ∧ (D.done i x).left = spendL (spendL D.left) ∧ (D.done i x).wait = [] := by
  obtain ⟨h1, h2, h3⟩ := puts_is D i x
  exact ⟨h1, h2, by show spendL (D.puts i x).left = _; rw [h3], rfl⟩
theorem done_tr (D : DS) (i : Int) (x : BV) : (D.done i x).tr = D.tr ++ [⟨2, i, x.zs, x⟩, ⟨3, 0, [], BV.nil⟩] := by
  show (D.puts i x).tr ++ [_] = _
  rw [puts_tr, List.append_assoc]
  rfl
theorem done_len (D : DS) (i : Int) (x : BV) : (D.done i x).tr.length = D.tr.length + 2 := by rw [done_tr]; simp
theorem done_at (D : DS) (i j : Nat) (x : BV) (h : i < D.n) : (D.done (i : Int) x).at_ j = if j = i then fitL D.size x.zs else D.at_ j := by
  show ((D.puts (i : Int) x).flush).at_ j = _
  rw [flush_at, puts_at D i j x h]
theorem spendL_two {l : Int} (h : ¬ l = 0) (h1 : ¬ l = 1) : ¬ spendL l = 0 := by
  unfold spendL
  split <;> omega

section
variable {w0 W : World} {Z : Own} {g gp : Nat} {D : DS} {key : List Int} {boot seq : Int}
set_option maxHeartbeats 2000000 in
theorem standing_any (h : Cl w0 W Z g D) (P : Pn w0 Z W gp g key boot seq) (hq : Glob w0) (hl : ¬ D.left = 0) (hlim : D.tr.length < 1000000) (at_ pl i : Int) (ha : -9223372036854775808 ≤ at_ ∧ at_ ≤ 9223372036854775000) (hp : pl = 0 ∨ pl = 1) (hi : at_ + pl = i) :
    Calls Tryd.prog 27 #[.pointer (some ⟨gp, 0, none⟩), .int .i64 at_, .int .i64 pl] W fun e W' => ∃ Z', e = .returned (.tuple #[.int .u64 (tellV key (D.shows i) pl), .bool (tellB key (D.shows i) pl)]) ∧ Cl w0 W' Z' g (D.asks i) ∧ Pn w0 Z' W' gp g key boot seq ∧ Step Z W Z' W' := by
  have hw : IntKind.i64.wrap (at_ + pl) = i := by rw [IntKind.wrap_i64]; omega
  have hR := hide (pen_read h P hq hl hlim i)
  have HB : Hid (∀ B, epoOk (openR key (D.shows i)) = true → decide (epoV (openR key (D.shows i)) % 2 = pl) = B → tellB key (D.shows i) pl = B) := fun B h1 h2 => by unfold tellB; rw [h1, h2]; rfl
  have HN : Hid (epoOk (openR key (D.shows i)) = false → tellB key (D.shows i) pl = false) := fun h1 => by unfold tellB; rw [h1]; rfl
  have HV : Hid (tellV key (D.shows i) pl = if tellB key (D.shows i) pl = true then epoV (openR key (D.shows i)) else 0) := rfl
  clear h P hi
  generalize tellV key (D.shows i) pl = V at *
  generalize tellB key (D.shows i) pl = B at *
  generalize openB key (D.shows i) = B1 at *
  generalize openR key (D.shows i) = us at *
  go_enter Tryd.func27, Tryd.ntmps27
  go_wp2_with fail
  refine hR.out.mono ?_
  rintro e W1 ⟨Z1, p, c, rfl, B2, C1, P1, s1⟩
  clear hR
  have hlt := epoV_lt B2.bs.bytes
  go_wp2_with fail
  refine (uparse_any W1 B2.bs).mono ?_
  rintro e W2 ⟨rfl, b2⟩
  have C2 := C1.below b2
  have P2 := P1.below b2
  have s2 := s1.trans (Step.of_below Z1 b2)
  clear C1 P1 s1 b2 B2
  generalize epoV us = N at *
  generalize epoOk us = ok at *
  cases ok with
  | false =>
    have hB := HN.out rfl
    have hV := HV.out
    rw [hB, if_neg (by decide)] at hV
    subst hB hV
    clear HB HN HV
    go_wp2_with fail
    go_ret2
    exact ⟨Z1, rfl, C2, P2, s2⟩
  | true =>
    replace HB : Hid (∀ B0, decide (N % 2 = pl) = B0 → B = B0) := fun B0 h2 => HB.out B0 rfl h2
    go_wp2_with fail
    refine (uplace_any N W2 hlt).mono ?_
    rintro e W3 ⟨rfl, rfl⟩
    by_cases hp2 : N % 2 = pl
    · have hne : (N % 2 != pl) = false := by simpa using hp2
      have hB := HB.out true (decide_eq_true hp2)
      have hV := HV.out
      rw [hB, if_pos rfl] at hV
      subst hB hV
      clear HB HN HV hp2
      go_wp2_with fail
      go_ret2
      exact ⟨Z1, rfl, C2, P2, s2⟩
    · have hne : (N % 2 != pl) = true := by simpa using hp2
      have hB := HB.out false (decide_eq_false hp2)
      have hV := HV.out
      rw [hB, if_neg (by decide)] at hV
      subst hB hV
      clear HB HN HV hp2
      go_wp2_with fail
      go_ret2
      exact ⟨Z1, rfl, C2, P2, s2⟩

set_option maxHeartbeats 2000000 in
theorem ulast_any (h : Cl w0 W Z g D) (P : Pn w0 Z W gp g key boot seq) (hq : Glob w0) (hl : ¬ D.left = 0) (hl1 : ¬ D.left = 1) (hlim : D.tr.length < 999999) (at_ : Int) (ha : 0 ≤ at_ ∧ at_ ≤ 1000000) (V0 V1 : Int) (B0 B1 : Bool) (hV0 : tellV key (D.shows at_) 0 = V0) (hB0 : tellB key (D.shows at_) 0 = B0) (hV1 : tellV key (D.shows (at_ + 1)) 1 = V1) (hB1 : tellB key (D.shows (at_ + 1)) 1 = B1) :
    Calls Tryd.prog 12 #[.pointer (some ⟨gp, 0, none⟩), .int .i64 at_] W fun e W' => ∃ Z', e = .returned (.tuple #[.int .u64 (max V0 V1), .bool (B0 || B1)]) ∧ Cl w0 W' Z' g (D.scan at_) ∧ Pn w0 Z' W' gp g key boot seq ∧ Step Z W Z' W' := by
  have hA := hide (standing_any h P hq hl (by omega) at_ 0 at_ (by omega) (.inl rfl) (by omega))
  rw [hV0, hB0] at hA
  have hbyt : ∀ i, IsBytes (D.shows i) := fun i => by
    obtain ⟨gb, wv, tv, hd⟩ := h.dk
    unfold DS.shows
    split
    · rename_i hh
      exact fitL_bytes _ (hd.okb i.toNat (hasI_yes hh).2).1.bs.bytes
    · exact IsBytes.nil
  have r0 := tellV_lt (key := key) 0 (hbyt at_)
  have r1 := tellV_lt (key := key) 1 (hbyt (at_ + 1))
  rw [hV0] at r0
  rw [hV1] at r1
  obtain ⟨-, -, f3, -, -⟩ := asks_is D at_
  have f6 := asks_len D at_
  have hl2 : ¬ (D.asks at_).left = 0 := by rw [f3]; exact spendL_two hl hl1
  have e1 := asks_shows D at_ (at_ + 1)
  clear h P hbyt
  go_enter Tryd.func12, Tryd.ntmps12
  go_wp2_with fail
  refine hA.out.mono ?_
  rintro e W1 ⟨Z1, rfl, C1, P1, s1⟩
  clear hA
  have hA := hide (standing_any C1 P1 hq hl2 (by omega) at_ 1 (at_ + 1) (by omega) (.inr rfl) rfl)
  rw [e1, hV1, hB1] at hA
  clear C1 P1
  go_wp2_with fail
  refine hA.out.mono ?_
  rintro e W2 ⟨Z2, rfl, C2, P2, s2⟩
  have s3 := s1.trans s2
  clear hA s1 s2
  have HM : Hid (∀ x, x = max V0 V1 → Ending.returned (.tuple #[.int .u64 x, .bool (B0 || B1)]) = .returned (.tuple #[.int .u64 (max V0 V1), .bool (B0 || B1)])) := fun x hx => by rw [hx]
  cases B0 with
  | false =>
    go_wp2_with fail
    go_ret2
    exact ⟨Z2, HM.out _ (by first | rfl | omega), C2, P2, s3⟩
  | true =>
    go_wp2_with fail
    go_ret2
    exact ⟨Z2, HM.out _ (by first | rfl | omega), C2, P2, s3⟩

set_option maxHeartbeats 2000000 in
theorem ucommit_ok (h : Cl w0 W Z g D) (P : Pn w0 Z W gp g key boot seq) (hq : Glob w0) (hl : ¬ D.left = 0) (hl1 : ¬ D.left = 1) (hlim : D.tr.length < 999999) (hlw : D.wait.length < 1000000) (hs : seq < 18446744073709551615) (at_ i n : Int) (ha : 0 ≤ at_ ∧ at_ ≤ 1000000) (hn : 0 ≤ n ∧ n < 18446744073709551616) (hi : at_ + n % 2 = i) (m : Nat) (hsz : D.size = m + 22) (hm : 13 ≤ m) :
    Calls Tryd.prog 11 #[.pointer (some ⟨gp, 0, none⟩), .int .i64 at_, .int .u64 n] W fun e W' => ∃ Z' x, e = .returned (.bool true) ∧ Hid (x.zs = sealL key boot seq (epoL n) m) ∧ Cl w0 W' Z' g (D.done i x) ∧ Pn w0 Z' W' gp g key boot (seq + 1) ∧ Step (Z.also gp) W (Z'.also gp) W' := by
  have hw : IntKind.i64.wrap (at_ + n % 2) = i := by rw [IntKind.wrap_i64]; omega
  go_enter Tryd.func11, Tryd.ntmps11
  go_wp2_with fail
  refine (uplace_any n W hn).mono ?_
  rintro e W' ⟨rfl, rfl⟩
  go_wp2_with fail
  refine (urec_any n W hn).mono ?_
  rintro e W1 ⟨gr, c, rfl, hO, b1⟩
  have C1 := h.below b1
  have P1 := P.below b1
  have s1 := Step.of_below (Z.also gp) b1
  have hW := hide (pen_write C1 P1 hq hl (by omega) hlw hs i hO.bs m hsz (by omega))
  clear h P hO b1 C1 P1
  go_wp2_with fail
  refine hW.out.mono ?_
  rintro e W2 ⟨Z2, x, rfl, hx, C2, P2, s2⟩
  have s3 := s1.trans s2
  obtain ⟨f1, f2, f3⟩ := puts_is D i x
  have f4 := puts_len D i x
  have hF := hide (pen_flush C2 P2 (by rw [f3]; exact spendL_two hl hl1) (by omega))
  clear hW s1 s2 C2 P2
  go_wp2_with fail
  refine hF.out.mono ?_
  rintro e W3 ⟨Z3, rfl, C3, P3, s4⟩
  go_wp2_with fail
  go_ret
  exact ⟨Z3, x, rfl, hx, C3, P3, s3.trans (s4.wide gp)⟩

set_option maxHeartbeats 2000000 in
/-- The power is gone ahead of the write. -/
theorem ucommit_off {p : Addr} (h : Cl w0 W Z g D) (P : Pn w0 Z W gp g key boot seq) (hq : Glob w0) (hp : Pow p w0) (hl : D.left = 0) (at_ n : Int) (hn : 0 ≤ n ∧ n < 18446744073709551616) (m : Nat) (hsz : D.size = m + 22) (hm : 13 ≤ m) :
    Calls Tryd.prog 11 #[.pointer (some ⟨gp, 0, none⟩), .int .i64 at_, .int .u64 n] W fun e W' => e = .panicked [{ v := errV p, recovered := false }] ∧ Below W.heap.size W W' := by
  obtain ⟨i, hi⟩ : ∃ i, IntKind.i64.wrap (at_ + n % 2) = i := ⟨_, rfl⟩
  go_enter Tryd.func11, Tryd.ntmps11
  go_wp2_with fail
  refine (uplace_any n W hn).mono ?_
  rintro e W' ⟨rfl, rfl⟩
  go_wp2_with fail
  refine (urec_any n W hn).mono ?_
  rintro e W1 ⟨gr, c, rfl, hO, b1⟩
  have hW := hide (pen_write_off (h.below b1) (P.below b1) hq hp hl i hO.bs m hsz (by omega))
  clear h P hO
  go_wp2_with fail
  refine hW.out.mono ?_
  rintro e W2 ⟨rfl, b2⟩
  go_wp2_with fail
  exact ⟨rfl, rfl, b1.trans (b2.mono b1.size)⟩

set_option maxHeartbeats 2000000 in
/-- The power goes behind the write. -/
theorem ucommit_cut {p : Addr} (h : Cl w0 W Z g D) (P : Pn w0 Z W gp g key boot seq) (hq : Glob w0) (hp : Pow p w0) (hl : D.left = 1) (hlim : D.tr.length < 999999) (hlw : D.wait.length < 1000000) (hs : seq < 18446744073709551615) (at_ i n : Int) (ha : 0 ≤ at_ ∧ at_ ≤ 1000000) (hn : 0 ≤ n ∧ n < 18446744073709551616) (hi : at_ + n % 2 = i) (m : Nat) (hsz : D.size = m + 22) (hm : 13 ≤ m) :
    Calls Tryd.prog 11 #[.pointer (some ⟨gp, 0, none⟩), .int .i64 at_, .int .u64 n] W fun e W' => ∃ Z' x, e = .panicked [{ v := errV p, recovered := false }] ∧ Hid (x.zs = sealL key boot seq (epoL n) m) ∧ Cl w0 W' Z' g (D.puts i x) ∧ Pn w0 Z' W' gp g key boot (seq + 1) ∧ Step (Z.also gp) W (Z'.also gp) W' := by
  have hw : IntKind.i64.wrap (at_ + n % 2) = i := by rw [IntKind.wrap_i64]; omega
  go_enter Tryd.func11, Tryd.ntmps11
  go_wp2_with fail
  refine (uplace_any n W hn).mono ?_
  rintro e W' ⟨rfl, rfl⟩
  go_wp2_with fail
  refine (urec_any n W hn).mono ?_
  rintro e W1 ⟨gr, c, rfl, hO, b1⟩
  have C1 := h.below b1
  have P1 := P.below b1
  have s1 := Step.of_below (Z.also gp) b1
  have hW := hide (pen_write C1 P1 hq (by omega) (by omega) hlw hs i hO.bs m hsz (by omega))
  clear h P hO b1 C1 P1
  go_wp2_with fail
  refine hW.out.mono ?_
  rintro e W2 ⟨Z2, x, rfl, hx, C2, P2, s2⟩
  have s3 := s1.trans s2
  obtain ⟨f1, f2, f3⟩ := puts_is D i x
  have hF := hide (pen_flush_off C2 P2 hp (by rw [f3, hl]; rfl))
  clear hW s1 s2
  go_wp2_with fail
  refine hF.out.mono ?_
  rintro e W3 ⟨rfl, rfl⟩
  go_wp2_with fail
  exact ⟨rfl, Z2, x, rfl, hx, C2, P2, s3⟩
end
#print axioms standing_any
#print axioms ulast_any
#print axioms ucommit_ok
#print axioms ucommit_off
#print axioms ucommit_cut
end Go.Proofs.YthiinflodgjdjaaDoor

/- What calls of supr.Commit and supr.Last do where the power stays. The variable of package quar reads as its text says. No conditions but those that each line states. -/
namespace Go.Proofs.YthiinflodgjdjaaDoor
open Go.RowKit
set_option maxRecDepth 20000

/-! ### Where the power stays -/
/-- What was asked turns nothing. -/
structure Still (D D' : DS) : Prop where
  size : D'.size = D.size
  n : D'.n = D.n
  left : D'.left = -1
  wait : D'.wait = D.wait
  len : D'.tr.length = D.tr.length + 2
  at_ : ∀ j, D'.at_ j = D.at_ j
theorem Still.scan {D : DS} (h : D.left = -1) (i : Int) : Still D (D.scan i) := by
  obtain ⟨f1, f2, f3, f4, -⟩ := scan_is D i
  exact ⟨f1, f2, by rw [f3, h]; rfl, f4, scan_len D i, scan_at D i⟩
/-- What was committed stands in its place. -/
structure Stands (D D' : DS) (j : Nat) (zs : List Int) : Prop where
  size : D'.size = D.size
  n : D'.n = D.n
  left : D'.left = -1
  wait : D'.wait = []
  len : D'.tr.length = D.tr.length + 2
  ev : ∃ b, D'.tr = D.tr ++ [⟨2, j, zs, b⟩, ⟨3, 0, [], BV.nil⟩]
  at_ : ∀ k, D'.at_ k = if k = j then zs else D.at_ k
theorem Stands.done {D : DS} (h : D.left = -1) (j : Nat) (hj : j < D.n) (x : BV) (zs : List Int) (hx : x.zs = zs) (hz : zs.length = D.size) : Stands D (D.done (j : Int) x) j zs := by
  subst hx
  obtain ⟨f1, f2, f3, f4⟩ := done_is D (j : Int) x
  refine ⟨f1, f2, by rw [f3, h]; rfl, f4, done_len D j x, ⟨x, done_tr D j x⟩, fun k => ?_⟩
  rw [done_at D j k x hj, fitL_self _ _ hz]

section
variable {w0 W : World} {Z : Own} {g gp : Nat} {D : DS} {key : List Int} {boot seq : Int}
theorem Pn.only {W' : World} {k : Nat} (P : Pn w0 Z W gp g key boot seq) (o : OnlyAt k W W') (hk : gp ≠ k) : Pn w0 Z W' gp g key boot seq := ⟨P.at_.only o hk, P.frm, P.kb, P.kl, P.bt, P.sq⟩
theorem ulast_at (h : Cl w0 W Z g D) (P : Pn w0 Z W gp g key boot seq) (hq : Glob w0) (hl : D.left = -1) (hlim : D.tr.length < 999999) (at_ : Int) (j : Nat) (ha : at_ = (j : Int)) (hj : j + 1 < D.n) (x0 x1 : List Int) (e0 : D.at_ j = x0) (e1 : D.at_ (j + 1) = x1) (V0 V1 : Int) (B0 B1 : Bool) (hV0 : tellV key x0 0 = V0) (hB0 : tellB key x0 0 = B0) (hV1 : tellV key x1 1 = V1) (hB1 : tellB key x1 1 = B1) :
    Calls Tryd.prog 12 #[.pointer (some ⟨gp, 0, none⟩), .int .i64 at_] W fun e W' => ∃ Z' D', e = .returned (.tuple #[.int .u64 (max V0 V1), .bool (B0 || B1)]) ∧ Still D D' ∧ Cl w0 W' Z' g D' ∧ Pn w0 Z' W' gp g key boot seq ∧ Step Z W Z' W' := by
  subst ha e0 e1
  have hn : D.n ≤ 100000 := by
    obtain ⟨gb, wv, tv, hd⟩ := h.dk
    exact hd.n
  have h0 := shows_nat (D := D) (i := (j : Int)) j rfl (by omega)
  have h1 := shows_nat (D := D) (i := (j : Int) + 1) (j + 1) (by omega) hj
  refine (ulast_any h P hq (by omega) (by omega) hlim (j : Int) (by omega) V0 V1 B0 B1 (by rw [h0]; exact hV0) (by rw [h0]; exact hB0) (by rw [h1]; exact hV1) (by rw [h1]; exact hB1)).mono ?_
  rintro e W' ⟨Z', rfl, C, P', s⟩
  exact ⟨Z', _, rfl, Still.scan hl _, C, P', s⟩
/-- A text that tells nothing in its place. -/
theorem tell_bad {zs : List Int} {m : Nat} (pl : Int) (hz : IsBytes zs) (h : zs.length ≤ 18) (hT : (epoOk zs && decide (epoV zs % 2 = pl)) = false) {boot seq : Int} (hb : 0 ≤ boot ∧ boot < 4294967296 := by omega) (hs : 0 ≤ seq ∧ seq < 18446744073709551616 := by omega) (hm : 18 ≤ m ∧ m ≤ 60000 := by omega) :
    tellB key (sealL key boot seq zs m) pl = false ∧ tellV key (sealL key boot seq zs m) pl = 0 := by
  obtain ⟨h1, h2⟩ := tell_sealed (key := key) (boot := boot) (seq := seq) pl hb hs hz (Nat.le_trans h hm.1) hm.2
  rw [hT] at h1 h2
  exact ⟨h1, h2⟩
/-- One place tells, the other one is closed. -/
theorem ulast_one (h : Cl w0 W Z g D) (P : Pn w0 Z W gp g key boot seq) (hq : Glob w0) (hl : D.left = -1) (hlim : D.tr.length < 999999) (hn : 1 < D.n) (j : Nat) (hj : j = 0 ∨ j = 1) (xs bl : List Int) (e : D.at_ j = xs) (eo : ∀ k, k ≠ j → D.at_ k = bl) (hB : openB key bl = false) (V : Int) (T : Bool) (hV : tellV key xs (j : Int) = V) (hT : tellB key xs (j : Int) = T) (hV0 : 0 ≤ V) :
    Calls Tryd.prog 12 #[.pointer (some ⟨gp, 0, none⟩), .int .i64 0] W fun e W' => ∃ Z' D', e = .returned (.tuple #[.int .u64 V, .bool T]) ∧ Still D D' ∧ Cl w0 W' Z' g D' ∧ Pn w0 Z' W' gp g key boot seq ∧ Step Z W Z' W' := by
  rcases hj with rfl | rfl
  · have t1 := tell_closed 1 hB
    refine (ulast_at h P hq hl hlim 0 0 rfl (by omega) xs bl e (eo 1 (by decide)) V 0 T false hV hT (tellV_no t1) t1).mono ?_
    rintro e W' ⟨Z', D', rfl, h1⟩
    exact ⟨Z', D', by rw [Bool.or_false, show max V 0 = V by omega], h1⟩
  · have t0 := tell_closed 0 hB
    refine (ulast_at h P hq hl hlim 0 0 rfl (by omega) bl xs (eo 0 (by decide)) e 0 V false T (tellV_no t0) t0 hV hT).mono ?_
    rintro e W' ⟨Z', D', rfl, h1⟩
    exact ⟨Z', D', by rw [Bool.false_or, show max 0 V = V by omega], h1⟩
theorem ucommit_at (h : Cl w0 W Z g D) (P : Pn w0 Z W gp g key boot seq) (hq : Glob w0) (hl : D.left = -1) (hlim : D.tr.length < 999999) (hlw : D.wait.length < 1000000) (hs : seq < 18446744073709551615) (at_ n : Int) (ha : 0 ≤ at_ ∧ at_ ≤ 1000000) (hn : 0 ≤ n ∧ n < 18446744073709551616) (j : Nat) (hj : at_ + n % 2 = (j : Int)) (hjn : j < D.n) (m : Nat) (hsz : D.size = m + 22) (hm : 13 ≤ m) :
    Calls Tryd.prog 11 #[.pointer (some ⟨gp, 0, none⟩), .int .i64 at_, .int .u64 n] W fun e W' => ∃ Z' D', e = .returned (.bool true) ∧ Stands D D' j (sealL key boot seq (epoL n) m) ∧ Cl w0 W' Z' g D' ∧ Pn w0 Z' W' gp g key boot (seq + 1) ∧ Step (Z.also gp) W (Z'.also gp) W' := by
  refine (ucommit_ok h P hq (by omega) (by omega) hlim hlw hs at_ (j : Int) n ha hn hj m hsz hm).mono ?_
  rintro e W' ⟨Z', x, rfl, hx, C, P', s⟩
  exact ⟨Z', _, rfl, Stands.done hl j hjn x _ hx.out (by rw [sealL_length _ _ _ _ _ (by rw [epoL_length]; exact hm), hsz]), C, P', s⟩
end

#print axioms ulast_at
#print axioms ucommit_at
end Go.Proofs.YthiinflodgjdjaaDoor
