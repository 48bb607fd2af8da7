
/- Several texts in one, in the order in which they lean on each other; what each says stands at its head. No conditions but those that each line states. -/
import Derived.Test.YtlfcejfpdgdnkaaDoorXDisk
import Derived.Lib.SliceRun
import Derived.Lib.LazyBuf
import Derived.Test.YtlfcejfpdgdnkaaDoorXPen
import Derived.Test.YtlfcejfpdgdnkaaDoorXBase
import Derived.Test.YtlfcejfpdgdnkaaDoorXSupr
/- Bits in rows of bytes: told, set, turned by another row, cleared; rows that tell a bit for each of so many places. No program is named here; no conditions but those that each line states. -/
namespace Go.Proofs.YtlfcejfpdgdnkaaDoor
open Go.RowKit
set_option maxRecDepth 20000

/-- Bit i of a row, eight to a byte, the lowest first. -/
def bitB (zs : List Int) (i : Nat) : Bool := (zs.getD (i / 8) 0).toNat.testBit (i % 8)
def b2i (b : Bool) : Int := if b = true then 1 else 0
theorem b2i_xor (a b : Bool) : bits .xor .i64 (b2i a) (b2i b) = b2i (a != b) := by
  cases a <;> cases b <;> decide
theorem b2i_not (a : Bool) : bits .xor .i64 (b2i a) 1 = b2i (!a) := by
  cases a <;> decide
theorem b2i_one (a : Bool) : 0 ≤ b2i a ∧ b2i a ≤ 1 := by
  cases a <;> decide
theorem i64_bit (n : Int) : bits .and .i64 n 1 = n % 2 := i64_mask n 1 (by decide) 1 (by decide)
theorem div_pow_in (z : Int) (hz : 0 ≤ z ∧ z < 256) (r : Nat) : 0 ≤ z / 2 ^ r ∧ z / 2 ^ r < 256 ∧ z / 2 ^ r = ((z.toNat / 2 ^ r : Nat) : Int) := by
  obtain ⟨a, rfl⟩ := Int.eq_ofNat_of_zero_le hz.1
  have hc : ((2 : Int) ^ r) = ((2 ^ r : Nat) : Int) := (Int.natCast_pow 2 r).symm
  have h1 : a / 2 ^ r ≤ a := Nat.div_le_self _ _
  rw [hc, ← Int.natCast_ediv, Int.toNat_natCast]
  exact ⟨Int.natCast_nonneg _, by omega, rfl⟩
theorem bit_val (z : Int) (hz : 0 ≤ z ∧ z < 256) (r : Nat) : bits .and .i64 (wrap64 (z / 2 ^ r)) 1 = b2i (z.toNat.testBit r) := by
  obtain ⟨h1, h2, h3⟩ := div_pow_in z hz r
  have hw : wrap64 (z / 2 ^ r) = z / 2 ^ r := by unfold wrap64; omega
  rw [hw, i64_bit, h3, Nat.testBit_eq_decide_div_mod_eq]
  unfold b2i
  by_cases h : z.toNat / 2 ^ r % 2 = 1
  · rw [decide_eq_true h, if_pos rfl]; omega
  · rw [decide_eq_false h, if_neg (by decide)]; omega
/-- Bit i made 1. -/
def setB (zs : List Int) (i : Nat) : List Int := zs.set (i / 8) (((zs.getD (i / 8) 0).toNat ||| 2 ^ (i % 8) : Nat) : Int)
theorem or_val (z : Int) (hz : 0 ≤ z ∧ z < 256) (r : Nat) (hr : r < 8) : bits .or .u8 z (2 ^ r % 256) = ((z.toNat ||| 2 ^ r : Nat) : Int) := by
  have hc : ((2 : Int) ^ r) = ((2 ^ r : Nat) : Int) := (Int.natCast_pow 2 r).symm
  have h1 : 2 ^ r < 2 ^ 8 := Nat.pow_lt_pow_right (by decide) hr
  rw [hc]
  replace h1 : 2 ^ r < 256 := h1
  generalize 2 ^ r = p at *
  have h2 : ((p : Int) % 256) = (p : Int) := by omega
  rw [h2, u8_or _ _ hz.1 hz.2 (by omega) (by omega), Int.toNat_natCast]
theorem OwnB.setAt {E : TypeId} {w : World} {g : Nat} {zs : List Int} (h : OwnB E w g zs) (q : Nat) (x : Int) : OwnB E (w.setCell ⟨g, q, none⟩ (.int .u8 x)) g (zs.set q x) := by
  unfold OwnB
  rw [heap_setCell_same w g q _ _ _ h]
  simp only [List.setIfInBounds_toArray, List.map_set]
/-- Each byte exclusive or with the other row's. -/
def xorZ (zs ys : List Int) : List Int := rowL (fun j => xr (zs.getD j 0) (ys.getD j 0)) zs.length
theorem setB_length (zs : List Int) (i : Nat) : (setB zs i).length = zs.length := by simp [setB]
theorem getD_byte {zs : List Int} (h : IsBytes zs) (j : Nat) : 0 ≤ zs.getD j 0 ∧ zs.getD j 0 < 256 := by
  rcases Nat.lt_or_ge j zs.length with h1 | h1
  · have : zs.getD j 0 ∈ zs := by simp [List.getD, h1]
    exact h _ this
  · simp [List.getD, List.getElem?_eq_none h1]
theorem or_pow_lt (a r : Nat) (ha : a < 256) (hr : r < 8) : a ||| 2 ^ r < 256 := Nat.or_lt_two_pow (n := 8) ha (Nat.pow_lt_pow_right (by decide) hr)
theorem setB_bytes {zs : List Int} (h : IsBytes zs) (i : Nat) : IsBytes (setB zs i) := by
  have h1 := getD_byte h (i / 8)
  refine h.set _ _ ⟨Int.natCast_nonneg _, ?_⟩
  have := or_pow_lt (zs.getD (i / 8) 0).toNat (i % 8) (by omega) (by omega)
  omega
theorem bitB_set {zs : List Int} {i : Nat} (hi : i / 8 < zs.length) (j : Nat) : bitB (setB zs i) j = (decide (j = i) || bitB zs j) := by
  unfold bitB setB
  by_cases hq : j / 8 = i / 8
  · have e : (zs.set (i / 8) (((zs.getD (i / 8) 0).toNat ||| 2 ^ (i % 8) : Nat) : Int)).getD (j / 8) 0 = (((zs.getD (i / 8) 0).toNat ||| 2 ^ (i % 8) : Nat) : Int) := by
      rw [hq]; simp [List.getD, hi]
    rw [e, Int.toNat_natCast, Nat.testBit_or, Nat.testBit_two_pow, hq, Bool.or_comm]
    congr 1
    by_cases h : j = i
    · rw [decide_eq_true h, decide_eq_true (by rw [h])]
    · rw [decide_eq_false h, decide_eq_false (by omega)]
  · have e : (zs.set (i / 8) (((zs.getD (i / 8) 0).toNat ||| 2 ^ (i % 8) : Nat) : Int)).getD (j / 8) 0 = zs.getD (j / 8) 0 := by
      simp [List.getD, Ne.symm hq]
    rw [e, decide_eq_false (by rintro rfl; exact hq rfl), Bool.false_or]
theorem xorZ_length (zs ys : List Int) : (xorZ zs ys).length = zs.length := rowL_length _ _
theorem xorZ_bytes {zs ys : List Int} (h : IsBytes zs) (k : IsBytes ys) : IsBytes (xorZ zs ys) := rowL_bytes _ _ fun j _ => xr_lt _ _ (getD_byte h j) (getD_byte k j)
theorem bitB_out {zs : List Int} {i : Nat} (h : zs.length ≤ i / 8) : bitB zs i = false := by
  unfold bitB
  simp [List.getD, List.getElem?_eq_none h]
theorem bitB_xor {zs ys : List Int} (hl : ys.length = zs.length) (j : Nat) : bitB (xorZ zs ys) j = (bitB zs j != bitB ys j) := by
  rcases Nat.lt_or_ge (j / 8) zs.length with h | h
  · unfold bitB xorZ
    rw [rowL_getD _ _ _ h]
    unfold xr
    rw [Int.toNat_natCast, Nat.testBit_xor]
  · rw [bitB_out (by rw [xorZ_length]; exact h), bitB_out h, bitB_out (by omega)]; rfl
theorem bitB_zL (n j : Nat) : bitB (zL n) j = false := by
  unfold bitB
  rw [zL_getD]
  exact Nat.zero_testBit _
/-- A row with a bit for each of n places, and none for more. -/
structure StP (zs : List Int) (n : Nat) : Prop where
  len : zs.length = (n + 7) / 8
  bytes : IsBytes zs
  none_ : ∀ i, n ≤ i → bitB zs i = false
theorem StP.zero (n : Nat) : StP (zL ((n + 7) / 8)) n := ⟨zL_length _, zL_bytes _, fun i _ => bitB_zL _ i⟩
theorem StP.set {zs : List Int} {n : Nat} (h : StP zs n) (i : Nat) (hi : i < n) : StP (setB zs i) n :=
  ⟨(setB_length _ _).trans h.len, setB_bytes h.bytes i, fun j hj => by
    have := h.len
    rw [bitB_set (by omega), h.none_ j hj, decide_eq_false (by omega)]; rfl⟩
theorem StP.xor {zs ys : List Int} {n : Nat} (h : StP zs n) (k : StP ys n) : StP (xorZ zs ys) n :=
  ⟨(xorZ_length _ _).trans h.len, xorZ_bytes h.bytes k.bytes, fun j hj => by rw [bitB_xor (k.len.trans h.len.symm), h.none_ j hj, k.none_ j hj]; rfl⟩
theorem byte_high (b : Int) (hb : 0 ≤ b ∧ b < 256) (u : Nat) : b / 2 ^ u = 0 ↔ ∀ k, u ≤ k → b.toNat.testBit k = false := by
  obtain ⟨a, rfl⟩ := Int.eq_ofNat_of_zero_le hb.1
  have hc : ((2 : Int) ^ u) = ((2 ^ u : Nat) : Int) := (Int.natCast_pow 2 u).symm
  have hp : 0 < 2 ^ u := Nat.pow_pos (by decide)
  rw [hc, Int.toNat_natCast]
  constructor
  · intro h k hk
    have h1 : a / 2 ^ u = 0 := by
      have := h
      rw [← Int.natCast_ediv] at this
      omega
    have h2 : a < 2 ^ u := by
      rcases Nat.div_eq_zero_iff.1 h1 with h3 | h3
      · omega
      · exact h3
    exact Nat.testBit_lt_two_pow (Nat.lt_of_lt_of_le h2 (Nat.pow_le_pow_right (by decide) hk))
  · intro h
    have h2 : a < 2 ^ u := Nat.lt_pow_two_of_testBit a h
    rw [← Int.natCast_ediv, Nat.div_eq_of_lt h2]; rfl
/-- Whether a row is one of n places. -/
def stB (zs : List Int) (n : Nat) : Bool := decide (zs.length = (n + 7) / 8) && (decide (n % 8 = 0) || decide (zs.getD (zs.length - 1) 0 / 2 ^ (n % 8) = 0))
theorem stB_iff {zs : List Int} {n : Nat} (hb : IsBytes zs) : stB zs n = true ↔ (zs.length = (n + 7) / 8 ∧ ∀ i, n ≤ i → bitB zs i = false) := by
  unfold stB
  rw [Bool.and_eq_true, decide_eq_true_eq, Bool.or_eq_true, decide_eq_true_eq, decide_eq_true_eq]
  constructor
  · rintro ⟨hl, h⟩
    refine ⟨hl, fun i hi => ?_⟩
    rcases Nat.lt_or_ge (i / 8) zs.length with h1 | h1
    · rcases h with h | h
      · omega
      · rw [byte_high _ (getD_byte hb _)] at h
        have e : i / 8 = zs.length - 1 := by omega
        unfold bitB
        rw [e]
        exact h _ (by omega)
    · exact bitB_out h1
  · rintro ⟨hl, h⟩
    refine ⟨hl, ?_⟩
    by_cases h0 : n % 8 = 0
    · exact .inl h0
    · refine .inr ((byte_high _ (getD_byte hb _) _).2 fun k hk => ?_)
      by_cases hk8 : k < 8
      · have h1 := h (8 * (zs.length - 1) + k) (by omega)
        unfold bitB at h1
        rwa [show (8 * (zs.length - 1) + k) / 8 = zs.length - 1 by omega, show (8 * (zs.length - 1) + k) % 8 = k by omega] at h1
      · have := getD_byte hb (zs.length - 1)
        exact Nat.testBit_lt_two_pow (Nat.lt_of_lt_of_le (show (zs.getD (zs.length - 1) 0).toNat < 2 ^ 8 by omega) (Nat.pow_le_pow_right (by decide) (by omega)))
theorem StP.ok {zs : List Int} {n : Nat} (h : StP zs n) : stB zs n = true := (stB_iff h.bytes).2 ⟨h.len, h.none_⟩
theorem stB_stP {zs : List Int} {n : Nat} (hb : IsBytes zs) (h : stB zs n = true) : StP zs n := ⟨((stB_iff hb).1 h).1, hb, ((stB_iff hb).1 h).2⟩

/-- 'clear(b)', b a row of the call's own. -/
theorem zero_u8 (w : World) : (zeroValue 5).run Tryd.prog w = .ok (.int .u8 0) w := by
  obtain ⟨i, hi, hz⟩ := Option.map_eq_some_iff.1 Tryd.info_u8
  simp only [Prod.mk.injEq] at hz
  simp [zeroValue, typeInfo, hi, hz.1]
theorem run_clear_bytes {E : TypeId} (w : World) (g n : Nat) (zs : List Int) (h : OwnB E w g zs) (hn : zs.length = n) (ty : TypeId) :
    ∃ W', (Builtin.clear_ #[36] ty #[.slice (some ⟨g, 0, none⟩) n n]).run Tryd.prog w = .ok (.tuple #[]) W' ∧ OwnB E W' g (zL n) ∧ OnlyAt g w W' := by
  have hf := h.froz
  rcases Nat.eq_zero_or_pos n with h0 | h0
  · subst h0
    obtain rfl : zs = [] := List.eq_nil_of_length_eq_zero hn
    refine ⟨w, ?_, h, ⟨rfl, rfl, rfl, rfl, fun _ _ => rfl⟩⟩
    simp [Builtin.clear_, run_underlying Tryd.underlying36]
  · refine ⟨_, Go.Lib.run_clear_slice (P := Tryd.prog) w 36 5 ty (.int .u8 0) Tryd.underlying36 zero_u8 rfl rfl g 0 n n h0 (fun j hj => ?_) (fun j _ => ?_), ?_, setCells_only g _ 0 w⟩
    · rw [Nat.zero_add, h.cell j (by omega)]; rfl
    · rw [Nat.zero_add]; exact hf j
    · have hr : w.rowIs g E n (fun i => .int .u8 (zs.getD i 0)) := ⟨_, h, by simp [hn], fun i hi => by simp [List.getD, show i < zs.length by omega]⟩
      refine OwnB.of_rowIs (rowIs_setCells (List.replicate n (.int .u8 0)) 0 w _ hr) _ (zL_length n) fun i hi => ?_
      rw [zL_getD]
      simp [hi]
#print axioms stB_iff
end Go.Proofs.YtlfcejfpdgdnkaaDoor

/- What the small calls of package bank do, for every row of bytes. No conditions but those that each line states. -/
namespace Go.Proofs.YtlfcejfpdgdnkaaDoor
open Go.RowKit
set_option maxRecDepth 20000

theorem jsize_any (n : Nat) (w : World) (hn : n ≤ 1000000) :
    Calls Tryd.prog 20 #[.int .i64 (n : Int)] w fun e w' => e = .returned (.int .i64 (((n + 7) / 8 : Nat) : Int)) ∧ w = w' := by
  obtain ⟨q, hq⟩ : ∃ q : Nat, q = (n + 7) / 8 := ⟨_, rfl⟩
  have e1 : ((n : Int) + 8 - 1) / 8 = (q : Int) := by omega
  rw [← hq]
  clear hq
  go_enter Tryd.func20, Tryd.ntmps20
  go_wp2_with fail
  go_ret
  refine ⟨?_, rfl⟩
  show Ending.returned (.int .i64 (((n : Int) + 8 - 1) / 8)) = _
  rw [e1]
theorem jbit_any {a : Option Addr} {n c : Nat} {zs : List Int} (w : World) (h : Bs w a n c zs) (i : Nat) (hi : i / 8 < n) :
    Calls Tryd.prog 26 #[.slice a n c, .int .i64 (i : Int)] w fun e w' => e = .returned (.int .i64 (b2i (bitB zs i))) ∧ w = w' := by
  obtain ⟨q, hq⟩ : ∃ q : Nat, q = i / 8 := ⟨_, rfl⟩
  obtain ⟨r, hr⟩ : ∃ r : Nat, r = i % 8 := ⟨_, rfl⟩
  have e1 : (i : Int) / 8 = (q : Int) := by omega
  have e2 : (i : Int) % 8 = (r : Int) := by omega
  have hr8 : r < 8 := by omega
  have hlc := h.le_cap
  have hcc := h.cap_le
  have hzb := getD_byte h.bytes q
  obtain ⟨b, off, rfl, hc⟩ : ∃ b off, a = some ⟨b, off, none⟩ ∧ ∀ i, i < n → w.cell? ⟨b, off + i, none⟩ = some (.int .u8 (zs.getD i 0)) := by
    rcases h.place with h1 | h1
    · omega
    · exact h1
  have hc0 := hc q (by omega)
  have hB : bitB zs i = (zs.getD q 0).toNat.testBit r := by unfold bitB; rw [← hq, ← hr]
  rw [hB]
  rw [← hq] at hi
  generalize zs.getD q 0 = z at *
  have hv := hide (bit_val z hzb r)
  clear hq hr hB h hc
  go_enter Tryd.func26, Tryd.ntmps26
  go_wp2_with fail
  go_ret
  refine ⟨?_, rfl⟩
  show Ending.returned (.int .i64 (bits .and .i64 (wrap64 (z / 2 ^ r)) 1)) = _
  rw [hv.out]
set_option maxHeartbeats 1000000 in
theorem jset_any {E : TypeId} (w : World) (g n : Nat) (zs : List Int) (h : OwnB E w g zs) (hz : IsBytes zs) (hn : zs.length = n) (hn63 : n ≤ 1000000) (i : Nat) (hi : i / 8 < n) :
    Calls Tryd.prog 21 #[.slice (some ⟨g, 0, none⟩) n n, .int .i64 (i : Int)] w fun e w' => e = .returned (.tuple #[]) ∧ OwnB E w' g (setB zs i) ∧ OnlyAt g w w' := by
  obtain ⟨q, hq⟩ : ∃ q : Nat, q = i / 8 := ⟨_, rfl⟩
  obtain ⟨r, hr⟩ : ∃ r : Nat, r = i % 8 := ⟨_, rfl⟩
  have e1 : (i : Int) / 8 = (q : Int) := by omega
  have e2 : (i : Int) % 8 = (r : Int) := by omega
  have hr8 : r < 8 := by omega
  have hzb := getD_byte hz q
  have hc0 := h.cell q (by omega)
  have hf0 := h.froz q
  have hS : setB zs i = zs.set q (((zs.getD q 0).toNat ||| 2 ^ r : Nat) : Int) := by unfold setB; rw [← hq, ← hr]
  rw [hS]
  rw [← hq] at hi
  have HZ := hide h
  clear hz hn hq hr hS h
  generalize zs.getD q 0 = z at *
  go_enter Tryd.func21, Tryd.ntmps21
  go_wp2_with fail
  have hv := hide (or_val z hzb r hr8)
  have ho := OnlyAt.setC g q w (.int .u8 (bits BinOp.or IntKind.u8 z (2 ^ r % 256)))
  have hw := HZ.out.setAt q (bits BinOp.or IntKind.u8 z (2 ^ r % 256))
  have HO := hide ho
  have HW := hide hw
  clear ho hw
  go_region
  refine bodyPost_end (results_none rfl _ _ _) rfl ?_
  have ho := HO.out
  exact ⟨rfl, by rw [← hv.out]; exact HW.out, ⟨ho.os, ho.tape, ho.output, ho.size, ho.block⟩⟩
/-- Whether a row is a state. -/
theorem jstate_any {a : Option Addr} {len c : Nat} {zs : List Int} (w : World) (h : Bs w a len c zs) (n : Nat) (hn : n ≤ 100000) :
    Calls Tryd.prog 30 #[.slice a len c, .int .i64 (n : Int)] w fun e w' => e = .returned (.bool (stB zs n)) ∧ w = w' := by
  have hS := hide (jsize_any n w (by omega))
  have hzl := h.length
  have hlc := h.le_cap
  have hcc := h.cap_le
  obtain ⟨m, hm⟩ : ∃ m : Nat, (n + 7) / 8 = m := ⟨_, rfl⟩
  obtain ⟨u, hu⟩ : ∃ u : Nat, n % 8 = u := ⟨_, rfl⟩
  have eu : (n : Int) % 8 = (u : Int) := by omega
  have hu8 : u < 8 := by omega
  rw [hm] at hS
  by_cases hl : len = m
  · by_cases h0 : u = 0
    · have hb : stB zs n = true := by unfold stB; rw [hm, hu, hzl, decide_eq_true hl, decide_eq_true h0]; rfl
      rw [hb]
      subst hl
      subst h0
      clear h hzl hb hu hm
      go_enter Tryd.func30, Tryd.ntmps30
      go_wp2_with fail
      refine hS.out.mono ?_
      rintro e W1 ⟨rfl, rfl⟩
      clear hS
      go_wp2_with fail
      go_ret
      exact ⟨rfl, rfl⟩
    · have hp : 0 < len := by omega
      obtain ⟨k, rfl⟩ : ∃ k, len = k + 1 := ⟨len - 1, by omega⟩
      obtain ⟨b, off, rfl, hc⟩ : ∃ b off, a = some ⟨b, off, none⟩ ∧ ∀ i, i < k + 1 → w.cell? ⟨b, off + i, none⟩ = some (.int .u8 (zs.getD i 0)) := by
        rcases h.place with h1 | h1
        · omega
        · exact h1
      have hck := hc k (by omega)
      have hzb := getD_byte h.bytes k
      have hb : stB zs n = decide (zs.getD k 0 / 2 ^ u = 0) := by unfold stB; rw [hm, hu, hzl, decide_eq_true hl, decide_eq_false h0]; rfl
      rw [hb]
      have e1 : (((k + 1 : Nat) : Int)) - 1 = (k : Int) := by omega
      generalize zs.getD k 0 = z at *
      subst hl
      clear h hzl hb hu hm hc hp
      go_enter Tryd.func30, Tryd.ntmps30
      go_wp2_with fail
      refine hS.out.mono ?_
      rintro e W1 ⟨rfl, rfl⟩
      clear hS
      go_wp2_with fail
      go_ret
      refine ⟨?_, rfl⟩
      have hu0 : ((u : Int) == 0) = false := by rw [beq_eq_false_iff_ne]; omega
      show Ending.returned (.bool ((u : Int) == 0 || z / 2 ^ u == 0)) = _
      rw [hu0, Bool.false_or]
      by_cases hz0 : z / 2 ^ u = 0
      · rw [decide_eq_true hz0, hz0]; rfl
      · rw [decide_eq_false hz0, beq_eq_false_iff_ne.2 hz0]
  · have hb : stB zs n = false := by unfold stB; rw [hm, hzl, decide_eq_false hl]; rfl
    rw [hb]
    have hl2 : ¬ (len : Int) = (m : Int) := by omega
    clear h hzl hb hu hm
    go_enter Tryd.func30, Tryd.ntmps30
    go_wp2_with fail
    refine hS.out.mono ?_
    rintro e W1 ⟨rfl, rfl⟩
    clear hS
    go_wp2_with fail
    go_ret
    exact ⟨rfl, rfl⟩
/-- 'bytes.Clone(b)', b not nil. -/
theorem jclone_any {g off len c : Nat} {zs : List Int} (w : World) (h : Bs w (some ⟨g, off, none⟩) len c zs) (hl : len ≤ 140737488355328) :
    Calls Tryd.prog 29 #[.slice (some ⟨g, off, none⟩) len c] w fun e w' => ∃ a' c', e = .returned (.slice a' len c') ∧ OwnS 5 w.heap.size w' a' len c' zs ∧ Below w.heap.size w w' := by
  obtain ⟨a4, c4, w4, hr4, ho4, hb4⟩ := run_append_fresh w _ len c zs h hl
  have HO := hide ho4
  have hne : ∀ w, (binOp .eql 36 (.slice (some ⟨g, off, none⟩) len c) (.slice none 0 0)).run Tryd.prog w = .ok (.bool false) w := fun w => Go.Lib.run_eql_slice_nil (P := Tryd.prog) w 36 5 (some ⟨g, off, none⟩) len c 0 0 Tryd.underlying36
  clear h ho4
  go_enter Tryd.func29, Tryd.ntmps29
  go_wp2_with (at_builtin; refine wpList_append_run (by rfl) (.tmp 5) (.tmp 6) 36 (by rfl) _ _ _ _ (by rfl) (by rfl) hr4 ?_)
  go_ret
  exact ⟨a4, c4, rfl, HO.out, hb4⟩
end Go.Proofs.YtlfcejfpdgdnkaaDoor

/- A bank in memory; what a call of bank.New makes. No conditions but those that each line states. -/
namespace Go.Proofs.YtlfcejfpdgdnkaaDoor
open Go.RowKit
set_option maxRecDepth 20000

/-! ### One step, and then whatever may come -/
theorem wpR_one {P : Program} {ops : Array Oper} {Q : Exit → Act → World → Prop} {md : Region.Mode} {R : World → World → Prop} {fuel : Nat} {listed : Array Bool} {a : Act} {w : World} (i : Nat) (hr : (Region.ready md ops listed == [i]) = true)
    (h1 : wpOp P ops Q i (fun a' w' => R w w' ∧ wpR P md ops Q R fuel (listed.setIfInBounds i true) a' w') a w) : wpR P md ops Q R (fuel + 1) listed a w := by
  have hr' : Region.ready md ops listed = [i] := by simpa using hr
  refine ⟨fun h => (by rw [hr'] at h; cases h), fun k hk => ?_⟩
  rw [hr'] at hk
  simp only [List.mem_cons, List.not_mem_nil, or_false] at hk
  rcases hk with rfl
  exact h1

/-! ### A bank in memory -/
def rowO (zs : List Int) : Obj := .cells (zs.map (Value.int .u8)).toArray 5 (0, 0)
def bkV (gp : Nat) (at_ n : Int) (gh gf m : Nat) : Array Value := #[.pointer (some ⟨gp, 0, none⟩), .int .i64 at_, .int .i64 n, .slice (some ⟨gh, 0, none⟩) m m, .slice (some ⟨gf, 0, none⟩) m m]
def bkO (gp : Nat) (at_ n : Int) (gh gf m : Nat) : Obj := .cells (bkV gp at_ n gh gf m) 61 (0, 0)
/-- A bank of n places on the pen at gp, made since w0; it lies aside of what is the device's own. -/
structure Bk (w0 : World) (Z : Own) (W : World) (gb gp : Nat) (at_ n : Nat) (gh gf m : Nat) (hs fs : List Int) : Prop where
  has : Has Z W gb (bkO gp (at_ : Int) (n : Int) gh gf m)
  hol : Has Z W gh (rowO hs)
  fre : Has Z W gf (rowO fs)
  fb : w0.heap.size ≤ gb
  fh : w0.heap.size ≤ gh
  ff : w0.heap.size ≤ gf
  hf : gh ≠ gf
  bh : gb ≠ gh
  bf : gb ≠ gf
  pb : gp ≠ gb
  ph : gp ≠ gh
  pf : gp ≠ gf
  okh : StP hs n
  okf : StP fs n
  me : (n + 7) / 8 = m
  ln : n ≤ 100000
  la : at_ ≤ 1000000
section
variable {w0 W W' : World} {Z Z' : Own} {g gp gb gh gf m at_ n : Nat} {D : DS} {key : List Int} {boot seq : Int} {hs fs : List Int}
theorem Bk.c0 (B : Bk w0 Z W gb gp at_ n gh gf m hs fs) : W.cell? ⟨gb, 0, none⟩ = some (.pointer (some ⟨gp, 0, none⟩)) := cell_of_row W gb 0 _ _ _ B.has.1
theorem Bk.c1 (B : Bk w0 Z W gb gp at_ n gh gf m hs fs) : W.cell? ⟨gb, 1, none⟩ = some (.int .i64 (at_ : Int)) := cell_of_row W gb 1 _ _ _ B.has.1
theorem Bk.c2 (B : Bk w0 Z W gb gp at_ n gh gf m hs fs) : W.cell? ⟨gb, 2, none⟩ = some (.int .i64 (n : Int)) := cell_of_row W gb 2 _ _ _ B.has.1
theorem Bk.c3 (B : Bk w0 Z W gb gp at_ n gh gf m hs fs) : W.cell? ⟨gb, 3, none⟩ = some (.slice (some ⟨gh, 0, none⟩) m m) := cell_of_row W gb 3 _ _ _ B.has.1
theorem Bk.c4 (B : Bk w0 Z W gb gp at_ n gh gf m hs fs) : W.cell? ⟨gb, 4, none⟩ = some (.slice (some ⟨gf, 0, none⟩) m m) := cell_of_row W gb 4 _ _ _ B.has.1
theorem Bk.hl (B : Bk w0 Z W gb gp at_ n gh gf m hs fs) : hs.length = m := B.okh.len.trans B.me
theorem Bk.fl (B : Bk w0 Z W gb gp at_ n gh gf m hs fs) : fs.length = m := B.okf.len.trans B.me
theorem Bk.ho (B : Bk w0 Z W gb gp at_ n gh gf m hs fs) : OwnB 5 W gh hs := B.hol.1
theorem Bk.fo (B : Bk w0 Z W gb gp at_ n gh gf m hs fs) : OwnB 5 W gf fs := B.fre.1
theorem Bk.hbs (B : Bk w0 Z W gb gp at_ n gh gf m hs fs) : Bs W (some ⟨gh, 0, none⟩) m m hs := B.ho.bs B.okh.bytes m B.hl (by have := B.me; have := B.ln; omega)
theorem Bk.fbs (B : Bk w0 Z W gb gp at_ n gh gf m hs fs) : Bs W (some ⟨gf, 0, none⟩) m m fs := B.fo.bs B.okf.bytes m B.fl (by have := B.me; have := B.ln; omega)
theorem Bk.step (B : Bk w0 Z W gb gp at_ n gh gf m hs fs) (s : Step Z W Z' W') : Bk w0 Z' W' gb gp at_ n gh gf m hs fs := { B with has := B.has.step s, hol := B.hol.step s, fre := B.fre.step s }
theorem Bk.below (B : Bk w0 Z W gb gp at_ n gh gf m hs fs) (b : Below W.heap.size W W') : Bk w0 Z W' gb gp at_ n gh gf m hs fs := { B with has := B.has.below b, hol := B.hol.below b, fre := B.fre.below b }
theorem Bk.beside (B : Bk w0 Z W gb gp at_ n gh gf m hs fs) (s : Step (Z.also gp) W (Z'.also gp) W') : Bk w0 Z' W' gb gp at_ n gh gf m hs fs := { B with has := B.has.beside s (Ne.symm B.pb), hol := B.hol.beside s (Ne.symm B.ph), fre := B.fre.beside s (Ne.symm B.pf) }
theorem Bk.keptZ (B : Bk w0 Z W gb gp at_ n gh gf m hs fs) (b : KeptBut Z.S W W') : Bk w0 Z W' gb gp at_ n gh gf m hs fs :=
  { B with has := ⟨(b.2 gb B.has.lt B.has.2).trans B.has.1, B.has.2⟩, hol := ⟨(b.2 gh B.hol.lt B.hol.2).trans B.hol.1, B.hol.2⟩, fre := ⟨(b.2 gf B.fre.lt B.fre.2).trans B.fre.1, B.fre.2⟩ }
theorem Bk.keptP (B : Bk w0 Z W gb gp at_ n gh gf m hs fs) (b : KeptBut (Z.also gp).S W W') : Bk w0 Z W' gb gp at_ n gh gf m hs fs :=
  { B with has := ⟨(b.2 gb B.has.lt (fun h => h.elim B.has.2 (Ne.symm B.pb))).trans B.has.1, B.has.2⟩, hol := ⟨(b.2 gh B.hol.lt (fun h => h.elim B.hol.2 (Ne.symm B.ph))).trans B.hol.1, B.hol.2⟩, fre := ⟨(b.2 gf B.fre.lt (fun h => h.elim B.fre.2 (Ne.symm B.pf))).trans B.fre.1, B.fre.2⟩ }
/-- The row of what is new is another one. -/
theorem Bk.setF (B : Bk w0 Z W gb gp at_ n gh gf m hs fs) {ys : List Int} (o : OnlyAt gf W W') (ho : OwnB 5 W' gf ys) (hy : StP ys n) : Bk w0 Z W' gb gp at_ n gh gf m hs ys :=
  { B with has := B.has.only o B.bf, hol := B.hol.only o B.hf, fre := ⟨ho, B.fre.2⟩, okf := hy }
theorem Bk.setH (B : Bk w0 Z W gb gp at_ n gh gf m hs fs) {ys : List Int} (o : OnlyAt gh W W') (ho : OwnB 5 W' gh ys) (hy : StP ys n) : Bk w0 Z W' gb gp at_ n gh gf m ys fs :=
  { B with has := B.has.only o B.bh, fre := B.fre.only o (Ne.symm B.hf), hol := ⟨ho, B.hol.2⟩, okh := hy }
theorem Pn.only1 {k : Nat} (P : Pn w0 Z W gp g key boot seq) (o : OnlyAt k W W') (hk : gp ≠ k) : Pn w0 Z W' gp g key boot seq := ⟨P.at_.only o hk, P.frm, P.kb, P.kl, P.bt, P.sq⟩

/-- All of n places' bits 1. -/
def onesL (m : Nat) : Nat → List Int
  | 0 => zL m
  | k + 1 => setB (onesL m k) k
theorem onesL_length (m : Nat) : ∀ k, (onesL m k).length = m
  | 0 => zL_length _
  | k + 1 => (setB_length _ _).trans (onesL_length m k)
theorem onesL_bytes (m : Nat) : ∀ k, IsBytes (onesL m k)
  | 0 => zL_bytes _
  | k + 1 => setB_bytes (onesL_bytes m k) _
theorem bitB_ones {m n : Nat} (hm : (n + 7) / 8 = m) (j : Nat) : ∀ k, k ≤ n → bitB (onesL m k) j = decide (j < k)
  | 0, _ => by rw [decide_eq_false (Nat.not_lt_zero _)]; exact bitB_zL _ _
  | k + 1, h => by
    show bitB (setB (onesL m k) k) j = _
    rw [bitB_set (by rw [onesL_length]; omega), bitB_ones hm j k (by omega), ← Bool.decide_or]
    exact decide_eq_decide.2 (by omega)
theorem onesL_stP {m n : Nat} (hm : (n + 7) / 8 = m) (k : Nat) (hk : k ≤ n) : StP (onesL m k) n := ⟨(onesL_length _ _).trans hm.symm, onesL_bytes _ _, fun i hi => by rw [bitB_ones hm i k hk, decide_eq_false (by omega)]⟩

theorem built_bk (gp : Nat) (at_ n : Int) (gh gf m : Nat) : Tryd.prog.built 61 [(0, .pointer (some ⟨gp, 0, none⟩)), (1, .int .i64 at_), (2, .int .i64 n), (3, .slice (some ⟨gh, 0, none⟩) m m), (4, .slice (some ⟨gf, 0, none⟩) m m)] = some (bkV gp at_ n gh gf m) := by kernel_rfl

set_option maxRecDepth 100000 in
set_option maxHeartbeats 4000000 in
theorem bank_new (h : Cl w0 W Z g D) (P : Pn w0 Z W gp g key boot seq) (at_ n m : Nat) (hm : (n + 7) / 8 = m) (hn : n ≤ 100000) (ha : at_ ≤ 1000000) :
    Calls Tryd.prog 7 #[.pointer (some ⟨gp, 0, none⟩), .int .i64 (at_ : Int), .int .i64 (n : Int)] W fun e W' => ∃ gb gh gf, e = .returned (.pointer (some ⟨gb, 0, none⟩)) ∧ W.heap.size ≤ gb ∧ Bk w0 Z W' gb gp at_ n gh gf m (onesL m n) (zL m) ∧ Below W.heap.size W W' ∧ W.heap.size ≤ gh ∧ W.heap.size ≤ gf := by
  have hsz := h.size
  have hlt := h.dk.lt
  have hpl := P.lt
  have hmx : max (n : Int) 0 = (n : Int) := by omega
  have hmn : min (n : Int) 100000 = (n : Int) := by omega
  have hS := fun W => hide (jsize_any n W (by omega))
  rw [hm] at hS
  have HM := hide hm
  have hml : m ≤ 100000 := by omega
  have Hlt := hide hlt
  clear hm h P hlt
  go_enter Tryd.func7, Tryd.ntmps7
  go_wp2_with fail
  refine wp_region_pre Kept [0, 1, 2, 3, 6] 7 (by kernel_rfl) (by kernel_rfl) (by kernel_rfl) Kept.refl Kept.trans ?_
  have hB : Below W.heap.size W W.drew := (Below.refl _ _).drew
  have hN := hB.size
  generalize W.drew = W1 at *
  repeat' (first
    | (refine wpPre_quiet (v := ?_) rfl (fun _ _ _ h => h) (by rfl) ?_ ?_
       rotate_left
       · (intro w' hR; go_simp; try rfl)
       simp only [Act.put, List.setIfInBounds_toArray, List.set_cons_zero, List.set_cons_succ])
    | fail)
  refine wpPre_nil ?_
  refine wpR_one 4 (by kernel_rfl) ?_
  refine wpOp_go rfl (by rfl) (fun K' hK => ?_)
  go_simp
  refine (hS _).out.mono ?_
  rintro e _ ⟨rfl, rfl⟩
  refine hK.out _ _ (Kept.refl _) ?_
  clear hK K'
  try simp only [Act.put, List.setIfInBounds_toArray, List.set_cons_zero, List.set_cons_succ]
  refine wpR_two 5 7 (by kernel_rfl) ?wA ?wB
  case' wA =>
    refine wpOp_go rfl (by rfl) (fun K' hK => ?_)
    refine wp_make_bytes m (by omega) _ _ (by rfl) (by rfl) (by rfl) ?_
    have b1 : Below W1.heap.size W1 (W1.alloc (Obj.cells (madeCells #[Value.int .u8 0] m) 5)) := below_alloc (Below.refl _ _) _
    have hzgh := made_zB W1 m 5
    have lgh : W1.heap.size < (W1.alloc (Obj.cells (madeCells #[Value.int .u8 0] m) 5)).heap.size := by rw [size_alloc]; omega
    refine hK.out _ _ b1 ?_
    clear hK K'
    try simp only [Act.put, List.setIfInBounds_toArray, List.set_cons_zero, List.set_cons_succ]
    have ngh := hN
    replace hB := hB.trans (b1.mono hB.size)
    replace hN := hB.size
    clear b1
    generalize (W1.alloc (Obj.cells (madeCells #[Value.int .u8 0] m) 5)) = W2 at *
    generalize W1.heap.size = gh at *
    refine wpR_ord [7, 8, 9, 10, 11] (by kernel_rfl) (by kernel_rfl) Kept.refl Kept.trans ?_
    refine wpRel_step rfl rfl (by rfl) (fun K' hK => ?_)
    go_simp
    refine (hS _).out.mono ?_
    rintro e _ ⟨rfl, rfl⟩
    refine hK.out _ _ (Kept.refl _) ?_
    clear hK K'
    try simp only [Act.put, List.setIfInBounds_toArray, List.set_cons_zero, List.set_cons_succ]
    refine wpRel_step rfl rfl (by rfl) (fun K' hK => ?_)
    refine wp_make_bytes m (by omega) _ _ (by rfl) (by rfl) (by rfl) ?_
    have b1 : Below W2.heap.size W2 (W2.alloc (Obj.cells (madeCells #[Value.int .u8 0] m) 5)) := below_alloc (Below.refl _ _) _
    have hzgf := made_zB W2 m 5
    have lgf : W2.heap.size < (W2.alloc (Obj.cells (madeCells #[Value.int .u8 0] m) 5)).heap.size := by rw [size_alloc]; omega
    refine hK.out _ _ b1 ?_
    clear hK K'
    try simp only [Act.put, List.setIfInBounds_toArray, List.set_cons_zero, List.set_cons_succ]
    replace hzgh := hzgh.below b1
    have negfgh : W2.heap.size ≠ gh := by omega
    replace lgh := Nat.lt_of_lt_of_le lgh b1.size
    have ngf := hN
    replace hB := hB.trans (b1.mono hB.size)
    replace hN := hB.size
    clear b1
    generalize (W2.alloc (Obj.cells (madeCells #[Value.int .u8 0] m) 5)) = W3 at *
    generalize W2.heap.size = gf at *
    repeat' (first
      | (refine wpRel_quiet (v := ?_) rfl rfl (fun _ _ _ h => h) (by rfl) ?_ ?_
         rotate_left
         · (intro w' hR; go_simp; try rfl)
         simp only [Act.put, List.setIfInBounds_toArray, List.set_cons_zero, List.set_cons_succ])
      | fail)
    refine wpRel_step rfl rfl (by rfl) (fun K' hK => ?_)
    go_simp
    have b1 : Below W3.heap.size W3 (W3.alloc (Obj.cells #[.pointer (some ⟨gp, 0, none⟩), .int .i64 (at_ : Int), .int .i64 (n : Int), .slice (some ⟨gh, 0, none⟩) m m, .slice (some ⟨gf, 0, none⟩) m m] 61)) := below_alloc (Below.refl _ _) _
    have hb9 := heap_alloc_new W3 (Obj.cells #[.pointer (some ⟨gp, 0, none⟩), .int .i64 (at_ : Int), .int .i64 (n : Int), .slice (some ⟨gh, 0, none⟩) m m, .slice (some ⟨gf, 0, none⟩) m m] 61)
    refine hK.out _ _ b1 ?_
    clear hK K'
    try simp only [Act.put, List.setIfInBounds_toArray, List.set_cons_zero, List.set_cons_succ]
    have ngb := hN
    have hBk : Bk w0 Z (W3.alloc (Obj.cells #[.pointer (some ⟨gp, 0, none⟩), .int .i64 (at_ : Int), .int .i64 (n : Int), .slice (some ⟨gh, 0, none⟩) m m, .slice (some ⟨gf, 0, none⟩) m m] 61)) W3.heap.size gp at_ n gh gf m (zL m) (zL m) := ⟨⟨hb9, fun hs => by have := Hlt.out _ hs; omega⟩, ⟨(hzgh.below b1), fun hs => by have := Hlt.out _ hs; omega⟩, ⟨(hzgf.below b1), fun hs => by have := Hlt.out _ hs; omega⟩, by omega, by omega, by omega, Ne.symm negfgh, by omega, by omega, by omega, by omega, by omega, by rw [← HM.out]; exact StP.zero n, by rw [← HM.out]; exact StP.zero n, HM.out, hn, ha⟩
    replace hB := hB.trans (b1.mono hB.size)
    clear hzgh hzgf lgh lgf hN b1 hb9 negfgh
    generalize (W3.alloc (Obj.cells #[.pointer (some ⟨gp, 0, none⟩), .int .i64 (at_ : Int), .int .i64 (n : Int), .slice (some ⟨gh, 0, none⟩) m m, .slice (some ⟨gf, 0, none⟩) m m] 61)) = W9 at *
    generalize W3.heap.size = gb at *
    repeat' (first
      | (refine wpRel_quiet (v := ?_) rfl rfl (fun _ _ _ h => h) (by rfl) ?_ ?_
         rotate_left
         · (intro w' hR; go_simp; try rfl)
         simp only [Act.put, List.setIfInBounds_toArray, List.set_cons_zero, List.set_cons_succ])
      | fail)
    refine wpRel_nil ?_
  case' wB =>
    refine wpOp_go rfl (by rfl) (fun K' hK => ?_)
    go_simp
    refine (hS _).out.mono ?_
    rintro e _ ⟨rfl, rfl⟩
    refine hK.out _ _ (Kept.refl _) ?_
    clear hK K'
    try simp only [Act.put, List.setIfInBounds_toArray, List.set_cons_zero, List.set_cons_succ]
    refine wpR_two 5 8 (by kernel_rfl) ?wC ?wD
    case' wC =>
      refine wpOp_go rfl (by rfl) (fun K' hK => ?_)
      refine wp_make_bytes m (by omega) _ _ (by rfl) (by rfl) (by rfl) ?_
      have b1 : Below W1.heap.size W1 (W1.alloc (Obj.cells (madeCells #[Value.int .u8 0] m) 5)) := below_alloc (Below.refl _ _) _
      have hzgh := made_zB W1 m 5
      have lgh : W1.heap.size < (W1.alloc (Obj.cells (madeCells #[Value.int .u8 0] m) 5)).heap.size := by rw [size_alloc]; omega
      refine hK.out _ _ b1 ?_
      clear hK K'
      try simp only [Act.put, List.setIfInBounds_toArray, List.set_cons_zero, List.set_cons_succ]
      have ngh := hN
      replace hB := hB.trans (b1.mono hB.size)
      replace hN := hB.size
      clear b1
      generalize (W1.alloc (Obj.cells (madeCells #[Value.int .u8 0] m) 5)) = W2 at *
      generalize W1.heap.size = gh at *
      refine wpR_ord [8, 9, 10, 11] (by kernel_rfl) (by kernel_rfl) Kept.refl Kept.trans ?_
      refine wpRel_step rfl rfl (by rfl) (fun K' hK => ?_)
      refine wp_make_bytes m (by omega) _ _ (by rfl) (by rfl) (by rfl) ?_
      have b1 : Below W2.heap.size W2 (W2.alloc (Obj.cells (madeCells #[Value.int .u8 0] m) 5)) := below_alloc (Below.refl _ _) _
      have hzgf := made_zB W2 m 5
      have lgf : W2.heap.size < (W2.alloc (Obj.cells (madeCells #[Value.int .u8 0] m) 5)).heap.size := by rw [size_alloc]; omega
      refine hK.out _ _ b1 ?_
      clear hK K'
      try simp only [Act.put, List.setIfInBounds_toArray, List.set_cons_zero, List.set_cons_succ]
      replace hzgh := hzgh.below b1
      have negfgh : W2.heap.size ≠ gh := by omega
      replace lgh := Nat.lt_of_lt_of_le lgh b1.size
      have ngf := hN
      replace hB := hB.trans (b1.mono hB.size)
      replace hN := hB.size
      clear b1
      generalize (W2.alloc (Obj.cells (madeCells #[Value.int .u8 0] m) 5)) = W3 at *
      generalize W2.heap.size = gf at *
      repeat' (first
        | (refine wpRel_quiet (v := ?_) rfl rfl (fun _ _ _ h => h) (by rfl) ?_ ?_
           rotate_left
           · (intro w' hR; go_simp; try rfl)
           simp only [Act.put, List.setIfInBounds_toArray, List.set_cons_zero, List.set_cons_succ])
        | fail)
      refine wpRel_step rfl rfl (by rfl) (fun K' hK => ?_)
      go_simp
      have b1 : Below W3.heap.size W3 (W3.alloc (Obj.cells #[.pointer (some ⟨gp, 0, none⟩), .int .i64 (at_ : Int), .int .i64 (n : Int), .slice (some ⟨gh, 0, none⟩) m m, .slice (some ⟨gf, 0, none⟩) m m] 61)) := below_alloc (Below.refl _ _) _
      have hb9 := heap_alloc_new W3 (Obj.cells #[.pointer (some ⟨gp, 0, none⟩), .int .i64 (at_ : Int), .int .i64 (n : Int), .slice (some ⟨gh, 0, none⟩) m m, .slice (some ⟨gf, 0, none⟩) m m] 61)
      refine hK.out _ _ b1 ?_
      clear hK K'
      try simp only [Act.put, List.setIfInBounds_toArray, List.set_cons_zero, List.set_cons_succ]
      have ngb := hN
      have hBk : Bk w0 Z (W3.alloc (Obj.cells #[.pointer (some ⟨gp, 0, none⟩), .int .i64 (at_ : Int), .int .i64 (n : Int), .slice (some ⟨gh, 0, none⟩) m m, .slice (some ⟨gf, 0, none⟩) m m] 61)) W3.heap.size gp at_ n gh gf m (zL m) (zL m) := ⟨⟨hb9, fun hs => by have := Hlt.out _ hs; omega⟩, ⟨(hzgh.below b1), fun hs => by have := Hlt.out _ hs; omega⟩, ⟨(hzgf.below b1), fun hs => by have := Hlt.out _ hs; omega⟩, by omega, by omega, by omega, Ne.symm negfgh, by omega, by omega, by omega, by omega, by omega, by rw [← HM.out]; exact StP.zero n, by rw [← HM.out]; exact StP.zero n, HM.out, hn, ha⟩
      replace hB := hB.trans (b1.mono hB.size)
      clear hzgh hzgf lgh lgf hN b1 hb9 negfgh
      generalize (W3.alloc (Obj.cells #[.pointer (some ⟨gp, 0, none⟩), .int .i64 (at_ : Int), .int .i64 (n : Int), .slice (some ⟨gh, 0, none⟩) m m, .slice (some ⟨gf, 0, none⟩) m m] 61)) = W9 at *
      generalize W3.heap.size = gb at *
      repeat' (first
        | (refine wpRel_quiet (v := ?_) rfl rfl (fun _ _ _ h => h) (by rfl) ?_ ?_
           rotate_left
           · (intro w' hR; go_simp; try rfl)
           simp only [Act.put, List.setIfInBounds_toArray, List.set_cons_zero, List.set_cons_succ])
        | fail)
      refine wpRel_nil ?_
    case' wD =>
      refine wpOp_go rfl (by rfl) (fun K' hK => ?_)
      refine wp_make_bytes m (by omega) _ _ (by rfl) (by rfl) (by rfl) ?_
      have b1 : Below W1.heap.size W1 (W1.alloc (Obj.cells (madeCells #[Value.int .u8 0] m) 5)) := below_alloc (Below.refl _ _) _
      have hzgf := made_zB W1 m 5
      have lgf : W1.heap.size < (W1.alloc (Obj.cells (madeCells #[Value.int .u8 0] m) 5)).heap.size := by rw [size_alloc]; omega
      refine hK.out _ _ b1 ?_
      clear hK K'
      try simp only [Act.put, List.setIfInBounds_toArray, List.set_cons_zero, List.set_cons_succ]
      have ngf := hN
      replace hB := hB.trans (b1.mono hB.size)
      replace hN := hB.size
      clear b1
      generalize (W1.alloc (Obj.cells (madeCells #[Value.int .u8 0] m) 5)) = W2 at *
      generalize W1.heap.size = gf at *
      refine wpR_ord [5, 9, 10, 11] (by kernel_rfl) (by kernel_rfl) Kept.refl Kept.trans ?_
      refine wpRel_step rfl rfl (by rfl) (fun K' hK => ?_)
      refine wp_make_bytes m (by omega) _ _ (by rfl) (by rfl) (by rfl) ?_
      have b1 : Below W2.heap.size W2 (W2.alloc (Obj.cells (madeCells #[Value.int .u8 0] m) 5)) := below_alloc (Below.refl _ _) _
      have hzgh := made_zB W2 m 5
      have lgh : W2.heap.size < (W2.alloc (Obj.cells (madeCells #[Value.int .u8 0] m) 5)).heap.size := by rw [size_alloc]; omega
      refine hK.out _ _ b1 ?_
      clear hK K'
      try simp only [Act.put, List.setIfInBounds_toArray, List.set_cons_zero, List.set_cons_succ]
      replace hzgf := hzgf.below b1
      have neghgf : W2.heap.size ≠ gf := by omega
      replace lgf := Nat.lt_of_lt_of_le lgf b1.size
      have ngh := hN
      replace hB := hB.trans (b1.mono hB.size)
      replace hN := hB.size
      clear b1
      generalize (W2.alloc (Obj.cells (madeCells #[Value.int .u8 0] m) 5)) = W3 at *
      generalize W2.heap.size = gh at *
      repeat' (first
        | (refine wpRel_quiet (v := ?_) rfl rfl (fun _ _ _ h => h) (by rfl) ?_ ?_
           rotate_left
           · (intro w' hR; go_simp; try rfl)
           simp only [Act.put, List.setIfInBounds_toArray, List.set_cons_zero, List.set_cons_succ])
        | fail)
      refine wpRel_step rfl rfl (by rfl) (fun K' hK => ?_)
      go_simp
      have b1 : Below W3.heap.size W3 (W3.alloc (Obj.cells #[.pointer (some ⟨gp, 0, none⟩), .int .i64 (at_ : Int), .int .i64 (n : Int), .slice (some ⟨gh, 0, none⟩) m m, .slice (some ⟨gf, 0, none⟩) m m] 61)) := below_alloc (Below.refl _ _) _
      have hb9 := heap_alloc_new W3 (Obj.cells #[.pointer (some ⟨gp, 0, none⟩), .int .i64 (at_ : Int), .int .i64 (n : Int), .slice (some ⟨gh, 0, none⟩) m m, .slice (some ⟨gf, 0, none⟩) m m] 61)
      refine hK.out _ _ b1 ?_
      clear hK K'
      try simp only [Act.put, List.setIfInBounds_toArray, List.set_cons_zero, List.set_cons_succ]
      have ngb := hN
      have hBk : Bk w0 Z (W3.alloc (Obj.cells #[.pointer (some ⟨gp, 0, none⟩), .int .i64 (at_ : Int), .int .i64 (n : Int), .slice (some ⟨gh, 0, none⟩) m m, .slice (some ⟨gf, 0, none⟩) m m] 61)) W3.heap.size gp at_ n gh gf m (zL m) (zL m) := ⟨⟨hb9, fun hs => by have := Hlt.out _ hs; omega⟩, ⟨(hzgh.below b1), fun hs => by have := Hlt.out _ hs; omega⟩, ⟨(hzgf.below b1), fun hs => by have := Hlt.out _ hs; omega⟩, by omega, by omega, by omega, neghgf, by omega, by omega, by omega, by omega, by omega, by rw [← HM.out]; exact StP.zero n, by rw [← HM.out]; exact StP.zero n, HM.out, hn, ha⟩
      replace hB := hB.trans (b1.mono hB.size)
      clear hzgh hzgf lgh lgf hN b1 hb9 neghgf
      generalize (W3.alloc (Obj.cells #[.pointer (some ⟨gp, 0, none⟩), .int .i64 (at_ : Int), .int .i64 (n : Int), .slice (some ⟨gh, 0, none⟩) m m, .slice (some ⟨gf, 0, none⟩) m m] 61)) = W9 at *
      generalize W3.heap.size = gb at *
      repeat' (first
        | (refine wpRel_quiet (v := ?_) rfl rfl (fun _ _ _ h => h) (by rfl) ?_ ?_
           rotate_left
           · (intro w' hR; go_simp; try rfl)
           simp only [Act.put, List.setIfInBounds_toArray, List.set_cons_zero, List.set_cons_succ])
        | fail)
      refine wpRel_nil ?_
  all_goals
    have HB0 : Hid (Bk w0 Z W9 gb gp at_ n gh gf m (onesL m 0) (zL m)) := hide hBk
    clear hBk hS hmx hmn Hlt
    go_wp2_with fail
    go_loopw [9, 25] (fun _ v25 wr => ∃ k : Nat, k ≤ n ∧ v25 = .int .i64 (k : Int) ∧ Bk w0 Z wr gb gp at_ n gh gf m (onesL m k) (zL m) ∧ Below W.heap.size W wr) (fun _ v25 _ => n - (intOf v25).toNat)
    case atStart => exact ⟨0, Nat.zero_le _, rfl, HB0.out, hB⟩
    case round =>
      clear HB0 hB
      obtain ⟨k, hk, rfl, hBk, hB⟩ := hrel
      by_cases hkn : k < n
      · have hM := HM.out
        have HS := hide (jset_any wr gh m (onesL m k) hBk.ho (onesL_bytes m k) (onesL_length m k) (by omega) k (by omega))
        have c3 := hBk.c3
        have HBk := hide hBk
        have HBe := hide hB
        clear hBk hM hB
        go_wp2_with fail
        refine HS.out.mono ?_
        rintro e W4 ⟨rfl, o4, k4⟩
        have hBk4 := HBk.out.setH k4 o4 (onesL_stP HM.out (k + 1) (by omega))
        have hB4 := k4.below HBe.out ngh
        clear HS HBk HBe c3 o4 k4
        go_wp2_with fail
        go_roundw
        case rel => exact ⟨k + 1, by omega, by go_num, hBk4, hB4⟩
        case measure => simp [intOf]; omega
      · obtain rfl : k = n := by omega
        go_wp2_with fail
        go_ret
        exact ⟨gb, gh, gf, rfl, ngb, hBk, hB, ngh, ngf⟩
end
#print axioms bank_new
end Go.Proofs.YtlfcejfpdgdnkaaDoor

/- What the calls of a bank do: for every device, every pen and every bank in memory. The variable of package quar reads as its text says. No conditions but those that each line states. -/
namespace Go.Proofs.YtlfcejfpdgdnkaaDoor
open Go.RowKit
set_option maxRecDepth 20000

/-! ### Two blocks turned -/
theorem Step.two {Z : Own} {W W1 W2 : World} {i j : Nat} (o1 : OnlyAt i W W1) (o2 : OnlyAt j W1 W2) : Step ((Z.also i).also j) W ((Z.also i).also j) W2 :=
  ((Step.only o1).wide j).trans (Step.only o2)
theorem Has.beside3 {Z Z' : Own} {W W' : World} {k i j : Nat} {o : Obj} (h : Has Z W k o) (s : Step ((Z.also i).also j) W ((Z'.also i).also j) W') (hi : k ≠ i) (hj : k ≠ j) : Has Z' W' k o := by
  have h2 : Has (Z.also i) W k o := ⟨h.1, fun hs => hs.elim h.2 hi⟩
  have h3 := h2.beside s hj
  exact ⟨h3.1, fun hs => h3.2 (.inl hs)⟩
theorem Bz.beside3 {Z Z' : Own} {W W' : World} {i j : Nat} {a : Option Addr} {len cap : Nat} {zs : List Int} (h : Bz Z W a len cap zs) (s : Step ((Z.also i).also j) W ((Z'.also i).also j) W') (hi : 0 < len → ∀ p, a = some p → p.block ≠ i) (hj : 0 < len → ∀ p, a = some p → p.block ≠ j) : Bz Z' W' a len cap zs := by
  have h2 : Bz (Z.also i) W a len cap zs := ⟨h.bs, fun h0 p hp => ⟨(h.out h0 p hp).1, fun hs => hs.elim (h.out h0 p hp).2 (hi h0 p hp)⟩⟩
  have h3 := h2.beside s hj
  exact ⟨h3.bs, fun h0 p hp => ⟨(h3.out h0 p hp).1, fun hs => (h3.out h0 p hp).2 (.inl hs)⟩⟩

/-- Where a block of a place lies. -/
def bN (at_ i : Nat) (x : Bool) : Nat := at_ + 2 * i + x.toNat
theorem bN_eq (at_ i : Nat) (x : Bool) : (at_ : Int) + 2 * (i : Int) + b2i x = ((bN at_ i x : Nat) : Int) := by
  unfold bN
  cases x <;> simp [b2i] <;> omega
theorem bN_inj {at_ i k : Nat} {x y : Bool} (h : bN at_ i x = bN at_ k y) : i = k ∧ x = y := by
  unfold bN at h
  cases x <;> cases y <;> simp at h ⊢ <;> omega
section
variable {w0 W W' : World} {Z Z' : Own} {g gp gb gh gf m at_ n : Nat} {D : DS} {key : List Int} {boot seq : Int} {hs fs : List Int}

theorem jhas_any (B : Bk w0 Z W gb gp at_ n gh gf m hs fs) (i : Int) :
    Calls Tryd.prog 23 #[.pointer (some ⟨gb, 0, none⟩), .int .i64 i] W fun e W' => e = .returned (.bool (hasI n i)) ∧ W = W' := by
  have c2 := B.c2
  clear B
  by_cases h0 : 0 ≤ i
  · by_cases h1 : i < (n : Int)
    · have hb : hasI n i = true := by simp [hasI, h0, h1]
      rw [hb]
      clear hb
      go_enter Tryd.func23, Tryd.ntmps23
      go_wp2_with fail
      go_ret
      exact ⟨rfl, rfl⟩
    · have hb : hasI n i = false := by simp [hasI, h1]
      rw [hb]
      clear hb
      go_enter Tryd.func23, Tryd.ntmps23
      go_wp2_with fail
      go_ret
      exact ⟨rfl, rfl⟩
  · have hb : hasI n i = false := by simp [hasI, h0]
    rw [hb]
    clear hb
    go_enter Tryd.func23, Tryd.ntmps23
    go_wp2_with fail
    go_ret
    exact ⟨rfl, rfl⟩
theorem jblock_any (B : Bk w0 Z W gb gp at_ n gh gf m hs fs) (i : Nat) (hi : i < n) (x : Bool) :
    Calls Tryd.prog 25 #[.pointer (some ⟨gb, 0, none⟩), .int .i64 (i : Int), .int .i64 (b2i x)] W fun e W' => e = .returned (.int .i64 ((bN at_ i x : Nat) : Int)) ∧ W = W' := by
  have c1 := B.c1
  have hx := b2i_one x
  have hl := B.ln
  have ha := B.la
  have hE := hide (bN_eq at_ i x)
  clear B
  generalize b2i x = y at *
  go_enter Tryd.func25, Tryd.ntmps25
  go_wp2_with fail
  go_ret
  refine ⟨?_, rfl⟩
  rw [← hE.out]
  rfl
set_option maxHeartbeats 4000000 in
theorem bank_read (h : Cl w0 W Z g D) (P : Pn w0 Z W gp g key boot seq) (B : Bk w0 Z W gb gp at_ n gh gf m hs fs) (hq : Glob w0) (hl : ¬ D.left = 0) (hlim : D.tr.length < 1000000) (i : Nat) (hi : i < n) (j : Nat) (hj : bN at_ i (bitB hs i != bitB fs i) = j) (us : List Int) (ob : Bool) (hus : openR key (D.shows (j : Int)) = us) (hob : openB key (D.shows (j : Int)) = ob) :
    Calls Tryd.prog 12 #[.pointer (some ⟨gb, 0, none⟩), .int .i64 (i : Int)] W fun e W' => ∃ Z' p c, e = .returned (.tuple #[.slice p us.length c, .bool ob]) ∧ Bz Z' W' p us.length c us ∧ Cl w0 W' Z' g (D.asks (j : Int)) ∧ Pn w0 Z' W' gp g key boot seq ∧ Bk w0 Z' W' gb gp at_ n gh gf m hs fs ∧ Step Z W Z' W' ∧ (∀ b, p = some b → W.heap.size ≤ b.block) := by
  have hme := B.me
  have hY : hasI n (i : Int) = true := by simp [hasI, hi]
  have HH := hide (jhas_any B (i : Int))
  rw [hY] at HH
  have hx := b2i_xor (bitB hs i) (bitB fs i)
  go_enter Tryd.func12, Tryd.ntmps12
  go_wp2_with fail
  refine HH.out.mono ?_
  rintro e W1 ⟨rfl, rfl⟩
  clear HH hY
  go_wp2_with fail
  refine wp_region_rel (KeptBut Z.S) [0, 1, 2, 3, 4, 5, 6, 7, 8, 9, 10, 12, 13, 14, 15, 16, 11, 17, 18, 19, 20, 21, 22, 23, 24] (by kernel_rfl) (by kernel_rfl) (by kernel_rfl) (KeptBut.refl _) KeptBut.trans ?_
  have sd : Below W.heap.size W W.drew := (Below.refl _ _).drew
  replace h := h.below sd
  replace P := P.below sd
  replace B := B.below sd
  have s0 := Step.of_below Z sd
  clear sd
  generalize W.drew = W1 at *
  have hR0 := hide (pen_read_new h P hq hl hlim (j : Int))
  rw [hus, hob] at hR0
  have hle1 := s0.size
  clear h P
  repeat' (first
    | (refine wpRel_quiet (v := ?_) rfl rfl (fun _ _ _ h => h) (by rfl) ?_ ?_
       rotate_left
       · (intro w' hR; have c0 := (B.keptZ hR).c0; have c3 := (B.keptZ hR).c3; have c4 := (B.keptZ hR).c4; go_simp; try rfl)
       simp only [Act.put, List.setIfInBounds_toArray, List.set_cons_zero, List.set_cons_succ])
    | fail)
  refine wpRel_step rfl rfl (by rfl) (fun K' hK => ?_)
  go_simp
  refine ((jbit_any W1 B.hbs i (by omega))).mono ?_
  rintro e _ ⟨rfl, rfl⟩
  refine hK.out _ _ (KeptBut.refl _ _) ?_
  clear hK K'
  try simp only [Act.put, List.setIfInBounds_toArray, List.set_cons_zero, List.set_cons_succ]
  repeat' (first
    | (refine wpRel_quiet (v := ?_) rfl rfl (fun _ _ _ h => h) (by rfl) ?_ ?_
       rotate_left
       · (intro w' hR; go_simp; try rfl)
       simp only [Act.put, List.setIfInBounds_toArray, List.set_cons_zero, List.set_cons_succ])
    | fail)
  refine wpRel_step rfl rfl (by rfl) (fun K' hK => ?_)
  go_simp
  refine ((jbit_any W1 B.fbs i (by omega))).mono ?_
  rintro e _ ⟨rfl, rfl⟩
  refine hK.out _ _ (KeptBut.refl _ _) ?_
  clear hK K'
  try simp only [Act.put, List.setIfInBounds_toArray, List.set_cons_zero, List.set_cons_succ]
  repeat' (first
    | (refine wpRel_quiet (v := ?_) rfl rfl (fun _ _ _ h => h) (by rfl) ?_ ?_
       rotate_left
       · (intro w' hR; go_simp; try rfl)
       simp only [Act.put, List.setIfInBounds_toArray, List.set_cons_zero, List.set_cons_succ])
    | fail)
  refine wpRel_step rfl rfl (by rfl) (fun K' hK => ?_)
  go_simp
  refine ((jblock_any B i hi _)).mono ?_
  rintro e _ ⟨rfl, rfl⟩
  refine hK.out _ _ (KeptBut.refl _ _) ?_
  clear hK K'
  try simp only [Act.put, List.setIfInBounds_toArray, List.set_cons_zero, List.set_cons_succ]
  rw [hj]
  repeat' (first
    | (refine wpRel_quiet (v := ?_) rfl rfl (fun _ _ _ h => h) (by rfl) ?_ ?_
       rotate_left
       · (intro w' hR; go_simp; try rfl)
       simp only [Act.put, List.setIfInBounds_toArray, List.set_cons_zero, List.set_cons_succ])
    | fail)
  refine wpRel_step rfl rfl (by rfl) (fun K' hK => ?_)
  go_simp
  refine (hR0.out).mono ?_
  rintro ex W2 ⟨Z2, p2, c2, rfl, B2, C2, P2, s2, hfr⟩
  refine hK.out _ _ (KeptBut.of_step s2) ?_
  clear hK K'
  try simp only [Act.put, List.setIfInBounds_toArray, List.set_cons_zero, List.set_cons_succ]
  have K2 := B.step s2
  have s3 := s0.trans s2
  have hfr2 : ∀ b, p2 = some b → W.heap.size ≤ b.block := fun b hb => Nat.le_trans hle1 (hfr b hb)
  have HFR := hide hfr2
  clear hR0 s0 s2 B hx hj hus hob hfr hfr2 hle1
  repeat' (first
    | (refine wpRel_quiet (v := ?_) rfl rfl (fun _ _ _ h => h) (by rfl) ?_ ?_
       rotate_left
       · (intro w' hR; go_simp; try rfl)
       simp only [Act.put, List.setIfInBounds_toArray, List.set_cons_zero, List.set_cons_succ])
    | fail)
  refine wpRel_nil ?_
  go_wp2_with fail
  go_ret2
  exact ⟨Z2, p2, c2, rfl, B2, C2, P2, K2, s3, HFR.out⟩
theorem bank_read_no (B : Bk w0 Z W gb gp at_ n gh gf m hs fs) (i : Int) (hi : hasI n i = false) :
    Calls Tryd.prog 12 #[.pointer (some ⟨gb, 0, none⟩), .int .i64 i] W fun e W' => e = .returned (.tuple #[.slice none 0 0, .bool false]) ∧ W = W' := by
  have HH := hide (jhas_any B i)
  rw [hi] at HH
  clear hi B
  go_enter Tryd.func12, Tryd.ntmps12
  go_wp2_with fail
  refine HH.out.mono ?_
  rintro e W1 ⟨rfl, rfl⟩
  clear HH
  go_wp2_with fail
  go_ret2
  exact ⟨rfl, rfl⟩
set_option maxHeartbeats 4000000 in
theorem bank_write (h : Cl w0 W Z g D) (P : Pn w0 Z W gp g key boot seq) (B : Bk w0 Z W gb gp at_ n gh gf m hs fs) (hq : Glob w0) (hl : ¬ D.left = 0) (hlim : D.tr.length < 1000000) (hlw : D.wait.length < 1000000) (hs64 : seq < 18446744073709551615) (i : Nat) (hi : i < n) (j : Nat) (hj : bN at_ i (!bitB hs i) = j) {a : Option Addr} {len cap : Nat} {zs : List Int} (hz : Bs W a len cap zs) (k : Nat) (hsz : D.size = k + 22) (hlen : len ≤ k) :
    Calls Tryd.prog 11 #[.pointer (some ⟨gb, 0, none⟩), .int .i64 (i : Int), .slice a len cap] W fun e W' => ∃ Z' x, e = .returned (.bool true) ∧ Hid (x.zs = sealL key boot seq zs k) ∧ Cl w0 W' Z' g (D.puts (j : Int) x) ∧ Pn w0 Z' W' gp g key boot (seq + 1) ∧ Bk w0 Z' W' gb gp at_ n gh gf m hs (setB fs i) ∧ Step ((Z.also gp).also gf) W ((Z'.also gp).also gf) W' := by
  have hme := B.me
  have hln := B.ln
  have hY : hasI n (i : Int) = true := by simp [hasI, hi]
  have hx := b2i_not (bitB hs i)
  go_enter Tryd.func11, Tryd.ntmps11
  go_wp2_with fail
  refine wp_region_rel (KeptBut (Z.also gp).S) [0, 1, 2, 3, 4, 5, 6, 7, 8, 9, 10, 11, 12, 13, 14, 15, 19, 16, 17, 18, 20, 21, 22] (by kernel_rfl) (by kernel_rfl) (by kernel_rfl) (KeptBut.refl _) KeptBut.trans ?_
  have sd : Below W.heap.size W W.drew := (Below.refl _ _).drew
  replace h := h.below sd
  replace P := P.below sd
  replace B := B.below sd
  replace hz := hz.below sd
  have s0 := Step.of_below (Z.also gp) sd
  clear sd
  generalize W.drew = W1 at *
  have HH := hide (jhas_any B (i : Int))
  rw [hY] at HH
  have hR0 := hide (pen_write h P hq hl hlim hlw hs64 (j : Int) hz k hsz hlen)
  clear h P hY hsz
  repeat' (first
    | (refine wpRel_quiet (v := ?_) rfl rfl (fun _ _ _ h => h) (by rfl) ?_ ?_
       rotate_left
       · (intro w' hR; go_simp; try rfl)
       simp only [Act.put, List.setIfInBounds_toArray, List.set_cons_zero, List.set_cons_succ])
    | fail)
  refine wpRel_step rfl rfl (by rfl) (fun K' hK => ?_)
  go_simp
  refine (HH.out).mono ?_
  rintro e _ ⟨rfl, rfl⟩
  refine hK.out _ _ (KeptBut.refl _ _) ?_
  clear hK K'
  try simp only [Act.put, List.setIfInBounds_toArray, List.set_cons_zero, List.set_cons_succ]
  clear HH
  repeat' (first
    | (refine wpRel_quiet (v := ?_) rfl rfl (fun _ _ _ h => h) (by rfl) ?_ ?_
       rotate_left
       · (intro w' hR; have c0 := (B.keptP hR).c0; have c3 := (B.keptP hR).c3; have c4 := (B.keptP hR).c4; go_simp; try rfl)
       simp only [Act.put, List.setIfInBounds_toArray, List.set_cons_zero, List.set_cons_succ])
    | fail)
  refine wpRel_step rfl rfl (by rfl) (fun K' hK => ?_)
  go_simp
  refine ((jbit_any W1 B.hbs i (by omega))).mono ?_
  rintro e _ ⟨rfl, rfl⟩
  refine hK.out _ _ (KeptBut.refl _ _) ?_
  clear hK K'
  try simp only [Act.put, List.setIfInBounds_toArray, List.set_cons_zero, List.set_cons_succ]
  repeat' (first
    | (refine wpRel_quiet (v := ?_) rfl rfl (fun _ _ _ h => h) (by rfl) ?_ ?_
       rotate_left
       · (intro w' hR; go_simp; try rfl)
       simp only [Act.put, List.setIfInBounds_toArray, List.set_cons_zero, List.set_cons_succ])
    | fail)
  refine wpRel_step rfl rfl (by rfl) (fun K' hK => ?_)
  go_simp
  refine ((jblock_any B i hi _)).mono ?_
  rintro e _ ⟨rfl, rfl⟩
  refine hK.out _ _ (KeptBut.refl _ _) ?_
  clear hK K'
  try simp only [Act.put, List.setIfInBounds_toArray, List.set_cons_zero, List.set_cons_succ]
  rw [hj]
  repeat' (first
    | (refine wpRel_quiet (v := ?_) rfl rfl (fun _ _ _ h => h) (by rfl) ?_ ?_
       rotate_left
       · (intro w' hR; go_simp; try rfl)
       simp only [Act.put, List.setIfInBounds_toArray, List.set_cons_zero, List.set_cons_succ])
    | fail)
  refine wpRel_step rfl rfl (by rfl) (fun K' hK => ?_)
  go_simp
  refine (hR0.out).mono ?_
  rintro ex W2 ⟨Z2, x, rfl, hxz, C2, P2, s2⟩
  refine hK.out _ _ (KeptBut.of_step s2) ?_
  clear hK K'
  try simp only [Act.put, List.setIfInBounds_toArray, List.set_cons_zero, List.set_cons_succ]
  have K2 := B.beside s2
  have s3 := s0.trans s2
  have c4 := K2.c4
  have hjs := hide (jset_any W2 gf m fs K2.fo K2.okf.bytes K2.fl (by omega) i (by omega))
  clear hR0 s0 s2 B hx hj hz
  repeat' (first
    | (refine wpRel_quiet (v := ?_) rfl rfl (fun _ _ _ h => h) (by rfl) ?_ ?_
       rotate_left
       · (intro w' hR; go_simp; try rfl)
       simp only [Act.put, List.setIfInBounds_toArray, List.set_cons_zero, List.set_cons_succ])
    | fail)
  refine wpRel_nil ?_
  go_wp2_with fail
  refine hjs.out.mono ?_
  rintro e W3 ⟨rfl, ho, hon⟩
  have C3 := C2.only hon K2.fre.2 K2.ff
  have P3 := P2.only1 hon K2.pf
  have K3 := K2.setF hon ho (K2.okf.set i hi)
  have s4 := (s3.wide gf).trans (Step.only hon)
  clear hjs c4 ho hon C2 P2 K2 s3
  go_wp2_with fail
  go_ret
  exact ⟨Z2, x, rfl, hxz, C3, P3, K3, s4⟩
set_option maxHeartbeats 4000000 in
theorem bank_write_no (h : Cl w0 W Z g D) (P : Pn w0 Z W gp g key boot seq) (B : Bk w0 Z W gb gp at_ n gh gf m hs fs) (i : Nat) (hi : i < n) {a : Option Addr} {len cap : Nat} (hlc : len ≤ 9223372036854775807) (hlen : (D.size : Int) < (len : Int) + 22) :
    Calls Tryd.prog 11 #[.pointer (some ⟨gb, 0, none⟩), .int .i64 (i : Int), .slice a len cap] W fun e W' => e = .returned (.bool false) ∧ Below W.heap.size W W' := by
  have hme := B.me
  have hY : hasI n (i : Int) = true := by simp [hasI, hi]
  have hx := b2i_not (bitB hs i)
  go_enter Tryd.func11, Tryd.ntmps11
  go_wp2_with fail
  refine wp_region_rel (KeptBut (Z.also gp).S) [0, 1, 2, 3, 4, 5, 6, 7, 8, 9, 10, 11, 12, 13, 14, 15, 19, 16, 17, 18, 20, 21, 22] (by kernel_rfl) (by kernel_rfl) (by kernel_rfl) (KeptBut.refl _) KeptBut.trans ?_
  have sd : Below W.heap.size W W.drew := (Below.refl _ _).drew
  replace h := h.below sd
  replace P := P.below sd
  replace B := B.below sd
  generalize W.drew = W1 at *
  have HH := hide (jhas_any B (i : Int))
  rw [hY] at HH
  have hR0 := fun j : Int => hide (pen_write_no h P j (a := a) (cap := cap) hlc hlen)
  clear h P hY
  repeat' (first
    | (refine wpRel_quiet (v := ?_) rfl rfl (fun _ _ _ h => h) (by rfl) ?_ ?_
       rotate_left
       · (intro w' hR; go_simp; try rfl)
       simp only [Act.put, List.setIfInBounds_toArray, List.set_cons_zero, List.set_cons_succ])
    | fail)
  refine wpRel_step rfl rfl (by rfl) (fun K' hK => ?_)
  go_simp
  refine (HH.out).mono ?_
  rintro e _ ⟨rfl, rfl⟩
  refine hK.out _ _ (KeptBut.refl _ _) ?_
  clear hK K'
  try simp only [Act.put, List.setIfInBounds_toArray, List.set_cons_zero, List.set_cons_succ]
  clear HH
  repeat' (first
    | (refine wpRel_quiet (v := ?_) rfl rfl (fun _ _ _ h => h) (by rfl) ?_ ?_
       rotate_left
       · (intro w' hR; have c0 := (B.keptP hR).c0; have c3 := (B.keptP hR).c3; have c4 := (B.keptP hR).c4; go_simp; try rfl)
       simp only [Act.put, List.setIfInBounds_toArray, List.set_cons_zero, List.set_cons_succ])
    | fail)
  refine wpRel_step rfl rfl (by rfl) (fun K' hK => ?_)
  go_simp
  refine ((jbit_any W1 B.hbs i (by omega))).mono ?_
  rintro e _ ⟨rfl, rfl⟩
  refine hK.out _ _ (KeptBut.refl _ _) ?_
  clear hK K'
  try simp only [Act.put, List.setIfInBounds_toArray, List.set_cons_zero, List.set_cons_succ]
  repeat' (first
    | (refine wpRel_quiet (v := ?_) rfl rfl (fun _ _ _ h => h) (by rfl) ?_ ?_
       rotate_left
       · (intro w' hR; go_simp; try rfl)
       simp only [Act.put, List.setIfInBounds_toArray, List.set_cons_zero, List.set_cons_succ])
    | fail)
  refine wpRel_step rfl rfl (by rfl) (fun K' hK => ?_)
  go_simp
  refine ((jblock_any B i hi _)).mono ?_
  rintro e _ ⟨rfl, rfl⟩
  refine hK.out _ _ (KeptBut.refl _ _) ?_
  clear hK K'
  try simp only [Act.put, List.setIfInBounds_toArray, List.set_cons_zero, List.set_cons_succ]
  repeat' (first
    | (refine wpRel_quiet (v := ?_) rfl rfl (fun _ _ _ h => h) (by rfl) ?_ ?_
       rotate_left
       · (intro w' hR; go_simp; try rfl)
       simp only [Act.put, List.setIfInBounds_toArray, List.set_cons_zero, List.set_cons_succ])
    | fail)
  refine wpRel_step rfl rfl (by rfl) (fun K' hK => ?_)
  go_simp
  refine ((hR0 _).out).mono ?_
  rintro ex W2 ⟨rfl, b2⟩
  refine hK.out _ _ (KeptBut.of_below _ b2) ?_
  clear hK K'
  try simp only [Act.put, List.setIfInBounds_toArray, List.set_cons_zero, List.set_cons_succ]
  have b3 := sd.trans (b2.mono sd.size)
  clear hR0 sd b2 B hx
  repeat' (first
    | (refine wpRel_quiet (v := ?_) rfl rfl (fun _ _ _ h => h) (by rfl) ?_ ?_
       rotate_left
       · (intro w' hR; go_simp; try rfl)
       simp only [Act.put, List.setIfInBounds_toArray, List.set_cons_zero, List.set_cons_succ])
    | fail)
  refine wpRel_nil ?_
  go_wp2_with fail
  go_ret
  exact ⟨rfl, b3⟩
/-- What holds behind k bytes of a commit. -/
def partZ (hs fs : List Int) (k : Nat) : List Int := rowL (fun j => if j < k then xr (hs.getD j 0) (fs.getD j 0) else hs.getD j 0) hs.length
theorem partZ_zero (hs fs : List Int) : partZ hs fs 0 = hs := (rowL_of hs hs.length _ rfl fun i _ => by simp).symm
theorem partZ_all (hs fs : List Int) : partZ hs fs hs.length = xorZ hs fs := rowL_congr fun i hi => by rw [if_pos hi]
theorem partZ_next (hs fs : List Int) (k : Nat) (hk : k < hs.length) : (partZ hs fs k).set k (xr (hs.getD k 0) (fs.getD k 0)) = partZ hs fs (k + 1) := by
  refine rowL_of _ _ _ (by simp [partZ, rowL_length]) fun i hi => ?_
  by_cases h : i = k
  · subst h
    rw [if_pos (Nat.lt_succ_self _)]
    simp [List.getD, partZ, rowL_length, hk]
  · have e : ((partZ hs fs k).set k (xr (hs.getD k 0) (fs.getD k 0))).getD i 0 = (partZ hs fs k).getD i 0 := by simp [List.getD, Ne.symm h]
    rw [e]
    unfold partZ
    rw [rowL_getD _ _ _ hi]
    by_cases h2 : i < k
    · rw [if_pos h2, if_pos (by omega)]
    · rw [if_neg h2, if_neg (by omega)]
theorem partZ_at (hs fs : List Int) (k : Nat) (hk : k < hs.length) : (partZ hs fs k).getD k 0 = hs.getD k 0 := by
  unfold partZ
  rw [rowL_getD _ _ _ hk, if_neg (Nat.lt_irrefl _)]
set_option maxHeartbeats 4000000 in
theorem bank_commit (h : Cl w0 W Z g D) (P : Pn w0 Z W gp g key boot seq) (B : Bk w0 Z W gb gp at_ n gh gf m hs fs) :
    Calls Tryd.prog 9 #[.pointer (some ⟨gb, 0, none⟩)] W fun e W' => e = .returned (.tuple #[]) ∧ Cl w0 W' Z g D ∧ Pn w0 Z W' gp g key boot seq ∧ Bk w0 Z W' gb gp at_ n gh gf m (xorZ hs fs) (zL m) ∧ Step ((Z.also gh).also gf) W ((Z.also gh).also gf) W' := by
  have hhl := B.hl
  have hfl := B.fl
  have hml : m ≤ 100000 := by have := B.me; have := B.ln; omega
  have c4 := B.c4
  have HB := hide B
  have HC := hide h
  have HP := hide P
  have h0 : Hid (OwnB 5 W gh (partZ hs fs 0) ∧ OnlyAt gh W W) := hide ⟨by rw [partZ_zero]; exact B.ho, OnlyAt.refl _ _⟩
  clear B h P
  go_enter Tryd.func9, Tryd.ntmps9
  go_wp2_with fail
  go_loopw [2, 3, 9] (fun _ _ v9 wr => ∃ k : Nat, k ≤ m ∧ v9 = .int .i64 (k : Int) ∧ Hid (OwnB 5 wr gh (partZ hs fs k) ∧ OnlyAt gh W wr)) (fun _ _ v9 _ => m - (intOf v9).toNat)
  case atStart => exact ⟨0, Nat.zero_le _, rfl, h0⟩
  case round =>
    clear h0 c4
    obtain ⟨k, hk, rfl, hI⟩ := hrel
    obtain ⟨hO, hA⟩ := hI.out
    have hBk := HB.out
    have fo' : OwnB 5 wr gf fs := hA.own hBk.fo (Ne.symm hBk.hf)
    have hhas := hBk.has.only hA hBk.bh
    have c3 : wr.cell? ⟨gb, 3, none⟩ = some (.slice (some ⟨gh, 0, none⟩) m m) := cell_of_row wr gb 3 _ _ _ hhas.1
    have c4 : wr.cell? ⟨gb, 4, none⟩ = some (.slice (some ⟨gf, 0, none⟩) m m) := cell_of_row wr gb 4 _ _ _ hhas.1
    by_cases hkm : k < m
    · have ch := hO.cell k (by rw [partZ, rowL_length]; omega)
      rw [partZ_at _ _ _ (by omega)] at ch
      have cf := fo'.cell k (by omega)
      have fh := hO.froz k
      have b1 := getD_byte hBk.okh.bytes k
      have b2 := getD_byte hBk.okf.bytes k
      have hv := bits_xr _ _ b1 b2
      have hn' := partZ_next hs fs k (by omega)
      generalize hs.getD k 0 = x at *
      generalize fs.getD k 0 = y at *
      have hO2 := hO.setAt k (xr x y)
      have hA2 := hA.trans (OnlyAt.setC gh k wr (.int .u8 (xr x y)))
      rw [hn'] at hO2
      have HI2 : Hid (OwnB 5 (wr.setCell ⟨gh, k, none⟩ (.int .u8 (xr x y))) gh (partZ hs fs (k + 1)) ∧ OnlyAt gh W (wr.setCell ⟨gh, k, none⟩ (.int .u8 (xr x y)))) := hide ⟨hO2, hA2⟩
      clear hO2 hA2 hn' b1 b2 hO hA hI hBk fo' hhas c4 hhl hfl
      go_wp2_with fail
      go_roundw
      case rel => exact ⟨k + 1, by omega, by go_num, HI2⟩
      case measure => simp [intOf]; omega
    · obtain rfl : k = m := by omega
      obtain ⟨W2, hr2, ho2, on2⟩ := run_clear_bytes wr gf k fs fo' hfl 0
      have hA' := hide hA
      have hO' := hide hO
      have HO2 := hide ho2
      have HN2 := hide on2
      clear hI hO hA fo' hhas hBk ho2 on2 hfl
      go_wp2_with fail
      refine bodyPost_end (results_none rfl _ _ _) rfl ?_
      have hBk := HB.out
      have hx : OwnB 5 wr gh (xorZ hs fs) := by
        have := hO'.out
        rwa [← hhl, partZ_all] at this
      have B1 := hBk.setH hA'.out hx (hBk.okh.xor hBk.okf)
      have hz : StP (zL k) n := by rw [← hBk.me]; exact StP.zero n
      have B2 := B1.setF HN2.out HO2.out hz
      have C1 := HC.out.only hA'.out hBk.hol.2 hBk.fh
      have P1 := HP.out.only1 hA'.out hBk.ph
      exact ⟨rfl, C1.only HN2.out hBk.fre.2 hBk.ff, P1.only1 HN2.out hBk.pf, B2, Step.two hA'.out HN2.out⟩
theorem bank_state (B : Bk w0 Z W gb gp at_ n gh gf m hs fs) :
    Calls Tryd.prog 16 #[.pointer (some ⟨gb, 0, none⟩)] W fun e W' => ∃ a c, e = .returned (.slice a m c) ∧ OwnS 5 W.heap.size W' a m c hs ∧ Below W.heap.size W W' := by
  have hml : m ≤ 100000 := by have := B.me; have := B.ln; omega
  have c3 := B.c3
  have HC := hide (jclone_any W B.hbs (by omega))
  clear B
  go_enter Tryd.func16, Tryd.ntmps16
  go_wp2_with fail
  refine HC.out.mono ?_
  rintro e W1 ⟨a, c, rfl, ho, b1⟩
  clear HC c3
  have HO := hide ho
  clear ho
  go_wp2_with fail
  go_ret
  exact ⟨a, c, rfl, HO.out, b1⟩
theorem bank_load_no (B : Bk w0 Z W gb gp at_ n gh gf m hs fs) {a : Option Addr} {len cap : Nat} {zs : List Int} (hz : Bs W a len cap zs) (hst : stB zs n = false) :
    Calls Tryd.prog 17 #[.pointer (some ⟨gb, 0, none⟩), .slice a len cap] W fun e W' => e = .returned (.bool false) ∧ W = W' := by
  have HS := hide (jstate_any W hz n B.ln)
  rw [hst] at HS
  have c2 := B.c2
  clear B hst hz
  go_enter Tryd.func17, Tryd.ntmps17
  go_wp2_with fail
  refine HS.out.mono ?_
  rintro e W1 ⟨rfl, rfl⟩
  clear HS
  go_wp2_with fail
  go_ret
  exact ⟨rfl, rfl⟩
set_option maxHeartbeats 4000000 in
theorem bank_load (h : Cl w0 W Z g D) (P : Pn w0 Z W gp g key boot seq) (B : Bk w0 Z W gb gp at_ n gh gf m hs fs) {a : Option Addr} {len cap : Nat} {zs : List Int} (hz : Bs W a len cap zs) (hst : StP zs n) :
    Calls Tryd.prog 17 #[.pointer (some ⟨gb, 0, none⟩), .slice a len cap] W fun e W' => e = .returned (.bool true) ∧ Cl w0 W' Z g D ∧ Pn w0 Z W' gp g key boot seq ∧ Bk w0 Z W' gb gp at_ n gh gf m zs (zL m) ∧ Step ((Z.also gh).also gf) W ((Z.also gh).also gf) W' := by
  have hml : m ≤ 100000 := by have := B.me; have := B.ln; omega
  have hlen : len = m := hz.length.symm.trans (hst.len.trans B.me)
  subst hlen
  have HS := hide (jstate_any W hz n B.ln)
  rw [hst.ok] at HS
  have c2 := B.c2
  have c3 := B.c3
  obtain ⟨W1, hr1, ho1, on1⟩ := run_copy_bytes (P := Tryd.prog) Tryd.underlying36 Tryd.size_u8 3 W (some ⟨gh, 0, none⟩) a len len len cap gh 0 len hs zs B.ho (Nat.min_self _) (.inr rfl) hz (by rw [B.hl]; omega)
  have e1 : splice hs 0 (zs.take len) = zs := by
    have := splice_whole hs zs (hz.length.trans B.hl.symm)
    rwa [B.hl] at this
  rw [e1] at ho1
  have B1 := B.setH on1 ho1 hst
  have c4 := B1.c4
  have C1 := hide (h.only on1 B.hol.2 B.fh)
  have P1 := hide (P.only1 on1 B.ph)
  obtain ⟨W2, hr2, ho2, on2⟩ := run_clear_bytes W1 gf len fs B1.fo B1.fl 0
  have H1 := hide B1
  have HN1 := hide on1
  have HO2 := hide ho2
  have HN2 := hide on2
  clear h P B hz hst e1 ho1 B1 on1 ho2 on2
  go_enter Tryd.func17, Tryd.ntmps17
  go_wp2_with fail
  refine HS.out.mono ?_
  rintro e _ ⟨rfl, rfl⟩
  clear HS
  go_wp2_with fail
  go_ret
  have hBk := H1.out
  have hz : StP (zL len) n := by rw [← hBk.me]; exact StP.zero n
  exact ⟨rfl, C1.out.only HN2.out hBk.fre.2 hBk.ff, P1.out.only1 HN2.out hBk.pf, hBk.setF HN2.out HO2.out hz, Step.two HN1.out HN2.out⟩
end
#print axioms bank_commit
#print axioms bank_load
#print axioms bank_read
#print axioms bank_write
end Go.Proofs.YtlfcejfpdgdnkaaDoor

/- A device, a pen and a bank as a caller has them; what their calls leave, where the power stays. The variable of package quar reads as its text says. No conditions but those that each line states. -/
namespace Go.Proofs.YtlfcejfpdgdnkaaDoor
open Go.RowKit
set_option maxRecDepth 20000

/-! ### What a device holds -/
structure DQ (D : DS) (size n t wl : Nat) (T : Nat → List Int) : Prop where
  size : D.size = size
  n : D.n = n
  left : D.left = -1
  len : D.tr.length = t
  wait : D.wait.length ≤ wl
  at_ : ∀ j, D.at_ j = T j
def updT (T : Nat → List Int) (j : Nat) (zs : List Int) : Nat → List Int := fun k => if k = j then zs else T k
theorem updT_same (T : Nat → List Int) (j : Nat) (zs : List Int) : updT T j zs j = zs := if_pos rfl
theorem updT_other (T : Nat → List Int) {j k : Nat} (zs : List Int) (h : k ≠ j) : updT T j zs k = T k := if_neg h
theorem DQ.start (n size : Nat) : DQ (DS.new n size) size n 0 0 (fun _ => zL size) := ⟨rfl, rfl, rfl, rfl, Nat.le_refl _, fun j => new_at n size j⟩
theorem DQ.asks {D : DS} {size n t wl : Nat} {T : Nat → List Int} (h : DQ D size n t wl T) (i : Int) : DQ (D.asks i) size n (t + 1) wl T := by
  obtain ⟨h1, h2, h3, h4, _⟩ := asks_is D i
  exact ⟨h1.trans h.size, h2.trans h.n, by rw [h3, h.left]; rfl, by rw [asks_len, h.len], by rw [h4]; exact h.wait, fun j => (asks_at D i j).trans (h.at_ j)⟩
theorem DQ.puts {D : DS} {size n t wl : Nat} {T : Nat → List Int} (h : DQ D size n t wl T) (j : Nat) (hj : j < n) (x : BV) (zs : List Int) (hx : x.zs = zs) (hz : zs.length = size) : DQ (D.puts (j : Int) x) size n (t + 1) (wl + 1) (updT T j zs) := by
  obtain ⟨h1, h2, h3⟩ := puts_is D (j : Int) x
  refine ⟨h1.trans h.size, h2.trans h.n, by rw [h3, h.left]; rfl, by rw [puts_len, h.len], Nat.le_trans (puts_wait D _ x) (Nat.succ_le_succ h.wait), fun k => ?_⟩
  rw [puts_at D j k x (by rw [h.n]; exact hj)]
  unfold updT
  by_cases hk : k = j
  · rw [if_pos hk, if_pos hk, hx, h.size]
    exact fitL_self _ _ hz
  · rw [if_neg hk, if_neg hk]
    exact h.at_ k
theorem asks_one (D : DS) (i : Int) : ∃ e : Ev, e.kind = 1 ∧ e.at_ = i ∧ (D.asks i).tr = D.tr ++ [e] := by
  unfold DS.asks
  split
  · rename_i h
    exact ⟨_, rfl, (hasI_yes h).1.symm, rfl⟩
  · exact ⟨_, rfl, rfl, rfl⟩

/-- What is not opened tells nothing. -/
theorem openR_shut {key zs : List Int} (h : openB key zs = false) : openR key zs = [] := by
  unfold openB at h
  unfold openR
  cases ho : openL key zs with
  | none => rfl
  | some _ => rw [ho] at h; cases h

/-! ### What stays -/
structure Keeps (X : Nat → Prop) (Z : Own) (W : World) (Z' : Own) (W' : World) : Prop where
  size : W.heap.size ≤ W'.heap.size
  block : ∀ k, k < W.heap.size → ¬ Z.S k → ¬ X k → W'.heap[k]? = W.heap[k]?
  fresh : ∀ k, Z'.S k → ¬ X k → Z.S k ∨ W.heap.size ≤ k
theorem Keeps.refl (X : Nat → Prop) (Z : Own) (W : World) : Keeps X Z W Z W := ⟨Nat.le_refl _, fun _ _ _ _ => rfl, fun _ h _ => .inl h⟩
theorem Keeps.trans {X : Nat → Prop} {Z Z' Z'' : Own} {a b c : World} (h : Keeps X Z a Z' b) (k : Keeps X Z' b Z'' c) : Keeps X Z a Z'' c := by
  refine ⟨Nat.le_trans h.size k.size, fun i hi hn hx => ?_, fun i hi hx => ?_⟩
  · rw [k.block i (Nat.lt_of_lt_of_le hi h.size) (fun hs => (h.fresh i hs hx).elim hn (fun h' => absurd hi (Nat.not_lt.2 h'))) hx, h.block i hi hn hx]
  · rcases k.fresh i hi hx with h1 | h1
    · exact h.fresh i h1 hx
    · exact .inr (Nat.le_trans h.size h1)
theorem Keeps.of_step {X : Nat → Prop} {Z Z' : Own} {W W' : World} (s : Step Z W Z' W') : Keeps X Z W Z' W' := ⟨s.size, fun k hk hn _ => s.block k hk hn, fun k hk _ => s.fresh k hk⟩
theorem Keeps.of_below {X : Nat → Prop} {Z : Own} {W W' : World} (b : Below W.heap.size W W') : Keeps X Z W Z W' := Keeps.of_step (Step.of_below Z b)
theorem Keeps.of_two {X : Nat → Prop} {Z Z' : Own} {W W' : World} {i j : Nat} (s : Step ((Z.also i).also j) W ((Z'.also i).also j) W') (hi : X i) (hj : X j) : Keeps X Z W Z' W' := by
  refine ⟨s.size, fun k hk hn hx => s.block k hk (fun h => ?_), fun k hk hx => ?_⟩
  · rcases h with (h | h) | h
    · exact hn h
    · exact hx (h ▸ hi)
    · exact hx (h ▸ hj)
  · rcases s.fresh k (.inl (.inl hk)) with ((h | h) | h) | h
    · exact .inl h
    · exact absurd (h ▸ hi) hx
    · exact absurd (h ▸ hj) hx
    · exact .inr h
theorem Keeps.has {X : Nat → Prop} {Z Z' : Own} {W W' : World} {k : Nat} {o : Obj} (s : Keeps X Z W Z' W') (h : Has Z W k o) (hx : ¬ X k) : Has Z' W' k o :=
  ⟨(s.block k h.lt h.2 hx).trans h.1, fun hs => (s.fresh k hs hx).elim h.2 (fun h' => absurd h.lt (Nat.not_lt.2 h'))⟩
theorem Keeps.bz {X : Nat → Prop} {Z Z' : Own} {W W' : World} {a : Option Addr} {len cap : Nat} {zs : List Int} (s : Keeps X Z W Z' W') (h : Bz Z W a len cap zs) (hx : ∀ p, a = some p → ¬ X p.block) : Bz Z' W' a len cap zs :=
  ⟨h.bs.keepAt fun h0 p hp => s.block _ (h.out h0 p hp).1 (h.out h0 p hp).2 (hx p hp), fun h0 p hp => ⟨Nat.lt_of_lt_of_le (h.out h0 p hp).1 s.size, fun hs => (s.fresh _ hs (hx p hp)).elim (h.out h0 p hp).2 (fun h' => absurd (h.out h0 p hp).1 (Nat.not_lt.2 h'))⟩⟩

theorem Keeps.bz0 {X : Nat → Prop} {Z Z' : Own} {W W' : World} {a : Option Addr} {len cap : Nat} {zs : List Int} (s : Keeps X Z W Z' W') (h : Bz Z W a len cap zs) (hx : 0 < len → ∀ p, a = some p → ¬ X p.block) : Bz Z' W' a len cap zs :=
  ⟨h.bs.keepAt fun h0 p hp => s.block _ (h.out h0 p hp).1 (h.out h0 p hp).2 (hx h0 p hp), fun h0 p hp => ⟨Nat.lt_of_lt_of_le (h.out h0 p hp).1 s.size, fun hs => (s.fresh _ hs (hx h0 p hp)).elim (h.out h0 p hp).2 (fun h' => absurd (h.out h0 p hp).1 (Nat.not_lt.2 h'))⟩⟩

/-! ### A device, a pen and a bank -/
structure Bn (w0 W : World) (Z : Own) (g gp gb gh gf at_ n m : Nat) (D : DS) (key : List Int) (boot seq : Int) (hs fs : List Int) : Prop where
  cl : Cl w0 W Z g D
  pn : Pn w0 Z W gp g key boot seq
  bk : Bk w0 Z W gb gp at_ n gh gf m hs fs
/-- What a bank's calls turn beside the device's own. -/
def three (gp gh gf : Nat) (k : Nat) : Prop := k = gp ∨ k = gh ∨ k = gf
theorem three_no {gp gh gf k : Nat} (h1 : k ≠ gp) (h2 : k ≠ gh) (h3 : k ≠ gf) : ¬ three gp gh gf k := fun h => h.elim h1 (fun h => h.elim h2 h3)
section
variable {w0 W W' : World} {Z Z' : Own} {g gp gb gh gf m at_ n size nn t wl : Nat} {D : DS} {key : List Int} {boot : Int} {sq : Nat} {hs fs : List Int} {T : Nat → List Int}
theorem Bn.below {seq : Int} (H : Bn w0 W Z g gp gb gh gf at_ n m D key boot seq hs fs) (b : Below W.heap.size W W') : Bn w0 W' Z g gp gb gh gf at_ n m D key boot seq hs fs := ⟨H.cl.below b, H.pn.below b, H.bk.below b⟩
theorem Bn.only {seq : Int} {k : Nat} (H : Bn w0 W Z g gp gb gh gf at_ n m D key boot seq hs fs) (o : OnlyAt k W W') (h0 : w0.heap.size ≤ k) (hz : ¬ Z.S k) (hp : gp ≠ k) (hb : gb ≠ k) (hh : gh ≠ k) (hf : gf ≠ k) : Bn w0 W' Z g gp gb gh gf at_ n m D key boot seq hs fs :=
  ⟨H.cl.only o hz h0, H.pn.only1 o hp, { H.bk with has := H.bk.has.only o hb, hol := H.bk.hol.only o hh, fre := H.bk.fre.only o hf }⟩
theorem Bn.lts {seq : Int} (H : Bn w0 W Z g gp gb gh gf at_ n m D key boot seq hs fs) : gp < W.heap.size ∧ gb < W.heap.size ∧ gh < W.heap.size ∧ gf < W.heap.size := ⟨H.pn.lt, H.bk.has.lt, H.bk.hol.lt, H.bk.fre.lt⟩
theorem bn_new {seq : Int} (h : Cl w0 W Z g D) (P : Pn w0 Z W gp g key boot seq) (at_ n m : Nat) (hm : (n + 7) / 8 = m) (hn : n ≤ 100000) (ha : at_ ≤ 1000000) :
    Calls Tryd.prog 7 #[.pointer (some ⟨gp, 0, none⟩), .int .i64 (at_ : Int), .int .i64 (n : Int)] W fun e W' => ∃ gb gh gf, e = .returned (.pointer (some ⟨gb, 0, none⟩)) ∧ Bn w0 W' Z g gp gb gh gf at_ n m D key boot seq (onesL m n) (zL m) ∧ Below W.heap.size W W' ∧ (W.heap.size ≤ gb ∧ W.heap.size ≤ gh ∧ W.heap.size ≤ gf) := by
  refine (bank_new h P at_ n m hm hn ha).mono ?_
  rintro e W' ⟨gb, gh, gf, rfl, hgb, B, b, h1, h2⟩
  exact ⟨gb, gh, gf, rfl, ⟨h.below b, P.below b, B⟩, b, hgb, h1, h2⟩
theorem bn_read {seq : Int} (H : Bn w0 W Z g gp gb gh gf at_ n m D key boot seq hs fs) (q : DQ D size nn t wl T) (hq : Glob w0) (ht : t < 900000) (i : Nat) (hi : i < n) (j : Nat) (hj : bN at_ i (bitB hs i != bitB fs i) = j) (hjn : j < nn) (us : List Int) (ob : Bool) (hus : openR key (T j) = us) (hob : openB key (T j) = ob) :
    Calls Tryd.prog 12 #[.pointer (some ⟨gb, 0, none⟩), .int .i64 (i : Int)] W fun e W' => ∃ Z' p c D', e = .returned (.tuple #[.slice p us.length c, .bool ob]) ∧ Bz Z' W' p us.length c us ∧ Bn w0 W' Z' g gp gb gh gf at_ n m D' key boot seq hs fs ∧ DQ D' size nn (t + 1) wl T ∧ Keeps (three gp gh gf) Z W Z' W' ∧ (∃ ev : Ev, ev.kind = 1 ∧ ev.at_ = (j : Int) ∧ D'.tr = D.tr ++ [ev]) ∧ (∀ b, p = some b → W.heap.size ≤ b.block) := by
  have hs0 : D.shows (j : Int) = T j := (shows_nat j rfl (by rw [q.n]; exact hjn)).trans (q.at_ j)
  refine (bank_read H.cl H.pn H.bk hq (by rw [q.left]; decide) (by rw [q.len]; omega) i hi j hj us ob (by rw [hs0]; exact hus) (by rw [hs0]; exact hob)).mono ?_
  rintro e W' ⟨Z', p, c, rfl, B2, C2, P2, K2, s2, hfr⟩
  exact ⟨Z', p, c, _, rfl, B2, ⟨C2, P2, K2⟩, q.asks _, Keeps.of_step s2, asks_one D _, hfr⟩
theorem bn_write (H : Bn w0 W Z g gp gb gh gf at_ n m D key boot (sq : Int) hs fs) (q : DQ D size nn t wl T) (hq : Glob w0) (ht : t < 900000) (hw : wl < 900000) (hsq : sq < 900000) (i : Nat) (hi : i < n) (j : Nat) (hj : bN at_ i (!bitB hs i) = j) (hjn : j < nn) {a : Option Addr} {len cap : Nat} {zs : List Int} (hz : Bs W a len cap zs) (k : Nat) (hsz : size = k + 22) (hlen : len ≤ k) :
    Calls Tryd.prog 11 #[.pointer (some ⟨gb, 0, none⟩), .int .i64 (i : Int), .slice a len cap] W fun e W' => ∃ Z' D', e = .returned (.bool true) ∧ Bn w0 W' Z' g gp gb gh gf at_ n m D' key boot ((sq + 1 : Nat) : Int) hs (setB fs i) ∧ DQ D' size nn (t + 1) (wl + 1) (updT T j (sealL key boot (sq : Int) zs k)) ∧ Keeps (three gp gh gf) Z W Z' W' ∧ (∃ ev : Ev, ev.kind = 2 ∧ ev.at_ = (j : Int) ∧ D'.tr = D.tr ++ [ev]) := by
  refine (bank_write H.cl H.pn H.bk hq (by rw [q.left]; decide) (by rw [q.len]; omega) (by have := q.wait; omega) (by omega) i hi j hj hz k (by rw [q.size]; exact hsz) hlen).mono ?_
  rintro e W' ⟨Z', x, rfl, hx, C2, P2, K2, s2⟩
  exact ⟨Z', _, rfl, ⟨C2, by rw [show ((sq + 1 : Nat) : Int) = (sq : Int) + 1 by omega]; exact P2, K2⟩, q.puts j hjn x _ hx.out (by rw [sealL_length _ _ _ _ _ (by rw [hz.length]; exact hlen), hsz]), Keeps.of_two s2 (.inl rfl) (.inr (.inr rfl)), ⟨_, rfl, rfl, puts_tr D _ x⟩⟩
theorem bn_write_no {seq : Int} (H : Bn w0 W Z g gp gb gh gf at_ n m D key boot seq hs fs) (i : Nat) (hi : i < n) {a : Option Addr} {len cap : Nat} (hlc : len ≤ 9223372036854775807) (hs0 : D.size = size) (hlen : size < len + 22) :
    Calls Tryd.prog 11 #[.pointer (some ⟨gb, 0, none⟩), .int .i64 (i : Int), .slice a len cap] W fun e W' => e = .returned (.bool false) ∧ Below W.heap.size W W' :=
  bank_write_no H.cl H.pn H.bk i hi hlc (by rw [hs0]; omega)
theorem bn_commit {seq : Int} (H : Bn w0 W Z g gp gb gh gf at_ n m D key boot seq hs fs) :
    Calls Tryd.prog 9 #[.pointer (some ⟨gb, 0, none⟩)] W fun e W' => e = .returned (.tuple #[]) ∧ Bn w0 W' Z g gp gb gh gf at_ n m D key boot seq (xorZ hs fs) (zL m) ∧ Keeps (three gp gh gf) Z W Z W' := by
  refine (bank_commit H.cl H.pn H.bk).mono ?_
  rintro e W' ⟨rfl, C2, P2, K2, s2⟩
  exact ⟨rfl, ⟨C2, P2, K2⟩, Keeps.of_two s2 (.inr (.inl rfl)) (.inr (.inr rfl))⟩
theorem bn_load {seq : Int} (H : Bn w0 W Z g gp gb gh gf at_ n m D key boot seq hs fs) {a : Option Addr} {len cap : Nat} {zs : List Int} (hz : Bs W a len cap zs) (hst : StP zs n) :
    Calls Tryd.prog 17 #[.pointer (some ⟨gb, 0, none⟩), .slice a len cap] W fun e W' => e = .returned (.bool true) ∧ Bn w0 W' Z g gp gb gh gf at_ n m D key boot seq zs (zL m) ∧ Keeps (three gp gh gf) Z W Z W' := by
  refine (bank_load H.cl H.pn H.bk hz hst).mono ?_
  rintro e W' ⟨rfl, C2, P2, K2, s2⟩
  exact ⟨rfl, ⟨C2, P2, K2⟩, Keeps.of_two s2 (.inr (.inl rfl)) (.inr (.inr rfl))⟩
theorem bn_state {seq : Int} (H : Bn w0 W Z g gp gb gh gf at_ n m D key boot seq hs fs) (hm : 0 < m) :
    Calls Tryd.prog 16 #[.pointer (some ⟨gb, 0, none⟩)] W fun e W' => ∃ k c, e = .returned (.slice (some ⟨k, 0, none⟩) m c) ∧ W.heap.size ≤ k ∧ Bz Z W' (some ⟨k, 0, none⟩) m c hs ∧ Below W.heap.size W W' := by
  refine (bank_state H.bk).mono ?_
  rintro e W' ⟨a, c, rfl, ho, b⟩
  obtain ⟨k, rfl, hk, _⟩ := ho.form hm
  exact ⟨k, c, rfl, hk, H.cl.own ho, b⟩
theorem bn_state0 {seq : Int} (H : Bn w0 W Z g gp gb gh gf at_ n m D key boot seq hs fs) :
    Calls Tryd.prog 16 #[.pointer (some ⟨gb, 0, none⟩)] W fun e W' => ∃ a c, e = .returned (.slice a m c) ∧ Bz Z W' a m c hs ∧ (0 < m → ∀ p, a = some p → W.heap.size ≤ p.block) ∧ Below W.heap.size W W' := by
  refine (bank_state H.bk).mono ?_
  rintro e W' ⟨a, c, rfl, ho, b⟩
  refine ⟨a, c, rfl, ⟨ho.bs, fun h0 p hp => ?_⟩, fun h0 p hp => ?_, b⟩
  · obtain ⟨k, rfl, hk, hlt⟩ := ho.form h0
    cases hp
    exact ⟨hlt, fun hs => absurd (H.cl.dk.lt _ hs) (Nat.not_lt.2 hk)⟩
  · obtain ⟨k, rfl, hk, hlt⟩ := ho.form h0
    cases hp
    exact hk
end
#print axioms bn_read
#print axioms bn_state
end Go.Proofs.YtlfcejfpdgdnkaaDoor
