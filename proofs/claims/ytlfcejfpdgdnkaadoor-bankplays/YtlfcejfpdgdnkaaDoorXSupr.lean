
/- Several texts in one, in the order in which they lean on each other; what each says stands at its head. No conditions but those that each line states. -/
import Derived.Test.YtlfcejfpdgdnkaaDoorXBase
import Derived.Test.YtlfcejfpdgdnkaaDoorXPen
import Derived.Test.YtlfcejfpdgdnkaaDoorXLe
/- The least bit of a number below 2^64, told, set and cleared; its lower half. No program is named here; no conditions but those that each line states. -/
namespace Go.Proofs.YtlfcejfpdgdnkaaDoor
open Go.RowKit
set_option maxRecDepth 20000

theorem u64_maskI (n : Int) (k : Nat) (hn : 0 ≤ n ∧ n < 18446744073709551616) (hk : k < 64) (m : Int) (hm : m = 2 ^ k - 1) : bits .and .u64 n m = n % 2 ^ k := by
  obtain ⟨a, rfl⟩ := Int.eq_ofNat_of_zero_le hn.1
  have hp : (2 : Nat) ^ k < 2 ^ 64 := Nat.pow_lt_pow_right (by decide) hk
  have hp0 : 0 < (2 : Nat) ^ k := Nat.pow_pos (by decide)
  have hc : ((2 ^ k : Nat) : Int) = (2 : Int) ^ k := Int.natCast_pow 2 k
  have hm' : m = ((2 ^ k - 1 : Nat) : Int) := by omega
  rw [hm', u64_and_nat _ _ (by omega) (by omega), Nat.and_two_pow_sub_one_eq_mod, ← hc]
  exact Int.natCast_emod _ _
theorem u64_and1 (n : Int) (hn : 0 ≤ n ∧ n < 18446744073709551616) : bits .and .u64 n 1 = n % 2 := u64_maskI n 1 hn (by decide) 1 (by decide)
theorem u64_and32 (n : Int) (hn : 0 ≤ n ∧ n < 18446744073709551616) : bits .and .u64 n 4294967295 = n % 4294967296 := u64_maskI n 32 hn (by decide) 4294967295 (by decide)
theorem u64_or1 (n : Int) (hn : 0 ≤ n ∧ n < 18446744073709551616) (h : n % 2 = 0) : bits .or .u64 n 1 = n + 1 := by
  rw [u64_or _ _ hn.1 hn.2 (by decide) (by decide)]
  obtain ⟨a, rfl⟩ := Int.eq_ofNat_of_zero_le hn.1
  rw [Int.toNat_natCast, show (1 : Int).toNat = 1 from rfl, nat_join 1 a 1 (by omega) (by omega)]
  omega
theorem nat_clear (b : Nat) (h : b < 18446744073709551616) : b &&& 18446744073709551614 = 2 * (b / 2) := by
  apply Nat.eq_of_testBit_eq
  intro i
  rw [Nat.testBit_and]
  cases i with
  | zero => simp [Nat.testBit_zero]
  | succ i =>
    have e1 : (18446744073709551614 : Nat).testBit (i + 1) = decide (i < 63) := by
      rw [Nat.testBit_succ, show (18446744073709551614 : Nat) / 2 = 2 ^ 63 - 1 by decide, Nat.testBit_two_pow_sub_one]
    have e2 : (2 * (b / 2)).testBit (i + 1) = b.testBit (i + 1) := by
      rw [Nat.testBit_succ, Nat.testBit_succ, Nat.mul_div_cancel_left _ (by decide)]
    rw [e1, e2]
    by_cases hi : i < 63
    · simp [hi]
    · have hb : b.testBit (i + 1) = false := Nat.testBit_lt_two_pow (Nat.lt_of_lt_of_le h (Nat.pow_le_pow_right (n := 2) (by decide) (show 64 ≤ i + 1 by omega)))
      simp [hb]
theorem u64_clear1 (n : Int) (hn : 0 ≤ n ∧ n < 18446744073709551616) : bits .andNot .u64 n 1 = 2 * (n / 2) := by
  obtain ⟨a, rfl⟩ := Int.eq_ofNat_of_zero_le hn.1
  rw [show (1 : Int) = ((1 : Nat) : Int) from rfl, u64_andNot_nat a _ (by omega) (by decide), show 18446744073709551615 - 1 = 18446744073709551614 by decide, nat_clear a (by omega)]
  omega
#print axioms u64_or1
#print axioms u64_clear1
end Go.Proofs.YtlfcejfpdgdnkaaDoor

/- What stands in the cells of a trace that was told; cells that later worlds keep; arrays built under a guard. No conditions but those that each line states. -/
namespace Go.Proofs.YtlfcejfpdgdnkaaDoor
open Go.RowKit
set_option maxRecDepth 20000

theorem keep_cell {w w' : World} {p : Addr} {v : Value} (h : w.cell? p = some v) (hb : Below w.heap.size w w') : w'.cell? p = some v := (hb.cell (World.block_lt_of_cell? w _ h)).trans h
theorem Tr.kind {Z : Own} {w : World} {te n size : Nat} {l : List Ev} (h : Tr Z w te n size l) (i : Nat) (e : Ev) (he : l[i]? = some e) : w.cell? ⟨te, i * 15, none⟩ = some (.int .i64 e.kind) := by
  obtain ⟨v, hv, -⟩ := h.ev i e he
  have := hv 0 _ rfl
  rw [Nat.add_zero, Nat.mul_comm] at this
  exact this
theorem Tr.place {Z : Own} {w : World} {te n size : Nat} {l : List Ev} (h : Tr Z w te n size l) (i : Nat) (e : Ev) (he : l[i]? = some e) : w.cell? ⟨te, i * 15 + 1, none⟩ = some (.int .i64 e.at_) := by
  obtain ⟨v, hv, -⟩ := h.ev i e he
  have := hv 1 _ rfl
  rw [Nat.mul_comm] at this
  exact this
theorem Tr.body {Z : Own} {w : World} {te n size : Nat} {l : List Ev} (h : Tr Z w te n size l) (i : Nat) (e : Ev) (he : l[i]? = some e) : ∃ v : BV, w.cell? ⟨te, i * 15 + 14, none⟩ = some v.v ∧ (e.kind = 2 → ∃ m, v = ⟨some ⟨m, 0, none⟩, size, size, fitL size e.body.zs⟩ ∧ ¬ Z.S m ∧ OwnB 5 w m (fitL size e.body.zs)) := by
  obtain ⟨v, hv, h2⟩ := h.ev i e he
  refine ⟨v, ?_, fun hk => ?_⟩
  · have := hv 14 _ (evL_14 _ _ _ _ (fitL_length _ _))
    rw [Nat.mul_comm] at this
    exact this
  · rcases h2 with ⟨-, m, rfl, -, hs, hO⟩ | ⟨h3, -⟩
    · exact ⟨m, rfl, hs, hO⟩
    · exact absurd hk h3
theorem wpList_build_want {P : Program} {ops : Array Oper} {rest : List Oper} {o : Oper} {a : Act} {w : World} {Q : Exit → Act → World → Prop} (hw : Region.wanted o (yielded ops a.tmps) = true) (t : TypeId) (parts : Array (Nat × Operand)) (ho : o.op = .build t parts)
    (cells : Array Value) (hf : P.built t (parts.map fun (i, x) => (i, a.eval x)).toList = some cells)
    (h : wpList P ops Q rest (a.put o.dst (.agg cells)) w) : wpList P ops Q (o :: rest) a w := by
  refine wpList_step fun K hK => ?_
  rw [if_pos hw]
  refine wp_build t parts ho (by rw [hf]; rfl) ?_
  rw [hf]
  exact hK _ _ h
#print axioms Tr.body
end Go.Proofs.YtlfcejfpdgdnkaaDoor

/- The text that tells an epoch; what calls of package supr do, for every device and every pen in memory. No conditions but those that each line states. -/
namespace Go.Proofs.YtlfcejfpdgdnkaaDoor
open Go.RowKit
set_option maxRecDepth 20000

/-! ### The text -/
def wordL : List Int := [101, 112, 111, 99, 104]
/-- The text that tells n. -/
def epoL (n : Int) : List Int := wordL ++ putL n 8
theorem epoL_length (n : Int) : (epoL n).length = 13 := by simp [epoL, length_putL, wordL]
theorem epoL_bytes (n : Int) : IsBytes (epoL n) := IsBytes.append (fun x hx => by
  simp only [wordL, List.mem_cons, List.not_mem_nil, or_false] at hx
  omega) (putL_bytes _ _)
/-- Whether bytes are such a text, and what it tells. -/
def epoOk (zs : List Int) : Bool := decide (zs.take 5 = wordL) && decide (zs.length = 13)
def epoN (zs : List Int) : Int := leNum (zs.drop 5)
def epoV (zs : List Int) : Int := if epoOk zs = true then epoN zs else 0
theorem epoOk_epoL (n : Int) : epoOk (epoL n) = true := by
  unfold epoOk
  rw [epoL_length]
  rfl
theorem epoN_epoL (n : Int) (h : 0 ≤ n ∧ n < 18446744073709551616) : epoN (epoL n) = n := by
  have e : (epoL n).drop 5 = putL n 8 := rfl
  unfold epoN
  rw [e, leNum_all _ h.1 h.2]
theorem epoV_epoL (n : Int) (h : 0 ≤ n ∧ n < 18446744073709551616) : epoV (epoL n) = n := by
  unfold epoV
  rw [if_pos (epoOk_epoL n), epoN_epoL n h]
theorem epoN_lt {zs : List Int} (h : IsBytes zs) (hl : epoOk zs = true) : 0 ≤ epoN zs ∧ epoN zs < 18446744073709551616 := by
  simp only [epoOk, Bool.and_eq_true, decide_eq_true_eq] at hl
  have h1 := leNum_lt (zs.drop 5) (h.drop 5)
  have h2 : (zs.drop 5).length = 8 := by rw [List.length_drop]; omega
  rw [h2] at h1
  unfold epoN
  omega
theorem epoV_lt {zs : List Int} (h : IsBytes zs) : 0 ≤ epoV zs ∧ epoV zs < 18446744073709551616 := by
  unfold epoV
  split
  · exact epoN_lt h (by assumption)
  · omega
theorem epoV_no {zs : List Int} (h : epoOk zs = false) : epoV zs = 0 := by simp [epoV, h]
theorem epoV_yes {zs : List Int} (h : epoOk zs = true) : epoV zs = epoN zs := by simp [epoV, h]
theorem epoOk_word {zs : List Int} (h : ¬ zs.take 5 = wordL) : epoOk zs = false := by simp [epoOk, h]
theorem epoOk_len {zs : List Int} (h : ¬ zs.length = 13) : epoOk zs = false := by simp [epoOk, h]

/-! ### What a block tells, in a place -/
def tellB (key zs : List Int) (pl : Int) : Bool := epoOk (openR key zs) && decide (epoV (openR key zs) % 2 = pl)
def tellV (key zs : List Int) (pl : Int) : Int := if tellB key zs pl = true then epoV (openR key zs) else 0
theorem tellV_no {key zs : List Int} {pl : Int} (h : tellB key zs pl = false) : tellV key zs pl = 0 := by simp [tellV, h]
theorem tell_closed {key zs : List Int} (pl : Int) (h : openB key zs = false) : tellB key zs pl = false := by
  have e : openR key zs = [] := by
    unfold openB at h
    unfold openR
    cases ho : openL key zs with
    | none => rfl
    | some _ => rw [ho] at h; cases h
  unfold tellB
  rw [e]
  rfl
theorem tell_sealed {key : List Int} {boot seq : Int} {zs : List Int} {m : Nat} (pl : Int) (hb : 0 ≤ boot ∧ boot < 4294967296) (hs : 0 ≤ seq ∧ seq < 18446744073709551616) (hz : IsBytes zs) (h : zs.length ≤ m) (hm : m ≤ 60000) :
    tellB key (sealL key boot seq zs m) pl = (epoOk zs && decide (epoV zs % 2 = pl)) ∧ tellV key (sealL key boot seq zs m) pl = if (epoOk zs && decide (epoV zs % 2 = pl)) = true then epoV zs else 0 := by
  have e := (open_is key boot seq zs m hb hs hz h hm).1
  unfold tellV tellB
  rw [e]
  exact ⟨rfl, rfl⟩
/-- An epoch that was sealed is told in its place. -/
theorem tell_epoch {key : List Int} {boot seq : Int} {n : Int} {m : Nat} (hb : 0 ≤ boot ∧ boot < 4294967296) (hs : 0 ≤ seq ∧ seq < 18446744073709551616) (hn : 0 ≤ n ∧ n < 18446744073709551616) (h : 13 ≤ m) (hm : m ≤ 60000) :
    tellB key (sealL key boot seq (epoL n) m) (n % 2) = true ∧ tellV key (sealL key boot seq (epoL n) m) (n % 2) = n := by
  obtain ⟨h1, h2⟩ := tell_sealed (key := key) (boot := boot) (seq := seq) (n % 2) hb hs (epoL_bytes n) (by rw [epoL_length]; exact h) hm
  rw [epoOk_epoL, epoV_epoL n hn] at h1 h2
  simp only [decide_true, Bool.and_self, if_true] at h1 h2
  exact ⟨h1, h2⟩
theorem tellV_lt {key zs : List Int} (pl : Int) (h : IsBytes zs) : 0 ≤ tellV key zs pl ∧ tellV key zs pl < 18446744073709551616 := by
  unfold tellV
  split
  · refine epoV_lt ?_
    unfold openR
    cases ho : openL key zs with
    | none => exact IsBytes.nil
    | some us => exact openL_bytes h ho
  · omega

/-! ### The calls -/
end Go.Proofs.YtlfcejfpdgdnkaaDoor

/- What a device shows; what calls of supr.standing, supr.Last, supr.Commit do, for every device and every pen in memory. No conditions but those that each line states. -/
namespace Go.Proofs.YtlfcejfpdgdnkaaDoor
open Go.RowKit
set_option maxRecDepth 20000

/-! ### What stands on a device -/
/-- What stands in block j. -/
def DS.at_ (D : DS) (j : Nat) : List Int := fitL D.size (D.blk j).1.zs
theorem shows_nat {D : DS} {i : Int} (j : Nat) (hj : i = (j : Int)) (h : j < D.n) : D.shows i = D.at_ j := by
  subst hj
  unfold DS.shows DS.at_
  rw [if_pos (hasI_nat h), Int.toNat_natCast]
theorem asks_at (D : DS) (i : Int) (j : Nat) : (D.asks i).at_ j = D.at_ j := by
  obtain ⟨h1, -, -, -, h5⟩ := asks_is D i
  unfold DS.at_
  rw [h1, h5]
theorem asks_shows (D : DS) (i j : Int) : (D.asks i).shows j = D.shows j := by
  obtain ⟨h1, h2, -, -, h5⟩ := asks_is D i
  unfold DS.shows
  rw [h1, h2, h5]
theorem asks_tr (D : DS) (i : Int) : ∃ e, e.kind = 1 ∧ (D.asks i).tr = D.tr ++ [e] := by
  unfold DS.asks
  split
  · exact ⟨_, rfl, rfl⟩
  · exact ⟨_, rfl, rfl⟩
theorem puts_at (D : DS) (i j : Nat) (x : BV) (h : i < D.n) : (D.puts (i : Int) x).at_ j = if j = i then fitL D.size x.zs else D.at_ j := by
  unfold DS.puts
  rw [if_pos (hasI_nat h), Int.toNat_natCast]
  show fitL D.size (updW D.blk i x j).1.zs = _
  unfold updW DS.at_
  by_cases hj : j = i
  · subst hj; simp
  · simp [hj]
theorem flush_at (D : DS) (j : Nat) : D.flush.at_ j = D.at_ j := by
  show fitL D.size (flushN D.blk D.wait j).1.zs = fitL D.size (D.blk j).1.zs
  have h : ∀ (l : List (Nat × BV)) (b : Nat → BV × BV), (flushN b l j).1 = (b j).1 := by
    intro l
    induction l with
    | nil => intro b; rfl
    | cons p l ih =>
      intro b
      show (flushN (updF b p.1 p.2) l j).1 = _
      rw [ih]
      unfold updF
      by_cases hj : j = p.1
      · simp [hj]
      · simp [hj]
  rw [h]
theorem new_at (n size j : Nat) : (DS.new n size).at_ j = zL size := fitL_nil size
/-- Both places are read. -/
def DS.scan (D : DS) (i : Int) : DS := (D.asks i).asks (i + 1)
theorem scan_is (D : DS) (i : Int) : (D.scan i).size = D.size ∧ (D.scan i).n = D.n ∧ (D.scan i).left = spendL (spendL D.left) ∧ (D.scan i).wait = D.wait ∧ (D.scan i).blk = D.blk := by
  obtain ⟨h1, h2, h3, h4, h5⟩ := asks_is D i
  obtain ⟨g1, g2, g3, g4, g5⟩ := asks_is (D.asks i) (i + 1)
  exact ⟨g1.trans h1, g2.trans h2, g3.trans (by rw [h3]), g4.trans h4, g5.trans h5⟩
theorem scan_len (D : DS) (i : Int) : (D.scan i).tr.length = D.tr.length + 2 := by
  unfold DS.scan
  rw [asks_len, asks_len]
theorem scan_at (D : DS) (i : Int) (j : Nat) : (D.scan i).at_ j = D.at_ j := by
  unfold DS.scan
  rw [asks_at, asks_at]
/-- An epoch is written and flushed. -/
def DS.done (D : DS) (i : Int) (x : BV) : DS := (D.puts i x).flush
theorem done_is (D : DS) (i : Int) (x : BV) : (D.done i x).size = D.size ∧ (D.done i x).n = D.n ∧ (D.done i x).left = spendL (spendL D.left) ∧ (D.done i x).wait = [] := by
  obtain ⟨h1, h2, h3⟩ := puts_is D i x
  exact ⟨h1, h2, by show spendL (D.puts i x).left = _; rw [h3], rfl⟩
theorem done_tr (D : DS) (i : Int) (x : BV) : (D.done i x).tr = D.tr ++ [⟨2, i, x.zs, x⟩, ⟨3, 0, [], BV.nil⟩] := by
  show (D.puts i x).tr ++ [_] = _
  rw [puts_tr, List.append_assoc]
  rfl
theorem done_len (D : DS) (i : Int) (x : BV) : (D.done i x).tr.length = D.tr.length + 2 := by rw [done_tr]; simp
theorem done_at (D : DS) (i j : Nat) (x : BV) (h : i < D.n) : (D.done (i : Int) x).at_ j = if j = i then fitL D.size x.zs else D.at_ j := by
  show ((D.puts (i : Int) x).flush).at_ j = _
  rw [flush_at, puts_at D i j x h]
theorem spendL_two {l : Int} (h : ¬ l = 0) (h1 : ¬ l = 1) : ¬ spendL l = 0 := by
  unfold spendL
  split <;> omega

section
variable {w0 W : World} {Z : Own} {g gp : Nat} {D : DS} {key : List Int} {boot seq : Int}
end
end Go.Proofs.YtlfcejfpdgdnkaaDoor

/- What calls of supr.Commit and supr.Last do where the power stays. The variable of package quar reads as its text says. No conditions but those that each line states. -/
namespace Go.Proofs.YtlfcejfpdgdnkaaDoor
open Go.RowKit
set_option maxRecDepth 20000

/-! ### Where the power stays -/
/-- What was asked turns nothing. -/
structure Still (D D' : DS) : Prop where
  size : D'.size = D.size
  n : D'.n = D.n
  left : D'.left = -1
  wait : D'.wait = D.wait
  len : D'.tr.length = D.tr.length + 2
  at_ : ∀ j, D'.at_ j = D.at_ j
theorem Still.scan {D : DS} (h : D.left = -1) (i : Int) : Still D (D.scan i) := by
  obtain ⟨f1, f2, f3, f4, -⟩ := scan_is D i
  exact ⟨f1, f2, by rw [f3, h]; rfl, f4, scan_len D i, scan_at D i⟩
/-- What was committed stands in its place. -/
structure Stands (D D' : DS) (j : Nat) (zs : List Int) : Prop where
  size : D'.size = D.size
  n : D'.n = D.n
  left : D'.left = -1
  wait : D'.wait = []
  len : D'.tr.length = D.tr.length + 2
  ev : ∃ b, D'.tr = D.tr ++ [⟨2, j, zs, b⟩, ⟨3, 0, [], BV.nil⟩]
  at_ : ∀ k, D'.at_ k = if k = j then zs else D.at_ k
theorem Stands.done {D : DS} (h : D.left = -1) (j : Nat) (hj : j < D.n) (x : BV) (zs : List Int) (hx : x.zs = zs) (hz : zs.length = D.size) : Stands D (D.done (j : Int) x) j zs := by
  subst hx
  obtain ⟨f1, f2, f3, f4⟩ := done_is D (j : Int) x
  refine ⟨f1, f2, by rw [f3, h]; rfl, f4, done_len D j x, ⟨x, done_tr D j x⟩, fun k => ?_⟩
  rw [done_at D j k x hj, fitL_self _ _ hz]

section
variable {w0 W : World} {Z : Own} {g gp : Nat} {D : DS} {key : List Int} {boot seq : Int}
theorem Pn.only {W' : World} {k : Nat} (P : Pn w0 Z W gp g key boot seq) (o : OnlyAt k W W') (hk : gp ≠ k) : Pn w0 Z W' gp g key boot seq := ⟨P.at_.only o hk, P.frm, P.kb, P.kl, P.bt, P.sq⟩
/-- A text that tells nothing in its place. -/
theorem tell_bad {zs : List Int} {m : Nat} (pl : Int) (hz : IsBytes zs) (h : zs.length ≤ 18) (hT : (epoOk zs && decide (epoV zs % 2 = pl)) = false) {boot seq : Int} (hb : 0 ≤ boot ∧ boot < 4294967296 := by omega) (hs : 0 ≤ seq ∧ seq < 18446744073709551616 := by omega) (hm : 18 ≤ m ∧ m ≤ 60000 := by omega) :
    tellB key (sealL key boot seq zs m) pl = false ∧ tellV key (sealL key boot seq zs m) pl = 0 := by
  obtain ⟨h1, h2⟩ := tell_sealed (key := key) (boot := boot) (seq := seq) pl hb hs hz (Nat.le_trans h hm.1) hm.2
  rw [hT] at h1 h2
  exact ⟨h1, h2⟩
end

end Go.Proofs.YtlfcejfpdgdnkaaDoor
