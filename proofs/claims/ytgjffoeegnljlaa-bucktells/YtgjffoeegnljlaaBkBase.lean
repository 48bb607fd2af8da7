
/- What stands in a bucket: Cells as numbers and bytes, the bytes that they are told in, and what bytes tell; rows of Cells in memory. No function is named here; no conditions but those that each line states. -/
import Derived.Test.YtgjffoeegnljlaaPlain
import Derived.Test.YtgjffoeegnljlaaStruct
import Derived.Test.YtgjffoeegnljlaaFit
import Derived.Test.YtgjffoeegnljlaaGrown
import Derived.Laws.CopyOwn
namespace Go.Proofs.Ytgjffoeegnljlaa
open Go.RowKit
set_option maxRecDepth 20000

/-! ### Cells as numbers and bytes -/
/-- A Cell: its number, its leaf, its bytes. -/
abbrev PC := Int × Int × List Int
/-- A Cell's bytes. -/
def tellC (c : PC) : List Int := putL c.1 4 ++ (putL c.2.1 4 ++ c.2.2)
def okC (size : Int) (c : PC) : Bool := decide ((1 ≤ c.1 ∧ c.1 ≤ 2147483647) ∧ (0 ≤ c.2.1 ∧ c.2.1 ≤ 2147483647) ∧ (c.2.2.length : Int) = size)
def okZ (z size : Int) : Bool := decide ((0 ≤ z ∧ z ≤ 16) ∧ 0 ≤ size ∧ size ≤ 60000)
/-- May these Cells be in a bucket of z Cells of size bytes? -/
def okK (cs : List PC) (z size : Int) : Bool := okZ z size && (decide ((cs.length : Int) ≤ z) && cs.all (okC size))
/-- The Cells' bytes one behind the other, noughts behind them, n in all. -/
def codeL (cs : List PC) (n : Nat) : List Int := cs.flatMap tellC ++ zL (n - (cs.flatMap tellC).length)
/-- What is told, if it is. -/
def codeR (cs : List PC) (z size : Int) : List Int := if okK cs z size = true then codeL cs (z * (8 + size)).toNat else []
/-- The Cells that bytes tell, up to a number of nought; at most k. -/
def readL (s : Nat) : Nat → List Int → List PC
  | 0, _ => []
  | k + 1, bs => if leNum (bs.take 4) = 0 then [] else (leNum (bs.take 4), leNum ((bs.drop 4).take 4), (bs.drop 8).take s) :: readL s k (bs.drop (8 + s))
/-- Are these bytes a bucket's? -/
def isBk (bs : List Int) (z size : Int) : Bool := okZ z size && (decide ((bs.length : Int) = z * (8 + size)) && (okK (readL size.toNat z.toNat bs) z size && decide (codeL (readL size.toNat z.toNat bs) bs.length = bs)))
/-- What they tell, if they are. -/
def readR (bs : List Int) (z size : Int) : List PC := if isBk bs z size = true then readL size.toNat z.toNat bs else []

theorem okC_is {size : Int} {c : PC} (h : okC size c = true) : (1 ≤ c.1 ∧ c.1 ≤ 2147483647) ∧ (0 ≤ c.2.1 ∧ c.2.1 ≤ 2147483647) ∧ (c.2.2.length : Int) = size := of_decide_eq_true h
theorem okZ_is {z size : Int} (h : okZ z size = true) : (0 ≤ z ∧ z ≤ 16) ∧ 0 ≤ size ∧ size ≤ 60000 := of_decide_eq_true h
theorem okK_is {cs : List PC} {z size : Int} (h : okK cs z size = true) : okZ z size = true ∧ (cs.length : Int) ≤ z ∧ ∀ c ∈ cs, okC size c = true := by
  unfold okK at h
  simp only [Bool.and_eq_true, decide_eq_true_eq, List.all_eq_true] at h
  exact h
theorem okK_of {cs : List PC} {z size : Int} (h1 : okZ z size = true) (h2 : (cs.length : Int) ≤ z) (h3 : ∀ c ∈ cs, okC size c = true) : okK cs z size = true := by
  unfold okK
  rw [h1, decide_eq_true h2, List.all_eq_true.2 h3]
  rfl
theorem tellC_length (c : PC) : (tellC c).length = 8 + c.2.2.length := by
  simp only [tellC, List.length_append, length_putL]
  omega
theorem tellC_bytes {c : PC} (h : IsBytes c.2.2) : IsBytes (tellC c) := (putL_bytes _ _).append ((putL_bytes _ _).append h)
theorem tells_length {s : Nat} : ∀ {cs : List PC}, (∀ c ∈ cs, c.2.2.length = s) → (cs.flatMap tellC).length = cs.length * (8 + s)
  | [], _ => by simp
  | c :: cs, h => by
    rw [List.flatMap_cons, List.length_append, tellC_length, h c (by simp), tells_length fun c hc => h c (List.mem_cons_of_mem _ hc), List.length_cons, Nat.add_mul, Nat.one_mul]
    omega
theorem tells_bytes : ∀ {cs : List PC}, (∀ c ∈ cs, IsBytes c.2.2) → IsBytes (cs.flatMap tellC)
  | [], _ => IsBytes.nil
  | c :: cs, h => by
    rw [List.flatMap_cons]
    exact (tellC_bytes (h c (by simp))).append (tells_bytes fun c hc => h c (List.mem_cons_of_mem _ hc))
theorem codeL_length {cs : List PC} {n : Nat} (h : (cs.flatMap tellC).length ≤ n) : (codeL cs n).length = n := by
  unfold codeL
  rw [List.length_append, zL_length]
  omega
theorem codeL_bytes {cs : List PC} (h : ∀ c ∈ cs, IsBytes c.2.2) (n : Nat) : IsBytes (codeL cs n) := (tells_bytes h).append (zL_bytes _)
/-- The bytes of a bucket are as many as the document says. -/
theorem codeR_length {cs : List PC} {z size : Int} (h : okK cs z size = true) : ((codeR cs z size).length : Int) = z * (8 + size) := by
  obtain ⟨h1, h2, h3⟩ := okK_is h
  obtain ⟨h4, h5⟩ := okZ_is h1
  unfold codeR
  rw [if_pos h, codeL_length]
  · have := Int.mul_nonneg h4.1 (show 0 ≤ 8 + size by omega)
    omega
  · rw [tells_length (s := size.toNat) fun c hc => by have := (okC_is (h3 c hc)).2.2; omega]
    obtain ⟨Z, rfl⟩ := Int.eq_ofNat_of_zero_le h4.1
    obtain ⟨S, rfl⟩ := Int.eq_ofNat_of_zero_le h5.1
    have e : ((Z : Int) * (8 + (S : Int))).toNat = Z * (8 + S) := by
      rw [show (Z : Int) * (8 + (S : Int)) = ((Z * (8 + S) : Nat) : Int) by push_cast; rfl]
      exact Int.toNat_natCast _
    rw [e]
    exact Nat.mul_le_mul (by omega) (Nat.le_refl _)
/-! ### Back -/
theorem putL_four (bs : List Int) (h : IsBytes bs) (hl : bs.length = 4) : putL (leNum bs) 4 = bs := by
  match bs, hl with
  | [a, b, c, d], _ =>
    have h0 := h a (by simp)
    have h1 := h b (by simp)
    have h2 := h c (by simp)
    have h3 := h d (by simp)
    simp only [putL, List.range, List.range.loop, List.map_cons, List.map_nil, leNum, byteAt]
    congr 1
    · omega
    congr 1
    · omega
    congr 1
    · omega
    congr 1
    · omega
theorem leNum_four' (n : Int) (h : 0 ≤ n ∧ n < 4294967296) : leNum (putL n 4) = n := by
  rw [leNum_putL]
  have : (256 : Int) ^ 4 = 4294967296 := by decide
  rw [this]
  omega
/-- What is read of a Cell's bytes, told again. -/
theorem tell_read {s : Nat} {bs : List Int} (h : IsBytes bs) (hl : 8 + s ≤ bs.length) : tellC (leNum (bs.take 4), leNum ((bs.drop 4).take 4), (bs.drop 8).take s) = bs.take (8 + s) := by
  unfold tellC
  simp only
  rw [putL_four _ (h.take 4) (by rw [List.length_take]; omega), putL_four _ ((h.drop 4).take 4) (by rw [List.length_take, List.length_drop]; omega)]
  rw [show bs.drop 8 = (bs.drop 4).drop 4 by rw [List.drop_drop], ← List.take_add, ← List.take_add]
  congr 1
  omega
theorem readL_length (s : Nat) : ∀ (k : Nat) (bs : List Int), (readL s k bs).length ≤ k
  | 0, _ => Nat.le_refl _
  | k + 1, bs => by
    unfold readL
    split
    · exact Nat.zero_le _
    · rw [List.length_cons]
      exact Nat.succ_le_succ (readL_length s k _)
/-- Cells that are told are read again. -/
theorem read_tell {s : Nat} : ∀ {k : Nat} {cs : List PC} {r : List Int}, (∀ c ∈ cs, okC (s : Int) c = true) → cs.length ≤ k → (cs.length < k → leNum (r.take 4) = 0) → readL s k (cs.flatMap tellC ++ r) = cs
  | 0, cs, r, _, h2, _ => by
    have : cs = [] := List.eq_nil_of_length_eq_zero (by omega)
    subst this
    rfl
  | k + 1, [], r, _, _, h3 => by
    unfold readL
    rw [List.flatMap_nil, List.nil_append, if_pos (h3 (by simp))]
  | k + 1, (i, l, d) :: cs, r, h1, h2, h3 => by
    obtain ⟨a1, a2, a3⟩ := okC_is (h1 (i, l, d) (by simp))
    simp only at a1 a2 a3
    have e1 : (tellC (i, l, d) ++ (cs.flatMap tellC ++ r)).take 4 = putL i 4 := by
      unfold tellC
      simp only [List.append_assoc]
      exact List.take_left' (length_putL _ _)
    have e2 : (tellC (i, l, d) ++ (cs.flatMap tellC ++ r)).drop 4 = putL l 4 ++ (d ++ (cs.flatMap tellC ++ r)) := by
      unfold tellC
      simp only [List.append_assoc]
      exact List.drop_left' (length_putL _ _)
    have e3 : (tellC (i, l, d) ++ (cs.flatMap tellC ++ r)).drop 8 = d ++ (cs.flatMap tellC ++ r) := by
      rw [show 8 = 4 + 4 from rfl, ← List.drop_drop, e2]
      exact List.drop_left' (length_putL _ _)
    have e4 : (tellC (i, l, d) ++ (cs.flatMap tellC ++ r)).drop (8 + s) = cs.flatMap tellC ++ r := by
      rw [← List.drop_drop, e3]
      exact List.drop_left' (by omega)
    rw [List.flatMap_cons, List.append_assoc]
    unfold readL
    rw [e1, e2, e3, e4, leNum_four' i (by omega), List.take_left' (length_putL _ _), leNum_four' l (by omega), List.take_left' (by omega), if_neg (by omega), read_tell (fun c hc => h1 c (List.mem_cons_of_mem _ hc)) (by simp only [List.length_cons] at h2; omega) (fun h => h3 (by simp only [List.length_cons]; omega))]
theorem leNum_zL (n k : Nat) : leNum ((zL n).take k) = 0 := by
  have : (zL n).take k = List.replicate (min k n) 0 := by
    apply List.ext_getElem?
    intro i
    rw [List.getElem?_take, List.getElem?_replicate]
    by_cases h : i < n
    · rw [zL, rowL_get _ _ _ h]
      by_cases h2 : i < k
      · rw [if_pos h2, if_pos (by omega)]
      · rw [if_neg h2, if_neg (by omega)]
    · rw [zL, rowL_none _ _ _ (by omega), if_neg (show ¬ i < min k n by omega)]
      split <;> rfl
  rw [this]
  exact leNum_zeros _
/-- A bucket's bytes are a bucket's, and tell its Cells. -/
theorem isBk_code {cs : List PC} {z size : Int} (h : okK cs z size = true) : isBk (codeR cs z size) z size = true ∧ readR (codeR cs z size) z size = cs := by
  have hlen := codeR_length h
  obtain ⟨h1, h2, h3⟩ := okK_is h
  obtain ⟨h4, h5⟩ := okZ_is h1
  obtain ⟨S, rfl⟩ := Int.eq_ofNat_of_zero_le h5.1
  have hr : readL (S : Int).toNat z.toNat (codeR cs z (S : Int)) = cs := by
    unfold codeR codeL
    rw [if_pos h, Int.toNat_natCast]
    exact read_tell h3 (by omega) (fun _ => leNum_zL _ _)
  have hb : isBk (codeR cs z (S : Int)) z (S : Int) = true := by
    unfold isBk
    rw [hr, h1, decide_eq_true hlen, h]
    have : codeL cs (codeR cs z (S : Int)).length = codeR cs z (S : Int) := by
      have e : (codeR cs z (S : Int)).length = (z * (8 + (S : Int))).toNat := by omega
      rw [e]
      unfold codeR
      rw [if_pos h]
    rw [decide_eq_true this]
    rfl
  refine ⟨hb, ?_⟩
  unfold readR
  rw [if_pos hb, hr]
/-- What bytes tell is told in them. -/
theorem code_isBk {bs : List Int} {z size : Int} (h : isBk bs z size = true) : okK (readR bs z size) z size = true ∧ codeR (readR bs z size) z size = bs := by
  have h0 := h
  unfold isBk at h
  simp only [Bool.and_eq_true, decide_eq_true_eq] at h
  obtain ⟨h1, h2, h3, h4⟩ := h
  unfold readR
  rw [if_pos h0]
  refine ⟨h3, ?_⟩
  unfold codeR
  rw [if_pos h3]
  have e : (z * (8 + size)).toNat = bs.length := by omega
  rw [e, h4]
theorem isBk_len {bs : List Int} {z size : Int} (h : isBk bs z size = true) : okZ z size = true ∧ (bs.length : Int) = z * (8 + size) := by
  unfold isBk at h
  simp only [Bool.and_eq_true, decide_eq_true_eq] at h
  exact ⟨h.1, h.2.1⟩
theorem ret_pair {v : Value} {a b : Bool} (h : a = b) : Ending.returned (.tuple #[v, .bool a]) = .returned (.tuple #[v, .bool b]) := by rw [h]
theorem splice_full (cur zs : List Int) (n : Nat) (h : cur.length = n) (h2 : n ≤ zs.length) : splice cur 0 (zs.take n) = zs.take n := by
  unfold splice
  rw [List.drop_of_length_le (by simp; omega)]
  simp
/-! ### What a loop over a bucket's bytes finds -/
theorem codeL_step (cs : List PC) (c : PC) (n : Nat) : splice (codeL cs n) (cs.flatMap tellC).length (tellC c) = codeL (cs ++ [c]) n := by
  unfold codeL splice
  rw [← List.drop_drop, List.take_left' rfl, List.drop_left' rfl, zL_drop, List.flatMap_append, List.length_append, Nat.sub_sub]
  simp only [List.flatMap_cons, List.flatMap_nil, List.append_nil, List.append_assoc]
theorem zL_rep (n : Nat) : zL n = List.replicate n 0 := by
  apply List.ext_getElem?
  intro i
  rw [List.getElem?_replicate]
  by_cases h : i < n
  · rw [zL, rowL_get _ _ _ h, if_pos h]
  · rw [zL, rowL_none _ _ _ (by omega), if_neg h]
theorem allZ_is (l : List Int) : allZ l = decide (zL l.length = l) := by
  rw [zL_rep]
  by_cases h : List.replicate l.length 0 = l
  · rw [decide_eq_true h, allZ, List.all_eq_true]
    intro x hx
    rw [← h] at hx
    rw [List.eq_of_mem_replicate hx]
    rfl
  · rw [decide_eq_false h, Bool.eq_false_iff]
    intro h'
    refine h (List.eq_replicate_iff.2 ⟨rfl, fun x hx => ?_⟩).symm
    have := List.all_eq_true.1 h' x hx
    simpa using this
theorem read_next {s k z : Nat} {bs : List Int} {cs : List PC} (hb : IsBytes bs) (hl : bs.length = z * (8 + s)) (hk : k < z) (hr : readL s z bs = cs ++ readL s (z - k) (bs.drop (k * (8 + s)))) (ht : cs.flatMap tellC = bs.take (k * (8 + s))) (hn : ¬ leNum ((bs.drop (k * (8 + s))).take 4) = 0) (c : PC) (hc : c = (leNum ((bs.drop (k * (8 + s))).take 4), leNum (((bs.drop (k * (8 + s))).drop 4).take 4), ((bs.drop (k * (8 + s))).drop 8).take s)) :
    readL s z bs = (cs ++ [c]) ++ readL s (z - (k + 1)) (bs.drop ((k + 1) * (8 + s))) ∧ (cs ++ [c]).flatMap tellC = bs.take ((k + 1) * (8 + s)) := by
  have hle : (k + 1) * (8 + s) ≤ z * (8 + s) := Nat.mul_le_mul (by omega) (Nat.le_refl _)
  have e : (k + 1) * (8 + s) = k * (8 + s) + (8 + s) := by rw [Nat.add_mul, Nat.one_mul]
  have e2 : z - k = (z - (k + 1)) + 1 := by omega
  constructor
  · rw [hr, e2]
    conv => lhs; arg 2; unfold readL
    rw [if_neg hn, ← hc, List.drop_drop, ← e, List.append_assoc]
    rfl
  · rw [List.flatMap_append, ht, e, List.take_add]
    congr 1
    rw [List.flatMap_cons, List.flatMap_nil, List.append_nil, hc]
    exact tell_read (hb.drop _) (by rw [List.length_drop]; omega)
/-- What was found is what is told. -/
theorem isBk_found {s k z : Nat} {bs : List Int} {cs : List PC} (hz : z ≤ 16) (hs : s ≤ 60000) (hl : bs.length = z * (8 + s)) (hk : cs.length = k) (hkz : k ≤ z) (hr : readL s z bs = cs) (ht : cs.flatMap tellC = bs.take (k * (8 + s))) :
    isBk bs z s = (cs.all (okC s) && allZ (bs.drop (k * (8 + s)))) := by
  have hle : k * (8 + s) ≤ z * (8 + s) := Nat.mul_le_mul hkz (Nat.le_refl _)
  have h1 : okZ (z : Int) (s : Int) = true := decide_eq_true ⟨⟨by omega, by omega⟩, by omega, by omega⟩
  have h2 : ((bs.length : Nat) : Int) = (z : Int) * (8 + (s : Int)) := by rw [hl]; push_cast; rfl
  have h3 : decide (((cs.length : Nat) : Int) ≤ (z : Int)) = true := decide_eq_true (by omega)
  have h4 : decide (codeL cs bs.length = bs) = allZ (bs.drop (k * (8 + s))) := by
    rw [allZ_is]
    unfold codeL
    rw [ht, List.length_take, Nat.min_eq_left (by omega), List.length_drop]
    refine decide_eq_decide.2 ⟨fun h => ?_, fun h => ?_⟩
    · have := congrArg (List.drop (k * (8 + s))) h
      rw [List.drop_left' (by rw [List.length_take]; omega)] at this
      exact this
    · rw [h, List.take_append_drop]
  unfold isBk okK
  rw [Int.toNat_natCast, Int.toNat_natCast, hr, h1, decide_eq_true h2, h3, h4]
  simp only [Bool.true_and]
#print axioms isBk_code
#print axioms code_isBk
end Go.Proofs.Ytgjffoeegnljlaa
