/- Plain facts about the stream of ChaCha20: its state, its blocks, rows of bytes sealed with it. No program is named here; no conditions but those that each line states. -/
import Derived.Test.YthhaeiafgloacaaDoorMem
import Derived.Test.YthhaeiafgloacaaDoorQArr
import Derived.Test.YthhaeiafgloacaaDoorBytes
namespace Go.Proofs.YthhaeiafgloacaaDoor
open Go.RowKit

/-- The number of four bytes at place i. -/
def word4 (zs : List Int) (i : Nat) : BitVec 32 := BitVec.ofNat 32 (leNum ((zs.drop (4 * i)).take 4)).toNat

theorem leNum4_lt (l : List Int) (h : IsBytes l) (hl : l.length ≤ 4) : 0 ≤ leNum l ∧ leNum l < 4294967296 := by
  have h1 := leNum_lt l h
  have h3 : (256 : Nat) ^ l.length ≤ 4294967296 := Nat.le_trans (Nat.pow_le_pow_right (by decide) hl) (by decide)
  have h4 : ((256 ^ l.length : Nat) : Int) = (256 : Int) ^ l.length := Int.natCast_pow 256 l.length
  omega
theorem word4_num (zs : List Int) (h : IsBytes zs) (i : Nat) : leNum ((zs.drop (4 * i)).take 4) = ((word4 zs i).toNat : Int) := by
  have := leNum4_lt _ ((h.drop (4 * i)).take 4) (by simp; omega)
  rw [word4, BitVec.toNat_ofNat]
  omega
theorem take48 (l : List Int) : (l.take 4).take 8 = l.take 4 := by rw [List.take_take]; rfl

/-- The state ahead of its turns. -/
def stW (key nonce : List Int) (c : BitVec 32) : Ws := fun j =>
  if j = 0 then 1634760805 else if j = 1 then 857760878 else if j = 2 then 2036477234 else if j = 3 then 1797285236
  else if j < 12 then word4 key (j - 4) else if j = 12 then c else if j < 16 then word4 nonce (j - 13) else 0

theorem stW_next (key nonce : List Int) (c d : BitVec 32) : upd (stW key nonce c) 12 d = stW key nonce d := by
  funext j
  unfold upd stW
  by_cases h : j = 12
  · subst h; rfl
  · simp [h]

def turnN (xs : Ws) : Nat → Ws
  | 0 => xs
  | n + 1 => dbl (turnN xs n)
/-- The numbers of a block. -/
def blkW (xs : Ws) : Ws := fun j => turnN xs 10 j + xs j
/-- A byte of a block. -/
def kb (xs : Ws) (i : Nat) : Int := byteAt ((blkW xs (i / 4)).toNat : Int) (i % 4)
theorem kb_lt (xs : Ws) (i : Nat) : 0 ≤ kb xs i ∧ kb xs i < 256 := byteAt_lt _ _

def zW : Ws := fun _ => 0

/-- A block. -/
def blkL (xs : Ws) : List Int := rowL (kb xs) 64
theorem blkL_length (xs : Ws) : (blkL xs).length = 64 := rowL_length _ _
theorem blkL_bytes (xs : Ws) : IsBytes (blkL xs) := rowL_bytes _ _ fun i _ => kb_lt xs i

/-- A block of which k numbers are written. -/
def preL (xs : Ws) (k : Nat) : List Int := rowL (fun i => if i < 4 * k then kb xs i else 0) 64
theorem preL_length (xs : Ws) (k : Nat) : (preL xs k).length = 64 := rowL_length _ _
theorem preL_zero (xs : Ws) : preL xs 0 = zL 64 := rowL_congr fun i _ => by simp
theorem preL_all (xs : Ws) : preL xs 16 = blkL xs := rowL_congr fun i hi => by simp [hi]
theorem preL_get (xs : Ws) (k i : Nat) (h : i < 64) : (preL xs k)[i]? = some (if i < 4 * k then kb xs i else 0) := rowL_get _ _ _ h
theorem preL_step (xs : Ws) (k : Nat) (hk : k < 16) : splice (preL xs k) (4 * k) ((putL ((blkW xs k).toNat : Int) 4).take 4) = preL xs (k + 1) := by
  rw [List.take_of_length_le (by rw [length_putL]; omega)]
  have hl : (putL ((blkW xs k).toNat : Int) 4).length = 4 := length_putL _ _
  have hp := preL_length xs k
  have ht : (List.take (4 * k) (preL xs k)).length = 4 * k := by simp [hp]; omega
  unfold splice
  apply List.ext_getElem?
  intro i
  rcases Nat.lt_or_ge i 64 with hi | hi
  · rw [preL_get _ _ _ hi]
    rcases Nat.lt_or_ge i (4 * k) with h1 | h1
    · rw [List.getElem?_append_left (by omega), List.getElem?_take, if_pos h1, preL_get _ _ _ hi]
      simp [h1, show i < 4 * (k + 1) by omega]
    · rw [List.getElem?_append_right (by omega), ht]
      rcases Nat.lt_or_ge i (4 * k + 4) with h2 | h2
      · rw [List.getElem?_append_left (by omega)]
        have : (putL ((blkW xs k).toNat : Int) 4)[i - 4 * k]? = some (byteAt ((blkW xs k).toNat : Int) (i - 4 * k)) := by simp [putL, show i - 4 * k < 4 by omega]
        rw [this, if_pos (by omega)]
        unfold kb
        rw [show i / 4 = k by omega, show i % 4 = i - 4 * k by omega]
      · rw [List.getElem?_append_right (by omega), List.getElem?_drop, hl, show 4 * k + 4 + (i - 4 * k - 4) = i by omega, preL_get _ _ _ hi]
        simp [show ¬ i < 4 * k by omega, show ¬ i < 4 * (k + 1) by omega]
  · rw [List.getElem?_eq_none (by simp [hp, hl]; omega), List.getElem?_eq_none (by rw [preL_length]; omega)]

/-- The byte of the stream at place i from the block of c on. -/
def ks (key nonce : List Int) (c : BitVec 32) (i : Nat) : Int := kb (stW key nonce (c + BitVec.ofNat 32 (i / 64))) (i % 64)
theorem ks_lt (key nonce : List Int) (c : BitVec 32) (i : Nat) : 0 ≤ ks key nonce c i ∧ ks key nonce c i < 256 := kb_lt _ _
theorem ks_next (key nonce : List Int) (c : BitVec 32) (m i : Nat) : ks key nonce (c + BitVec.ofNat 32 m) i = ks key nonce c (64 * m + i) := by
  unfold ks
  rw [show (64 * m + i) / 64 = m + i / 64 by omega, show (64 * m + i) % 64 = i % 64 by omega, BitVec.add_assoc, ← BitVec.ofNat_add]
theorem ks_first (key nonce : List Int) (c : BitVec 32) (i : Nat) (h : i < 64) : ks key nonce c i = kb (stW key nonce c) i := by
  unfold ks
  rw [show i / 64 = 0 by omega, show i % 64 = i by omega]
  simp

/-- What sealing makes of a row. -/
def xorL (key nonce : List Int) (c : BitVec 32) (zs : List Int) : List Int := rowL (fun i => xr (zs.getD i 0) (ks key nonce c i)) zs.length
theorem xorL_length (key nonce : List Int) (c : BitVec 32) (zs : List Int) : (xorL key nonce c zs).length = zs.length := rowL_length _ _
theorem xorL_getD (key nonce : List Int) (c : BitVec 32) (zs : List Int) (i : Nat) (h : i < zs.length) : (xorL key nonce c zs).getD i 0 = xr (zs.getD i 0) (ks key nonce c i) := rowL_getD _ _ _ h
theorem xorL_bytes (key nonce : List Int) (c : BitVec 32) (zs : List Int) (h : IsBytes zs) : IsBytes (xorL key nonce c zs) := rowL_bytes _ _ fun i _ => xr_lt _ _ (h.getD i) (ks_lt _ _ _ _)
theorem xorL_twice (key nonce : List Int) (c : BitVec 32) (zs : List Int) (h : IsBytes zs) : xorL key nonce c (xorL key nonce c zs) = zs := by
  symm
  refine rowL_of zs _ _ (xorL_length _ _ _ _).symm fun i hi => ?_
  rw [xorL_length] at hi
  rw [xorL_getD _ _ _ _ _ hi, xr_back _ _ (h.getD i)]
theorem xorL_take (key nonce : List Int) (c : BitVec 32) (zs : List Int) (k : Nat) (hk : k ≤ zs.length) : xorL key nonce c (zs.take k) = (xorL key nonce c zs).take k := by
  symm
  refine rowL_of _ _ _ (by simp [xorL_length]) fun i hi => ?_
  have hi' : i < k := by simp at hi; omega
  have e1 : ((xorL key nonce c zs).take k).getD i 0 = (xorL key nonce c zs).getD i 0 := by simp [List.getD, hi']
  have e2 : (zs.take k).getD i 0 = zs.getD i 0 := by simp [List.getD, hi']
  rw [e1, e2, xorL_getD _ _ _ _ _ (by omega)]
theorem xorL_drop (key nonce : List Int) (c : BitVec 32) (zs : List Int) (m : Nat) : xorL key nonce (c + BitVec.ofNat 32 m) (zs.drop (64 * m)) = (xorL key nonce c zs).drop (64 * m) := by
  symm
  refine rowL_of _ _ _ (by simp [xorL_length]) fun i hi => ?_
  have e1 : ((xorL key nonce c zs).drop (64 * m)).getD i 0 = (xorL key nonce c zs).getD (64 * m + i) 0 := by simp [List.getD]
  have e2 : (zs.drop (64 * m)).getD i 0 = zs.getD (64 * m + i) 0 := by simp [List.getD]
  have hi' : 64 * m + i < zs.length := by simp at hi; omega
  rw [e1, e2, xorL_getD _ _ _ _ _ hi', ks_next]

/-- Whether the blocks from c on suffice for n bytes. -/
def fits (c : BitVec 32) (n : Nat) : Bool := decide (n ≤ 64 * (4294967296 - c.toNat))

#print axioms preL_step
#print axioms xorL_drop
end Go.Proofs.YthhaeiafgloacaaDoor
