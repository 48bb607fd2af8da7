/- Plain facts about sealed blocks: heads, what is sealed, what is opened, and that these undo each other. No program is named here; no conditions but those that each line states. -/
import Derived.Test.YthhaeiafgloacaaDoorCBase
import Derived.Test.YthhaeiafgloacaaDoorLeSum
import Derived.Test.YthhaeiafgloacaaDoorLePad
import Derived.Test.YthhaeiafgloacaaDoorLeUnpad
namespace Go.Proofs.YthhaeiafgloacaaDoor
open Go.RowKit

/-- The head of a block. -/
def headL (boot seq : Int) : List Int := putL boot 4 ++ putL seq 8
theorem headL_length (boot seq : Int) : (headL boot seq).length = 12 := by simp [headL, length_putL]
theorem headL_bytes (boot seq : Int) : IsBytes (headL boot seq) := (putL_bytes _ _).append (putL_bytes _ _)
theorem headL_take (boot seq : Int) : (headL boot seq).take 4 = putL boot 4 := by rw [headL, List.take_append_of_le_length (by rw [length_putL]; omega), List.take_of_length_le (by rw [length_putL]; omega)]
theorem headL_drop (boot seq : Int) : (headL boot seq).drop 4 = putL seq 8 := by rw [headL, List.drop_append_of_le_length (by rw [length_putL]; omega), List.drop_of_length_le (by rw [length_putL]; omega)]; rfl
theorem headL_boot (boot seq : Int) (h : 0 ≤ boot ∧ boot < 4294967296) : leNum ((headL boot seq).take 4) = boot := by
  rw [headL_take, leNum_putL]
  omega
theorem headL_seq (boot seq : Int) (h : 0 ≤ seq ∧ seq < 18446744073709551616) : leNum ((headL boot seq).drop 4) = seq := by rw [headL_drop, leNum_all _ h.1 h.2]
theorem headL_inj (boot s t : Int) (hs : 0 ≤ s ∧ s < 18446744073709551616) (ht : 0 ≤ t ∧ t < 18446744073709551616) (h : headL boot s = headL boot t) : s = t := by
  rw [← headL_seq boot s hs, ← headL_seq boot t ht, h]

theorem fnv_word (zs : List Int) : 0 ≤ fnv zs ∧ fnv zs < 18446744073709551616 := fnvOf_word _ _ (by unfold Word fnvStart; omega)

/-- A padded text and its sum. -/
def bodyL (h p : List Int) : List Int := p ++ putL (fnv (h ++ p)) 8
theorem bodyL_length (h p : List Int) : (bodyL h p).length = p.length + 8 := by simp [bodyL, length_putL]
theorem bodyL_bytes (h p : List Int) (hp : IsBytes p) : IsBytes (bodyL h p) := hp.append (putL_bytes _ _)
theorem bodyL_take (h p : List Int) : (bodyL h p).take p.length = p := by rw [bodyL, List.take_append_of_le_length (Nat.le_refl _), List.take_of_length_le (Nat.le_refl _)]
theorem bodyL_drop (h p : List Int) : (bodyL h p).drop p.length = putL (fnv (h ++ p)) 8 := by rw [bodyL, List.drop_append_of_le_length (Nat.le_refl _), List.drop_of_length_le (Nat.le_refl _)]; rfl
theorem bodyL_sum (h p : List Int) : leNum ((bodyL h p).drop p.length) = fnv (h ++ p) := by
  have := fnv_word (h ++ p)
  rw [bodyL_drop, leNum_all _ this.1 this.2]

/-- What is sealed, in a block with room for m bytes. -/
def sealL (key : List Int) (boot seq : Int) (zs : List Int) (m : Nat) : List Int :=
  headL boot seq ++ xorL key (headL boot seq) 0 (bodyL (headL boot seq) (padL zs m))
theorem sealL_length (key : List Int) (boot seq : Int) (zs : List Int) (m : Nat) (h : zs.length ≤ m) : (sealL key boot seq zs m).length = m + 22 := by
  simp only [sealL, List.length_append, headL_length, xorL_length, bodyL_length, length_padL zs m h]
  omega
theorem sealL_bytes (key : List Int) (boot seq : Int) (zs : List Int) (m : Nat) (h : IsBytes zs) : IsBytes (sealL key boot seq zs m) :=
  (headL_bytes _ _).append (xorL_bytes _ _ _ _ (bodyL_bytes _ _ (padL_bytes _ _ h)))
theorem sealL_take (key : List Int) (boot seq : Int) (zs : List Int) (m : Nat) : (sealL key boot seq zs m).take 12 = headL boot seq := by
  rw [sealL, List.take_append_of_le_length (by rw [headL_length]; omega), List.take_of_length_le (by rw [headL_length]; omega)]
theorem sealL_drop (key : List Int) (boot seq : Int) (zs : List Int) (m : Nat) : (sealL key boot seq zs m).drop 12 = xorL key (headL boot seq) 0 (bodyL (headL boot seq) (padL zs m)) := by
  rw [sealL, List.drop_append_of_le_length (by rw [headL_length]; omega), List.drop_of_length_le (by rw [headL_length]; omega)]
  rfl

/-- What a block holds behind its head, the stream taken off. -/
def innerL (key b : List Int) : List Int := xorL key (b.take 12) 0 (b.drop 12)
theorem innerL_length (key b : List Int) : (innerL key b).length = b.length - 12 := by simp [innerL, xorL_length]
theorem innerL_bytes (key b : List Int) (h : IsBytes b) : IsBytes (innerL key b) := xorL_bytes _ _ _ _ (h.drop 12)
/-- The padded text of a block. -/
def textL (key b : List Int) : List Int := (innerL key b).take (b.length - 20)
/-- The sum of a block. -/
def tailL (key b : List Int) : List Int := (innerL key b).drop (b.length - 20)
theorem textL_length (key b : List Int) : (textL key b).length = b.length - 20 := by simp [textL, innerL_length]; omega
theorem tailL_length (key b : List Int) (h : 22 ≤ b.length) : (tailL key b).length = 8 := by simp [tailL, innerL_length]; omega
theorem textL_bytes (key b : List Int) (h : IsBytes b) : IsBytes (textL key b) := (innerL_bytes key b h).take _
theorem tailL_bytes (key b : List Int) (h : IsBytes b) : IsBytes (tailL key b) := (innerL_bytes key b h).drop _
/-- Whether the sum of a block is met. -/
def sumOk (key b : List Int) : Bool := decide (leNum (tailL key b) = fnv (b.take 12 ++ textL key b))
/-- What is opened. -/
def openL (key b : List Int) : Option (List Int) :=
  if b.length < 22 then none else if sumOk key b = true then unpadL (textL key b) ((b.length - 22 : Nat) : Int) else none

theorem unpadL_padL (zs : List Int) (m : Nat) (h : zs.length ≤ m) (hm : m ≤ 60000) : unpadL (padL zs m) (m : Int) = some zs := by
  have e : leNum ((padL zs m).take 2) = (zs.length : Int) := by rw [padL_take2, putL2_num _ (by omega)]
  have ez : allZ (((padL zs m).drop 2).drop zs.length) = true := by
    rw [padL_drop2, List.drop_append_of_le_length (Nat.le_refl _), List.drop_of_length_le (Nat.le_refl _)]
    simp [allZ]
  unfold unpadL
  rw [e, Int.toNat_natCast, if_pos ⟨by omega, by omega, by rw [length_padL zs m h]; omega, by omega, ez⟩, padL_row]

theorem innerL_sealL (key : List Int) (boot seq : Int) (zs : List Int) (m : Nat) (hz : IsBytes zs) : innerL key (sealL key boot seq zs m) = bodyL (headL boot seq) (padL zs m) := by
  rw [innerL, sealL_take, sealL_drop, xorL_twice _ _ _ _ (bodyL_bytes _ _ (padL_bytes _ _ hz))]
theorem textL_sealL (key : List Int) (boot seq : Int) (zs : List Int) (m : Nat) (hz : IsBytes zs) (h : zs.length ≤ m) : textL key (sealL key boot seq zs m) = padL zs m := by
  rw [textL, innerL_sealL _ _ _ _ _ hz, sealL_length _ _ _ _ _ h, show m + 22 - 20 = (padL zs m).length by rw [length_padL zs m h]; omega, bodyL_take]
theorem tailL_sealL (key : List Int) (boot seq : Int) (zs : List Int) (m : Nat) (hz : IsBytes zs) (h : zs.length ≤ m) : leNum (tailL key (sealL key boot seq zs m)) = fnv (headL boot seq ++ padL zs m) := by
  rw [tailL, innerL_sealL _ _ _ _ _ hz, sealL_length _ _ _ _ _ h, show m + 22 - 20 = (padL zs m).length by rw [length_padL zs m h]; omega, bodyL_sum]
theorem sumOk_sealL (key : List Int) (boot seq : Int) (zs : List Int) (m : Nat) (hz : IsBytes zs) (h : zs.length ≤ m) : sumOk key (sealL key boot seq zs m) = true := by
  unfold sumOk
  rw [decide_eq_true_eq, tailL_sealL _ _ _ _ _ hz h, textL_sealL _ _ _ _ _ hz h, sealL_take]
theorem openL_sealL (key : List Int) (boot seq : Int) (zs : List Int) (m : Nat) (hz : IsBytes zs) (h : zs.length ≤ m) (hm : m ≤ 60000) : openL key (sealL key boot seq zs m) = some zs := by
  unfold openL
  rw [sealL_length _ _ _ _ _ h, if_neg (by omega), if_pos (sumOk_sealL _ _ _ _ _ hz h), textL_sealL _ _ _ _ _ hz h, show m + 22 - 22 = m by omega, unpadL_padL _ _ h hm]

theorem sealL_inj (key : List Int) (boot seq : Int) (zs ys : List Int) (m : Nat) (hz : IsBytes zs) (hy : IsBytes ys) (h1 : zs.length ≤ m) (h2 : ys.length ≤ m) (hm : m ≤ 60000) (h : sealL key boot seq zs m = sealL key boot seq ys m) : zs = ys := by
  have e := openL_sealL key boot seq zs m hz h1 hm
  rw [h, openL_sealL key boot seq ys m hy h2 hm] at e
  exact (Option.some.inj e).symm
theorem sealL_seq (key : List Int) (boot s t : Int) (zs : List Int) (m : Nat) (hs : 0 ≤ s ∧ s < 18446744073709551616) (ht : 0 ≤ t ∧ t < 18446744073709551616) (h : sealL key boot s zs m = sealL key boot t zs m) : s = t := by
  refine headL_inj boot s t hs ht ?_
  rw [← sealL_take key boot s zs m, ← sealL_take key boot t zs m, h]
#print axioms openL_sealL
#print axioms sealL_inj
end Go.Proofs.YthhaeiafgloacaaDoor
