
/- Several texts in one, in the order in which they lean on each other; what each says stands at its head. No conditions but those that each line states. -/
import Derived.Test.YtlfcejfpdgdnkaaDoorXBase
import Derived.Test.YtlfcejfpdgdnkaaDoorXQuar
import Derived.Test.YtlfcejfpdgdnkaaDoorXLe
import Derived.RegionTactic
import Derived.ChangeAlike
import Derived.BigRegion
/- Plain facts about the stream of ChaCha20: its state, its blocks, rows of bytes sealed with it. No program is named here; no conditions but those that each line states. -/
namespace Go.Proofs.YtlfcejfpdgdnkaaDoor
open Go.RowKit
set_option maxRecDepth 20000

/-- The number of four bytes at place i. -/
def word4 (zs : List Int) (i : Nat) : BitVec 32 := BitVec.ofNat 32 (leNum ((zs.drop (4 * i)).take 4)).toNat

theorem leNum4_lt (l : List Int) (h : IsBytes l) (hl : l.length ≤ 4) : 0 ≤ leNum l ∧ leNum l < 4294967296 := by
  have h1 := leNum_lt l h
  have h3 : (256 : Nat) ^ l.length ≤ 4294967296 := Nat.le_trans (Nat.pow_le_pow_right (by decide) hl) (by decide)
  have h4 : ((256 ^ l.length : Nat) : Int) = (256 : Int) ^ l.length := Int.natCast_pow 256 l.length
  omega
theorem word4_num (zs : List Int) (h : IsBytes zs) (i : Nat) : leNum ((zs.drop (4 * i)).take 4) = ((word4 zs i).toNat : Int) := by
  have := leNum4_lt _ ((h.drop (4 * i)).take 4) (by simp; omega)
  rw [word4, BitVec.toNat_ofNat]
  omega
theorem take48 (l : List Int) : (l.take 4).take 8 = l.take 4 := by rw [List.take_take]; rfl

/-- The state ahead of its turns. -/
def stW (key nonce : List Int) (c : BitVec 32) : Ws := fun j =>
  if j = 0 then 1634760805 else if j = 1 then 857760878 else if j = 2 then 2036477234 else if j = 3 then 1797285236
  else if j < 12 then word4 key (j - 4) else if j = 12 then c else if j < 16 then word4 nonce (j - 13) else 0

theorem stW_next (key nonce : List Int) (c d : BitVec 32) : upd (stW key nonce c) 12 d = stW key nonce d := by
  funext j
  unfold upd stW
  by_cases h : j = 12
  · subst h; rfl
  · simp [h]

def turnN (xs : Ws) : Nat → Ws
  | 0 => xs
  | n + 1 => dbl (turnN xs n)
/-- The numbers of a block. -/
def blkW (xs : Ws) : Ws := fun j => turnN xs 10 j + xs j
/-- A byte of a block. -/
def kb (xs : Ws) (i : Nat) : Int := byteAt ((blkW xs (i / 4)).toNat : Int) (i % 4)
theorem kb_lt (xs : Ws) (i : Nat) : 0 ≤ kb xs i ∧ kb xs i < 256 := byteAt_lt _ _

def zW : Ws := fun _ => 0

/-- A block. -/
def blkL (xs : Ws) : List Int := rowL (kb xs) 64
theorem blkL_length (xs : Ws) : (blkL xs).length = 64 := rowL_length _ _
theorem blkL_bytes (xs : Ws) : IsBytes (blkL xs) := rowL_bytes _ _ fun i _ => kb_lt xs i

/-- A block of which k numbers are written. -/
def preL (xs : Ws) (k : Nat) : List Int := rowL (fun i => if i < 4 * k then kb xs i else 0) 64
theorem preL_length (xs : Ws) (k : Nat) : (preL xs k).length = 64 := rowL_length _ _
theorem preL_zero (xs : Ws) : preL xs 0 = zL 64 := rowL_congr fun i _ => by simp
theorem preL_all (xs : Ws) : preL xs 16 = blkL xs := rowL_congr fun i hi => by simp [hi]
theorem preL_get (xs : Ws) (k i : Nat) (h : i < 64) : (preL xs k)[i]? = some (if i < 4 * k then kb xs i else 0) := rowL_get _ _ _ h
theorem preL_step (xs : Ws) (k : Nat) (hk : k < 16) : splice (preL xs k) (4 * k) ((putL ((blkW xs k).toNat : Int) 4).take 4) = preL xs (k + 1) := by
  rw [List.take_of_length_le (by rw [length_putL]; omega)]
  have hl : (putL ((blkW xs k).toNat : Int) 4).length = 4 := length_putL _ _
  have hp := preL_length xs k
  have ht : (List.take (4 * k) (preL xs k)).length = 4 * k := by simp [hp]; omega
  unfold splice
  apply List.ext_getElem?
  intro i
  rcases Nat.lt_or_ge i 64 with hi | hi
  · rw [preL_get _ _ _ hi]
    rcases Nat.lt_or_ge i (4 * k) with h1 | h1
    · rw [List.getElem?_append_left (by omega), List.getElem?_take, if_pos h1, preL_get _ _ _ hi]
      simp [h1, show i < 4 * (k + 1) by omega]
    · rw [List.getElem?_append_right (by omega), ht]
      rcases Nat.lt_or_ge i (4 * k + 4) with h2 | h2
      · rw [List.getElem?_append_left (by omega)]
        have : (putL ((blkW xs k).toNat : Int) 4)[i - 4 * k]? = some (byteAt ((blkW xs k).toNat : Int) (i - 4 * k)) := by simp [putL, show i - 4 * k < 4 by omega]
        rw [this, if_pos (by omega)]
        unfold kb
        rw [show i / 4 = k by omega, show i % 4 = i - 4 * k by omega]
      · rw [List.getElem?_append_right (by omega), List.getElem?_drop, hl, show 4 * k + 4 + (i - 4 * k - 4) = i by omega, preL_get _ _ _ hi]
        simp [show ¬ i < 4 * k by omega, show ¬ i < 4 * (k + 1) by omega]
  · rw [List.getElem?_eq_none (by simp [hp, hl]; omega), List.getElem?_eq_none (by rw [preL_length]; omega)]

/-- The byte of the stream at place i from the block of c on. -/
def ks (key nonce : List Int) (c : BitVec 32) (i : Nat) : Int := kb (stW key nonce (c + BitVec.ofNat 32 (i / 64))) (i % 64)
theorem ks_lt (key nonce : List Int) (c : BitVec 32) (i : Nat) : 0 ≤ ks key nonce c i ∧ ks key nonce c i < 256 := kb_lt _ _
theorem ks_next (key nonce : List Int) (c : BitVec 32) (m i : Nat) : ks key nonce (c + BitVec.ofNat 32 m) i = ks key nonce c (64 * m + i) := by
  unfold ks
  rw [show (64 * m + i) / 64 = m + i / 64 by omega, show (64 * m + i) % 64 = i % 64 by omega, BitVec.add_assoc, ← BitVec.ofNat_add]
theorem ks_first (key nonce : List Int) (c : BitVec 32) (i : Nat) (h : i < 64) : ks key nonce c i = kb (stW key nonce c) i := by
  unfold ks
  rw [show i / 64 = 0 by omega, show i % 64 = i by omega]
  simp

/-- What sealing makes of a row. -/
def xorL (key nonce : List Int) (c : BitVec 32) (zs : List Int) : List Int := rowL (fun i => xr (zs.getD i 0) (ks key nonce c i)) zs.length
theorem xorL_length (key nonce : List Int) (c : BitVec 32) (zs : List Int) : (xorL key nonce c zs).length = zs.length := rowL_length _ _
theorem xorL_getD (key nonce : List Int) (c : BitVec 32) (zs : List Int) (i : Nat) (h : i < zs.length) : (xorL key nonce c zs).getD i 0 = xr (zs.getD i 0) (ks key nonce c i) := rowL_getD _ _ _ h
theorem xorL_bytes (key nonce : List Int) (c : BitVec 32) (zs : List Int) (h : IsBytes zs) : IsBytes (xorL key nonce c zs) := rowL_bytes _ _ fun i _ => xr_lt _ _ (h.getD i) (ks_lt _ _ _ _)
theorem xorL_twice (key nonce : List Int) (c : BitVec 32) (zs : List Int) (h : IsBytes zs) : xorL key nonce c (xorL key nonce c zs) = zs := by
  symm
  refine rowL_of zs _ _ (xorL_length _ _ _ _).symm fun i hi => ?_
  rw [xorL_length] at hi
  rw [xorL_getD _ _ _ _ _ hi, xr_back _ _ (h.getD i)]
theorem xorL_take (key nonce : List Int) (c : BitVec 32) (zs : List Int) (k : Nat) (hk : k ≤ zs.length) : xorL key nonce c (zs.take k) = (xorL key nonce c zs).take k := by
  symm
  refine rowL_of _ _ _ (by simp [xorL_length]) fun i hi => ?_
  have hi' : i < k := by simp at hi; omega
  have e1 : ((xorL key nonce c zs).take k).getD i 0 = (xorL key nonce c zs).getD i 0 := by simp [List.getD, hi']
  have e2 : (zs.take k).getD i 0 = zs.getD i 0 := by simp [List.getD, hi']
  rw [e1, e2, xorL_getD _ _ _ _ _ (by omega)]
theorem xorL_drop (key nonce : List Int) (c : BitVec 32) (zs : List Int) (m : Nat) : xorL key nonce (c + BitVec.ofNat 32 m) (zs.drop (64 * m)) = (xorL key nonce c zs).drop (64 * m) := by
  symm
  refine rowL_of _ _ _ (by simp [xorL_length]) fun i hi => ?_
  have e1 : ((xorL key nonce c zs).drop (64 * m)).getD i 0 = (xorL key nonce c zs).getD (64 * m + i) 0 := by simp [List.getD]
  have e2 : (zs.drop (64 * m)).getD i 0 = zs.getD (64 * m + i) 0 := by simp [List.getD]
  have hi' : 64 * m + i < zs.length := by simp at hi; omega
  rw [e1, e2, xorL_getD _ _ _ _ _ hi', ks_next]

/-- Whether the blocks from c on suffice for n bytes. -/
def fits (c : BitVec 32) (n : Nat) : Bool := decide (n ≤ 64 * (4294967296 - c.toNat))

#print axioms preL_step
#print axioms xorL_drop
end Go.Proofs.YtlfcejfpdgdnkaaDoor

/- Words of 32 bits: their bounds, their lowest bits. No program is named here; no conditions but those that each line states. -/
namespace Go.Proofs.YtlfcejfpdgdnkaaDoor
open Go.RowKit
set_option maxRecDepth 20000

theorem bv_of (a : Int) (h : 0 ≤ a ∧ a < 4294967296) : ∃ x : BitVec 32, a = (x.toNat : Int) := ⟨BitVec.ofNat 32 a.toNat, by rw [BitVec.toNat_ofNat]; omega⟩
theorem u32_mask (x : BitVec 32) (k : Nat) (hk : k < 32) (m : Int) (hm : m = 2 ^ k - 1) : bits .and .u32 (x.toNat : Int) m = ((x.toNat % 2 ^ k : Nat) : Int) := by
  have hp : (2 : Nat) ^ k < 2 ^ 32 := Nat.pow_lt_pow_right (by decide) hk
  have hp0 : 0 < (2 : Nat) ^ k := Nat.pow_pos (by decide)
  have hc : ((2 ^ k : Nat) : Int) = (2 : Int) ^ k := Int.natCast_pow 2 k
  have hm' : m = ((2 ^ k - 1 : Nat) : Int) := by omega
  rw [hm', u32_and_nat _ _ x.isLt (by omega), Nat.and_two_pow_sub_one_eq_mod]

#print axioms u32_mask
end Go.Proofs.YtlfcejfpdgdnkaaDoor

/- What a call of chac.putWords does: for every row of words inside a state and every row of bytes that tells them; only these words are turned. -/
namespace Go.Proofs.YtlfcejfpdgdnkaaDoor
open Go.RowKit
set_option maxRecDepth 20000

/-- A state with n words from 'off' on taken out of bytes. -/
def putW (xs : Ws) (off : Nat) (zs : List Int) (n : Nat) : Ws := fun j => if off ≤ j ∧ j < off + n then word4 zs (j - off) else xs j
theorem putW_zero (xs : Ws) (off : Nat) (zs : List Int) : putW xs off zs 0 = xs := by
  funext j
  simp [putW, show ¬ (off ≤ j ∧ j < off) by omega]
theorem putW_succ (xs : Ws) (off : Nat) (zs : List Int) (n : Nat) : upd (putW xs off zs n) (off + n) (word4 zs n) = putW xs off zs (n + 1) := by
  funext j
  unfold upd putW
  by_cases h : j = off + n
  · subst h
    rw [if_pos rfl, if_pos (by omega), show off + n - off = n by omega]
  · rw [if_neg h]
    by_cases h2 : off ≤ j ∧ j < off + n
    · rw [if_pos h2, if_pos (by omega)]
    · rw [if_neg h2, if_neg (by omega)]

/-- All but block g is as it was, draws aside. -/
theorem OnlyAt.trans {g : Nat} {a b c : World} (h : OnlyAt g a b) (k : OnlyAt g b c) : OnlyAt g a c :=
  ⟨k.os.trans h.os, k.tape.trans h.tape, k.output.trans h.output, k.size.trans h.size, fun j hj => (k.block j hj).trans (h.block j hj)⟩
theorem OnlyAt.refl (g : Nat) (w : World) : OnlyAt g w w := ⟨rfl, rfl, rfl, rfl, fun _ _ => rfl⟩
theorem OnlyAt.setCell' (g i : Nat) (w : World) (v : Value) : OnlyAt g w (w.setCell ⟨g, i, none⟩ v) :=
  ⟨rfl, rfl, rfl, by simp [World.setCell], fun k hk => heap_setCell_other w _ _ _ hk⟩

set_option maxHeartbeats 400000 in
theorem putWords_any (g off n cap kg len : Nat) (xs : Ws) (zs : List Int) (E E' : TypeId) (w : World) (hx : ArrU E w g xs) (hz : OwnB E' w kg zs) (hb : IsBytes zs) (hl : zs.length = len) (hn : 4 * n ≤ len) (hlen : len ≤ 1000) (hoff : off + n ≤ 16) (hne : kg ≠ g) :
    Calls Tryd.prog 60 #[.slice (some ⟨g, off, none⟩) n cap, .slice (some ⟨kg, 0, none⟩) len len] w fun e w' => e = .returned (.tuple #[]) ∧ ArrU E w' g (putW xs off zs n) ∧ OnlyAt g w w' := by
  go_enter Tryd.func60, Tryd.ntmps60
  go_wp2_with fail
  go_loopw [7] (fun i wr => ∃ k : Nat, k ≤ n ∧ i = .int .i64 k ∧ ArrU E wr g (putW xs off zs k) ∧ OnlyAt g w wr) (fun i _ => n - (intOf i).toNat)
  case atStart => exact ⟨0, Nat.zero_le _, rfl, by rw [putW_zero]; exact hx, OnlyAt.refl _ _⟩
  case round =>
    obtain ⟨k, hk, rfl, ha, ho⟩ := hrel
    by_cases hlt : k < n
    · have hz' := (ho.own hz hne).bs hb len hl (by omega)
      have hcut := run_cut_mid (P := Tryd.prog) Tryd.underlying36 Tryd.size_u8 (some ⟨kg, 0, none⟩) len len .i64 .i64 ((k : Int) * 4) (((k : Int) + 1) * 4) (4 * k) (4 * k + 4) (by omega) (by omega) (by omega) (by omega)
      rw [show 4 * k + 4 - 4 * k = 4 by omega] at hcut
      have hbs := (hz'.cut (4 * k) (by omega)).taken 4 (by omega)
      have hnum := word4_num zs hb k
      have hu := u32_lt (word4 zs k)
      have HG := get_any wr hbs
      rw [take48, hnum] at HG
      have hsl : len - 4 * k ≤ 1000 := by omega
      have hcell := ha.cell (off + k) (by omega)
      have hfro := ha.frozen (off + k)
      have ha' := ha.set (off + k) (word4 zs k)
      rw [putW_succ] at ha'
      have ho' := ho.trans (OnlyAt.setCell' g (off + k) wr (.int .u32 ((word4 zs k).toNat : Int)))
      clear hz' hbs hnum ha ho
      generalize word4 zs k = X at *
      generalize putW xs off zs k off = Y at *
      generalize cutA (some ⟨kg, 0, none⟩) len (4 * k) = A at *
      go_wp2_with fail
      refine HG.mono ?_
      rintro e w1 ⟨rfl, rfl⟩
      go_wp2_with fail
      go_roundw
      case rel => exact ⟨k + 1, by omega, by go_num, ha', ho'⟩
      case measure => simp [intOf]; omega
    · obtain rfl : k = n := by omega
      go_wp2_with fail
      refine bodyPost_end (results_none rfl _ _ _) rfl ?_
      exact ⟨rfl, ha, ho⟩
#print axioms putWords_any
end Go.Proofs.YtlfcejfpdgdnkaaDoor

/- What a call of chac.stateOf does: for every key, nonce and counter; nothing that was there is turned. -/
namespace Go.Proofs.YtlfcejfpdgdnkaaDoor
open Go.RowKit
set_option maxRecDepth 20000

theorem info_b32 : (Tryd.prog.info? 29).map (·.size) = some 32 := by kernel_rfl
theorem info_b12 : (Tryd.prog.info? 40).map (·.size) = some 12 := by kernel_rfl
theorem info_b64 : (Tryd.prog.info? 87).map (·.size) = some 64 := by kernel_rfl

theorem stW_put (key nonce : List Int) (c : BitVec 32) (xs : Ws) (h0 : xs 0 = 1634760805) (h1 : xs 1 = 857760878) (h2 : xs 2 = 2036477234) (h3 : xs 3 = 1797285236) (hc : xs 12 = c) (hf : ∀ j, 16 ≤ j → xs j = 0) :
    putW (putW xs 4 key 8) 13 nonce 3 = stW key nonce c := by
  funext j
  unfold putW stW
  by_cases e0 : j = 0
  · subst e0; simp [h0]
  by_cases e1 : j = 1
  · subst e1; simp [h1]
  by_cases e2 : j = 2
  · subst e2; simp [h2]
  by_cases e3 : j = 3
  · subst e3; simp [h3]
  simp only [e0, e1, e2, e3, if_false]
  by_cases e4 : j < 12
  · rw [if_pos e4, if_neg (by omega), if_pos (by omega)]
  · rw [if_neg e4]
    by_cases e5 : j = 12
    · subst e5; simp [hc]
    · rw [if_neg e5]
      by_cases e6 : j < 16
      · rw [if_pos e6, if_pos (by omega)]
      · rw [if_neg e6, if_neg (by omega), if_neg (by omega), hf j (by omega)]

def preW (c : BitVec 32) : Ws := fun j => if j = 0 then 1634760805 else if j = 1 then 857760878 else if j = 2 then 2036477234 else if j = 3 then 1797285236 else if j = 12 then c else 0

theorem arrV_preW (c : BitVec 32) : #[Value.int .u32 1634760805, .int .u32 857760878, .int .u32 2036477234, .int .u32 1797285236, .int .u32 0, .int .u32 0, .int .u32 0, .int .u32 0, .int .u32 0, .int .u32 0, .int .u32 0, .int .u32 0, .int .u32 (c.toNat : Int), .int .u32 0, .int .u32 0, .int .u32 0] = arrV (preW c) := rfl

/-- The state of chac.stateOf: key, nonce, what it answers, the words. -/
structure SS (w W : World) (key nonce : List Int) (xs : Ws) : Prop where
  kk : OwnB 29 W w.heap.size key
  nn : OwnB 40 W (w.heap.size + 1) nonce
  out : ArrU 90 W (w.heap.size + 2) (fun _ => 0)
  st : ArrU 90 W (w.heap.size + 3) xs
  bel : Below w.heap.size w W
theorem SS.drew {w W : World} {key nonce : List Int} {xs : Ws} (h : SS w W key nonce xs) : SS w W.drew key nonce xs := ⟨h.kk, h.nn, h.out, h.st, h.bel.drew⟩
theorem SS.only {w W W' : World} {key nonce : List Int} {xs ys : Ws} (h : SS w W key nonce xs) (ho : OnlyAt (w.heap.size + 3) W W') (hy : ArrU 90 W' (w.heap.size + 3) ys) : SS w W' key nonce ys :=
  ⟨ho.own h.kk (by omega), ho.own h.nn (by omega), h.out.other (ho.block _ (by omega)), hy, ho.below h.bel (by omega)⟩
theorem SS.start (w : World) (key nonce : List Int) (xs : Ws) : SS w ((((w.alloc (Obj.cells (bV key) 29)).alloc (Obj.cells (bV nonce) 40)).alloc (Obj.cells (arrV (fun _ => 0)) 90)).alloc (Obj.cells (arrV xs) 90)) key nonce xs := by
  have n1 := heap_alloc_new w (Obj.cells (bV key) 29)
  have n2 := heap_alloc_new (w.alloc (Obj.cells (bV key) 29)) (Obj.cells (bV nonce) 40)
  have n3 := heap_alloc_new ((w.alloc (Obj.cells (bV key) 29)).alloc (Obj.cells (bV nonce) 40)) (Obj.cells (arrV (fun _ => 0)) 90)
  have n4 := heap_alloc_new (((w.alloc (Obj.cells (bV key) 29)).alloc (Obj.cells (bV nonce) 40)).alloc (Obj.cells (arrV (fun _ => 0)) 90)) (Obj.cells (arrV xs) 90)
  simp only [size_alloc] at n2 n3 n4
  exact ⟨block_alloc (block_alloc (block_alloc n1 _) _) _, block_alloc (block_alloc n2 _) _, block_alloc n3 _, n4, below_alloc (below_alloc (below_alloc (below_alloc (Below.refl _ _) _) _) _) _⟩

theorem stateOf_any (key nonce : List Int) (c : BitVec 32) (w : World) (hk : IsBytes key) (hkl : key.length = 32) (hn : IsBytes nonce) (hnl : nonce.length = 12) :
    Calls Tryd.prog 55 #[.agg (bV key), .agg (bV nonce), .int .u32 (c.toNat : Int)] w fun e w' => e = .returned (.agg (arrV (stW key nonce c))) ∧ Below w.heap.size w w' := by
  have hS := SS.start w key nonce (preW c)
  go_enter Tryd.func55, Tryd.ntmps55
  go_wp2_with fail
  rw [arrV_preW, show #[Value.int IntKind.u32 0, Value.int IntKind.u32 0, Value.int IntKind.u32 0, Value.int IntKind.u32 0, Value.int IntKind.u32 0, Value.int IntKind.u32 0, Value.int IntKind.u32 0, Value.int IntKind.u32 0, Value.int IntKind.u32 0, Value.int IntKind.u32 0, Value.int IntKind.u32 0, Value.int IntKind.u32 0, Value.int IntKind.u32 0, Value.int IntKind.u32 0, Value.int IntKind.u32 0, Value.int IntKind.u32 0] = arrV (fun _ => 0) from rfl]
  generalize ((((w.alloc (Obj.cells (bV key) 29)).alloc (Obj.cells (bV nonce) 40)).alloc (Obj.cells (arrV (fun _ => 0)) 90)).alloc (Obj.cells (arrV (preW c)) 90)) = W at *
  refine wp_region_ord 1000 [0, 1, 2] (fun _ => True) (fun _ => True) (by kernel_rfl) (by kernel_rfl) (by kernel_rfl) trivial trivial (fun _ _ => ?_)
  replace hS := hS.drew
  generalize W.drew = W1 at *
  repeat' (refine wpOrd_quiet (v := ?_) rfl rfl (fun _ _ _ h => h) (by rfl) ?_ ?_
           rotate_left
           · (intro w' _ _; go_simp; try rfl)
           simp only [Act.put, List.setIfInBounds_toArray, List.set_cons_zero, List.set_cons_succ])
  refine wpOrd_step rfl rfl (by rfl) (fun K' hK => ?_)
  go_simp
  refine (putWords_any (w.heap.size + 3) 4 8 12 w.heap.size 32 (preW c) key 90 29 W1 hS.st hS.kk hk hkl (by decide) (by decide) (by decide) (by omega)).mono ?_
  rintro e w2 ⟨rfl, ha2, ho2⟩
  replace hS := hS.only ho2 ha2
  clear ha2 ho2
  refine hK.out _ _ trivial (fun h => absurd h (by decide)) (fun _ => ?_)
  clear hK K'
  try simp only [Act.put, List.setIfInBounds_toArray, List.set_cons_zero, List.set_cons_succ]
  refine wpOrd_nil ?_
  go_wp2_with fail
  refine wp_region_ord 1000 [0, 1, 2] (fun _ => True) (fun _ => True) (by kernel_rfl) (by kernel_rfl) (by kernel_rfl) trivial trivial (fun _ _ => ?_)
  replace hS := hS.drew
  generalize w2.drew = W3 at *
  repeat' (refine wpOrd_quiet (v := ?_) rfl rfl (fun _ _ _ h => h) (by rfl) ?_ ?_
           rotate_left
           · (intro w' _ _; go_simp; try rfl)
           simp only [Act.put, List.setIfInBounds_toArray, List.set_cons_zero, List.set_cons_succ])
  refine wpOrd_step rfl rfl (by rfl) (fun K' hK => ?_)
  go_simp
  refine (putWords_any (w.heap.size + 3) 13 3 3 (w.heap.size + 1) 12 (putW (preW c) 4 key 8) nonce 90 40 W3 hS.st hS.nn hn hnl (by decide) (by decide) (by decide) (by omega)).mono ?_
  rintro e w4 ⟨rfl, ha2, ho2⟩
  replace hS := hS.only ho2 ha2
  clear ha2 ho2
  rw [stW_put key nonce c (preW c) rfl rfl rfl rfl rfl (fun j hj => by simp [preW, show j ≠ 0 by omega, show j ≠ 1 by omega, show j ≠ 2 by omega, show j ≠ 3 by omega, show j ≠ 12 by omega])] at hS
  refine hK.out _ _ trivial (fun h => absurd h (by decide)) (fun _ => ?_)
  clear hK K'
  try simp only [Act.put, List.setIfInBounds_toArray, List.set_cons_zero, List.set_cons_succ]
  refine wpOrd_nil ?_
  have hz := hS.out
  have ha := hS.st
  go_wp2_with (first
    | (refine wpList_load_row rfl _ _ rfl _ rfl _ _ _ _ ha Tryd.underlying90 rfl (by rw [arrV_size, info16]) ?_)
    | (refine wpList_store_row rfl _ _ _ rfl _ _ rfl rfl _ _ hz (by rw [arrV_size, info16]) (by rw [arrV_size, arrV_size]) (arrV_one _) ?_))
  refine bodyPost_ret (results_cell_row rfl _ _ _ _ _ _ _ rfl (hz.setRow _) Tryd.underlying90 rfl (by rw [arrV_size, info16])) rfl ?_
  exact ⟨rfl, Below.setRow hS.bel (by omega) _⟩
#print axioms stateOf_any
end Go.Proofs.YtlfcejfpdgdnkaaDoor

/- Steps of a walk at whole arrays, and what the stream of ChaCha20 is: both together. -/

/- What a call of chac.blockOf does: for every state; nothing that was there is turned. -/
namespace Go.Proofs.YtlfcejfpdgdnkaaDoor
open Go.RowKit
set_option maxRecDepth 20000


/-- The state of chac.blockOf. -/
structure BS (w W : World) (xs ys : Ws) : Prop where
  st : ArrU 90 W w.heap.size xs
  out : OwnB 87 W (w.heap.size + 1) (zL 64)
  tu : ArrU 90 W (w.heap.size + 2) ys
  bel : Below w.heap.size w W
  gl : Glob W
theorem BS.drew {w W : World} {xs ys : Ws} (h : BS w W xs ys) : BS w W.drew xs ys := ⟨h.st, h.out, h.tu, h.bel.drew, h.gl⟩
theorem BS.later {w W W' : World} {xs ys : Ws} (h : BS w W xs ys) (hb : Below W.heap.size W W') : BS w W' xs ys :=
  ⟨h.st.below hb h.st.lt, h.out.below hb, h.tu.below hb h.tu.lt, h.bel.trans (hb.mono h.bel.size), h.gl.below hb h.gl.lt⟩
theorem BS.turn {w W : World} {xs ys : Ws} (h : BS w W xs ys) (h0 : 1 < w.heap.size) (zs : Ws) : BS w (W.setRow (w.heap.size + 2) (arrV zs)) xs zs :=
  ⟨h.st.other (setRow_other _ _ _ _ (by omega)), by have := h.out; unfold OwnB at this ⊢; rw [setRow_other _ _ _ _ (by omega)]; exact this, h.tu.setRow _, Below.setRow h.bel (by omega) _, rangeAt_keep h.gl (setRow_other _ _ _ _ (by omega))⟩
theorem BS.only {w W W' : World} {xs ys : Ws} (h : BS w W xs ys) (g : Nat) (hg : w.heap.size + 2 < g) (h0 : 1 < w.heap.size) (ho : OnlyAt g W W') : BS w W' xs ys :=
  ⟨h.st.other (ho.block _ (by omega)), ho.own h.out (by omega), h.tu.other (ho.block _ (by omega)), ho.below h.bel (by omega), rangeAt_keep h.gl (ho.block _ (by omega))⟩
theorem BS.start (w : World) (xs ys : Ws) (hg : Glob w) : BS w (((w.alloc (Obj.cells (arrV xs) 90)).alloc (Obj.cells (bV (zL 64)) 87)).alloc (Obj.cells (arrV ys) 90)) xs ys := by
  have n1 := heap_alloc_new w (Obj.cells (arrV xs) 90)
  have n2 := heap_alloc_new (w.alloc (Obj.cells (arrV xs) 90)) (Obj.cells (bV (zL 64)) 87)
  have n3 := heap_alloc_new ((w.alloc (Obj.cells (arrV xs) 90)).alloc (Obj.cells (bV (zL 64)) 87)) (Obj.cells (arrV ys) 90)
  simp only [size_alloc] at n2 n3
  have hb := below_alloc (below_alloc (below_alloc (Below.refl w.heap.size w) (Obj.cells (arrV xs) 90)) (Obj.cells (bV (zL 64)) 87)) (Obj.cells (arrV ys) 90)
  exact ⟨block_alloc (block_alloc n1 _) _, block_alloc n2 _, n3, hb, hg.below hb hg.lt⟩
theorem arrT16 : ArrT Tryd.prog 90 16 := ⟨⟨_, _, Tryd.underlying90⟩, info16⟩
theorem arrT32 : ArrT Tryd.prog 29 32 := ⟨⟨_, _, Tryd.underlying29⟩, info_b32⟩
theorem arrT12 : ArrT Tryd.prog 40 12 := ⟨⟨_, _, Tryd.underlying40⟩, info_b12⟩
theorem arrT64 : ArrT Tryd.prog 87 64 := ⟨⟨_, _, Tryd.underlying87⟩, info_b64⟩
theorem zero64 : (Tryd.prog.info? 87).bind (·.zero) = some (.agg (bV (zL 64))) := by kernel_rfl
theorem zero16 : (Tryd.prog.info? 90).bind (·.zero) = some (.agg (arrV zW)) := by kernel_rfl

theorem index_arr (ys : Ws) (k : Nat) (hk : k < 16) (w : World) : (Instr.index 90 (.agg (arrV ys)) (.int .i64 (k : Int))).run Tryd.prog w = .ok (.int .u32 ((ys k).toNat : Int)) w := by
  rcases k with _ | _ | _ | _ | _ | _ | _ | _ | _ | _ | _ | _ | _ | _ | _ | _ | k
  all_goals first | (exfalso; omega) | rfl

set_option maxHeartbeats 1000000 in
theorem blockOf_any (xs : Ws) (w : World) (hg : Glob w) : Calls Tryd.prog 56 #[.agg (arrV xs)] w fun e w' => e = .returned (.agg (bV (blkL xs))) ∧ Below w.heap.size w w' := by
  have h0 := hg.lt
  have hS := (BS.start w xs zW hg)
  have hS' := hS.turn h0 xs
  have hn := hS.tu
  go_enter Tryd.func56, Tryd.ntmps56
  go_wp2_with (first
    | (refine wpList_newA (by rfl) 87 (by rfl) _ zero64 (w.heap.size + 1) (size_alloc _ _) ?_)
    | (refine wpList_newA (by rfl) 90 (by rfl) _ zero16 (w.heap.size + 2) (by rw [size_alloc, size_alloc]) ?_)
    | (refine wpList_loadA arrT16 (by rfl) _ (by rfl) w.heap.size (by rfl) (arrV xs) (block_alloc (heap_alloc_new w _) _) (arrV_size _) ?_)
    | (refine wpList_putA arrT16 (by rfl) _ _ (by rfl) (w.heap.size + 2) (arrV xs) (by rfl) (by rfl) _ hn (arrV_size _) (arrV_size _) (arrV_one _) ?_))
  generalize ((((w.alloc (Obj.cells (arrV xs) 90)).alloc (Obj.cells (bV (zL 64)) 87)).alloc (Obj.cells (arrV zW) 90)).setRow (w.heap.size + 2) (arrV xs)) = W at *
  clear hS hn
  go_loopw [8] (fun i wr => ∃ k : Nat, k ≤ 10 ∧ i = .int .i64 k ∧ BS w wr xs (turnN xs k)) (fun i _ => 10 - (intOf i).toNat)
  case atStart => exact ⟨0, Nat.zero_le _, rfl, hS'⟩
  case round =>
    obtain ⟨k, hk, rfl, hS⟩ := hrel
    clear hS' W
    by_cases hlt : k < 10
    · have HT : Hid (dbl (turnN xs k) = turnN xs (k + 1)) := rfl
      generalize turnN xs k = ys at *
      have hy := hS.tu
      go_wp2_with (refine wpList_loadA arrT16 (by rfl) _ (by rfl) (w.heap.size + 2) (by rfl) (arrV ys) hy (arrV_size _) ?_)
      refine (double_any ys wr hS.gl).mono ?_
      rintro e w1 ⟨rfl, hb⟩
      have hS1 := hS.later hb
      have hS2 := hS1.turn h0 (dbl ys)
      have hy1 := hS1.tu
      clear hS hy hb
      generalize dbl ys = zs at *
      go_wp2_with (refine wpList_putA arrT16 (by rfl) _ _ (by rfl) (w.heap.size + 2) (arrV zs) (by rfl) (by rfl) _ hy1 (arrV_size _) (arrV_size _) (arrV_one _) ?_)
      go_roundw
      case rel => exact ⟨k + 1, by omega, by go_num, by rw [← HT.out]; exact hS2⟩
      case measure => simp [intOf]; omega
    · obtain rfl : k = 10 := by omega
      have hy := hS.tu
      go_wp2_with (first
        | (refine wpList_newA (by rfl) 87 (by rfl) _ zero64 wr.heap.size rfl ?_)
        | (refine wpList_loadA arrT16 (by rfl) _ (by rfl) (w.heap.size + 2) (by rfl) (arrV (turnN xs 10)) (block_alloc hy _) (arrV_size _) ?_))
      have hB0 : Below wr.heap.size wr (wr.alloc (Obj.cells (bV (zL 64)) 87)) := below_alloc (Below.refl _ _) _
      have hS0 := hS.later hB0
      have hg0 : OwnB 87 (wr.alloc (Obj.cells (bV (zL 64)) 87)) wr.heap.size (preL xs 0) := by rw [preL_zero]; exact heap_alloc_new _ _
      have hgb : w.heap.size + 2 < wr.heap.size := hy.lt
      generalize (wr.alloc (Obj.cells (bV (zL 64)) 87)) = W0 at *
      generalize wr.heap.size = gb at *
      clear hB0 hy hS hk hlt
      have HB : ∀ k, Hid (turnN xs 10 k + xs k = blkW xs k) := fun k => rfl
      generalize turnN xs 10 = ys at *
      go_loopw [14] (fun i wr => ∃ k : Nat, k ≤ 16 ∧ i = .int .i64 k ∧ BS w wr xs ys ∧ OwnB 87 wr gb (preL xs k)) (fun i _ => 16 - (intOf i).toNat)
      case atStart => exact ⟨0, Nat.zero_le _, rfl, hS0, hg0⟩
      case round =>
        obtain ⟨k, hk, rfl, hS, hP⟩ := hrel
        clear hS0 hg0 W0
        by_cases hlt : k < 16
        · have hI := index_arr ys k hlt
          have hX : IntKind.u32.wrap (((ys k).toNat : Int) + ((xs k).toNat : Int)) = ((blkW xs k).toNat : Int) := by rw [← (HB k).out]; exact u32_add_bv _ _
          have hXl := u32_lt (blkW xs k)
          have hyl := u32_lt (ys k)
          have hxl := u32_lt (xs k)
          have HP : Hid (splice (preL xs k) (4 * k) ((putL ((blkW xs k).toNat : Int) 4).take 4) = preL xs (k + 1)) := preL_step xs k hlt
          have hPl := preL_length xs k
          generalize blkW xs k = X at *
          have hw4 : IntKind.i64.wrap ((k : Int) * 4) = (k : Int) * 4 := by rw [IntKind.wrap_i64]; omega
          have hw8 : IntKind.u64.wrap (X.toNat : Int) = (X.toNat : Int) := by rw [wrap_u64]; omega
          generalize preL xs k = pre at *
          go_wp2_with fail
          have hsl := run_arr_from (P := Tryd.prog) Tryd.underlying87 Tryd.size_u8 gb .i64 ((k : Int) * 4) (4 * k) (by omega) (by omega)
          refine wp_region_ord 1000 [0, 1, 2, 3, 4, 5, 6, 7, 8, 9, 10] (fun w' => ArrU 90 w' w.heap.size xs) (fun _ => True) (by kernel_rfl) (by kernel_rfl) (by kernel_rfl) hS.drew.st trivial (fun _ _ => ?_)
          have hS1 := hS.drew
          have hP1 : OwnB 87 wr.drew gb pre := hP
          generalize wr.drew = W1 at *
          clear hS hP
          repeat' (refine wpOrd_quiet (v := ?_) rfl rfl (fun _ _ _ h => h) (by rfl) ?_ ?_
                   rotate_left
                   · (intro w' hT' _; have hc := hT'.cell k hlt; go_simp; try rfl)
                   simp only [Act.put, List.setIfInBounds_toArray, List.set_cons_zero, List.set_cons_succ])
          refine wpOrd_step rfl rfl (by rfl) (fun K' hK => ?_)
          go_simp
          refine (put_at _ 4 4 W1 rfl (by omega) (by decide)).mono ?_
          rintro e w2 ⟨rfl, hO2, hb2⟩
          have hS2 := hS1.later hb2
          have hP2 := hP1.below hb2
          have hgW : gb < W1.heap.size := hP1.lt
          obtain ⟨w3, hr3, hP3, ho3⟩ := run_copy_bytes (P := Tryd.prog) Tryd.underlying36 Tryd.size_u8 3 w2 (some ⟨gb, 4 * k, none⟩) (some ⟨W1.heap.size, 0, none⟩) (64 - 4 * k) (64 - 4 * k) 4 4 gb (4 * k) 4 pre _ hP2 (by omega) (.inr rfl) (hO2.bs (putL_bytes _ _) 4 (length_putL _ _) (by omega)) (by omega)
          rw [HP.out] at hP3
          have hS3 := hS2.only gb hgb h0 ho3
          refine hK.out _ _ hS2.st (fun h => absurd h (by decide)) (fun _ => ?_)
          clear hK K' hS1 hP1 hO2 hb2 hP2 hgW
          try simp only [Act.put, List.setIfInBounds_toArray, List.set_cons_zero, List.set_cons_succ]
          refine wpOrd_step rfl rfl (by rfl) (fun K' hK => ?_)
          go_simp
          refine hK.out _ _ hS3.st (fun h => absurd h (by decide)) (fun _ => ?_)
          clear hK K' hr3 ho3 hS2
          try simp only [Act.put, List.setIfInBounds_toArray, List.set_cons_zero, List.set_cons_succ]
          refine wpOrd_nil ?_
          go_wp2_with fail
          go_roundw
          case rel => exact ⟨k + 1, by omega, by go_num, hS3, hP3⟩
          case measure => simp [intOf]; omega
        · obtain rfl : k = 16 := by omega
          rw [preL_all] at hP
          have hz := hS.out
          go_wp2_with (first
            | (refine wpList_loadA arrT64 (by rfl) _ (by rfl) gb (by rfl) (bV (blkL xs)) hP (by rw [bV_size, blkL_length]) ?_)
            | (refine wpList_putA arrT64 (by rfl) _ _ (by rfl) (w.heap.size + 1) (bV (blkL xs)) (by rfl) (by rfl) _ hz (by rw [bV_size, blkL_length]) (bV_size _) (bV_one _) ?_))
          refine bodyPost_ret (results_cell_row rfl _ _ _ _ _ _ _ rfl (setRow_heap _ _ _ _ _ _ hz) Tryd.underlying87 rfl (by rw [bV_size, blkL_length, info_b64])) rfl ?_
          exact ⟨rfl, Below.setRow hS.bel (by omega) _⟩
#print axioms blockOf_any

end Go.Proofs.YtlfcejfpdgdnkaaDoor

/- What a call of chac.Xor does: for every key, nonce, counter and every slice of bytes of at most 2^40 that can be read; nothing that was there is turned. -/
namespace Go.Proofs.YtlfcejfpdgdnkaaDoor
open Go.RowKit
set_option maxRecDepth 20000

theorem reaches_any (c : BitVec 32) (n : Nat) (hn : n ≤ 1099511627776) (w : World) : Calls Tryd.prog 54 #[.int .u32 (c.toNat : Int), .int .i64 n] w fun e w' => e = .returned (.bool (fits c n)) ∧ w = w' := by
  have hc := u32_lt c
  have h1 : IntKind.u32.wrap (4294967295 - (c.toNat : Int)) = 4294967295 - (c.toNat : Int) := by rw [IntKind.wrap_u32']; omega
  go_enter Tryd.func54, Tryd.ntmps54
  go_wp2_with fail
  go_ret
  refine ⟨ret_bool ?_, rfl⟩
  unfold fits
  rw [decide_eq_decide]
  omega

/-- What is mixed when k bytes are done. -/
def mixF (key nonce : List Int) (c : BitVec 32) (zs : List Int) (k : Nat) : Nat → Value := fun i => if i < k then .int .u8 (xr (zs.getD i 0) (ks key nonce c i)) else .int .u8 0
theorem mixF_step {w : World} {g n : Nat} {E : TypeId} {key nonce zs : List Int} {c : BitVec 32} (k : Nat) (h : w.rowIs g E n (mixF key nonce c zs k)) : (w.setCell ⟨g, k, none⟩ (.int .u8 (xr (zs.getD k 0) (ks key nonce c k)))).rowIs g E n (mixF key nonce c zs (k + 1)) := by
  refine (h.set k _).congr fun i _ => ?_
  unfold mixF
  by_cases e : i = k
  · subst e; simp
  · by_cases e2 : i < k
    · simp [e, e2, show i < k + 1 by omega]
    · simp [e, e2, show ¬ i < k + 1 by omega]
theorem mixF_all {w : World} {g n : Nat} {E : TypeId} {key nonce zs : List Int} {c : BitVec 32} (hn : zs.length = n) (h : w.rowIs g E n (mixF key nonce c zs n)) : OwnB E w g (xorL key nonce c zs) :=
  OwnB.of_rowIs h _ (by rw [xorL_length, hn]) fun i hi => by rw [xorL_getD _ _ _ _ _ (by omega)]; simp [mixF, hi]

theorem xor_no (key nonce : List Int) (c : BitVec 32) {a : Option Addr} {len cap : Nat} (w : World) (hl : len ≤ 1099511627776) (hf : fits c len = false) :
    Calls Tryd.prog 43 #[.agg (bV key), .agg (bV nonce), .int .u32 (c.toNat : Int), .slice a len cap] w fun e w' => e = .returned (.tuple #[.slice none 0 0, .bool false]) ∧ Below w.heap.size w w' := by
  go_enter Tryd.func43, Tryd.ntmps43
  go_wp2_with fail
  refine (reaches_any c len hl _).mono ?_
  rintro e w1 ⟨rfl, rfl⟩
  go_wp2_with fail
  go_ret2
  exact ⟨rfl, below_alloc (below_alloc (Below.refl _ _) _) _⟩

/-- The state of chac.Xor: the mixed bytes and the words. -/
structure XS (w W : World) (gm gs : Nat) (n : Nat) (f : Nat → Value) (xs : Ws) : Prop where
  mix : W.rowIs gm 5 n f
  st : ArrU 90 W gs xs
  bel : Below w.heap.size w W
  gl : Glob W

theorem rowIs_keep {w w' : World} {g n : Nat} {E : TypeId} {f : Nat → Value} (h : w.rowIs g E n f) (hb : w'.heap[g]? = w.heap[g]?) : w'.rowIs g E n f := by
  obtain ⟨c, h1, h2, h3⟩ := h
  exact ⟨c, hb.trans h1, h2, h3⟩
theorem rowIs_lt {w : World} {g n : Nat} {E : TypeId} {f : Nat → Value} (h : w.rowIs g E n f) : g < w.heap.size := by
  obtain ⟨c, h1, _⟩ := h
  exact (Array.getElem?_eq_some_iff.1 h1).1
theorem XS.later {w W W' : World} {gm gs n : Nat} {f : Nat → Value} {xs : Ws} (h : XS w W gm gs n f xs) (hb : Below W.heap.size W W') : XS w W' gm gs n f xs :=
  ⟨rowIs_keep h.mix (hb.block _ (rowIs_lt h.mix)), h.st.below hb h.st.lt, h.bel.trans (hb.mono h.bel.size), h.gl.below hb h.gl.lt⟩
theorem XS.only {w W W' : World} {gm gs n g : Nat} {f : Nat → Value} {xs : Ws} (h : XS w W gm gs n f xs) (ho : OnlyAt g W W') (h1 : gm ≠ g) (h2 : gs ≠ g) (h3 : w.heap.size ≤ g) (h0 : 1 < w.heap.size) : XS w W' gm gs n f xs :=
  ⟨rowIs_keep h.mix (ho.block _ h1), h.st.other (ho.block _ h2), ho.below h.bel h3, rangeAt_keep h.gl (ho.block _ (by omega))⟩
theorem XS.drew {w W : World} {gm gs n : Nat} {f : Nat → Value} {xs : Ws} (h : XS w W gm gs n f xs) : XS w W.drew gm gs n f xs := ⟨h.mix, h.st, h.bel.drew, h.gl⟩
theorem XS.put {w W : World} {gm gs n : Nat} {xs : Ws} {key nonce zs : List Int} {c : BitVec 32} (k : Nat) (h : XS w W gm gs n (mixF key nonce c zs k) xs) (h1 : gs ≠ gm) (h3 : w.heap.size ≤ gm) (h0 : 1 < w.heap.size) :
    XS w (W.setCell ⟨gm, k, none⟩ (.int .u8 (xr (zs.getD k 0) (ks key nonce c k)))) gm gs n (mixF key nonce c zs (k + 1)) xs :=
  ⟨mixF_step k h.mix, h.st.other (heap_setCell_other W _ _ _ h1), h.bel.setCell h3 _, rangeAt_keep h.gl (heap_setCell_other W _ _ _ (by simp; omega))⟩
theorem XS.tick {w W : World} {gm gs n : Nat} {f : Nat → Value} {xs : Ws} (h : XS w W gm gs n f xs) (h1 : gm ≠ gs) (h3 : w.heap.size ≤ gs) (h0 : 1 < w.heap.size) (v : BitVec 32) :
    XS w (W.setCell ⟨gs, 12, none⟩ (.int .u32 (v.toNat : Int))) gm gs n f (upd xs 12 v) :=
  ⟨rowIs_keep h.mix (heap_setCell_other W _ _ _ h1), h.st.set 12 v, h.bel.setCell h3 _, rangeAt_keep h.gl (heap_setCell_other W _ _ _ (by simp; omega))⟩
theorem bs_later {w W : World} {a : Option Addr} {len cap : Nat} {zs : List Int} (h : Bs w a len cap zs) (hb : Below w.heap.size w W) : Bs W a len cap zs := h.below hb

set_option maxHeartbeats 1000000 in
theorem xor_ok (key nonce : List Int) (c : BitVec 32) {a : Option Addr} {len cap : Nat} {zs : List Int} (w : World) (hk : IsBytes key) (hkl : key.length = 32) (hn : IsBytes nonce) (hnl : nonce.length = 12) (hb : Bs w a len cap zs) (hl : len ≤ 1099511627776) (hf : fits c len = true) (hg : Glob w) :
    Calls Tryd.prog 43 #[.agg (bV key), .agg (bV nonce), .int .u32 (c.toNat : Int), .slice a len cap] w fun e w' => ∃ g, e = .returned (.tuple #[.slice (some ⟨g, 0, none⟩) len len, .bool true]) ∧ OwnB 5 w' g (xorL key nonce c zs) ∧ w.heap.size ≤ g ∧ Below w.heap.size w w' := by
  have hmk := run_make_row' (P := Tryd.prog) 36 5 (.int .u8 0) 1 Tryd.underlying36 Tryd.info_u8 rfl .i64 .i64 len (by omega) (by omega)
  have hb0 := below_alloc (below_alloc (Below.refl w.heap.size w) (Obj.cells (bV key) 29)) (Obj.cells (bV nonce) 40)
  have n1 := heap_alloc_new w (Obj.cells (bV key) 29)
  have n2 := heap_alloc_new (w.alloc (Obj.cells (bV key) 29)) (Obj.cells (bV nonce) 40)
  simp only [size_alloc] at n2
  go_enter Tryd.func43, Tryd.ntmps43
  go_wp2_with fail
  refine (reaches_any c len hl _).mono ?_
  rintro e w1 ⟨rfl, rfl⟩
  go_wp2_with (first
    | (refine wpList_loadA arrT32 (by rfl) _ (by rfl) w.heap.size (by rfl) (bV key) (block_alloc (block_alloc n1 _) _) (by rw [bV_size, hkl]) ?_)
    | (refine wpList_loadA arrT12 (by rfl) _ (by rfl) (w.heap.size + 1) (by rfl) (bV nonce) (block_alloc n2 _) (by rw [bV_size, hnl]) ?_))
  have hb1 := below_alloc hb0 (Obj.cells (madeCells #[Value.int IntKind.u8 0] len) 5)
  have hm1 : (((w.alloc (Obj.cells (bV key) 29)).alloc (Obj.cells (bV nonce) 40)).alloc (Obj.cells (madeCells #[Value.int IntKind.u8 0] len) 5)).rowIs (w.heap.size + 2) 5 len (mixF key nonce c zs 0) := by
    have := World.rowIs_made ((w.alloc (Obj.cells (bV key) 29)).alloc (Obj.cells (bV nonce) 40)) (.int .u8 0) len 5
    simp only [size_alloc] at this
    exact this.congr fun i _ => by simp [mixF]
  generalize (((w.alloc (Obj.cells (bV key) 29)).alloc (Obj.cells (bV nonce) 40)).alloc (Obj.cells (madeCells #[Value.int IntKind.u8 0] len) 5)) = W1 at *
  clear n1 n2 hb0 hmk
  refine (stateOf_any key nonce c W1 hk hkl hn hnl).mono ?_
  rintro e w2 ⟨rfl, hb2⟩
  have hb2' := hb1.trans (hb2.mono hb1.size)
  have hm2 := rowIs_keep hm1 (hb2.block _ (rowIs_lt hm1))
  have hgm : w.heap.size + 2 < w2.heap.size := rowIs_lt hm2
  have hb3 := below_alloc hb2' (Obj.cells (arrV zW) 90)
  have n3 := heap_alloc_new w2 (Obj.cells (arrV zW) 90)
  have hm3 := rowIs_keep hm2 (Below.heap_alloc w2 (Obj.cells (arrV zW) 90) _ hgm)
  clear hb1 hm1 hb2 hb2' hm2
  go_wp2_with (first
    | (refine wpList_newA (by rfl) 90 (by rfl) _ zero16 w2.heap.size rfl ?_)
    | (refine wpList_putA arrT16 (by rfl) _ _ (by rfl) w2.heap.size (arrV (stW key nonce c)) (by rfl) (by rfl) _ n3 (arrV_size _) (arrV_size _) (arrV_one _) ?_))
  have hX0 : XS w ((w2.alloc (Obj.cells (arrV zW) 90)).setRow w2.heap.size (arrV (stW key nonce c))) (w.heap.size + 2) w2.heap.size len (mixF key nonce c zs 0) (stW key nonce c) := by
    have hb4 := Below.setRow hb3 (show w.heap.size ≤ w2.heap.size by omega) (arrV (stW key nonce c))
    exact ⟨rowIs_keep hm3 (setRow_other _ _ _ _ (by omega)), setRow_heap _ _ _ _ _ _ n3, hb4, hg.below hb4 hg.lt⟩
  generalize ((w2.alloc (Obj.cells (arrV zW) 90)).setRow w2.heap.size (arrV (stW key nonce c))) = W4 at *
  generalize w2.heap.size = gs at *
  clear hb3 n3 hm3
  have h0 := hg.lt
  have hz := hb.length
  have hlc := hb.le_cap
  go_loopw [12] (fun v wr => ∃ q m : Nat, v = .int .i64 q ∧ q = 64 * m ∧ q < len + 64 ∧ XS w wr (w.heap.size + 2) gs len (mixF key nonce c zs (min q len)) (stW key nonce (c + BitVec.ofNat 32 m))) (fun v _ => len + 64 - (intOf v).toNat)
  case atStart => exact ⟨0, 0, rfl, rfl, by omega, by simpa using hX0⟩
  case round =>
    obtain ⟨q, m, rfl, hq, hql, hX⟩ := hrel
    have HQ : Hid (q = 64 * m) := hq
    clear hX0 W4 hq
    by_cases hlt : q < len
    · have hs := hX.st
      rw [show min q len = q by omega] at hX
      go_wp2_with (refine wpList_loadA arrT16 (by rfl) _ (by rfl) gs (by rfl) _ hs (arrV_size _) ?_)
      refine (blockOf_any _ wr hX.gl).mono ?_
      rintro e w3 ⟨rfl, hb3⟩
      have hX3 := hX.later hb3
      have hgs : gs < w3.heap.size := hX3.st.lt
      have hX4 := hX3.later (below_alloc (Below.refl _ _) (Obj.cells (bV (zL 64)) 87))
      have n4 := heap_alloc_new w3 (Obj.cells (bV (zL 64)) 87)
      clear hX hs hb3 hX3
      go_wp2_with (first
        | (refine wpList_newA (by rfl) 87 (by rfl) _ zero64 w3.heap.size rfl ?_)
        | (refine wpList_putA arrT64 (by rfl) _ _ (by rfl) w3.heap.size (bV (blkL _)) (by rfl) (by rfl) _ n4 (by rw [bV_size, blkL_length]) (bV_size _) (bV_one _) ?_))
      have hX5 := hX4.only (OnlyAt.setRow w3.heap.size _ (bV (blkL (stW key nonce (c + BitVec.ofNat 32 m))))) (by omega) (by omega) (by omega) h0
      have hB5 : OwnB 87 ((w3.alloc (Obj.cells (bV (zL 64)) 87)).setRow w3.heap.size (bV (blkL (stW key nonce (c + BitVec.ofNat 32 m))))) w3.heap.size (blkL (stW key nonce (c + BitVec.ofNat 32 m))) := setRow_heap _ _ _ _ _ _ n4
      generalize ((w3.alloc (Obj.cells (bV (zL 64)) 87)).setRow w3.heap.size (bV (blkL (stW key nonce (c + BitVec.ofNat 32 m))))) = W5 at *
      generalize w3.heap.size = gb at *
      clear hX4 n4
      obtain ⟨r, hr⟩ : ∃ r, min (q + 64) len = r := ⟨_, rfl⟩
      have hrI : (if (len : Int) < (q : Int) + 64 then (len : Int) else (q : Int) + 64) = (r : Int) := by split <;> omega
      have hr1 : q ≤ r := by omega
      have hr2 : r ≤ len := by omega
      have hr3 : r ≤ q + 64 := by omega
      have HR : Hid (min (q + 64) len = r) := hr
      clear hr
      have HK : ∀ j, q ≤ j → j < r → Hid ((blkL (stW key nonce (c + BitVec.ofNat 32 m))).getD (j - q) 0 = ks key nonce c j) := fun j h1 h2 => by
        show _ = _
        have e := HQ.out
        rw [blkL, rowL_getD _ _ _ (by omega), ks, show j / 64 = m by omega, show j % 64 = j - q by omega]
      have hBb := blkL_bytes (stW key nonce (c + BitVec.ofNat 32 m))
      have hBl := blkL_length (stW key nonce (c + BitVec.ofNat 32 m))
      generalize blkL (stW key nonce (c + BitVec.ofNat 32 m)) = blk at *
      go_loopw [14] (fun v wr => ∃ i : Nat, v = .int .i64 i ∧ q ≤ i ∧ i ≤ r ∧ XS w wr (w.heap.size + 2) gs len (mixF key nonce c zs i) (stW key nonce (c + BitVec.ofNat 32 m)) ∧ OwnB 87 wr gb blk) (fun v _ => r - (intOf v).toNat)
      case atStart => exact ⟨q, rfl, Nat.le_refl _, hr1, hX5, hB5⟩
      case round =>
        obtain ⟨i, rfl, hqi, hir, hX, hB⟩ := hrel
        clear hX5 hB5 W5
        by_cases hlt2 : i < r
        · have HKi := HK i hqi hlt2
          have hzb := hb.bytes.getD i
          have hyb := hBb.getD (i - q)
          have hbc := bs_later hb hX.bel
          rcases hbc.place with hc0 | ⟨b, off, rfl, hc⟩
          · omega
          have hbw := hb.block_lt (by omega)
          have hci := hc i (by omega)
          have hcb := hB.cell (i - q) (by omega)
          have hsub : IntKind.i64.wrap ((i : Int) - (q : Int)) = ((i - q : Nat) : Int) := by rw [IntKind.wrap_i64]; omega
          have hj64 : ((i - q : Nat) : Int) < 64 := by omega
          have hj64' : i - q < 64 := by omega
          have hil : i < len := by omega
          clear hc hbc
          obtain ⟨X, HX⟩ : ∃ X, Hid (zs.getD i 0 = X) := ⟨_, rfl⟩
          obtain ⟨Y, HY⟩ : ∃ Y, Hid (blk.getD (i - q) 0 = Y) := ⟨_, rfl⟩
          rw [HX.out] at hzb hci
          rw [HY.out] at hyb hcb
          have hxr := bits_xr _ _ hzb hyb
          have hxl := xr_lt _ _ hzb hyb
          go_wp2_with fail
          refine wp_region_ord 1000 [0, 1, 2, 3, 4, 5, 6, 7, 8, 9, 10, 11, 12, 13]
            (fun w' => w'.cell? ⟨b, off + i, none⟩ = some (.int .u8 X) ∧ w'.cell? ⟨gb, i - q, none⟩ = some (.int .u8 Y)) (fun _ => True)
            (by kernel_rfl) (by kernel_rfl) (by kernel_rfl) ⟨hci, hcb⟩ trivial (fun hT _ => ?_)
          have hX1 := hX.drew
          have hB1 : OwnB 87 wr.drew gb blk := hB
          generalize wr.drew = W1 at *
          clear hX hB hci hcb
          repeat' (refine wpOrd_quiet (v := ?_) rfl rfl (fun _ _ _ h => h) (by rfl) ?_ ?_
                   rotate_left
                   · (intro w' hT' _; obtain ⟨hT1, hT2⟩ := hT'; go_simp; try rfl)
                   simp only [Act.put, List.setIfInBounds_toArray, List.set_cons_zero, List.set_cons_succ])
          refine wpOrd_step rfl rfl (by rfl) (fun K' hK => ?_)
          have f1 := hX1.mix.cell hil
          have z1 := hX1.mix.frozen i
          have hX2 := hX1.put i (by omega) (by omega) h0
          rw [← HKi.out, HX.out, HY.out] at hX2
          have hB2 : OwnB 87 (W1.setCell ⟨w.heap.size + 2, i, none⟩ (.int .u8 (xr X Y))) gb blk := by
            unfold OwnB at hB1 ⊢
            rw [heap_setCell_other _ _ _ _ (by simp; omega)]; exact hB1
          have hT2 : (W1.setCell ⟨w.heap.size + 2, i, none⟩ (.int .u8 (xr X Y))).cell? ⟨b, off + i, none⟩ = some (.int .u8 X) ∧ (W1.setCell ⟨w.heap.size + 2, i, none⟩ (.int .u8 (xr X Y))).cell? ⟨gb, i - q, none⟩ = some (.int .u8 Y) :=
            ⟨(World.cell?_of_block (w := W1) (heap_setCell_other _ _ _ _ (by simp; omega))).trans hT.1, (World.cell?_of_block (w := W1) (heap_setCell_other _ _ _ _ (by simp; omega))).trans hT.2⟩
          clear hT hX1 hB1
          go_simp
          refine hK.out _ _ hT2 (fun h => absurd h (by decide)) (fun _ => ?_)
          clear hK K' f1 z1 hT2
          try simp only [Act.put, List.setIfInBounds_toArray, List.set_cons_zero, List.set_cons_succ]
          refine wpOrd_nil ?_
          go_wp2_with fail
          go_roundw
          case rel => exact ⟨i + 1, by go_num, by omega, by omega, hX2, hB2⟩
          case measure => simp [intOf]; omega
        · obtain rfl : i = r := by omega
          have hs := hX.st.cell 12 (by decide)
          have hfz := hX.st.frozen 12
          have hX2 := hX.tick (by omega) (by omega) h0 (stW key nonce (c + BitVec.ofNat 32 m) 12 + 1)
          rw [stW_next] at hX2
          have e12 : stW key nonce (c + BitVec.ofNat 32 m) 12 = c + BitVec.ofNat 32 m := rfl
          have ew := u32_add_bv (c + BitVec.ofNat 32 m) 1
          have el := u32_lt (c + BitVec.ofNat 32 m)
          have em : c + BitVec.ofNat 32 m + 1 = c + BitVec.ofNat 32 (m + 1) := by rw [BitVec.add_assoc, BitVec.ofNat_add]; rfl
          rw [e12] at hs hX2
          rw [em] at ew hX2
          clear e12 em
          rw [show ((1 : BitVec 32).toNat : Int) = 1 from rfl] at ew
          have HC : ∀ (W : World) k, Hid (XS w W (w.heap.size + 2) gs len k (stW key nonce (c + BitVec.ofNat 32 (m + 1))) = XS w W (w.heap.size + 2) gs len k (stW key nonce (c + BitVec.ofNat 32 (m + 1)))) := fun _ _ => rfl
          generalize hc1 : c + BitVec.ofNat 32 (m + 1) = c1 at *
          have HC1 : Hid (c + BitVec.ofNat 32 (m + 1) = c1) := hc1
          clear hc1 HC
          generalize c + BitVec.ofNat 32 m = c0 at *
          go_wp2_with fail
          go_roundw
          case rel =>
            refine ⟨q + 64, m + 1, by go_num, by have := HQ.out; omega, by omega, ?_⟩
            rw [HR.out, HC1.out]
            exact hX2
          case measure => simp [intOf]; omega
    · have hmin : min q len = len := by omega
      rw [hmin] at hX
      have ho := mixF_all hz hX.mix
      have hbe := hX.bel
      clear hmin hX
      go_wp2_with fail
      go_ret2
      exact ⟨_, rfl, ho, by omega, hbe⟩
#print axioms xor_ok
end Go.Proofs.YtlfcejfpdgdnkaaDoor

/- Calls of chac.Xor whose arguments are equal to what its contracts name; rows of the call's own that are written cell by cell. No conditions but those that each line states. -/
namespace Go.Proofs.YtlfcejfpdgdnkaaDoor
open Go.RowKit
set_option maxRecDepth 20000

theorem zero32 : (Tryd.prog.info? 29).bind (·.zero) = some (.agg (bV (zL 32))) := by kernel_rfl

theorem OwnB.put {E : TypeId} {w : World} {g : Nat} {zs : List Int} (h : OwnB E w g zs) (i : Nat) (x : Int) : OwnB E (w.setCell ⟨g, i, none⟩ (.int .u8 x)) g (zs.set i x) := by
  unfold OwnB at h ⊢
  rw [heap_setCell_same w g i _ _ _ h]
  congr 2
  simp
theorem xor_no_at (key nonce : List Int) (c : BitVec 32) (K M : Array Value) (ci : Int) {a : Option Addr} {len cap : Nat} (w : World) (hK : K = bV key) (hM : M = bV nonce) (hc : ci = (c.toNat : Int)) (hl : len ≤ 1099511627776) (hf : fits c len = false) :
    Calls Tryd.prog 43 #[.agg K, .agg M, .int .u32 ci, .slice a len cap] w fun e w' => e = .returned (.tuple #[.slice none 0 0, .bool false]) ∧ Below w.heap.size w w' := by
  subst hK hM hc
  exact xor_no key nonce c w hl hf
theorem xor_at (key nonce : List Int) (c : BitVec 32) (K M : Array Value) (ci : Int) {a : Option Addr} {len cap : Nat} {zs : List Int} (w : World) (hK : K = bV key) (hM : M = bV nonce) (hc : ci = (c.toNat : Int)) (hk : IsBytes key) (hkl : key.length = 32) (hn : IsBytes nonce) (hnl : nonce.length = 12) (hb : Bs w a len cap zs) (hl : len ≤ 1099511627776) (hf : fits c len = true) (hg : Glob w) :
    Calls Tryd.prog 43 #[.agg K, .agg M, .int .u32 ci, .slice a len cap] w fun e w' => ∃ g, e = .returned (.tuple #[.slice (some ⟨g, 0, none⟩) len len, .bool true]) ∧ OwnB 5 w' g (xorL key nonce c zs) ∧ w.heap.size ≤ g ∧ Below w.heap.size w w' := by
  subst hK hM hc
  exact xor_ok key nonce c w hk hkl hn hnl hb hl hf hg

end Go.Proofs.YtlfcejfpdgdnkaaDoor

/- What laws over chac share: the key and the nonce that lie in memory, what a call of chac.Xor answers in either case. No conditions but those that each line states. -/
namespace Go.Proofs.YtlfcejfpdgdnkaaDoor
open Go.RowKit
set_option maxRecDepth 20000

theorem made_zL {w : World} {n : Nat} {E : TypeId} : OwnB E (w.alloc (Obj.cells (madeCells #[Value.int IntKind.u8 0] n) E)) w.heap.size (zL n) :=
  OwnB.of_rowIs (World.rowIs_made w (.int .u8 0) n E) _ (zL_length _) fun i _ => by rw [zL_getD]

/-- The key and the nonce of the call, in the first two blocks that it made. -/
structure KN (w W : World) (key nonce : List Int) : Prop where
  kk : OwnB 29 W w.heap.size key
  nn : OwnB 40 W (w.heap.size + 1) nonce
  bel : Below w.heap.size w W
  gl : Glob W
  g0 : 1 < w.heap.size
theorem KN.start (w : World) (key nonce : List Int) (hg : Glob w) : KN w ((w.alloc (Obj.cells (bV key) 29)).alloc (Obj.cells (bV nonce) 40)) key nonce := by
  have n1 := heap_alloc_new w (Obj.cells (bV key) 29)
  have n2 := heap_alloc_new (w.alloc (Obj.cells (bV key) 29)) (Obj.cells (bV nonce) 40)
  simp only [size_alloc] at n2
  have hb0 := below_alloc (below_alloc (Below.refl w.heap.size w) (Obj.cells (bV key) 29)) (Obj.cells (bV nonce) 40)
  exact ⟨block_alloc n1 _, n2, hb0, hg.below hb0 hg.lt, hg.lt⟩
theorem KN.later {w W W' : World} {key nonce : List Int} (h : KN w W key nonce) (hb : Below W.heap.size W W') : KN w W' key nonce :=
  ⟨h.kk.below hb, h.nn.below hb, h.bel.trans (hb.mono h.bel.size), h.gl.below hb h.gl.lt, h.g0⟩
theorem KN.drew {w W : World} {key nonce : List Int} (h : KN w W key nonce) : KN w W.drew key nonce := ⟨h.kk, h.nn, h.bel.drew, h.gl, h.g0⟩
theorem KN.alloc {w W : World} {key nonce : List Int} (h : KN w W key nonce) (o : Obj) : KN w (W.alloc o) key nonce := h.later (below_alloc (Below.refl _ _) o)
theorem KN.lt {w W : World} {key nonce : List Int} (h : KN w W key nonce) : w.heap.size + 1 < W.heap.size := h.nn.lt
theorem KN.only {w W W' : World} {key nonce : List Int} {g : Nat} (h : KN w W key nonce) (ho : OnlyAt g W W') (hg : w.heap.size + 1 < g) : KN w W' key nonce :=
  ⟨ho.own h.kk (by omega), ho.own h.nn (by omega), ho.below h.bel (by omega), rangeAt_keep h.gl (ho.block _ (by have := h.g0; omega)), h.g0⟩
theorem KN.setRow {w W : World} {key nonce : List Int} {g : Nat} (h : KN w W key nonce) (hg : w.heap.size + 1 < g) (cs : Array Value) : KN w (W.setRow g cs) key nonce := h.only (OnlyAt.setRow g W cs) hg

/-- What chac.Xor answers beside its bool. -/
def xorR (key nonce : List Int) (c : BitVec 32) (zs : List Int) : List Int := if fits c zs.length = true then xorL key nonce c zs else []
theorem xor_all (key nonce : List Int) (c : BitVec 32) (K M : Array Value) (ci : Int) {a : Option Addr} {len cap : Nat} {zs : List Int} (w : World) (hK : K = bV key) (hM : M = bV nonce) (hc : ci = (c.toNat : Int)) (hk : IsBytes key) (hkl : key.length = 32) (hn : IsBytes nonce) (hnl : nonce.length = 12) (hb : Bs w a len cap zs) (hl : len ≤ 1099511627776) (hg : Glob w) :
    Calls Tryd.prog 43 #[.agg K, .agg M, .int .u32 ci, .slice a len cap] w fun e w' => ∃ b n, e = .returned (.tuple #[.slice b n n, .bool (fits c len)]) ∧ Bs w' b n n (xorR key nonce c zs) ∧ Below w.heap.size w w' := by
  have hz := hb.length
  cases hf : fits c len with
  | true =>
    refine (xor_at key nonce c K M ci w hK hM hc hk hkl hn hnl hb hl hf hg).mono ?_
    rintro e w' ⟨g, rfl, hO, _, hb'⟩
    refine ⟨_, _, rfl, ?_, hb'⟩
    unfold xorR
    rw [hz, if_pos hf]
    exact hO.bs (xorL_bytes _ _ _ _ hb.bytes) len (by rw [xorL_length, hz]) (by omega)
  | false =>
    refine (xor_no_at key nonce c K M ci w hK hM hc hl hf).mono ?_
    rintro e w' ⟨rfl, hb'⟩
    refine ⟨_, _, rfl, ?_, hb'⟩
    unfold xorR
    rw [hz, if_neg (by rw [hf]; decide)]
    exact Bs.nil w'
#print axioms xor_all
end Go.Proofs.YtlfcejfpdgdnkaaDoor

/- What a call of dumbwaiterref1.Block does: for every key, nonce and counter; nothing that was there is turned. -/
namespace Go.Proofs.YtlfcejfpdgdnkaaDoor
open Go.RowKit
set_option maxRecDepth 20000

/-- A state that is being filled: key, nonce, a block, the words. -/
structure RB (w W : World) (gk gn go gs : Nat) (key nonce O : List Int) (xs : Ws) : Prop where
  kk : OwnB 29 W gk key
  nn : OwnB 40 W gn nonce
  oo : OwnB 87 W go O
  st : ArrU 90 W gs xs
  bel : Below w.heap.size w W
theorem RB.set {w W : World} {gk gn go gs : Nat} {key nonce O : List Int} {xs : Ws} (h : RB w W gk gn go gs key nonce O xs) (h1 : gk ≠ gs) (h2 : gn ≠ gs) (h3 : go ≠ gs) (h4 : w.heap.size ≤ gs) (k : Nat) (v : BitVec 32) :
    RB w (W.setCell ⟨gs, k, none⟩ (.int .u32 (v.toNat : Int))) gk gn go gs key nonce O (upd xs k v) :=
  have ho := OnlyAt.setCell' gs k W (.int .u32 (v.toNat : Int))
  ⟨ho.own h.kk h1, ho.own h.nn h2, ho.own h.oo h3, h.st.set k v, h.bel.setCell h4 _⟩
theorem RB.later {w W W' : World} {gk gn go gs : Nat} {key nonce O : List Int} {xs : Ws} (h : RB w W gk gn go gs key nonce O xs) (hb : Below W.heap.size W W') : RB w W' gk gn go gs key nonce O xs :=
  ⟨h.kk.below hb, h.nn.below hb, h.oo.below hb, h.st.below hb h.st.lt, h.bel.trans (hb.mono h.bel.size)⟩
theorem RB.only {w W W' : World} {gk gn go gs g : Nat} {key nonce O : List Int} {xs : Ws} (h : RB w W gk gn go gs key nonce O xs) (ho : OnlyAt g W W') (h1 : gk ≠ g) (h2 : gn ≠ g) (h3 : go ≠ g) (h4 : gs ≠ g) (h5 : w.heap.size ≤ g) : RB w W' gk gn go gs key nonce O xs :=
  ⟨ho.own h.kk h1, ho.own h.nn h2, ho.own h.oo h3, h.st.other (ho.block _ h4), ho.below h.bel h5⟩
theorem RB.drew {w W : World} {gk gn go gs : Nat} {key nonce O : List Int} {xs : Ws} (h : RB w W gk gn go gs key nonce O xs) : RB w W.drew gk gn go gs key nonce O xs := ⟨h.kk, h.nn, h.oo, h.st, h.bel.drew⟩

theorem arrV_pre0 : #[Value.int .u32 1634760805, .int .u32 857760878, .int .u32 2036477234, .int .u32 1797285236, .int .u32 0, .int .u32 0, .int .u32 0, .int .u32 0, .int .u32 0, .int .u32 0, .int .u32 0, .int .u32 0, .int .u32 0, .int .u32 0, .int .u32 0, .int .u32 0] = arrV (preW 0) := rfl
theorem stW_fill (key nonce : List Int) (c : BitVec 32) : putW (upd (putW (preW 0) 4 key 8) 12 c) 13 nonce 3 = stW key nonce c := by
  have e : upd (putW (preW 0) 4 key 8) 12 c = putW (upd (preW 0) 12 c) 4 key 8 := by
    funext j
    unfold upd putW
    by_cases h : j = 12
    · subst h; simp
    · simp [h]
  rw [e, stW_put key nonce c (upd (preW 0) 12 c) rfl rfl rfl rfl rfl (fun j hj => by simp [upd, preW, show j ≠ 0 by omega, show j ≠ 1 by omega, show j ≠ 2 by omega, show j ≠ 3 by omega, show j ≠ 12 by omega])]

/-- What a Get of four bytes of a row answers. -/
theorem rget_word {E : TypeId} {w : World} {g n : Nat} {zs : List Int} (h : OwnB E w g zs) (hz : IsBytes zs) (hn : zs.length = n) (k : Nat) (hk : 4 * k + 4 ≤ n) (hl : n ≤ 1000) :
    Calls Tryd.prog 38 #[.slice (some ⟨g, 4 * k, none⟩) 4 (n - 4 * k)] w fun e w' => e = .returned (.int .u64 ((word4 zs k).toNat : Int)) ∧ w = w' := by
  have := rget_any w (h.bsAt hz (4 * k) 4 (n - 4 * k) (by omega) (by omega) (by omega))
  rwa [take48, word4_num zs hz k] at this

/-- A block of which j bytes are written. -/
def preB (xs : Ws) (j : Nat) : List Int := rowL (fun i => if i < j then kb xs i else 0) 64
theorem preB_zero (xs : Ws) : preB xs 0 = zL 64 := rowL_congr fun i _ => by simp
theorem preB_all (xs : Ws) : preB xs 64 = blkL xs := rowL_congr fun i hi => by simp [hi]
theorem preB_length (xs : Ws) (k : Nat) : (preB xs k).length = 64 := rowL_length _ _
theorem preB_set (xs : Ws) (k : Nat) (hk : k < 64) : (preB xs k).set k (kb xs k) = preB xs (k + 1) := by
  refine rowL_of _ _ _ (by simp [preB_length]) fun i hi => ?_
  by_cases e : i = k
  · subst e
    simp [List.getD, preB_length, hk]
  · have : ((preB xs k).set k (kb xs k)).getD i 0 = (preB xs k).getD i 0 := by simp [List.getD, Ne.symm e]
    rw [this, preB, rowL_getD _ _ _ hi]
    by_cases h : i < k
    · rw [if_pos h, if_pos (by omega)]
    · rw [if_neg h, if_neg (by omega)]
theorem OwnB.put8 {E : TypeId} {w : World} {g : Nat} {zs : List Int} (h : OwnB E w g zs) (i : Nat) (x : Int) : OwnB E (w.setCell ⟨g, i, none⟩ (.int .u8 x)) g (zs.set i x) := by
  unfold OwnB at h ⊢
  rw [heap_setCell_same w g i _ _ _ h]
  congr 2
  simp
theorem OwnB.froz8 {E : TypeId} {w : World} {g : Nat} {zs : List Int} (h : OwnB E w g zs) (j : Nat) : w.frozen? ⟨g, j, none⟩ = false := frozen_of_row w g j _ _ h

set_option maxRecDepth 100000 in
set_option maxHeartbeats 4000000 in
theorem rblock_any (key nonce : List Int) (c : BitVec 32) (w : World) (hk : IsBytes key) (hkl : key.length = 32) (hn : IsBytes nonce) (hnl : nonce.length = 12) :
    Calls Tryd.prog 52 #[.agg (bV key), .agg (bV nonce), .int .u32 (c.toNat : Int)] w fun e w' => e = .returned (.agg (bV (blkL (stW key nonce c)))) ∧ Below w.heap.size w w' := by
  have n1 := heap_alloc_new w (Obj.cells (bV key) 29)
  have n2 := heap_alloc_new (w.alloc (Obj.cells (bV key) 29)) (Obj.cells (bV nonce) 40)
  have n3 := heap_alloc_new ((w.alloc (Obj.cells (bV key) 29)).alloc (Obj.cells (bV nonce) 40)) (Obj.cells (bV (zL 64)) 87)
  have n4 := heap_alloc_new (((w.alloc (Obj.cells (bV key) 29)).alloc (Obj.cells (bV nonce) 40)).alloc (Obj.cells (bV (zL 64)) 87)) (Obj.cells (arrV zW) 90)
  simp only [size_alloc] at n2 n3 n4
  have hR : RB w (((((w.alloc (Obj.cells (bV key) 29)).alloc (Obj.cells (bV nonce) 40)).alloc (Obj.cells (bV (zL 64)) 87)).alloc (Obj.cells (arrV zW) 90)).setRow (w.heap.size + 3) (arrV (preW 0))) w.heap.size (w.heap.size + 1) (w.heap.size + 2) (w.heap.size + 3) key nonce (zL 64) (preW 0) := by
    have hb := below_alloc (below_alloc (below_alloc (below_alloc (Below.refl w.heap.size w) (Obj.cells (bV key) 29)) (Obj.cells (bV nonce) 40)) (Obj.cells (bV (zL 64)) 87)) (Obj.cells (arrV zW) 90)
    have ho := OnlyAt.setRow (w.heap.size + 3) ((((w.alloc (Obj.cells (bV key) 29)).alloc (Obj.cells (bV nonce) 40)).alloc (Obj.cells (bV (zL 64)) 87)).alloc (Obj.cells (arrV zW) 90)) (arrV (preW 0))
    exact ⟨ho.own (block_alloc (block_alloc (block_alloc n1 _) _) _) (by omega), ho.own (block_alloc (block_alloc n2 _) _) (by omega), ho.own (block_alloc n3 _) (by omega), setRow_heap _ _ _ _ _ _ n4, ho.below hb (by omega)⟩
  go_enter Tryd.func52, Tryd.ntmps52
  go_wp2_with (first
    | (refine wpList_newA (by rfl) 87 (by rfl) _ zero64 (w.heap.size + 2) (by rw [size_alloc, size_alloc]) ?_)
    | (refine wpList_newA (by rfl) 90 (by rfl) _ zero16 (w.heap.size + 3) (by rw [size_alloc, size_alloc, size_alloc]) ?_)
    | (refine wpList_build_is rfl 90 _ rfl (arrV (preW 0)) (by kernel_rfl) ?_)
    | (refine wpList_putA arrT16 (by rfl) _ _ (by rfl) (w.heap.size + 3) (arrV (preW 0)) (by rfl) (by rfl) _ n4 (arrV_size _) (arrV_size _) (arrV_one _) ?_))
  generalize (((((w.alloc (Obj.cells (bV key) 29)).alloc (Obj.cells (bV nonce) 40)).alloc (Obj.cells (bV (zL 64)) 87)).alloc (Obj.cells (arrV zW) 90)).setRow (w.heap.size + 3) (arrV (preW 0))) = W0 at *
  clear n1 n2 n3 n4
  go_loopw [8] (fun v wr => ∃ k : Nat, k ≤ 8 ∧ v = .int .i64 k ∧ RB w wr w.heap.size (w.heap.size + 1) (w.heap.size + 2) (w.heap.size + 3) key nonce (zL 64) (putW (preW 0) 4 key k)) (fun v _ => 8 - (intOf v).toNat)
  case atStart => exact ⟨0, Nat.zero_le _, rfl, by rw [putW_zero]; exact hR⟩
  case round =>
    clear hR
    obtain ⟨k, hk8, rfl, hR⟩ := hrel
    by_cases hlt : k < 8
    · have hcut := run_arr_mid (P := Tryd.prog) Tryd.underlying29 Tryd.size_u8 w.heap.size .i64 .i64 (4 * (k : Int)) (4 * (k : Int) + 4) (4 * k) (4 * k + 4) (by omega) (by omega) (by omega) (by omega) (by omega)
      rw [show 4 * k + 4 - 4 * k = 4 by omega] at hcut
      have HG := rget_word hR.kk hk hkl k (by omega) (by decide)
      have hu := u32_lt (word4 key k)
      have hcell := hR.st.cell (4 + k) (by omega)
      have hfro := hR.st.frozen (4 + k)
      have hR' := hR.set (by omega) (by omega) (by omega) (by omega) (4 + k) (word4 key k)
      rw [putW_succ] at hR'
      clear hR
      generalize word4 key k = X at *
      generalize putW (preW 0) 4 key k (4 + k) = Y at *
      go_wp2_with fail
      refine HG.mono ?_
      rintro e w1 ⟨rfl, rfl⟩
      go_wp2_with fail
      go_roundw
      case rel => exact ⟨k + 1, by omega, by go_num, hR'⟩
      case measure => simp [intOf]; omega
    · obtain rfl : k = 8 := by omega
      have hcell := hR.st.cell 12 (by decide)
      have hfro := hR.st.frozen 12
      have hR2 := hR.set (by omega) (by omega) (by omega) (by omega) 12 c
      clear hR
      generalize putW (preW 0) 4 key 8 12 = Y at *
      go_wp2_with fail
      generalize (wr.setCell ⟨w.heap.size + 3, 12, none⟩ (.int .u32 (c.toNat : Int))) = W1 at *
      clear hcell hfro
      have HF : Hid (putW (upd (putW (preW 0) 4 key 8) 12 c) 13 nonce 3 = stW key nonce c) := stW_fill key nonce c
      generalize upd (putW (preW 0) 4 key 8) 12 c = xs0 at *
      rw [show ((8 : Nat) : Int) = 8 from rfl]
      go_loopw [9] (fun v wr => ∃ k : Nat, k ≤ 3 ∧ v = .int .i64 k ∧ RB w wr w.heap.size (w.heap.size + 1) (w.heap.size + 2) (w.heap.size + 3) key nonce (zL 64) (putW xs0 13 nonce k)) (fun v _ => 3 - (intOf v).toNat)
      case atStart => exact ⟨0, Nat.zero_le _, rfl, by rw [putW_zero]; exact hR2⟩
      case round =>
        clear hR2
        obtain ⟨k, hk3, rfl, hR⟩ := hrel
        by_cases hlt2 : k < 3
        · have hcut := run_arr_mid (P := Tryd.prog) Tryd.underlying40 Tryd.size_u8 (w.heap.size + 1) .i64 .i64 (4 * (k : Int)) (4 * (k : Int) + 4) (4 * k) (4 * k + 4) (by omega) (by omega) (by omega) (by omega) (by omega)
          rw [show 4 * k + 4 - 4 * k = 4 by omega] at hcut
          have HG := rget_word hR.nn hn hnl k (by omega) (by decide)
          have hu := u32_lt (word4 nonce k)
          have hcell := hR.st.cell (13 + k) (by omega)
          have hfro := hR.st.frozen (13 + k)
          have hR' := hR.set (by omega) (by omega) (by omega) (by omega) (13 + k) (word4 nonce k)
          rw [putW_succ] at hR'
          clear hR
          generalize word4 nonce k = X at *
          generalize putW xs0 13 nonce k (13 + k) = Y at *
          go_wp2_with fail
          refine HG.mono ?_
          rintro e w1 ⟨rfl, rfl⟩
          go_wp2_with fail
          go_roundw
          case rel => exact ⟨k + 1, by omega, by go_num, hR'⟩
          case measure => simp [intOf]; omega
        · obtain rfl : k = 3 := by omega
          rw [HF.out] at hR
          clear HF
          obtain ⟨xs, HX⟩ : ∃ xs, Hid (stW key nonce c = xs) := ⟨_, rfl⟩
          rw [HX.out] at hR
          have hst := hR.st
          have hlt4 : w.heap.size + 3 < wr.heap.size := hst.lt
          have n5 := heap_alloc_new wr (Obj.cells (arrV zW) 90)
          have hR5 := (hR.later (below_alloc (Below.refl _ _) (Obj.cells (arrV zW) 90))).only (OnlyAt.setRow wr.heap.size _ (arrV xs)) (by omega) (by omega) (by omega) (by omega) (by omega)
          have hT5 : ArrU 90 ((wr.alloc (Obj.cells (arrV zW) 90)).setRow wr.heap.size (arrV xs)) wr.heap.size xs := setRow_heap _ _ _ _ _ _ n5
          go_wp2_with (first
            | (refine wpList_loadA arrT16 (by rfl) _ (by rfl) (w.heap.size + 3) (by rfl) (arrV xs) hst (arrV_size _) ?_)
            | (refine wpList_newA (by rfl) 90 (by rfl) _ zero16 wr.heap.size rfl ?_)
            | (refine wpList_putA arrT16 (by rfl) _ _ (by rfl) wr.heap.size (arrV xs) (by rfl) (by rfl) _ n5 (arrV_size _) (arrV_size _) (arrV_one _) ?_))
          generalize ((wr.alloc (Obj.cells (arrV zW) 90)).setRow wr.heap.size (arrV xs)) = W5 at *
          generalize wr.heap.size = gw at *
          clear hR hst n5
          go_loopw [11] (fun v wr => ∃ k : Nat, k ≤ 10 ∧ v = .int .i64 k ∧ RB w wr w.heap.size (w.heap.size + 1) (w.heap.size + 2) (w.heap.size + 3) key nonce (zL 64) xs ∧ ArrU 90 wr gw (turnN xs k)) (fun v _ => 10 - (intOf v).toNat)
          case atStart => exact ⟨0, Nat.zero_le _, rfl, hR5, hT5⟩
          case round =>
            clear hR5 hT5
            obtain ⟨k, hk10, rfl, hR, hT⟩ := hrel
            by_cases hlt5 : k < 10
            · have HT : Hid (dbl (turnN xs k) = turnN xs (k + 1)) := rfl
              generalize turnN xs k = ys at *
              go_wp2_with (refine wpList_loadA arrT16 (by rfl) _ (by rfl) gw (by rfl) (arrV ys) hT (arrV_size _) ?_)
              refine (rdouble_any ys wr).mono ?_
              rintro e w1 ⟨rfl, hb⟩
              have hT1 := hT.below hb hT.lt
              have hR1 := hR.later hb
              have hR2 := hR1.only (OnlyAt.setRow gw w1 (arrV (dbl ys))) (by omega) (by omega) (by omega) (by omega) (by omega)
              have hT2 := hT1.setRow (dbl ys)
              clear hT hR hb hR1
              generalize dbl ys = zs at *
              go_wp2_with (refine wpList_putA arrT16 (by rfl) _ _ (by rfl) gw (arrV zs) (by rfl) (by rfl) _ hT1 (arrV_size _) (arrV_size _) (arrV_one _) ?_)
              go_roundw
              case rel => exact ⟨k + 1, by omega, by go_num, hR2, by rw [← HT.out]; exact hT2⟩
              case measure => simp [intOf]; omega
            · obtain rfl : k = 10 := by omega
              have HB : ∀ k, Hid (turnN xs 10 k + xs k = blkW xs k) := fun k => rfl
              generalize turnN xs 10 = ys at *
              have n6 := heap_alloc_new wr (Obj.cells (bV (zL 64)) 87)
              have hR6 := hR.later (below_alloc (Below.refl _ _) (Obj.cells (bV (zL 64)) 87))
              have hT6 : ArrU 90 (wr.alloc (Obj.cells (bV (zL 64)) 87)) gw ys := block_alloc hT _
              have hP6 : OwnB 87 (wr.alloc (Obj.cells (bV (zL 64)) 87)) wr.heap.size (preB xs 0) := by rw [preB_zero]; exact n6
              have hgw : gw < wr.heap.size := hT.lt
              go_wp2_with (refine wpList_newA (by rfl) 87 (by rfl) _ zero64 wr.heap.size rfl ?_)
              generalize (wr.alloc (Obj.cells (bV (zL 64)) 87)) = W6 at *
              generalize wr.heap.size = gb at *
              clear hR hT n6
              go_loopw [13] (fun v wr => ∃ i : Nat, i ≤ 16 ∧ v = .int .i64 i ∧ RB w wr w.heap.size (w.heap.size + 1) (w.heap.size + 2) (w.heap.size + 3) key nonce (zL 64) xs ∧ ArrU 90 wr gw ys ∧ OwnB 87 wr gb (preB xs (4 * i))) (fun v _ => 16 - (intOf v).toNat)
              case atStart => exact ⟨0, Nat.zero_le _, rfl, hR6, hT6, hP6⟩
              case round =>
                clear hR6 hT6 hP6
                obtain ⟨i, hi16, rfl, hR, hT, hP⟩ := hrel
                by_cases hlt6 : i < 16
                · have hX : IntKind.u32.wrap (((ys i).toNat : Int) + ((xs i).toNat : Int)) = ((blkW xs i).toNat : Int) := by rw [← (HB i).out]; exact u32_add_bv _ _
                  have hXl := u32_lt (blkW xs i)
                  have hyl := u32_lt (ys i)
                  have hxl := u32_lt (xs i)
                  have hc1 := hT.cell i hlt6
                  have hc2 := hR.st.cell i hlt6
                  have hiI : (i : Int) < 16 := by omega
                  go_wp2_with fail
                  refine wp_region_ord 1000 [0, 1, 2, 3, 4, 5, 6, 7] (fun w' => w'.cell? ⟨gw, i, none⟩ = some (.int .u32 ((ys i).toNat : Int)) ∧ w'.cell? ⟨w.heap.size + 3, i, none⟩ = some (.int .u32 ((xs i).toNat : Int))) (fun _ => True) (by kernel_rfl) (by kernel_rfl) (by kernel_rfl) ⟨hc1, hc2⟩ trivial (fun _ _ => ?_)
                  have hR1 := hR.drew
                  have hT1 : ArrU 90 wr.drew gw ys := hT
                  have hP1 : OwnB 87 wr.drew gb (preB xs (4 * i)) := hP
                  generalize wr.drew = W7 at *
                  clear hR hT hP hc1 hc2
                  repeat' (refine wpOrd_quiet (v := ?_) rfl rfl (fun _ _ _ h => h) (by rfl) ?_ ?_
                           rotate_left
                           · (intro w' hT' _; obtain ⟨t1, t2⟩ := hT'; go_simp; try rfl)
                           simp only [Act.put, List.setIfInBounds_toArray, List.set_cons_zero, List.set_cons_succ])
                  refine wpOrd_nil ?_
                  go_wp2_with fail
                  have HK : ∀ j, j < 4 → Hid (((blkW xs i).toNat : Int) / 2 ^ (8 * j) % 256 = kb xs (4 * i + j)) := fun j hj => by
                    show _ = _
                    unfold kb byteAt
                    rw [show (4 * i + j) / 4 = i by omega, show (4 * i + j) % 4 = j by omega, Int.pow_mul]
                    rfl
                  generalize ((blkW xs i).toNat : Int) = N at *
                  clear hX hyl hxl
                  go_loopw [15] (fun v wr => ∃ j : Nat, j ≤ 4 ∧ v = .int .i64 j ∧ RB w wr w.heap.size (w.heap.size + 1) (w.heap.size + 2) (w.heap.size + 3) key nonce (zL 64) xs ∧ ArrU 90 wr gw ys ∧ OwnB 87 wr gb (preB xs (4 * i + j))) (fun v _ => 4 - (intOf v).toNat)
                  case atStart => exact ⟨0, Nat.zero_le _, rfl, hR1, hT1, hP1⟩
                  case round =>
                    clear hR1 hT1 hP1
                    obtain ⟨j, hj4, rfl, hR, hT, hP⟩ := hrel
                    by_cases hlt7 : j < 4
                    · have hN0 : 0 ≤ N / 2 ^ (8 * j) := Int.ediv_nonneg hXl.1 (Int.le_of_lt (Int.pow_pos (by decide)))
                      have hN1 : N / 2 ^ (8 * j) < 4294967296 := Int.lt_of_le_of_lt (Int.ediv_le_self _ hXl.1) hXl.2
                      have hcell := hP.cell (4 * i + j) (by rw [preB_length]; omega)
                      have hfro := hP.froz8 (4 * i + j)
                      have ho := OnlyAt.setCell' gb (4 * i + j) wr (.int .u8 (kb xs (4 * i + j)))
                      have hP' := hP.put8 (4 * i + j) (kb xs (4 * i + j))
                      rw [preB_set xs (4 * i + j) (by omega)] at hP'
                      have hR' := hR.only ho (by omega) (by omega) (by omega) (by omega) (by omega)
                      have hT' : ArrU 90 (wr.setCell ⟨gb, 4 * i + j, none⟩ (.int .u8 (kb xs (4 * i + j)))) gw ys := hT.other (ho.block _ (by omega))
                      have HKj := HK j hlt7
                      rw [← HKj.out] at hP' hR' hT'
                      clear hP hR hT ho
                      generalize (preB xs (4 * i + j)).getD (4 * i + j) 0 = Z at *
                      go_wp2_with fail
                      go_roundw
                      case rel => exact ⟨j + 1, by omega, by go_num, hR', hT', hP'⟩
                      case measure => simp [intOf]; omega
                    · obtain rfl : j = 4 := by omega
                      go_wp2_with fail
                      go_roundw
                      case rel => exact ⟨i + 1, by omega, by go_num, hR, hT, hP⟩
                      case measure => simp [intOf]; omega
                · obtain rfl : i = 16 := by omega
                  rw [show 4 * 16 = 64 from rfl, preB_all] at hP
                  have hz := hR.oo
                  go_wp2_with (first
                    | (refine wpList_loadA arrT64 (by rfl) _ (by rfl) gb (by rfl) (bV (blkL xs)) hP (by rw [bV_size, blkL_length]) ?_)
                    | (refine wpList_putA arrT64 (by rfl) _ _ (by rfl) (w.heap.size + 2) (bV (blkL xs)) (by rfl) (by rfl) _ hz (by rw [bV_size, blkL_length]) (bV_size _) (bV_one _) ?_))
                  refine bodyPost_ret (results_cell_row rfl _ _ _ _ _ _ _ rfl (setRow_heap _ _ _ _ _ _ hz) Tryd.underlying87 rfl (by rw [bV_size, blkL_length, info_b64])) rfl ?_
                  exact ⟨by rw [HX.out], Below.setRow hR.bel (by omega) _⟩
#print axioms rblock_any
end Go.Proofs.YtlfcejfpdgdnkaaDoor

/- What a call of dumbwaiterref1.Xor does: for every key, nonce, counter and every slice of at most 100000 bytes that can be read; nothing that was there is turned. -/
namespace Go.Proofs.YtlfcejfpdgdnkaaDoor
open Go.RowKit
set_option maxRecDepth 20000

theorem rblock_at (key nonce : List Int) (c : BitVec 32) (K M : Array Value) (ci : Int) (w : World) (hK : K = bV key) (hM : M = bV nonce) (hc : ci = (c.toNat : Int)) (hk : IsBytes key) (hkl : key.length = 32) (hn : IsBytes nonce) (hnl : nonce.length = 12) :
    Calls Tryd.prog 52 #[.agg K, .agg M, .int .u32 ci] w fun e w' => e = .returned (.agg (bV (blkL (stW key nonce c)))) ∧ Below w.heap.size w w' := by
  subst hK hM hc
  exact rblock_any key nonce c w hk hkl hn hnl

/-- A row of which the first k bytes are sealed. -/
def mixL (key nonce : List Int) (c : BitVec 32) (zs : List Int) (k : Nat) : List Int := rowL (fun i => if i < k then xr (zs.getD i 0) (ks key nonce c i) else zs.getD i 0) zs.length
theorem mixL_length (key nonce : List Int) (c : BitVec 32) (zs : List Int) (k : Nat) : (mixL key nonce c zs k).length = zs.length := rowL_length _ _
theorem mixL_zero (key nonce : List Int) (c : BitVec 32) (zs : List Int) : mixL key nonce c zs 0 = zs := (rowL_of zs _ _ rfl fun i _ => by simp).symm
theorem mixL_all (key nonce : List Int) (c : BitVec 32) (zs : List Int) (k : Nat) (hk : zs.length ≤ k) : mixL key nonce c zs k = xorL key nonce c zs := rowL_congr fun i hi => by simp [show i < k by omega]
theorem mixL_getD (key nonce : List Int) (c : BitVec 32) (zs : List Int) (k : Nat) (hk : k < zs.length) : (mixL key nonce c zs k).getD k 0 = zs.getD k 0 := by
  rw [mixL, rowL_getD _ _ _ hk, if_neg (by omega)]
theorem mixL_set (key nonce : List Int) (c : BitVec 32) (zs : List Int) (k : Nat) (hk : k < zs.length) : (mixL key nonce c zs k).set k (xr (zs.getD k 0) (ks key nonce c k)) = mixL key nonce c zs (k + 1) := by
  refine rowL_of _ _ _ (by simp [mixL_length]) fun i hi => ?_
  by_cases e : i = k
  · subst e
    simp [List.getD, mixL_length, hk]
  · have : ((mixL key nonce c zs k).set k (xr (zs.getD k 0) (ks key nonce c k))).getD i 0 = (mixL key nonce c zs k).getD i 0 := by simp [List.getD, Ne.symm e]
    rw [this, mixL, rowL_getD _ _ _ hi]
    by_cases h : i < k
    · rw [if_pos h, if_pos (by omega)]
    · rw [if_neg h, if_neg (by omega)]

theorem OwnS.other {E : TypeId} {base g : Nat} {w w' : World} {b : Nat} {n cap : Nat} {xs : List Int} (h : OwnS E base w (some ⟨b, 0, none⟩) n cap xs) (ho : OnlyAt g w w') (hne : b ≠ g) : OwnS E base w' (some ⟨b, 0, none⟩) n cap xs := by
  obtain ⟨h0, hl, h1, h2⟩ := h
  refine ⟨h0, hl, h1, ?_⟩
  rcases h2 with h3 | ⟨g', c, cur, h3, h4, h5, h6⟩
  · exact .inl h3
  · have e : b = g' := by
      have h7 := h3
      simp at h7
      exact h7.1
    subst e
    exact .inr ⟨b, c, cur, h3, h4, (ho.block b hne).trans h5, h6⟩

theorem rxor_no (key nonce : List Int) (c : BitVec 32) {a : Option Addr} {len cap : Nat} (w : World) (hl : len ≤ 100000) (hf : fits c len = false) :
    Calls Tryd.prog 36 #[.agg (bV key), .agg (bV nonce), .int .u32 (c.toNat : Int), .slice a len cap] w fun e w' => e = .returned (.tuple #[.slice none 0 0, .bool false]) ∧ Below w.heap.size w w' := by
  have hc := u32_lt c
  have hf' : ¬ len ≤ 64 * (4294967296 - c.toNat) := by simpa [fits] using hf
  have hlt : (4294967296 : Int) - (c.toNat : Int) < ((len : Int) + 63) / 64 := by omega
  clear hf hf'
  go_enter Tryd.func36, Tryd.ntmps36
  go_wp2_with fail
  go_ret2
  exact ⟨rfl, below_alloc (below_alloc (Below.refl _ _) _) _⟩

set_option maxRecDepth 100000 in
set_option maxHeartbeats 4000000 in
theorem rxor_ok (key nonce : List Int) (c : BitVec 32) {a : Option Addr} {len cap : Nat} {zs : List Int} (w : World) (hk : IsBytes key) (hkl : key.length = 32) (hn : IsBytes nonce) (hnl : nonce.length = 12) (hb : Bs w a len cap zs) (hl : len ≤ 100000) (hf : fits c len = true) (hg : Glob w) :
    Calls Tryd.prog 36 #[.agg (bV key), .agg (bV nonce), .int .u32 (c.toNat : Int), .slice a len cap] w fun e w' => ∃ b cap', e = .returned (.tuple #[.slice b len cap', .bool true]) ∧ Bs w' b len cap' (xorL key nonce c zs) ∧ Below w.heap.size w w' := by
  have hc := u32_lt c
  have hf' : len ≤ 64 * (4294967296 - c.toNat) := by simpa [fits] using hf
  have hge : ((len : Int) + 63) / 64 ≤ (4294967296 : Int) - (c.toNat : Int) := by omega
  clear hf hf'
  have hz := hb.length
  have hS := KN.start w key nonce hg
  obtain ⟨W0, hW0⟩ : ∃ W0, ((w.alloc (Obj.cells (bV key) 29)).alloc (Obj.cells (bV nonce) 40)) = W0 := ⟨_, rfl⟩
  have hs0 : W0.heap.size = w.heap.size + 2 := by rw [← hW0, size_alloc, size_alloc]
  rw [hW0] at hS
  obtain ⟨a4, c4, w4, hr4, ho4, hg4, _⟩ := run_append_bytes (P := Tryd.prog) Tryd.underlying36 Tryd.info_u8 36 W0.heap.size (W0.alloc (Obj.cells #[] 5)) (some ⟨W0.heap.size, 0, none⟩) 0 0 [] (OwnB.owns (E := 5) (heap_alloc_new W0 (Obj.cells #[] 5)) IsBytes.nil rfl (by omega) (Nat.le_refl _)) _ len cap _ (hb.below (below_alloc hS.bel _)) (by omega) (by simp)
  have hb4 : Below W0.heap.size W0 w4 := ((Below.refl _ _).alloc (Nat.le_refl _) _).grown hg4 (by simp) (by intro k hk; simp [Value.ownBlock] at hk; omega)
  rw [List.nil_append, Nat.zero_add] at ho4
  rw [Nat.zero_add] at hr4
  have hS4 := hS.later hb4
  rw [hs0] at ho4 hr4
  rw [← hW0] at hr4
  clear hg4 hb4 hS hs0 hW0
  go_enter Tryd.func36, Tryd.ntmps36
  go_wp2_with (at_builtin; refine wpList_append_run (by rfl) (.tmp 22) (.tmp 23) 36 (by rfl) _ _ _ _ (by rfl) (by rfl) hr4 ?_)
  clear hr4
  rw [← mixL_zero key nonce c zs] at ho4
  go_loopw [11] (fun v wr => ∃ q m : Nat, v = .int .i64 q ∧ q = 64 * m ∧ q < len + 64 ∧ KN w wr key nonce ∧ OwnS 5 (w.heap.size + 2) wr a4 len c4 (mixL key nonce c zs q)) (fun v _ => len + 64 - (intOf v).toNat)
  case atStart => exact ⟨0, 0, rfl, rfl, by omega, hS4, ho4⟩
  case round =>
    clear ho4 hS4
    obtain ⟨q, m, rfl, hq, hql, hS, hO⟩ := hrel
    have HQ : Hid (q = 64 * m) := hq
    clear hq
    by_cases hlt : q < len
    · have kk := hS.kk
      have nn := hS.nn
      have hd : (q : Int) / 64 = (m : Int) := by have := HQ.out; omega
      have hm : (m : Int) < 4294967296 := by have := HQ.out; omega
      obtain ⟨c', hc'⟩ : ∃ c', c + BitVec.ofNat 32 m = c' := ⟨_, rfl⟩
      have HW : Hid ((c.toNat : Int) + (m : Int) = (c'.toNat : Int)) := by
        show _ = _
        have := HQ.out
        rw [← hc', ← u32_add_bv, IntKind.wrap_u32', BitVec.toNat_ofNat, Nat.mod_eq_of_lt (show m < 2 ^ 32 by omega)]
        omega
      have HC : Hid (c + BitVec.ofNat 32 m = c') := hc'
      clear hc'
      go_wp2_with (first
        | (refine wpList_loadA arrT32 (by rfl) _ (by rfl) w.heap.size (by rfl) (bV key) kk (by rw [bV_size, hkl]) ?_)
        | (refine wpList_loadA arrT12 (by rfl) _ (by rfl) (w.heap.size + 1) (by rfl) (bV nonce) nn (by rw [bV_size, hnl]) ?_))
      refine (rblock_at key nonce c' _ _ _ wr rfl rfl HW.out hk hkl hn hnl).mono ?_
      rintro e w3 ⟨rfl, hb3⟩
      have hS3 := hS.later hb3
      have hO3 := hO.below hb3
      clear hS hO hb3 kk nn hd
      obtain ⟨g, rfl, hbg, hgl⟩ := hO3.form (by omega)
      have HKS : ∀ j, j < 64 → Hid ((blkL (stW key nonce c')).getD j 0 = ks key nonce c (q + j)) := fun j hj => by
        show _ = _
        have e := HQ.out
        rw [blkL, rowL_getD _ _ _ hj, ks, show (q + j) / 64 = m by omega, show (q + j) % 64 = j by omega, HC.out]
      have hbb := blkL_bytes (stW key nonce c')
      have hbl := blkL_length (stW key nonce c')
      generalize blkL (stW key nonce c') = blk at *
      have n4 := heap_alloc_new w3 (Obj.cells (bV (zL 64)) 87)
      have hlw := hS3.lt
      have ho4 := OnlyAt.setRow w3.heap.size (w3.alloc (Obj.cells (bV (zL 64)) 87)) (bV blk)
      have hS4 := (hS3.alloc (Obj.cells (bV (zL 64)) 87)).only ho4 hlw
      have hO4 := (hO3.alloc (Obj.cells (bV (zL 64)) 87)).other ho4 (by omega)
      have hB4 : OwnB 87 ((w3.alloc (Obj.cells (bV (zL 64)) 87)).setRow w3.heap.size (bV blk)) w3.heap.size blk := setRow_heap _ _ _ _ _ _ n4
      go_wp2_with (first
        | (refine wpList_newA (by rfl) 87 (by rfl) _ zero64 w3.heap.size rfl ?_)
        | (refine wpList_putA arrT64 (by rfl) _ _ (by rfl) w3.heap.size (bV blk) (by rfl) (by rfl) _ n4 (by rw [bV_size, hbl]) (bV_size _) (bV_one _) ?_))
      generalize ((w3.alloc (Obj.cells (bV (zL 64)) 87)).setRow w3.heap.size (bV blk)) = W4 at *
      generalize w3.heap.size = gb at *
      clear hS3 hO3 n4 ho4
      go_loopw [13] (fun v wr => ∃ k : Nat, v = .int .i64 k ∧ k ≤ 64 ∧ q + k ≤ len ∧ KN w wr key nonce ∧ OwnS 5 (w.heap.size + 2) wr (some ⟨g, 0, none⟩) len c4 (mixL key nonce c zs (q + k)) ∧ OwnB 87 wr gb blk) (fun v _ => 64 - (intOf v).toNat)
      case atStart => exact ⟨0, rfl, Nat.zero_le _, by omega, hS4, hO4, hB4⟩
      case round =>
        clear hS4 hO4 hB4
        obtain ⟨k, rfl, hk64, hqk, hS, hO, hB⟩ := hrel
        by_cases hgo : k < 64 ∧ q + k < len
        · obtain ⟨hk1, hk2⟩ := hgo
          have f1 := hO.cell (q + k) hk2
          rw [mixL_getD _ _ _ _ _ (by omega)] at f1
          have z1 := hO.frozen (q + k)
          have f2 := hB.cell k (by omega)
          have bz := hb.bytes.getD (q + k)
          have by' := hbb.getD k
          have HK := HKS k hk1
          have hO' := fun x hx => hO.set (q + k) x hx
          obtain ⟨Z, HZ⟩ : ∃ Z, Hid (zs.getD (q + k) 0 = Z) := ⟨_, rfl⟩
          obtain ⟨Y, HY⟩ : ∃ Y, Hid (blk.getD k 0 = Y) := ⟨_, rfl⟩
          rw [HZ.out] at f1 bz
          rw [HY.out] at f2 by'
          have e1 := bits_xr Z Y bz by'
          have bx := xr_lt Z Y bz by'
          have hO2 := hO' (xr Z Y) bx
          have HM : Hid ((mixL key nonce c zs (q + k)).set (q + k) (xr Z Y) = mixL key nonce c zs (q + k + 1)) := by
            show _ = _
            rw [← HZ.out, ← HY.out, HK.out]
            exact mixL_set _ _ _ _ _ (by omega)
          rw [HM.out] at hO2
          clear hO'
          generalize xr Z Y = X at *
          have hki : (k : Int) < 64 := by omega
          have hql2 : (q : Int) + (k : Int) < (len : Int) := by omega
          go_wp2_with fail
          have ho := OnlyAt.setCell' g (q + k) wr (.int .u8 X)
          have hS2 : KN w (wr.setCell ⟨g, q + k, none⟩ (.int .u8 X)).drew key nonce := (hS.only ho (by omega)).drew
          have hB2 : OwnB 87 (wr.setCell ⟨g, q + k, none⟩ (.int .u8 X)).drew gb blk := ho.own hB (by omega)
          have hO3 : OwnS 5 (w.heap.size + 2) (wr.setCell ⟨g, q + k, none⟩ (.int .u8 X)).drew (some ⟨g, 0, none⟩) len c4 (mixL key nonce c zs (q + k + 1)) := hO2
          clear hS hB hO hO2 ho
          go_region
          generalize (wr.setCell ⟨g, q + k, none⟩ (.int .u8 X)).drew = W9 at *
          go_wp2_with fail
          go_roundw
          case rel => exact ⟨k + 1, by go_num, by omega, by omega, hS2, hO3, hB2⟩
          case measure => simp [intOf]; omega
        · have hm2 : mixL key nonce c zs (q + k) = mixL key nonce c zs (q + 64) := by
            by_cases h1 : k < 64
            · rw [mixL_all _ _ _ _ (q + k) (by omega), mixL_all _ _ _ _ (q + 64) (by omega)]
            · rw [show k = 64 by omega]
          rw [hm2] at hO
          clear hm2
          by_cases h1 : k < 64
          · have h2 : ¬ q + k < len := by omega
            have h3 : (len : Int) ≤ (q : Int) + (k : Int) := by omega
            have hkI : (k : Int) < 64 := by omega
            have HQ4 : Hid (q + 64 < len + 64 + 1 ∧ q + 64 < len + 64) := ⟨by omega, by omega⟩
            have h4 : decide ((q : Int) + (k : Int) < (len : Int)) = false := by simp; omega
            have hw : IntKind.i64.wrap ((q : Int) + (k : Int)) = (q : Int) + (k : Int) := by rw [IntKind.wrap_i64]; omega
            clear hgo h2 hqk HKS h3
            go_wp2_with fail
            go_roundw
            case rel => exact ⟨q + 64, m + 1, by go_num, by have := HQ.out; omega, by omega, hS, hO⟩
            case measure => simp [intOf]; omega
          · have hkI : ¬ (k : Int) < 64 := by omega
            clear hgo hqk HKS
            go_wp2_with fail
            go_roundw
            case rel => exact ⟨q + 64, m + 1, by go_num, by have := HQ.out; omega, by omega, hS, hO⟩
            case measure => simp [intOf]; omega
    · rw [mixL_all _ _ _ _ q (by omega)] at hO
      go_wp2_with fail
      go_ret2
      exact ⟨_, _, rfl, hO.bs, hS.bel⟩
#print axioms rxor_ok

theorem rxor_all (key nonce : List Int) (c : BitVec 32) (K M : Array Value) (ci : Int) {a : Option Addr} {len cap : Nat} {zs : List Int} (w : World) (hK : K = bV key) (hM : M = bV nonce) (hc : ci = (c.toNat : Int)) (hk : IsBytes key) (hkl : key.length = 32) (hn : IsBytes nonce) (hnl : nonce.length = 12) (hb : Bs w a len cap zs) (hl : len ≤ 100000) (hg : Glob w) :
    Calls Tryd.prog 36 #[.agg K, .agg M, .int .u32 ci, .slice a len cap] w fun e w' => ∃ b n cap', e = .returned (.tuple #[.slice b n cap', .bool (fits c len)]) ∧ Bs w' b n cap' (xorR key nonce c zs) ∧ Below w.heap.size w w' := by
  have hz := hb.length
  subst hK hM hc
  cases hf : fits c len with
  | true =>
    refine (rxor_ok key nonce c w hk hkl hn hnl hb hl hf hg).mono ?_
    rintro e w' ⟨b, cap', rfl, hO, hb'⟩
    refine ⟨_, _, _, rfl, ?_, hb'⟩
    unfold xorR
    rw [hz, if_pos hf]
    exact hO
  | false =>
    refine (rxor_no key nonce c w hl hf).mono ?_
    rintro e w' ⟨rfl, hb'⟩
    refine ⟨_, _, _, rfl, ?_, hb'⟩
    unfold xorR
    rw [hz, if_neg (by rw [hf]; decide)]
    exact Bs.nil w'
#print axioms rxor_all
end Go.Proofs.YtlfcejfpdgdnkaaDoor
