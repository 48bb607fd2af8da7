/- What laws over chac share: the key and the nonce that lie in memory, what a call of chac.Xor answers in either case. No conditions but those that each line states. -/
import Derived.Test.YthhaeiafgloacaaDoorCAt
import Derived.Test.YthhaeiafgloacaaDoorWords
namespace Go.Proofs.YthhaeiafgloacaaDoor
open Go.RowKit

theorem made_zL {w : World} {n : Nat} {E : TypeId} : OwnB E (w.alloc (Obj.cells (madeCells #[Value.int IntKind.u8 0] n) E)) w.heap.size (zL n) :=
  OwnB.of_rowIs (World.rowIs_made w (.int .u8 0) n E) _ (zL_length _) fun i _ => by rw [zL_getD]

/-- The key and the nonce of the call, in the first two blocks that it made. -/
structure KN (w W : World) (key nonce : List Int) : Prop where
  kk : OwnB 22 W w.heap.size key
  nn : OwnB 35 W (w.heap.size + 1) nonce
  bel : Below w.heap.size w W
  gl : Glob W
theorem KN.start (w : World) (key nonce : List Int) (hg : Glob w) : KN w ((w.alloc (Obj.cells (bV key) 22)).alloc (Obj.cells (bV nonce) 35)) key nonce := by
  have n1 := heap_alloc_new w (Obj.cells (bV key) 22)
  have n2 := heap_alloc_new (w.alloc (Obj.cells (bV key) 22)) (Obj.cells (bV nonce) 35)
  simp only [size_alloc] at n2
  have hb0 := below_alloc (below_alloc (Below.refl w.heap.size w) (Obj.cells (bV key) 22)) (Obj.cells (bV nonce) 35)
  exact ⟨block_alloc n1 _, n2, hb0, hg.below hb0 hg.lt⟩
theorem KN.later {w W W' : World} {key nonce : List Int} (h : KN w W key nonce) (hb : Below W.heap.size W W') : KN w W' key nonce :=
  ⟨h.kk.below hb, h.nn.below hb, h.bel.trans (hb.mono h.bel.size), h.gl.below hb h.gl.lt⟩
theorem KN.drew {w W : World} {key nonce : List Int} (h : KN w W key nonce) : KN w W.drew key nonce := ⟨h.kk, h.nn, h.bel.drew, h.gl⟩
theorem KN.alloc {w W : World} {key nonce : List Int} (h : KN w W key nonce) (o : Obj) : KN w (W.alloc o) key nonce := h.later (below_alloc (Below.refl _ _) o)
theorem KN.lt {w W : World} {key nonce : List Int} (h : KN w W key nonce) : w.heap.size + 1 < W.heap.size := h.nn.lt
theorem KN.only {w W W' : World} {key nonce : List Int} {g : Nat} (h : KN w W key nonce) (ho : OnlyAt g W W') (hg : w.heap.size + 1 < g) : KN w W' key nonce :=
  ⟨ho.own h.kk (by omega), ho.own h.nn (by omega), ho.below h.bel (by omega), rangeAt_keep h.gl (ho.block _ (by omega))⟩
theorem KN.setRow {w W : World} {key nonce : List Int} {g : Nat} (h : KN w W key nonce) (hg : w.heap.size + 1 < g) (cs : Array Value) : KN w (W.setRow g cs) key nonce := h.only (OnlyAt.setRow g W cs) hg

/-- What chac.Xor answers beside its bool. -/
def xorR (key nonce : List Int) (c : BitVec 32) (zs : List Int) : List Int := if fits c zs.length = true then xorL key nonce c zs else []
theorem xor_all (key nonce : List Int) (c : BitVec 32) (K M : Array Value) (ci : Int) {a : Option Addr} {len cap : Nat} {zs : List Int} (w : World) (hK : K = bV key) (hM : M = bV nonce) (hc : ci = (c.toNat : Int)) (hk : IsBytes key) (hkl : key.length = 32) (hn : IsBytes nonce) (hnl : nonce.length = 12) (hb : Bs w a len cap zs) (hl : len ≤ 1099511627776) (hg : Glob w) :
    Calls Tryd.prog 21 #[.agg K, .agg M, .int .u32 ci, .slice a len cap] w fun e w' => ∃ b n, e = .returned (.tuple #[.slice b n n, .bool (fits c len)]) ∧ Bs w' b n n (xorR key nonce c zs) ∧ Below w.heap.size w w' := by
  have hz := hb.length
  cases hf : fits c len with
  | true =>
    refine (xor_at key nonce c K M ci w hK hM hc hk hkl hn hnl hb hl hf hg).mono ?_
    rintro e w' ⟨g, rfl, hO, _, hb'⟩
    refine ⟨_, _, rfl, ?_, hb'⟩
    unfold xorR
    rw [hz, if_pos hf]
    exact hO.bs (xorL_bytes _ _ _ _ hb.bytes) len (by rw [xorL_length, hz]) (by omega)
  | false =>
    refine (xor_no_at key nonce c K M ci w hK hM hc hl hf).mono ?_
    rintro e w' ⟨rfl, hb'⟩
    refine ⟨_, _, rfl, ?_, hb'⟩
    unfold xorR
    rw [hz, if_neg (by rw [hf]; decide)]
    exact Bs.nil w'
#print axioms xor_all
end Go.Proofs.YthhaeiafgloacaaDoor
