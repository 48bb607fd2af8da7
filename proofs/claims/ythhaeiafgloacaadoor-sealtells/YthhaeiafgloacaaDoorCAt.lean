/- Calls of chac.Xor whose arguments are equal to what its contracts name; rows of the call's own that are written cell by cell. No conditions but those that each line states. -/
import Derived.Test.YthhaeiafgloacaaDoorCXor
namespace Go.Proofs.YthhaeiafgloacaaDoor
open Go.RowKit

theorem zero32 : (Tryd.prog.info? 22).bind (·.zero) = some (.agg (bV (zL 32))) := by kernel_rfl

theorem OwnB.put {E : TypeId} {w : World} {g : Nat} {zs : List Int} (h : OwnB E w g zs) (i : Nat) (x : Int) : OwnB E (w.setCell ⟨g, i, none⟩ (.int .u8 x)) g (zs.set i x) := by
  unfold OwnB at h ⊢
  rw [heap_setCell_same w g i _ _ _ h]
  congr 2
  simp
theorem OwnB.froz {E : TypeId} {w : World} {g : Nat} {zs : List Int} (h : OwnB E w g zs) (j : Nat) : w.frozen? ⟨g, j, none⟩ = false := frozen_of_row w g j _ _ h

theorem xor_no_at (key nonce : List Int) (c : BitVec 32) (K M : Array Value) (ci : Int) {a : Option Addr} {len cap : Nat} (w : World) (hK : K = bV key) (hM : M = bV nonce) (hc : ci = (c.toNat : Int)) (hl : len ≤ 1099511627776) (hf : fits c len = false) :
    Calls Tryd.prog 21 #[.agg K, .agg M, .int .u32 ci, .slice a len cap] w fun e w' => e = .returned (.tuple #[.slice none 0 0, .bool false]) ∧ Below w.heap.size w w' := by
  subst hK hM hc
  exact xor_no key nonce c w hl hf
theorem xor_at (key nonce : List Int) (c : BitVec 32) (K M : Array Value) (ci : Int) {a : Option Addr} {len cap : Nat} {zs : List Int} (w : World) (hK : K = bV key) (hM : M = bV nonce) (hc : ci = (c.toNat : Int)) (hk : IsBytes key) (hkl : key.length = 32) (hn : IsBytes nonce) (hnl : nonce.length = 12) (hb : Bs w a len cap zs) (hl : len ≤ 1099511627776) (hf : fits c len = true) (hg : Glob w) :
    Calls Tryd.prog 21 #[.agg K, .agg M, .int .u32 ci, .slice a len cap] w fun e w' => ∃ g, e = .returned (.tuple #[.slice (some ⟨g, 0, none⟩) len len, .bool true]) ∧ OwnB 5 w' g (xorL key nonce c zs) ∧ w.heap.size ≤ g ∧ Below w.heap.size w w' := by
  subst hK hM hc
  exact xor_ok key nonce c w hk hkl hn hnl hb hl hf hg

end Go.Proofs.YthhaeiafgloacaaDoor
