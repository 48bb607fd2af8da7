/- What a call of chac.putWords does: for every row of words inside a state and every row of bytes that tells them; only these words are turned. -/
import Derived.Test.YthhaeiafgloacaaDoorLeGet
import Derived.Test.YthhaeiafgloacaaDoorLePut
import Derived.Test.YthhaeiafgloacaaDoorCBase
namespace Go.Proofs.YthhaeiafgloacaaDoor
open Go.RowKit

/-- A state with n words from 'off' on taken out of bytes. -/
def putW (xs : Ws) (off : Nat) (zs : List Int) (n : Nat) : Ws := fun j => if off ≤ j ∧ j < off + n then word4 zs (j - off) else xs j
theorem putW_zero (xs : Ws) (off : Nat) (zs : List Int) : putW xs off zs 0 = xs := by
  funext j
  simp [putW, show ¬ (off ≤ j ∧ j < off) by omega]
theorem putW_succ (xs : Ws) (off : Nat) (zs : List Int) (n : Nat) : upd (putW xs off zs n) (off + n) (word4 zs n) = putW xs off zs (n + 1) := by
  funext j
  unfold upd putW
  by_cases h : j = off + n
  · subst h
    rw [if_pos rfl, if_pos (by omega), show off + n - off = n by omega]
  · rw [if_neg h]
    by_cases h2 : off ≤ j ∧ j < off + n
    · rw [if_pos h2, if_pos (by omega)]
    · rw [if_neg h2, if_neg (by omega)]

/-- All but block g is as it was, draws aside. -/
theorem OnlyAt.trans {g : Nat} {a b c : World} (h : OnlyAt g a b) (k : OnlyAt g b c) : OnlyAt g a c :=
  ⟨k.os.trans h.os, k.tape.trans h.tape, k.output.trans h.output, k.size.trans h.size, fun j hj => (k.block j hj).trans (h.block j hj)⟩
theorem OnlyAt.refl (g : Nat) (w : World) : OnlyAt g w w := ⟨rfl, rfl, rfl, rfl, fun _ _ => rfl⟩
theorem OnlyAt.setCell' (g i : Nat) (w : World) (v : Value) : OnlyAt g w (w.setCell ⟨g, i, none⟩ v) :=
  ⟨rfl, rfl, rfl, by simp [World.setCell], fun k hk => heap_setCell_other w _ _ _ hk⟩

set_option maxHeartbeats 400000 in
theorem putWords_any (g off n cap kg len : Nat) (xs : Ws) (zs : List Int) (E E' : TypeId) (w : World) (hx : ArrU E w g xs) (hz : OwnB E' w kg zs) (hb : IsBytes zs) (hl : zs.length = len) (hn : 4 * n ≤ len) (hlen : len ≤ 1000) (hoff : off + n ≤ 16) (hne : kg ≠ g) :
    Calls Tryd.prog 35 #[.slice (some ⟨g, off, none⟩) n cap, .slice (some ⟨kg, 0, none⟩) len len] w fun e w' => e = .returned (.tuple #[]) ∧ ArrU E w' g (putW xs off zs n) ∧ OnlyAt g w w' := by
  go_enter Tryd.func35, Tryd.ntmps35
  go_wp2_with fail
  go_loopw [7] (fun i wr => ∃ k : Nat, k ≤ n ∧ i = .int .i64 k ∧ ArrU E wr g (putW xs off zs k) ∧ OnlyAt g w wr) (fun i _ => n - (intOf i).toNat)
  case atStart => exact ⟨0, Nat.zero_le _, rfl, by rw [putW_zero]; exact hx, OnlyAt.refl _ _⟩
  case round =>
    obtain ⟨k, hk, rfl, ha, ho⟩ := hrel
    by_cases hlt : k < n
    · have hz' := (ho.own hz hne).bs hb len hl (by omega)
      have hcut := run_cut_mid (P := Tryd.prog) Tryd.underlying25 Tryd.size_u8 (some ⟨kg, 0, none⟩) len len .i64 .i64 ((k : Int) * 4) (((k : Int) + 1) * 4) (4 * k) (4 * k + 4) (by omega) (by omega) (by omega) (by omega)
      rw [show 4 * k + 4 - 4 * k = 4 by omega] at hcut
      have hbs := (hz'.cut (4 * k) (by omega)).taken 4 (by omega)
      have hnum := word4_num zs hb k
      have hu := u32_lt (word4 zs k)
      have HG := get_any wr hbs
      rw [take48, hnum] at HG
      have hsl : len - 4 * k ≤ 1000 := by omega
      have hcell := ha.cell (off + k) (by omega)
      have hfro := ha.frozen (off + k)
      have ha' := ha.set (off + k) (word4 zs k)
      rw [putW_succ] at ha'
      have ho' := ho.trans (OnlyAt.setCell' g (off + k) wr (.int .u32 ((word4 zs k).toNat : Int)))
      clear hz' hbs hnum ha ho
      generalize word4 zs k = X at *
      generalize putW xs off zs k off = Y at *
      generalize cutA (some ⟨kg, 0, none⟩) len (4 * k) = A at *
      go_wp2_with fail
      refine HG.mono ?_
      rintro e w1 ⟨rfl, rfl⟩
      go_wp2_with fail
      go_roundw
      case rel => exact ⟨k + 1, by omega, by go_num, ha', ho'⟩
      case measure => simp [intOf]; omega
    · obtain rfl : k = n := by omega
      go_wp2_with fail
      refine bodyPost_end (results_none rfl _ _ _) rfl ?_
      exact ⟨rfl, ha, ho⟩
#print axioms putWords_any
end Go.Proofs.YthhaeiafgloacaaDoor
