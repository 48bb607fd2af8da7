
/- What calls of math/bits answer of a power of two and of small numbers, wherever bits.deBruijn64tab reads as its text says; nothing is turned. -/
import Derived.Test.YtmaknnlccmfmpaaDoorRows
import Derived.Test.YtmaknnlccmfmpaaDoorTrBase
import Derived.Lib.Tables
namespace Go.Proofs.YtmaknnlccmfmpaaDoor
open Go.RowKit
set_option maxRecDepth 20000

/-- What bits.deBruijn64tab reads as. -/
def litN : DataW Unit → Int
  | .lit (.int _ n) => n
  | _ => 0
def partsN : DataW Unit → List Int
  | .agg l => l.map litN
  | _ => []
def dbN : List Int := partsN Rows.laid_math_bits_deBruijn64tab
def dbL : List Value := dbN.map (Value.int .u8)
def Tab (w : World) : Prop := w.rangeAt 1 0 dbL
theorem Tab.lt {w : World} (h : Tab w) : 1 < w.heap.size := World.block_lt_of_cell? w _ (h 0 (.int .u8 0) rfl)
theorem Tab.below {w w' : World} {B : Nat} (h : Tab w) (hb : Below B w w') (hB : 1 < B) : Tab w' := fun j v hv => by
  rw [hb.cell (p := ⟨1, 0 + j, none⟩) hB]; exact h j v hv
theorem Tab.at_ {w : World} (h : Tab w) (j : Nat) (v : Value) (hj : dbL[j]? = some v) : w.cell? ⟨1, j, none⟩ = some v := by
  have := h j v hj
  rwa [Nat.zero_add] at this

theorem db_pow (k : Nat) (hk : k ≤ 16) : dbL[(2 ^ k * 285870213051353865 % 18446744073709551616) / 288230376151711744]? = some (.int .u8 (k : Int)) := by
  rcases k with _ | _ | _ | _ | _ | _ | _ | _ | _ | _ | _ | _ | _ | _ | _ | _ | _ | k
  all_goals first | rfl | (exfalso; omega)

theorem neg_pow (k : Nat) (hk : k ≤ 16) : bits .and .u64 ((2 ^ k : Nat) : Int) (IntKind.u64.wrap (-((2 ^ k : Nat) : Int))) = ((2 ^ k : Nat) : Int) :=
  (by decide +kernel : ∀ k : Fin 17, bits .and .u64 ((2 ^ k.val : Nat) : Int) (IntKind.u64.wrap (-((2 ^ k.val : Nat) : Int))) = ((2 ^ k.val : Nat) : Int)) ⟨k, by omega⟩

set_option maxRecDepth 100000 in
set_option maxHeartbeats 4000000 in
theorem tz64_any (k : Nat) (hk : k ≤ 16) (w : World) (hg : Tab w) :
    Calls Tryd.prog 28 #[.int .u64 ((2 ^ k : Nat) : Int)] w fun e w' => e = .returned (.int .i64 (k : Int)) ∧ w = w' := by
  have hp := pow16 hk
  have hA := neg_pow k hk
  have hT := db_pow k hk
  obtain ⟨p, hpe⟩ : ∃ p : Nat, 2 ^ k = p := ⟨_, rfl⟩
  rw [hpe] at hp hA hT
  rw [hpe]
  obtain ⟨r, hr⟩ : ∃ r : Nat, p * 285870213051353865 % 18446744073709551616 = r := ⟨_, rfl⟩
  obtain ⟨j, hj⟩ : ∃ j : Nat, r / 288230376151711744 = j := ⟨_, rfl⟩
  have hM : IntKind.u64.wrap ((p : Int) * 285870213051353865) = (r : Int) := by rw [wrap_u64]; omega
  have hS : (r : Int) / 288230376151711744 = (j : Int) := by omega
  have hj64 : j < 64 := by omega
  rw [hr, hj] at hT
  have hc := hg.at_ _ _ hT
  have hkb : (k : Int) % 256 = k := by omega
  clear hr hj hT hpe
  go_enter Tryd.func28, Tryd.ntmps28
  go_wp2_with fail
  go_ret
  exact ⟨rfl, rfl⟩
theorem tz_any (k : Nat) (hk : k ≤ 16) (w : World) (hg : Tab w) :
    Calls Tryd.prog 24 #[.int .u64 ((2 ^ k : Nat) : Int)] w fun e w' => e = .returned (.int .i64 (k : Int)) ∧ w = w' := by
  go_enter Tryd.func24, Tryd.ntmps24
  go_wp2_with fail
  refine (tz64_any k hk w hg).mono ?_
  rintro e w1 ⟨rfl, rfl⟩
  go_wp2_with fail
  go_ret
  exact ⟨rfl, rfl⟩

theorem len8_bl (i : Nat) (h : i < 256) : Lib.len8 (i : Int) = (bl i : Int) :=
  (by decide +kernel : ∀ i : Fin 256, Lib.len8 (i.val : Int) = (bl i.val : Int)) ⟨i, h⟩
theorem bl_small (x m : Nat) (h : x < 2 ^ m) : bl x ≤ m := (bl_le x m).2 h
theorem bl_256 (x : Nat) (h : 256 ≤ x) : bl x = bl (x / 256) + 8 := by
  have h1 : ∀ m, 8 ≤ m → (bl x ≤ m ↔ bl (x / 256) + 8 ≤ m) := by
    intro m hm
    rw [bl_le, show bl (x / 256) + 8 ≤ m ↔ bl (x / 256) ≤ m - 8 by omega, bl_le, Nat.div_lt_iff_lt_mul (by decide), show (256 : Nat) = 2 ^ 8 from rfl, ← Nat.pow_add, show m - 8 + 8 = m by omega]
  have h2 : ¬ bl x ≤ 8 := by rw [bl_le]; omega
  have a1 := h1 (bl x) (by omega)
  have a2 := h1 (bl (x / 256) + 8) (by omega)
  omega

section
variable {P : Program} {w : World} {ops : Array Oper} {rest : List Oper} {o : Oper} {a : Act} {Q : Exit → Act → World → Prop}
theorem wpList_index_len8 (hg : o.guard = none) (t : TypeId) (s : ByteArray) (x : Operand) (k : IntKind) (i : Int) (hop : o.op = Op.index t (.const (.string s)) x) (hs : s = Lib.len8tab) (ht : P.underlying t = some .string) (hx : a.eval x = .int k i) (h0 : 0 ≤ i) (h1 : i ≤ 255)
    (hK : wpList P ops Q rest (a.put o.dst (.int .u8 (Lib.len8 i))) w) : wpList P ops Q (o :: rest) a w := by
  subst hs
  refine wpList_plain hg fun K' hK' => ?_
  have he : a.eval (.const (.string Lib.len8tab)) = .string Lib.len8tab := rfl
  unfold Oper.wp
  simp [execOp, hop, hx, he, Lib.run_index_len8tab w t k i ht h0 h1, Result.andThen]
  exact hK' _ _ hK
end

set_option maxRecDepth 100000 in
set_option maxHeartbeats 4000000 in
theorem len64_lo (x : Int) (y : Nat) (h0 : 0 ≤ x) (h : x < 256) (hl : Lib.len8 x = (y : Int)) (hb : y ≤ 8) (w : World) :
    Calls Tryd.prog 26 #[.int .u64 x] w fun e w' => e = .returned (.int .i64 (y : Int)) ∧ w = w' := by
  have hm : x % 256 = x := by omega
  go_enter Tryd.func26, Tryd.ntmps26
  go_wp2_with (refine wpList_index_len8 rfl 9 _ _ .u8 x rfl (by kernel_rfl) Tryd.underlying9 rfl (by omega) (by omega) ?_)
  go_ret
  exact ⟨by first | rfl | (simp; omega), rfl⟩
set_option maxRecDepth 100000 in
set_option maxHeartbeats 4000000 in
theorem len64_hi (x z : Int) (y : Nat) (h0 : 256 ≤ x) (h : x < 65536) (hz : x / 256 = z) (hl : Lib.len8 z = (y : Int)) (hb : y ≤ 8) (w : World) :
    Calls Tryd.prog 26 #[.int .u64 x] w fun e w' => e = .returned (.int .i64 (8 + (y : Int))) ∧ w = w' := by
  have hzb : 0 ≤ z ∧ z < 256 := by omega
  have hm : z % 256 = z := by omega
  go_enter Tryd.func26, Tryd.ntmps26
  go_wp2_with (refine wpList_index_len8 rfl 9 _ _ .u8 z rfl (by kernel_rfl) Tryd.underlying9 rfl (by omega) (by omega) ?_)
  go_ret
  exact ⟨by first | rfl | (simp; omega), rfl⟩
theorem len64_any (x : Nat) (hx : x < 65536) (w : World) :
    Calls Tryd.prog 26 #[.int .u64 (x : Int)] w fun e w' => e = .returned (.int .i64 (bl x : Int)) ∧ w = w' := by
  by_cases h : x < 256
  · exact len64_lo x (bl x) (by omega) (by omega) (len8_bl x h) (bl_small x 8 h) w
  · refine (len64_hi x ((x / 256 : Nat) : Int) (bl (x / 256)) (by omega) (by omega) (by omega) (len8_bl (x / 256) (by omega)) (bl_small (x / 256) 8 (by omega)) w).mono ?_
    rintro e w1 ⟨rfl, rfl⟩
    have := bl_256 x (by omega)
    exact ⟨by rw [this, Int.natCast_add, Int.add_comm]; rfl, rfl⟩
theorem len_any (x : Nat) (hx : x < 65536) (w : World) :
    Calls Tryd.prog 22 #[.int .u64 (x : Int)] w fun e w' => e = .returned (.int .i64 (bl x : Int)) ∧ w = w' := by
  go_enter Tryd.func22, Tryd.ntmps22
  go_wp2_with fail
  refine (len64_any x hx w).mono ?_
  rintro e w1 ⟨rfl, rfl⟩
  go_wp2_with fail
  go_ret
  exact ⟨rfl, rfl⟩
#print axioms tz_any
#print axioms len_any
end Go.Proofs.YtmaknnlccmfmpaaDoor
