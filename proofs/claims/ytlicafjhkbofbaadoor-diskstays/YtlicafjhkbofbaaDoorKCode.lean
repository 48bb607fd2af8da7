/- What the small calls of package disk do: for every device in memory; what is not the device's own is as it was. -/
import Derived.Test.YtlicafjhkbofbaaDoorRows
import Derived.Test.YtlicafjhkbofbaaDoorKMem
import Derived.Test.YtlicafjhkbofbaaDoorArm
import Derived.Test.YtlicafjhkbofbaaDoorRel
import Derived.Test.YtlicafjhkbofbaaDoorAppend
import Derived.Test.YtlicafjhkbofbaaDoorNums
import Derived.WalkLawsBesides
import Derived.WalkSpells
import Derived.Great.Walk
import Derived.Recover
namespace Go.Proofs.YtlicafjhkbofbaaDoor
open Go.RowKit

theorem Tryd.size_u8 : (Tryd.prog.info? 5).map (·.size) = some 1 := by kernel_rfl
theorem Tryd.info_u8 : (Tryd.prog.info? 5).map (fun i => (i.zero, i.size, i.bytes)) = some (some (.int .u8 0), 1, 1) := by kernel_rfl

/-- What the calls panic with. -/
def errV (p : Addr) : Value := .iface 65 (.pointer (some p))
/-- The variable that holds it. -/
def Pow (p : Addr) (w : World) : Prop := w.cell? ⟨0, 0, none⟩ = some (errV p)
theorem Pow.lt {p : Addr} {w : World} (h : Pow p w) : 0 < w.heap.size := World.block_lt_of_cell? w ⟨0, 0, none⟩ h
theorem Pow.keep {p : Addr} {w w' : World} (h : Pow p w) (hb : w'.heap[0]? = w.heap[0]?) : Pow p w' := by
  unfold Pow at h ⊢
  rw [World.cell?_of_block (w := w) (a := ⟨0, 0, none⟩) hb]; exact h
theorem Pow.below {p : Addr} {w w' : World} (h : Pow p w) (hb : Below w.heap.size w w') : Pow p w' := h.keep (hb.block 0 h.lt)
theorem Pow.step {p : Addr} {w w' : World} {Z Z' : Own} (h : Pow p w) (hs : Step Z w Z' w') (hz : ¬ Z.S 0) : Pow p w' := h.keep (hs.block 0 h.lt hz)

/-- How many more have power, one less. -/
def spendL (l : Int) : Int := if 0 < l then l - 1 else l
def DS.spent (D : DS) : DS := { D with left := spendL D.left }

theorem held_any (n most : Int) (w : World) : Calls Tryd.prog 32 #[.int .i64 n, .int .i64 most] w fun e w' => e = .returned (.int .i64 (min (max n 0) most)) ∧ w = w' := by
  go_enter Tryd.func32, Tryd.ntmps32
  go_wp2
  go_ret
  exact ⟨rfl, rfl⟩

section
variable {w : World} {Z : Own} {g : Nat} {D : DS} {gb : Nat} {wv tv : Value}

theorem blocks_any (h : DkAt w Z g D gb wv tv) : Calls Tryd.prog 11 #[.pointer (some ⟨g, 0, none⟩)] w fun e w' => e = .returned (.int .i64 (D.n : Int)) ∧ w = w' := by
  have c := h.c1
  clear h
  go_enter Tryd.func11, Tryd.ntmps11
  go_wp2
  go_ret
  exact ⟨rfl, rfl⟩
theorem size_any (h : DkAt w Z g D gb wv tv) : Calls Tryd.prog 12 #[.pointer (some ⟨g, 0, none⟩)] w fun e w' => e = .returned (.int .i64 (D.size : Int)) ∧ w = w' := by
  have c := h.c0
  clear h
  go_enter Tryd.func12, Tryd.ntmps12
  go_wp2
  go_ret
  exact ⟨rfl, rfl⟩
theorem gone_any (h : DkAt w Z g D gb wv tv) : Calls Tryd.prog 38 #[.pointer (some ⟨g, 0, none⟩)] w fun e w' => e = .returned (.bool (decide (D.left = 0))) ∧ w = w' := by
  have c := h.c4
  clear h
  by_cases hl : D.left = 0
  · rw [hl] at c ⊢
    go_enter Tryd.func38, Tryd.ntmps38
    go_wp2
    go_ret
    exact ⟨rfl, rfl⟩
  · rw [decide_eq_false hl]
    have hb : (D.left == 0) = false := by simpa using hl
    go_enter Tryd.func38, Tryd.ntmps38
    go_wp2
    go_ret
    exact ⟨by first | rfl | simp [hl], rfl⟩

/-- Is i one of n places? -/
def hasI (n : Nat) (i : Int) : Bool := decide (0 ≤ i) && decide (i < (n : Int))
theorem has_any (h : DkAt w Z g D gb wv tv) (i : Int) : Calls Tryd.prog 35 #[.pointer (some ⟨g, 0, none⟩), .int .i64 i] w fun e w' => e = .returned (.bool (hasI D.n i)) ∧ w = w' := by
  have c := h.c1
  clear h
  by_cases h0 : 0 ≤ i
  · have e : hasI D.n i = decide (i < (D.n : Int)) := by simp [hasI, h0]
    rw [e]
    go_enter Tryd.func35, Tryd.ntmps35
    go_wp2
    go_ret
    exact ⟨rfl, rfl⟩
  · have e : hasI D.n i = false := by simp [hasI, h0]
    rw [e]
    go_enter Tryd.func35, Tryd.ntmps35
    go_wp2
    go_ret
    exact ⟨rfl, rfl⟩

theorem spend_no {p : Addr} (h : DkAt w Z g D gb wv tv) (hp : Pow p w) (hl : D.left = 0) :
    Calls Tryd.prog 33 #[.pointer (some ⟨g, 0, none⟩)] w fun e w' => e = .panicked [{ v := errV p, recovered := false }] ∧ w = w' := by
  have hG := gone_any h
  rw [decide_eq_true hl] at hG
  have c : w.cell? ⟨0, 0, none⟩ = some (.iface 65 (.pointer (some p))) := hp
  clear h hp
  go_enter Tryd.func33, Tryd.ntmps33
  go_wp2_with fail
  refine hG.mono ?_
  rintro e w1 ⟨rfl, rfl⟩
  go_wp2_with fail
  exact ⟨rfl, rfl, rfl⟩

theorem spend_ok (h : DkAt w Z g D gb wv tv) (hl : ¬ D.left = 0) :
    Calls Tryd.prog 33 #[.pointer (some ⟨g, 0, none⟩)] w fun e w' => e = .returned (.tuple #[]) ∧ DkAt w' Z g D.spent gb wv tv ∧ Step Z w Z w' := by
  have hG := gone_any h
  rw [decide_eq_false hl] at hG
  have c := h.c4
  have f := h.froz 4
  have hr := h.left
  by_cases h0 : 0 < D.left
  · have hS := h.setLeft (D.left - 1) (by omega)
    have e : ({ D with left := D.left - 1 } : DS) = D.spent := by unfold DS.spent spendL; rw [if_pos h0]
    rw [e] at hS
    have hw : IntKind.i64.wrap (D.left - 1) = D.left - 1 := by rw [IntKind.wrap_i64]; omega
    clear h e
    go_enter Tryd.func33, Tryd.ntmps33
    go_wp2_with fail
    refine hG.mono ?_
    rintro e w1 ⟨rfl, rfl⟩
    go_wp2_with fail
    refine bodyPost_end (results_none rfl _ _ _) rfl ?_
    exact ⟨rfl, hS⟩
  · have e : D = D.spent := by unfold DS.spent spendL; rw [if_neg h0]
    rw [← e]
    clear e
    go_enter Tryd.func33, Tryd.ntmps33
    go_wp2_with fail
    refine hG.mono ?_
    rintro e w1 ⟨rfl, rfl⟩
    go_wp2_with fail
    refine bodyPost_end (results_none rfl _ _ _) rfl ?_
    exact ⟨rfl, h, Step.refl _ _⟩

theorem made_zB (w : World) (n : Nat) (E : TypeId) : OwnB E (w.alloc (Obj.cells (madeCells #[Value.int .u8 0] n) E)) w.heap.size (zL n) :=
  OwnB.of_rowIs (World.rowIs_made w (.int .u8 0) n E) _ (zL_length _) fun i _ => by rw [zL_getD]

set_option maxHeartbeats 1000000 in
theorem fitted_any (h : DkAt w Z g D gb wv tv) {a : Option Addr} {len cap : Nat} {zs : List Int} (hx : Bs w a len cap zs) :
    Calls Tryd.prog 37 #[.pointer (some ⟨g, 0, none⟩), .slice a len cap] w fun e w' => e = .returned (.slice (some ⟨w.heap.size, 0, none⟩) D.size D.size) ∧ OwnB 5 w' w.heap.size (fitL D.size zs) ∧ Below w.heap.size w w' := by
  have c := h.c0
  have hs := h.size
  have hz := hx.length
  have hmk := run_make_row' (P := Tryd.prog) 22 5 (.int .u8 0) 1 Tryd.underlying22 Tryd.info_u8 rfl .i64 .i64 D.size (by omega) (by omega)
  have hO := made_zB w D.size 5
  have hb0 := below_alloc (Below.refl w.heap.size w) (Obj.cells (madeCells #[Value.int IntKind.u8 0] D.size) 5)
  obtain ⟨w2, hr2, hO2, ho2⟩ := run_copy_bytes (P := Tryd.prog) Tryd.underlying22 Tryd.size_u8 3 (w.alloc (Obj.cells (madeCells #[Value.int IntKind.u8 0] D.size) 5)) (some ⟨w.heap.size, 0, none⟩) a D.size D.size len cap w.heap.size 0 (min len D.size) (zL D.size) zs hO rfl (.inr rfl) (hx.below hb0) (by rw [zL_length]; omega)
  have hb2 := ho2.below hb0 (Nat.le_refl _)
  rw [← hz, fitL_splice] at hO2
  clear hO hb0 ho2 h hz hx
  generalize D.size = sz at *
  go_enter Tryd.func37, Tryd.ntmps37
  go_wp2_with fail
  go_ret
  exact ⟨rfl, hO2, hb2⟩

set_option maxHeartbeats 1000000 in
theorem kept_any (h : DkAt w Z g D gb wv tv) {a : Option Addr} {len cap : Nat} {zs : List Int} (hx : Bs w a len cap zs) :
    Calls Tryd.prog 34 #[.pointer (some ⟨g, 0, none⟩), .slice a len cap] w fun e w' => e = .returned (.slice (some ⟨w.heap.size, 0, none⟩) (min len D.size) (min len D.size)) ∧ OwnB 5 w' w.heap.size (zs.take D.size) ∧ Below w.heap.size w w' := by
  have c := h.c0
  have hs := h.size
  have hz := hx.length
  obtain ⟨m, hm⟩ : ∃ m : Nat, min len D.size = m := ⟨_, rfl⟩
  have hmi : min (len : Int) (D.size : Int) = (m : Int) := by omega
  have hmk := run_make_row' (P := Tryd.prog) 22 5 (.int .u8 0) 1 Tryd.underlying22 Tryd.info_u8 rfl .i64 .i64 m (by omega) (by omega)
  have hO := made_zB w m 5
  have hb0 := below_alloc (Below.refl w.heap.size w) (Obj.cells (madeCells #[Value.int IntKind.u8 0] m) 5)
  obtain ⟨w2, hr2, hO2, ho2⟩ := run_copy_bytes (P := Tryd.prog) Tryd.underlying22 Tryd.size_u8 3 (w.alloc (Obj.cells (madeCells #[Value.int IntKind.u8 0] m) 5)) (some ⟨w.heap.size, 0, none⟩) a m m len cap w.heap.size 0 m (zL m) zs hO (by omega) (.inr rfl) (hx.below hb0) (by rw [zL_length]; omega)
  have hb2 := ho2.below hb0 (Nat.le_refl _)
  have e : splice (zL m) 0 (zs.take m) = zs.take D.size := by
    have e1 : zs.take m = zs.take D.size := by
      rcases Nat.le_total len D.size with h1 | h1
      · rw [List.take_of_length_le (by omega), List.take_of_length_le (by omega)]
      · rw [show m = D.size by omega]
    have := fitL_splice m (zs.take m)
    rw [List.length_take, List.take_take, show min (min (min m zs.length) m) m = m by omega] at this
    rw [this, fitL_self _ _ (by rw [List.length_take]; omega), e1]
  rw [e] at hO2
  rw [hm]
  clear hO hb0 ho2 h hz hx e hm
  generalize D.size = sz at *
  go_enter Tryd.func34, Tryd.ntmps34
  go_wp2_with fail
  go_ret
  exact ⟨rfl, hO2, hb2⟩

theorem cut_no (h : DkAt w Z g D gb wv tv) (hl : D.left = 0) (n : Int) : Calls Tryd.prog 19 #[.pointer (some ⟨g, 0, none⟩), .int .i64 n] w fun e w' => e = .returned (.tuple #[]) ∧ w = w' := by
  have hG := gone_any h
  rw [decide_eq_true hl] at hG
  clear h
  go_enter Tryd.func19, Tryd.ntmps19
  go_wp2_with fail
  refine hG.mono ?_
  rintro e w1 ⟨rfl, rfl⟩
  go_wp2_with fail
  refine bodyPost_ret (results_none rfl _ _ _) rfl ?_
  exact ⟨rfl, rfl⟩
theorem cut_ok (h : DkAt w Z g D gb wv tv) (hl : ¬ D.left = 0) (n : Int) (hn : -9223372036854775808 ≤ n ∧ n ≤ 9223372036854775807) :
    Calls Tryd.prog 19 #[.pointer (some ⟨g, 0, none⟩), .int .i64 n] w fun e w' => e = .returned (.tuple #[]) ∧ DkAt w' Z g { D with left := n } gb wv tv ∧ Step Z w Z w' := by
  have hG := gone_any h
  rw [decide_eq_false hl] at hG
  have c := h.c4
  have f := h.froz 4
  have hS := h.setLeft n hn
  clear h
  go_enter Tryd.func19, Tryd.ntmps19
  go_wp2_with fail
  refine hG.mono ?_
  rintro e w1 ⟨rfl, rfl⟩
  go_wp2_with fail
  refine bodyPost_end (results_none rfl _ _ _) rfl ?_
  exact ⟨rfl, hS⟩

/-- Choice i of a list. -/
def chL (zs : List Int) (i : Nat) : Int := if i < zs.length then zs.getD i 0 % 3 else 0
theorem chL_cases (zs : List Int) (i : Nat) : chL zs i = 0 ∨ chL zs i = 1 ∨ chL zs i = 2 := by
  unfold chL
  split
  · omega
  · exact .inl rfl
theorem mod3 (x : Int) : (x.tmod 3 + 3) % 3 = x % 3 := by
  have h1 := Int.tmod_eq_emod (a := x) (b := 3)
  rw [h1]
  split <;> omega
set_option maxHeartbeats 1000000 in
theorem choice_any {a : Option Addr} {len cap : Nat} {zs : List Int} (i : Nat) (hx : Ns .i64 w a len cap zs) :
    Calls Tryd.prog 41 #[.slice a len cap, .int .i64 (i : Int)] w fun e w' => e = .returned (.int .i64 (chL zs i)) ∧ w = w' := by
  have hz := hx.length
  by_cases hi : i < len
  · have e : chL zs i = zs.getD i 0 % 3 := by unfold chL; rw [if_pos (by omega)]
    have hm := mod3 (zs.getD i 0)
    rw [e, ← hm]
    obtain ⟨b, off, rfl, hc⟩ : ∃ b off, a = some ⟨b, off, none⟩ ∧ ∀ i, i < len → w.cell? ⟨b, off + i, none⟩ = some (.int .i64 (zs.getD i 0)) := by
      rcases hx.place with h1 | h1
      · have := hx.le_cap; omega
      · exact h1
    have hcl := hx.le_cap
    have hcm := hx.cap_le
    have c := hc i hi
    generalize zs.getD i 0 = x at *
    have hm3 : -3 < x.tmod 3 ∧ x.tmod 3 < 3 := by
      have h1 := Int.tmod_eq_emod (a := x) (b := 3)
      rw [h1]
      split <;> omega
    have hw1 : IntKind.i64.wrap (x.tmod 3) = x.tmod 3 := by rw [IntKind.wrap_i64]; omega
    have hw2 : IntKind.i64.wrap (x.tmod 3 + 3) = x.tmod 3 + 3 := by rw [IntKind.wrap_i64]; omega
    clear hx hc e hm hz
    go_enter Tryd.func41, Tryd.ntmps41
    go_wp2
    go_ret
    exact ⟨rfl, rfl⟩
  · have e : chL zs i = 0 := by unfold chL; rw [if_neg (by omega)]
    rw [e]
    have hcl := hx.le_cap
    have hcm := hx.cap_le
    clear hx
    go_enter Tryd.func41, Tryd.ntmps41
    go_wp2
    go_ret
    exact ⟨rfl, rfl⟩
end
#print axioms choice_any
#print axioms spend_no
end Go.Proofs.YtlicafjhkbofbaaDoor
