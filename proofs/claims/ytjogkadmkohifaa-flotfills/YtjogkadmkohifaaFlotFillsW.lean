/- A call of the law FlotFills answers true and turns nothing that was there: for every two ints, every two numbers below 2^64. -/
import Derived.Test.YtjogkadmkohifaaFAwake
import Derived.Test.YtjogkadmkohifaaFFill
import Derived.Test.YtjogkadmkohifaaRel
namespace Go.Proofs.Ytjogkadmkohifaa
open Go.RowKit

theorem order_fin {x y : Nat} (hx : x < 9218868437227405312) (hy : y < 9218868437227405312) : Ieee.Format.order FloatKind.f64.format x y = some (compare (x : Int) (y : Int)) := by
  have := order_sv (x := x) (y := y) (by omega) (by omega) (nanB_fin (by omega)) (nanB_fin (by omega))
  rw [sv_pos (by omega), sv_pos (by omega)] at this
  exact this

theorem decode_neg {x : Nat} (hx : x < 9218868437227405312) : (FloatKind.f64.decode x).neg = false := by
  obtain ⟨m, e, hr, _⟩ := read_num (b := x) (by omega) (by omega)
  show (Ieee.double.read x).neg = false
  rw [hr, decide_eq_false (by omega)]; rfl

theorem run_maxF (ts : Array TypeId) (t : TypeId) (x y : Nat) (hx : x < 9218868437227405312) (hy : y < 9218868437227405312) (w : World) : (Builtin.max_ ts t #[.float .f64 x, .float .f64 y]).run Try.prog w = .ok (.float .f64 (max x y)) w := by
  have h := order_fin hx hy
  simp only [Builtin.max_, List.foldlM, Builtin.max2]
  rcases Int.lt_trichotomy (x : Int) (y : Int) with hh | hh | hh
  · rw [cmp_lt hh] at h
    rw [Nat.max_eq_right (by omega)]
    simp [h]
  · have : x = y := by omega
    subst this
    rw [cmp_eq] at h
    simp [h]
  · rw [cmp_gt hh] at h
    rw [Nat.max_eq_left (by omega)]
    simp [h]

theorem run_minF (ts : Array TypeId) (t : TypeId) (x y : Nat) (hx : x < 9218868437227405312) (hy : y < 9218868437227405312) (w : World) : (Builtin.min_ ts t #[.float .f64 x, .float .f64 y]).run Try.prog w = .ok (.float .f64 (min x y)) w := by
  have h := order_fin hx hy
  simp only [Builtin.min_, List.foldlM, Builtin.min2]
  rcases Int.lt_trichotomy (x : Int) (y : Int) with hh | hh | hh
  · rw [cmp_lt hh] at h
    rw [Nat.min_eq_left (by omega)]
    simp [h]
  · have : x = y := by omega
    subst this
    rw [cmp_eq] at h
    simp [h]
  · rw [cmp_gt hh] at h
    rw [Nat.min_eq_right (by omega)]
    simp [h]

/-- Fills that are none. -/
def noFills : List Nat := [9221120237041090561, 9218868437227405312, 18442240474082181120, 0, 9223372036854775808, 13826050856027422720, 4607182419250377371]

theorem noFills_bad {i : Nat} (h : i < 7) : goodF (noFills.getD i 0) = false := by
  have hh : ((List.range 7).all fun i => !goodF (noFills.getD i 0)) = true := by kernel_rfl
  simpa using List.all_eq_true.1 hh i (List.mem_range.2 h)
theorem noFills_lt {i : Nat} (h : i < 7) : noFills.getD i 0 < 18446744073709551616 := by
  have hh : ((List.range 7).all fun i => decide (noFills.getD i 0 < 18446744073709551616)) = true := by kernel_rfl
  exact of_decide_eq_true (List.all_eq_true.1 hh i (List.mem_range.2 h))
theorem noFills_cell {i : Nat} (h : i < 7) (w : World) (t : TypeId) : (w.alloc (Obj.cells (noFills.map (Value.float .f64)).toArray t)).cell? ⟨w.heap.size, i, none⟩ = some (.float .f64 (noFills.getD i 0)) := by
  have hl : i < noFills.length := h
  rw [World.cell?_alloc_new]
  rw [List.getElem?_toArray, List.getElem?_map, List.getElem?_eq_getElem hl]
  simp [List.getD, List.getElem?_eq_getElem hl]

set_option maxHeartbeats 4000000 in
theorem flotFills_walk (a b c d : Int) (w : World) (hc : 0 ≤ c ∧ c < 18446744073709551616) (hd : 0 ≤ d ∧ d < 18446744073709551616) :
    Calls Try.prog 5 #[.int .i64 a, .int .i64 b, .int .u64 c, .int .u64 d] w fun e w' => e = .returned (.bool true) ∧ Below w.heap.size w w' := by
  obtain ⟨n, hn⟩ : ∃ n : Nat, bits BinOp.and IntKind.i64 a 65535 = (n : Int) := ⟨(a % 65536).toNat, by rw [i64_and65535]; omega⟩
  obtain ⟨m, hm⟩ : ∃ m : Nat, bits BinOp.and IntKind.i64 b 65535 = (m : Int) := ⟨(b % 65536).toNat, by rw [i64_and65535]; omega⟩
  have hn16 : n ≤ 65535 := by have := i64_and65535 a; omega
  have hm16 : m ≤ 65535 := by have := i64_and65535 b; omega
  obtain ⟨p, hp⟩ : ∃ p : Nat, c % 1000 = (p : Int) := ⟨(c % 1000).toNat, by omega⟩
  obtain ⟨q, hq⟩ : ∃ q : Nat, d % 1000 = (q : Int) := ⟨(d % 1000).toNat, by omega⟩
  obtain ⟨x, hx, hx0, hx1⟩ := fill_div (j := p) (by omega)
  obtain ⟨y, hy, hy0, hy1⟩ := fill_div (j := q) (by omega)
  have rx := fun w => run_float_arith (P := Try.prog) w .quo 22 .f64 _ _ _ hx
  have ry := fun w => run_float_arith (P := Try.prog) w .quo 22 .f64 _ _ _ hy
  have hp1000 : p < 1000 := by omega
  have hq1000 : q < 1000 := by omega
  rw [show ((p + 1 : Nat) : Int) = (p : Int) + 1 by omega] at rx
  rw [show ((q + 1 : Nat) : Int) = (q : Int) + 1 by omega] at ry
  clear hx hy
  have mx := run_maxF #[22, 22] 22 x y (by omega) (by omega)
  have mn := run_minF #[22, 22] 22 x y (by omega) (by omega)
  obtain ⟨F, hF⟩ : ∃ F, max x y = F := ⟨_, rfl⟩
  obtain ⟨G, hG⟩ : ∃ G, min x y = G := ⟨_, rfl⟩
  have hGF : G ≤ F := by omega
  have hF0 : 4562254508917369340 ≤ F := by omega
  have hF1 : F ≤ 4607182418800017408 := by omega
  have hG0 : 4562254508917369340 ≤ G := by omega
  have hG1 : G ≤ 4607182418800017408 := by omega
  rw [hF] at mx
  rw [hG] at mn
  clear hF hG hx0 hx1 hy0 hy1
  obtain ⟨L, hL⟩ : ∃ L : Nat, (if m < n then (m : Int) else (n : Int)) = (L : Int) := ⟨if m < n then m else n, by split <;> rfl⟩
  obtain ⟨M, hM⟩ : ∃ M : Nat, (if n < m then (m : Int) else (n : Int)) = (M : Int) := ⟨if n < m then m else n, by split <;> rfl⟩
  have hLM : L ≤ M := by split at hL <;> split at hM <;> omega
  have hM16 : M ≤ 65535 := by split at hM <;> omega
  go_enter Try.func5, Try.ntmps5
  go_wp2_with fail
  refine (part_any L F w (by omega)).mono ?_
  rintro e w1 ⟨⟨k1, ok1, rfl, hP1⟩, hb1⟩
  obtain ⟨rfl, j1, rfl, h1a, h1b, h1c⟩ := part_fills hP1.out (by omega) hF0 hF1
  clear hP1
  have H1 := hide h1c
  clear h1c
  go_wp2_with fail
  refine (part_any M G w1 (by omega)).mono ?_
  rintro e w2 ⟨⟨k2, ok2, rfl, hP2⟩, hb2⟩
  obtain ⟨rfl, j2, rfl, h2a, h2b, h2c⟩ := part_fills hP2.out hM16 hG0 hG1
  clear hP2 h2c
  have hj : j1 ≤ j2 := by
    rcases Nat.lt_or_ge j2 j1 with hh | hh
    · have := H1.out j2 hh
      rw [enough_more hLM hGF h2b] at this; cases this
    · exact hh
  have hbw2 := hide (hb1.trans (hb2.mono hb1.size))
  clear H1 h1b h2b hb1 hb2 rx ry mx mn hL hM
  go_wp2_with fail
  refine (part_any n 4607182418800017408 w2 (by omega)).mono ?_
  rintro e w3 ⟨⟨k3, ok3, rfl, hP3⟩, hb3⟩
  obtain ⟨rfl, rfl⟩ := part_whole hP3.out hn16
  have hbw3 := hide (hbw2.out.trans (hb3.mono hbw2.out.size))
  clear hP3 hb3 hbw2
  go_wp2_with fail
  refine (nan_any w3).mono ?_
  rintro e w' ⟨rfl, rfl⟩
  go_wp2_with fail
  refine (inf_pos w3).mono ?_
  rintro e w' ⟨rfl, rfl⟩
  go_wp2_with fail
  refine (inf_neg w3).mono ?_
  rintro e w' ⟨rfl, rfl⟩
  go_wp2_with fail
  refine (minus_any w3).mono ?_
  rintro e w' ⟨rfl, rfl⟩
  go_wp2_with fail
  have hC : ∀ t, t < 7 → (w3.alloc (Obj.cells (noFills.map (Value.float .f64)).toArray 22)).cell? ⟨w3.heap.size, t, none⟩ = some (.float .f64 (noFills.getD t 0)) := fun t ht => noFills_cell ht w3 22
  have hB : Below w.heap.size w (w3.alloc (Obj.cells (noFills.map (Value.float .f64)).toArray 22)) := hbw3.out.alloc hbw3.out.size _
  rw [show (noFills.map (Value.float .f64)).toArray = #[Value.float .f64 9221120237041090561, Value.float .f64 9218868437227405312, Value.float .f64 18442240474082181120, Value.float .f64 0, Value.float .f64 9223372036854775808, Value.float .f64 13826050856027422720, Value.float .f64 4607182419250377371] from rfl] at hC hB
  generalize w3.alloc (Obj.cells _ 22) = w4 at *
  generalize w3.heap.size = g3 at *
  have HC := hide hC
  have HB := hide hB
  clear hC hB hbw3
  go_loopw [72] (fun i wr => ∃ t : Nat, t ≤ 7 ∧ i = .int .i64 t ∧ Hid (∀ t, t < 7 → wr.cell? ⟨g3, t, none⟩ = some (.float .f64 (noFills.getD t 0))) ∧ Hid (Below w.heap.size w wr)) (fun i _ => 7 - (intOf i).toNat)
  case atStart => exact ⟨0, by omega, rfl, HC, HB⟩
  case round =>
    obtain ⟨t, ht, rfl, hC, hB⟩ := hrel
    clear HC HB
    by_cases hlt : t < 7
    · have cz := hC.out t hlt
      have gz := hide (noFills_bad hlt)
      have lz := noFills_lt hlt
      generalize noFills.getD t 0 = z at *
      have it : (t : Int) < 7 := by omega
      go_wp2_with fail
      refine (part_any n z wr lz).mono ?_
      rintro e w5 ⟨⟨k5, ok5, rfl, hP5⟩, hb5⟩
      obtain ⟨rfl, rfl⟩ := part_nan hP5.out gz.out
      have lg : g3 < wr.heap.size := World.block_lt_of_cell? wr _ cz
      have hC5 : Hid (∀ t, t < 7 → w5.cell? ⟨g3, t, none⟩ = some (.float .f64 (noFills.getD t 0))) := hide fun t ht => (hb5.cell (p := ⟨g3, t, none⟩) lg).trans (hC.out t ht)
      have hB5 := hide (hB.out.trans (hb5.mono hB.out.size))
      clear hP5 hb5 hC hB cz
      go_wp2_with fail
      go_roundw
      case rel => exact ⟨t + 1, by omega, by go_num, hC5, hB5⟩
      case measure => simp [intOf]; omega
    · obtain rfl : t = 7 := by omega
      clear hC
      go_wp2_with fail
      refine (part_any (-1) 4607182418800017408 wr (by omega)).mono ?_
      rintro e w5 ⟨⟨k5, ok5, rfl, hP5⟩, hb5⟩
      obtain ⟨rfl, rfl⟩ := hP5.out.bad (.inl (by omega))
      have hB5 := hide (hB.out.trans (hb5.mono hB.out.size))
      clear hP5 hb5 hB
      go_wp2_with fail
      refine (part_any 1000001 4607182418800017408 w5 (by omega)).mono ?_
      rintro e w6 ⟨⟨k6, ok6, rfl, hP6⟩, hb6⟩
      obtain ⟨rfl, rfl⟩ := hP6.out.bad (.inr (.inl (by omega)))
      have hB6 := hide (hB5.out.trans (hb6.mono hB5.out.size))
      clear hP6 hb6 hB5
      go_wp2_with fail
      refine (part_any 1000000 103582791429521408 w6 (by omega)).mono ?_
      rintro e w7 ⟨⟨k7, ok7, rfl, hP7⟩, hb7⟩
      obtain rfl := part_thin hP7.out
      have hB7 := hide (hB6.out.trans (hb7.mono hB6.out.size))
      clear hP7 hb7 hB6
      go_wp2_with fail
      refine (awake_any w7).mono ?_
      rintro e w8 ⟨rfl, hb8⟩
      have hB8 := hB7.out.trans (hb8.mono hB7.out.size)
      go_wp2_with fail
      go_ret
      exact ⟨rfl, hB8⟩
#print axioms flotFills_walk
end Go.Proofs.Ytjogkadmkohifaa
