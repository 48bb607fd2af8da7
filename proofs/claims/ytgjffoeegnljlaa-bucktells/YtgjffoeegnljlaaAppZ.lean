
/- 'append(v, make([]byte, m)...)' where v is a row of the call's own: m noughts behind it. The sum of the lengths is at most 2^46. -/
import Derived.Test.YtgjffoeegnljlaaGrown
import Derived.Lib.AppendZeros
import Derived.Lib.AppendZerosOnto
namespace Go.Proofs.Ytgjffoeegnljlaa
open Go.RowKit
set_option maxRecDepth 20000

theorem run_append_zeros (base : Nat) (W w : World) (a : Option Addr) (n cap : Nat) (xs : List Int) (hown : OwnS 5 base w a n cap xs) (hn : 0 < n) (hW : Below base W w) (hbW : base ≤ W.heap.size) (m : Nat) (hlim : n + m ≤ 140737488355328) :
    ∃ a' cap' w', (Builtin.append_ #[22, 3] 22 #[.slice a n cap, .int .i64 (m : Int)]).run Try.prog w = .ok (.slice a' (n + m) cap') w' ∧ OwnS 5 base w' a' (n + m) cap' (xs ++ zL m) ∧ Below base W w' := by
  obtain ⟨i, hi, hz⟩ := Option.map_eq_some_iff.1 Try.info_u8
  simp only [Prod.mk.injEq] at hz
  obtain ⟨hz, hsz, hby⟩ := hz
  have hbw : base ≤ w.heap.size := Nat.le_trans hbW hW.size
  obtain ⟨hxb, hxl, hol, hor⟩ := hown
  rcases hor with ⟨_, h0⟩ | ⟨g, c, cur, hv, hbg, hg, hnc, hcm, hcs, htake⟩
  · omega
  simp only [Value.slice.injEq, true_and] at hv
  obtain ⟨rfl, rfl⟩ := hv
  rw [Nat.mul_one] at hcs htake
  have hiw : IntKind.i64.wrap (m : Int) = m := by rw [IntKind.wrap_i64]; omega
  have hneg : ¬ ((m : Int) < 0) := by omega
  have h48 : ¬ (281474976710656 < (m : Int) * (i.bytes : Int)) := by rw [hby]; omega
  have hT := Try.underlying22
  have hI := Try.underlying3
  have hbytes : IsBytes (xs ++ zL m) := hxb.append (zL_bytes _)
  have hlen : (xs ++ zL m).length = n + m := by rw [List.length_append, hxl, zL_length]
  have hzc : (Builtin.zeroCells (Value.int .u8 0).cells m).toList = (zL m).map (Value.int .u8) := by
    apply List.ext_getElem?
    intro j
    rcases Nat.lt_or_ge j m with hj | hj
    · have h1 : (zL m)[j]? = some 0 := by rw [zL, rowL_get _ _ _ hj]
      rw [List.getElem?_map, h1]
      simp [Builtin.zeroCells, Value.cells, hj, Nat.mod_one]
    · have h1 : (zL m)[j]? = none := by rw [zL, rowL_none _ _ _ hj]
      rw [List.getElem?_map, h1, List.getElem?_eq_none]
      · rfl
      · rw [Array.length_toList, size_zeroCells]
        simpa [Value.cells] using hj
  by_cases h0 : m = 0
  · subst h0
    refine ⟨some ⟨g, 0, none⟩, cap, w, ?_, ⟨hbytes, hlen, by rw [List.length_map, Nat.mul_one]; exact hlen, .inr ⟨g, cap, cur, rfl, hbg, hg, by omega, hcm, by omega, ?_⟩⟩, hW⟩
    · have hw0 : IntKind.i64.wrap 0 = 0 := by decide
      simp [Builtin.append_, run_underlying hT, run_underlying hI, sizeOf, typeInfo, hi, asInt, asIntOf, hw0, hnc, storeCells]
    · rw [Nat.add_zero, Nat.mul_one, htake]
      simp [zL, rowL]
  · by_cases hroom : n + m ≤ cap
    · have hst := run_storeCells_at Try.prog g n 5 ((zL m).map (Value.int .u8)) 0 cur w hg (by rw [Nat.add_zero, List.length_map, zL_length, hcs]; exact hroom) (by intro u hu; obtain ⟨x, _, rfl⟩ := List.mem_map.1 hu; rfl)
      rw [Nat.add_zero] at hst
      have hr : (Builtin.append_ #[22, 3] 22 #[.slice (some ⟨g, 0, none⟩) n cap, .int .i64 (m : Int)]).run Try.prog w = .ok (.slice (some ⟨g, 0, none⟩) (n + m) cap) (w.setRow g (cur.toList.take n ++ (zL m).map (Value.int .u8) ++ cur.toList.drop (n + ((zL m).map (Value.int .u8)).length)).toArray) := by
        simp [Builtin.append_, run_underlying hT, run_underlying hI, sizeOf, typeInfo, zeroValue, hi, hz, hsz, asInt, asIntOf, hiw, hneg, h48, hroom, h0, hzc, Addr.add_lit, hst]
      refine ⟨_, _, _, hr, ⟨hbytes, hlen, by rw [List.length_map, Nat.mul_one]; exact hlen, .inr ⟨g, cap, _, rfl, hbg, setRow_heap w g cur _ _ _ hg, hroom, hcm, ?_, ?_⟩⟩, (OnlyAt.setRow g w _).below hW hbg⟩
      · simp only [List.size_toArray, List.length_append, List.length_take, List.length_drop, Array.length_toList, List.length_map, zL_length]
        omega
      · rw [htake, Nat.mul_one, List.map_append]
        exact List.take_left' (by rw [List.length_append, List.length_map, List.length_map, hxl, zL_length])
    · have hf : (Builtin.firstCells i.size n (.slice (some ⟨g, 0, none⟩) n cap)).run Try.prog w.drew = .ok (xs.map (Value.int .u8)).toArray w.drew :=
        run_firstCells_some (P := Try.prog) w.drew i.size n ⟨g, 0, none⟩ n cap (xs.map (Value.int .u8)) (by rw [hsz, List.length_map, hxl, Nat.mul_one]) (fun j u hu => by
          rw [addr_add, Nat.zero_add, cell_of_row w.drew g j cur _ _ hg, ← Array.getElem?_toList]
          rw [← htake, List.getElem?_take] at hu
          split at hu
          · exact hu
          · cases hu)
      have hge := grownCap_ge w (n + m) cap 5
      have hle := grownCap_le_maxLen w (n + m) cap 5 (by unfold maxLen; omega)
      have hr := Lib.run_append_grow_zeros (P := Try.prog) w 22 3 22 5 i (.int .u8 0) .i64 .i64 hT hI hi hz (some ⟨g, 0, none⟩) n cap _ hf m (by omega) (by omega) (by omega) (by omega) (by rw [hby]; omega) (by rw [hby]; exact growslice_fits (by omega) (by omega))
      refine ⟨_, _, _, hr, ⟨hbytes, hlen, by rw [List.length_map, Nat.mul_one]; exact hlen, .inr ⟨w.heap.size, _, _, rfl, hbw, heap_alloc_new w.drew _, hge, hle, ?_, ?_⟩⟩, hW.drew.alloc (by exact hbw) _⟩
      · rw [Array.size_append, Array.size_append, size_zeroCells, size_zeroCells]
        simp only [List.size_toArray, List.length_map, Value.cells, hxl]
        simp
        omega
      · simp only [Array.toList_append, hzc, Nat.mul_one, List.map_append]
        exact List.take_left' (by rw [List.length_append, List.length_map, List.length_map, hxl, zL_length])
/-- 'append(nil, make([]byte, m)...)'. -/
theorem run_append_zeros0 (w : World) (m : Nat) (hlim : m ≤ 140737488355328) :
    ∃ a' cap' w', (Builtin.append_ #[22, 3] 22 #[.slice none 0 0, .int .i64 (m : Int)]).run Try.prog w = .ok (.slice a' m cap') w' ∧ OwnS 5 w.heap.size w' a' m cap' (zL m) ∧ Below w.heap.size w w' := by
  obtain ⟨i, hi, hz⟩ := Option.map_eq_some_iff.1 Try.info_u8
  simp only [Prod.mk.injEq] at hz
  obtain ⟨hz, hsz, hby⟩ := hz
  have hT := Try.underlying22
  have hI := Try.underlying3
  rcases Nat.eq_zero_or_pos m with rfl | h0
  · refine ⟨none, 0, w, ?_, OwnS.nil _ _ _, Below.refl _ _⟩
    have hw0 : IntKind.i64.wrap 0 = 0 := by decide
    simp [Builtin.append_, run_underlying hT, run_underlying hI, sizeOf, typeInfo, hi, asInt, asIntOf, hw0]
  · have hr := Lib.run_append_nil_zeros (P := Try.prog) w 22 3 22 5 i (.int .u8 0) .i64 .i64 hT hI hi hz m h0 (by omega) (by omega) (by rw [hby]; omega)
    have hge := grownCap_ge w m 0 5
    have hle := grownCap_le_maxLen w m 0 5 (by unfold maxLen; omega)
    have hzc : (Builtin.zeroCells (Value.int .u8 0).cells m).toList = (zL m).map (Value.int .u8) := by
      apply List.ext_getElem?
      intro j
      rcases Nat.lt_or_ge j m with hj | hj
      · have h1 : (zL m)[j]? = some 0 := by rw [zL, rowL_get _ _ _ hj]
        rw [List.getElem?_map, h1]
        simp [Builtin.zeroCells, Value.cells, hj, Nat.mod_one]
      · have h1 : (zL m)[j]? = none := by rw [zL, rowL_none _ _ _ hj]
        rw [List.getElem?_map, h1, List.getElem?_eq_none]
        · rfl
        · rw [Array.length_toList, size_zeroCells]
          simpa [Value.cells] using hj
    refine ⟨_, _, _, hr, ⟨zL_bytes _, zL_length _, by rw [List.length_map, Nat.mul_one]; exact zL_length _, .inr ⟨w.heap.size, _, _, rfl, Nat.le_refl _, heap_alloc_new w.drew _, hge, hle, ?_, ?_⟩⟩, (Below.refl w.heap.size w).drew.alloc (Nat.le_refl _) _⟩
    · rw [Array.size_append, size_zeroCells, size_zeroCells]
      simp only [Value.cells]
      simp
      omega
    · simp only [Array.toList_append, hzc, Nat.mul_one]
      exact List.take_left' (by rw [List.length_map, zL_length])
#print axioms run_append_zeros
#print axioms run_append_zeros0
end Go.Proofs.Ytgjffoeegnljlaa
