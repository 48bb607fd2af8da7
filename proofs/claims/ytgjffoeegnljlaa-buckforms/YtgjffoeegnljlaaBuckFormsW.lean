
/- The law BuckForms answers true for every number; nothing that was there is turned. -/
import Derived.Test.YtgjffoeegnljlaaBkAwake
import Derived.Test.YtgjffoeegnljlaaBkForm
namespace Go.Proofs.Ytgjffoeegnljlaa
open Go.RowKit
set_option maxRecDepth 20000
theorem bf_low {z size : Int} {n : Nat} (hz : okZ z size = true) (hl : (n : Int) = z * (8 + size)) : wrap64 (8 + size) = 8 + size ∧ wrap64 (z * (8 + size)) = z * (8 + size) ∧ n + 1 ≤ 140737488355328 := by
  obtain ⟨h1, h2⟩ := okZ_is hz
  have h3 : z * (8 + size) ≤ 16 * 60008 := Int.mul_le_mul h1.2 (by omega) (by omega) (by omega)
  generalize z * (8 + size) = M at *
  exact ⟨wrap64_low _ (by omega), wrap64_low _ (by omega), by omega⟩
/-- The table, as a text spells it out. -/
def rowsB (g6_0 g7_0 g7_1 g8_0 g8_1 g9_0 g10_0 g11_0 g12_0 g13_0 g14_0 g15_0 g16_0 : Nat) (a6 a7 a8 a9 a10 a11 a12 a13 a14 a15 a16 : Option Addr) : List RB := [⟨[], none, 0, 0, 0, 0, true⟩, ⟨[], none, 0, 0, 16, 3, true⟩, ⟨[], none, 0, 0, 17, 3, false⟩, ⟨[], none, 0, 0, (-1), 3, false⟩, ⟨[], none, 0, 0, 2, (-1), false⟩, ⟨[], none, 0, 0, 1, 60001, false⟩, ⟨[nilC 1 0 3 g6_0], a6, 1, 1, 1, 3, true⟩, ⟨[nilC 1 0 3 g7_0, nilC 1 0 3 g7_1], a7, 2, 2, 2, 3, true⟩, ⟨[nilC 1 0 3 g8_0, nilC 2 0 3 g8_1], a8, 2, 2, 1, 3, false⟩, ⟨[nilC 0 0 3 g9_0], a9, 1, 1, 1, 3, false⟩, ⟨[nilC 2147483648 0 3 g10_0], a10, 1, 1, 1, 3, false⟩, ⟨[nilC 2147483647 2147483647 3 g11_0], a11, 1, 1, 1, 3, true⟩, ⟨[nilC 1 (-1) 3 g12_0], a12, 1, 1, 1, 3, false⟩, ⟨[nilC 1 2147483648 3 g13_0], a13, 1, 1, 1, 3, false⟩, ⟨[nilC 1 0 2 g14_0], a14, 1, 1, 1, 3, false⟩, ⟨[nilC 1 0 4 g15_0], a15, 1, 1, 1, 3, false⟩, ⟨[nilC 1 0 0 g16_0], a16, 1, 1, 1, 0, true⟩]
theorem rows_good (W : World) (g6_0 g7_0 g7_1 g8_0 g8_1 g9_0 g10_0 g11_0 g12_0 g13_0 g14_0 g15_0 g16_0 : Nat) (a6 a7 a8 a9 a10 a11 a12 a13 a14 a15 a16 : Option Addr) (z6 : Ces W a6 1 1 [nilC 1 0 3 g6_0]) (z7 : Ces W a7 2 2 [nilC 1 0 3 g7_0, nilC 1 0 3 g7_1]) (z8 : Ces W a8 2 2 [nilC 1 0 3 g8_0, nilC 2 0 3 g8_1]) (z9 : Ces W a9 1 1 [nilC 0 0 3 g9_0]) (z10 : Ces W a10 1 1 [nilC 2147483648 0 3 g10_0]) (z11 : Ces W a11 1 1 [nilC 2147483647 2147483647 3 g11_0]) (z12 : Ces W a12 1 1 [nilC 1 (-1) 3 g12_0]) (z13 : Ces W a13 1 1 [nilC 1 2147483648 3 g13_0]) (z14 : Ces W a14 1 1 [nilC 1 0 2 g14_0]) (z15 : Ces W a15 1 1 [nilC 1 0 4 g15_0]) (z16 : Ces W a16 1 1 [nilC 1 0 0 g16_0]) : ∀ x ∈ rowsB g6_0 g7_0 g7_1 g8_0 g8_1 g9_0 g10_0 g11_0 g12_0 g13_0 g14_0 g15_0 g16_0 a6 a7 a8 a9 a10 a11 a12 a13 a14 a15 a16, x.Good W := by
  intro x hx
  simp only [rowsB, List.mem_cons, List.not_mem_nil, or_false] at hx
  rcases hx with rfl | rfl | rfl | rfl | rfl | rfl | rfl | rfl | rfl | rfl | rfl | rfl | rfl | rfl | rfl | rfl | rfl
  · exact ⟨Ces.nil W, show okK [] 0 0 = true by decide +kernel⟩
  · exact ⟨Ces.nil W, show okK [] 16 3 = true by decide +kernel⟩
  · exact ⟨Ces.nil W, show okK [] 17 3 = false by decide +kernel⟩
  · exact ⟨Ces.nil W, show okK [] (-1) 3 = false by decide +kernel⟩
  · exact ⟨Ces.nil W, show okK [] 2 (-1) = false by decide +kernel⟩
  · exact ⟨Ces.nil W, show okK [] 1 60001 = false by decide +kernel⟩
  · exact ⟨z6, show okK [(1, 0, [0, 0, 0])] 1 3 = true by decide +kernel⟩
  · exact ⟨z7, show okK [(1, 0, [0, 0, 0]), (1, 0, [0, 0, 0])] 2 3 = true by decide +kernel⟩
  · exact ⟨z8, show okK [(1, 0, [0, 0, 0]), (2, 0, [0, 0, 0])] 1 3 = false by decide +kernel⟩
  · exact ⟨z9, show okK [(0, 0, [0, 0, 0])] 1 3 = false by decide +kernel⟩
  · exact ⟨z10, show okK [(2147483648, 0, [0, 0, 0])] 1 3 = false by decide +kernel⟩
  · exact ⟨z11, show okK [(2147483647, 2147483647, [0, 0, 0])] 1 3 = true by decide +kernel⟩
  · exact ⟨z12, show okK [(1, (-1), [0, 0, 0])] 1 3 = false by decide +kernel⟩
  · exact ⟨z13, show okK [(1, 2147483648, [0, 0, 0])] 1 3 = false by decide +kernel⟩
  · exact ⟨z14, show okK [(1, 0, [0, 0])] 1 3 = false by decide +kernel⟩
  · exact ⟨z15, show okK [(1, 0, [0, 0, 0, 0])] 1 3 = false by decide +kernel⟩
  · exact ⟨z16, show okK [(1, 0, [])] 1 0 = true by decide +kernel⟩

theorem size_bf : (Try.prog.info? 27).map (·.size) = some 4 := by kernel_rfl
set_option maxRecDepth 100000 in
set_option maxHeartbeats 16000000 in
theorem buckForms_walk (which : Int) (w : World) :
    Calls Try.prog 3 #[.int .i64 which] w fun e w' => e = .returned (.bool true) ∧ Below w.heap.size w w' := by
  obtain ⟨J, hJ, hJ17⟩ : ∃ J : Nat, (bits .and .i64 which 255).tmod 17 = (J : Int) ∧ J < 17 := by
    rw [i64_and255, Int.tmod_eq_emod_of_nonneg (Int.emod_nonneg _ (by decide))]
    exact ⟨(which % 256 % 17).toNat, by omega, by omega⟩
  go_enter Try.func3, Try.ntmps3
  go_wp2_with fail
  refine (form_any 1 0 3 w (by omega) (by omega) (by omega)).mono ?_
  rintro e v1 ⟨g6_0, rfl, h6_0, s0⟩
  have z6 := Ces.lit (w := v1) (cs := [nilC 1 0 3 g6_0]) (vs := #[.int .i64 1, .int .i64 0, .slice (some ⟨g6_0, 0, none⟩) 3 3]) (n := 1) rfl rfl (by omega) (fun c h => by cases List.mem_singleton.1 h; exact h6_0)
  have s1 := cells_below v1 #[.int .i64 1, .int .i64 0, .slice (some ⟨g6_0, 0, none⟩) 3 3]
  go_wp2_with (refine wpList_buildSliceAt (by rfl) 26 24 1 _ (by rfl) Try.underlying26 [(0, .agg #[.int .i64 1, .int .i64 0, .slice (some ⟨g6_0, 0, none⟩) 3 3])] (by rfl) #[.int .i64 1, .int .i64 0, .slice (some ⟨g6_0, 0, none⟩) 3 3] (builtS_cell (nilC 1 0 3 g6_0)) v1.heap.size rfl ?_)
  generalize v1.alloc (.cells #[.int .i64 1, .int .i64 0, .slice (some ⟨g6_0, 0, none⟩) 3 3] 24) = v2 at *
  refine (form_any 1 0 3 v2 (by omega) (by omega) (by omega)).mono ?_
  rintro e v3 ⟨g7_0, rfl, h7_0, s2⟩
  go_wp2_with fail
  refine (form_any 1 0 3 v3 (by omega) (by omega) (by omega)).mono ?_
  rintro e v4 ⟨g7_1, rfl, h7_1, s3⟩
  replace h7_0 := h7_0.below s3
  have z7 := Ces.lit (w := v4) (cs := [nilC 1 0 3 g7_0, nilC 1 0 3 g7_1]) (vs := #[.int .i64 1, .int .i64 0, .slice (some ⟨g7_0, 0, none⟩) 3 3, .int .i64 1, .int .i64 0, .slice (some ⟨g7_1, 0, none⟩) 3 3]) (n := 2) rfl rfl (by omega) (fun c h => by rcases List.mem_cons.1 h with rfl | h; exact h7_0; cases List.mem_singleton.1 h; exact h7_1)
  have s4 := cells_below v4 #[.int .i64 1, .int .i64 0, .slice (some ⟨g7_0, 0, none⟩) 3 3, .int .i64 1, .int .i64 0, .slice (some ⟨g7_1, 0, none⟩) 3 3]
  go_wp2_with (refine wpList_buildSliceAt (by rfl) 26 24 2 _ (by rfl) Try.underlying26 [(0, .agg #[.int .i64 1, .int .i64 0, .slice (some ⟨g7_0, 0, none⟩) 3 3]), (1, .agg #[.int .i64 1, .int .i64 0, .slice (some ⟨g7_1, 0, none⟩) 3 3])] (by rfl) #[.int .i64 1, .int .i64 0, .slice (some ⟨g7_0, 0, none⟩) 3 3, .int .i64 1, .int .i64 0, .slice (some ⟨g7_1, 0, none⟩) 3 3] (builtS_two (nilC 1 0 3 g7_0) (nilC 1 0 3 g7_1)) v4.heap.size rfl ?_)
  generalize v4.alloc (.cells #[.int .i64 1, .int .i64 0, .slice (some ⟨g7_0, 0, none⟩) 3 3, .int .i64 1, .int .i64 0, .slice (some ⟨g7_1, 0, none⟩) 3 3] 24) = v5 at *
  refine (form_any 1 0 3 v5 (by omega) (by omega) (by omega)).mono ?_
  rintro e v6 ⟨g8_0, rfl, h8_0, s5⟩
  go_wp2_with fail
  refine (form_any 2 0 3 v6 (by omega) (by omega) (by omega)).mono ?_
  rintro e v7 ⟨g8_1, rfl, h8_1, s6⟩
  replace h8_0 := h8_0.below s6
  have z8 := Ces.lit (w := v7) (cs := [nilC 1 0 3 g8_0, nilC 2 0 3 g8_1]) (vs := #[.int .i64 1, .int .i64 0, .slice (some ⟨g8_0, 0, none⟩) 3 3, .int .i64 2, .int .i64 0, .slice (some ⟨g8_1, 0, none⟩) 3 3]) (n := 2) rfl rfl (by omega) (fun c h => by rcases List.mem_cons.1 h with rfl | h; exact h8_0; cases List.mem_singleton.1 h; exact h8_1)
  have s7 := cells_below v7 #[.int .i64 1, .int .i64 0, .slice (some ⟨g8_0, 0, none⟩) 3 3, .int .i64 2, .int .i64 0, .slice (some ⟨g8_1, 0, none⟩) 3 3]
  go_wp2_with (refine wpList_buildSliceAt (by rfl) 26 24 2 _ (by rfl) Try.underlying26 [(0, .agg #[.int .i64 1, .int .i64 0, .slice (some ⟨g8_0, 0, none⟩) 3 3]), (1, .agg #[.int .i64 2, .int .i64 0, .slice (some ⟨g8_1, 0, none⟩) 3 3])] (by rfl) #[.int .i64 1, .int .i64 0, .slice (some ⟨g8_0, 0, none⟩) 3 3, .int .i64 2, .int .i64 0, .slice (some ⟨g8_1, 0, none⟩) 3 3] (builtS_two (nilC 1 0 3 g8_0) (nilC 2 0 3 g8_1)) v7.heap.size rfl ?_)
  generalize v7.alloc (.cells #[.int .i64 1, .int .i64 0, .slice (some ⟨g8_0, 0, none⟩) 3 3, .int .i64 2, .int .i64 0, .slice (some ⟨g8_1, 0, none⟩) 3 3] 24) = v8 at *
  refine (form_any 0 0 3 v8 (by omega) (by omega) (by omega)).mono ?_
  rintro e v9 ⟨g9_0, rfl, h9_0, s8⟩
  have z9 := Ces.lit (w := v9) (cs := [nilC 0 0 3 g9_0]) (vs := #[.int .i64 0, .int .i64 0, .slice (some ⟨g9_0, 0, none⟩) 3 3]) (n := 1) rfl rfl (by omega) (fun c h => by cases List.mem_singleton.1 h; exact h9_0)
  have s9 := cells_below v9 #[.int .i64 0, .int .i64 0, .slice (some ⟨g9_0, 0, none⟩) 3 3]
  go_wp2_with (refine wpList_buildSliceAt (by rfl) 26 24 1 _ (by rfl) Try.underlying26 [(0, .agg #[.int .i64 0, .int .i64 0, .slice (some ⟨g9_0, 0, none⟩) 3 3])] (by rfl) #[.int .i64 0, .int .i64 0, .slice (some ⟨g9_0, 0, none⟩) 3 3] (builtS_cell (nilC 0 0 3 g9_0)) v9.heap.size rfl ?_)
  generalize v9.alloc (.cells #[.int .i64 0, .int .i64 0, .slice (some ⟨g9_0, 0, none⟩) 3 3] 24) = v10 at *
  refine (form_any 2147483648 0 3 v10 (by omega) (by omega) (by omega)).mono ?_
  rintro e v11 ⟨g10_0, rfl, h10_0, s10⟩
  have z10 := Ces.lit (w := v11) (cs := [nilC 2147483648 0 3 g10_0]) (vs := #[.int .i64 2147483648, .int .i64 0, .slice (some ⟨g10_0, 0, none⟩) 3 3]) (n := 1) rfl rfl (by omega) (fun c h => by cases List.mem_singleton.1 h; exact h10_0)
  have s11 := cells_below v11 #[.int .i64 2147483648, .int .i64 0, .slice (some ⟨g10_0, 0, none⟩) 3 3]
  go_wp2_with (refine wpList_buildSliceAt (by rfl) 26 24 1 _ (by rfl) Try.underlying26 [(0, .agg #[.int .i64 2147483648, .int .i64 0, .slice (some ⟨g10_0, 0, none⟩) 3 3])] (by rfl) #[.int .i64 2147483648, .int .i64 0, .slice (some ⟨g10_0, 0, none⟩) 3 3] (builtS_cell (nilC 2147483648 0 3 g10_0)) v11.heap.size rfl ?_)
  generalize v11.alloc (.cells #[.int .i64 2147483648, .int .i64 0, .slice (some ⟨g10_0, 0, none⟩) 3 3] 24) = v12 at *
  refine (form_any 2147483647 2147483647 3 v12 (by omega) (by omega) (by omega)).mono ?_
  rintro e v13 ⟨g11_0, rfl, h11_0, s12⟩
  have z11 := Ces.lit (w := v13) (cs := [nilC 2147483647 2147483647 3 g11_0]) (vs := #[.int .i64 2147483647, .int .i64 2147483647, .slice (some ⟨g11_0, 0, none⟩) 3 3]) (n := 1) rfl rfl (by omega) (fun c h => by cases List.mem_singleton.1 h; exact h11_0)
  have s13 := cells_below v13 #[.int .i64 2147483647, .int .i64 2147483647, .slice (some ⟨g11_0, 0, none⟩) 3 3]
  go_wp2_with (refine wpList_buildSliceAt (by rfl) 26 24 1 _ (by rfl) Try.underlying26 [(0, .agg #[.int .i64 2147483647, .int .i64 2147483647, .slice (some ⟨g11_0, 0, none⟩) 3 3])] (by rfl) #[.int .i64 2147483647, .int .i64 2147483647, .slice (some ⟨g11_0, 0, none⟩) 3 3] (builtS_cell (nilC 2147483647 2147483647 3 g11_0)) v13.heap.size rfl ?_)
  generalize v13.alloc (.cells #[.int .i64 2147483647, .int .i64 2147483647, .slice (some ⟨g11_0, 0, none⟩) 3 3] 24) = v14 at *
  refine (form_any 1 (-1) 3 v14 (by omega) (by omega) (by omega)).mono ?_
  rintro e v15 ⟨g12_0, rfl, h12_0, s14⟩
  have z12 := Ces.lit (w := v15) (cs := [nilC 1 (-1) 3 g12_0]) (vs := #[.int .i64 1, .int .i64 (-1), .slice (some ⟨g12_0, 0, none⟩) 3 3]) (n := 1) rfl rfl (by omega) (fun c h => by cases List.mem_singleton.1 h; exact h12_0)
  have s15 := cells_below v15 #[.int .i64 1, .int .i64 (-1), .slice (some ⟨g12_0, 0, none⟩) 3 3]
  go_wp2_with (refine wpList_buildSliceAt (by rfl) 26 24 1 _ (by rfl) Try.underlying26 [(0, .agg #[.int .i64 1, .int .i64 (-1), .slice (some ⟨g12_0, 0, none⟩) 3 3])] (by rfl) #[.int .i64 1, .int .i64 (-1), .slice (some ⟨g12_0, 0, none⟩) 3 3] (builtS_cell (nilC 1 (-1) 3 g12_0)) v15.heap.size rfl ?_)
  generalize v15.alloc (.cells #[.int .i64 1, .int .i64 (-1), .slice (some ⟨g12_0, 0, none⟩) 3 3] 24) = v16 at *
  refine (form_any 1 2147483648 3 v16 (by omega) (by omega) (by omega)).mono ?_
  rintro e v17 ⟨g13_0, rfl, h13_0, s16⟩
  have z13 := Ces.lit (w := v17) (cs := [nilC 1 2147483648 3 g13_0]) (vs := #[.int .i64 1, .int .i64 2147483648, .slice (some ⟨g13_0, 0, none⟩) 3 3]) (n := 1) rfl rfl (by omega) (fun c h => by cases List.mem_singleton.1 h; exact h13_0)
  have s17 := cells_below v17 #[.int .i64 1, .int .i64 2147483648, .slice (some ⟨g13_0, 0, none⟩) 3 3]
  go_wp2_with (refine wpList_buildSliceAt (by rfl) 26 24 1 _ (by rfl) Try.underlying26 [(0, .agg #[.int .i64 1, .int .i64 2147483648, .slice (some ⟨g13_0, 0, none⟩) 3 3])] (by rfl) #[.int .i64 1, .int .i64 2147483648, .slice (some ⟨g13_0, 0, none⟩) 3 3] (builtS_cell (nilC 1 2147483648 3 g13_0)) v17.heap.size rfl ?_)
  generalize v17.alloc (.cells #[.int .i64 1, .int .i64 2147483648, .slice (some ⟨g13_0, 0, none⟩) 3 3] 24) = v18 at *
  refine (form_any 1 0 2 v18 (by omega) (by omega) (by omega)).mono ?_
  rintro e v19 ⟨g14_0, rfl, h14_0, s18⟩
  have z14 := Ces.lit (w := v19) (cs := [nilC 1 0 2 g14_0]) (vs := #[.int .i64 1, .int .i64 0, .slice (some ⟨g14_0, 0, none⟩) 2 2]) (n := 1) rfl rfl (by omega) (fun c h => by cases List.mem_singleton.1 h; exact h14_0)
  have s19 := cells_below v19 #[.int .i64 1, .int .i64 0, .slice (some ⟨g14_0, 0, none⟩) 2 2]
  go_wp2_with (refine wpList_buildSliceAt (by rfl) 26 24 1 _ (by rfl) Try.underlying26 [(0, .agg #[.int .i64 1, .int .i64 0, .slice (some ⟨g14_0, 0, none⟩) 2 2])] (by rfl) #[.int .i64 1, .int .i64 0, .slice (some ⟨g14_0, 0, none⟩) 2 2] (builtS_cell (nilC 1 0 2 g14_0)) v19.heap.size rfl ?_)
  generalize v19.alloc (.cells #[.int .i64 1, .int .i64 0, .slice (some ⟨g14_0, 0, none⟩) 2 2] 24) = v20 at *
  refine (form_any 1 0 4 v20 (by omega) (by omega) (by omega)).mono ?_
  rintro e v21 ⟨g15_0, rfl, h15_0, s20⟩
  have z15 := Ces.lit (w := v21) (cs := [nilC 1 0 4 g15_0]) (vs := #[.int .i64 1, .int .i64 0, .slice (some ⟨g15_0, 0, none⟩) 4 4]) (n := 1) rfl rfl (by omega) (fun c h => by cases List.mem_singleton.1 h; exact h15_0)
  have s21 := cells_below v21 #[.int .i64 1, .int .i64 0, .slice (some ⟨g15_0, 0, none⟩) 4 4]
  go_wp2_with (refine wpList_buildSliceAt (by rfl) 26 24 1 _ (by rfl) Try.underlying26 [(0, .agg #[.int .i64 1, .int .i64 0, .slice (some ⟨g15_0, 0, none⟩) 4 4])] (by rfl) #[.int .i64 1, .int .i64 0, .slice (some ⟨g15_0, 0, none⟩) 4 4] (builtS_cell (nilC 1 0 4 g15_0)) v21.heap.size rfl ?_)
  generalize v21.alloc (.cells #[.int .i64 1, .int .i64 0, .slice (some ⟨g15_0, 0, none⟩) 4 4] 24) = v22 at *
  refine (form_any 1 0 0 v22 (by omega) (by omega) (by omega)).mono ?_
  rintro e v23 ⟨g16_0, rfl, h16_0, s22⟩
  have z16 := Ces.lit (w := v23) (cs := [nilC 1 0 0 g16_0]) (vs := #[.int .i64 1, .int .i64 0, .slice (some ⟨g16_0, 0, none⟩) 0 0]) (n := 1) rfl rfl (by omega) (fun c h => by cases List.mem_singleton.1 h; exact h16_0)
  have s23 := cells_below v23 #[.int .i64 1, .int .i64 0, .slice (some ⟨g16_0, 0, none⟩) 0 0]
  have t24 : Below (v23.alloc (.cells #[.int .i64 1, .int .i64 0, .slice (some ⟨g16_0, 0, none⟩) 0 0] 24)).heap.size (v23.alloc (.cells #[.int .i64 1, .int .i64 0, .slice (some ⟨g16_0, 0, none⟩) 0 0] 24)) (v23.alloc (.cells #[.int .i64 1, .int .i64 0, .slice (some ⟨g16_0, 0, none⟩) 0 0] 24)) := Below.refl _ _
  have t23 := s23.trans (t24.mono s23.size)
  have t22 := s22.trans (t23.mono s22.size)
  have t21 := s21.trans (t22.mono s21.size)
  have t20 := s20.trans (t21.mono s20.size)
  have t19 := s19.trans (t20.mono s19.size)
  have t18 := s18.trans (t19.mono s18.size)
  have t17 := s17.trans (t18.mono s17.size)
  have t16 := s16.trans (t17.mono s16.size)
  have t15 := s15.trans (t16.mono s15.size)
  have t14 := s14.trans (t15.mono s14.size)
  have t13 := s13.trans (t14.mono s13.size)
  have t12 := s12.trans (t13.mono s12.size)
  have t11 := s11.trans (t12.mono s11.size)
  have t10 := s10.trans (t11.mono s10.size)
  have t9 := s9.trans (t10.mono s9.size)
  have t8 := s8.trans (t9.mono s8.size)
  have t7 := s7.trans (t8.mono s7.size)
  have t6 := s6.trans (t7.mono s6.size)
  have t5 := s5.trans (t6.mono s5.size)
  have t4 := s4.trans (t5.mono s4.size)
  have t3 := s3.trans (t4.mono s3.size)
  have t2 := s2.trans (t3.mono s2.size)
  have t1 := s1.trans (t2.mono s1.size)
  have t0 := s0.trans (t1.mono s0.size)
  have bt := below_alloc (Below.refl (v23.alloc (.cells #[.int .i64 1, .int .i64 0, .slice (some ⟨g16_0, 0, none⟩) 0 0] 24)).heap.size (v23.alloc (.cells #[.int .i64 1, .int .i64 0, .slice (some ⟨g16_0, 0, none⟩) 0 0] 24))) (Obj.cells #[.slice none 0 0, .int .i64 0, .int .i64 0, .bool true, .slice none 0 0, .int .i64 16, .int .i64 3, .bool true, .slice none 0 0, .int .i64 17, .int .i64 3, .bool false, .slice none 0 0, .int .i64 (-1), .int .i64 3, .bool false, .slice none 0 0, .int .i64 2, .int .i64 (-1), .bool false, .slice none 0 0, .int .i64 1, .int .i64 60001, .bool false, .slice (some ⟨v1.heap.size, 0, none⟩) 1 1, .int .i64 1, .int .i64 3, .bool true, .slice (some ⟨v4.heap.size, 0, none⟩) 2 2, .int .i64 2, .int .i64 3, .bool true, .slice (some ⟨v7.heap.size, 0, none⟩) 2 2, .int .i64 1, .int .i64 3, .bool false, .slice (some ⟨v9.heap.size, 0, none⟩) 1 1, .int .i64 1, .int .i64 3, .bool false, .slice (some ⟨v11.heap.size, 0, none⟩) 1 1, .int .i64 1, .int .i64 3, .bool false, .slice (some ⟨v13.heap.size, 0, none⟩) 1 1, .int .i64 1, .int .i64 3, .bool true, .slice (some ⟨v15.heap.size, 0, none⟩) 1 1, .int .i64 1, .int .i64 3, .bool false, .slice (some ⟨v17.heap.size, 0, none⟩) 1 1, .int .i64 1, .int .i64 3, .bool false, .slice (some ⟨v19.heap.size, 0, none⟩) 1 1, .int .i64 1, .int .i64 3, .bool false, .slice (some ⟨v21.heap.size, 0, none⟩) 1 1, .int .i64 1, .int .i64 3, .bool false, .slice (some ⟨v23.heap.size, 0, none⟩) 1 1, .int .i64 1, .int .i64 0, .bool true] 27)
  have hG := rows_good ((v23.alloc (.cells #[.int .i64 1, .int .i64 0, .slice (some ⟨g16_0, 0, none⟩) 0 0] 24)).alloc (Obj.cells #[.slice none 0 0, .int .i64 0, .int .i64 0, .bool true, .slice none 0 0, .int .i64 16, .int .i64 3, .bool true, .slice none 0 0, .int .i64 17, .int .i64 3, .bool false, .slice none 0 0, .int .i64 (-1), .int .i64 3, .bool false, .slice none 0 0, .int .i64 2, .int .i64 (-1), .bool false, .slice none 0 0, .int .i64 1, .int .i64 60001, .bool false, .slice (some ⟨v1.heap.size, 0, none⟩) 1 1, .int .i64 1, .int .i64 3, .bool true, .slice (some ⟨v4.heap.size, 0, none⟩) 2 2, .int .i64 2, .int .i64 3, .bool true, .slice (some ⟨v7.heap.size, 0, none⟩) 2 2, .int .i64 1, .int .i64 3, .bool false, .slice (some ⟨v9.heap.size, 0, none⟩) 1 1, .int .i64 1, .int .i64 3, .bool false, .slice (some ⟨v11.heap.size, 0, none⟩) 1 1, .int .i64 1, .int .i64 3, .bool false, .slice (some ⟨v13.heap.size, 0, none⟩) 1 1, .int .i64 1, .int .i64 3, .bool true, .slice (some ⟨v15.heap.size, 0, none⟩) 1 1, .int .i64 1, .int .i64 3, .bool false, .slice (some ⟨v17.heap.size, 0, none⟩) 1 1, .int .i64 1, .int .i64 3, .bool false, .slice (some ⟨v19.heap.size, 0, none⟩) 1 1, .int .i64 1, .int .i64 3, .bool false, .slice (some ⟨v21.heap.size, 0, none⟩) 1 1, .int .i64 1, .int .i64 3, .bool false, .slice (some ⟨v23.heap.size, 0, none⟩) 1 1, .int .i64 1, .int .i64 0, .bool true] 27)) g6_0 g7_0 g7_1 g8_0 g8_1 g9_0 g10_0 g11_0 g12_0 g13_0 g14_0 g15_0 g16_0 (some ⟨v1.heap.size, 0, none⟩) (some ⟨v4.heap.size, 0, none⟩) (some ⟨v7.heap.size, 0, none⟩) (some ⟨v9.heap.size, 0, none⟩) (some ⟨v11.heap.size, 0, none⟩) (some ⟨v13.heap.size, 0, none⟩) (some ⟨v15.heap.size, 0, none⟩) (some ⟨v17.heap.size, 0, none⟩) (some ⟨v19.heap.size, 0, none⟩) (some ⟨v21.heap.size, 0, none⟩) (some ⟨v23.heap.size, 0, none⟩) (z6.below (t2.trans (bt.mono t2.size))) (z7.below (t5.trans (bt.mono t5.size))) (z8.below (t8.trans (bt.mono t8.size))) (z9.below (t10.trans (bt.mono t10.size))) (z10.below (t12.trans (bt.mono t12.size))) (z11.below (t14.trans (bt.mono t14.size))) (z12.below (t16.trans (bt.mono t16.size))) (z13.below (t18.trans (bt.mono t18.size))) (z14.below (t20.trans (bt.mono t20.size))) (z15.below (t22.trans (bt.mono t22.size))) (z16.below (t24.trans (bt.mono t24.size)))
  have hr := RB.rng (rows := rowsB g6_0 g7_0 g7_1 g8_0 g8_1 g9_0 g10_0 g11_0 g12_0 g13_0 g14_0 g15_0 g16_0 (some ⟨v1.heap.size, 0, none⟩) (some ⟨v4.heap.size, 0, none⟩) (some ⟨v7.heap.size, 0, none⟩) (some ⟨v9.heap.size, 0, none⟩) (some ⟨v11.heap.size, 0, none⟩) (some ⟨v13.heap.size, 0, none⟩) (some ⟨v15.heap.size, 0, none⟩) (some ⟨v17.heap.size, 0, none⟩) (some ⟨v19.heap.size, 0, none⟩) (some ⟨v21.heap.size, 0, none⟩) (some ⟨v23.heap.size, 0, none⟩)) (heap_alloc_new (v23.alloc (.cells #[.int .i64 1, .int .i64 0, .slice (some ⟨g16_0, 0, none⟩) 0 0] 24)) (Obj.cells #[.slice none 0 0, .int .i64 0, .int .i64 0, .bool true, .slice none 0 0, .int .i64 16, .int .i64 3, .bool true, .slice none 0 0, .int .i64 17, .int .i64 3, .bool false, .slice none 0 0, .int .i64 (-1), .int .i64 3, .bool false, .slice none 0 0, .int .i64 2, .int .i64 (-1), .bool false, .slice none 0 0, .int .i64 1, .int .i64 60001, .bool false, .slice (some ⟨v1.heap.size, 0, none⟩) 1 1, .int .i64 1, .int .i64 3, .bool true, .slice (some ⟨v4.heap.size, 0, none⟩) 2 2, .int .i64 2, .int .i64 3, .bool true, .slice (some ⟨v7.heap.size, 0, none⟩) 2 2, .int .i64 1, .int .i64 3, .bool false, .slice (some ⟨v9.heap.size, 0, none⟩) 1 1, .int .i64 1, .int .i64 3, .bool false, .slice (some ⟨v11.heap.size, 0, none⟩) 1 1, .int .i64 1, .int .i64 3, .bool false, .slice (some ⟨v13.heap.size, 0, none⟩) 1 1, .int .i64 1, .int .i64 3, .bool true, .slice (some ⟨v15.heap.size, 0, none⟩) 1 1, .int .i64 1, .int .i64 3, .bool false, .slice (some ⟨v17.heap.size, 0, none⟩) 1 1, .int .i64 1, .int .i64 3, .bool false, .slice (some ⟨v19.heap.size, 0, none⟩) 1 1, .int .i64 1, .int .i64 3, .bool false, .slice (some ⟨v21.heap.size, 0, none⟩) 1 1, .int .i64 1, .int .i64 3, .bool false, .slice (some ⟨v23.heap.size, 0, none⟩) 1 1, .int .i64 1, .int .i64 0, .bool true] 27)) rfl J hJ17
  have hx := hG _ (List.getElem_mem hJ17)
  have hB := t0.trans (bt.mono t0.size)
  clear hG bt z6 z7 z8 z9 z10 z11 z12 z13 z14 z15 z16 t0 t1 t2 t3 t4 t5 t6 t7 t8 t9 t10 t11 t12 t13 t14 t15 t16 t17 t18 t19 t20 t21 t22 t23 t24 s0 s1 s2 s3 s4 s5 s6 s7 s8 s9 s10 s11 s12 s13 s14 s15 s16 s17 s18 s19 s20 s21 s22 s23 h6_0 h7_0 h7_1 h8_0 h8_1 h9_0 h10_0 h11_0 h12_0 h13_0 h14_0 h15_0 h16_0
  generalize (rowsB g6_0 g7_0 g7_1 g8_0 g8_1 g9_0 g10_0 g11_0 g12_0 g13_0 g14_0 g15_0 g16_0 (some ⟨v1.heap.size, 0, none⟩) (some ⟨v4.heap.size, 0, none⟩) (some ⟨v7.heap.size, 0, none⟩) (some ⟨v9.heap.size, 0, none⟩) (some ⟨v11.heap.size, 0, none⟩) (some ⟨v13.heap.size, 0, none⟩) (some ⟨v15.heap.size, 0, none⟩) (some ⟨v17.heap.size, 0, none⟩) (some ⟨v19.heap.size, 0, none⟩) (some ⟨v21.heap.size, 0, none⟩) (some ⟨v23.heap.size, 0, none⟩))[J] = x at hr hx
  obtain ⟨cs, xa, xl, xc, z, size, ok⟩ := x
  rw [size_alloc] at hr
  go_wp2_with (refine wpList_load_mid rfl 27 _ (by rfl) (v23.heap.size + 1) (J * 4) (by rfl) [.slice xa xl xc, .int .i64 z, .int .i64 size, .bool ok] _ hr Try.underlying27 rfl size_bf ?_)
  have hrow := heap_alloc_new ((v23.alloc (.cells #[.int .i64 1, .int .i64 0, .slice (some ⟨g16_0, 0, none⟩) 0 0] 24)).alloc (Obj.cells #[.slice none 0 0, .int .i64 0, .int .i64 0, .bool true, .slice none 0 0, .int .i64 16, .int .i64 3, .bool true, .slice none 0 0, .int .i64 17, .int .i64 3, .bool false, .slice none 0 0, .int .i64 (-1), .int .i64 3, .bool false, .slice none 0 0, .int .i64 2, .int .i64 (-1), .bool false, .slice none 0 0, .int .i64 1, .int .i64 60001, .bool false, .slice (some ⟨v1.heap.size, 0, none⟩) 1 1, .int .i64 1, .int .i64 3, .bool true, .slice (some ⟨v4.heap.size, 0, none⟩) 2 2, .int .i64 2, .int .i64 3, .bool true, .slice (some ⟨v7.heap.size, 0, none⟩) 2 2, .int .i64 1, .int .i64 3, .bool false, .slice (some ⟨v9.heap.size, 0, none⟩) 1 1, .int .i64 1, .int .i64 3, .bool false, .slice (some ⟨v11.heap.size, 0, none⟩) 1 1, .int .i64 1, .int .i64 3, .bool false, .slice (some ⟨v13.heap.size, 0, none⟩) 1 1, .int .i64 1, .int .i64 3, .bool true, .slice (some ⟨v15.heap.size, 0, none⟩) 1 1, .int .i64 1, .int .i64 3, .bool false, .slice (some ⟨v17.heap.size, 0, none⟩) 1 1, .int .i64 1, .int .i64 3, .bool false, .slice (some ⟨v19.heap.size, 0, none⟩) 1 1, .int .i64 1, .int .i64 3, .bool false, .slice (some ⟨v21.heap.size, 0, none⟩) 1 1, .int .i64 1, .int .i64 3, .bool false, .slice (some ⟨v23.heap.size, 0, none⟩) 1 1, .int .i64 1, .int .i64 0, .bool true] 27)) (.cells #[.slice xa xl xc, .int .i64 z, .int .i64 size, .bool ok] 27)
  rw [size_alloc, size_alloc] at hrow
  replace hB := below_alloc hB (.cells #[.slice xa xl xc, .int .i64 z, .int .i64 size, .bool ok] 27)
  have hces := hx.ces.below (below_alloc (Below.refl _ ((v23.alloc (.cells #[.int .i64 1, .int .i64 0, .slice (some ⟨g16_0, 0, none⟩) 0 0] 24)).alloc (Obj.cells #[.slice none 0 0, .int .i64 0, .int .i64 0, .bool true, .slice none 0 0, .int .i64 16, .int .i64 3, .bool true, .slice none 0 0, .int .i64 17, .int .i64 3, .bool false, .slice none 0 0, .int .i64 (-1), .int .i64 3, .bool false, .slice none 0 0, .int .i64 2, .int .i64 (-1), .bool false, .slice none 0 0, .int .i64 1, .int .i64 60001, .bool false, .slice (some ⟨v1.heap.size, 0, none⟩) 1 1, .int .i64 1, .int .i64 3, .bool true, .slice (some ⟨v4.heap.size, 0, none⟩) 2 2, .int .i64 2, .int .i64 3, .bool true, .slice (some ⟨v7.heap.size, 0, none⟩) 2 2, .int .i64 1, .int .i64 3, .bool false, .slice (some ⟨v9.heap.size, 0, none⟩) 1 1, .int .i64 1, .int .i64 3, .bool false, .slice (some ⟨v11.heap.size, 0, none⟩) 1 1, .int .i64 1, .int .i64 3, .bool false, .slice (some ⟨v13.heap.size, 0, none⟩) 1 1, .int .i64 1, .int .i64 3, .bool true, .slice (some ⟨v15.heap.size, 0, none⟩) 1 1, .int .i64 1, .int .i64 3, .bool false, .slice (some ⟨v17.heap.size, 0, none⟩) 1 1, .int .i64 1, .int .i64 3, .bool false, .slice (some ⟨v19.heap.size, 0, none⟩) 1 1, .int .i64 1, .int .i64 3, .bool false, .slice (some ⟨v21.heap.size, 0, none⟩) 1 1, .int .i64 1, .int .i64 3, .bool false, .slice (some ⟨v23.heap.size, 0, none⟩) 1 1, .int .i64 1, .int .i64 0, .bool true] 27))) (.cells #[.slice xa xl xc, .int .i64 z, .int .i64 size, .bool ok] 27))
  have hok : okK (cs.map CV.pc) z size = ok := hx.ok
  clear hr hx
  generalize (((v23.alloc (.cells #[.int .i64 1, .int .i64 0, .slice (some ⟨g16_0, 0, none⟩) 0 0] 24)).alloc (Obj.cells #[.slice none 0 0, .int .i64 0, .int .i64 0, .bool true, .slice none 0 0, .int .i64 16, .int .i64 3, .bool true, .slice none 0 0, .int .i64 17, .int .i64 3, .bool false, .slice none 0 0, .int .i64 (-1), .int .i64 3, .bool false, .slice none 0 0, .int .i64 2, .int .i64 (-1), .bool false, .slice none 0 0, .int .i64 1, .int .i64 60001, .bool false, .slice (some ⟨v1.heap.size, 0, none⟩) 1 1, .int .i64 1, .int .i64 3, .bool true, .slice (some ⟨v4.heap.size, 0, none⟩) 2 2, .int .i64 2, .int .i64 3, .bool true, .slice (some ⟨v7.heap.size, 0, none⟩) 2 2, .int .i64 1, .int .i64 3, .bool false, .slice (some ⟨v9.heap.size, 0, none⟩) 1 1, .int .i64 1, .int .i64 3, .bool false, .slice (some ⟨v11.heap.size, 0, none⟩) 1 1, .int .i64 1, .int .i64 3, .bool false, .slice (some ⟨v13.heap.size, 0, none⟩) 1 1, .int .i64 1, .int .i64 3, .bool true, .slice (some ⟨v15.heap.size, 0, none⟩) 1 1, .int .i64 1, .int .i64 3, .bool false, .slice (some ⟨v17.heap.size, 0, none⟩) 1 1, .int .i64 1, .int .i64 3, .bool false, .slice (some ⟨v19.heap.size, 0, none⟩) 1 1, .int .i64 1, .int .i64 3, .bool false, .slice (some ⟨v21.heap.size, 0, none⟩) 1 1, .int .i64 1, .int .i64 3, .bool false, .slice (some ⟨v23.heap.size, 0, none⟩) 1 1, .int .i64 1, .int .i64 0, .bool true] 27)).alloc (.cells #[.slice xa xl xc, .int .i64 z, .int .i64 size, .bool ok] 27)) = W at *
  generalize v23.heap.size + 1 + 1 = gx at *
  simp only at hces
  have hx1 : gx < W.heap.size := (Array.getElem?_eq_some_iff.1 hrow).1
  have hC := code_any W hces z size
  rw [hok] at hC
  refine hC.mono ?_
  rintro e W1 ⟨a, n, c, rfl, hO, b1⟩
  have hrow1 := (b1.block _ hx1).trans hrow
  have B1 := hB.trans (b1.mono hB.size)
  have hn := hO.bs.length
  have HRK := hide hrow
  clear hC hrow
  cases ok
  · clear HRK
    have hnil : codeR (cs.map CV.pc) z size = [] := by unfold codeR; rw [if_neg (by rw [hok]; decide)]
    rw [hnil] at hn
    obtain rfl : 0 = n := hn
    have e3 := cell_of_row W1 gx 3 _ _ _ hrow1
    have hA := awake_any W1
    clear hok hces hO b1 hnil
    go_wp2_with fail
    refine hA.mono ?_
    rintro e W2 ⟨rfl, b2⟩
    go_wp2_with fail
    go_ret
    exact ⟨rfl, B1.trans (b2.mono B1.size)⟩
  · have hl := codeR_length hok
    rw [hn] at hl
    obtain ⟨hz, -, -⟩ := okK_is hok
    obtain ⟨hw1, hw2, hlim⟩ := bf_low hz hl
    have hP := parse_any W1 hO.bs z size
    rw [(isBk_code hok).1, (isBk_code hok).2] at hP
    have hnb : ∀ zs : List Int, zs.length = n + 1 → isBk zs z size = false := by
      intro zs hzs
      rw [Bool.eq_false_iff]
      intro h
      have := (isBk_len h).2
      rw [← hl, hzs] at this
      generalize z * (8 + size) = M at *
      omega
    have HNB := hide hnb
    have hxl := hces.length
    clear hnb hok hz hces
    generalize codeR (cs.map CV.pc) z size = B at *
    have e1 := cell_of_row W1 gx 1 _ _ _ hrow1
    have e2 := cell_of_row W1 gx 2 _ _ _ hrow1
    have e3 := cell_of_row W1 gx 3 _ _ _ hrow1
    have HL := hide hl
    have HW1 := hide hw1
    have HW2 := hide hw2
    clear hl hw1 hw2
    go_wp2_with fail
    refine hP.mono ?_
    rintro e W2 ⟨la, ln, lc, ds, rfl, hds, hZ, b2⟩
    have hll : (ln : Int) = (xl : Int) := by
      have := congrArg List.length hds
      rw [List.length_map, List.length_map, hZ.length, hxl] at this
      rw [this]
    have B2 : Below W.heap.size W W2 := b1.trans (b2.mono b1.size)
    have Bw2 := B1.trans (b2.mono B1.size)
    have hO2 := hO.below b2
    clear hP hds hZ b1 b2 B1 hO hrow1 e1 e2 e3 hxl
    go_wp2_with fail
    refine wp_region_rel (fun w w' => Below W.heap.size w w') [0, 3, 4, 5, 6, 1, 2, 7, 8, 9, 10, 11, 12] (by kernel_rfl) (by kernel_rfl) (by kernel_rfl) (fun _ => Below.refl _ _) (fun _ _ _ h k => h.trans k) ?_
    have sd : Below W.heap.size W2 W2.drew := (Below.refl _ _).drew
    have B3 := B2.trans sd
    have hO3 := hO2.below (Below.refl W2.heap.size W2).drew
    clear sd B2 hO2 Bw2
    generalize W2.drew = W3 at *
    repeat' (first
      | (refine wpRel_quiet (v := ?_) rfl rfl (fun _ _ _ h => h) (by rfl) ?_ ?_
         rotate_left
         · (intro w' hR; have r := ((B3.trans hR).block _ hx1).trans HRK.out; have e1 := cell_of_row w' gx 1 _ _ _ r; have e2 := cell_of_row w' gx 2 _ _ _ r; go_simp; try rfl)
         simp only [Act.put, List.setIfInBounds_toArray, List.set_cons_zero, List.set_cons_succ])
      | fail)
    refine wpRel_step rfl rfl (by rfl) (fun K' hK => ?_)
    refine wp_buildSliceTo 22 5 1 _ (by rfl) Try.underlying22 [(0, .int .u8 0)] (by simp [Act.eval]) #[.int .u8 0] (by kernel_rfl) ?_
    have b4 := below_alloc (Below.refl W3.heap.size W3) (Obj.cells #[.int .u8 0] 5)
    have hL : Bs (W3.alloc (Obj.cells #[.int .u8 0] 5)) (some ⟨W3.heap.size, 0, none⟩) 1 1 [0] := Bs.lit rfl rfl (bytes_lit rfl) rfl (by omega)
    have hO4 := hO3.below b4
    have B4 := B3.trans (b4.mono B3.size)
    refine hK.out _ _ (b4.mono B3.size) ?_
    clear hK K'
    try simp only [Act.put, List.setIfInBounds_toArray, List.set_cons_zero, List.set_cons_succ]
    clear hO3 b4
    generalize (W3.alloc (Obj.cells #[.int .u8 0] 5)) = W4 at *
    obtain ⟨a5, c5, W5, hr5, ho5, b5⟩ := run_append_more W.heap.size W4 W4 a n c _ hO4 (Below.refl _ _) B4.size _ 1 1 [0] hL hlim
    refine wpRel_step rfl rfl (by rfl) (fun K' hK => ?_)
    refine wp_append_run (.tmp 108) (.tmp 109) 22 (by rfl) _ _ _ (by rfl) (by rfl) hr5 ?_
    refine hK.out _ _ b5 ?_
    clear hK K'
    try simp only [Act.put, List.setIfInBounds_toArray, List.set_cons_zero, List.set_cons_succ]
    have B5 := B4.trans b5
    have hP := parse_any W5 ho5.bs z size
    rw [HNB.out _ (by rw [List.length_append, hn]; rfl)] at hP
    clear hr5 ho5 B4 hO4 hL b5
    repeat' (first
      | (refine wpRel_quiet (v := ?_) rfl rfl (fun _ _ _ h => h) (by rfl) ?_ ?_
         rotate_left
         · (intro w' hR; go_simp; try rfl)
         simp only [Act.put, List.setIfInBounds_toArray, List.set_cons_zero, List.set_cons_succ])
      | fail)
    refine wpRel_step rfl rfl (by rfl) (fun K' hK => ?_)
    go_simp
    refine (hP).mono ?_
    rintro e W6 ⟨pa, pn, pc, es, rfl, -, -, b6⟩
    refine hK.out _ _ (b6.mono B5.size) ?_
    clear hK K'
    try simp only [Act.put, List.setIfInBounds_toArray, List.set_cons_zero, List.set_cons_succ]
    have B6 := B5.trans (b6.mono B5.size)
    have BW := hB.trans (B6.mono hB.size)
    have hrow6 := (B6.block _ hx1).trans HRK.out
    have e0 := cell_of_row W6 gx 0 _ _ _ hrow6
    have e1 := cell_of_row W6 gx 1 _ _ _ hrow6
    have e2 := cell_of_row W6 gx 2 _ _ _ hrow6
    have hA := awake_any W6
    have hl := HL.out
    have hw1 := HW1.out
    have hw2 := HW2.out
    clear hP b6 B5 B3 B6 HNB
    repeat' (first
      | (refine wpRel_quiet (v := ?_) rfl rfl (fun _ _ _ h => h) (by rfl) ?_ ?_
         rotate_left
         · (intro w' hR; go_simp; try rfl)
         simp only [Act.put, List.setIfInBounds_toArray, List.set_cons_zero, List.set_cons_succ])
      | fail)
    refine wpRel_nil ?_
    go_wp2_with fail
    refine hA.mono ?_
    rintro e W7 ⟨rfl, b7⟩
    go_wp2_with fail
    go_ret
    exact ⟨rfl, BW.trans (b7.mono BW.size)⟩
#print axioms buckForms_walk
end Go.Proofs.Ytgjffoeegnljlaa
