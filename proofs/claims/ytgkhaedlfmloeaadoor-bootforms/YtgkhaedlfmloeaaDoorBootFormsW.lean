
/- The walk of dumbwaiterlaw8.BootForms: for any number it answers true; nothing that was there is turned. -/
import Derived.Test.YtgkhaedlfmloeaaDoorBSteps
namespace Go.Proofs.YtgkhaedlfmloeaaDoor
open Go.RowKit

theorem lit91 (x : Array Value) (h : x.size = 91) : ∃ t : Nat → Value, x = #[t 0, t 1, t 2, t 3, t 4, t 5, t 6, t 7, t 8, t 9, t 10, t 11, t 12, t 13, t 14, t 15, t 16, t 17, t 18, t 19, t 20, t 21, t 22, t 23, t 24, t 25, t 26, t 27, t 28, t 29, t 30, t 31, t 32, t 33, t 34, t 35, t 36, t 37, t 38, t 39, t 40, t 41, t 42, t 43, t 44, t 45, t 46, t 47, t 48, t 49, t 50, t 51, t 52, t 53, t 54, t 55, t 56, t 57, t 58, t 59, t 60, t 61, t 62, t 63, t 64, t 65, t 66, t 67, t 68, t 69, t 70, t 71, t 72, t 73, t 74, t 75, t 76, t 77, t 78, t 79, t 80, t 81, t 82, t 83, t 84, t 85, t 86, t 87, t 88, t 89, t 90] ∧ ∀ i, x.getD i undef = t i := by
  refine ⟨fun i => x.getD i undef, ?_, fun _ => rfl⟩
  have e : x = ((List.range 91).map fun i => x.getD i undef).toArray := by
    apply Array.ext_getElem?
    intro i
    rcases Nat.lt_or_ge i 91 with hi | hi
    · have h2 : i < x.size := by omega
      simp [hi, h2]
    · have h2 : ¬ i < x.size := by omega
      simp [Nat.not_lt.2 hi, h2]
  exact e
theorem size_st : (Tryd.prog.info? 41).map (·.size) = some 2 := by kernel_rfl
theorem dst_no (l : List Oper) (i : Nat) (h : ((List.range l.length).all fun j => dstOf l j != some i) = true) : ∀ j, j < l.length → dstOf l j ≠ some i := fun j hj => by
  have := (List.all_eq_true.1 h) j (List.mem_range.2 hj)
  simpa using this

theorem with_tab {l : List Oper} {w0 : World} {a0 : Act} {rv fv : Value} {rb gr cr k : Nat} {Q : Exit → Act → World → Prop} (T0 : Tab0 l w0 a0 rv fv rb gr cr) (h : Tab0 l w0 a0 rv fv rb gr cr → Step8 Q l w0 a0 rv fv k) : TreeStep Tryd.prog Q l depsF w0.heap.size w0 a0 (factF w0.heap.size rv fv) k := h T0

set_option maxRecDepth 100000 in
set_option maxHeartbeats 8000000 in
theorem bootForms_walk (which : Int) (w : World) : Calls Tryd.prog 4 #[.int .i64 which] w fun e w' => e = .returned (.bool true) ∧ Below w.heap.size w w' := by
  obtain ⟨J, hJ, hJ14⟩ : ∃ J : Nat, (bits .and .i64 which 255).tmod 14 = (J : Int) ∧ J < 14 := by
    rw [i64_and255, Int.tmod_eq_emod_of_nonneg (Int.emod_nonneg _ (by decide))]
    exact ⟨(which % 256 % 14).toNat, by omega, by omega⟩
  have hmf : ∀ (fn : Fn) (first cap : Array Value) (w : World), (Instr.makeFunc fn first cap).run Tryd.prog w = .ok (.func fn first cap) w := fun _ _ _ _ => rfl
  go_enter Tryd.func4, Tryd.ntmps4
  go_wp2_with fail
  refine (rrec_any 258 w (by omega)).mono ?_
  rintro e W ⟨gr, cr, rfl, hR, b1⟩
  have b2 := b1.trans ((below_alloc (Below.refl W.heap.size W) (.cells #[.slice (some ⟨gr, 0, none⟩) 24 cr] 26)).mono b1.size)
  have n2 := heap_alloc_new W (.cells #[.slice (some ⟨gr, 0, none⟩) 24 cr] 26)
  have hB2 := hR.bs.below (below_alloc (Below.refl W.heap.size W) (.cells #[.slice (some ⟨gr, 0, none⟩) 24 cr] 26))
  have c2 := cell_of_row _ _ 0 _ _ _ n2
  clear b1 hR n2
  have HB2 := hide hB2
  have HC2 := hide c2
  have Hb2 := hide b2
  clear hB2 c2 b2
  go_wp2_with fail
  generalize (W.alloc (.cells #[.slice (some ⟨gr, 0, none⟩) 24 cr] 26)) = W1 at *
  generalize W.heap.size = rb at *
  refine wp_region_tree (n := 91) (deps := depsF) (Fact := factF W1.heap.size (.slice (some ⟨gr, 0, none⟩) 24 cr) (.func (.func 16) #[] #[.pointer (some ⟨rb, 0, none⟩)])) (by kernel_rfl) (by kernel_rfl) rfl (fun k S v w1 w2 h hk => fact_keep k S v w1 w2 h hk) ?_ ?_
  · intro k hk
    have hk' : k < 45 := hk
    refine with_tab (rb := rb) (gr := gr) (cr := cr) ⟨dst_no _ 3 (by kernel_rfl), dst_no _ 4 (by kernel_rfl), rfl, rfl, rfl, rfl, HC2.out, HB2.out⟩ (fun T0 => ?_)
    have : k = 0 ∨ k = 1 ∨ k = 2 ∨ k = 3 ∨ k = 4 ∨ k = 5 ∨ k = 6 ∨ k = 7 ∨ k = 8 ∨ k = 9 ∨ k = 10 ∨ k = 11 ∨ k = 12 ∨ k = 13 ∨ k = 14 ∨ k = 15 ∨ k = 16 ∨ k = 17 ∨ k = 18 ∨ k = 19 ∨ k = 20 ∨ k = 21 ∨ k = 22 ∨ k = 23 ∨ k = 24 ∨ k = 25 ∨ k = 26 ∨ k = 27 ∨ k = 28 ∨ k = 29 ∨ k = 30 ∨ k = 31 ∨ k = 32 ∨ k = 33 ∨ k = 34 ∨ k = 35 ∨ k = 36 ∨ k = 37 ∨ k = 38 ∨ k = 39 ∨ k = 40 ∨ k = 41 ∨ k = 42 ∨ k = 43 ∨ k = 44 := by omega
    clear hk hk'
    rcases this with rfl | rfl | rfl | rfl | rfl | rfl | rfl | rfl | rfl | rfl | rfl | rfl | rfl | rfl | rfl | rfl | rfl | rfl | rfl | rfl | rfl | rfl | rfl | rfl | rfl | rfl | rfl | rfl | rfl | rfl | rfl | rfl | rfl | rfl | rfl | rfl | rfl | rfl | rfl | rfl | rfl | rfl | rfl | rfl | rfl
    · exact ts_load T0 0 rfl (fun o ho => by obtain rfl := Option.some.inj ho; rfl)
    · exact ts_agg_old T0 1 0 11 rfl rfl rfl rfl rfl (fun o ho => by obtain rfl := Option.some.inj ho; rfl)
    · exact ts_nought 2 rfl rfl (fun o ho => by obtain rfl := Option.some.inj ho; rfl)
    · exact ts_load T0 3 rfl (fun o ho => by obtain rfl := Option.some.inj ho; rfl)
    · exact ts_append 4 2 3 13 14 R2 rfl rfl rfl rfl rfl rfl (by rw [R2_length]; omega) (by rw [R2_length]; show 0 + 24 ≤ _; omega) (src_old T0 3 rfl) (fun o ho => by obtain rfl := Option.some.inj ho; exact ⟨rfl, rfl⟩)
    · exact ts_two 5 0 0 (by unfold IsBytes; decide) rfl rfl (fun o ho => by obtain rfl := Option.some.inj ho; rfl)
    · exact ts_append 6 4 5 15 16 [0, 0] rfl rfl rfl rfl rfl rfl (by decide) (by show R2.length + 2 ≤ _; rw [R2_length]; omega) (src_own 5 [0, 0] rfl rfl) (fun o ho => by obtain rfl := Option.some.inj ho; exact ⟨rfl, rfl⟩)
    · exact ts_agg_own 7 6 17 rfl rfl rfl rfl rfl (fun o ho => by obtain rfl := Option.some.inj ho; rfl)
    · exact ts_nought 8 rfl rfl (fun o ho => by obtain rfl := Option.some.inj ho; rfl)
    · exact ts_load T0 9 rfl (fun o ho => by obtain rfl := Option.some.inj ho; rfl)
    · exact ts_append 10 8 9 19 20 R2 rfl rfl rfl rfl rfl rfl (by rw [R2_length]; omega) (by rw [R2_length]; show 0 + 24 ≤ _; omega) (src_old T0 9 rfl) (fun o ho => by obtain rfl := Option.some.inj ho; exact ⟨rfl, rfl⟩)
    · exact ts_two 11 0 1 (by unfold IsBytes; decide) rfl rfl (fun o ho => by obtain rfl := Option.some.inj ho; rfl)
    · exact ts_append 12 10 11 21 22 [0, 1] rfl rfl rfl rfl rfl rfl (by decide) (by show R2.length + 2 ≤ _; rw [R2_length]; omega) (src_own 11 [0, 1] rfl rfl) (fun o ho => by obtain rfl := Option.some.inj ho; exact ⟨rfl, rfl⟩)
    · exact ts_agg_own 13 12 23 rfl rfl rfl rfl rfl (fun o ho => by obtain rfl := Option.some.inj ho; rfl)
    · exact ts_load T0 14 rfl (fun o ho => by obtain rfl := Option.some.inj ho; rfl)
    · exact ts_cut T0 15 14 25 rfl rfl rfl rfl rfl (fun o ho => by obtain rfl := Option.some.inj ho; rfl)
    · exact ts_agg_sli 16 15 26 rfl rfl rfl rfl rfl (fun o ho => by obtain rfl := Option.some.inj ho; rfl)
    · exact ts_agg_nil 17 rfl rfl (fun o ho => by obtain rfl := Option.some.inj ho; rfl)
    · exact ts_make 18 rfl rfl (fun o ho => by obtain rfl := Option.some.inj ho; rfl)
    · exact ts_agg_own 19 18 29 rfl rfl rfl rfl rfl (fun o ho => by obtain rfl := Option.some.inj ho; rfl)
    · exact ts_rec 20 rfl rfl (fun o ho => by obtain rfl := Option.some.inj ho; rfl)
    · exact ts_agg_own 21 20 31 rfl rfl rfl rfl rfl (fun o ho => by obtain rfl := Option.some.inj ho; rfl)
    · exact ts_func T0 22 rfl (fun o ho => by obtain rfl := Option.some.inj ho; rfl)
    · exact ts_turn T0 23 22 33 0 (by omega) rfl rfl rfl rfl rfl (fun o ho => by obtain rfl := Option.some.inj ho; rfl)
    · exact ts_agg_own 24 23 34 rfl rfl rfl rfl rfl (fun o ho => by obtain rfl := Option.some.inj ho; rfl)
    · exact ts_func T0 25 rfl (fun o ho => by obtain rfl := Option.some.inj ho; rfl)
    · exact ts_turn T0 26 25 36 11 (by omega) rfl rfl rfl rfl rfl (fun o ho => by obtain rfl := Option.some.inj ho; rfl)
    · exact ts_agg_own 27 26 37 rfl rfl rfl rfl rfl (fun o ho => by obtain rfl := Option.some.inj ho; rfl)
    · exact ts_func T0 28 rfl (fun o ho => by obtain rfl := Option.some.inj ho; rfl)
    · exact ts_turn T0 29 28 39 12 (by omega) rfl rfl rfl rfl rfl (fun o ho => by obtain rfl := Option.some.inj ho; rfl)
    · exact ts_agg_own 30 29 40 rfl rfl rfl rfl rfl (fun o ho => by obtain rfl := Option.some.inj ho; rfl)
    · exact ts_func T0 31 rfl (fun o ho => by obtain rfl := Option.some.inj ho; rfl)
    · exact ts_turn T0 32 31 42 15 (by omega) rfl rfl rfl rfl rfl (fun o ho => by obtain rfl := Option.some.inj ho; rfl)
    · exact ts_agg_own 33 32 43 rfl rfl rfl rfl rfl (fun o ho => by obtain rfl := Option.some.inj ho; rfl)
    · exact ts_func T0 34 rfl (fun o ho => by obtain rfl := Option.some.inj ho; rfl)
    · exact ts_turn T0 35 34 45 16 (by omega) rfl rfl rfl rfl rfl (fun o ho => by obtain rfl := Option.some.inj ho; rfl)
    · exact ts_agg_own 36 35 46 rfl rfl rfl rfl rfl (fun o ho => by obtain rfl := Option.some.inj ho; rfl)
    · exact ts_func T0 37 rfl (fun o ho => by obtain rfl := Option.some.inj ho; rfl)
    · exact ts_turn T0 38 37 48 23 (by omega) rfl rfl rfl rfl rfl (fun o ho => by obtain rfl := Option.some.inj ho; rfl)
    · exact ts_agg_own 39 38 49 rfl rfl rfl rfl rfl (fun o ho => by obtain rfl := Option.some.inj ho; rfl)
    · exact ts_load T0 40 rfl (fun o ho => by obtain rfl := Option.some.inj ho; rfl)
    · exact ts_garb T0 41 40 51 rfl rfl rfl rfl rfl (fun o ho => by obtain rfl := Option.some.inj ho; rfl)
    · exact ts_agg_own 42 41 52 rfl rfl rfl rfl rfl (fun o ho => by obtain rfl := Option.some.inj ho; rfl)
    · exact ts_table (fun j hj => by have hj' : j ∈ [1, 7, 13, 16, 17, 19, 21, 24, 27, 30, 33, 36, 39, 42] := hj; simp only [List.mem_cons, List.not_mem_nil, or_false] at hj'; rcases hj' with rfl | rfl | rfl | rfl | rfl | rfl | rfl | rfl | rfl | rfl | rfl | rfl | rfl | rfl <;> rfl) (fun o ho => by obtain rfl := Option.some.inj ho; rfl)
    · exact ts_last rfl (fun o ho => by obtain rfl := Option.some.inj ho; rfl)
  · intro a' W2 hb hdef hsize htm hroot
    obtain ⟨S, hF⟩ := hroot 44 5 (show 44 < 45 by omega) (fun i hi => (of_decide_eq_true (by kernel_rfl) : ∀ i, i < 45 → 44 ∉ depsF i) i hi) rfl
    rw [fact_5 rfl] at hF
    have h0 := htm 0 (dst_no _ 0 (by kernel_rfl))
    obtain ⟨tm, df⟩ := a'
    simp only at hdef hsize htm hroot hF h0
    clear hroot htm
    obtain ⟨t, rfl, ht⟩ := lit91 tm hsize
    obtain rfl : df = [] := hdef
    obtain ⟨g, xs, hv, hrange, hsli, hS⟩ := hF
    have e5 : t 5 = .slice (some ⟨g, 0, none⟩) 14 14 := hv
    have e0 : t 0 = .int .i64 which := Option.some.inj h0
    rw [e5, e0]
    clear h0 hv e5 e0 ht hsize hS
    have hr := hrange J hJ14
    rw [Nat.mul_comm] at hr
    have hx := hsli J hJ14
    obtain ⟨f1, f2, f3⟩ := row_fact J hJ14
    have hbel := Hb2.out.trans (hb.mono Hb2.out.size)
    clear hrange hsli Hb2 HB2 HC2 hb hmf
    have hxb := hx.bs
    rw [hx.zs] at hxb
    have hxl := hxb.length
    generalize xs J = x at *
    generalize rowAt J = row at *
    generalize okAt J = ok at *
    obtain ⟨xa, xl, xc, xz⟩ := x
    simp only [BV.v] at hr hxb hxl
    clear hx
    go_wp2_with (refine wpList_load_mid rfl 41 _ (by rfl) g (J * 2) (by rfl) [.slice xa xl xc, .bool ok] _ hr Tryd.underlying41 rfl size_st ?_)
    have b3 := below_alloc (Below.refl W2.heap.size W2) (.cells #[.slice xa xl xc, .bool ok] 41)
    have n3 := heap_alloc_new W2 (.cells #[.slice xa xl xc, .bool ok] 41)
    refine (parse_any _ (hxb.below b3) (by omega)).mono ?_
    rintro e W3 ⟨rfl, b4⟩
    have c4 : W3.cell? ⟨W2.heap.size, 1, none⟩ = some (.bool ok) := (b4.cell (p := ⟨W2.heap.size, 1, none⟩) (by rw [size_alloc]; exact Nat.lt_succ_self _)).trans (cell_of_row _ _ 1 _ _ _ n3)
    have hb4 := (hbel.trans (b3.mono hbel.size)).trans (b4.mono (Nat.le_trans hbel.size b3.size))
    clear b3 n3 b4 hxb hr hbel hxl f3
    generalize W2.heap.size = xv at *
    rw [f1]
    have HA := hide (awake_any W3)
    cases ok with
    | true =>
      rw [f2 rfl]
      clear f1 f2
      go_wp2_with fail
      refine HA.out.mono ?_
      rintro e W4 ⟨rfl, b5⟩
      have hfin := hb4.trans (b5.mono hb4.size)
      go_wp2_with fail
      go_ret
      exact ⟨rfl, hfin⟩
    | false =>
      rw [recN_no f1]
      clear f1 f2
      go_wp2_with fail
      refine HA.out.mono ?_
      rintro e W4 ⟨rfl, b5⟩
      have hfin := hb4.trans (b5.mono hb4.size)
      go_wp2_with fail
      go_ret
      exact ⟨rfl, hfin⟩
#print axioms bootForms_walk
end Go.Proofs.YtgkhaedlfmloeaaDoor
