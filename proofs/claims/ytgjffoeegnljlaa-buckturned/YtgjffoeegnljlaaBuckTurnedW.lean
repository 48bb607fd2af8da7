
/- The law BuckTurned answers true for every row of Cells, every size, place and byte; nothing that was there is turned. -/
import Derived.Test.YtgjffoeegnljlaaBkAwake
import Derived.Test.YtgjffoeegnljlaaBkTame
import Derived.Test.YtgjffoeegnljlaaBkFew
namespace Go.Proofs.Ytgjffoeegnljlaa
open Go.RowKit
set_option maxRecDepth 20000

theorem turned_low {S n : Nat} (hS : S ≤ 15) (h : (n : Int) = 4 * (8 + (S : Int))) : 0 < n ∧ n ≤ 92 ∧ n = 4 * (8 + S) := by omega
theorem isBk_no {zs : List Int} {n S : Nat} (hn : n = 4 * (8 + S)) (h : zs.length ≠ n) : isBk zs 4 S = false := by
  rw [Bool.eq_false_iff]
  intro h1
  have := (isBk_len h1).2
  omega
set_option maxRecDepth 100000 in
set_option maxHeartbeats 8000000 in
theorem buckTurned_walk (size at_ by_ : Int) {a : Option Addr} {len cap : Nat} {cs : List CV} (w : World) (h : Ces w a len cap cs) (hby : 0 ≤ by_ ∧ by_ < 256) :
    Calls Try.prog 4 #[.slice a len cap, .int .i64 size, .int .i64 at_, .int .u8 by_] w fun e w' => e = .returned (.bool true) ∧ Below w.heap.size w w' := by
  obtain ⟨S, hS, hS15⟩ : ∃ S : Nat, bits .and .i64 size 15 = (S : Int) ∧ S ≤ 15 := ⟨(size % 16).toNat, by rw [i64_and15]; omega, by omega⟩
  go_enter Try.func4, Try.ntmps4
  go_wp2_with fail
  refine (few_any w h).mono ?_
  rintro e w1 ⟨rfl, hr⟩
  rcases hr with rfl | ⟨rfl, -, -⟩
  · clear hS h
    go_wp2_with fail
    refine (awake_any w).mono ?_
    rintro e w1 ⟨rfl, b1⟩
    go_wp2_with fail
    go_ret
    exact ⟨rfl, b1⟩
  · have hT := tame_any w h 4 S (by omega) (by omega)
    clear h
    go_wp2_with fail
    refine hT.mono ?_
    rintro e w1 ⟨la, ln, lc, ds, rfl, hds, hown, b1⟩
    have hok : okK (ds.map CV.pc) 4 S = true := by
      rw [hds]
      exact tameL_ok _ 4 S 4 (by omega) (by omega) (by omega)
    have hC := code_any w1 hown.ces 4 S
    have hl := codeR_length hok
    rw [hok] at hC
    clear hT hown hds hok
    generalize codeR (ds.map CV.pc) 4 S = B at *
    go_wp2_with fail
    refine hC.mono ?_
    rintro e w2 ⟨ba, n, bc, rfl, hO, b2⟩
    have B2 := b1.trans (b2.mono b1.size)
    have hB := hO.bs
    have hBl := hB.length
    rw [hBl] at hl
    obtain ⟨hn0, hn92, hn⟩ := turned_low hS15 hl
    clear hC b1 b2 hO hl
    by_cases hby0 : by_ = 0
    · subst hby0
      clear hn
      go_wp2_with fail
      refine (awake_any w2).mono ?_
      rintro e w3 ⟨rfl, b3⟩
      go_wp2_with fail
      go_ret
      exact ⟨rfl, B2.trans (b3.mono B2.size)⟩
    · obtain ⟨J, hJ, hJn⟩ : ∃ J : Nat, (bits .and .i64 at_ 65535).tmod (n : Int) = (J : Int) ∧ J < n := by
        rw [i64_and65535, Int.tmod_eq_emod_of_nonneg (Int.emod_nonneg _ (by decide))]
        have h1 := Int.emod_nonneg (at_ % 65536) (show (n : Int) ≠ 0 by omega)
        have h2 := Int.emod_lt_of_pos (at_ % 65536) (show (0 : Int) < (n : Int) by omega)
        exact ⟨((at_ % 65536) % (n : Int)).toNat, by omega, by omega⟩
      obtain ⟨xa, xc, w3, hr3, hO3, b3⟩ := run_append_fresh w2 ba n bc B hB (by omega)
      obtain ⟨g, rfl, hg, _⟩ := hO3.form hn0
      have hcell := hO3.cell J hJn
      have hfro := hO3.frozen J
      have hvb := hO3.1.getD J
      generalize B.getD J 0 = V at *
      have hx := bits_xr V by_ hvb hby
      have hset := (hO3.set J (xr V by_) (xr_lt V by_ hvb hby)).bs
      have b4 := b3.setCell (p := ⟨g, J, none⟩) hg (.int .u8 (xr V by_))
      have B4 := B2.trans (b4.mono B2.size)
      have hB4 := hB.below b4
      generalize B.set J (xr V by_) = X at *
      have hP := parse_any _ hset 4 S
      have HS := hide hset
      have hn1 : ((n : Int) == 0) = false := beq_eq_false_iff_ne.2 (by omega)
      have hy1 : (by_ == 0) = false := beq_eq_false_iff_ne.2 hby0
      have hwn : wrap64 ((n : Int) - 1) = (n : Int) - 1 := wrap64_low _ (by omega)
      clear hO3 hset b3 b4 hB hvb hg
      have HN := hide hn
      clear hn
      cases hk : isBk X 4 S
      · rw [hk] at hP
        clear hk HS
        go_wp2_with (at_builtin; refine wpList_append_run (by rfl) (.tmp 51) (.tmp 52) 22 (by rfl) _ _ _ _ (by rfl) (by rfl) hr3 ?_)
        refine hP.mono ?_
        rintro e w5 ⟨ma, mn, mc, es, rfl, -, -, b5⟩
        have BW := B4.trans (b5.mono B4.size)
        have hBW := hB4.below b5
        clear hP hr3 hcell hfro hx b5 B4 hB4
        have hcut := run_cut_to (P := Try.prog) Try.underlying22 Try.size_u8 hBW .i64 ((n : Int) - 1) (n - 1) (by omega) (by have := hBW.le_cap; omega)
        have hbc := hBW.le_cap
        have hP2 := parse_any w5 (hBW.taken (n - 1) (by omega)) 4 S
        rw [isBk_no HN.out (by rw [List.length_take]; omega)] at hP2
        go_wp2_with fail
        refine hP2.mono ?_
        rintro e W2 ⟨pa, pn, pc, ps, rfl, -, -, c1⟩
        have BW2 := BW.trans (c1.mono BW.size)
        clear hcut hP2
        obtain ⟨fa, fc, v1, hr1, ho1, d1⟩ := run_append_fresh W2 ba n bc B (hBW.below c1) (by omega)
        have d2 := below_alloc (Below.refl v1.heap.size v1) (Obj.cells #[.int .u8 0] 5)
        have hL : Bs (v1.alloc (Obj.cells #[.int .u8 0] 5)) (some ⟨v1.heap.size, 0, none⟩) 1 1 [0] := Bs.lit rfl rfl (bytes_lit rfl) rfl (by omega)
        obtain ⟨ea, ec, v2, hr2, ho2, d3⟩ := run_append_more W2.heap.size W2 _ fa n fc B (ho1.below d2) (d1.trans (d2.mono d1.size)) (Nat.le_refl _) _ 1 1 [0] hL (by omega)
        have hP3 := parse_any v2 ho2.bs 4 S
        rw [isBk_no HN.out (by rw [List.length_append, hBl]; simp)] at hP3
        have B5 := BW2.trans (d3.mono BW2.size)
        clear hL ho1 ho2 d1 d2 d3 BW2 c1 BW hBW
        go_wp2_with (first
          | (at_builtin; refine wpList_append_run (by rfl) (.tmp 98) (.tmp 99) 22 (by rfl) _ _ _ _ (by rfl) (by rfl) hr1 ?_)
          | (at_builtin; refine wpList_append_run (by rfl) (.tmp 100) (.tmp 101) 22 (by rfl) _ _ _ _ (by rfl) (by rfl) hr2 ?_))
        refine hP3.mono ?_
        rintro e v3 ⟨qa, qn, qc, qs, rfl, -, -, d4⟩
        have B6 := B5.trans (d4.mono B5.size)
        clear hr1 hr2 hP3 B5 d4
        go_wp2_with fail
        refine (awake_any v3).mono ?_
        rintro e v4 ⟨rfl, d5⟩
        go_wp2_with fail
        go_ret
        exact ⟨rfl, B6.trans (d5.mono B6.size)⟩
      · rw [hk] at hP
        have hkc := code_isBk hk
        clear hk
        go_wp2_with (at_builtin; refine wpList_append_run (by rfl) (.tmp 51) (.tmp 52) 22 (by rfl) _ _ _ _ (by rfl) (by rfl) hr3 ?_)
        refine hP.mono ?_
        rintro e w5 ⟨ma, mn, mc, es, rfl, hes, hZ, b5⟩
        have B5 := B4.trans (b5.mono B4.size)
        have hB5 := hB4.below b5
        have hX5 := HS.out.below b5
        have hC := code_any w5 hZ 4 S
        rw [hes, hkc.1, hkc.2] at hC
        clear hP hr3 hcell hfro hx b5 B4 hB4 HS hkc hes hZ
        go_wp2_with fail
        refine hC.mono ?_
        rintro e w6 ⟨ya, yn, yc, rfl, hY, b6⟩
        have BW := B5.trans (b6.mono B5.size)
        have hBW := hB5.below b6
        have s1 := str_bytes (hX5.below b6)
        have s2 := str_bytes hY.bs
        clear hC hY hX5 B5 hB5 b6
        have hcut := run_cut_to (P := Try.prog) Try.underlying22 Try.size_u8 hBW .i64 ((n : Int) - 1) (n - 1) (by omega) (by have := hBW.le_cap; omega)
        have hbc := hBW.le_cap
        have hP2 := parse_any w6 (hBW.taken (n - 1) (by omega)) 4 S
        rw [isBk_no HN.out (by rw [List.length_take]; omega)] at hP2
        go_wp2_with fail
        refine hP2.mono ?_
        rintro e W2 ⟨pa, pn, pc, ps, rfl, -, -, c1⟩
        have BW2 := BW.trans (c1.mono BW.size)
        clear hcut hP2
        obtain ⟨fa, fc, v1, hr1, ho1, d1⟩ := run_append_fresh W2 ba n bc B (hBW.below c1) (by omega)
        have d2 := below_alloc (Below.refl v1.heap.size v1) (Obj.cells #[.int .u8 0] 5)
        have hL : Bs (v1.alloc (Obj.cells #[.int .u8 0] 5)) (some ⟨v1.heap.size, 0, none⟩) 1 1 [0] := Bs.lit rfl rfl (bytes_lit rfl) rfl (by omega)
        obtain ⟨ea, ec, v2, hr2, ho2, d3⟩ := run_append_more W2.heap.size W2 _ fa n fc B (ho1.below d2) (d1.trans (d2.mono d1.size)) (Nat.le_refl _) _ 1 1 [0] hL (by omega)
        have hP3 := parse_any v2 ho2.bs 4 S
        rw [isBk_no HN.out (by rw [List.length_append, hBl]; simp)] at hP3
        have B5 := BW2.trans (d3.mono BW2.size)
        clear hL ho1 ho2 d1 d2 d3 BW2 c1 BW hBW
        go_wp2_with (first
          | (at_builtin; refine wpList_append_run (by rfl) (.tmp 98) (.tmp 99) 22 (by rfl) _ _ _ _ (by rfl) (by rfl) hr1 ?_)
          | (at_builtin; refine wpList_append_run (by rfl) (.tmp 100) (.tmp 101) 22 (by rfl) _ _ _ _ (by rfl) (by rfl) hr2 ?_))
        refine hP3.mono ?_
        rintro e v3 ⟨qa, qn, qc, qs, rfl, -, -, d4⟩
        have B6 := B5.trans (d4.mono B5.size)
        clear hr1 hr2 hP3 B5 d4
        go_wp2_with fail
        refine (awake_any v3).mono ?_
        rintro e v4 ⟨rfl, d5⟩
        go_wp2_with fail
        go_ret
        exact ⟨rfl, B6.trans (d5.mono B6.size)⟩
#print axioms buckTurned_walk
end Go.Proofs.Ytgjffoeegnljlaa
