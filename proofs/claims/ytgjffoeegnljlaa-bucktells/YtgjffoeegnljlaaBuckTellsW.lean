
/- The law BuckTells answers true for every row of Cells, every number and size, all bytes, every place and byte; nothing that was there is turned. -/
import Derived.Test.YtgjffoeegnljlaaBkAwake
import Derived.Test.YtgjffoeegnljlaaBkTame
import Derived.Test.YtgjffoeegnljlaaBkFew
import Derived.Test.YtgjffoeegnljlaaBkSame
import Derived.Test.YtgjffoeegnljlaaBkCells
namespace Go.Proofs.Ytgjffoeegnljlaa
open Go.RowKit
set_option maxRecDepth 20000

theorem tells_low {Z S n : Nat} (hZ : Z ≤ 7) (hS : S ≤ 31) (h : (n : Int) = (Z : Int) * (8 + (S : Int))) : n ≤ 273 := by
  have : (Z : Int) * (8 + (S : Int)) ≤ 7 * 39 := Int.mul_le_mul (by omega) (by omega) (by omega) (by omega)
  omega
set_option maxRecDepth 100000 in
set_option maxHeartbeats 16000000 in
theorem buckTells_walk (z size at_ by_ : Int) {a ba : Option Addr} {len cap bl bc : Nat} {cs : List CV} {bs : List Int} (w : World) (h : Ces w a len cap cs) (hB : Bs w ba bl bc bs) (hby : 0 ≤ by_ ∧ by_ < 256) :
    Calls Try.prog 5 #[.slice a len cap, .int .i64 z, .int .i64 size, .slice ba bl bc, .int .i64 at_, .int .u8 by_] w fun e w' => e = .returned (.bool true) ∧ Below w.heap.size w w' := by
  by_cases hb : 2000 < bl
  · clear hB
    go_enter Try.func5, Try.ntmps5
    go_wp2_with fail
    refine (few_any w h).mono ?_
    rintro e w1 ⟨rfl, hr⟩
    rcases hr with rfl | ⟨rfl, -, -⟩
    · clear h
      go_wp2_with fail
      refine (awake_any w).mono ?_
      rintro e w1 ⟨rfl, b1⟩
      go_wp2_with fail
      go_ret
      exact ⟨rfl, b1⟩
    · clear h
      go_wp2_with fail
      refine (awake_any w).mono ?_
      rintro e w1 ⟨rfl, b1⟩
      go_wp2_with fail
      go_ret
      exact ⟨rfl, b1⟩
  · by_cases hs : 3000 < size
    · clear hB
      go_enter Try.func5, Try.ntmps5
      go_wp2_with fail
      refine (few_any w h).mono ?_
      rintro e w1 ⟨rfl, hr⟩
      rcases hr with rfl | ⟨rfl, -, -⟩
      · clear h
        go_wp2_with fail
        refine (awake_any w).mono ?_
        rintro e w1 ⟨rfl, b1⟩
        go_wp2_with fail
        go_ret
        exact ⟨rfl, b1⟩
      · clear h
        go_wp2_with fail
        refine (awake_any w).mono ?_
        rintro e w1 ⟨rfl, b1⟩
        go_wp2_with fail
        go_ret
        exact ⟨rfl, b1⟩
    · by_cases hz : 16 < z
      · by_cases hz2 : z < 1000
        · clear hB
          go_enter Try.func5, Try.ntmps5
          go_wp2_with fail
          refine (few_any w h).mono ?_
          rintro e w1 ⟨rfl, hr⟩
          rcases hr with rfl | ⟨rfl, -, -⟩
          · clear h
            go_wp2_with fail
            refine (awake_any w).mono ?_
            rintro e w1 ⟨rfl, b1⟩
            go_wp2_with fail
            go_ret
            exact ⟨rfl, b1⟩
          · clear h
            go_wp2_with fail
            refine (awake_any w).mono ?_
            rintro e w1 ⟨rfl, b1⟩
            go_wp2_with fail
            go_ret
            exact ⟨rfl, b1⟩
        · have HZ := hz2
          go_enter Try.func5, Try.ntmps5
          go_wp2_with fail
          refine (few_any w h).mono ?_
          rintro e w1 ⟨rfl, hr⟩
          rcases hr with rfl | ⟨rfl, -, -⟩
          · clear h
            go_wp2_with fail
            refine (awake_any w).mono ?_
            rintro e w1 ⟨rfl, b1⟩
            go_wp2_with fail
            go_ret
            exact ⟨rfl, b1⟩
          · go_wp2_with fail
            clear HZ hb hs
            go_loopw [1, 2, 3, 13, 14] (fun vz vs vb vl vi wr => ∃ (k : Nat) (z s : Int) (xa : Option Addr) (xn xc : Nat) (xs : List Int) (la : Option Addr) (ln lc : Nat) (ls : List CV), k ≤ 3 ∧ vi = .int .i64 k ∧ vz = .int .i64 z ∧ vs = .int .i64 s ∧ vb = .slice xa xn xc ∧ vl = .slice la ln lc ∧ Bs wr xa xn xc xs ∧ Ces wr la ln lc ls ∧ Below w.heap.size w wr) (fun _ _ _ _ vi _ => 3 - (intOf vi).toNat)
            case atStart => exact ⟨0, z, size, ba, bl, bc, bs, a, len, cap, cs, by omega, rfl, rfl, rfl, rfl, rfl, hB, h, Below.refl _ _⟩
            case round =>
              clear hB
              obtain ⟨k, z, s, xa, xn, xc, xs, la, ln, lc, ls, hk, rfl, rfl, rfl, rfl, rfl, hX, hL, hbel⟩ := hrel
              by_cases hlt : k < 3
              · obtain ⟨Z, hZ, hZ7⟩ : ∃ Z : Nat, bits .and .i64 z 7 = (Z : Int) ∧ Z ≤ 7 := ⟨(z % 8).toNat, by rw [i64_and7]; omega, by omega⟩
                obtain ⟨S, hS, hS31⟩ : ∃ S : Nat, bits .and .i64 s 31 = (S : Int) ∧ S ≤ 31 := ⟨(s % 32).toNat, by rw [i64_mask _ 5 (by decide) 31 (by decide)]; omega, by omega⟩
                have hZ' := hide hZ
                have hS' := hide hS
                clear hZ hS
                go_wp2_with fail
                refine (code_any wr hL z s).mono ?_
                rintro e w1 ⟨ca, cn, cc, rfl, hO1, b1⟩
                have B1 := hbel.trans (b1.mono hbel.size)
                have hC1 := hO1.bs
                have hX1 := hX.below b1
                have hL1 := hL.below b1
                clear hX hL b1 hbel hO1
                go_wp2_with fail
                refine (rcode_any w1 hL1 z s).mono ?_
                rintro e w2 ⟨da, dn, dc, rfl, hO2, b2⟩
                have B2 := B1.trans (b2.mono B1.size)
                have hD2 := hO2.bs
                have hC2 := hC1.below b2
                have hX2 := hX1.below b2
                clear hX1 hL1 b2 B1 hO2 hC1
                generalize okK (ls.map CV.pc) z s = OK at *
                generalize codeR (ls.map CV.pc) z s = R at *
                go_wp2_with fail
                refine (parse_any w2 hX2 z s).mono ?_
                rintro e w3 ⟨pa, pn, pc, ps, rfl, hps, hP3, b3⟩
                have B3 := B2.trans (b3.mono B2.size)
                have hD3 := hD2.below b3
                have hC3 := hC2.below b3
                have hX3 := hX2.below b3
                clear hX2 hC2 hD2 B2 b3
                go_wp2_with fail
                refine (rcells_any w3 hX3 z s).mono ?_
                rintro e w4 ⟨qa, qn, qc, qs, rfl, hqs, hQ4, b4⟩
                have B4 := B3.trans (b4.mono B3.size)
                have hD4 := hD3.below b4
                have hC4 := hC3.below b4
                have hP4 := hP3.below b4
                clear hX3 hC3 hD3 B3 hP3 b4
                have hSm := same_any w4 hC4 hD4
                rw [decide_eq_true rfl] at hSm
                have hSc := sameCells_any w4 hP4 hQ4
                rw [decide_eq_true (hps.trans hqs.symm)] at hSc
                generalize isBk xs z s = IB at *
                clear hps hqs hC4 hD4 hP4 hQ4
                have hb1 : (OK != OK) = false := by cases OK <;> rfl
                have hb2 : (IB != IB) = false := by cases IB <;> rfl
                go_wp2_with fail
                refine hSm.mono ?_
                rintro e w5 ⟨rfl, rfl⟩
                clear hSm
                go_wp2_with fail
                refine hSc.mono ?_
                rintro e w5 ⟨rfl, b5⟩
                have B5 := B4.trans (b5.mono B4.size)
                clear hSc B4 b5
                have hZ := hZ'.out
                have hS := hS'.out
                have hT := tame_any w5 (h.below B5) Z S (by omega) (by omega)
                go_wp2_with fail
                refine hT.mono ?_
                rintro e w6 ⟨ta, tn, tc, ts, rfl, hts, hown, b6⟩
                have B6 := B5.trans (b6.mono B5.size)
                have hT6 := hown.ces
                have hok : okK (ts.map CV.pc) Z S = true := by
                  rw [hts]
                  exact tameL_ok _ Z S Z (by omega) (by omega) (by omega)
                have hR := rcode_any w6 hT6 Z S
                have hl := codeR_length hok
                clear hT hts hown B5 b6 hZ' hS' hok
                go_wp2_with fail
                refine hR.mono ?_
                rintro e w7 ⟨ea, en, ec, rfl, hO7, b7⟩
                have B7 := B6.trans (b7.mono B6.size)
                have hT7 := hT6.below b7
                have hE7 := hO7.bs
                rw [hE7.length] at hl
                have hen := tells_low hZ7 hS31 hl
                clear hR hT6 B6 b7 hO7 hl
                obtain ⟨fa, fc, w8, hr8, hO8, b8⟩ := run_append_fresh w7 ea en ec _ hE7 (by omega)
                have B8 := B7.trans (b8.mono B7.size)
                have hT8 := hT7.below b8
                generalize codeR (ts.map CV.pc) Z S = Y at *
                clear hE7
                by_cases hk1 : k = 1 ∧ 0 < en
                · obtain ⟨rfl, hen0⟩ := hk1
                  obtain ⟨J, hJ, hJn⟩ : ∃ J : Nat, (bits .and .i64 at_ 65535).tmod (en : Int) = (J : Int) ∧ J < en := by
                    rw [i64_and65535, Int.tmod_eq_emod_of_nonneg (Int.emod_nonneg _ (by decide))]
                    have h1 := Int.emod_nonneg (at_ % 65536) (show (en : Int) ≠ 0 by omega)
                    have h2 := Int.emod_lt_of_pos (at_ % 65536) (show (0 : Int) < (en : Int) by omega)
                    exact ⟨((at_ % 65536) % (en : Int)).toNat, by omega, by omega⟩
                  obtain ⟨g, rfl, hg, _⟩ := hO8.form hen0
                  have hcell := hO8.cell J hJn
                  have hfro := hO8.frozen J
                  have hvb := hO8.1.getD J
                  generalize Y.getD J 0 = V at *
                  have hx := bits_xr V by_ hvb hby
                  have hset := (hO8.set J (xr V by_) (xr_lt V by_ hvb hby)).bs
                  have b9 := b8.setCell (p := ⟨g, J, none⟩) hg (.int .u8 (xr V by_))
                  have B9 := B7.trans (b9.mono B7.size)
                  have hT9 : Ces (w8.setCell ⟨g, J, none⟩ (.int .u8 (xr V by_))) ta tn tc ts := hT7.below b9
                  clear hO8 hvb b9 b8 B8 hT8 B7 hT7
                  have HS := hide hset
                  clear hset
                  go_wp2_with (at_builtin; refine wpList_append_run (by rfl) (.tmp 112) (.tmp 113) 22 (by rfl) _ _ _ _ (by rfl) (by rfl) hr8 ?_)
                  go_roundw
                  case rel => exact ⟨2, _, _, _, _, _, _, _, _, _, _, by omega, rfl, rfl, rfl, rfl, rfl, HS.out, hT9, B9⟩
                  case measure => simp [intOf]
                · have hF := hO8.bs
                  clear hO8 b8 B7 hT7
                  by_cases hk2 : k = 1
                  · subst hk2
                    obtain rfl : en = 0 := by omega
                    go_wp2_with (at_builtin; refine wpList_append_run (by rfl) (.tmp 112) (.tmp 113) 22 (by rfl) _ _ _ _ (by rfl) (by rfl) hr8 ?_)
                    go_roundw
                    case rel => exact ⟨2, _, _, _, _, _, _, _, _, _, _, by omega, rfl, rfl, rfl, rfl, rfl, hF, hT8, B8⟩
                    case measure => simp [intOf]
                  · have hkb : ((k : Int) == 1) = false := beq_eq_false_iff_ne.2 (by omega)
                    go_wp2_with (at_builtin; refine wpList_append_run (by rfl) (.tmp 112) (.tmp 113) 22 (by rfl) _ _ _ _ (by rfl) (by rfl) hr8 ?_)
                    go_roundw
                    case rel => exact ⟨k + 1, _, _, _, _, _, _, _, _, _, _, by omega, by go_num, rfl, rfl, rfl, rfl, hF, hT8, B8⟩
                    case measure => simp [intOf]; omega
              · obtain rfl : k = 3 := by omega
                clear hX hL h
                go_wp2_with fail
                refine (awake_any wr).mono ?_
                rintro e w1 ⟨rfl, b1⟩
                go_wp2_with fail
                go_ret
                exact ⟨rfl, hbel.trans (b1.mono hbel.size)⟩
      · have HZ := hz
        go_enter Try.func5, Try.ntmps5
        go_wp2_with fail
        refine (few_any w h).mono ?_
        rintro e w1 ⟨rfl, hr⟩
        rcases hr with rfl | ⟨rfl, -, -⟩
        · clear h
          go_wp2_with fail
          refine (awake_any w).mono ?_
          rintro e w1 ⟨rfl, b1⟩
          go_wp2_with fail
          go_ret
          exact ⟨rfl, b1⟩
        · go_wp2_with fail
          clear HZ hb hs
          go_loopw [1, 2, 3, 13, 14] (fun vz vs vb vl vi wr => ∃ (k : Nat) (z s : Int) (xa : Option Addr) (xn xc : Nat) (xs : List Int) (la : Option Addr) (ln lc : Nat) (ls : List CV), k ≤ 3 ∧ vi = .int .i64 k ∧ vz = .int .i64 z ∧ vs = .int .i64 s ∧ vb = .slice xa xn xc ∧ vl = .slice la ln lc ∧ Bs wr xa xn xc xs ∧ Ces wr la ln lc ls ∧ Below w.heap.size w wr) (fun _ _ _ _ vi _ => 3 - (intOf vi).toNat)
          case atStart => exact ⟨0, z, size, ba, bl, bc, bs, a, len, cap, cs, by omega, rfl, rfl, rfl, rfl, rfl, hB, h, Below.refl _ _⟩
          case round =>
            clear hB
            obtain ⟨k, z, s, xa, xn, xc, xs, la, ln, lc, ls, hk, rfl, rfl, rfl, rfl, rfl, hX, hL, hbel⟩ := hrel
            by_cases hlt : k < 3
            · obtain ⟨Z, hZ, hZ7⟩ : ∃ Z : Nat, bits .and .i64 z 7 = (Z : Int) ∧ Z ≤ 7 := ⟨(z % 8).toNat, by rw [i64_and7]; omega, by omega⟩
              obtain ⟨S, hS, hS31⟩ : ∃ S : Nat, bits .and .i64 s 31 = (S : Int) ∧ S ≤ 31 := ⟨(s % 32).toNat, by rw [i64_mask _ 5 (by decide) 31 (by decide)]; omega, by omega⟩
              have hZ' := hide hZ
              have hS' := hide hS
              clear hZ hS
              go_wp2_with fail
              refine (code_any wr hL z s).mono ?_
              rintro e w1 ⟨ca, cn, cc, rfl, hO1, b1⟩
              have B1 := hbel.trans (b1.mono hbel.size)
              have hC1 := hO1.bs
              have hX1 := hX.below b1
              have hL1 := hL.below b1
              clear hX hL b1 hbel hO1
              go_wp2_with fail
              refine (rcode_any w1 hL1 z s).mono ?_
              rintro e w2 ⟨da, dn, dc, rfl, hO2, b2⟩
              have B2 := B1.trans (b2.mono B1.size)
              have hD2 := hO2.bs
              have hC2 := hC1.below b2
              have hX2 := hX1.below b2
              clear hX1 hL1 b2 B1 hO2 hC1
              generalize okK (ls.map CV.pc) z s = OK at *
              generalize codeR (ls.map CV.pc) z s = R at *
              go_wp2_with fail
              refine (parse_any w2 hX2 z s).mono ?_
              rintro e w3 ⟨pa, pn, pc, ps, rfl, hps, hP3, b3⟩
              have B3 := B2.trans (b3.mono B2.size)
              have hD3 := hD2.below b3
              have hC3 := hC2.below b3
              have hX3 := hX2.below b3
              clear hX2 hC2 hD2 B2 b3
              go_wp2_with fail
              refine (rcells_any w3 hX3 z s).mono ?_
              rintro e w4 ⟨qa, qn, qc, qs, rfl, hqs, hQ4, b4⟩
              have B4 := B3.trans (b4.mono B3.size)
              have hD4 := hD3.below b4
              have hC4 := hC3.below b4
              have hP4 := hP3.below b4
              clear hX3 hC3 hD3 B3 hP3 b4
              have hSm := same_any w4 hC4 hD4
              rw [decide_eq_true rfl] at hSm
              have hSc := sameCells_any w4 hP4 hQ4
              rw [decide_eq_true (hps.trans hqs.symm)] at hSc
              generalize isBk xs z s = IB at *
              clear hps hqs hC4 hD4 hP4 hQ4
              have hb1 : (OK != OK) = false := by cases OK <;> rfl
              have hb2 : (IB != IB) = false := by cases IB <;> rfl
              go_wp2_with fail
              refine hSm.mono ?_
              rintro e w5 ⟨rfl, rfl⟩
              clear hSm
              go_wp2_with fail
              refine hSc.mono ?_
              rintro e w5 ⟨rfl, b5⟩
              have B5 := B4.trans (b5.mono B4.size)
              clear hSc B4 b5
              have hZ := hZ'.out
              have hS := hS'.out
              have hT := tame_any w5 (h.below B5) Z S (by omega) (by omega)
              go_wp2_with fail
              refine hT.mono ?_
              rintro e w6 ⟨ta, tn, tc, ts, rfl, hts, hown, b6⟩
              have B6 := B5.trans (b6.mono B5.size)
              have hT6 := hown.ces
              have hok : okK (ts.map CV.pc) Z S = true := by
                rw [hts]
                exact tameL_ok _ Z S Z (by omega) (by omega) (by omega)
              have hR := rcode_any w6 hT6 Z S
              have hl := codeR_length hok
              clear hT hts hown B5 b6 hZ' hS' hok
              go_wp2_with fail
              refine hR.mono ?_
              rintro e w7 ⟨ea, en, ec, rfl, hO7, b7⟩
              have B7 := B6.trans (b7.mono B6.size)
              have hT7 := hT6.below b7
              have hE7 := hO7.bs
              rw [hE7.length] at hl
              have hen := tells_low hZ7 hS31 hl
              clear hR hT6 B6 b7 hO7 hl
              obtain ⟨fa, fc, w8, hr8, hO8, b8⟩ := run_append_fresh w7 ea en ec _ hE7 (by omega)
              have B8 := B7.trans (b8.mono B7.size)
              have hT8 := hT7.below b8
              generalize codeR (ts.map CV.pc) Z S = Y at *
              clear hE7
              by_cases hk1 : k = 1 ∧ 0 < en
              · obtain ⟨rfl, hen0⟩ := hk1
                obtain ⟨J, hJ, hJn⟩ : ∃ J : Nat, (bits .and .i64 at_ 65535).tmod (en : Int) = (J : Int) ∧ J < en := by
                  rw [i64_and65535, Int.tmod_eq_emod_of_nonneg (Int.emod_nonneg _ (by decide))]
                  have h1 := Int.emod_nonneg (at_ % 65536) (show (en : Int) ≠ 0 by omega)
                  have h2 := Int.emod_lt_of_pos (at_ % 65536) (show (0 : Int) < (en : Int) by omega)
                  exact ⟨((at_ % 65536) % (en : Int)).toNat, by omega, by omega⟩
                obtain ⟨g, rfl, hg, _⟩ := hO8.form hen0
                have hcell := hO8.cell J hJn
                have hfro := hO8.frozen J
                have hvb := hO8.1.getD J
                generalize Y.getD J 0 = V at *
                have hx := bits_xr V by_ hvb hby
                have hset := (hO8.set J (xr V by_) (xr_lt V by_ hvb hby)).bs
                have b9 := b8.setCell (p := ⟨g, J, none⟩) hg (.int .u8 (xr V by_))
                have B9 := B7.trans (b9.mono B7.size)
                have hT9 : Ces (w8.setCell ⟨g, J, none⟩ (.int .u8 (xr V by_))) ta tn tc ts := hT7.below b9
                clear hO8 hvb b9 b8 B8 hT8 B7 hT7
                have HS := hide hset
                clear hset
                go_wp2_with (at_builtin; refine wpList_append_run (by rfl) (.tmp 112) (.tmp 113) 22 (by rfl) _ _ _ _ (by rfl) (by rfl) hr8 ?_)
                go_roundw
                case rel => exact ⟨2, _, _, _, _, _, _, _, _, _, _, by omega, rfl, rfl, rfl, rfl, rfl, HS.out, hT9, B9⟩
                case measure => simp [intOf]
              · have hF := hO8.bs
                clear hO8 b8 B7 hT7
                by_cases hk2 : k = 1
                · subst hk2
                  obtain rfl : en = 0 := by omega
                  go_wp2_with (at_builtin; refine wpList_append_run (by rfl) (.tmp 112) (.tmp 113) 22 (by rfl) _ _ _ _ (by rfl) (by rfl) hr8 ?_)
                  go_roundw
                  case rel => exact ⟨2, _, _, _, _, _, _, _, _, _, _, by omega, rfl, rfl, rfl, rfl, rfl, hF, hT8, B8⟩
                  case measure => simp [intOf]
                · have hkb : ((k : Int) == 1) = false := beq_eq_false_iff_ne.2 (by omega)
                  go_wp2_with (at_builtin; refine wpList_append_run (by rfl) (.tmp 112) (.tmp 113) 22 (by rfl) _ _ _ _ (by rfl) (by rfl) hr8 ?_)
                  go_roundw
                  case rel => exact ⟨k + 1, _, _, _, _, _, _, _, _, _, _, by omega, by go_num, rfl, rfl, rfl, rfl, hF, hT8, B8⟩
                  case measure => simp [intOf]; omega
            · obtain rfl : k = 3 := by omega
              clear hX hL h
              go_wp2_with fail
              refine (awake_any wr).mono ?_
              rintro e w1 ⟨rfl, b1⟩
              go_wp2_with fail
              go_ret
              exact ⟨rfl, hbel.trans (b1.mono hbel.size)⟩
#print axioms buckTells_walk
end Go.Proofs.Ytgjffoeegnljlaa
