
/- The law RingPower answers true for every key, row of recs, time at which the power goes and choices, wherever quar.rounds reads as its text says and disk.errPower holds its error; nothing that was there is turned. -/
import Derived.Test.YtkpkipjelpedeaaDoorRAwake
import Derived.Test.YtkpkipjelpedeaaDoorRPow
namespace Go.Proofs.YtkpkipjelpedeaaDoor
open Go.RowKit
set_option maxRecDepth 20000

set_option maxRecDepth 100000 in
set_option maxHeartbeats 40000000 in
theorem ringPower_walk (key : List Int) (cut : Int) {a : Option Addr} {len cap : Nat} {xs : Nat → BV} {b : Option Addr} {lb cb : Nat} {ch : List Int} {p : Addr} (w : World) (hk : IsBytes key) (hkl : key.length = 32) (hl : BBs w a len cap xs) (hb : Ns .i64 w b lb cb ch) (hq : Glob w) (hp : Pow p w) :
    Calls Tryd.prog 6 #[.agg (bV key), .slice a len cap, .int .i64 cut, .slice b lb cb] w fun e w' => e = .returned (.bool true) ∧ Below w.heap.size w w' := by
  have hlc := hl.le_cap
  have hcm := hl.cap_le
  have hmf : ∀ (fn : Fn) (first cap : Array Value) (w : World), (Instr.makeFunc fn first cap).run Tryd.prog w = .ok (.func fn first cap) w := fun _ _ _ _ => rfl
  have e1 : ∀ args w, (callFunc 25 args).run Tryd.prog w = .ok (.enter 25 args) w := enters_of Tryd.func25 (by kernel_rfl) rfl
  obtain ⟨c, hc, hcb⟩ : ∃ c, bits .and .i64 cut 31 = c ∧ (0 ≤ c ∧ c ≤ 31) := ⟨_, rfl, by rw [i64_mask cut 5 (by decide) 31 (by decide)]; omega⟩
  have hS := (KK.start w key hq).alloc (slO a len cap)
  have hLn : ((w.alloc (Obj.cells (bV key) 27)).alloc (slO a len cap)).heap[w.heap.size + 1]? = some (slO a len cap) := by
    have := heap_alloc_new (w.alloc (Obj.cells (bV key) 27)) (slO a len cap)
    rwa [size_alloc] at this
  have HL := hide hl
  have HB := hide hb
  clear hl hb
  go_enter Tryd.func6, Tryd.ntmps6
  go_wp2_with fail
  have hbw := hS.bel
  have kk0 := hS.kk
  generalize ((w.alloc (Obj.cells (bV key) 27)).alloc (slO a len cap)) = W0 at *
  refine (new_any 20 80 20 80 rfl rfl W0).mono ?_
  rintro e W ⟨g, Z, rfl, hD, hF, hB⟩
  have C : Cl w W Z g (DS.new 20 80) := ⟨hD, fun k hk => Nat.le_trans hbw.size (hF k hk), hbw.trans (hB.mono hbw.size)⟩
  have kk : Has Z W w.heap.size (.cells (bV key) 27 (0, 0)) := ⟨(kk0.below hB : OwnB _ _ _ _), fun hs => by have := hF _ hs; have := kk0.lt; omega⟩
  have hLl : w.heap.size + 1 < W0.heap.size := (Array.getElem?_eq_some_iff.1 hLn).1
  have L : Has Z W (w.heap.size + 1) (slO a len cap) := ⟨(hB.block _ hLl).trans hLn, fun hs => by have := hF _ hs; omega⟩
  clear hD hF hB hS kk0 hbw hLn hLl
  have kk1 := kk.1
  go_wp2_with (refine wpList_loadA arrT32 (by rfl) _ (by rfl) w.heap.size (by rfl) (bV key) kk1 (by rw [bV_size, hkl]) ?_)
  refine (pen_new C hk hkl (boot := 1) (by omega)).mono ?_
  rintro e W1 ⟨gp, rfl, hgp, P, b1⟩
  have hlp : w.heap.size + 1 < gp := Nat.lt_of_lt_of_le L.lt hgp
  replace C := C.below b1
  replace kk := kk.below b1
  replace L := L.below b1
  clear b1 kk1 hgp
  go_wp2_with fail
  refine (rnew_at C gp 2 16 2 16 rfl rfl).mono ?_
  rintro e W2 ⟨gr, rfl, hr, R, b2⟩
  have hrp : gp < gr := Nat.lt_of_lt_of_le P.lt hr
  replace C := C.below b2
  replace P := P.below b2
  replace kk := kk.below b2
  replace L := L.below b2
  have hrv := R.lt
  have V := C.new (rvO gr)
  have kk1 := (kk.alloc (rvO gr)).1
  have hqW : Glob (W2.alloc (rvO gr)) := hq.below (C.alloc (rvO gr)).bel hq.lt
  have hA := hide (lblank_any key (W2.alloc (rvO gr)) hk hkl hqW)
  obtain ⟨B, hB⟩ : ∃ B, openB key (zL 80) = B := ⟨_, rfl⟩
  rw [hB] at hA
  replace C := C.alloc (rvO gr)
  replace P := P.alloc (rvO gr)
  replace kk := kk.alloc (rvO gr)
  replace L := L.alloc (rvO gr)
  replace R := R.below (below_alloc (Below.refl W2.heap.size W2) (rvO gr))
  clear b2 hr
  cases B with
  | true =>
    go_wp2_with (refine wpList_loadA arrT32 (by rfl) _ (by rfl) w.heap.size (by rfl) (bV key) kk1 (by rw [bV_size, hkl]) ?_)
    refine hA.out.mono ?_
    rintro e W3 ⟨rfl, b3⟩
    have hb2 := C.bel.trans (b3.mono C.bel.size)
    go_wp2_with fail
    refine (awake_any W3 (hqW.below b3 hqW.lt)).mono ?_
    rintro e W4 ⟨rfl, b4⟩
    have hb3 := hb2.trans (b4.mono hb2.size)
    go_wp2_with fail
    go_ret
    exact ⟨rfl, hb3⟩
  | false =>
    go_wp2_with (refine wpList_loadA arrT32 (by rfl) _ (by rfl) w.heap.size (by rfl) (bV key) kk1 (by rw [bV_size, hkl]) ?_)
    generalize (W2.alloc (rvO gr)) = W3 at *
    generalize W2.heap.size = gv at *
    refine hA.out.mono ?_
    rintro e W4 ⟨rfl, b4⟩
    replace C := C.below b4
    replace P := P.below b4
    replace R := R.below b4
    replace V := V.below b4
    replace L := L.below b4
    replace kk := kk.below b4
    have v0 := V.var
    clear hA b4 hqW kk1
    have hSt := hide (rstart_at R 7)
    go_wp2_with fail
    refine hSt.out.mono ?_
    rintro e W5 ⟨rfl, R5, o5⟩
    have C5 := C.only o5 R.has.2 R.frm
    have P5 : Pn w Z W5 gp g key 1 ((0 : Nat) : Int) := P.only o5 (by omega)
    have V5 := V.only o5 (by omega)
    have L5 := L.only o5 (by omega)
    have kk5 := kk.only o5 (by omega)
    clear hSt o5 C P R V L kk v0
    have hCt := hide (C5.cut (by decide) c (by omega))
    go_wp2_with fail
    refine hCt.out.mono ?_
    rintro e W6 ⟨rfl, C6, s6⟩
    have P6 := P5.step s6
    have R6 := R5.step s6
    have V6 := V5.step s6
    have L6 := L5.step s6
    have kk6 := kk5.step s6
    clear hCt s6 C5 P5 R5 V5 L5 kk5
    have hLg : LogP key { DS.new 20 80 with left := c } [] := (LogP.start rfl rfl rfl (fun _ => rfl) (fun e he => by cases he) (fun j => by rw [new_at]; exact hB)).cut c
    have hD1 : ({ DS.new 20 80 with left := c } : DS).left = c := rfl
    have hD2 : ({ DS.new 20 80 with left := c } : DS).tr.length = 0 := rfl
    generalize ({ DS.new 20 80 with left := c } : DS) = D6 at *
    have hv6 := V6.lt
    have N7 := C6.new (nvO 0)
    replace C6 := C6.alloc (nvO 0)
    replace P6 := P6.alloc (nvO 0)
    replace R6 := R6.below (below_alloc (Below.refl W6.heap.size W6) (nvO 0))
    replace V6 := V6.alloc (nvO 0)
    replace L6 := L6.alloc (nvO 0)
    replace kk6 := kk6.alloc (nvO 0)
    have A8 := C6.new (slO none 0 0)
    have hszA : (W6.alloc (nvO 0)).heap.size = W6.heap.size + 1 := size_alloc _ _
    rw [hszA] at A8
    replace C6 := C6.alloc (slO none 0 0)
    replace P6 := P6.alloc (slO none 0 0)
    replace R6 := R6.below (below_alloc (Below.refl _ (W6.alloc (nvO 0))) (slO none 0 0))
    replace V6 := V6.alloc (slO none 0 0)
    replace L6 := L6.alloc (slO none 0 0)
    replace kk6 := kk6.alloc (slO none 0 0)
    replace N7 := N7.alloc (slO none 0 0)
    have hw6 : w.heap.size ≤ W6.heap.size := by omega
    clear hszA
    go_wp2_with fail
    generalize ((W6.alloc (nvO 0)).alloc (slO none 0 0)) = W7 at *
    generalize hgn : W6.heap.size = gn at *
    generalize hga : gn + 1 = ga at *
    have hI0 : PowI w W7 W7 Z Z key g gp gr (w.heap.size + 1) ga gv gn a len cap c 0 none 0 [] D6 :=
      ⟨C6, P6, R6, L6, A8, V6, N7, Recs.nil _ _ _, fun _ h => (by cases h), hLg, by rw [hD1]; omega, by rw [hD2]; omega, Nat.le_refl _, fun _ _ h _ _ _ _ => h⟩
    have hB0 : PowB w W7 gp gr (w.heap.size + 1) ga gv gn := { rp := by omega, ap := by omega, ar := by omega, np := by omega, nr := by omega, an := by omega, la := by omega, ln := by omega, lp := by omega, lr := by omega, va := by omega, vn := by omega, vp := by omega, vr := by omega, fa := by omega, fn := by omega, bp := P6.lt, br := R6.lt, bl := L6.lt, ba := A8.lt, bv := V6.lt, bn := N7.lt }
    obtain ⟨K, hK⟩ : ∃ K, K = min len 16 := ⟨_, rfl⟩
    have hn1 : w.heap.size ≠ gp ∧ w.heap.size ≠ gr ∧ w.heap.size ≠ ga ∧ w.heap.size ≠ gn := by omega
    obtain ⟨hn1, hn2, hn3, hn4⟩ := hn1
    clear hLg hD1 hD2 C6 P6 R6 V6 L6 N7 A8 hB hrp hlp hrv hv6 hw6 hga hgn
    by_cases hcK : 2 * (K : Int) ≤ c
    · have HT := hide (try_ok e1 (power1_ok hq hI0 hB0 HL.out K hK hcb hcK))
      go_wp2_with fail
      refine HT.out.mono ?_
      rintro e W10 ⟨rfl, Z10, a2, c2, lA, D9, hI⟩
      have kk10 := hI.keep _ _ kk6 hn1 hn2 hn3 hn4
      have C10 := hI.cl
      have A10 := hI.ha
      have N10 := hI.hn
      have row10 := hI.row
      have hs9 := hI.log.size
      have hn9 := hI.log.nb
      have hl9 := hI.len
      have HOld := hide hI.old
      have hQ : (lA.map BV.zs).length = K := by rw [List.length_map, row10.len]
      have hK16 : K ≤ 16 := by omega
      have HC : Hid (∀ bb, zOf bb = crashN D9.size (fairL key D9 ch) (zOf D9.blk) (wz D9.wait) → loadL (txtR key (D9.crash bb) 2) 7 16 = lA.map BV.zs) := fun bb hz => hI.log.crash hz
      clear HT hI hI0 hB0 HL kk6 hn1 hn2 hn3 hn4 hK

      have hNs := HB.out.below C10.bel
      have kk1 := kk10.1
      go_wp2_with (refine wpList_loadA arrT32 (by rfl) _ (by rfl) w.heap.size (by rfl) (bV key) kk1 (by rw [bV_size, hkl]) ?_)
      refine (fair_any C10 hq key hk hkl (by omega) (by omega) hNs).mono ?_
      rintro e W11 ⟨pf, nf, cf, rfl, hNz, b11⟩
      have C11 := C10.below b11
      have kk11 := kk10.below b11
      have A11 := A10.below b11
      have N11 := N10.below b11
      have row11 := row10.below b11
      clear C10 kk10 A10 N10 row10 b11 kk1 hNs
      go_wp2_with fail
      refine (C11.crash (by omega) hNz).mono ?_
      rintro e W12 ⟨Z12, bb, rfl, hbb, C12, s12⟩
      have kk12 := kk11.step s12
      have A12 := A11.step s12
      have N12 := N11.step s12
      have row12 := row11.step s12
      have hG := HC.out bb hbb.out
      have z1 : (D9.crash bb).size = 80 := hs9
      have z2 : (D9.crash bb).n = 20 := hn9
      have z3 : (D9.crash bb).left = -1 := rfl
      have z4 : (D9.crash bb).tr.length ≤ 1000 := by
        show (D9.tr ++ [_]).length ≤ 1000
        rw [List.length_append]
        show D9.tr.length + 1 ≤ 1000
        omega
      clear C11 kk11 A11 N11 row11 s12 hNz hbb HC hs9 hn9 hl9
      generalize D9.crash bb = D12 at *
      have kk1 := kk12.1
      go_wp2_with (refine wpList_loadA arrT32 (by rfl) _ (by rfl) w.heap.size (by rfl) (bV key) kk1 (by rw [bV_size, hkl]) ?_)
      refine (pen_new C12 hk hkl (boot := 2) (by omega)).mono ?_
      rintro e W13 ⟨gq, rfl, -, P13, b13⟩
      have C13 := C12.below b13
      have A13 := A12.below b13
      have N13 := N12.below b13
      have row13 := row12.below b13
      clear C12 kk12 A12 N12 row12 b13 kk1
      go_wp2_with fail
      refine (rnew_at C13 gq 2 16 2 16 rfl rfl).mono ?_
      rintro e W14 ⟨go, rfl, hgo, O14, b14⟩
      have hoq : go ≠ gq := by have := P13.lt; omega
      have hoa : ga ≠ go := by have := A13.lt; omega
      have hon : gn ≠ go := by have := N13.lt; omega
      have hgrow := row13.high hgo
      have hgw := C13.size
      have C14 := C13.below b14
      have P14 := P13.below b14
      have A14 := A13.below b14
      have N14 := N13.below b14
      have row14 := row13.below b14
      clear C13 P13 A13 N13 row13 b14

      have hA := hide (rload_at C14 P14 O14 hoq hq z3 (by omega) (by omega) (by omega) (by rw [z2]; decide) 7 (by omega) _ hG K hQ)
      clear C14 P14 O14 hG
      go_wp2_with fail
      refine hA.out.mono ?_
      rintro e W15 ⟨Z15, D15, al, cl, l, rfl, -, hlz, rowg, C15, -, -, s15⟩
      have A15 := A14.beside s15 hoa
      have N15 := N14.beside s15 hon
      have rowa := row14.beside s15 hgrow (fun y hy h0 p hp => by have := bs_old (HOld.out y hy) h0 hp; omega)
      have hbel := C15.bel
      have n1 := N15.var
      have a1 := A15.var
      have HR := hide (And.intro rowg (And.intro rowa hlz))
      clear hA A14 N14 row14 s15 hgrow rowg rowa hlz C15 A15 N15 HOld z1 z2 z3 z4
      go_wp2_with fail
      clear n1
      go_loopw [17] (fun v17 wr => ∃ j : Nat, j ≤ K ∧ v17 = .int .i64 (j : Int) ∧ Below W15.heap.size W15 wr) (fun v17 _ => K - (intOf v17).toNat)
      case atStart => exact ⟨0, Nat.zero_le _, rfl, Below.refl _ _⟩
      case round =>
        obtain ⟨j, hjn, rfl, hbj⟩ := hrel
        by_cases hjl : j < K
        · obtain ⟨r1, r2, r3⟩ := HR.out
          obtain ⟨g1, x1, rfl, m1, cc1, B1⟩ := r1.bs j hjl
          obtain ⟨g2, x2, rfl, m2, cc2, B2⟩ := r2.bs j (by omega)
          have hzz : x1.zs = x2.zs := by
            have h1 := congrArg (fun l => l[j]?) r3
            simpa [m1, m2] using h1
          have hjM : ¬ (K : Int) ≤ (j : Int) := by omega
          obtain ⟨y1, n1, d1, z1⟩ := x1
          obtain ⟨y2, n2, d2, z2⟩ := x2
          simp only at hzz
          subst hzz
          have f1 := keep_cell cc1 hbj
          have f2 := keep_cell cc2 hbj
          have f3 := keep_cell a1 hbj
          have B1' := B1.bs.below hbj
          have B2' := B2.bs.below hbj
          clear r1 r2 r3 m1 m2 cc1 cc2 B1 B2
          go_wp2_with fail
          refine wp_region_rel Kept [0, 1, 2, 3, 4, 5, 6, 7, 8, 9, 10, 11, 12, 13, 14, 15] (by kernel_rfl) (by kernel_rfl) (by kernel_rfl) Kept.refl Kept.trans ?_
          replace f1 : wr.drew.cell? _ = _ := f1
          replace f2 : wr.drew.cell? _ = _ := f2
          replace f3 : wr.drew.cell? _ = _ := f3
          replace B1' := B1'.below (Below.refl _ wr).drew
          replace B2' := B2'.below (Below.refl _ wr).drew
          replace hbj := hbj.drew
          generalize wr.drew = wd at *
          have hjM : ¬ (K : Int) ≤ (j : Int) := by omega
          have hSm := hide (same_any wd B1' B2')
          rw [decide_eq_true rfl] at hSm
          repeat' (first
            | (refine wpRel_quiet (v := ?_) rfl rfl (fun _ _ _ h => h) (by rfl) ?_ ?_
               rotate_left
               · (intro w' hR; have i1 := keep_cell f1 hR; have i2 := keep_cell f2 hR; have i3 := keep_cell f3 hR; go_simp; try rfl)
               simp only [Act.put, List.setIfInBounds_toArray, List.set_cons_zero, List.set_cons_succ])
            | fail)
          refine wpRel_step rfl rfl (by rfl) (fun K' hK => ?_)
          go_simp
          refine (hSm.out).mono ?_
          rintro ex wx ⟨rfl, rfl⟩
          refine hK.out _ _ (Kept.refl _) ?_
          clear hK K'
          try simp only [Act.put, List.setIfInBounds_toArray, List.set_cons_zero, List.set_cons_succ]
          repeat' (first
            | (refine wpRel_quiet (v := ?_) rfl rfl (fun _ _ _ h => h) (by rfl) ?_ ?_
               rotate_left
               · (intro w' hR; go_simp; try rfl)
               simp only [Act.put, List.setIfInBounds_toArray, List.set_cons_zero, List.set_cons_succ])
            | fail)
          refine wpRel_nil ?_
          clear f1 f2 f3 B1' B2' hSm
          go_wp2_with fail
          go_roundw
          case rel => exact ⟨j + 1, by omega, by go_num, hbj⟩
          case measure => simp [intOf]; omega
        · have hjl2 : ¬ (j : Int) < (K : Int) := by omega
          have hb2 := hbel.trans (hbj.mono hbel.size)
          go_wp2_with fail
          refine (awake_any wr (hq.below hb2 hq.lt)).mono ?_
          rintro ex w1 ⟨rfl, b1⟩
          have hb1 := hb2.trans (b1.mono hb2.size)
          go_wp2_with fail
          go_ret
          exact ⟨rfl, hb1⟩
    · have HT := hide (try_no e1 (power1_no hq hI0 hB0 HL.out K hK hcb hp (by omega)) (fun w' hR => by obtain ⟨k, Z', a2, c2, l, x, D1, D', hN⟩ := hR; exact hN.cl.pow hp))
      go_wp2_with fail
      refine HT.out.mono ?_
      rintro e W10 ⟨rfl, k, Z10, a2, c2, lA, xA, D8, D9, hN⟩
      have kk10 := hN.keep _ _ kk6 hn1 hn2 hn3 hn4
      have C10 := hN.cl
      have A10 := hN.ha
      have N10 := hN.hn
      have row10 := hN.row
      have hs9 : D9.size = 80 := hN.brk.is.1.trans hN.log.size
      have hn9 : D9.n = 20 := hN.brk.is.2.trans hN.log.nb
      have hl9 := hN.len
      have hk16 := hN.kk
      have HOld := hide hN.old
      have hQ0 := hN.num
      have hlA : lA.length = k := by rw [← hQ0, List.length_map]
      have hQ1 : (lA.map BV.zs ++ [xA.zs]).length = k + 1 := by rw [List.length_append, hQ0]; rfl
      have HC : Hid (∀ bb, zOf bb = crashN D9.size (fairL key D9 ch) (zOf D9.blk) (wz D9.wait) → loadL (txtR key (D9.crash bb) 2) 7 16 = lA.map BV.zs ∨ loadL (txtR key (D9.crash bb) 2) 7 16 = lA.map BV.zs ++ [xA.zs]) := fun bb hz => hN.log.broken (by omega) hN.brk (by omega) (by omega) hN.xb hN.xl hz
      clear HT hN hI0 hB0 HL kk6 hn1 hn2 hn3 hn4 hK

      have hNs := HB.out.below C10.bel
      have kk1 := kk10.1
      go_wp2_with (refine wpList_loadA arrT32 (by rfl) _ (by rfl) w.heap.size (by rfl) (bV key) kk1 (by rw [bV_size, hkl]) ?_)
      refine (fair_any C10 hq key hk hkl (by omega) (by omega) hNs).mono ?_
      rintro e W11 ⟨pf, nf, cf, rfl, hNz, b11⟩
      have C11 := C10.below b11
      have kk11 := kk10.below b11
      have A11 := A10.below b11
      have N11 := N10.below b11
      have row11 := row10.below b11
      clear C10 kk10 A10 N10 row10 b11 kk1 hNs
      go_wp2_with fail
      refine (C11.crash (by omega) hNz).mono ?_
      rintro e W12 ⟨Z12, bb, rfl, hbb, C12, s12⟩
      have kk12 := kk11.step s12
      have A12 := A11.step s12
      have N12 := N11.step s12
      have row12 := row11.step s12
      have hG := HC.out bb hbb.out
      have z1 : (D9.crash bb).size = 80 := hs9
      have z2 : (D9.crash bb).n = 20 := hn9
      have z3 : (D9.crash bb).left = -1 := rfl
      have z4 : (D9.crash bb).tr.length ≤ 1000 := by
        show (D9.tr ++ [_]).length ≤ 1000
        rw [List.length_append]
        show D9.tr.length + 1 ≤ 1000
        omega
      clear C11 kk11 A11 N11 row11 s12 hNz hbb HC hs9 hn9 hl9
      generalize D9.crash bb = D12 at *
      have kk1 := kk12.1
      go_wp2_with (refine wpList_loadA arrT32 (by rfl) _ (by rfl) w.heap.size (by rfl) (bV key) kk1 (by rw [bV_size, hkl]) ?_)
      refine (pen_new C12 hk hkl (boot := 2) (by omega)).mono ?_
      rintro e W13 ⟨gq, rfl, -, P13, b13⟩
      have C13 := C12.below b13
      have A13 := A12.below b13
      have N13 := N12.below b13
      have row13 := row12.below b13
      clear C12 kk12 A12 N12 row12 b13 kk1
      go_wp2_with fail
      refine (rnew_at C13 gq 2 16 2 16 rfl rfl).mono ?_
      rintro e W14 ⟨go, rfl, hgo, O14, b14⟩
      have hoq : go ≠ gq := by have := P13.lt; omega
      have hoa : ga ≠ go := by have := A13.lt; omega
      have hon : gn ≠ go := by have := N13.lt; omega
      have hgrow := row13.high hgo
      have hgw := C13.size
      have C14 := C13.below b14
      have P14 := P13.below b14
      have A14 := A13.below b14
      have N14 := N13.below b14
      have row14 := row13.below b14
      clear C13 P13 A13 N13 row13 b14

      have hw1 : IntKind.i64.wrap ((k : Int) + 1) = ((k + 1 : Nat) : Int) := by rw [IntKind.wrap_i64]; omega
      rcases hG with hG | hG
      · have hQ := hQ0
        have hA := hide (rload_at C14 P14 O14 hoq hq z3 (by omega) (by omega) (by omega) (by rw [z2]; decide) 7 (by omega) _ hG k hQ)
        clear C14 P14 O14 hG
        go_wp2_with fail
        refine hA.out.mono ?_
        rintro e W15 ⟨Z15, D15, al, cl, l, rfl, -, hlz, rowg, C15, -, -, s15⟩
        have A15 := A14.beside s15 hoa
        have N15 := N14.beside s15 hon
        have rowa := row14.beside s15 hgrow (fun y hy h0 p hp => by have := bs_old (HOld.out y hy) h0 hp; omega)
        have hbel := C15.bel
        have n1 := N15.var
        have a1 := A15.var
        have HR := hide (And.intro rowg (And.intro rowa hlz))
        clear hA A14 N14 row14 s15 hgrow rowg rowa hlz C15 A15 N15 HOld z1 z2 z3 z4
        go_wp2_with fail
        clear n1
        go_loopw [17] (fun v17 wr => ∃ j : Nat, j ≤ k ∧ v17 = .int .i64 (j : Int) ∧ Below W15.heap.size W15 wr) (fun v17 _ => k - (intOf v17).toNat)
        case atStart => exact ⟨0, Nat.zero_le _, rfl, Below.refl _ _⟩
        case round =>
          obtain ⟨j, hjn, rfl, hbj⟩ := hrel
          by_cases hjl : j < k
          · obtain ⟨r1, r2, r3⟩ := HR.out
            obtain ⟨g1, x1, rfl, m1, cc1, B1⟩ := r1.bs j hjl
            obtain ⟨g2, x2, rfl, m2, cc2, B2⟩ := r2.bs j (by omega)
            have hzz : x1.zs = x2.zs := by
              have h1 := congrArg (fun l => l[j]?) r3
              have h2 : (lA ++ [xA])[j]? = lA[j]? := List.getElem?_append_left (by omega)
              rw [h2] at m2
              simpa [m1, m2] using h1
            have hjM : ¬ ((k : Int) + 1) ≤ (j : Int) := by omega
            obtain ⟨y1, n1, d1, z1⟩ := x1
            obtain ⟨y2, n2, d2, z2⟩ := x2
            simp only at hzz
            subst hzz
            have f1 := keep_cell cc1 hbj
            have f2 := keep_cell cc2 hbj
            have f3 := keep_cell a1 hbj
            have B1' := B1.bs.below hbj
            have B2' := B2.bs.below hbj
            clear r1 r2 r3 m1 m2 cc1 cc2 B1 B2
            go_wp2_with fail
            refine wp_region_rel Kept [0, 1, 2, 3, 4, 5, 6, 7, 8, 9, 10, 11, 12, 13, 14, 15] (by kernel_rfl) (by kernel_rfl) (by kernel_rfl) Kept.refl Kept.trans ?_
            replace f1 : wr.drew.cell? _ = _ := f1
            replace f2 : wr.drew.cell? _ = _ := f2
            replace f3 : wr.drew.cell? _ = _ := f3
            replace B1' := B1'.below (Below.refl _ wr).drew
            replace B2' := B2'.below (Below.refl _ wr).drew
            replace hbj := hbj.drew
            generalize wr.drew = wd at *
            have hjM : ¬ ((k : Int) + 1) ≤ (j : Int) := by omega
            have hSm := hide (same_any wd B1' B2')
            rw [decide_eq_true rfl] at hSm
            repeat' (first
              | (refine wpRel_quiet (v := ?_) rfl rfl (fun _ _ _ h => h) (by rfl) ?_ ?_
                 rotate_left
                 · (intro w' hR; have i1 := keep_cell f1 hR; have i2 := keep_cell f2 hR; have i3 := keep_cell f3 hR; go_simp; try rfl)
                 simp only [Act.put, List.setIfInBounds_toArray, List.set_cons_zero, List.set_cons_succ])
              | fail)
            refine wpRel_step rfl rfl (by rfl) (fun K' hK => ?_)
            go_simp
            refine (hSm.out).mono ?_
            rintro ex wx ⟨rfl, rfl⟩
            refine hK.out _ _ (Kept.refl _) ?_
            clear hK K'
            try simp only [Act.put, List.setIfInBounds_toArray, List.set_cons_zero, List.set_cons_succ]
            repeat' (first
              | (refine wpRel_quiet (v := ?_) rfl rfl (fun _ _ _ h => h) (by rfl) ?_ ?_
                 rotate_left
                 · (intro w' hR; go_simp; try rfl)
                 simp only [Act.put, List.setIfInBounds_toArray, List.set_cons_zero, List.set_cons_succ])
              | fail)
            refine wpRel_nil ?_
            clear f1 f2 f3 B1' B2' hSm
            go_wp2_with fail
            go_roundw
            case rel => exact ⟨j + 1, by omega, by go_num, hbj⟩
            case measure => simp [intOf]; omega
          · have hjl2 : ¬ (j : Int) < (k : Int) := by omega
            have hb2 := hbel.trans (hbj.mono hbel.size)
            go_wp2_with fail
            refine (awake_any wr (hq.below hb2 hq.lt)).mono ?_
            rintro ex w1 ⟨rfl, b1⟩
            have hb1 := hb2.trans (b1.mono hb2.size)
            go_wp2_with fail
            go_ret
            exact ⟨rfl, hb1⟩
      · have hQ := hQ1
        have hA := hide (rload_at C14 P14 O14 hoq hq z3 (by omega) (by omega) (by omega) (by rw [z2]; decide) 7 (by omega) _ hG (k + 1) hQ)
        clear C14 P14 O14 hG
        go_wp2_with fail
        refine hA.out.mono ?_
        rintro e W15 ⟨Z15, D15, al, cl, l, rfl, -, hlz, rowg, C15, -, -, s15⟩
        have A15 := A14.beside s15 hoa
        have N15 := N14.beside s15 hon
        have rowa := row14.beside s15 hgrow (fun y hy h0 p hp => by have := bs_old (HOld.out y hy) h0 hp; omega)
        have hbel := C15.bel
        have n1 := N15.var
        have a1 := A15.var
        have HR := hide (And.intro rowg (And.intro rowa hlz))
        clear hA A14 N14 row14 s15 hgrow rowg rowa hlz C15 A15 N15 HOld z1 z2 z3 z4
        go_wp2_with fail
        clear n1
        go_loopw [17] (fun v17 wr => ∃ j : Nat, j ≤ (k + 1) ∧ v17 = .int .i64 (j : Int) ∧ Below W15.heap.size W15 wr) (fun v17 _ => (k + 1) - (intOf v17).toNat)
        case atStart => exact ⟨0, Nat.zero_le _, rfl, Below.refl _ _⟩
        case round =>
          obtain ⟨j, hjn, rfl, hbj⟩ := hrel
          by_cases hjl : j < (k + 1)
          · obtain ⟨r1, r2, r3⟩ := HR.out
            obtain ⟨g1, x1, rfl, m1, cc1, B1⟩ := r1.bs j hjl
            obtain ⟨g2, x2, rfl, m2, cc2, B2⟩ := r2.bs j (by omega)
            have hzz : x1.zs = x2.zs := by
              have h3 : l.map BV.zs = (lA ++ [xA]).map BV.zs := by rw [r3, List.map_append]; rfl
              have h1 := congrArg (fun l => l[j]?) h3
              simp only [List.getElem?_map, m1, m2, Option.map_some, Option.some.injEq] at h1
              exact h1
            have hjM : ¬ ((k : Int) + 1) ≤ (j : Int) := by omega
            obtain ⟨y1, n1, d1, z1⟩ := x1
            obtain ⟨y2, n2, d2, z2⟩ := x2
            simp only at hzz
            subst hzz
            have f1 := keep_cell cc1 hbj
            have f2 := keep_cell cc2 hbj
            have f3 := keep_cell a1 hbj
            have B1' := B1.bs.below hbj
            have B2' := B2.bs.below hbj
            clear r1 r2 r3 m1 m2 cc1 cc2 B1 B2
            go_wp2_with fail
            refine wp_region_rel Kept [0, 1, 2, 3, 4, 5, 6, 7, 8, 9, 10, 11, 12, 13, 14, 15] (by kernel_rfl) (by kernel_rfl) (by kernel_rfl) Kept.refl Kept.trans ?_
            replace f1 : wr.drew.cell? _ = _ := f1
            replace f2 : wr.drew.cell? _ = _ := f2
            replace f3 : wr.drew.cell? _ = _ := f3
            replace B1' := B1'.below (Below.refl _ wr).drew
            replace B2' := B2'.below (Below.refl _ wr).drew
            replace hbj := hbj.drew
            generalize wr.drew = wd at *
            have hjM : ¬ ((k : Int) + 1) ≤ (j : Int) := by omega
            have hSm := hide (same_any wd B1' B2')
            rw [decide_eq_true rfl] at hSm
            repeat' (first
              | (refine wpRel_quiet (v := ?_) rfl rfl (fun _ _ _ h => h) (by rfl) ?_ ?_
                 rotate_left
                 · (intro w' hR; have i1 := keep_cell f1 hR; have i2 := keep_cell f2 hR; have i3 := keep_cell f3 hR; go_simp; try rfl)
                 simp only [Act.put, List.setIfInBounds_toArray, List.set_cons_zero, List.set_cons_succ])
              | fail)
            refine wpRel_step rfl rfl (by rfl) (fun K' hK => ?_)
            go_simp
            refine (hSm.out).mono ?_
            rintro ex wx ⟨rfl, rfl⟩
            refine hK.out _ _ (Kept.refl _) ?_
            clear hK K'
            try simp only [Act.put, List.setIfInBounds_toArray, List.set_cons_zero, List.set_cons_succ]
            repeat' (first
              | (refine wpRel_quiet (v := ?_) rfl rfl (fun _ _ _ h => h) (by rfl) ?_ ?_
                 rotate_left
                 · (intro w' hR; go_simp; try rfl)
                 simp only [Act.put, List.setIfInBounds_toArray, List.set_cons_zero, List.set_cons_succ])
              | fail)
            refine wpRel_nil ?_
            clear f1 f2 f3 B1' B2' hSm
            go_wp2_with fail
            go_roundw
            case rel => exact ⟨j + 1, by omega, by go_num, hbj⟩
            case measure => simp [intOf]; omega
          · have hjl2 : ¬ (j : Int) < ((k + 1 : Nat) : Int) := by omega
            have hb2 := hbel.trans (hbj.mono hbel.size)
            go_wp2_with fail
            refine (awake_any wr (hq.below hb2 hq.lt)).mono ?_
            rintro ex w1 ⟨rfl, b1⟩
            have hb1 := hb2.trans (b1.mono hb2.size)
            go_wp2_with fail
            go_ret
            exact ⟨rfl, hb1⟩
#print axioms ringPower_walk
end Go.Proofs.YtkpkipjelpedeaaDoor
