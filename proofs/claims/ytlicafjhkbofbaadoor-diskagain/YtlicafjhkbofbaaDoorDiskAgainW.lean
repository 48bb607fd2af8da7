/- The walk of dumbwaiterlaw6.DiskAgain: for any row of choices it answers true; nothing that was there is turned. -/
import Derived.Test.YtlicafjhkbofbaaDoorKAwake
namespace Go.Proofs.YtlicafjhkbofbaaDoor
open Go.RowKit

/-- A variable that holds the device, and one that holds a number. -/
abbrev dvO (g : Nat) : Obj := .cells #[.pointer (some ⟨g, 0, none⟩)] 24 (0, 0)
abbrev ivO (k : Nat) : Obj := .cells #[.int .i64 (k : Int)] 3 (0, 0)

set_option maxHeartbeats 2000000 in
theorem again1_ok {w0 W : World} {Z : Own} {g dv iv k : Nat} {D : DS} (h : Cl w0 W Z g D) (hl : ¬ D.left = 0) (hlim : D.tr.length < 1000000) (hlw : D.wait.length < 1000000) (hn : 0 < D.n) (hs : D.size = 1) (hk : k < 256) (hd : Has Z W dv (dvO g)) (hi : Has Z W iv (ivO k)) :
    Calls Tryd.prog 21 #[.pointer (some ⟨dv, 0, none⟩), .pointer (some ⟨iv, 0, none⟩)] W fun e W' => e = .returned (.tuple #[]) ∧ ∃ Z' x, Hid (x.zs = [(k : Int)]) ∧ Cl w0 W' Z' g (D.writes 0 x) ∧ Step Z W Z' W' := by
  have c1 := hd.var
  have c2 := hi.var
  have hw : IntKind.u8.wrap (k : Int) = (k : Int) := by simp [IntKind.wrap, IntKind.bits, IntKind.signed]; omega
  have L := h.new (.cells #[.int .u8 (k : Int)] 5)
  have C := h.alloc (.cells #[.int .u8 (k : Int)] 5)
  have hby : IsBytes [(k : Int)] := IsBytes.cons ⟨by omega, by omega⟩ IsBytes.nil
  have b := L.bz (zs := [(k : Int)]) hby 1 rfl (by omega)
  have HW := hide (C.write hl hlim hlw 0 hn b [(k : Int)] (by rw [hs]; rfl))
  have s0 := Step.of_below Z (below_alloc (Below.refl _ W) (.cells #[.int .u8 (k : Int)] 5))
  clear h L C b hd hi
  go_enter Tryd.func21, Tryd.ntmps21
  go_wp2_with fail
  refine HW.out.mono ?_
  rintro e W1 ⟨Z1, x, rfl, hx, C1, s1⟩
  go_wp2_with fail
  refine bodyPost_end (results_none rfl _ _ _) rfl ?_
  exact ⟨rfl, Z1, x, hx, C1, s0.trans s1⟩

set_option maxHeartbeats 2000000 in
theorem again2_no {w0 W : World} {Z : Own} {g dv : Nat} {D : DS} {p : Addr} (h : Cl w0 W Z g D) (hp : Pow p w0) (hl : D.left = 0) (hd : Has Z W dv (dvO g)) :
    Calls Tryd.prog 22 #[.pointer (some ⟨dv, 0, none⟩)] W fun e W' => e = .panicked [{ v := errV p, recovered := false }] ∧ Below W.heap.size W W' := by
  have c1 := hd.var
  have C := h.alloc (.cells #[.int .u8 99] 5)
  have b := below_alloc (Below.refl _ W) (.cells #[.int .u8 99] 5)
  have HW := hide (write_no C.dk (C.pow hp) hl 0 (.slice (some ⟨W.heap.size, 0, none⟩) 1 1))
  clear h C hd
  go_enter Tryd.func22, Tryd.ntmps22
  go_wp2_with fail
  refine HW.out.mono ?_
  rintro e W1 ⟨rfl, rfl⟩
  go_wp2_with fail
  exact ⟨rfl, rfl, b⟩

set_option maxHeartbeats 2000000 in
theorem again3_no {w0 W : World} {Z : Own} {g dv : Nat} {D : DS} {p : Addr} (h : Cl w0 W Z g D) (hp : Pow p w0) (hl : D.left = 0) (hd : Has Z W dv (dvO g)) :
    Calls Tryd.prog 23 #[.pointer (some ⟨dv, 0, none⟩)] W fun e W' => e = .panicked [{ v := errV p, recovered := false }] ∧ W = W' := by
  have c1 := hd.var
  have HW := hide (read_no h.dk (h.pow hp) hl 0)
  clear h hd
  go_enter Tryd.func23, Tryd.ntmps23
  go_wp2_with fail
  refine HW.out.mono ?_
  rintro e W1 ⟨rfl, rfl⟩
  go_wp2_with fail
  exact ⟨rfl, rfl, rfl⟩

set_option maxHeartbeats 2000000 in
theorem again4_no {w0 W : World} {Z : Own} {g dv : Nat} {D : DS} {p : Addr} (h : Cl w0 W Z g D) (hp : Pow p w0) (hl : ¬ D.left = 0) (hd : Has Z W dv (dvO g)) :
    Calls Tryd.prog 25 #[.pointer (some ⟨dv, 0, none⟩)] W fun e W' => e = .panicked [{ v := errV p, recovered := false }] ∧ Cl w0 W' Z g { D with left := 0 } := by
  have c1 := hd.var
  have HC := hide (h.cut hl 0 (by omega))
  clear h
  go_enter Tryd.func25, Tryd.ntmps25
  go_wp2_with fail
  refine HC.out.mono ?_
  rintro e W1 ⟨rfl, C1, s1⟩
  replace hd := hd.step s1
  replace c1 := hd.var
  have HW := hide (flush_no C1.dk (C1.pow hp) rfl)
  clear HC
  go_wp2_with fail
  refine HW.out.mono ?_
  rintro e W2 ⟨rfl, rfl⟩
  go_wp2_with fail
  exact ⟨rfl, rfl, C1⟩

theorem again_pick {D : DS} {x : BV} {b : Nat → BV × BV} {z : Int} (hb : zOf b = crashN D.size [z] (zOf (updW D.blk 0 x)) (wz (D.wait ++ [(0, x)]))) (hw : D.wait = []) : (b 0).2.zs = pickZ D.size x.zs (D.blk 0).2.zs (z % 3) := by
  rw [hw] at hb
  have h := congrArg Prod.snd (congrFun hb 0)
  exact h
theorem mod3_cases (z : Int) : z % 3 = 0 ∨ z % 3 = 1 ∨ z % 3 = 2 := by omega
theorem tmod3 (z : Int) : -3 < z.tmod 3 ∧ z.tmod 3 < 3 := by
  have h1 := Int.tmod_eq_emod (a := z) (b := 3)
  rw [h1]
  split <;> omega

theorem mod3t (z : Int) : (z.tmod 3 + 3).tmod 3 = z % 3 := by
  have h := tmod3 z
  rw [Int.tmod_eq_emod_of_nonneg (by omega)]
  exact mod3 z

/-- What stands in the loop. -/
structure AgainI (w wr : World) (Z : Own) (g dv iv k : Nat) (D : DS) (v : Int) : Prop where
  cl : Cl w wr Z g D
  dvh : Has Z wr dv (dvO g)
  ivh : Has Z wr iv (ivO k)
  size : D.size = 1
  n : D.n = 2
  left : D.left = -1
  wait : D.wait = []
  tr : D.tr.length = 2 * k
  held : fitL 1 (D.blk 0).2.zs = [v]

set_option maxRecDepth 100000 in
set_option maxHeartbeats 8000000 in
theorem diskAgain_walk {a : Option Addr} {len cap : Nat} {zs : List Int} {p : Addr} (w : World) (hb : Ns .i64 w a len cap zs) (hp : Pow p w) :
    Calls Tryd.prog 5 #[.slice a len cap] w fun e w' => e = .returned (.bool true) ∧ Below w.heap.size w w' := by
  have hlen := hb.length
  have hlc := hb.le_cap
  have hcm := hb.cap_le
  have HB := hide hb
  clear hb
  go_enter Tryd.func5, Tryd.ntmps5
  go_wp2_with fail
  refine (new_any 2 1 2 1 rfl rfl w).mono ?_
  rintro e W ⟨g, Z, rfl, hD, hF, hB⟩
  have C : Cl w W Z g (DS.new 2 1) := ⟨hD, hF, hB⟩
  have V := C.new (dvO g)
  replace C := C.alloc (dvO g)
  have I := C.new (ivO 0)
  rw [size_alloc] at I
  replace C := C.alloc (ivO 0)
  replace V := V.alloc (ivO 0)
  clear hD hF hB
  go_wp2_with fail
  generalize W.heap.size = dv at *
  go_loopw [4, 5, 6] (fun s4 s5 s6 wr => ∃ (k iv : Nat) (Z1 : Own) (D : DS) (v : Int), k ≤ len ∧ k ≤ 30 ∧ s4 = .int .u8 v ∧ s5 = .int .i64 (2 * k : Nat) ∧ s6 = .pointer (some ⟨iv, 0, none⟩) ∧ AgainI w wr Z1 g dv iv k D v) (fun _ s5 _ _ => 60 - (intOf s5).toNat)
  case atStart => exact ⟨0, dv + 1, Z, DS.new 2 1, 0, Nat.zero_le _, Nat.zero_le _, rfl, rfl, rfl, ⟨C, V, I, rfl, rfl, rfl, rfl, rfl, rfl⟩⟩
  case round =>
    obtain ⟨k, iv, Z1, D, v, hk1, hk2, rfl, rfl, rfl, hI⟩ := hrel
    clear C V I
    have c6 := hI.ivh.var
    have c3 := hI.dvh.var
    have hmf : ∀ (fn : Fn) (first cap : Array Value) (w : World), (Instr.makeFunc fn first cap).run Tryd.prog w = .ok (.func fn first cap) w := fun _ _ _ _ => rfl
    by_cases hlt : k < len ∧ k < 30
    · obtain ⟨hkl, hk30⟩ := hlt
      have hk30' : (k : Int) < 30 := by omega
      have e1 : ∀ args w, (callFunc 21 args).run Tryd.prog w = .ok (.enter 21 args) w := enters_of Tryd.func21 (by kernel_rfl) rfl
      have e2 : ∀ args w, (callFunc 22 args).run Tryd.prog w = .ok (.enter 22 args) w := enters_of Tryd.func22 (by kernel_rfl) rfl
      have e3 : ∀ args w, (callFunc 23 args).run Tryd.prog w = .ok (.enter 23 args) w := enters_of Tryd.func23 (by kernel_rfl) rfl
      have HC := hide (hI.cl.cut (by rw [hI.left]; decide) 1 (by omega))
      have V := hI.dvh
      have I := hI.ivh
      have d1 := hI.size
      have d2 := hI.n
      have d3 := hI.wait
      have d4 := hI.tr
      have d5 := hI.held
      clear hI
      go_wp2_with fail
      refine HC.out.mono ?_
      rintro e W1 ⟨rfl, C1, s1⟩
      replace V := V.step s1
      replace I := I.step s1
      clear HC s1 c6 c3
      have HT := hide (try_ok e1 (again1_ok C1 (of_decide_eq_true rfl) (by show D.tr.length < _; omega) (by show D.wait.length < _; rw [d3]; decide) (by show 0 < D.n; omega) d1 (by omega) V I))
      go_wp2_with fail
      refine HT.out.mono ?_
      rintro e W2 ⟨rfl, Z2, x, hx, C2, s2⟩
      replace V := V.step s2
      replace I := I.step s2
      clear HT s2 C1
      have HT := hide (try_no e2 (again2_no C2 hp rfl V) (fun w' h => (C2.pow hp).below h))
      go_wp2_with fail
      refine HT.out.mono ?_
      rintro e W3 ⟨rfl, b3⟩
      replace V := V.below b3
      replace I := I.below b3
      have C3 := C2.below b3
      clear HT b3 C2
      have HT := hide (try_no e3 (again3_no C3 hp rfl V) (fun w' h => by subst h; exact C3.pow hp))
      go_wp2_with fail
      refine HT.out.mono ?_
      rintro e W4 ⟨rfl, rfl⟩
      clear HT
      obtain ⟨tb, toff, rfl, hcell⟩ : ∃ b off, a = some ⟨b, off, none⟩ ∧ ∀ i, i < len → w.cell? ⟨b, off + i, none⟩ = some (.int .i64 (zs.getD i 0)) := by
        rcases HB.out.place with h1 | h1
        · omega
        · exact h1
      have hz := hcell k hkl
      have htb := World.block_lt_of_cell? w _ hz
      have hwf := HB.out.getD k hkl
      have hzr := int_of_wf hwf
      clear hcell hwf
      generalize zs.getD k 0 = z at *
      go_wp2_with fail
      have t1 := V.var
      have t2 := I.var
      have t3 : W3.cell? ⟨tb, toff + k, none⟩ = some (.int .i64 z) := (C3.bel.cell htb).trans hz
      refine wp_region_ord 1000 [0, 1, 2, 3, 4, 5, 6] (fun w' => w'.cell? ⟨dv, 0, none⟩ = some (.pointer (some ⟨g, 0, none⟩)) ∧ w'.cell? ⟨iv, 0, none⟩ = some (.int .i64 (k : Int)) ∧ w'.cell? ⟨tb, toff + k, none⟩ = some (.int .i64 z)) (fun _ => True) (by kernel_rfl) (by kernel_rfl) (by kernel_rfl) ⟨t1, t2, t3⟩ trivial (fun _ _ => ?_)
      have C4 := C3.drew
      have V4 : Has Z2 W3.drew dv (dvO g) := V
      have I4 : Has Z2 W3.drew iv (ivO k) := I
      clear t1 t2 t3 C3 V I
      generalize W3.drew = W4 at *
      refine wpOrd_quiet (v := ?_) rfl rfl (fun _ _ _ h => h) (by rfl) ?_ ?_
      rotate_left
      · (intro w' hT _; obtain ⟨t1, t2, t3⟩ := hT; go_simp; try rfl)
      simp only [Act.put, List.setIfInBounds_toArray, List.set_cons_zero, List.set_cons_succ]
      refine wpOrd_quiet (v := ?_) rfl rfl (fun _ _ _ h => h) (by rfl) ?_ ?_
      rotate_left
      · (intro w' hT _; obtain ⟨t1, t2, t3⟩ := hT; go_simp; try rfl)
      simp only [Act.put, List.setIfInBounds_toArray, List.set_cons_zero, List.set_cons_succ]
      refine wpOrd_quiet (v := ?_) rfl rfl (fun _ _ _ h => h) (by rfl) ?_ ?_
      rotate_left
      · (intro w' hT _; obtain ⟨t1, t2, t3⟩ := hT; go_simp; try rfl)
      simp only [Act.put, List.setIfInBounds_toArray, List.set_cons_zero, List.set_cons_succ]
      refine wpOrd_quiet (v := ?_) rfl rfl (fun _ _ _ h => h) (by rfl) ?_ ?_
      rotate_left
      · (intro w' hT _; obtain ⟨t1, t2, t3⟩ := hT; go_simp; try rfl)
      simp only [Act.put, List.setIfInBounds_toArray, List.set_cons_zero, List.set_cons_succ]
      refine wpOrd_quiet (v := ?_) rfl rfl (fun _ _ _ h => h) (by rfl) ?_ ?_
      rotate_left
      · (intro w' hT _; obtain ⟨t1, t2, t3⟩ := hT; go_simp; try rfl)
      simp only [Act.put, List.setIfInBounds_toArray, List.set_cons_zero, List.set_cons_succ]
      have L := C4.new (.cells #[.int .i64 z] 3)
      have hAK : AllK .i64 [z] := fun y hy => by
        rw [List.mem_singleton] at hy
        subst hy
        simp [Lit.wf, IntKind.min, IntKind.max, IntKind.signed, IntKind.bits]; omega
      have nz := L.nz (zs := [z]) hAK 1 rfl (by omega)
      replace C4 := C4.alloc (.cells #[.int .i64 z] 3)
      replace V4 := V4.alloc (.cells #[.int .i64 z] 3)
      replace I4 := I4.alloc (.cells #[.int .i64 z] 3)
      have HX := hide (C4.crash (by show (D.tr ++ _).length < _; rw [List.length_append]; simp only [List.length_singleton]; omega) nz)
      refine wpOrd_step rfl rfl (by rfl) (fun K' hK => ?_)
      refine wp_buildSliceTo 37 3 1 _ (by rfl) Tryd.underlying37 [(0, .int .i64 z)] (by kernel_rfl) #[.int .i64 z] (by kernel_rfl) ?_
      refine hK.out _ _ ⟨V4.var, I4.var, (C4.bel.cell htb).trans hz⟩ (fun h => absurd h (by decide)) (fun _ => ?_)
      clear hK K' L nz
      simp only [Act.put, List.setIfInBounds_toArray, List.set_cons_zero, List.set_cons_succ]
      refine wpOrd_step rfl rfl (by rfl) (fun K' hK => ?_)
      go_simp
      refine HX.out.mono ?_
      rintro e W5 ⟨Z5, bk, rfl, hbk, C5, s5⟩
      have V5 := V4.step s5
      have I5 := I4.step s5
      refine hK.out _ _ ⟨V5.var, I5.var, (C5.bel.cell htb).trans hz⟩ (fun h => absurd h (by decide)) (fun _ => ?_)
      clear hK K' HX C4 V4 I4 s5
      refine wpOrd_nil ?_
      have hpk := again_pick hbk.out d3
      rw [d1, hx.out] at hpk
      have c6 := I5.var
      have c3 := V5.var
      have ct : W5.cell? ⟨tb, toff + k, none⟩ = some (.int .i64 z) := (C5.bel.cell htb).trans hz
      have hm3 := tmod3 z
      have hw1 : IntKind.i64.wrap (z.tmod 3) = z.tmod 3 := by rw [IntKind.wrap_i64]; omega
      have hw2 : IntKind.i64.wrap (z.tmod 3 + 3) = z.tmod 3 + 3 := by rw [IntKind.wrap_i64]; omega
      have hw3 : IntKind.i64.wrap (((2 * k : Nat) : Int) + 2) = ((2 * (k + 1) : Nat) : Int) := by rw [IntKind.wrap_i64]; omega
      have hw8 : IntKind.u8.wrap (k : Int) = (k : Int) := by simp [IntKind.wrap, IntKind.bits, IntKind.signed]; omega
      have hmd := mod3 z
      have hmt := mod3t z
      have HP := hide hpk
      have htr : (({ D with left := 1 }.writes 0 x).crash bk).tr.length = 2 * (k + 1) := by
        show ((D.tr ++ _) ++ _).length = _
        rw [List.length_append, List.length_append]
        simp only [List.length_singleton]
        omega
      have HTR := hide htr
      clear hpk hbk hzr hm3 htr hz
      have hX := bits_xr (k : Int) 165 ⟨by omega, by omega⟩ ⟨by decide, by decide⟩
      have hXl := xr_lt (k : Int) 165 ⟨by omega, by omega⟩ ⟨by decide, by decide⟩
      have hcs := mod3_cases z
      have P0 : z % 3 = 0 → fitL 1 (bk 0).2.zs = [(k : Int)] := fun h => by
        rw [HP.out, h]
        rfl
      have P1 : z % 3 = 1 → fitL 1 (bk 0).2.zs = [v] := fun h => by
        rw [HP.out, h]
        exact d5
      have P2 : z % 3 = 2 → fitL 1 (bk 0).2.zs = [xr (k : Int) 165] := fun h => by
        rw [HP.out, h]
        rfl
      clear HP
      have hne : (2 * ((k : Int) + 1) != 2 * (k : Int) + 2) = false := by rw [bne_eq_false_iff_eq]; omega
      generalize z % 3 = c at *
      generalize xr (k : Int) 165 = X at *
      rcases hcs with rfl | rfl | rfl
      · have HV := hide (P0 rfl)
        clear P0 P1 P2
        go_wp2_with fail
        refine (C5.stable 0 (by show 0 < D.n; omega) 1 _ d1 HV.out).mono ?_
        rintro e W6 ⟨rfl, Y, C6, b6⟩
        replace V5 := V5.below b6
        replace I5 := I5.below b6
        have y0 := OwnB.cell (E := 5) Y.1 0 (Nat.zero_lt_one)
        replace c3 := V5.var
        have HTr := hide (C6.trace (by rw [HTR.out]; omega) _ 1 HTR.out d1)
        clear b6 C5 Y ct c6
        go_wp2_with fail
        refine HTr.out.mono ?_
        rintro e W7 ⟨rfl, _, C7, b7⟩
        replace V5 := V5.below b7
        replace I5 := I5.below b7
        have c6 := I5.var
        have IN := C7.new (ivO (k + 1))
        have CN := C7.alloc (ivO (k + 1))
        have VN := V5.alloc (ivO (k + 1))
        have HN := hide (And.intro CN (And.intro VN IN))
        clear c3 y0 HTr C6 b7 C7 V5 I5 IN CN VN
        go_wp2_with fail
        exact ⟨⟨k + 1, W7.heap.size, Z5, _, _, by omega, by omega, rfl, congrArg _ (by omega), rfl, ⟨HN.out.1, HN.out.2.1, HN.out.2.2, d1, d2, rfl, rfl, HTR.out, HV.out⟩⟩, by simp [intOf]; omega⟩
      · have HV := hide (P1 rfl)
        clear P0 P1 P2
        go_wp2_with fail
        refine (C5.stable 0 (by show 0 < D.n; omega) 1 _ d1 HV.out).mono ?_
        rintro e W6 ⟨rfl, Y, C6, b6⟩
        replace V5 := V5.below b6
        replace I5 := I5.below b6
        have y0 := OwnB.cell (E := 5) Y.1 0 (Nat.zero_lt_one)
        replace c3 := V5.var
        have HTr := hide (C6.trace (by rw [HTR.out]; omega) _ 1 HTR.out d1)
        clear b6 C5 Y ct c6
        go_wp2_with fail
        refine HTr.out.mono ?_
        rintro e W7 ⟨rfl, _, C7, b7⟩
        replace V5 := V5.below b7
        replace I5 := I5.below b7
        have c6 := I5.var
        have IN := C7.new (ivO (k + 1))
        have CN := C7.alloc (ivO (k + 1))
        have VN := V5.alloc (ivO (k + 1))
        have HN := hide (And.intro CN (And.intro VN IN))
        clear c3 y0 HTr C6 b7 C7 V5 I5 IN CN VN
        go_wp2_with fail
        exact ⟨⟨k + 1, W7.heap.size, Z5, _, _, by omega, by omega, rfl, congrArg _ (by omega), rfl, ⟨HN.out.1, HN.out.2.1, HN.out.2.2, d1, d2, rfl, rfl, HTR.out, HV.out⟩⟩, by simp [intOf]; omega⟩
      · have HV := hide (P2 rfl)
        clear P0 P1 P2
        go_wp2_with fail
        refine (C5.stable 0 (by show 0 < D.n; omega) 1 _ d1 HV.out).mono ?_
        rintro e W6 ⟨rfl, Y, C6, b6⟩
        replace V5 := V5.below b6
        replace I5 := I5.below b6
        have y0 := OwnB.cell (E := 5) Y.1 0 (Nat.zero_lt_one)
        replace c3 := V5.var
        have HTr := hide (C6.trace (by rw [HTR.out]; omega) _ 1 HTR.out d1)
        clear b6 C5 Y ct c6
        go_wp2_with fail
        refine HTr.out.mono ?_
        rintro e W7 ⟨rfl, _, C7, b7⟩
        replace V5 := V5.below b7
        replace I5 := I5.below b7
        have c6 := I5.var
        have IN := C7.new (ivO (k + 1))
        have CN := C7.alloc (ivO (k + 1))
        have VN := V5.alloc (ivO (k + 1))
        have HN := hide (And.intro CN (And.intro VN IN))
        clear c3 y0 HTr C6 b7 C7 V5 I5 IN CN VN
        go_wp2_with fail
        exact ⟨⟨k + 1, W7.heap.size, Z5, _, _, by omega, by omega, rfl, congrArg _ (by omega), rfl, ⟨HN.out.1, HN.out.2.1, HN.out.2.2, d1, d2, rfl, rfl, HTR.out, HV.out⟩⟩, by simp [intOf]; omega⟩
    · have e4 : ∀ args w, (callFunc 25 args).run Tryd.prog w = .ok (.enter 25 args) w := enters_of Tryd.func25 (by kernel_rfl) rfl
      have HT := hide (try_no e4 (again4_no hI.cl hp (by rw [hI.left]; decide) hI.dvh) (fun w' h => h.pow hp))
      by_cases hkl : k < len
      · have h30 : ¬ (k : Int) < 30 := by omega
        clear hlt hI hk1 hk2
        go_wp2_with fail
        refine HT.out.mono ?_
        rintro e W2 ⟨rfl, C2⟩
        have hA := awake_any W2 (C2.pow hp)
        clear HT
        go_wp2_with fail
        refine hA.mono ?_
        rintro e W3 ⟨rfl, b3⟩
        have hfin := C2.bel.trans (b3.mono C2.size)
        go_wp2_with fail
        go_ret
        exact ⟨rfl, hfin⟩
      · clear hlt hI hk1 hk2
        go_wp2_with fail
        refine HT.out.mono ?_
        rintro e W2 ⟨rfl, C2⟩
        have hA := awake_any W2 (C2.pow hp)
        clear HT
        go_wp2_with fail
        refine hA.mono ?_
        rintro e W3 ⟨rfl, b3⟩
        have hfin := C2.bel.trans (b3.mono C2.size)
        go_wp2_with fail
        go_ret
        exact ⟨rfl, hfin⟩
#print axioms diskAgain_walk
end Go.Proofs.YtlicafjhkbofbaaDoor
