/- The walk of dumbwaiterlaw6.DiskOwn: for any bytes and any place it answers true; nothing that was there is turned. -/
import Derived.Test.YtlicafjhkbofbaaDoorKAwake
namespace Go.Proofs.YtlicafjhkbofbaaDoor
open Go.RowKit

theorem i64_and3 (n : Int) : bits .and .i64 n 3 = n % 4 := i64_mask n 2 (by decide) 3 (by decide)
theorem fitL_len (n : Nat) (zs : List Int) (h : zs.length = n) : fitL n (zs.take n) = zs := by rw [fitL_take, fitL_self n zs h]

theorem Tr.lt {Z : Own} {w : World} {te n size : Nat} {l : List Ev} (h : Tr Z w te n size l) (hn : 0 < n) : te < w.heap.size := by
  obtain ⟨v, hv⟩ := Option.isSome_iff_exists.1 (h.there 0 (by omega)).1
  exact World.block_lt_of_cell? w _ hv
theorem Tr.step {Z Z' : Own} {w w' : World} {te n size : Nat} {l : List Ev} (h : Tr Z w te n size l) (hn : 0 < n) (s : Step Z w Z' w') : Tr Z' w' te n size l :=
  h.keep fun k hk hl => by
    have hlt : k < w.heap.size := hl.elim (fun e => e ▸ h.lt hn) id
    exact ⟨s.block k hlt hk, s.aside hlt hk⟩

set_option maxRecDepth 100000 in
set_option maxHeartbeats 8000000 in
theorem diskOwn_walk (at_ : Int) {a : Option Addr} {len cap : Nat} {zs : List Int} {p : Addr} (w : World) (hb : Bs w a len cap zs) (hp : Pow p w) :
    Calls Tryd.prog 4 #[.slice a len cap, .int .i64 at_] w fun e w' => e = .returned (.bool true) ∧ Below w.heap.size w w' := by
  have hlen := hb.length
  have hlc := hb.le_cap
  have hcm := hb.cap_le
  have HB := hide hb
  clear hb
  go_enter Tryd.func4, Tryd.ntmps4
  go_wp2_with fail
  refine (new_any 4 8 4 8 rfl rfl w).mono ?_
  rintro e W ⟨g, Z, rfl, hD, hF, hB⟩
  have C : Cl w W Z g (DS.new 4 8) := ⟨hD, hF, hB⟩
  clear hD hF hB
  by_cases hl : len < 8
  · have hl' : (len : Int) < 8 := by omega
    have hA := awake_any W (C.pow hp)
    go_wp2_with fail
    refine hA.mono ?_
    rintro e W10 ⟨rfl, b10⟩
    have hfin := C.bel.trans (b10.mono C.size)
    go_wp2_with fail
    go_ret
    exact ⟨rfl, hfin⟩
  · have hl' : ¬ (len : Int) < 8 := by omega
    obtain ⟨z8, hz8⟩ : ∃ z8, zs.take 8 = z8 := ⟨_, rfl⟩
    have hz8l : z8.length = 8 := by rw [← hz8, List.length_take]; omega
    have hcut := run_cut_to (P := Tryd.prog) Tryd.underlying22 Tryd.size_u8 HB.out .i64 8 8 rfl (by omega)
    have C1 := C.alloc (.cells #[] 5)
    have N1 := C.new (.cells #[] 5)
    have hO : OwnS 5 W.heap.size (W.alloc (.cells #[] 5)) (some ⟨W.heap.size, 0, none⟩) 0 0 [] := OwnB.owns (E := 5) N1.1 IsBytes.nil rfl (by omega) (Nat.le_refl _)
    obtain ⟨a', cap', W2, hr2, hO2, g2, at2⟩ := run_append_bytes (P := Tryd.prog) Tryd.underlying22 Tryd.info_u8 22 W.heap.size _ _ 0 0 [] hO a 8 cap (zs.take 8) ((C1.bz HB.out).bs.taken 8 (by omega)) (by omega) (by rw [size_alloc]; omega)
    rw [hz8, List.nil_append, Nat.zero_add] at hO2
    rw [Nat.zero_add] at hr2
    have C2 : Cl w W2 Z g (DS.new 4 8) := by
      refine ⟨C1.dk.keep (fun k hk => ?_) g2.size, C1.frm, C1.bel.grown g2 C1.size (fun k hk => ?_)⟩
      · have h1 := C.dk.lt k hk
        refine g2.block k (by rw [size_alloc]; omega) (fun e => ?_)
        have : k = W.heap.size := Option.some.inj e
        omega
      · have : W.heap.size = k := Option.some.inj hk
        have := C.size
        omega
    obtain ⟨kb, rfl, hkb, hkl⟩ := hO2.form (by omega)
    have hkS : ¬ Z.S kb := fun hs => by have := C.dk.lt kb hs; omega
    have hkw : w.heap.size ≤ kb := Nat.le_trans C.size hkb
    have bz : Bz Z W2 (some ⟨kb, 0, none⟩) 8 cap' z8 := ⟨hO2.bs, fun _ q hq => by cases hq; exact ⟨hkl, hkS⟩⟩
    have c3 := hO2.cell 3 (by omega)
    have f3 := hO2.frozen 3
    have sW := str_bytes hO2.bs
    have hzb := hO2.1
    have hx8 : (z8.take (DS.new 4 8).size) = z8 := by show z8.take 8 = z8; rw [List.take_of_length_le (by omega)]
    have hf8 : fitL 8 z8 = z8 := fitL_self 8 z8 hz8l
    obtain ⟨i, hi⟩ : ∃ i : Nat, at_ % 4 = (i : Int) := ⟨(at_ % 4).toNat, by omega⟩
    have hi4 : i < 4 := by omega
    have m1 := i64_and3 at_
    rw [hi] at m1
    obtain ⟨ST, hST⟩ : ∃ ST, Hid (strOfNums z8 = ST) := ⟨_, rfl⟩
    rw [hST.out] at sW
    have HW := hide (C2.write (of_decide_eq_true rfl) (of_decide_eq_true rfl) (of_decide_eq_true rfl) i hi4 bz z8 hx8)
    clear C C1 N1 hO g2 at2 hO2 hz8 hi
    go_wp2_with (at_builtin; refine wpList_append_run (by rfl) (.tmp 24) (.tmp 26) 22 (by rfl) _ _ _ _ (by rfl) (by rfl) hr2 ?_)
    refine HW.out.mono ?_
    rintro e W3 ⟨Z3, x1, rfl, hx1, C3, s3⟩
    clear HW C2 sW bz hcut hr2
    have hbk := s3.block kb hkl hkS
    replace c3 := (World.cell?_of_block (w := W2) (a := ⟨kb, 3, none⟩) hbk).trans c3
    replace f3 := (World.frozen?_of_block (w := W2) (a := ⟨kb, 3, none⟩) hbk).trans f3
    replace hkS := s3.aside hkl hkS
    obtain ⟨X, hX⟩ : ∃ X, bits .xor .u8 (z8.getD 3 0) 255 = X := ⟨_, rfl⟩
    have C4 := C3.only (OnlyAt.setC kb 3 W3 (.int .u8 X)) hkS hkw
    have HC := hide C4
    clear C3 C4 s3 hbk
    generalize z8.getD 3 0 = z3 at *
    go_wp2_with fail
    refine (HC.out.read (of_decide_eq_true rfl) (of_decide_eq_true rfl) i hi4 8 z8 rfl (by show fitL 8 (updW _ i x1 i).1.zs = _; simp only [updW, if_true]; rw [hx1.out]; exact hf8)).mono ?_
    rintro e W5 ⟨kx, Z5, rfl, hkx, A, C5, s5⟩
    have hkxw : w.heap.size ≤ kx := Nat.le_trans HC.out.size hkx
    clear HC s5 c3 f3 hX
    have sA := str_bytes (OwnB.bs (E := 5) A.1 hzb 8 hz8l (by omega))
    rw [hST.out] at sA
    have c2 := OwnB.cell (E := 5) A.1 2 (by omega)
    have f2 := OwnB.froz (E := 5) A.1 2
    obtain ⟨X2, hX2⟩ : ∃ X, bits .xor .u8 (z8.getD 2 0) 255 = X := ⟨_, rfl⟩
    have HC := hide (C5.only (OnlyAt.setC kx 2 W5 (.int .u8 X2)) A.2 hkxw)
    clear C5 A
    generalize z8.getD 2 0 = z2 at *
    go_wp2_with fail
    refine (HC.out.flush (of_decide_eq_true rfl) (of_decide_eq_true rfl)).mono ?_
    rintro e W6 ⟨Z6, rfl, C6, s6⟩
    clear HC s6 sA c2 f2 hX2
    go_wp2_with fail
    refine (C6.stable i hi4 8 z8 rfl (by
        show fitL 8 (updF _ i x1 i).2.zs = _
        simp only [updF, if_true]
        rw [hx1.out]
        exact hf8)).mono ?_
    rintro e W7 ⟨rfl, Y, C7, b7⟩
    have hky : w.heap.size ≤ W6.heap.size := C6.size
    clear C6 b7
    generalize W6.heap.size = ky at *
    have sY := str_bytes (OwnB.bs (E := 5) Y.1 hzb 8 hz8l (by omega))
    rw [hST.out] at sY
    have c1 := OwnB.cell (E := 5) Y.1 1 (by omega)
    have f1 := OwnB.froz (E := 5) Y.1 1
    obtain ⟨X1, hX1⟩ : ∃ X, bits .xor .u8 (z8.getD 1 0) 255 = X := ⟨_, rfl⟩
    have HC := hide (C7.only (OnlyAt.setC ky 1 W7 (.int .u8 X1)) Y.2 hky)
    clear C7 Y
    generalize z8.getD 1 0 = z1 at *
    go_wp2_with fail
    refine (HC.out.trace (of_decide_eq_true rfl) 3 8 rfl rfl).mono ?_
    rintro e W8 ⟨rfl, T8, C8, b8⟩
    have hte : w.heap.size ≤ (W7.setCell ⟨ky, 1, none⟩ (.int .u8 X1)).heap.size := HC.out.size
    clear HC sY c1 f1 hX1 b8
    generalize (W7.setCell ⟨ky, 1, none⟩ (.int .u8 X1)).heap.size = te at *
    obtain ⟨v0, r0, h0⟩ := T8.ev 0 ⟨2, i, x1.zs, x1⟩ rfl
    have k0 : W8.cell? ⟨te, 14, none⟩ = some v0.v := r0 14 _ (evL_14 _ _ _ _ (fitL_length _ _))
    have e8 : fitL 8 x1.zs = z8 := by rw [hx1.out]; exact hf8
    obtain ⟨m, rfl, hm, hmS, hO⟩ : ∃ m, v0 = ⟨some ⟨m, 0, none⟩, 8, 8, fitL 8 x1.zs⟩ ∧ te < m ∧ ¬ Z6.S m ∧ OwnB 5 W8 m (fitL 8 x1.zs) := by
      rcases h0 with ⟨_, h0⟩ | ⟨h0, _⟩
      · exact h0
      · exact absurd rfl h0
    rw [e8] at hO
    replace k0 : W8.cell? ⟨te, 14, none⟩ = some (.slice (some ⟨m, 0, none⟩) 8 8) := k0
    have sM := str_bytes (hO.bs hzb 8 hz8l (by omega))
    rw [hST.out] at sM
    have c0 := hO.cell 0 (by omega)
    have f0 := hO.froz 0
    have hth := T8.there 16 (by decide)
    rw [Nat.zero_add] at hth
    have htS := T8.out
    obtain ⟨X0, hX0⟩ : ∃ X, bits .xor .u8 (z8.getD 0 0) 255 = X := ⟨_, rfl⟩
    have o0 := OnlyAt.setC m 0 W8 (.int .u8 X0)
    have C9 := C8.only o0 hmS (by omega)
    have hte9 := o0.block te (by omega)
    have f16 := (World.frozen?_of_block (w := W8) (a := ⟨te, 16, none⟩) hte9).trans hth.2
    obtain ⟨v16, c16⟩ : ∃ v, (W8.setCell ⟨m, 0, none⟩ (.int .u8 X0)).cell? ⟨te, 16, none⟩ = some v := by
      obtain ⟨v, hv⟩ := Option.isSome_iff_exists.1 hth.1
      exact ⟨v, (World.cell?_of_block (w := W8) (a := ⟨te, 16, none⟩) hte9).trans hv⟩
    have C10 := C9.only (OnlyAt.setC te 16 (W8.setCell ⟨m, 0, none⟩ (.int .u8 X0)) (.int .i64 77)) htS hte
    have HC := hide C10
    clear T8 r0 h0 C8 C9 C10 hO hth o0 hte9 hmS htS
    generalize z8.getD 0 0 = z0 at *
    go_wp2_with fail
    refine (HC.out.trace (of_decide_eq_true rfl) 3 8 rfl rfl).mono ?_
    rintro e W11 ⟨rfl, T11, C11, b11⟩
    clear HC k0 sM c0 f0 f16 c16 hX0 b11 hm
    generalize ((W8.setCell ⟨m, 0, none⟩ (.int .u8 X0)).setCell ⟨te, 16, none⟩ (.int .i64 77)).heap.size = tu at *
    go_wp2_with fail
    refine (C11.read (of_decide_eq_true rfl) (of_decide_eq_true rfl) i hi4 8 z8 rfl (by
        show fitL 8 (updF (updW _ i x1) i x1 i).1.zs = _
        simp only [updF, updW, if_true]
        exact e8)).mono ?_
    rintro e W12 ⟨kr, Z12, rfl, _, A, C12, s12⟩
    have T12 := T11.step (by decide) s12
    clear C11 T11 s12
    have sA := str_bytes (OwnB.bs (E := 5) A.1 hzb 8 hz8l (by omega))
    rw [hST.out] at sA
    clear A
    have HS := hide (C12.stable i hi4 8 z8 rfl (by
        show fitL 8 (updF _ i x1 i).2.zs = _
        simp only [updF, if_true]
        exact e8))
    go_wp2_with fail
    refine HS.out.mono ?_
    rintro e W13 ⟨rfl, Y, C13, b13⟩
    have T13 := T12.step (by decide) (Step.of_below Z12 b13)
    have sY := str_bytes (OwnB.bs (E := 5) Y.1 hzb 8 hz8l (by omega))
    rw [hST.out] at sY
    clear HS C12 T12 b13 Y sA
    obtain ⟨v0, r0, h0⟩ := T13.ev 0 ⟨2, i, x1.zs, x1⟩ rfl
    have k0 : W13.cell? ⟨tu, 14, none⟩ = some v0.v := r0 14 _ (evL_14 _ _ _ _ (fitL_length _ _))
    obtain ⟨m2, rfl, hm2, hmS2, hO2⟩ : ∃ m, v0 = ⟨some ⟨m, 0, none⟩, 8, 8, fitL 8 x1.zs⟩ ∧ tu < m ∧ ¬ Z12.S m ∧ OwnB 5 W13 m (fitL 8 x1.zs) := by
      rcases h0 with ⟨_, h0⟩ | ⟨h0, _⟩
      · exact h0
      · exact absurd rfl h0
    rw [e8] at hO2
    replace k0 : W13.cell? ⟨tu, 14, none⟩ = some (.slice (some ⟨m2, 0, none⟩) 8 8) := k0
    have sM := str_bytes (hO2.bs hzb 8 hz8l (by omega))
    rw [hST.out] at sM
    obtain ⟨v1, r1, _⟩ := T13.ev 1 _ rfl
    have k1 : W13.cell? ⟨tu, 16, none⟩ = some (.int .i64 (i : Int)) := r1 1 _ rfl
    have hA := awake_any W13 (C13.pow hp)
    clear r0 r1 h0 hO2 T13 hmS2
    go_wp2_with fail
    refine hA.mono ?_
    rintro e W14 ⟨rfl, b14⟩
    have hfin := C13.bel.trans (b14.mono C13.size)
    go_wp2_with fail
    go_ret
    exact ⟨rfl, hfin⟩
#print axioms diskOwn_walk
end Go.Proofs.YtlicafjhkbofbaaDoor
