
/- The law RingForms answers true for every key, epoch and number, wherever quar.rounds reads as its text says; nothing that was there is turned. -/
import Derived.Test.YtkpkipjelpedeaaDoorRAwake
import Derived.Test.YtkpkipjelpedeaaDoorRStale
import Derived.Test.YtkpkipjelpedeaaDoorRLay
namespace Go.Proofs.YtkpkipjelpedeaaDoor
open Go.RowKit
set_option maxRecDepth 20000

/-- The rows of the table, and how many recs each leaves. -/
def rowR (E F : Int) (i : Nat) : List Int := [headR E 1 ++ [120], headR E 1 ++ [], headR F 1 ++ [120], headR E 0 ++ [120], headR E 2 ++ [120], (headR E 1 ++ []).take 11, []].getD i []
def numR (i : Nat) : Int := [3, 3, 1, 1, 1, 1, 1].getD i 1
theorem take_11 (E : Int) : ((headR E 1 ++ []).take 11).length = 11 := by rw [List.length_take, List.append_nil, headR_length]; rfl
theorem row_facts (E F : Int) (hE : 0 ≤ E ∧ E < 18446744073709551616) (hF : 0 ≤ F ∧ F < 18446744073709551616) (hne : E ≠ F) (i : Nat) (hi : i < 7) : (numR i = 3 ∧ ∃ zs, rowR E F i = headR E 1 ++ zs ∧ IsBytes zs ∧ zs.length ≤ 1) ∨ (numR i = 1 ∧ okR (rowR E F i) E 1 = false ∧ (rowR E F i).length ≤ 13 ∧ IsBytes (rowR E F i)) := by
  have b1 : IsBytes [120] := by unfold IsBytes; decide
  have hx : ∀ e j, (headR e j ++ [120]).length ≤ 13 := fun e j => by rw [List.length_append, headR_length]; decide
  have : i = 0 ∨ i = 1 ∨ i = 2 ∨ i = 3 ∨ i = 4 ∨ i = 5 ∨ i = 6 := by omega
  rcases this with rfl | rfl | rfl | rfl | rfl | rfl | rfl
  · exact .inl ⟨rfl, [120], rfl, b1, by decide⟩
  · exact .inl ⟨rfl, [], rfl, IsBytes.nil, by decide⟩
  · exact .inr ⟨rfl, okR_other [120] hE hF (by omega) (by omega) (fun h => hne h.1.symm), hx F 1, (headR_bytes _ _).append b1⟩
  · exact .inr ⟨rfl, okR_other [120] hE hE (by omega) (by omega) (fun h => absurd h.2 (by decide)), hx E 0, (headR_bytes _ _).append b1⟩
  · exact .inr ⟨rfl, okR_other [120] hE hE (by omega) (by omega) (fun h => absurd h.2 (by decide)), hx E 2, (headR_bytes _ _).append b1⟩
  · exact .inr ⟨rfl, okR_short E 1 (by show ((headR E 1 ++ []).take 11).length < 12; rw [take_11]; decide), by show ((headR E 1 ++ []).take 11).length ≤ 13; rw [take_11]; decide, ((headR_bytes _ _).append IsBytes.nil).take 11⟩
  · exact .inr ⟨rfl, okR_short E 1 (show ([] : List Int).length < 12 by decide), by show ([] : List Int).length ≤ 13; decide, IsBytes.nil⟩
theorem size_rf : (Tryd.prog.info? 48).map (·.size) = some 2 := by kernel_rfl

set_option maxRecDepth 100000 in
set_option maxHeartbeats 40000000 in
theorem ringForms_walk (key : List Int) (E which : Int) (w : World) (hk : IsBytes key) (hkl : key.length = 32) (hE : 0 ≤ E ∧ E < 18446744073709551616) (hq : Glob w) :
    Calls Tryd.prog 4 #[.agg (bV key), .int .u64 E, .int .i64 which] w fun e w' => e = .returned (.bool true) ∧ Below w.heap.size w w' := by
  obtain ⟨J, hJ, hJ7⟩ : ∃ J : Nat, (bits .and .i64 which 255).tmod 7 = (J : Int) ∧ J < 7 := by
    rw [i64_and255, Int.tmod_eq_emod_of_nonneg (Int.emod_nonneg _ (by decide))]
    exact ⟨(which % 256 % 7).toNat, by omega, by omega⟩
  obtain ⟨F, hF, hFb, hEF⟩ : ∃ F, IntKind.u64.wrap (E + 1) = F ∧ (0 ≤ F ∧ F < 18446744073709551616) ∧ E ≠ F := ⟨_, rfl, by rw [wrap_u64]; omega, by rw [wrap_u64]; omega⟩
  have hS := KK.start w key hq
  have e1 : ∀ args w, (callFunc 18 args).run Tryd.prog w = .ok (.enter 18 args) w := enters_of Tryd.func18 (by kernel_rfl) rfl
  go_enter Tryd.func4, Tryd.ntmps4
  go_wp2_with fail
  have hbw := hS.bel
  have kk0 := hS.kk
  generalize (w.alloc (Obj.cells (bV key) 27)) = W0 at *
  refine (new_any 5 60 5 60 rfl rfl W0).mono ?_
  rintro e W ⟨g, Z, rfl, hD, hF0, hB⟩
  have C : Cl w W Z g (DS.new 5 60) := ⟨hD, fun k hk => Nat.le_trans hbw.size (hF0 k hk), hbw.trans (hB.mono hbw.size)⟩
  have kk : Has Z W w.heap.size (.cells (bV key) 27 (0, 0)) := ⟨(kk0.below hB : OwnB _ _ _ _), fun hs => by have := hF0 _ hs; have := kk0.lt; omega⟩
  clear hD hF0 hB hS kk0 hbw
  have kk1 := kk.1
  go_wp2_with (refine wpList_loadA arrT32 (by rfl) _ (by rfl) w.heap.size (by rfl) (bV key) kk1 (by rw [bV_size, hkl]) ?_)
  refine (pen_new C hk hkl (boot := 1) (by omega)).mono ?_
  rintro e W1 ⟨gp, rfl, hgp, P, b1⟩
  replace C := C.below b1
  replace kk := kk.below b1
  clear b1 kk1 hgp
  go_wp2_with fail
  refine (rnew_at C gp 1 3 1 3 rfl rfl).mono ?_
  rintro e W2 ⟨gr, rfl, hr, R, b2⟩
  have hne : gr ≠ gp := by have := P.lt; omega
  replace C := C.below b2
  replace P := P.below b2
  replace kk := kk.below b2
  have kk1 := kk.1
  clear b2 hr
  have hqW : Glob W2 := hq.below C.bel hq.lt
  have hA := hide (blank_any key 60 W2 hk hkl (by omega) hqW)
  obtain ⟨B, hB⟩ : ∃ B, openB key (zL 60) = B := ⟨_, rfl⟩
  rw [hB] at hA
  cases B with
  | true =>
    go_wp2_with (refine wpList_loadA arrT32 (by rfl) _ (by rfl) w.heap.size (by rfl) (bV key) kk1 (by rw [bV_size, hkl]) ?_)
    refine hA.out.mono ?_
    rintro e W3 ⟨rfl, b3⟩
    have hb2 := C.bel.trans (b3.mono C.bel.size)
    go_wp2_with fail
    refine (awake_any W3 (hqW.below b3 hqW.lt)).mono ?_
    rintro e W4 ⟨rfl, b4⟩
    have hb3 := hb2.trans (b4.mono hb2.size)
    go_wp2_with fail
    go_ret
    exact ⟨rfl, hb3⟩
  | false =>
    go_wp2_with (refine wpList_loadA arrT32 (by rfl) _ (by rfl) w.heap.size (by rfl) (bV key) kk1 (by rw [bV_size, hkl]) ?_)
    refine hA.out.mono ?_
    rintro e W3 ⟨rfl, b3⟩
    replace C := C.below b3
    replace P := P.below b3
    replace R := R.below b3
    clear hA b3 hqW kk kk1
    have hS := hide (rstart_at R E)
    go_wp2_with fail
    refine hS.out.mono ?_
    rintro e W4 ⟨rfl, R4, o4⟩
    have C4 := C.only o4 R.has.2 R.frm
    have P4 : Pn w Z W4 gp g key 1 0 := P.only o4 (Ne.symm hne)
    have L4 : Logd key (DS.new 5 60) 1 3 E [] := Logd.start fun j _ => by
      rw [txt_closed (by rw [new_at]; exact hB)]
      exact okR_nil _ _
    have q1 : (DS.new 5 60).size = 60 := rfl
    have q2 : (DS.new 5 60).n = 5 := rfl
    have q3 : (DS.new 5 60).left = -1 := rfl
    have q4 : (DS.new 5 60).wait = [] := rfl
    have q5 : (DS.new 5 60).tr.length ≤ 0 := Nat.le_refl _
    have nw := new_at 5 60
    generalize DS.new 5 60 = D4 at *
    clear hS o4 C P R
    go_wp2_with fail
    rw [conv_bytes]
    have hL5 : Bs (W4.alloc (Obj.cells #[Value.int IntKind.u8 97] 5 (1, 2))) (some ⟨W4.heap.size, 0, none⟩) 1 1 [97] := Bs.lit rfl rfl (bytes_lit rfl) rfl (by omega)
    have b5 := below_alloc (Below.refl W4.heap.size W4) (Obj.cells #[Value.int IntKind.u8 97] 5 (1, 2))
    replace C4 := C4.below b5
    replace P4 := P4.below b5
    replace R4 := R4.below b5
    clear b5
    generalize (W4.alloc (Obj.cells #[Value.int IntKind.u8 97] 5 (1, 2))) = V4 at *
    have hA := hide (radd_at C4 P4 R4 hne hq q3 (by omega) (by rw [q4]; decide) (by omega) hE (by omega) (by omega) (by omega) (by rw [q2]; omega) hL5 38 q1 (by omega))
    clear C4 P4 R4 hL5
    go_wp2_with fail
    refine hA.out.mono ?_
    rintro e W5 ⟨Z5, D5, rfl, S5, C5, P5, R5, -⟩
    have L5 := L4.add (r := [97]) (m := 38) (bt := 1) (by decide) S5 (by omega) (by omega) (bytes_lit rfl) (by decide) (by omega)
    have a5 := S5.at_
    replace q1 := S5.size.trans q1
    replace q2 := S5.n.trans q2
    replace q3 := S5.left
    replace q4 := S5.wait
    replace q5 : D5.tr.length ≤ 2 := by rw [S5.len]; omega
    clear hA S5 L4
    go_wp2_with fail
    rw [conv_bytes]
    have hL6 : Bs (W5.alloc (Obj.cells #[Value.int IntKind.u8 98] 5 (1, 2))) (some ⟨W5.heap.size, 0, none⟩) 1 1 [98] := Bs.lit rfl rfl (bytes_lit rfl) rfl (by omega)
    have b6 := below_alloc (Below.refl W5.heap.size W5) (Obj.cells #[Value.int IntKind.u8 98] 5 (1, 2))
    replace C5 := C5.below b6
    replace P5 := P5.below b6
    replace R5 := R5.below b6
    clear b6
    generalize (W5.alloc (Obj.cells #[Value.int IntKind.u8 98] 5 (1, 2))) = V5 at *
    have hA := hide (radd_at C5 P5 R5 hne hq q3 (by omega) (by rw [q4]; decide) (by omega) hE (by omega) (by omega) (by omega) (by rw [q2]; omega) hL6 38 q1 (by omega))
    clear C5 P5 R5 hL6
    go_wp2_with fail
    refine hA.out.mono ?_
    rintro e W6 ⟨Z6, D6, rfl, S6, C6, P6, R6, -⟩
    have L6 := L5.add (r := [98]) (m := 38) (bt := 1) (by decide) S6 (by omega) (by omega) (bytes_lit rfl) (by decide) (by omega)
    have a6 := S6.at_
    replace q1 := S6.size.trans q1
    replace q2 := S6.n.trans q2
    replace q3 := S6.left
    replace q4 := S6.wait
    replace q5 : D6.tr.length ≤ 4 := by rw [S6.len]; omega
    clear hA S6 L5
    go_wp2_with fail
    rw [conv_bytes]
    have hL7 : Bs (W6.alloc (Obj.cells #[Value.int IntKind.u8 99] 5 (1, 2))) (some ⟨W6.heap.size, 0, none⟩) 1 1 [99] := Bs.lit rfl rfl (bytes_lit rfl) rfl (by omega)
    have b7 := below_alloc (Below.refl W6.heap.size W6) (Obj.cells #[Value.int IntKind.u8 99] 5 (1, 2))
    replace C6 := C6.below b7
    replace P6 := P6.below b7
    replace R6 := R6.below b7
    clear b7
    generalize (W6.alloc (Obj.cells #[Value.int IntKind.u8 99] 5 (1, 2))) = V6 at *
    have hA := hide (radd_at C6 P6 R6 hne hq q3 (by omega) (by rw [q4]; decide) (by omega) hE (by omega) (by omega) (by omega) (by rw [q2]; omega) hL7 38 q1 (by omega))
    clear C6 P6 R6 hL7
    go_wp2_with fail
    refine hA.out.mono ?_
    rintro e W7 ⟨Z7, D7, rfl, S7, C7, P7, R7, -⟩
    have L7 := L6.add (r := [99]) (m := 38) (bt := 1) (by decide) S7 (by omega) (by omega) (bytes_lit rfl) (by decide) (by omega)
    have a7 := S7.at_
    replace q1 := S7.size.trans q1
    replace q2 := S7.n.trans q2
    replace q3 := S7.left
    replace q4 := S7.wait
    replace q5 : D7.tr.length ≤ 6 := by rw [S7.len]; omega
    clear hA S7 L6
    go_wp2_with fail
    refine (lay_any E 1 ⟨#[120]⟩ [120] 13 W7 hE (by omega) rfl (by unfold IsBytes; decide) (by decide) rfl).mono ?_
    rintro ex W8 ⟨g0, c0, rfl, hO, b8⟩
    have t0 := C7.own hO
    have n0 : g0 ≠ gp ∧ g0 ≠ gr := by
      obtain ⟨g', hg', hge, _⟩ := hO.form (by omega)
      cases hg'
      have := P7.lt
      have := R7.lt
      omega
    replace C7 := C7.below b8
    replace P7 := P7.below b8
    replace R7 := R7.below b8
    clear b8 hO
    go_wp2_with fail
    refine (lay_any E 1 ⟨#[]⟩ [] 12 W8 hE (by omega) rfl (by unfold IsBytes; decide) (by decide) rfl).mono ?_
    rintro ex W9 ⟨g1, c1, rfl, hO, b9⟩
    have t1 := C7.own hO
    have n1 : g1 ≠ gp ∧ g1 ≠ gr := by
      obtain ⟨g', hg', hge, _⟩ := hO.form (by omega)
      cases hg'
      have := P7.lt
      have := R7.lt
      omega
    replace C7 := C7.below b9
    replace P7 := P7.below b9
    replace R7 := R7.below b9
    replace t0 := t0.step (Step.of_below Z7 b9)
    clear b9 hO
    go_wp2_with fail
    refine (lay_any F 1 ⟨#[120]⟩ [120] 13 W9 hFb (by omega) rfl (by unfold IsBytes; decide) (by decide) rfl).mono ?_
    rintro ex W10 ⟨g2, c2, rfl, hO, b10⟩
    have t2 := C7.own hO
    have n2 : g2 ≠ gp ∧ g2 ≠ gr := by
      obtain ⟨g', hg', hge, _⟩ := hO.form (by omega)
      cases hg'
      have := P7.lt
      have := R7.lt
      omega
    replace C7 := C7.below b10
    replace P7 := P7.below b10
    replace R7 := R7.below b10
    replace t0 := t0.step (Step.of_below Z7 b10)
    replace t1 := t1.step (Step.of_below Z7 b10)
    clear b10 hO
    go_wp2_with fail
    refine (lay_any E 0 ⟨#[120]⟩ [120] 13 W10 hE (by omega) rfl (by unfold IsBytes; decide) (by decide) rfl).mono ?_
    rintro ex W11 ⟨g3, c3, rfl, hO, b11⟩
    have t3 := C7.own hO
    have n3 : g3 ≠ gp ∧ g3 ≠ gr := by
      obtain ⟨g', hg', hge, _⟩ := hO.form (by omega)
      cases hg'
      have := P7.lt
      have := R7.lt
      omega
    replace C7 := C7.below b11
    replace P7 := P7.below b11
    replace R7 := R7.below b11
    replace t0 := t0.step (Step.of_below Z7 b11)
    replace t1 := t1.step (Step.of_below Z7 b11)
    replace t2 := t2.step (Step.of_below Z7 b11)
    clear b11 hO
    go_wp2_with fail
    refine (lay_any E 2 ⟨#[120]⟩ [120] 13 W11 hE (by omega) rfl (by unfold IsBytes; decide) (by decide) rfl).mono ?_
    rintro ex W12 ⟨g4, c4, rfl, hO, b12⟩
    have t4 := C7.own hO
    have n4 : g4 ≠ gp ∧ g4 ≠ gr := by
      obtain ⟨g', hg', hge, _⟩ := hO.form (by omega)
      cases hg'
      have := P7.lt
      have := R7.lt
      omega
    replace C7 := C7.below b12
    replace P7 := P7.below b12
    replace R7 := R7.below b12
    replace t0 := t0.step (Step.of_below Z7 b12)
    replace t1 := t1.step (Step.of_below Z7 b12)
    replace t2 := t2.step (Step.of_below Z7 b12)
    replace t3 := t3.step (Step.of_below Z7 b12)
    clear b12 hO
    go_wp2_with fail
    refine (lay_any E 1 ⟨#[]⟩ [] 12 W12 hE (by omega) rfl (by unfold IsBytes; decide) (by decide) rfl).mono ?_
    rintro ex W13 ⟨g5, c5, rfl, hO, b13⟩
    have t5 := C7.own hO
    have n5 : g5 ≠ gp ∧ g5 ≠ gr := by
      obtain ⟨g', hg', hge, _⟩ := hO.form (by omega)
      cases hg'
      have := P7.lt
      have := R7.lt
      omega
    replace C7 := C7.below b13
    replace P7 := P7.below b13
    replace R7 := R7.below b13
    replace t0 := t0.step (Step.of_below Z7 b13)
    replace t1 := t1.step (Step.of_below Z7 b13)
    replace t2 := t2.step (Step.of_below Z7 b13)
    replace t3 := t3.step (Step.of_below Z7 b13)
    replace t4 := t4.step (Step.of_below Z7 b13)
    clear b13 hO
    have hc5 : 11 ≤ c5 := by have := t5.bs.le_cap; omega
    have hcut := run_cut_to (P := Tryd.prog) (w0 := W13) Tryd.underlying36 Tryd.size_u8 t5.bs .i64 11 11 rfl hc5
    have t5' : Bz Z7 W13 (some ⟨g5, 0, none⟩) 11 c5 ((headR E 1 ++ []).take 11) := ⟨t5.bs.taken 11 (by omega), fun _ p hp => t5.out (by omega) p hp⟩
    obtain ⟨x, hxs, hr, hBx, hxn, hxz⟩ : ∃ x : BV, x = ([⟨some ⟨g0, 0, none⟩, 13, c0, headR E 1 ++ [120]⟩, ⟨some ⟨g1, 0, none⟩, 12, c1, headR E 1 ++ []⟩, ⟨some ⟨g2, 0, none⟩, 13, c2, headR F 1 ++ [120]⟩, ⟨some ⟨g3, 0, none⟩, 13, c3, headR E 0 ++ [120]⟩, ⟨some ⟨g4, 0, none⟩, 13, c4, headR E 2 ++ [120]⟩, ⟨some ⟨g5, 0, none⟩, 11, c5, (headR E 1 ++ []).take 11⟩, ⟨none, 0, 0, []⟩] : List BV).getD J BV.nil ∧ (W13.alloc (Obj.cells #[.slice (some ⟨g0, 0, none⟩) 13 c0, .int .i64 3, .slice (some ⟨g1, 0, none⟩) 12 c1, .int .i64 3, .slice (some ⟨g2, 0, none⟩) 13 c2, .int .i64 1, .slice (some ⟨g3, 0, none⟩) 13 c3, .int .i64 1, .slice (some ⟨g4, 0, none⟩) 13 c4, .int .i64 1, .slice (some ⟨g5, 0, none⟩) 11 c5, .int .i64 1, .slice none 0 0, .int .i64 1] 48)).rangeAt W13.heap.size (J * 2) [x.v, .int .i64 (numR J)] ∧ Bz Z7 W13 x.a x.len x.cap x.zs ∧ (∀ p, x.a = some p → p.block ≠ gp ∧ p.block ≠ gr) ∧ x.zs = rowR E F J := by
      have hn := heap_alloc_new W13 (Obj.cells #[.slice (some ⟨g0, 0, none⟩) 13 c0, .int .i64 3, .slice (some ⟨g1, 0, none⟩) 12 c1, .int .i64 3, .slice (some ⟨g2, 0, none⟩) 13 c2, .int .i64 1, .slice (some ⟨g3, 0, none⟩) 13 c3, .int .i64 1, .slice (some ⟨g4, 0, none⟩) 13 c4, .int .i64 1, .slice (some ⟨g5, 0, none⟩) 11 c5, .int .i64 1, .slice none 0 0, .int .i64 1] 48)
      have : J = 0 ∨ J = 1 ∨ J = 2 ∨ J = 3 ∨ J = 4 ∨ J = 5 ∨ J = 6 := by omega
      rcases this with rfl | rfl | rfl | rfl | rfl | rfl | rfl
      · refine ⟨_, rfl, fun i v hv => ?_, t0, fun p hp => by cases hp; exact n0, rfl⟩
        match i, hv with
        | 0, hv => cases hv; exact cell_of_row _ W13.heap.size 0 _ _ _ hn
        | 1, hv => cases hv; exact cell_of_row _ W13.heap.size 1 _ _ _ hn
        | i + 2, hv => cases hv
      · refine ⟨_, rfl, fun i v hv => ?_, t1, fun p hp => by cases hp; exact n1, rfl⟩
        match i, hv with
        | 0, hv => cases hv; exact cell_of_row _ W13.heap.size 2 _ _ _ hn
        | 1, hv => cases hv; exact cell_of_row _ W13.heap.size 3 _ _ _ hn
        | i + 2, hv => cases hv
      · refine ⟨_, rfl, fun i v hv => ?_, t2, fun p hp => by cases hp; exact n2, rfl⟩
        match i, hv with
        | 0, hv => cases hv; exact cell_of_row _ W13.heap.size 4 _ _ _ hn
        | 1, hv => cases hv; exact cell_of_row _ W13.heap.size 5 _ _ _ hn
        | i + 2, hv => cases hv
      · refine ⟨_, rfl, fun i v hv => ?_, t3, fun p hp => by cases hp; exact n3, rfl⟩
        match i, hv with
        | 0, hv => cases hv; exact cell_of_row _ W13.heap.size 6 _ _ _ hn
        | 1, hv => cases hv; exact cell_of_row _ W13.heap.size 7 _ _ _ hn
        | i + 2, hv => cases hv
      · refine ⟨_, rfl, fun i v hv => ?_, t4, fun p hp => by cases hp; exact n4, rfl⟩
        match i, hv with
        | 0, hv => cases hv; exact cell_of_row _ W13.heap.size 8 _ _ _ hn
        | 1, hv => cases hv; exact cell_of_row _ W13.heap.size 9 _ _ _ hn
        | i + 2, hv => cases hv
      · refine ⟨_, rfl, fun i v hv => ?_, t5', fun p hp => by cases hp; exact n5, rfl⟩
        match i, hv with
        | 0, hv => cases hv; exact cell_of_row _ W13.heap.size 10 _ _ _ hn
        | 1, hv => cases hv; exact cell_of_row _ W13.heap.size 11 _ _ _ hn
        | i + 2, hv => cases hv
      · refine ⟨_, rfl, fun i v hv => ?_, ⟨Bs.nil _, fun _ p hp => by cases hp⟩, (fun p hp => by cases hp), rfl⟩
        match i, hv with
        | 0, hv => cases hv; exact cell_of_row _ W13.heap.size 12 _ _ _ hn
        | 1, hv => cases hv; exact cell_of_row _ W13.heap.size 13 _ _ _ hn
        | i + 2, hv => cases hv
    have hfacts := row_facts E F hE hFb hEF J hJ7
    have hbt := below_alloc (Below.refl W13.heap.size W13) (Obj.cells #[.slice (some ⟨g0, 0, none⟩) 13 c0, .int .i64 3, .slice (some ⟨g1, 0, none⟩) 12 c1, .int .i64 3, .slice (some ⟨g2, 0, none⟩) 13 c2, .int .i64 1, .slice (some ⟨g3, 0, none⟩) 13 c3, .int .i64 1, .slice (some ⟨g4, 0, none⟩) 13 c4, .int .i64 1, .slice (some ⟨g5, 0, none⟩) 11 c5, .int .i64 1, .slice none 0 0, .int .i64 1] 48)
    obtain ⟨nv, hnv⟩ : ∃ nv, Hid (numR J = nv) := ⟨_, hide rfl⟩
    rw [hnv.out] at hr hfacts
    rw [← hxz] at hfacts
    obtain ⟨xa, xl, xc, xz⟩ := x
    simp only [BV.v] at hr hBx hxn hfacts
    clear hxs hxz t0 t1 t2 t3 t4 t5 t5' n0 n1 n2 n3 n4 n5 hc5
    go_wp2_with (refine wpList_load_mid rfl 48 _ (by rfl) W13.heap.size (J * 2) (by rfl) [.slice xa xl xc, .int .i64 nv] _ hr Tryd.underlying48 rfl size_rf ?_)
    have hC := C7.below hbt
    have hP := P7.below hbt
    have hR := R7.below hbt
    have hBx8 := hBx.step (Step.of_below Z7 hbt)
    have X := hC.new (Obj.cells #[.slice xa xl xc, .int .i64 nv] 48)
    rw [size_alloc] at X
    have bx := below_alloc (Below.refl _ (W13.alloc (Obj.cells #[.slice (some ⟨g0, 0, none⟩) 13 c0, .int .i64 3, .slice (some ⟨g1, 0, none⟩) 12 c1, .int .i64 3, .slice (some ⟨g2, 0, none⟩) 13 c2, .int .i64 1, .slice (some ⟨g3, 0, none⟩) 13 c3, .int .i64 1, .slice (some ⟨g4, 0, none⟩) 13 c4, .int .i64 1, .slice (some ⟨g5, 0, none⟩) 11 c5, .int .i64 1, .slice none 0 0, .int .i64 1] 48))) (Obj.cells #[.slice xa xl xc, .int .i64 nv] 48)
    replace hC := hC.below bx
    replace hP := hP.below bx
    replace hR := hR.below bx
    replace hBx8 := hBx8.step (Step.of_below Z7 bx)
    have hgx : gp ≠ W13.heap.size + 1 ∧ gr ≠ W13.heap.size + 1 := by have := P7.lt; have := R7.lt; omega
    clear hr hbt bx C7 P7 R7 hcut hBx
    generalize ((W13.alloc (Obj.cells #[.slice (some ⟨g0, 0, none⟩) 13 c0, .int .i64 3, .slice (some ⟨g1, 0, none⟩) 12 c1, .int .i64 3, .slice (some ⟨g2, 0, none⟩) 13 c2, .int .i64 1, .slice (some ⟨g3, 0, none⟩) 13 c3, .int .i64 1, .slice (some ⟨g4, 0, none⟩) 13 c4, .int .i64 1, .slice (some ⟨g5, 0, none⟩) 11 c5, .int .i64 1, .slice none 0 0, .int .i64 1] 48)).alloc (Obj.cells #[.slice xa xl xc, .int .i64 nv] 48)) = W14 at *
    generalize W13.heap.size + 1 = gx at *
    obtain ⟨hgx1, hgx2⟩ := hgx
    have hxl : xz.length ≤ 13 := by
      rcases hfacts with ⟨-, zs, rfl, -, h1⟩ | ⟨-, -, h1, -⟩
      · rw [List.length_append, headR_length]; omega
      · exact h1
    have hxz := hBx8.bs.length
    have hWr := hide (pen_write hC hP hq (by rw [q3]; decide) (by omega) (by rw [q4]; decide) (by omega) 2 hBx8.bs 38 (by omega) (by omega))
    clear hC hP
    refine hWr.out.mono ?_
    rintro ex W15 ⟨Z15, y, rfl, hy, C15, P15, s15⟩
    have R15 := hR.beside s15 hne
    have X15 := X.beside s15 (Ne.symm hgx1)
    have B15 := hBx8.beside s15 (fun _ p hp => (hxn p hp).1)
    have hbx := hBx8.bs.bytes
    obtain ⟨f1, f2, f3⟩ := puts_is D7 2 y
    have f4 := puts_len D7 2 y
    have f5 : (D7.puts 2 y).wait.length ≤ 1 := by have := puts_wait D7 2 y; rw [q4] at this; exact this
    have f6 : ∀ k, (D7.puts 2 y).at_ k = if k = 2 then sealL key 1 (0 + 1 + 1 + 1) xz 38 else D7.at_ k := fun k => by
      have := puts_at D7 2 k y (by omega)
      rw [hy.out, q1, fitL_sealL _ _ _ _ _ _ (by omega) rfl] at this
      exact this
    have q6 : (D7.puts 2 y).left = -1 := by rw [f3, q3]; rfl
    have q7 : (D7.puts 2 y).tr.length ≤ 7 := by rw [f4]; omega
    have q8 : (D7.puts 2 y).size = 60 := f1.trans q1
    have q9 : (D7.puts 2 y).n = 5 := f2.trans q2
    generalize D7.puts 2 y = D15 at *
    have T0 : txtR key D15 1 0 = headR E ((0 : Nat) : Int) ++ [97] := by
      have h1 : D15.at_ (1 + 0) = D7.at_ (1 + 0) := by rw [f6, if_neg (by decide)]
      have h2 : txtR key D15 1 0 = txtR key D7 1 0 := by unfold txtR; rw [h1]
      exact h2.trans (L7.ok 0 (by decide))
    have T2 : txtR key D15 1 2 = headR E ((2 : Nat) : Int) ++ [99] := by
      have h1 : D15.at_ (1 + 2) = D7.at_ (1 + 2) := by rw [f6, if_neg (by decide)]
      have h2 : txtR key D15 1 2 = txtR key D7 1 2 := by unfold txtR; rw [h1]
      exact h2.trans (L7.ok 2 (by decide))
    have T1 : txtR key D15 1 1 = xz := txt_sealed (by rw [f6, if_pos (by decide)]) (by omega) (by omega) hbx (by omega) (by omega)
    clear hWr hR X hBx8 s15 f1 f2 f3 f4 f6 hy L7 a5 a6 a7 q1 q2 q3 q4 q5 nw
    rcases hfacts with ⟨rfl, zs, rfl, hbz, hzl⟩ | ⟨rfl, hok, -, -⟩
    · have hLd : loadL (txtR key D15 1) E 3 = [[97], zs, [99]] := loadL_all (rs := [[97], zs, [99]]) (fun j hj => by
        match j, hj with
        | 0, _ => exact T0
        | 1, _ => exact T1
        | 2, _ => exact T2) (Nat.le_refl _) (fun h => absurd h (Nat.lt_irrefl 3))
      clear T0 T1 T2
      have hA := hide (rload_at C15 P15 R15 hne hq q6 (by omega) (by omega) (by omega) (by rw [q9]; decide) E hE _ hLd 3 rfl)
      clear C15 P15 R15 hLd
      go_wp2_with fail
      refine hA.out.mono ?_
      rintro ex W16 ⟨Z16, D16, al, cl, l, rfl, S16, hl, row, C16, P16, R16, s16⟩
      have X16 := X15.beside s16 (Ne.symm hgx2)
      have B16 := B15.beside s16 (fun _ p hp => (hxn p hp).2)
      replace q6 := S16.left
      replace q7 : D16.tr.length ≤ 10 := by rw [S16.len]; omega
      replace q8 := S16.size.trans q8
      replace q9 := S16.n.trans q9
      replace f5 : D16.wait.length ≤ 1 := by rw [S16.wait]; exact f5
      clear hA X15 B15 S16 s16
      obtain ⟨gl, x0, rfl, m0, e0, B0⟩ := row.bs 0 (by decide)
      have hz0 : x0.zs = [97] := by
        have := congrArg (fun l => l[0]?) hl
        simpa [m0] using this
      obtain ⟨ya, yl, yc, yz⟩ := x0
      simp only at hz0
      subst hz0
      obtain ⟨gl1, x1, hgl1, m1, e1, B1⟩ := row.bs 1 (by decide)
      cases hgl1
      have hz1 : x1.zs = zs := by
        have := congrArg (fun l => l[1]?) hl
        simpa [m1] using this
      obtain ⟨ya1, yl1, yc1, yz1⟩ := x1
      simp only at hz1
      subst hz1
      obtain ⟨gl2, x2, hgl2, m2, e2, B2⟩ := row.bs 2 (by decide)
      cases hgl2
      have hz2 : x2.zs = [99] := by
        have := congrArg (fun l => l[2]?) hl
        simpa [m2] using this
      obtain ⟨ya2, yl2, yc2, yz2⟩ := x2
      simp only at hz2
      subst hz2
      have hdrop : (headR E 1 ++ yz1).drop 12 = yz1 := drop_headR _ _ _
      have hle12 : 12 ≤ xl := by rw [← hxz, List.length_append, headR_length]; omega
      have hcut := run_cut_from (P := Tryd.prog) Tryd.underlying36 Tryd.size_u8 xa xl xc .i64 12 12 rfl hle12
      have BC := B16.bs.cut 12 hle12
      rw [hdrop] at BC
      have cx0 : W16.cell? ⟨gx, 0, none⟩ = some (.slice xa xl xc) := cell_of_row W16 gx 0 _ _ _ X16.1
      have cx1 : W16.cell? ⟨gx, 1, none⟩ = some (.int .i64 3) := cell_of_row W16 gx 1 _ _ _ X16.1
      have hRl := hide (fun w' (b : Kept W16 w') => ring_len (R16.below b))
      go_wp2_with fail
      refine wp_region_rel Kept [0, 1, 2, 3, 4, 5, 6, 8, 9, 7, 10, 11, 12, 13, 14, 15, 16, 17, 18, 19, 20, 21, 22, 23, 24, 25, 26, 27, 28, 29, 30, 31, 32, 33, 34, 35, 36, 37, 38, 39, 40, 41] (by kernel_rfl) (by kernel_rfl) (by kernel_rfl) Kept.refl Kept.trans ?_
      have sd : Below W16.heap.size W16 W16.drew := (Below.refl _ _).drew
      replace cx0 := keep_cell cx0 sd
      replace cx1 := keep_cell cx1 sd
      replace e0 := keep_cell e0 sd
      have B0' := B0.bs.below sd
      replace C16 := C16.below sd
      replace P16 := P16.below sd
      replace R16 := R16.below sd
      replace e1 := keep_cell e1 sd
      replace e2 := keep_cell e2 sd
      have B1' := B1.bs.below sd
      have B2' := B2.bs.below sd
      have BC' := BC.below sd
      clear sd hRl X16 B16 row hl
      generalize W16.drew = W17 at *
      have c0 : ∀ w', Kept W17 w' → (convert 36 9 (.slice ya yl yc)).run Tryd.prog w' = .ok (.string ⟨#[97]⟩) w' := fun w' hR => str_bytes (B0'.below hR)
      obtain ⟨S1, hS1⟩ : ∃ S1, strOfNums yz1 = S1 := ⟨_, rfl⟩
      have c1 : ∀ w', Kept W17 w' → (convert 36 9 (.slice ya1 yl1 yc1)).run Tryd.prog w' = .ok (.string S1) w' := fun w' hR => by rw [← hS1]; exact str_bytes (B1'.below hR)
      have c2 : ∀ w', Kept W17 w' → (convert 36 9 (.slice ya2 yl2 yc2)).run Tryd.prog w' = .ok (.string ⟨#[99]⟩) w' := fun w' hR => str_bytes (B2'.below hR)
      have c3 : ∀ w', Kept W17 w' → (convert 36 9 (.slice (cutA xa xc 12) (xl - 12) (xc - 12))).run Tryd.prog w' = .ok (.string S1) w' := fun w' hR => by rw [← hS1]; exact str_bytes (BC'.below hR)
      clear hS1 B1' B2' BC'
      generalize cutA xa xc 12 = q at *
      repeat' (first
        | (refine wpRel_quiet (v := ?_) rfl rfl (fun _ _ _ h => h) (by rfl) ?_ ?_
           rotate_left
           · (intro w' hR; have i1 := keep_cell cx0 hR; have i2 := keep_cell cx1 hR; have i3 := keep_cell e0 hR; have i4 := c0 _ hR; have i5 := keep_cell e1 hR; have i6 := keep_cell e2 hR; have i7 := c1 _ hR; have i8 := c2 _ hR; have i9 := c3 _ hR; go_simp; try rfl)
           simp only [Act.put, List.setIfInBounds_toArray, List.set_cons_zero, List.set_cons_succ])
        | fail)
      refine wpRel_step rfl rfl (by rfl) (fun K' hK => ?_)
      go_simp
      refine (ring_len R16).mono ?_
      rintro ex W18 ⟨rfl, rfl⟩
      refine hK.out _ _ (Kept.refl _) ?_
      clear hK K'
      try simp only [Act.put, List.setIfInBounds_toArray, List.set_cons_zero, List.set_cons_succ]
      repeat' (first
        | (refine wpRel_quiet (v := ?_) rfl rfl (fun _ _ _ h => h) (by rfl) ?_ ?_
           rotate_left
           · (intro w' hR; have i1 := keep_cell cx0 hR; have i2 := keep_cell cx1 hR; have i3 := keep_cell e0 hR; have i4 := c0 _ hR; have i5 := keep_cell e1 hR; have i6 := keep_cell e2 hR; have i7 := c1 _ hR; have i8 := c2 _ hR; have i9 := c3 _ hR; go_simp; try rfl)
           simp only [Act.put, List.setIfInBounds_toArray, List.set_cons_zero, List.set_cons_succ])
        | fail)
      refine wpRel_nil ?_
      clear e0 e1 e2 c0 c1 c2 c3 hcut B0 B1 B2 m0 m1 m2 cx0 cx1 B0'
      have hmk := run_make_row' (P := Tryd.prog) 36 5 (.int .u8 0) 1 Tryd.underlying36 Tryd.info_u8 rfl .i64 .i64 60 (by omega) (by omega)
      simp only [show ((60 : Nat) : Int) = 60 from rfl] at hmk
      go_wp2_with fail
      have hZ := made_zB W17 60 5
      have hBz : Bz Z16 (W17.alloc (Obj.cells (madeCells #[Value.int .u8 0] 60) 5)) (some ⟨W17.heap.size, 0, none⟩) 60 60 (zL 60) := ⟨hZ.bs (zL_bytes _) 60 (zL_length _) (by omega), fun _ p hp => by cases hp; exact ⟨hZ.lt, fun hs => absurd (C16.dk.lt _ hs) (Nat.lt_irrefl _)⟩⟩
      have bm := below_alloc (Below.refl W17.heap.size W17) (Obj.cells (madeCells #[Value.int IntKind.u8 0] 60) 5)
      replace C16 := C16.below bm
      replace P16 := P16.below bm
      replace R16 := R16.below bm
      clear hmk bm hZ
      generalize (W17.alloc (Obj.cells (madeCells #[Value.int IntKind.u8 0] 60) 5)) = W19 at *
      refine (C16.put (by rw [q6]; decide) (by omega) (by omega) 1 hBz (zL 60) (by rw [q8]; exact List.take_of_length_le (by rw [zL_length]; omega))).mono ?_
      rintro ex W20 ⟨Z20, y2, rfl, hy2, C20, s20⟩
      have P20 := P16.step s20
      have R20 := R16.step s20
      obtain ⟨k1, k2, k3⟩ := puts_is D16 1 y2
      have k4 := puts_len D16 1 y2
      have k5 : (D16.puts 1 y2).at_ (1 + 0) = zL 60 := by
        have := puts_at D16 1 1 y2 (by omega)
        rw [if_pos rfl, hy2.out, q8, fitL_self _ _ (zL_length _)] at this
        exact this
      have hL0 : loadL (txtR key (D16.puts 1 y2) 1) E 3 = [] := loadL_none 3 fun _ => by
        rw [txt_closed (by rw [k5]; exact hB)]
        exact okR_nil _ _
      have hA := hide (rload_at C20 P20 R20 hne hq (by rw [k3, q6]; rfl) (by omega) (by omega) (by omega) (by rw [k2, q9]; decide) E hE _ hL0 0 rfl)
      clear C20 P20 R20 C16 P16 R16 s20 hBz hy2 k1 k2 k3 k4 k5 hL0
      go_wp2_with fail
      refine hA.out.mono ?_
      rintro ex W21 ⟨Z21, D21, a21, c21, l21, rfl, -, -, -, C21, -, R21, -⟩
      have hRl := hide (ring_len R21)
      have hbel := C21.bel
      clear hA C21 R21
      go_wp2_with fail
      refine hRl.out.mono ?_
      rintro ex W22 ⟨rfl, rfl⟩
      clear hRl
      go_wp2_with fail
      refine (awake_any W21 (hq.below hbel hq.lt)).mono ?_
      rintro ex w1 ⟨rfl, b1⟩
      have hb1 := hbel.trans (b1.mono hbel.size)
      go_wp2_with fail
      go_ret
      exact ⟨rfl, hb1⟩
    · have hLd : loadL (txtR key D15 1) E 3 = [[97]] := loadL_all (rs := [[97]]) (fun j hj => by
        match j, hj with
        | 0, _ => exact T0) (by decide) (fun _ => by rw [show ([[97]] : List (List Int)).length = 1 from rfl, T1]; exact hok)
      clear T0 T1 T2
      have hA := hide (rload_at C15 P15 R15 hne hq q6 (by omega) (by omega) (by omega) (by rw [q9]; decide) E hE _ hLd 1 rfl)
      clear C15 P15 R15 hLd
      go_wp2_with fail
      refine hA.out.mono ?_
      rintro ex W16 ⟨Z16, D16, al, cl, l, rfl, S16, hl, row, C16, P16, R16, s16⟩
      have X16 := X15.beside s16 (Ne.symm hgx2)
      have B16 := B15.beside s16 (fun _ p hp => (hxn p hp).2)
      replace q6 := S16.left
      replace q7 : D16.tr.length ≤ 10 := by rw [S16.len]; omega
      replace q8 := S16.size.trans q8
      replace q9 := S16.n.trans q9
      replace f5 : D16.wait.length ≤ 1 := by rw [S16.wait]; exact f5
      clear hA X15 B15 S16 s16
      obtain ⟨gl, x0, rfl, m0, e0, B0⟩ := row.bs 0 (by decide)
      have hz0 : x0.zs = [97] := by
        have := congrArg (fun l => l[0]?) hl
        simpa [m0] using this
      obtain ⟨ya, yl, yc, yz⟩ := x0
      simp only at hz0
      subst hz0
      have cx0 : W16.cell? ⟨gx, 0, none⟩ = some (.slice xa xl xc) := cell_of_row W16 gx 0 _ _ _ X16.1
      have cx1 : W16.cell? ⟨gx, 1, none⟩ = some (.int .i64 1) := cell_of_row W16 gx 1 _ _ _ X16.1
      have hRl := hide (fun w' (b : Kept W16 w') => ring_len (R16.below b))
      go_wp2_with fail
      refine wp_region_rel Kept [0, 1, 2, 3, 4, 5, 6, 8, 9, 7, 10, 11, 12, 13, 14, 15, 16, 17, 18, 19, 20, 21, 22, 23, 24, 25, 26, 27, 28, 29, 30, 31, 32, 33, 34, 35, 36, 37, 38, 39, 40, 41] (by kernel_rfl) (by kernel_rfl) (by kernel_rfl) Kept.refl Kept.trans ?_
      have sd : Below W16.heap.size W16 W16.drew := (Below.refl _ _).drew
      replace cx0 := keep_cell cx0 sd
      replace cx1 := keep_cell cx1 sd
      replace e0 := keep_cell e0 sd
      have B0' := B0.bs.below sd
      replace C16 := C16.below sd
      replace P16 := P16.below sd
      replace R16 := R16.below sd
      clear sd hRl X16 B16 row hl
      generalize W16.drew = W17 at *
      have c0 : ∀ w', Kept W17 w' → (convert 36 9 (.slice ya yl yc)).run Tryd.prog w' = .ok (.string ⟨#[97]⟩) w' := fun w' hR => str_bytes (B0'.below hR)
      repeat' (first
        | (refine wpRel_quiet (v := ?_) rfl rfl (fun _ _ _ h => h) (by rfl) ?_ ?_
           rotate_left
           · (intro w' hR; have i1 := keep_cell cx0 hR; have i2 := keep_cell cx1 hR; have i3 := keep_cell e0 hR; have i4 := c0 _ hR; go_simp; try rfl)
           simp only [Act.put, List.setIfInBounds_toArray, List.set_cons_zero, List.set_cons_succ])
        | fail)
      refine wpRel_step rfl rfl (by rfl) (fun K' hK => ?_)
      go_simp
      refine (ring_len R16).mono ?_
      rintro ex W18 ⟨rfl, rfl⟩
      refine hK.out _ _ (Kept.refl _) ?_
      clear hK K'
      try simp only [Act.put, List.setIfInBounds_toArray, List.set_cons_zero, List.set_cons_succ]
      repeat' (first
        | (refine wpRel_quiet (v := ?_) rfl rfl (fun _ _ _ h => h) (by rfl) ?_ ?_
           rotate_left
           · (intro w' hR; have i1 := keep_cell cx0 hR; have i2 := keep_cell cx1 hR; have i3 := keep_cell e0 hR; have i4 := c0 _ hR; go_simp; try rfl)
           simp only [Act.put, List.setIfInBounds_toArray, List.set_cons_zero, List.set_cons_succ])
        | fail)
      repeat' (first
        | (refine wpRel_pass rfl (fun _ _ _ h => h) (by rfl) (Kept.refl _) ?_
           simp only [Act.put, List.setIfInBounds_toArray, List.set_cons_zero, List.set_cons_succ])
        | fail)
      repeat' (first
        | (refine wpRel_quiet (v := ?_) rfl rfl (fun _ _ _ h => h) (by rfl) ?_ ?_
           rotate_left
           · (intro w' hR; have i1 := keep_cell cx0 hR; have i2 := keep_cell cx1 hR; have i3 := keep_cell e0 hR; have i4 := c0 _ hR; go_simp; try rfl)
           simp only [Act.put, List.setIfInBounds_toArray, List.set_cons_zero, List.set_cons_succ])
        | fail)
      refine wpRel_nil ?_
      clear e0 c0 B0 m0 cx0 cx1 B0'
      have hmk := run_make_row' (P := Tryd.prog) 36 5 (.int .u8 0) 1 Tryd.underlying36 Tryd.info_u8 rfl .i64 .i64 60 (by omega) (by omega)
      simp only [show ((60 : Nat) : Int) = 60 from rfl] at hmk
      go_wp2_with fail
      have hZ := made_zB W17 60 5
      have hBz : Bz Z16 (W17.alloc (Obj.cells (madeCells #[Value.int .u8 0] 60) 5)) (some ⟨W17.heap.size, 0, none⟩) 60 60 (zL 60) := ⟨hZ.bs (zL_bytes _) 60 (zL_length _) (by omega), fun _ p hp => by cases hp; exact ⟨hZ.lt, fun hs => absurd (C16.dk.lt _ hs) (Nat.lt_irrefl _)⟩⟩
      have bm := below_alloc (Below.refl W17.heap.size W17) (Obj.cells (madeCells #[Value.int IntKind.u8 0] 60) 5)
      replace C16 := C16.below bm
      replace P16 := P16.below bm
      replace R16 := R16.below bm
      clear hmk bm hZ
      generalize (W17.alloc (Obj.cells (madeCells #[Value.int IntKind.u8 0] 60) 5)) = W19 at *
      refine (C16.put (by rw [q6]; decide) (by omega) (by omega) 1 hBz (zL 60) (by rw [q8]; exact List.take_of_length_le (by rw [zL_length]; omega))).mono ?_
      rintro ex W20 ⟨Z20, y2, rfl, hy2, C20, s20⟩
      have P20 := P16.step s20
      have R20 := R16.step s20
      obtain ⟨k1, k2, k3⟩ := puts_is D16 1 y2
      have k4 := puts_len D16 1 y2
      have k5 : (D16.puts 1 y2).at_ (1 + 0) = zL 60 := by
        have := puts_at D16 1 1 y2 (by omega)
        rw [if_pos rfl, hy2.out, q8, fitL_self _ _ (zL_length _)] at this
        exact this
      have hL0 : loadL (txtR key (D16.puts 1 y2) 1) E 3 = [] := loadL_none 3 fun _ => by
        rw [txt_closed (by rw [k5]; exact hB)]
        exact okR_nil _ _
      have hA := hide (rload_at C20 P20 R20 hne hq (by rw [k3, q6]; rfl) (by omega) (by omega) (by omega) (by rw [k2, q9]; decide) E hE _ hL0 0 rfl)
      clear C20 P20 R20 C16 P16 R16 s20 hBz hy2 k1 k2 k3 k4 k5 hL0
      go_wp2_with fail
      refine hA.out.mono ?_
      rintro ex W21 ⟨Z21, D21, a21, c21, l21, rfl, -, -, -, C21, -, R21, -⟩
      have hRl := hide (ring_len R21)
      have hbel := C21.bel
      clear hA C21 R21
      go_wp2_with fail
      refine hRl.out.mono ?_
      rintro ex W22 ⟨rfl, rfl⟩
      clear hRl
      go_wp2_with fail
      refine (awake_any W21 (hq.below hbel hq.lt)).mono ?_
      rintro ex w1 ⟨rfl, b1⟩
      have hb1 := hbel.trans (b1.mono hbel.size)
      go_wp2_with fail
      go_ret
      exact ⟨rfl, hb1⟩
#print axioms ringForms_walk
end Go.Proofs.YtkpkipjelpedeaaDoor
