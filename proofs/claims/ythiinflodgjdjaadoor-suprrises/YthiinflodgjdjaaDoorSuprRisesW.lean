
/- The law SuprRises answers true for every row of epochs, wherever quar.rounds reads as its text says; nothing that was there is turned. -/
import Derived.Test.YthiinflodgjdjaaDoorUAwake
import Derived.Test.YthiinflodgjdjaaDoorXFair
namespace Go.Proofs.YthiinflodgjdjaaDoor
open Go.RowKit
set_option maxRecDepth 20000

def keyG : List Int := 2 :: zL 31
theorem keyG_bytes : IsBytes keyG := bytes_lit (by kernel_rfl)
theorem keyG_length : keyG.length = 32 := by kernel_rfl
abbrev laO (a b : Int) : Obj := .cells #[.int .u64 a, .int .u64 b] 31 (0, 0)
abbrev thO (a b : Bool) : Obj := .cells #[.bool a, .bool b] 32 (0, 0)
theorem la_set0 {w : World} {g : Nat} {a b c : Int} (h : w.heap[g]? = some (laO a b)) : (w.setCell ⟨g, 0, none⟩ (.int .u64 c)).heap[g]? = some (laO c b) := by
  rw [heap_setCell_same w g 0 _ _ _ h]; rfl
theorem la_set1 {w : World} {g : Nat} {a b c : Int} (h : w.heap[g]? = some (laO a b)) : (w.setCell ⟨g, 1, none⟩ (.int .u64 c)).heap[g]? = some (laO a c) := by
  rw [heap_setCell_same w g 1 _ _ _ h]; rfl
theorem th_set0 {w : World} {g : Nat} {a b c : Bool} (h : w.heap[g]? = some (thO a b)) : (w.setCell ⟨g, 0, none⟩ (.bool c)).heap[g]? = some (thO c b) := by
  rw [heap_setCell_same w g 0 _ _ _ h]; rfl
theorem th_set1 {w : World} {g : Nat} {a b c : Bool} (h : w.heap[g]? = some (thO a b)) : (w.setCell ⟨g, 1, none⟩ (.bool c)).heap[g]? = some (thO a c) := by
  rw [heap_setCell_same w g 1 _ _ _ h]; rfl

/-- What a round finds. -/
structure RiseI (w wr : World) (Z : Own) (g gp gl gt : Nat) (k : Nat) (D : DS) (a b : Int) (s t : Bool) : Prop where
  cl : Cl w wr Z g D
  pn : Pn w Z wr gp g keyG 1 (k : Int)
  la : Has Z wr gl (laO a b)
  th : Has Z wr gt (thO s t)
  ord : gp < gl ∧ gl < gt
  base : w.heap.size ≤ gp
  size : D.size = 40
  n : D.n = 4
  left : D.left = -1
  len : D.tr.length ≤ 4 * k
  wait : D.wait = []
  t0 : tellB keyG (D.at_ 1) 0 = s
  v0 : tellV keyG (D.at_ 1) 0 = a
  t1 : tellB keyG (D.at_ 2) 1 = t
  v1 : tellV keyG (D.at_ 2) 1 = b
  a0 : s = false → a = 0
  b0 : t = false → b = 0
  an : 0 ≤ a
  bn : 0 ≤ b

set_option maxRecDepth 100000 in
set_option maxHeartbeats 16000000 in
theorem suprRises_walk {a : Option Addr} {len cap : Nat} {xs : List Int} (w : World) (hl : Ns .u64 w a len cap xs) (hq : Glob w) :
    Calls Tryd.prog 3 #[.slice a len cap] w fun e w' => e = .returned (.bool true) ∧ Below w.heap.size w w' := by
  have hlc := hl.le_cap
  have hcm := hl.cap_le
  go_enter Tryd.func3, Tryd.ntmps3
  go_wp2_with fail
  refine (new_any 4 40 4 40 rfl rfl w).mono ?_
  rintro e W ⟨g, Z, rfl, hD, hF, hB⟩
  have C : Cl w W Z g (DS.new 4 40) := ⟨hD, hF, hB⟩
  clear hD hF hB
  go_wp2_with (refine wpList_build_is rfl 27 _ rfl (bV keyG) (by kernel_rfl) ?_)
  refine (pen_new C keyG_bytes keyG_length (boot := 1) (by omega)).mono ?_
  rintro e W1 ⟨gp, rfl, hgp, P, b1⟩
  replace C := C.below b1
  have hgp2 := Nat.le_trans C.size (Nat.le_refl _)
  clear b1
  have hA := hide (blank_any keyG 40 W1 keyG_bytes keyG_length (by omega) (hq.below C.bel hq.lt))
  rw [show openB keyG (zL 40) = false from blankG] at hA
  go_wp2_with (refine wpList_build_want (by rfl) 27 _ rfl (bV keyG) (by kernel_rfl) ?_)
  refine hA.out.mono ?_
  rintro e W2 ⟨rfl, b2⟩
  replace C := C.below b2
  replace P := P.below b2
  clear hA b2 hgp hgp2
  have t0 : tellB keyG (zL 40) 0 = false := tell_closed 0 blankG
  have t1 : tellB keyG (zL 40) 1 = false := tell_closed 1 blankG
  go_wp2_with fail
  have la0 : Has Z (W2.alloc (laO 0 0)) W2.heap.size (laO 0 0) := C.new (laO 0 0)
  have hgp0 := P.lt
  replace C := C.alloc (laO 0 0)
  replace P := P.alloc (laO 0 0)
  have th0 : Has Z ((W2.alloc (laO 0 0)).alloc (thO false false)) (W2.alloc (laO 0 0)).heap.size (thO false false) := C.new (thO false false)
  rw [size_alloc] at th0
  replace C := C.alloc (thO false false)
  replace P := P.alloc (thO false false)
  replace la0 := la0.alloc (thO false false)
  have HI0 : Hid (RiseI w ((W2.alloc (laO 0 0)).alloc (thO false false)) Z g gp W2.heap.size (W2.heap.size + 1) 0 (DS.new 4 40) 0 0 false false) := hide
    ⟨C, P, la0, th0, ⟨hgp0, by omega⟩, P.frm, rfl, rfl, rfl, Nat.le_refl _, rfl, by rw [new_at]; exact t0, by rw [new_at]; exact tellV_no t0, by rw [new_at]; exact t1, by rw [new_at]; exact tellV_no t1, fun _ => rfl, fun _ => rfl, Int.le_refl _, Int.le_refl _⟩
  clear C P la0 th0 hgp0 t0 t1
  generalize ((W2.alloc (laO 0 0)).alloc (thO false false)) = W3 at *
  generalize hgt : W2.heap.size + 1 = gt at *
  clear hgt
  generalize W2.heap.size = gl at *
  have HL := hide hl
  clear hl
  go_loopw [7] (fun v7 wr => ∃ (k : Nat) (Z1 : Own) (D : DS) (a b : Int) (s t : Bool), k ≤ 20 ∧ v7 = .int .i64 (k : Int) ∧ RiseI w wr Z1 g gp gl gt k D a b s t) (fun v7 _ => 20 - (intOf v7).toNat)
  case atStart => exact ⟨0, Z, _, 0, 0, false, false, Nat.zero_le _, rfl, HI0.out⟩
  case round =>
    clear HI0
    obtain ⟨k, Z1, D, x0, x1, s, t, hk20, rfl, hI⟩ := hrel
    by_cases h1 : (k : Int) < (len : Int)
    · by_cases h2 : (k : Int) < 20
      · have hz := word_of_wf (HL.out.getD k (by omega))
        obtain ⟨tb, toff, rfl, hcw⟩ : ∃ tb toff, a = some ⟨tb, toff, none⟩ ∧ w.cell? ⟨tb, toff + k, none⟩ = some (.int .u64 (xs.getD k 0)) := by
          rcases HL.out.place with h | ⟨tb, toff, e, hc⟩
          · omega
          · exact ⟨tb, toff, e, hc k (by omega)⟩
        have htb := World.block_lt_of_cell? w _ hcw
        generalize xs.getD k 0 = z at *
        have d1 := hI.size
        have d2 := hI.n
        have d3 := hI.left
        have d4 := hI.len
        have d5 := hI.wait
        have hord := hI.ord
        have hbase := hI.base
        have q0 := hI.t0
        have q1 := hI.v0
        have q2 := hI.t1
        have q3 := hI.v1
        have q4 := hI.a0
        have q5 := hI.b0
        have q6 := hI.an
        have q7 := hI.bn
        obtain ⟨T, hT⟩ : ∃ T, D.tr.length = T := ⟨_, rfl⟩
        rw [hT] at d4
        have hTr := hide (hI.cl.trace (by omega) T 40 hT d1)
        have P := hI.pn
        have la := hI.la
        have th := hI.th
        clear hI
        have Q := hide (And.intro q0 (And.intro q1 (And.intro q2 (And.intro q3 (And.intro q4 (And.intro q5 (And.intro q6 q7)))))))
        clear q0 q1 q2 q3 q4 q5 q6 q7
        go_wp2_with fail
        refine hTr.out.mono ?_
        rintro e W4 ⟨rfl, -, C, b4⟩
        replace P := P.below b4
        replace la := la.below b4
        replace th := th.below b4
        clear hTr b4
        have cl4 : W4.cell? ⟨tb, toff + k, none⟩ = some (.int .u64 z) := (C.bel.cell htb).trans hcw
        rcases (show z % 2 = 0 ∨ z % 2 = 1 by omega) with hp | hp
        · have hC := hide (ucommit_at C P hq d3 (by omega) (by rw [d5]; decide) (by omega) 1 z (by omega) hz 1 (by rw [hp]; rfl) (by omega) 18 d1 (by omega))
          have hu := u64_and1 z hz
          rw [hp] at hu
          clear C P
          go_wp2_with fail
          refine hC.out.mono ?_
          rintro e W5 ⟨Z5, D1, rfl, F1, C, P, s5⟩
          have la5 := la.beside s5 (by omega)
          have th5 := th.beside s5 (by omega)
          obtain ⟨bv, hev⟩ := F1.ev
          have g1 := F1.size
          have g2 := F1.n
          have g3 := F1.left
          have g4 := F1.wait
          have g5 := F1.len
          have g6 := F1.at_
          rw [d1] at g1
          rw [d2] at g2
          rw [hT] at g5
          have k1 : D1.tr[T]? = some ⟨2, 1, (sealL keyG 1 (k : Int) (epoL z) 18), bv⟩ := by rw [hev, ← hT, List.getElem?_append_right (Nat.le_refl _), Nat.sub_self]; rfl
          have k2 : D1.tr[T + 1]? = some ⟨3, 0, [], BV.nil⟩ := by rw [hev, ← hT, List.getElem?_append_right (by omega), Nat.add_sub_cancel_left]; rfl
          clear hC la th s5 cl4 F1 hev
          obtain ⟨T1, HT1⟩ : ∃ T1, Hid (T + 1 = T1) := ⟨_, hide rfl⟩
          obtain ⟨T2, HT2⟩ : ∃ T2, Hid (T + 2 = T2) := ⟨_, hide rfl⟩
          rw [HT1.out] at k2
          rw [HT2.out] at g5
          have hw1 : IntKind.i64.wrap ((T : Int) + 1) = (T1 : Int) := by rw [IntKind.wrap_i64]; have := HT1.out; omega
          have hw2 : IntKind.i64.wrap ((T : Int) + 2) = (T2 : Int) := by rw [IntKind.wrap_i64]; have := HT2.out; omega
          have l1 : T < T2 := by have := HT2.out; omega
          have l2 : T1 < T2 := by have := HT1.out; have := HT2.out; omega
          have l3 : T2 ≤ 4 * k + 2 := by have := HT2.out; omega
          clear HT1 HT2 hT d1 d2 d3 d4 d5
          have hTr := hide (C.trace (by omega) T2 40 g5 g1)
          clear C
          go_wp2_with fail
          refine hTr.out.mono ?_
          rintro e W6 ⟨rfl, t6, C, b6⟩
          replace P := P.below b6
          replace la5 := la5.below b6
          replace th5 := th5.below b6
          have c1 := t6.kind T _ k1
          have c2 := t6.place T _ k1
          have c3 := t6.kind T1 _ k2
          have c4 : W6.cell? ⟨tb, toff + k, none⟩ = some (.int .u64 z) := (C.bel.cell htb).trans hcw
          clear hTr t6 b6 k1 k2
          generalize W5.heap.size = te at *
          go_wp2_with fail
          refine wp_region_rel Kept [0, 1, 2, 3, 4, 5, 6, 7, 8, 9, 10, 11, 12, 13, 14, 15, 16, 17, 18, 19, 20, 21, 22, 23, 24, 25, 26, 27, 28, 29, 30, 31, 32, 33, 34, 35, 36] (by kernel_rfl) (by kernel_rfl) (by kernel_rfl) Kept.refl Kept.trans ?_
          replace C := C.drew
          replace P := P.drew
          replace la5 : Has Z5 W6.drew _ _ := la5.below (Below.refl _ _).drew
          replace th5 : Has Z5 W6.drew _ _ := th5.below (Below.refl _ _).drew
          replace c1 : W6.drew.cell? _ = _ := c1
          replace c2 : W6.drew.cell? _ = _ := c2
          replace c3 : W6.drew.cell? _ = _ := c3
          replace c4 : W6.drew.cell? _ = _ := c4
          generalize W6.drew = W7 at *
          repeat' (first
            | (refine wpRel_quiet (v := ?_) rfl rfl (fun _ _ _ h => h) (by rfl) ?_ ?_
               rotate_left
               · (intro w' hR; have i1 := keep_cell c1 hR; have i2 := keep_cell c2 hR; have i3 := keep_cell c3 hR; have i4 := keep_cell c4 hR; go_simp; try rfl)
               simp only [Act.put, List.setIfInBounds_toArray, List.set_cons_zero, List.set_cons_succ])
            | fail)
          refine wpRel_nil ?_
          clear c1 c2 c3
          go_wp2_with fail
          refine wp_region_ord 1000 [0, 1, 2, 3, 4, 5, 6, 7, 8, 9, 10, 11, 12, 13, 14, 15, 16, 17] (fun w' => w'.cell? ⟨tb, toff + k, none⟩ = some (.int .u64 z)) (fun _ => True) (by kernel_rfl) (by kernel_rfl) (by kernel_rfl) c4 trivial (fun _ _ => ?_)
          replace C := C.drew
          replace P := P.drew
          replace la5 : Has Z5 W7.drew _ _ := la5.below (Below.refl _ _).drew
          replace th5 : Has Z5 W7.drew _ _ := th5.below (Below.refl _ _).drew
          clear c4
          generalize W7.drew = W8 at *
          repeat' (first
            | (refine wpOrd_quiet (v := ?_) rfl rfl (fun _ _ _ h => h) (by rfl) ?_ ?_
               rotate_left
               · (intro w' hT _; go_simp; try rfl)
               simp only [Act.put, List.setIfInBounds_toArray, List.set_cons_zero, List.set_cons_succ])
            | fail)
          have m1 : W8.cell? ⟨gl, 0, none⟩ = some (.int .u64 x0) := cell_of_row W8 gl 0 _ _ _ la5.1
          have m2 := frozen_of_row W8 gl 0 _ _ la5.1
          have o1 := OnlyAt.setCell gl 0 W8 (.int .u64 z)
          have C9 := C.only o1 la5.2 (by omega)
          have P9 := P.only o1 (by omega)
          have th9 := th5.only o1 (by omega)
          have la9 : Has Z5 (W8.setCell ⟨gl, 0, none⟩ (.int .u64 z)) gl (laO z x1) := ⟨la_set0 la5.1, la5.2⟩
          refine wpOrd_step rfl rfl (by rfl) (fun K' hK => ?_)
          go_simp
          refine hK.out _ _ ((C9.bel.cell htb).trans hcw) (fun h => absurd h (by decide)) (fun _ => ?_)
          clear hK K'
          try simp only [Act.put, List.setIfInBounds_toArray, List.set_cons_zero, List.set_cons_succ]
          clear m1 m2 o1 C P th5 la5
          generalize (W8.setCell ⟨gl, 0, none⟩ (.int .u64 z)) = W9 at *
          repeat' (first
            | (refine wpOrd_quiet (v := ?_) rfl rfl (fun _ _ _ h => h) (by rfl) ?_ ?_
               rotate_left
               · (intro w' hT _; go_simp; try rfl)
               simp only [Act.put, List.setIfInBounds_toArray, List.set_cons_zero, List.set_cons_succ])
            | fail)
          have m1 : W9.cell? ⟨gt, 0, none⟩ = some (.bool s) := cell_of_row W9 gt 0 _ _ _ th9.1
          have m2 := frozen_of_row W9 gt 0 _ _ th9.1
          have o1 := OnlyAt.setCell gt 0 W9 (.bool true)
          have C10 := C9.only o1 th9.2 (by omega)
          have P10 := P9.only o1 (by omega)
          have la10 := la9.only o1 (by omega)
          have th10 : Has Z5 (W9.setCell ⟨gt, 0, none⟩ (.bool true)) gt (thO true t) := ⟨th_set0 th9.1, th9.2⟩
          refine wpOrd_step rfl rfl (by rfl) (fun K' hK => ?_)
          go_simp
          refine hK.out _ _ ((C10.bel.cell htb).trans hcw) (fun h => absurd h (by decide)) (fun _ => ?_)
          clear hK K'
          try simp only [Act.put, List.setIfInBounds_toArray, List.set_cons_zero, List.set_cons_succ]
          clear m1 m2 o1 C9 P9 th9 la9
          generalize (W9.setCell ⟨gt, 0, none⟩ (.bool true)) = W10 at *
          refine wpOrd_nil ?_
          obtain ⟨q0, q1, q2, q3, q4, q5, q6, q7⟩ := Q.out
          clear Q
          obtain ⟨y0, y1⟩ := tell_epoch (key := keyG) (boot := 1) (seq := (k : Int)) (n := z) (m := 18) (by omega) (by omega) hz (by omega) (by omega)
          rw [hp] at y0 y1
          have e0 : D1.at_ 1 = (sealL keyG 1 (k : Int) (epoL z) 18) := by rw [g6, if_pos rfl]
          have e1 : D1.at_ 2 = D.at_ 2 := by rw [g6, if_neg (by decide)]
          have hL := hide (ulast_at C10 P10 hq g3 (by omega) 1 1 rfl (by omega) _ _ e0 e1 z x1 true t y1 y0 q3 q2)
          have n0 : W10.cell? ⟨gl, 0, none⟩ = some (.int .u64 z) := cell_of_row W10 gl 0 _ _ _ la10.1
          have n1 : W10.cell? ⟨gl, 1, none⟩ = some (.int .u64 x1) := cell_of_row W10 gl 1 _ _ _ la10.1
          obtain ⟨X, hX⟩ : ∃ X, Hid (max z x1 = X) := ⟨_, hide rfl⟩
          rw [hX.out] at hL
          clear C10 P10
          go_wp2_with fail
          refine hL.out.mono ?_
          rintro e W11 ⟨Z11, D3, rfl, F3, C, P, s11⟩
          replace la10 := la10.step s11
          replace th10 := th10.step s11
          clear hL n0 n1 s11
          have HI : Hid (RiseI w W11 Z11 g gp gl gt (k + 1) D3 z x1 true t) := hide
            ⟨C, P, la10, th10, hord, hbase, F3.size.trans g1, F3.n.trans g2, F3.left, by have := F3.len; omega, F3.wait.trans g4,
              by rw [F3.at_, e0]; exact y0, by rw [F3.at_, e0]; exact y1, by rw [F3.at_, e1]; exact q2, by rw [F3.at_, e1]; exact q3,
              (fun h => by cases h), q5, hz.1, q7⟩
          have n0 : W11.cell? ⟨gl, 0, none⟩ = some (.int .u64 z) := cell_of_row W11 gl 0 _ _ _ la10.1
          have n1 : W11.cell? ⟨gl, 1, none⟩ = some (.int .u64 x1) := cell_of_row W11 gl 1 _ _ _ la10.1
          have n2 : W11.cell? ⟨gt, 0, none⟩ = some (.bool true) := cell_of_row W11 gt 0 _ _ _ th10.1
          have n3 : W11.cell? ⟨gt, 1, none⟩ = some (.bool t) := cell_of_row W11 gt 1 _ _ _ th10.1
          clear C P la10 th10 e0 e1 y0 y1 q0 q1 q2 q3 F3 g1 g2 g3 g4 g5 g6
          cases t with
          | false =>
            have hE : X = z := by have := hX.out; have := q5 rfl; omega
            subst hE
            clear hX q4 q5
            go_wp2_with fail
            go_roundw
            case rel => exact ⟨k + 1, Z11, D3, _, _, _, _, by omega, by go_num, HI.out⟩
            case measure => simp [intOf]; omega
          | true =>
            by_cases hc : z < x1
            · have hE : X = x1 := by have := hX.out; omega
              subst hE
              clear hX q4 q5
              go_wp2_with fail
              go_roundw
              case rel => exact ⟨k + 1, Z11, D3, _, _, _, _, by omega, by go_num, HI.out⟩
              case measure => simp [intOf]; omega
            · have hE : X = z := by have := hX.out; omega
              subst hE
              clear hX q4 q5
              go_wp2_with fail
              go_roundw
              case rel => exact ⟨k + 1, Z11, D3, _, _, _, _, by omega, by go_num, HI.out⟩
              case measure => simp [intOf]; omega
        · have hC := hide (ucommit_at C P hq d3 (by omega) (by rw [d5]; decide) (by omega) 1 z (by omega) hz 2 (by rw [hp]; rfl) (by omega) 18 d1 (by omega))
          have hu := u64_and1 z hz
          rw [hp] at hu
          clear C P
          go_wp2_with fail
          refine hC.out.mono ?_
          rintro e W5 ⟨Z5, D1, rfl, F1, C, P, s5⟩
          have la5 := la.beside s5 (by omega)
          have th5 := th.beside s5 (by omega)
          obtain ⟨bv, hev⟩ := F1.ev
          have g1 := F1.size
          have g2 := F1.n
          have g3 := F1.left
          have g4 := F1.wait
          have g5 := F1.len
          have g6 := F1.at_
          rw [d1] at g1
          rw [d2] at g2
          rw [hT] at g5
          have k1 : D1.tr[T]? = some ⟨2, 2, (sealL keyG 1 (k : Int) (epoL z) 18), bv⟩ := by rw [hev, ← hT, List.getElem?_append_right (Nat.le_refl _), Nat.sub_self]; rfl
          have k2 : D1.tr[T + 1]? = some ⟨3, 0, [], BV.nil⟩ := by rw [hev, ← hT, List.getElem?_append_right (by omega), Nat.add_sub_cancel_left]; rfl
          clear hC la th s5 cl4 F1 hev
          obtain ⟨T1, HT1⟩ : ∃ T1, Hid (T + 1 = T1) := ⟨_, hide rfl⟩
          obtain ⟨T2, HT2⟩ : ∃ T2, Hid (T + 2 = T2) := ⟨_, hide rfl⟩
          rw [HT1.out] at k2
          rw [HT2.out] at g5
          have hw1 : IntKind.i64.wrap ((T : Int) + 1) = (T1 : Int) := by rw [IntKind.wrap_i64]; have := HT1.out; omega
          have hw2 : IntKind.i64.wrap ((T : Int) + 2) = (T2 : Int) := by rw [IntKind.wrap_i64]; have := HT2.out; omega
          have l1 : T < T2 := by have := HT2.out; omega
          have l2 : T1 < T2 := by have := HT1.out; have := HT2.out; omega
          have l3 : T2 ≤ 4 * k + 2 := by have := HT2.out; omega
          clear HT1 HT2 hT d1 d2 d3 d4 d5
          have hTr := hide (C.trace (by omega) T2 40 g5 g1)
          clear C
          go_wp2_with fail
          refine hTr.out.mono ?_
          rintro e W6 ⟨rfl, t6, C, b6⟩
          replace P := P.below b6
          replace la5 := la5.below b6
          replace th5 := th5.below b6
          have c1 := t6.kind T _ k1
          have c2 := t6.place T _ k1
          have c3 := t6.kind T1 _ k2
          have c4 : W6.cell? ⟨tb, toff + k, none⟩ = some (.int .u64 z) := (C.bel.cell htb).trans hcw
          clear hTr t6 b6 k1 k2
          generalize W5.heap.size = te at *
          go_wp2_with fail
          refine wp_region_rel Kept [0, 1, 2, 3, 4, 5, 6, 7, 8, 9, 10, 11, 12, 13, 14, 15, 16, 17, 18, 19, 20, 21, 22, 23, 24, 25, 26, 27, 28, 29, 30, 31, 32, 33, 34, 35, 36] (by kernel_rfl) (by kernel_rfl) (by kernel_rfl) Kept.refl Kept.trans ?_
          replace C := C.drew
          replace P := P.drew
          replace la5 : Has Z5 W6.drew _ _ := la5.below (Below.refl _ _).drew
          replace th5 : Has Z5 W6.drew _ _ := th5.below (Below.refl _ _).drew
          replace c1 : W6.drew.cell? _ = _ := c1
          replace c2 : W6.drew.cell? _ = _ := c2
          replace c3 : W6.drew.cell? _ = _ := c3
          replace c4 : W6.drew.cell? _ = _ := c4
          generalize W6.drew = W7 at *
          repeat' (first
            | (refine wpRel_quiet (v := ?_) rfl rfl (fun _ _ _ h => h) (by rfl) ?_ ?_
               rotate_left
               · (intro w' hR; have i1 := keep_cell c1 hR; have i2 := keep_cell c2 hR; have i3 := keep_cell c3 hR; have i4 := keep_cell c4 hR; go_simp; try rfl)
               simp only [Act.put, List.setIfInBounds_toArray, List.set_cons_zero, List.set_cons_succ])
            | fail)
          refine wpRel_nil ?_
          clear c1 c2 c3
          go_wp2_with fail
          refine wp_region_ord 1000 [0, 1, 2, 3, 4, 5, 6, 7, 8, 9, 10, 11, 12, 13, 14, 15, 16, 17] (fun w' => w'.cell? ⟨tb, toff + k, none⟩ = some (.int .u64 z)) (fun _ => True) (by kernel_rfl) (by kernel_rfl) (by kernel_rfl) c4 trivial (fun _ _ => ?_)
          replace C := C.drew
          replace P := P.drew
          replace la5 : Has Z5 W7.drew _ _ := la5.below (Below.refl _ _).drew
          replace th5 : Has Z5 W7.drew _ _ := th5.below (Below.refl _ _).drew
          clear c4
          generalize W7.drew = W8 at *
          repeat' (first
            | (refine wpOrd_quiet (v := ?_) rfl rfl (fun _ _ _ h => h) (by rfl) ?_ ?_
               rotate_left
               · (intro w' hT _; go_simp; try rfl)
               simp only [Act.put, List.setIfInBounds_toArray, List.set_cons_zero, List.set_cons_succ])
            | fail)
          have m1 : W8.cell? ⟨gl, 1, none⟩ = some (.int .u64 x1) := cell_of_row W8 gl 1 _ _ _ la5.1
          have m2 := frozen_of_row W8 gl 1 _ _ la5.1
          have o1 := OnlyAt.setCell gl 1 W8 (.int .u64 z)
          have C9 := C.only o1 la5.2 (by omega)
          have P9 := P.only o1 (by omega)
          have th9 := th5.only o1 (by omega)
          have la9 : Has Z5 (W8.setCell ⟨gl, 1, none⟩ (.int .u64 z)) gl (laO x0 z) := ⟨la_set1 la5.1, la5.2⟩
          refine wpOrd_step rfl rfl (by rfl) (fun K' hK => ?_)
          go_simp
          refine hK.out _ _ ((C9.bel.cell htb).trans hcw) (fun h => absurd h (by decide)) (fun _ => ?_)
          clear hK K'
          try simp only [Act.put, List.setIfInBounds_toArray, List.set_cons_zero, List.set_cons_succ]
          clear m1 m2 o1 C P th5 la5
          generalize (W8.setCell ⟨gl, 1, none⟩ (.int .u64 z)) = W9 at *
          repeat' (first
            | (refine wpOrd_quiet (v := ?_) rfl rfl (fun _ _ _ h => h) (by rfl) ?_ ?_
               rotate_left
               · (intro w' hT _; go_simp; try rfl)
               simp only [Act.put, List.setIfInBounds_toArray, List.set_cons_zero, List.set_cons_succ])
            | fail)
          have m1 : W9.cell? ⟨gt, 1, none⟩ = some (.bool t) := cell_of_row W9 gt 1 _ _ _ th9.1
          have m2 := frozen_of_row W9 gt 1 _ _ th9.1
          have o1 := OnlyAt.setCell gt 1 W9 (.bool true)
          have C10 := C9.only o1 th9.2 (by omega)
          have P10 := P9.only o1 (by omega)
          have la10 := la9.only o1 (by omega)
          have th10 : Has Z5 (W9.setCell ⟨gt, 1, none⟩ (.bool true)) gt (thO s true) := ⟨th_set1 th9.1, th9.2⟩
          refine wpOrd_step rfl rfl (by rfl) (fun K' hK => ?_)
          go_simp
          refine hK.out _ _ ((C10.bel.cell htb).trans hcw) (fun h => absurd h (by decide)) (fun _ => ?_)
          clear hK K'
          try simp only [Act.put, List.setIfInBounds_toArray, List.set_cons_zero, List.set_cons_succ]
          clear m1 m2 o1 C9 P9 th9 la9
          generalize (W9.setCell ⟨gt, 1, none⟩ (.bool true)) = W10 at *
          refine wpOrd_nil ?_
          obtain ⟨q0, q1, q2, q3, q4, q5, q6, q7⟩ := Q.out
          clear Q
          obtain ⟨y0, y1⟩ := tell_epoch (key := keyG) (boot := 1) (seq := (k : Int)) (n := z) (m := 18) (by omega) (by omega) hz (by omega) (by omega)
          rw [hp] at y0 y1
          have e1 : D1.at_ 2 = (sealL keyG 1 (k : Int) (epoL z) 18) := by rw [g6, if_pos rfl]
          have e0 : D1.at_ 1 = D.at_ 1 := by rw [g6, if_neg (by decide)]
          have hL := hide (ulast_at C10 P10 hq g3 (by omega) 1 1 rfl (by omega) _ _ e0 e1 x0 z s true q1 q0 y1 y0)
          have n0 : W10.cell? ⟨gl, 0, none⟩ = some (.int .u64 x0) := cell_of_row W10 gl 0 _ _ _ la10.1
          have n1 : W10.cell? ⟨gl, 1, none⟩ = some (.int .u64 z) := cell_of_row W10 gl 1 _ _ _ la10.1
          obtain ⟨X, hX⟩ : ∃ X, Hid (max x0 z = X) := ⟨_, hide rfl⟩
          rw [hX.out] at hL
          clear C10 P10
          go_wp2_with fail
          refine hL.out.mono ?_
          rintro e W11 ⟨Z11, D3, rfl, F3, C, P, s11⟩
          replace la10 := la10.step s11
          replace th10 := th10.step s11
          clear hL n0 n1 s11
          have HI : Hid (RiseI w W11 Z11 g gp gl gt (k + 1) D3 x0 z s true) := hide
            ⟨C, P, la10, th10, hord, hbase, F3.size.trans g1, F3.n.trans g2, F3.left, by have := F3.len; omega, F3.wait.trans g4,
              by rw [F3.at_, e0]; exact q0, by rw [F3.at_, e0]; exact q1, by rw [F3.at_, e1]; exact y0, by rw [F3.at_, e1]; exact y1,
              q4, (fun h => by cases h), q6, hz.1⟩
          have n0 : W11.cell? ⟨gl, 0, none⟩ = some (.int .u64 x0) := cell_of_row W11 gl 0 _ _ _ la10.1
          have n1 : W11.cell? ⟨gl, 1, none⟩ = some (.int .u64 z) := cell_of_row W11 gl 1 _ _ _ la10.1
          have n2 : W11.cell? ⟨gt, 0, none⟩ = some (.bool s) := cell_of_row W11 gt 0 _ _ _ th10.1
          have n3 : W11.cell? ⟨gt, 1, none⟩ = some (.bool true) := cell_of_row W11 gt 1 _ _ _ th10.1
          clear C P la10 th10 e0 e1 y0 y1 q0 q1 q2 q3 F3 g1 g2 g3 g4 g5 g6
          cases s with
          | false =>
            have hE : X = z := by have := hX.out; have := q4 rfl; omega
            subst hE
            clear hX q4 q5
            go_wp2_with fail
            go_roundw
            case rel => exact ⟨k + 1, Z11, D3, _, _, _, _, by omega, by go_num, HI.out⟩
            case measure => simp [intOf]; omega
          | true =>
            by_cases hc : x0 < z
            · have hE : X = z := by have := hX.out; omega
              subst hE
              clear hX q4 q5
              go_wp2_with fail
              go_roundw
              case rel => exact ⟨k + 1, Z11, D3, _, _, _, _, by omega, by go_num, HI.out⟩
              case measure => simp [intOf]; omega
            · have hE : X = x0 := by have := hX.out; omega
              subst hE
              clear hX q4 q5
              go_wp2_with fail
              go_roundw
              case rel => exact ⟨k + 1, Z11, D3, _, _, _, _, by omega, by go_num, HI.out⟩
              case measure => simp [intOf]; omega
      · have h2b : ¬ (k : Int) < 20 := by omega
        go_wp2_with fail
        refine (awake_any wr (hq.below hI.cl.bel hq.lt)).mono ?_
        rintro e w1 ⟨rfl, b1⟩
        have hb1 := hI.cl.bel.trans (b1.mono hI.cl.bel.size)
        go_wp2_with fail
        go_ret
        exact ⟨rfl, hb1⟩
    · have h1b : ¬ (k : Int) < (len : Int) := by omega
      go_wp2_with fail
      refine (awake_any wr (hq.below hI.cl.bel hq.lt)).mono ?_
      rintro e w1 ⟨rfl, b1⟩
      have hb1 := hI.cl.bel.trans (b1.mono hI.cl.bel.size)
      go_wp2_with fail
      go_ret
      exact ⟨rfl, hb1⟩
#print axioms suprRises_walk
end Go.Proofs.YthiinflodgjdjaaDoor
