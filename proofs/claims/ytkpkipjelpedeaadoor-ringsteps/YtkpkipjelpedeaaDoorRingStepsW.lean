
/- The law RingSteps answers true for every size and every row of recs (none longer than what memory can hold), wherever quar.rounds reads as its text says; nothing that was there is turned. -/
import Derived.Test.YtkpkipjelpedeaaDoorRAwake
import Derived.Test.YtkpkipjelpedeaaDoorXRing
import Derived.Test.YtkpkipjelpedeaaDoorREval
namespace Go.Proofs.YtkpkipjelpedeaaDoor
open Go.RowKit
set_option maxRecDepth 20000

def keyS : List Int := 6 :: zL 31
theorem keyS_bytes : IsBytes keyS := bytes_lit (by kernel_rfl)
theorem keyS_length : keyS.length = 32 := by kernel_rfl

/-- What a round finds. -/
structure StepI (w wr : World) (Z : Own) (g gp gr sz n : Nat) (D : DS) (rs : List (List Int)) : Prop where
  cl : Cl w wr Z g D
  pn : Pn w Z wr gp g keyS 1 (n : Int)
  rg : Rg w Z wr gr gp ((5 : Nat) : Int) (sz : Int) 1 (n : Int)
  size : D.size = 60
  nb : D.n = 20
  left : D.left = -1
  wait : D.wait = []
  len : D.tr.length = 2 * n
  log : Logd keyS D 5 sz 1 rs
  num : rs.length = n

set_option maxRecDepth 100000 in
set_option maxHeartbeats 16000000 in
theorem ringSteps_walk {a : Option Addr} {len cap : Nat} {xs : Nat → BV} (size : Int) (w : World) (hl : BBs w a len cap xs) (hx : ∀ i, i < len → (xs i).len ≤ 140737488351232) (hq : Glob w) :
    Calls Tryd.prog 3 #[.int .i64 size, .slice a len cap] w fun e w' => e = .returned (.bool true) ∧ Below w.heap.size w w' := by
  have hlc := hl.le_cap
  have hcm := hl.cap_le
  obtain ⟨sz, hsz, hsz7⟩ : ∃ sz : Nat, bits .and .i64 size 7 = (sz : Int) ∧ sz ≤ 7 := ⟨(size % 8).toNat, by rw [i64_and7]; omega, by omega⟩
  go_enter Tryd.func3, Tryd.ntmps3
  go_wp2_with fail
  refine (new_any 20 60 20 60 rfl rfl w).mono ?_
  rintro e W ⟨g, Z, rfl, hD, hF, hB⟩
  have C : Cl w W Z g (DS.new 20 60) := ⟨hD, hF, hB⟩
  clear hD hF hB
  go_wp2_with (refine wpList_build_is rfl 27 _ rfl (bV keyS) (by kernel_rfl) ?_)
  refine (pen_new C keyS_bytes keyS_length (boot := 1) (by omega)).mono ?_
  rintro e W1 ⟨gp, rfl, -, P, b1⟩
  replace C := C.below b1
  clear b1
  go_wp2_with fail
  refine (rnew_at C gp 5 (sz : Int) 5 sz rfl (by omega)).mono ?_
  rintro e W2 ⟨gr, rfl, hr, R, b2⟩
  have hne : gr ≠ gp := by have := P.lt; omega
  replace C := C.below b2
  replace P := P.below b2
  clear b2 hr
  have hS := hide (rstart_at R 1)
  go_wp2_with fail
  refine hS.out.mono ?_
  rintro e W3 ⟨rfl, R3, o3⟩
  have C3 := C.only o3 R.has.2 R.frm
  have P3 : Pn w Z W3 gp g keyS 1 ((0 : Nat) : Int) := P.only o3 (Ne.symm hne)
  clear hS o3 C P R
  have HI0 : Hid (StepI w W3 Z g gp gr sz 0 (DS.new 20 60) []) := hide
    ⟨C3, P3, R3, rfl, rfl, rfl, rfl, rfl, Logd.start fun j _ => by
      rw [txt_closed (by rw [new_at]; exact blankR)]
      exact okR_nil _ _, rfl⟩
  clear C3 P3 R3
  have HL := hide hl
  have HX := hide hx
  clear hl hx hsz
  go_wp2_with fail
  go_loopw [8, 9] (fun v8 v9 wr => ∃ (n i : Nat) (Z1 : Own) (D : DS) (rs : List (List Int)), n ≤ sz ∧ i ≤ 12 ∧ v8 = .int .i64 (n : Int) ∧ v9 = .int .i64 (i : Int) ∧ StepI w wr Z1 g gp gr sz n D rs) (fun _ v9 _ => 12 - (intOf v9).toNat)
  case atStart => exact ⟨0, 0, Z, _, [], Nat.zero_le _, by omega, rfl, rfl, HI0.out⟩
  case round =>
    clear HI0
    obtain ⟨n, i, Z1, D, rs, hn, hi12, rfl, rfl, hI⟩ := hrel
    by_cases h1 : i < len ∧ i < 12
    · obtain ⟨h1, h2⟩ := h1
      obtain ⟨⟨tb, toff, rfl, hcw⟩, hBx⟩ := HL.out.item i h1
      have hlx := HX.out i h1
      have htb := World.block_lt_of_cell? w _ hcw
      generalize xs i = x at *
      obtain ⟨xa, xl, xc, xz⟩ := x
      simp only [BV.v] at hcw hBx hlx
      have d1 := hI.size
      have d2 := hI.nb
      have d3 := hI.left
      have d4 := hI.wait
      have d5 := hI.len
      have d6 := hI.num
      have HLog := hide hI.log
      have P := hI.pn
      have R := hI.rg
      obtain ⟨T, hT⟩ : ∃ T, D.tr.length = T := ⟨_, rfl⟩
      rw [hT] at d5
      have HT := hide d5
      replace d5 : T ≤ 14 := by omega
      have hTr := hide (hI.cl.trace (by omega) T 60 hT d1)
      clear hI
      go_wp2_with fail
      refine hTr.out.mono ?_
      rintro e W4 ⟨rfl, -, C, b4⟩
      replace P := P.below b4
      replace R := R.below b4
      clear hTr b4
      have cl4 : W4.cell? ⟨tb, toff + i, none⟩ = some (.slice xa xl xc) := (C.bel.cell htb).trans hcw
      have hB4 := hBx.below C.bel
      have hxl := hBx.length
      by_cases hns : n < sz
      · by_cases hx26 : xl ≤ 26
        · have hA := hide (radd_at C P R hne hq d3 (by omega) (by rw [d4]; decide) (by omega) (by omega) (by omega) (by omega) (by omega) (by omega) hB4 38 d1 (by omega))
          clear C P R
          go_wp2_with fail
          refine hA.out.mono ?_
          rintro e W5 ⟨Z5, D1, rfl, S1, C5, P5, R5, s5⟩
          clear s5
          have q1 := S1.size.trans d1
          have q2 := S1.n.trans d2
          have q3 := S1.left
          have q4 := S1.wait
          have q5 : D1.tr.length = T + 2 := by rw [S1.len, hT]
          obtain ⟨bv, hev⟩ := S1.ev

          clear hA
          obtain ⟨l6, hl6⟩ : ∃ l6, Hid (D1.tr.drop T = l6) := ⟨_, hide rfl⟩
          have hSi := hide (since_any C5 T 2 (by omega) (by omega) l6 hl6.out)
          clear C5
          go_wp2_with fail
          refine hSi.out.mono ?_
          rintro e W6 ⟨a6, rfl, F6, C6, b6⟩
          have P6 := P5.below b6
          have R6 := R5.below b6
          have cl6 : W6.cell? ⟨tb, toff + i, none⟩ = some (.slice xa xl xc) := (C6.bel.cell htb).trans hcw
          clear hSi b6 P5 R5

          have hl7 : l6 = [⟨2, ((5 + n : Nat) : Int), sealL keyS 1 (n : Int) (headR 1 (n : Int) ++ xz) 38, bv⟩, ⟨3, 0, [], BV.nil⟩] := by rw [← hl6.out, hev, List.drop_left' hT]
          obtain ⟨te, o, rfl, hte, c1, c2⟩ := F6.ev 0 _ (by rw [hl7]; rfl)
          obtain ⟨te', o', e2, -, c3, -⟩ := F6.ev 1 _ (by rw [hl7]; rfl)
          cases e2
          have c2' : W6.cell? ⟨te, o + 1, none⟩ = some (.int .i64 (5 + (n : Int))) := by
            have := c2
            rw [show o + 0 * 15 + 1 = o + 1 by omega] at this
            rw [this, show ((5 + n : Nat) : Int) = 5 + (n : Int) by omega]
          have c1' : W6.cell? ⟨te, o, none⟩ = some (.int .i64 2) := by rwa [show o + 0 * 15 = o by omega] at c1
          have c3' : W6.cell? ⟨te, o + 15, none⟩ = some (.int .i64 3) := by rwa [show o + 1 * 15 = o + 15 by omega] at c3
          have hw1 : IntKind.i64.wrap (5 + (n : Int)) = 5 + (n : Int) := by rw [IntKind.wrap_i64]; omega
          have hw2 : IntKind.i64.wrap ((n : Int) + 1) = (n : Int) + 1 := by rw [IntKind.wrap_i64]; omega
          have hlg := HLog.out.add (r := xz) (m := 38) (bt := 1) (sq := (n : Int)) (by omega) (by rw [d6]; exact S1) (by omega) (by omega) hBx.bytes (by omega) (by omega)
          have HI : Hid (StepI w W6 Z5 g gp gr sz (n + 1) D1 (rs ++ [xz])) := hide ⟨C6, by rw [show ((n + 1 : Nat) : Int) = (n : Int) + 1 by omega]; exact P6, R6, q1, q2, q3, q4, by have := HT.out; omega, hlg, by rw [List.length_append, d6]; rfl⟩
          clear hlg HLog C6 P6 R6 F6 S1 q1 q2 q3 q4 q5 hev hl6 hl7 c1 c2 c3 hT d1 d2 d3 d4 d5 d6 hB4 hBx hcw htb hxl
          go_wp2_with fail
          go_roundw
          case rel => exact ⟨n + 1, i + 1, Z5, _, _, by omega, by omega, by go_num, by go_num, HI.out⟩
          case measure => simp [intOf]; omega
        · have hx27 : ¬ (xl : Int) ≤ 26 := by omega
          have hA := hide (add_big C P R (by omega) (by omega) (by omega) hB4 hlx (by rw [d1]; omega))
          go_wp2_with fail
          refine hA.out.mono ?_
          rintro e W5 ⟨rfl, b5⟩
          have C5 := C.below b5
          have P5 := P.below b5
          have R5 := R.below b5
          clear C P R b5

          clear hA
          obtain ⟨l6, hl6⟩ : ∃ l6, Hid (D.tr.drop T = l6) := ⟨_, hide rfl⟩
          have hSi := hide (since_any C5 T 0 (by omega) (by omega) l6 hl6.out)
          clear C5
          go_wp2_with fail
          refine hSi.out.mono ?_
          rintro e W6 ⟨a6, rfl, F6, C6, b6⟩
          have P6 := P5.below b6
          have R6 := R5.below b6
          have cl6 : W6.cell? ⟨tb, toff + i, none⟩ = some (.slice xa xl xc) := (C6.bel.cell htb).trans hcw
          clear hSi b6 P5 R5

          have hl7 : l6 = [] := by rw [← hl6.out, ← hT, List.drop_length]
          have HI : Hid (StepI w W6 Z1 g gp gr sz n D rs) := hide ⟨C6, P6, R6, d1, d2, d3, d4, hT.trans HT.out, HLog.out, d6⟩
          clear HLog C6 P6 R6 F6 hl6 hl7 hT d1 d2 d3 d4 d5 d6 hB4 hBx hcw htb hxl
          go_wp2_with fail
          go_roundw
          case rel => exact ⟨n, i + 1, Z1, _, _, by omega, by omega, rfl, by go_num, HI.out⟩
          case measure => simp [intOf]; omega
      · have hns2 : ¬ (n : Int) < (sz : Int) := by omega
        have hA := hide (add_full R (by omega) (.slice xa xl xc))
        go_wp2_with fail
        refine hA.out.mono ?_
        rintro e W5 ⟨rfl, b5⟩
        have C5 := C.below b5
        have P5 := P.below b5
        have R5 := R.below b5
        clear C P R b5

        clear hA
        obtain ⟨l6, hl6⟩ : ∃ l6, Hid (D.tr.drop T = l6) := ⟨_, hide rfl⟩
        have hSi := hide (since_any C5 T 0 (by omega) (by omega) l6 hl6.out)
        clear C5
        go_wp2_with fail
        refine hSi.out.mono ?_
        rintro e W6 ⟨a6, rfl, F6, C6, b6⟩
        have P6 := P5.below b6
        have R6 := R5.below b6
        have cl6 : W6.cell? ⟨tb, toff + i, none⟩ = some (.slice xa xl xc) := (C6.bel.cell htb).trans hcw
        clear hSi b6 P5 R5

        have hl7 : l6 = [] := by rw [← hl6.out, ← hT, List.drop_length]
        have HI : Hid (StepI w W6 Z1 g gp gr sz n D rs) := hide ⟨C6, P6, R6, d1, d2, d3, d4, hT.trans HT.out, HLog.out, d6⟩
        clear HLog C6 P6 R6 F6 hl6 hl7 hT d1 d2 d3 d4 d5 d6 hB4 hBx hcw htb hxl
        go_wp2_with fail
        go_roundw
        case rel => exact ⟨n, i + 1, Z1, _, _, by omega, by omega, rfl, by go_num, HI.out⟩
        case measure => simp [intOf]; omega
    · by_cases h1b : i < len
      · have h2b : ¬ (i : Int) < 12 := by omega
        have d1 := hI.size
        have d2 := hI.nb
        have d3 := hI.left
        have d5 := hI.len
        have d6 := hI.num
        have hld := hI.log.load
        have P := hI.pn
        have R := hI.rg
        obtain ⟨T, hT⟩ : ∃ T, D.tr.length = T := ⟨_, rfl⟩
        rw [hT] at d5
        replace d5 : T ≤ 14 := by omega
        have hTr := hide (hI.cl.trace (by omega) T 60 hT d1)
        clear hI HL HX
        go_wp2_with fail
        refine hTr.out.mono ?_
        rintro e W4 ⟨rfl, -, C, b4⟩
        replace P := P.below b4
        replace R := R.below b4
        clear hTr b4
        have hA := hide (rload_at C P R hne hq d3 (by omega) (by omega) (by omega) (by omega) 1 (by omega) rs hld n d6)
        clear C P R hld
        go_wp2_with fail
        refine hA.out.mono ?_
        rintro e W5 ⟨Z5, D5, a5, c5, l5, rfl, S5, -, -, C5, P5, R5, s5⟩
        clear hA s5 P5
        have k1 : D5.tr.length = T + sz := by rw [S5.len, hT]
        obtain ⟨le, e1, e2, e3⟩ := S5.tr
        have hdr : D5.tr.drop T = le := by rw [e1, List.drop_left' hT]
        have hSi := hide (since_any C5 T sz (by omega) (by omega) le hdr)
        clear C5 S5 e1 hdr
        go_wp2_with fail
        refine hSi.out.mono ?_
        rintro e W6 ⟨a6, rfl, F6, C6, b6⟩
        have R6 := R5.below b6
        have hRl := hide (ring_len R6)
        have hbel := C6.bel
        clear hSi b6 R5 R6 C6 k1 hT d5
        go_wp2_with fail
        refine hRl.out.mono ?_
        rintro e W7 ⟨rfl, rfl⟩
        clear hRl
        go_wp2_with fail
        go_loop [15] (fun v15 => ∃ j : Nat, j ≤ sz ∧ v15 = .int .i64 (j : Int)) (fun v15 => sz - (intOf v15).toNat)
        case atStart => exact ⟨0, Nat.zero_le _, rfl⟩
        case round =>
          obtain ⟨j, hj, rfl⟩ := hrel
          by_cases hjs : j < sz
          · obtain ⟨ev, m1, m2, m3⟩ := e3 j hjs
            obtain ⟨te, o, rfl, hte, c1, c2⟩ := F6.ev j ev m1
            rw [m2] at c1
            rw [m3] at c2
            have hw1 : IntKind.i64.wrap (5 + (j : Int)) = 5 + (j : Int) := by rw [IntKind.wrap_i64]; omega
            have c2' : W6.cell? ⟨te, o + j * 15 + 1, none⟩ = some (.int .i64 (5 + (j : Int))) := c2
            clear c2 m1 m2 m3
            go_wp2_with fail
            go_round
            case rel => exact ⟨j + 1, by omega, by go_num⟩
            case measure => simp [intOf]; omega
          · have hjs2 : ¬ (j : Int) < (sz : Int) := by omega
            go_wp2_with fail
            refine (awake_any W6 (hq.below hbel hq.lt)).mono ?_
            rintro e w1 ⟨rfl, b1⟩
            have hb1 := hbel.trans (b1.mono hbel.size)
            go_wp2_with fail
            go_ret
            exact ⟨rfl, hb1⟩
      · have h1c : ¬ (i : Int) < (len : Int) := by omega
        have d1 := hI.size
        have d2 := hI.nb
        have d3 := hI.left
        have d5 := hI.len
        have d6 := hI.num
        have hld := hI.log.load
        have P := hI.pn
        have R := hI.rg
        obtain ⟨T, hT⟩ : ∃ T, D.tr.length = T := ⟨_, rfl⟩
        rw [hT] at d5
        replace d5 : T ≤ 14 := by omega
        have hTr := hide (hI.cl.trace (by omega) T 60 hT d1)
        clear hI HL HX
        go_wp2_with fail
        refine hTr.out.mono ?_
        rintro e W4 ⟨rfl, -, C, b4⟩
        replace P := P.below b4
        replace R := R.below b4
        clear hTr b4
        have hA := hide (rload_at C P R hne hq d3 (by omega) (by omega) (by omega) (by omega) 1 (by omega) rs hld n d6)
        clear C P R hld
        go_wp2_with fail
        refine hA.out.mono ?_
        rintro e W5 ⟨Z5, D5, a5, c5, l5, rfl, S5, -, -, C5, P5, R5, s5⟩
        clear hA s5 P5
        have k1 : D5.tr.length = T + sz := by rw [S5.len, hT]
        obtain ⟨le, e1, e2, e3⟩ := S5.tr
        have hdr : D5.tr.drop T = le := by rw [e1, List.drop_left' hT]
        have hSi := hide (since_any C5 T sz (by omega) (by omega) le hdr)
        clear C5 S5 e1 hdr
        go_wp2_with fail
        refine hSi.out.mono ?_
        rintro e W6 ⟨a6, rfl, F6, C6, b6⟩
        have R6 := R5.below b6
        have hRl := hide (ring_len R6)
        have hbel := C6.bel
        clear hSi b6 R5 R6 C6 k1 hT d5
        go_wp2_with fail
        refine hRl.out.mono ?_
        rintro e W7 ⟨rfl, rfl⟩
        clear hRl
        go_wp2_with fail
        go_loop [15] (fun v15 => ∃ j : Nat, j ≤ sz ∧ v15 = .int .i64 (j : Int)) (fun v15 => sz - (intOf v15).toNat)
        case atStart => exact ⟨0, Nat.zero_le _, rfl⟩
        case round =>
          obtain ⟨j, hj, rfl⟩ := hrel
          by_cases hjs : j < sz
          · obtain ⟨ev, m1, m2, m3⟩ := e3 j hjs
            obtain ⟨te, o, rfl, hte, c1, c2⟩ := F6.ev j ev m1
            rw [m2] at c1
            rw [m3] at c2
            have hw1 : IntKind.i64.wrap (5 + (j : Int)) = 5 + (j : Int) := by rw [IntKind.wrap_i64]; omega
            have c2' : W6.cell? ⟨te, o + j * 15 + 1, none⟩ = some (.int .i64 (5 + (j : Int))) := c2
            clear c2 m1 m2 m3
            go_wp2_with fail
            go_round
            case rel => exact ⟨j + 1, by omega, by go_num⟩
            case measure => simp [intOf]; omega
          · have hjs2 : ¬ (j : Int) < (sz : Int) := by omega
            go_wp2_with fail
            refine (awake_any W6 (hq.below hbel hq.lt)).mono ?_
            rintro e w1 ⟨rfl, b1⟩
            have hb1 := hbel.trans (b1.mono hbel.size)
            go_wp2_with fail
            go_ret
            exact ⟨rfl, hb1⟩
#print axioms ringSteps_walk
end Go.Proofs.YtkpkipjelpedeaaDoor
