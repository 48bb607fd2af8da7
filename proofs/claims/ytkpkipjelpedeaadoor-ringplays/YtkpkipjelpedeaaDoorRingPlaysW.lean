
/- The law RingPlays answers true for every key, size, row of epochs and row of recs (none longer than what memory can hold), wherever quar.rounds reads as its text says; nothing that was there is turned. -/
import Derived.Test.YtkpkipjelpedeaaDoorRAwake
import Derived.Test.YtkpkipjelpedeaaDoorRStale
namespace Go.Proofs.YtkpkipjelpedeaaDoor
open Go.RowKit
set_option maxRecDepth 20000

/-- An epoch is a number and four bits behind it. -/
theorem epoch_is (z : Int) (i : Nat) (hi : i < 12) : ∃ e, bits .or .u64 (IntKind.u64.wrap (z * 16)) (i : Int) = e ∧ (0 ≤ e ∧ e < 18446744073709551616) ∧ e % 16 = (i : Int) := by
  obtain ⟨q, hq⟩ : ∃ q : Nat, IntKind.u64.wrap (z * 16) = ((2 ^ 4 * q : Nat) : Int) ∧ q < 1152921504606846976 := ⟨(z % 1152921504606846976).toNat, by rw [wrap_u64]; omega, by omega⟩
  refine ⟨_, rfl, ?_⟩
  rw [u64_or _ _ (by rw [hq.1]; omega) (by rw [wrap_u64]; omega) (by omega) (by omega), hq.1, Int.toNat_natCast, Int.toNat_natCast, ← Nat.two_pow_add_eq_or_of_lt (by omega : i < 2 ^ 4)]
  omega

/-- What a round finds. -/
structure PlayI (w wr : World) (Z : Own) (key : List Int) (g gp gr sz i : Nat) (sq : Int) (D : DS) (e0 c0 : Int) : Prop where
  cl : Cl w wr Z g D
  pn : Pn w Z wr gp g key 1 sq
  rg : Rg w Z wr gr gp ((2 : Nat) : Int) (sz : Int) e0 c0
  size : D.size = 80
  nb : D.n = 8
  left : D.left = -1
  wait : D.wait = []
  len : D.tr.length ≤ 100 * i
  num : sq ≤ 100 * i
  stale : Stale key D 2 sz i
/-- What a round of the inner loop finds. -/
structure PlayJ (w wr : World) (Z : Own) (key : List Int) (base g gp gr sz i k : Nat) (sq : Int) (D : DS) (e : Int) (a : Option Addr) (n c : Nat) (l : List BV) : Prop where
  cl : Cl w wr Z g D
  pn : Pn w Z wr gp g key 1 sq
  rg : Rg w Z wr gr gp ((2 : Nat) : Int) (sz : Int) e (n : Int)
  size : D.size = 80
  nb : D.n = 8
  left : D.left = -1
  wait : D.wait = []
  len : D.tr.length ≤ 100 * i + 2 * k
  num : sq ≤ 100 * i + k
  stale : Stale key D 2 sz (i + 1)
  log : Logd key D 2 sz e (l.map BV.zs)
  row : Recs base Z wr a n c l
  old : ∀ x ∈ l, Bs w x.a x.len x.cap x.zs
  bw : base ≤ wr.heap.size

set_option maxRecDepth 100000 in
set_option maxHeartbeats 40000000 in
theorem ringPlays_walk (key : List Int) (size : Int) {b : Option Addr} {lb cb : Nat} {es : List Int} {a : Option Addr} {len cap : Nat} {xs : Nat → BV} (w : World) (hk : IsBytes key) (hkl : key.length = 32) (hb : Ns .u64 w b lb cb es) (hl : BBs w a len cap xs) (hx : ∀ i, i < len → (xs i).len ≤ 140737488351232) (hq : Glob w) :
    Calls Tryd.prog 5 #[.agg (bV key), .int .i64 size, .slice b lb cb, .slice a len cap] w fun e w' => e = .returned (.bool true) ∧ Below w.heap.size w w' := by
  have hlc := hl.le_cap
  have hcm := hl.cap_le
  have hlb := hb.le_cap
  have hcb := hb.cap_le
  obtain ⟨s0, hs0, hs3⟩ : ∃ s0 : Nat, bits .and .i64 size 3 = (s0 : Int) ∧ s0 ≤ 3 := ⟨(size % 4).toNat, by rw [i64_mask size 2 (by decide) 3 (by decide)]; omega, by omega⟩
  obtain ⟨sz, hsz, hsz4, hsz1⟩ : ∃ sz : Nat, IntKind.i64.wrap ((s0 : Int) + 1) = (sz : Int) ∧ sz ≤ 4 ∧ 1 ≤ sz := ⟨s0 + 1, by rw [IntKind.wrap_i64]; omega, by omega, by omega⟩
  have hS := KK.start w key hq
  have HB := hide hb
  have HL := hide hl
  have HX := hide hx
  clear hb hl hx
  go_enter Tryd.func5, Tryd.ntmps5
  go_wp2_with fail
  have hbw := hS.bel
  have kk0 := hS.kk
  generalize (w.alloc (Obj.cells (bV key) 27)) = W0 at *
  refine (new_any 8 80 8 80 rfl rfl W0).mono ?_
  rintro e W ⟨g, Z, rfl, hD, hF, hB⟩
  have C : Cl w W Z g (DS.new 8 80) := ⟨hD, fun k hk => Nat.le_trans hbw.size (hF k hk), hbw.trans (hB.mono hbw.size)⟩
  have kk : Has Z W w.heap.size (.cells (bV key) 27 (0, 0)) := ⟨(kk0.below hB : OwnB _ _ _ _), fun hs => by have := hF _ hs; have := kk0.lt; omega⟩
  clear hD hF hB hS kk0 hbw
  have kk1 := kk.1
  go_wp2_with (refine wpList_loadA arrT32 (by rfl) _ (by rfl) w.heap.size (by rfl) (bV key) kk1 (by rw [bV_size, hkl]) ?_)
  refine (pen_new C hk hkl (boot := 1) (by omega)).mono ?_
  rintro e W1 ⟨gp, rfl, hgp, P, b1⟩
  replace C := C.below b1
  replace kk := kk.below b1
  clear b1 kk1 hgp
  go_wp2_with fail
  refine (rnew_at C gp 2 (sz : Int) 2 sz rfl (by omega)).mono ?_
  rintro e W2 ⟨gr, rfl, hr, R, b2⟩
  have hne : gr ≠ gp := by have := P.lt; omega
  replace C := C.below b2
  replace P := P.below b2
  replace kk := kk.below b2
  have kk1 := kk.1
  clear b2 hr
  have hqW : Glob W2 := hq.below C.bel hq.lt
  have hA := hide (lblank_any key W2 hk hkl hqW)
  obtain ⟨B, hB⟩ : ∃ B, openB key (zL 80) = B := ⟨_, rfl⟩
  rw [hB] at hA
  cases B with
  | true =>
    go_wp2_with (refine wpList_loadA arrT32 (by rfl) _ (by rfl) w.heap.size (by rfl) (bV key) kk1 (by rw [bV_size, hkl]) ?_)
    refine hA.out.mono ?_
    rintro e W3 ⟨rfl, b3⟩
    have hb2 := C.bel.trans (b3.mono C.bel.size)
    go_wp2_with fail
    refine (awake_any W3 (hqW.below b3 hqW.lt)).mono ?_
    rintro e W4 ⟨rfl, b4⟩
    have hb3 := hb2.trans (b4.mono hb2.size)
    go_wp2_with fail
    go_ret
    exact ⟨rfl, hb3⟩
  | false =>
    go_wp2_with (refine wpList_loadA arrT32 (by rfl) _ (by rfl) w.heap.size (by rfl) (bV key) kk1 (by rw [bV_size, hkl]) ?_)
    refine hA.out.mono ?_
    rintro e W3 ⟨rfl, b3⟩
    replace C := C.below b3
    replace P := P.below b3
    replace R := R.below b3
    clear hA b3 hqW kk kk1 hs0 hsz hs3
    have HI0 : Hid (PlayI w W3 Z key g gp gr sz 0 0 (DS.new 8 80) 0 ((0 : Nat) : Int)) := hide
      ⟨C, P, R, rfl, rfl, rfl, rfl, Nat.le_refl _, Int.le_refl _, fun j _ => .inl (txt_closed (by rw [new_at]; exact hB))⟩
    clear C P R hB
    go_wp2_with fail
    go_loopw [12, 13] (fun v12 v13 wr => ∃ (t i : Nat) (Z1 : Own) (D : DS) (sq e0 c0 : Int), t ≤ len ∧ i ≤ 12 ∧ v12 = .int .i64 (t : Int) ∧ v13 = .int .i64 (i : Int) ∧ PlayI w wr Z1 key g gp gr sz i sq D e0 c0) (fun _ v13 _ => 12 - (intOf v13).toNat)
    case atStart => exact ⟨0, 0, Z, _, 0, 0, _, Nat.zero_le _, by omega, rfl, rfl, HI0.out⟩
    case round =>
      clear HI0
      obtain ⟨t, i, Z1, D, sq, e0, c0, ht, hi12, rfl, rfl, hI⟩ := hrel
      by_cases h1 : i < lb ∧ i < 12
      · obtain ⟨h1, h2⟩ := h1
        have hz := word_of_wf (HB.out.getD i h1)
        obtain ⟨tb, toff, rfl, hcw⟩ : ∃ tb toff, b = some ⟨tb, toff, none⟩ ∧ w.cell? ⟨tb, toff + i, none⟩ = some (.int .u64 (es.getD i 0)) := by
          rcases HB.out.place with h | ⟨tb, toff, e, hc⟩
          · omega
          · exact ⟨tb, toff, e, hc i h1⟩
        have htb := World.block_lt_of_cell? w _ hcw
        generalize es.getD i 0 = z at *
        have cl4 : wr.cell? ⟨tb, toff + i, none⟩ = some (.int .u64 z) := (hI.cl.bel.cell htb).trans hcw
        obtain ⟨e, he, he2, he3⟩ := epoch_is z i h2
        obtain ⟨K, hK, hK15⟩ : ∃ K : Nat, z / 1152921504606846976 = (K : Int) ∧ K ≤ 15 := ⟨(z / 1152921504606846976).toNat, by omega, by omega⟩
        have hS := hide (rstart_at hI.rg e)
        have HQ := hide (And.intro hI.size (And.intro hI.nb (And.intro hI.left (And.intro hI.wait (And.intro hI.len (And.intro hI.num hI.stale))))))
        have C := hI.cl
        have P := hI.pn
        have hrZ := hI.rg.has.2
        have hrf := hI.rg.frm
        clear hI hz
        go_wp2_with fail
        refine hS.out.mono ?_
        rintro ex W4 ⟨rfl, R4, o4⟩
        have C4 := C.only o4 hrZ hrf
        have P4 := P.only o4 (Ne.symm hne)
        clear hS o4 C P hrZ hrf cl4 he
        have cl4 : W4.cell? ⟨tb, toff + i, none⟩ = some (.int .u64 z) := (C4.bel.cell htb).trans hcw
        have hrb := R4.lt
        have hpb := P4.lt
        have hwb := C4.size
        have hrw := R4.frm
        have hpw := P4.frm
        have HJ0 : Hid (PlayJ w W4 Z1 key W4.heap.size g gp gr sz i 0 sq D e none 0 0 []) := hide (by
          obtain ⟨q1, q2, q3, q4, q5, q6, q7⟩ := HQ.out
          exact ⟨C4, P4, R4, q1, q2, q3, q4, by omega, by omega, q7.mono (by omega), q7.log he2 (by omega) (by omega), Recs.nil _ _ _, (fun _ h => by cases h), Nat.le_refl _⟩)
        clear HQ C4 P4 R4
        go_wp2_with fail
        clear cl4
        generalize hbase : W4.heap.size = base at *
        clear hbase
        go_loopw [12, 15, 16] (fun v12 v15 v16 wr => ∃ (t k n c : Nat) (a2 : Option Addr) (l : List BV) (Z2 : Own) (D2 : DS) (sq2 : Int), t ≤ len ∧ k ≤ 15 ∧ v12 = .int .i64 (t : Int) ∧ v15 = .slice a2 n c ∧ v16 = .int .i64 (k : Int) ∧ PlayJ w wr Z2 key base g gp gr sz i k sq2 D2 e a2 n c l) (fun _ _ v16 _ => 15 - (intOf v16).toNat)
        case atStart => exact ⟨t, 0, 0, 0, none, [], Z1, D, sq, ht, by omega, rfl, rfl, rfl, HJ0.out⟩
        case round =>
          clear HJ0
          obtain ⟨t2, k, n, c, a2, l, Z2, D2, sq2, ht2, hk15, rfl, rfl, rfl, hJ⟩ := hrel
          have cl4 : wr.cell? ⟨tb, toff + i, none⟩ = some (.int .u64 z) := (hJ.cl.bel.cell htb).trans hcw
          have hln : (l.map BV.zs).length = n := by rw [List.length_map, hJ.row.len]
          have hn4 : n ≤ sz := by rw [← hln]; exact hJ.log.le
          by_cases hka : k < K
          · by_cases hta : t2 < len
            · obtain ⟨⟨ub, uoff, hua, hcx⟩, hBx⟩ := HL.out.item t2 hta
              cases hua
              have hlx := HX.out t2 hta
              have hub := World.block_lt_of_cell? w _ hcx
              generalize xs t2 = x at *
              obtain ⟨xa, xl, xc, xz⟩ := x
              simp only [BV.v] at hcx hBx hlx
              have clx : wr.cell? ⟨ub, uoff + t2, none⟩ = some (.slice xa xl xc) := (hJ.cl.bel.cell hub).trans hcx
              have hxl := hBx.length
              have hB4 := hBx.below hJ.cl.bel
              have hold := hJ.old
              have HOld := hide hold
              have HQ := hide hJ
              have d1 := hJ.size
              have d3 := hJ.left
              have d4 := hJ.wait
              have d5 := hJ.len
              have d6 := hJ.num
              have C := hJ.cl
              have P := hJ.pn
              have R := hJ.rg
              clear hJ hold
              by_cases hx46 : xl ≤ 46
              · by_cases hns : n < sz
                · have hA := hide (radd_at C P R hne hq d3 (by omega) (by rw [d4]; decide) (by omega) he2 hns (by omega) (by omega) (by rw [HQ.out.nb]; omega) hB4 58 d1 (by omega))
                  clear C P R
                  go_wp2_with fail
                  refine hA.out.mono ?_
                  rintro ex W5 ⟨Z5, D3, rfl, S5, C5, P5, R5, s5⟩
                  have hJ := HQ.out
                  have row5 := hJ.row.beside2 s5 (hJ.row.low hpb) (fun y hy h0 p hp => by have := bs_old (HOld.out y hy) h0 hp; omega) (hJ.row.low hrb) (fun y hy h0 p hp => by have := bs_old (HOld.out y hy) h0 hp; omega)
                  have hb5 : base ≤ W5.heap.size := Nat.le_trans hJ.bw s5.size
                  have hxb : Bz Z5 W5 xa xl xc xz := C5.bz hBx
                  have hplace := row5.own.place
                  obtain ⟨a3, c3, W6, hr3, row6, b6, k6⟩ := row5.append ⟨xa, xl, xc, xz⟩ hxb (fun h0 p hp g' hg' => by
                    have h1 := bs_old (x := ⟨xa, xl, xc, xz⟩) hBx h0 hp
                    rcases hplace with h2 | ⟨g2, h2, h3, _⟩
                    · rw [h2] at hg'; cases hg'
                    · rw [h2] at hg'; cases hg'; omega) (by omega) hb5 C5.dk.lt 22
                  have hlw := C5.dk.lt
                  have hne2 : ∀ k, Z5.S k → W6.heap[k]? = W5.heap[k]? := fun k hs => k6 k (hlw k hs) (fun e' => row5.aside k e' hs)
                  have hlg := hJ.log.add (r := xz) (m := 58) (bt := 1) (sq := sq2) (by omega) (by rw [hln]; exact S5) (by omega) (by have := P5.sq; have := hJ.pn.sq; omega) hBx.bytes (by omega) (by omega)
                  have hst := hJ.stale.add S5 (by omega) (by have := hJ.pn.sq; omega) hBx.bytes (by omega) (by omega) he2 (by omega)
                  have HI : Hid (PlayJ w W6 Z5 key base g gp gr sz i (k + 1) (sq2 + 1) D3 e a3 (n + 1) c3 (l ++ [⟨xa, xl, xc, xz⟩])) := hide
                    ⟨C5.keep hne2 (b6.mono hwb), ⟨P5.at_.keep (b6.block _ hpb), P5.frm, P5.kb, P5.kl, P5.bt, P5.sq⟩, ⟨R5.has.keep (b6.block _ hrb), R5.frm⟩, S5.size.trans d1, S5.n.trans hJ.nb, S5.left, S5.wait, by rw [S5.len]; omega, by omega, hst, by rw [List.map_append]; exact hlg, row6, fun y hy => by
                      rcases List.mem_append.1 hy with hy | hy
                      · exact HOld.out y hy
                      · rw [List.mem_singleton] at hy; subst hy; exact hBx, by have := b6.size; omega⟩
                  clear hA HQ HOld hJ S5 C5 P5 R5 s5 row5 row6 b6 k6 hne2 hlg hst hxb hB4 hBx hplace hlw hb5 hln
                  go_wp2_with (at_builtin; refine wpList_append_run (by rfl) (.tmp 103) (.tmp 105) 22 (by rfl) _ _ _ _ (by rfl) (by rfl) hr3 ?_)
                  go_roundw
                  case rel => exact ⟨t2 + 1, k + 1, n + 1, c3, a3, _, _, _, _, by omega, by omega, by go_num, rfl, by go_num, HI.out⟩
                  case measure => simp [intOf]; omega
                · have hns2 : ¬ (n : Int) < (sz : Int) := by omega
                  have hA := hide (add_full R (by omega) (.slice xa xl xc))
                  clear C P R
                  go_wp2_with fail
                  refine hA.out.mono ?_
                  rintro ex W5 ⟨rfl, b5⟩
                  have hJ := HQ.out
                  have HI : Hid (PlayJ w W5 Z2 key base g gp gr sz i (k + 1) sq2 D2 e a2 n c l) := hide
                    ⟨hJ.cl.below b5, hJ.pn.below b5, hJ.rg.below b5, d1, hJ.nb, d3, d4, by omega, by omega, hJ.stale, hJ.log, hJ.row.below b5, HOld.out, by have := b5.size; have := hJ.bw; omega⟩
                  clear hA HQ HOld hJ b5 hB4 hBx hln
                  go_wp2_with fail
                  go_roundw
                  case rel => exact ⟨t2 + 1, k + 1, n, c, a2, l, _, _, _, by omega, by omega, by go_num, rfl, by go_num, HI.out⟩
                  case measure => simp [intOf]; omega
              · have hx47 : ¬ (xl : Int) ≤ 46 := by omega
                by_cases hns : n < sz
                · have hA := hide (add_big C P R he2 (by omega) (by omega) hB4 hlx (by rw [d1]; omega))
                  clear C P R
                  go_wp2_with fail
                  refine hA.out.mono ?_
                  rintro ex W5 ⟨rfl, b5⟩
                  have hJ := HQ.out
                  have HI : Hid (PlayJ w W5 Z2 key base g gp gr sz i (k + 1) sq2 D2 e a2 n c l) := hide
                    ⟨hJ.cl.below b5, hJ.pn.below b5, hJ.rg.below b5, d1, hJ.nb, d3, d4, by omega, by omega, hJ.stale, hJ.log, hJ.row.below b5, HOld.out, by have := b5.size; have := hJ.bw; omega⟩
                  clear hA HQ HOld hJ b5 hB4 hBx hln
                  go_wp2_with fail
                  go_roundw
                  case rel => exact ⟨t2 + 1, k + 1, n, c, a2, l, _, _, _, by omega, by omega, by go_num, rfl, by go_num, HI.out⟩
                  case measure => simp [intOf]; omega
                · have hA := hide (add_full R (by omega) (.slice xa xl xc))
                  clear C P R
                  go_wp2_with fail
                  refine hA.out.mono ?_
                  rintro ex W5 ⟨rfl, b5⟩
                  have hJ := HQ.out
                  have HI : Hid (PlayJ w W5 Z2 key base g gp gr sz i (k + 1) sq2 D2 e a2 n c l) := hide
                    ⟨hJ.cl.below b5, hJ.pn.below b5, hJ.rg.below b5, d1, hJ.nb, d3, d4, by omega, by omega, hJ.stale, hJ.log, hJ.row.below b5, HOld.out, by have := b5.size; have := hJ.bw; omega⟩
                  clear hA HQ HOld hJ b5 hB4 hBx hln
                  go_wp2_with fail
                  go_roundw
                  case rel => exact ⟨t2 + 1, k + 1, n, c, a2, l, _, _, _, by omega, by omega, by go_num, rfl, by go_num, HI.out⟩
                  case measure => simp [intOf]; omega
            · have hta2 : ¬ (t2 : Int) < (len : Int) := by omega
              have hRl := hide (ring_len hJ.rg)
              go_wp2_with fail
              refine hRl.out.mono ?_
              rintro ex W5 ⟨rfl, rfl⟩
              clear hRl
              have hNo := hide (rnew_at hJ.cl gp 2 (sz : Int) 2 sz rfl (by omega))
              go_wp2_with fail
              refine hNo.out.mono ?_
              rintro ex W5 ⟨go, rfl, hgo, O5, b5⟩
              have hop : go ≠ gp := by have := hJ.pn.lt; omega
              have hor : go ≠ gr := by have := hJ.rg.lt; omega
              have C5 := hJ.cl.below b5
              have P5 := hJ.pn.below b5
              have R5 := hJ.rg.below b5
              have row5 := hJ.row.below b5
              have HOld := hide hJ.old
              have hgrow := hJ.row.high hgo
              have q1 := hJ.size
              have q2 := hJ.nb
              have q3 := hJ.left
              have q4 := hJ.wait
              have q5 := hJ.len
              have q6 := hJ.num
              have hlg5 := hJ.log
              have hst5 := hJ.stale
              have hA := hide (rload_at C5 P5 O5 hop hq q3 (by omega) (by omega) (by omega) (by rw [q2]; omega) e he2 _ hlg5.load n hln)
              have hgw : w.heap.size ≤ go := Nat.le_trans hJ.cl.size hgo
              clear hNo hJ C5 P5 O5 b5 hgo
              go_wp2_with fail
              refine hA.out.mono ?_
              rintro ex W6 ⟨Z6, D6, a6, c6, l6, rfl, S6, hl6, row6, C6, P6, O6, s6⟩
              have R6 := R5.beside s6 hor.symm
              have rowh := row5.beside s6 hgrow (fun y hy h0 p hp => by have := bs_old (HOld.out y hy) h0 hp; omega)
              have hlg6 := hlg5.same S6.at_
              have hst6 := hst5.same S6.at_
              replace q1 := S6.size.trans q1
              replace q2 := S6.n.trans q2
              replace q3 := S6.left
              replace q4 := S6.wait.trans q4
              replace q5 : D6.tr.length ≤ 100 * i + 2 * k + 4 := by rw [S6.len]; omega
              have hOl := hide (ring_len O6)
              have HR := hide (And.intro row6 (And.intro rowh hl6))
              have HS := hide (And.intro C6 (And.intro P6 (And.intro R6 (And.intro O6 (And.intro hlg6 hst6)))))
              clear hA R5 row5 hgrow S6 s6 hlg5 hst5 row6 rowh hl6 C6 P6 R6 O6 hlg6 hst6 HOld
              go_wp2_with fail
              refine hOl.out.mono ?_
              rintro ex W7 ⟨rfl, rfl⟩
              clear hOl
              go_wp2_with fail
              go_loopw [21] (fun v21 wr => ∃ j : Nat, j ≤ n ∧ v21 = .int .i64 (j : Int) ∧ Below W6.heap.size W6 wr) (fun v21 _ => n - (intOf v21).toNat)
              case atStart => exact ⟨0, Nat.zero_le _, rfl, Below.refl _ _⟩
              case round =>
                obtain ⟨j, hjn, rfl, hbj⟩ := hrel
                by_cases hjl : j < n
                · obtain ⟨r1, r2, r3⟩ := HR.out
                  obtain ⟨g1, x1, rfl, m1, cc1, B1⟩ := r1.bs j hjl
                  obtain ⟨g2, x2, rfl, m2, cc2, B2⟩ := r2.bs j hjl
                  have hzz : x1.zs = x2.zs := by
                    have h1 := congrArg (fun l => l[j]?) r3
                    simpa [m1, m2] using h1
                  obtain ⟨y1, n1, d1, z1⟩ := x1
                  obtain ⟨y2, n2, d2, z2⟩ := x2
                  simp only at hzz
                  subst hzz
                  have e1 := keep_cell cc1 hbj
                  have e2 := keep_cell cc2 hbj
                  have B1' := B1.bs.below hbj
                  have B2' := B2.bs.below hbj
                  clear r1 r2 r3 m1 m2 cc1 cc2 B1 B2
                  go_wp2_with fail
                  refine wp_region_rel Kept [0, 1, 2, 3, 4, 5, 6, 7, 8, 9, 10] (by kernel_rfl) (by kernel_rfl) (by kernel_rfl) Kept.refl Kept.trans ?_
                  replace e1 : wr.drew.cell? _ = _ := e1
                  replace e2 : wr.drew.cell? _ = _ := e2
                  replace B1' := B1'.below (Below.refl _ wr).drew
                  replace B2' := B2'.below (Below.refl _ wr).drew
                  replace hbj := hbj.drew
                  generalize wr.drew = wd at *
                  obtain ⟨S1, hS1⟩ : ∃ S1, strOfNums z1 = S1 := ⟨_, rfl⟩
                  have T1 : ∀ w', Kept wd w' → (convert 36 9 (.slice y1 n1 d1)).run Tryd.prog w' = .ok (.string S1) w' := fun w' hR => by rw [← hS1]; exact str_bytes (B1'.below hR)
                  have T2 : ∀ w', Kept wd w' → (convert 36 9 (.slice y2 n2 d2)).run Tryd.prog w' = .ok (.string S1) w' := fun w' hR => by rw [← hS1]; exact str_bytes (B2'.below hR)
                  repeat' (first
                    | (refine wpRel_quiet (v := ?_) rfl rfl (fun _ _ _ h => h) (by rfl) ?_ ?_
                       rotate_left
                       · (intro w' hR; have i1 := keep_cell e1 hR; have i2 := keep_cell e2 hR; have t1 := T1 _ hR; have t2 := T2 _ hR; go_simp; try rfl)
                       simp only [Act.put, List.setIfInBounds_toArray, List.set_cons_zero, List.set_cons_succ])
                    | fail)
                  refine wpRel_nil ?_
                  clear e1 e2 B1' B2' T1 T2 hS1
                  go_wp2_with fail
                  go_roundw
                  case rel => exact ⟨j + 1, by omega, by go_num, hbj⟩
                  case measure => simp [intOf]; omega
                · have hjl2 : ¬ (j : Int) < (n : Int) := by omega
                  obtain ⟨C6, P6, R6, O6, hlg6, hst6⟩ := HS.out
                  replace C6 := C6.below hbj
                  replace P6 := P6.below hbj
                  replace R6 := R6.below hbj
                  replace O6 := O6.below hbj
                  clear HS HR hbj hjl
                  generalize wr = W6 at *
                  by_cases hns : n < sz
                  · have hns2 : (n : Int) < (sz : Int) := by omega
                    go_wp2_with fail
                    rw [conv_bytes]
                    have hLm : Bs (W6.alloc (Obj.cells #[Value.int IntKind.u8 109, Value.int IntKind.u8 111, Value.int IntKind.u8 114, Value.int IntKind.u8 101] 5 (4, 5))) (some ⟨W6.heap.size, 0, none⟩) 4 4 [109, 111, 114, 101] := Bs.lit rfl rfl (bytes_lit rfl) rfl (by omega)
                    have b7 := below_alloc (Below.refl W6.heap.size W6) (Obj.cells #[Value.int IntKind.u8 109, Value.int IntKind.u8 111, Value.int IntKind.u8 114, Value.int IntKind.u8 101] 5 (4, 5))
                    replace C6 := C6.below b7
                    replace P6 := P6.below b7
                    replace R6 := R6.below b7
                    replace O6 := O6.below b7
                    clear b7
                    generalize (W6.alloc (Obj.cells #[Value.int IntKind.u8 109, Value.int IntKind.u8 111, Value.int IntKind.u8 114, Value.int IntKind.u8 101] 5 (4, 5))) = W7 at *
                    have hsq := P6.sq
                    have hA := hide (radd_at C6 P6 O6 hop hq q3 (by omega) (by rw [q4]; decide) (by omega) he2 hns (by omega) (by omega) (by rw [q2]; omega) hLm 58 q1 (by omega))
                    clear C6 P6 O6 hLm
                    go_wp2_with fail
                    refine hA.out.mono ?_
                    rintro ex W9 ⟨Z9, D9, rfl, S9, C9, P9, O9, s9⟩
                    have R9 := R6.beside2 s9 hne hor.symm
                    have hlg9 := hlg6.add (r := [109, 111, 114, 101]) (m := 58) (bt := 1) (sq := sq2) (by omega) (by rw [hln]; exact S9) (by omega) (by omega) (bytes_lit rfl) (by decide) (by omega)
                    have hst9 := hst6.add S9 (by omega) (by omega) (bytes_lit rfl) (by decide) (by omega) he2 (by omega)
                    have hlen9 : 0 < (l.map BV.zs ++ [[109, 111, 114, 101]]).length := by simp
                    replace q1 := S9.size.trans q1
                    replace q2 := S9.n.trans q2
                    replace q3 := S9.left
                    replace q4 := S9.wait
                    replace q5 : D9.tr.length ≤ 100 * i + 2 * k + 8 := by rw [S9.len]; omega
                    have hO9 := hide (ring_len O9)
                    have hw1 : IntKind.i64.wrap ((n : Int) + 1) = ((n + 1 : Nat) : Int) := by rw [IntKind.wrap_i64]; omega
                    clear hA R6 S9 s9 hlg6 hst6
                    go_wp2_with fail
                    refine hO9.out.mono ?_
                    rintro ex W10 ⟨rfl, rfl⟩
                    clear hO9 hw1

                    obtain ⟨e2, he4, he5, he6⟩ : ∃ e2, IntKind.u64.wrap (e + 1099511627776) = e2 ∧ (0 ≤ e2 ∧ e2 < 18446744073709551616) ∧ e ≠ e2 := ⟨_, rfl, by rw [wrap_u64]; omega, by rw [wrap_u64]; omega⟩
                    have hA := hide (rload_at C9 P9 O9 hop hq q3 (by omega) (by omega) (by omega) (by rw [q2]; omega) e2 he5 [] (hlg9.other (by omega) he2 he5 he6) 0 rfl)
                    clear C9 P9 O9 hlg9
                    go_wp2_with fail
                    refine hA.out.mono ?_
                    rintro ex W10 ⟨Z10, D10, a10, c10, l10, rfl, S10, -, -, C10, P10, -, s10⟩
                    have R10 := R9.beside s10 hor.symm
                    have HI : Hid (PlayI w W10 Z10 key g gp gr sz (i + 1) (sq2 + 1) D10 e (n : Int)) := hide
                      ⟨C10, P10, R10, S10.size.trans q1, S10.n.trans q2, S10.left, S10.wait.trans q4, by rw [S10.len]; omega, by omega, hst9.same S10.at_⟩
                    clear hA S10 C10 P10 R10 R9 s10 hst9 he4 q1 q2 q3 q4 q5
                    go_wp2_with fail
                    go_roundw
                    case rel => exact ⟨t2, i + 1, Z10, _, _, _, _, ht2, by omega, rfl, by go_num, HI.out⟩
                    case measure => simp [intOf]; omega
                  · have hns2 : ¬ (n : Int) < (sz : Int) := by omega
                    have hlen9 : 0 < (l.map BV.zs).length := by omega
                    have C9 := C6
                    have P9 := P6
                    have R9 := R6
                    have O9 := O6
                    have hlg9 := hlg6
                    have hst9 := hst6
                    have hsq := P6.sq
                    clear C6 P6 R6 O6 hlg6 hst6

                    obtain ⟨e2, he4, he5, he6⟩ : ∃ e2, IntKind.u64.wrap (e + 1099511627776) = e2 ∧ (0 ≤ e2 ∧ e2 < 18446744073709551616) ∧ e ≠ e2 := ⟨_, rfl, by rw [wrap_u64]; omega, by rw [wrap_u64]; omega⟩
                    have hA := hide (rload_at C9 P9 O9 hop hq q3 (by omega) (by omega) (by omega) (by rw [q2]; omega) e2 he5 [] (hlg9.other (by omega) he2 he5 he6) 0 rfl)
                    clear C9 P9 O9 hlg9
                    go_wp2_with fail
                    refine hA.out.mono ?_
                    rintro ex W10 ⟨Z10, D10, a10, c10, l10, rfl, S10, -, -, C10, P10, -, s10⟩
                    have R10 := R9.beside s10 hor.symm
                    have HI : Hid (PlayI w W10 Z10 key g gp gr sz (i + 1) sq2 D10 e (n : Int)) := hide
                      ⟨C10, P10, R10, S10.size.trans q1, S10.n.trans q2, S10.left, S10.wait.trans q4, by rw [S10.len]; omega, by omega, hst9.same S10.at_⟩
                    clear hA S10 C10 P10 R10 R9 s10 hst9 he4 q1 q2 q3 q4 q5
                    go_wp2_with fail
                    go_roundw
                    case rel => exact ⟨t2, i + 1, Z10, _, _, _, _, ht2, by omega, rfl, by go_num, HI.out⟩
                    case measure => simp [intOf]; omega
          · have hka2 : ¬ (k : Int) < (K : Int) := by omega
            have hRl := hide (ring_len hJ.rg)
            go_wp2_with fail
            refine hRl.out.mono ?_
            rintro ex W5 ⟨rfl, rfl⟩
            clear hRl
            have hNo := hide (rnew_at hJ.cl gp 2 (sz : Int) 2 sz rfl (by omega))
            go_wp2_with fail
            refine hNo.out.mono ?_
            rintro ex W5 ⟨go, rfl, hgo, O5, b5⟩
            have hop : go ≠ gp := by have := hJ.pn.lt; omega
            have hor : go ≠ gr := by have := hJ.rg.lt; omega
            have C5 := hJ.cl.below b5
            have P5 := hJ.pn.below b5
            have R5 := hJ.rg.below b5
            have row5 := hJ.row.below b5
            have HOld := hide hJ.old
            have hgrow := hJ.row.high hgo
            have q1 := hJ.size
            have q2 := hJ.nb
            have q3 := hJ.left
            have q4 := hJ.wait
            have q5 := hJ.len
            have q6 := hJ.num
            have hlg5 := hJ.log
            have hst5 := hJ.stale
            have hA := hide (rload_at C5 P5 O5 hop hq q3 (by omega) (by omega) (by omega) (by rw [q2]; omega) e he2 _ hlg5.load n hln)
            have hgw : w.heap.size ≤ go := Nat.le_trans hJ.cl.size hgo
            clear hNo hJ C5 P5 O5 b5 hgo
            go_wp2_with fail
            refine hA.out.mono ?_
            rintro ex W6 ⟨Z6, D6, a6, c6, l6, rfl, S6, hl6, row6, C6, P6, O6, s6⟩
            have R6 := R5.beside s6 hor.symm
            have rowh := row5.beside s6 hgrow (fun y hy h0 p hp => by have := bs_old (HOld.out y hy) h0 hp; omega)
            have hlg6 := hlg5.same S6.at_
            have hst6 := hst5.same S6.at_
            replace q1 := S6.size.trans q1
            replace q2 := S6.n.trans q2
            replace q3 := S6.left
            replace q4 := S6.wait.trans q4
            replace q5 : D6.tr.length ≤ 100 * i + 2 * k + 4 := by rw [S6.len]; omega
            have hOl := hide (ring_len O6)
            have HR := hide (And.intro row6 (And.intro rowh hl6))
            have HS := hide (And.intro C6 (And.intro P6 (And.intro R6 (And.intro O6 (And.intro hlg6 hst6)))))
            clear hA R5 row5 hgrow S6 s6 hlg5 hst5 row6 rowh hl6 C6 P6 R6 O6 hlg6 hst6 HOld
            go_wp2_with fail
            refine hOl.out.mono ?_
            rintro ex W7 ⟨rfl, rfl⟩
            clear hOl
            go_wp2_with fail
            go_loopw [21] (fun v21 wr => ∃ j : Nat, j ≤ n ∧ v21 = .int .i64 (j : Int) ∧ Below W6.heap.size W6 wr) (fun v21 _ => n - (intOf v21).toNat)
            case atStart => exact ⟨0, Nat.zero_le _, rfl, Below.refl _ _⟩
            case round =>
              obtain ⟨j, hjn, rfl, hbj⟩ := hrel
              by_cases hjl : j < n
              · obtain ⟨r1, r2, r3⟩ := HR.out
                obtain ⟨g1, x1, rfl, m1, cc1, B1⟩ := r1.bs j hjl
                obtain ⟨g2, x2, rfl, m2, cc2, B2⟩ := r2.bs j hjl
                have hzz : x1.zs = x2.zs := by
                  have h1 := congrArg (fun l => l[j]?) r3
                  simpa [m1, m2] using h1
                obtain ⟨y1, n1, d1, z1⟩ := x1
                obtain ⟨y2, n2, d2, z2⟩ := x2
                simp only at hzz
                subst hzz
                have e1 := keep_cell cc1 hbj
                have e2 := keep_cell cc2 hbj
                have B1' := B1.bs.below hbj
                have B2' := B2.bs.below hbj
                clear r1 r2 r3 m1 m2 cc1 cc2 B1 B2
                go_wp2_with fail
                refine wp_region_rel Kept [0, 1, 2, 3, 4, 5, 6, 7, 8, 9, 10] (by kernel_rfl) (by kernel_rfl) (by kernel_rfl) Kept.refl Kept.trans ?_
                replace e1 : wr.drew.cell? _ = _ := e1
                replace e2 : wr.drew.cell? _ = _ := e2
                replace B1' := B1'.below (Below.refl _ wr).drew
                replace B2' := B2'.below (Below.refl _ wr).drew
                replace hbj := hbj.drew
                generalize wr.drew = wd at *
                obtain ⟨S1, hS1⟩ : ∃ S1, strOfNums z1 = S1 := ⟨_, rfl⟩
                have T1 : ∀ w', Kept wd w' → (convert 36 9 (.slice y1 n1 d1)).run Tryd.prog w' = .ok (.string S1) w' := fun w' hR => by rw [← hS1]; exact str_bytes (B1'.below hR)
                have T2 : ∀ w', Kept wd w' → (convert 36 9 (.slice y2 n2 d2)).run Tryd.prog w' = .ok (.string S1) w' := fun w' hR => by rw [← hS1]; exact str_bytes (B2'.below hR)
                repeat' (first
                  | (refine wpRel_quiet (v := ?_) rfl rfl (fun _ _ _ h => h) (by rfl) ?_ ?_
                     rotate_left
                     · (intro w' hR; have i1 := keep_cell e1 hR; have i2 := keep_cell e2 hR; have t1 := T1 _ hR; have t2 := T2 _ hR; go_simp; try rfl)
                     simp only [Act.put, List.setIfInBounds_toArray, List.set_cons_zero, List.set_cons_succ])
                  | fail)
                refine wpRel_nil ?_
                clear e1 e2 B1' B2' T1 T2 hS1
                go_wp2_with fail
                go_roundw
                case rel => exact ⟨j + 1, by omega, by go_num, hbj⟩
                case measure => simp [intOf]; omega
              · have hjl2 : ¬ (j : Int) < (n : Int) := by omega
                obtain ⟨C6, P6, R6, O6, hlg6, hst6⟩ := HS.out
                replace C6 := C6.below hbj
                replace P6 := P6.below hbj
                replace R6 := R6.below hbj
                replace O6 := O6.below hbj
                clear HS HR hbj hjl
                generalize wr = W6 at *
                by_cases hns : n < sz
                · have hns2 : (n : Int) < (sz : Int) := by omega
                  go_wp2_with fail
                  rw [conv_bytes]
                  have hLm : Bs (W6.alloc (Obj.cells #[Value.int IntKind.u8 109, Value.int IntKind.u8 111, Value.int IntKind.u8 114, Value.int IntKind.u8 101] 5 (4, 5))) (some ⟨W6.heap.size, 0, none⟩) 4 4 [109, 111, 114, 101] := Bs.lit rfl rfl (bytes_lit rfl) rfl (by omega)
                  have b7 := below_alloc (Below.refl W6.heap.size W6) (Obj.cells #[Value.int IntKind.u8 109, Value.int IntKind.u8 111, Value.int IntKind.u8 114, Value.int IntKind.u8 101] 5 (4, 5))
                  replace C6 := C6.below b7
                  replace P6 := P6.below b7
                  replace R6 := R6.below b7
                  replace O6 := O6.below b7
                  clear b7
                  generalize (W6.alloc (Obj.cells #[Value.int IntKind.u8 109, Value.int IntKind.u8 111, Value.int IntKind.u8 114, Value.int IntKind.u8 101] 5 (4, 5))) = W7 at *
                  have hsq := P6.sq
                  have hA := hide (radd_at C6 P6 O6 hop hq q3 (by omega) (by rw [q4]; decide) (by omega) he2 hns (by omega) (by omega) (by rw [q2]; omega) hLm 58 q1 (by omega))
                  clear C6 P6 O6 hLm
                  go_wp2_with fail
                  refine hA.out.mono ?_
                  rintro ex W9 ⟨Z9, D9, rfl, S9, C9, P9, O9, s9⟩
                  have R9 := R6.beside2 s9 hne hor.symm
                  have hlg9 := hlg6.add (r := [109, 111, 114, 101]) (m := 58) (bt := 1) (sq := sq2) (by omega) (by rw [hln]; exact S9) (by omega) (by omega) (bytes_lit rfl) (by decide) (by omega)
                  have hst9 := hst6.add S9 (by omega) (by omega) (bytes_lit rfl) (by decide) (by omega) he2 (by omega)
                  have hlen9 : 0 < (l.map BV.zs ++ [[109, 111, 114, 101]]).length := by simp
                  replace q1 := S9.size.trans q1
                  replace q2 := S9.n.trans q2
                  replace q3 := S9.left
                  replace q4 := S9.wait
                  replace q5 : D9.tr.length ≤ 100 * i + 2 * k + 8 := by rw [S9.len]; omega
                  have hO9 := hide (ring_len O9)
                  have hw1 : IntKind.i64.wrap ((n : Int) + 1) = ((n + 1 : Nat) : Int) := by rw [IntKind.wrap_i64]; omega
                  clear hA R6 S9 s9 hlg6 hst6
                  go_wp2_with fail
                  refine hO9.out.mono ?_
                  rintro ex W10 ⟨rfl, rfl⟩
                  clear hO9 hw1

                  obtain ⟨e2, he4, he5, he6⟩ : ∃ e2, IntKind.u64.wrap (e + 1099511627776) = e2 ∧ (0 ≤ e2 ∧ e2 < 18446744073709551616) ∧ e ≠ e2 := ⟨_, rfl, by rw [wrap_u64]; omega, by rw [wrap_u64]; omega⟩
                  have hA := hide (rload_at C9 P9 O9 hop hq q3 (by omega) (by omega) (by omega) (by rw [q2]; omega) e2 he5 [] (hlg9.other (by omega) he2 he5 he6) 0 rfl)
                  clear C9 P9 O9 hlg9
                  go_wp2_with fail
                  refine hA.out.mono ?_
                  rintro ex W10 ⟨Z10, D10, a10, c10, l10, rfl, S10, -, -, C10, P10, -, s10⟩
                  have R10 := R9.beside s10 hor.symm
                  have HI : Hid (PlayI w W10 Z10 key g gp gr sz (i + 1) (sq2 + 1) D10 e (n : Int)) := hide
                    ⟨C10, P10, R10, S10.size.trans q1, S10.n.trans q2, S10.left, S10.wait.trans q4, by rw [S10.len]; omega, by omega, hst9.same S10.at_⟩
                  clear hA S10 C10 P10 R10 R9 s10 hst9 he4 q1 q2 q3 q4 q5
                  go_wp2_with fail
                  go_roundw
                  case rel => exact ⟨t2, i + 1, Z10, _, _, _, _, ht2, by omega, rfl, by go_num, HI.out⟩
                  case measure => simp [intOf]; omega
                · have hns2 : ¬ (n : Int) < (sz : Int) := by omega
                  have hlen9 : 0 < (l.map BV.zs).length := by omega
                  have C9 := C6
                  have P9 := P6
                  have R9 := R6
                  have O9 := O6
                  have hlg9 := hlg6
                  have hst9 := hst6
                  have hsq := P6.sq
                  clear C6 P6 R6 O6 hlg6 hst6

                  obtain ⟨e2, he4, he5, he6⟩ : ∃ e2, IntKind.u64.wrap (e + 1099511627776) = e2 ∧ (0 ≤ e2 ∧ e2 < 18446744073709551616) ∧ e ≠ e2 := ⟨_, rfl, by rw [wrap_u64]; omega, by rw [wrap_u64]; omega⟩
                  have hA := hide (rload_at C9 P9 O9 hop hq q3 (by omega) (by omega) (by omega) (by rw [q2]; omega) e2 he5 [] (hlg9.other (by omega) he2 he5 he6) 0 rfl)
                  clear C9 P9 O9 hlg9
                  go_wp2_with fail
                  refine hA.out.mono ?_
                  rintro ex W10 ⟨Z10, D10, a10, c10, l10, rfl, S10, -, -, C10, P10, -, s10⟩
                  have R10 := R9.beside s10 hor.symm
                  have HI : Hid (PlayI w W10 Z10 key g gp gr sz (i + 1) sq2 D10 e (n : Int)) := hide
                    ⟨C10, P10, R10, S10.size.trans q1, S10.n.trans q2, S10.left, S10.wait.trans q4, by rw [S10.len]; omega, by omega, hst9.same S10.at_⟩
                  clear hA S10 C10 P10 R10 R9 s10 hst9 he4 q1 q2 q3 q4 q5
                  go_wp2_with fail
                  go_roundw
                  case rel => exact ⟨t2, i + 1, Z10, _, _, _, _, ht2, by omega, rfl, by go_num, HI.out⟩
                  case measure => simp [intOf]; omega
      · by_cases h1b : i < lb
        · have h2b : ¬ (i : Int) < 12 := by omega
          go_wp2_with fail
          refine (awake_any wr (hq.below hI.cl.bel hq.lt)).mono ?_
          rintro ex w1 ⟨rfl, b1⟩
          have hb1 := hI.cl.bel.trans (b1.mono hI.cl.bel.size)
          go_wp2_with fail
          go_ret
          exact ⟨rfl, hb1⟩
        · have h1c : ¬ (i : Int) < (lb : Int) := by omega
          go_wp2_with fail
          refine (awake_any wr (hq.below hI.cl.bel hq.lt)).mono ?_
          rintro ex w1 ⟨rfl, b1⟩
          have hb1 := hI.cl.bel.trans (b1.mono hI.cl.bel.size)
          go_wp2_with fail
          go_ret
          exact ⟨rfl, hb1⟩
#print axioms ringPlays_walk
end Go.Proofs.YtkpkipjelpedeaaDoor
