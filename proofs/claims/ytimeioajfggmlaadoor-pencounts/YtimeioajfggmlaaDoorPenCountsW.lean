
/- The law PenCounts answers true for every key, boot and texts, wherever quar.rounds reads as its text says; nothing that was there is turned. -/
import Derived.Test.YtimeioajfggmlaaDoorPAwake
namespace Go.Proofs.YtimeioajfggmlaaDoor
open Go.RowKit

/-- What a round finds. -/
structure CountsI (w wr : World) (Z : Own) (g gp : Nat) (key : List Int) (boot : Int) (n k : Nat) (D : DS) : Prop where
  cl : Cl w wr Z g D
  pn : Pn w Z wr gp g key boot (n : Int)
  kk : Has Z wr w.heap.size (.cells (bV key) 22 (0, 0))
  ne : w.heap.size < gp
  size : D.size = 50
  n3 : D.n = 3
  left : D.left = -1
  tr : D.tr.length ≤ 3 * k
  wait : D.wait = []
  le : n ≤ k
theorem fitL_head (key : List Int) (boot seq : Int) (zs : List Int) (m : Nat) (h : zs.length ≤ m) : fitL 12 (sealL key boot seq zs m) = headL boot seq := by
  unfold fitL
  rw [sealL_take, sealL_length _ _ _ _ _ h, show 12 - (m + 22) = 0 by omega]
  exact List.append_nil _
theorem i64_low3 (k : Nat) : ∃ i : Nat, bits .and .i64 (k : Int) 3 = (i : Int) := ⟨k % 4, by have := i64_mask (k : Int) 2 (by decide) 3 (by decide); rw [this]; omega⟩
theorem i64_low1 (k : Nat) : ∃ i : Nat, bits .and .i64 (k : Int) 1 = (i : Int) := ⟨k % 2, by have := i64_mask (k : Int) 1 (by decide) 1 (by decide); rw [this]; omega⟩

set_option maxRecDepth 100000 in
set_option maxHeartbeats 4000000 in
theorem penCounts_walk (key : List Int) (boot : Int) (a : Option Addr) (len cap : Nat) (xs : Nat → BV) (w : World) (hk : IsBytes key) (hkl : key.length = 32) (hb : 0 ≤ boot ∧ boot < 4294967296) (hl : BBs w a len cap xs) (hq : Glob w) :
    Calls Tryd.prog 3 #[.agg (bV key), .int .u32 boot, .slice a len cap] w fun e w' => e = .returned (.bool true) ∧ Below w.heap.size w w' := by
  have hS := KK.start w key hq
  have hlc := hl.le_cap
  have hcm := hl.cap_le
  have HL := hide hl
  clear hl
  go_enter Tryd.func3, Tryd.ntmps3
  go_wp2_with fail
  have hbw := hS.bel
  have kk0 := hS.kk
  generalize (w.alloc (Obj.cells (bV key) 22)) = W0 at *
  refine (new_any 3 50 3 50 rfl rfl W0).mono ?_
  rintro e W ⟨g, Z, rfl, hD, hF, hB⟩
  have C : Cl w W Z g (DS.new 3 50) := ⟨hD, fun k hk => Nat.le_trans hbw.size (hF k hk), hbw.trans (hB.mono hbw.size)⟩
  have kk : Has Z W w.heap.size (.cells (bV key) 22 (0, 0)) := ⟨(kk0.below hB : OwnB _ _ _ _), fun hs => by have := hF _ hs; have := kk0.lt; omega⟩
  clear hD hF hB hS kk0 hbw
  have kk1 := kk.1
  go_wp2_with (refine wpList_loadA arrT32 (by rfl) _ (by rfl) w.heap.size (by rfl) (bV key) kk1 (by rw [bV_size, hkl]) ?_)
  refine (pen_new C hk hkl hb).mono ?_
  rintro e W1 ⟨gp, rfl, hgp, P, b1⟩
  have HI0 : Hid (CountsI w W1 Z g gp key boot 0 0 (DS.new 3 50)) := hide ⟨C.below b1, P, kk.below b1, Nat.lt_of_lt_of_le kk.lt hgp, rfl, rfl, rfl, Nat.le_refl _, rfl, Nat.le_refl _⟩
  clear C P kk kk1 hgp b1
  go_wp2_with fail
  go_loopw [9, 10] (fun v9 v10 wr => ∃ (n k : Nat) (Z1 : Own) (D : DS), k ≤ 20 ∧ v9 = .int .u64 (n : Int) ∧ v10 = .int .i64 (k : Int) ∧ CountsI w wr Z1 g gp key boot n k D) (fun _ v10 _ => 20 - (intOf v10).toNat)
  case atStart => exact ⟨0, 0, Z, DS.new 3 50, Nat.zero_le _, rfl, rfl, HI0.out⟩
  case round =>
    clear HI0
    obtain ⟨n, k, Z1, D, hk20, rfl, rfl, hI⟩ := hrel
    by_cases h1 : (k : Int) < (len : Int)
    · by_cases h2 : (k : Int) < 20
      · obtain ⟨⟨lb, loff, rfl, hlc3⟩, hbs⟩ := HL.out.item k (by omega)
        have cl0 : ∀ W', Below w.heap.size w W' → W'.cell? ⟨lb, loff + k, none⟩ = some (xs k).v := fun W' h => (h.cell (World.block_lt_of_cell? w _ hlc3)).trans hlc3
        have cl := cl0 wr hI.cl.bel
        obtain ⟨i3, m3⟩ := i64_low3 k
        obtain ⟨i1, m1⟩ := i64_low1 k
        have d1 := hI.size
        have d2 := hI.n3
        have d3 := hI.left
        have d4 := hI.tr
        have d5 := hI.wait
        have d6 := hI.le
        have hne := hI.ne
        obtain ⟨T, hT⟩ : ∃ T, D.tr.length = T := ⟨_, rfl⟩
        rw [hT] at d4
        have hTr := hide (hI.cl.trace (by omega) T 50 hT d1)
        have P := hI.pn
        have kk := hI.kk
        clear hI hlc3
        obtain ⟨y, hy⟩ : ∃ y : BV, y = xs k := ⟨_, rfl⟩
        rw [← hy] at cl0 cl hbs
        clear hy
        go_wp2_with fail
        refine hTr.out.mono ?_
        rintro e W2 ⟨rfl, -, C, b2⟩
        replace P := P.below b2
        replace kk := kk.below b2
        clear hTr b2
        have hy2 := hbs.below C.bel
        have cl := cl0 W2 C.bel
        have hyc := hbs.cap_le
        have hyl := hbs.le_cap
        by_cases hlen : (y.len : Int) ≤ 28
        · have hWr := hide (pen_write C P hq (by rw [d3]; decide) (by omega) (by rw [d5]; decide) (by omega) (i3 : Int) hy2 28 d1 (by omega))
          clear hy2
          go_wp2_with fail
          refine hWr.out.mono ?_
          rintro e W3 ⟨Z3, x, rfl, hx, C3, P3, s3⟩
          replace kk := kk.beside s3 (by omega)
          have cl := cl0 W3 C3.bel
          clear hWr C P s3 m3
          obtain ⟨e1, e2, e3⟩ := puts_is D i3 x
          have e4 := puts_len D i3 x
          have e6 := puts_tr D i3 x
          have e7 : (D.puts i3 x).tr[T]? = some ⟨2, i3, x.zs, x⟩ := by rw [e6, ← hT, List.getElem?_concat_length]
          rw [d3] at e3
          rw [d1] at e1
          rw [d2] at e2
          rw [hT] at e4
          generalize D.puts i3 x = D1 at *
          clear e6 d1 d2 d3 d5 hT D
          obtain ⟨T1, HT1⟩ : ∃ T1, Hid (T1 = T + 1) := ⟨_, rfl⟩
          rw [← HT1.out] at e4
          have eT1 := HT1.out
          have hTr := hide (C3.trace (by omega) T1 50 e4 e1)
          have hw1 : IntKind.i64.wrap ((T : Int) + 1) = (T1 : Int) := by rw [IntKind.wrap_i64]; omega
          have l1 : T < T1 := by omega
          have l2 : T1 ≤ 3 * k + 1 := by omega
          clear eT1
          go_wp2_with fail
          refine hTr.out.mono ?_
          rintro e W4 ⟨rfl, t4, C4, b4⟩
          have hd := t4.head T _ e7
          have hte := t4.there
          rw [hx.out, fitL_head _ _ _ _ _ (by rw [hbs.length]; omega)] at hd
          replace P3 := P3.below b4
          replace kk := kk.below b4
          clear hTr b4 C3 t4 e7 hx
          go_wp2_with fail
          refine wp_region_rel Kept [0, 1, 2, 3, 4, 5, 6, 7, 8, 9, 10, 11, 12, 13, 14, 15] (by kernel_rfl) (by kernel_rfl) (by kernel_rfl) Kept.refl Kept.trans ?_
          replace P3 := P3.drew
          replace C4 := C4.drew
          replace kk : Has Z3 W4.drew _ _ := kk.below (Below.refl _ _).drew
          have hlt3 : W3.heap.size < W4.drew.heap.size := Nat.lt_of_lt_of_le (by have := World.block_lt_of_cell? W4 _ (hd 0 _ (by simp [headL_length]; rfl)); exact this) (Nat.le_refl _)
          replace hd : W4.drew.rangeAt W3.heap.size (15 * T + 2) ((headL boot n).map (Value.int .u8)) := hd
          rw [Nat.mul_comm 15 T] at hd
          generalize W4.drew = W5 at *
          repeat' (first
            | (refine wpRel_quiet (v := ?_) rfl rfl (fun _ _ _ h => h) (by rfl) ?_ ?_
               rotate_left
               · (intro w' hR; go_simp; try rfl)
               simp only [Act.put, List.setIfInBounds_toArray, List.set_cons_zero, List.set_cons_succ])
            | fail)
          refine wpRel_loadM rfl rfl 34 _ rfl W3.heap.size (T * 15 + 2) (by rfl) _ _ (fun w' hR => rangeAt_keep hd (hR.block _ hlt3)) Tryd.underlying34 rfl (by rw [arrT12.size]; simp [headL_length]) (fun _ _ _ h => h) (by rfl) ?_
          try simp only [Act.put, List.setIfInBounds_toArray, List.set_cons_zero, List.set_cons_succ]
          rw [show (List.map (Value.int .u8) (headL boot (n : Int))).toArray = bV (headL boot (n : Int)) from rfl]
          repeat' (first
            | (refine wpRel_quiet (v := ?_) rfl rfl (fun _ _ _ h => h) (by rfl) ?_ ?_
               rotate_left
               · (intro w' hR; go_simp; try rfl)
               simp only [Act.put, List.setIfInBounds_toArray, List.set_cons_zero, List.set_cons_succ])
            | fail)
          have hsq := P3.sq
          refine wpRel_step rfl rfl (by rfl) (fun K' hK => ?_)
          go_simp
          refine (rhead_any boot (n : Int) W5 hb (by omega)).mono ?_
          rintro e W6 ⟨rfl, b6⟩
          refine hK.out _ _ b6 ?_
          clear hK K'
          try simp only [Act.put, List.setIfInBounds_toArray, List.set_cons_zero, List.set_cons_succ]
          have hN := run_neq12 (headL boot (n : Int)) (headL_length _ _)
          replace P3 := P3.below b6
          replace C4 := C4.below b6
          replace kk := kk.below b6
          clear b6 hd hlt3 hte
          repeat' (first
            | (refine wpRel_quiet (v := ?_) rfl rfl (fun _ _ _ h => h) (by rfl) ?_ ?_
               rotate_left
               · (intro w' hR; go_simp; try rfl)
               simp only [Act.put, List.setIfInBounds_toArray, List.set_cons_zero, List.set_cons_succ])
            | fail)
          clear hN
          refine wpRel_nil ?_
          have hw2 : IntKind.u64.wrap ((n : Int) + 1) = (n : Int) + 1 := by rw [wrap_u64]; omega
          have hR := hide (pen_read C4 P3 hq (by rw [e3]; decide) (by omega) i1)
          clear C4 P3
          go_wp2_with fail
          refine hR.out.mono ?_
          rintro e W7 ⟨Z7, p7, c7, rfl, -, C7, P7, s7⟩
          replace kk := kk.step s7
          have cl := cl0 W7 C7.bel
          obtain ⟨f1, f2, f3, f4, f5⟩ := asks_is D1 i1
          have f6 := asks_len D1 i1
          have hz1 : (D1.asks i1).size = 50 := by rw [f1]; omega
          have hz2 : (D1.asks i1).n = 3 := by rw [f2]; omega
          have hz3 : (D1.asks i1).left = -1 := by rw [f3, e3]; rfl
          have hz4 : (D1.asks i1).tr.length = T1 + 1 := by rw [f6]; omega
          clear f1 f2 f3 f4 f5 f6 hR s7 m1
          generalize D1.asks i1 = D7 at *
          have hFl := hide (pen_flush C7 P7 (by rw [hz3]; decide) (by omega))
          clear C7 P7
          go_wp2_with fail
          refine hFl.out.mono ?_
          rintro e W8 ⟨Z8, rfl, C8, P8, s8⟩
          replace kk := kk.step s8
          have y1 : D7.flush.size = 50 := hz1
          have y2 : D7.flush.n = 3 := hz2
          have y3 : D7.flush.left = -1 := by show spendL D7.left = -1; rw [hz3]; rfl
          have y4 : D7.flush.tr.length = T1 + 2 := by show (D7.tr ++ [_]).length = _; rw [List.length_append, hz4]; rfl
          have y5 : D7.flush.wait = [] := rfl
          generalize D7.flush = D8 at *
          clear hFl s8 hz1 hz2 hz3 hz4
          have hQ := hide (pen_seq P8)
          go_wp2_with fail
          refine hQ.out.mono ?_
          rintro e W9 ⟨rfl, rfl⟩
          have cl := cl0 W8 C8.bel
          have HI : Hid (CountsI w W8 Z8 g gp key boot (n + 1) (k + 1) D8) := hide ⟨C8, P8, kk, hne, y1, y2, y3, by have := HT1.out; omega, y5, by omega⟩
          clear hQ C8 P8 kk y1 y2 y3 y4 y5
          go_wp2_with fail
          go_roundw
          case rel => exact ⟨n + 1, k + 1, Z8, D8, by omega, by go_num, by go_num, HI.out⟩
          case measure => simp [intOf]; omega
        · have hWr := hide (pen_write_no (a := y.a) (len := y.len) (cap := y.cap) C P i3 (by omega) (by omega))
          go_wp2_with fail
          refine hWr.out.mono ?_
          rintro e W3 ⟨rfl, b3⟩
          replace P := P.below b3
          replace kk := kk.below b3
          have cl := cl0 W3 (C.below b3).bel
          replace C := C.below b3
          clear hWr hy2 b3 m3
          have hTr := hide (C.trace (by omega) T 50 hT d1)
          have e3 : D.left = spendL (-1) := by rw [d3]; rfl
          go_wp2_with fail
          refine hTr.out.mono ?_
          rintro e W4 ⟨rfl, t4, C4, b4⟩
          replace P := P.below b4
          replace kk := kk.below b4
          clear hTr b4 C t4
          have hR := hide (pen_read C4 P hq (by rw [d3]; decide) (by omega) i1)
          clear C4 P
          go_wp2_with fail
          refine hR.out.mono ?_
          rintro e W7 ⟨Z7, p7, c7, rfl, -, C7, P7, s7⟩
          replace kk := kk.step s7
          have cl := cl0 W7 C7.bel
          obtain ⟨f1, f2, f3, f4, f5⟩ := asks_is D i1
          have f6 := asks_len D i1
          have hz1 : (D.asks i1).size = 50 := by rw [f1]; omega
          have hz2 : (D.asks i1).n = 3 := by rw [f2]; omega
          have hz3 : (D.asks i1).left = -1 := by rw [f3, d3]; rfl
          have hz4 : (D.asks i1).tr.length = T + 1 := by rw [f6]; omega
          clear f1 f2 f3 f4 f5 f6 hR s7 m1
          generalize D.asks i1 = D7 at *
          have hFl := hide (pen_flush C7 P7 (by rw [hz3]; decide) (by omega))
          clear C7 P7
          go_wp2_with fail
          refine hFl.out.mono ?_
          rintro e W8 ⟨Z8, rfl, C8, P8, s8⟩
          replace kk := kk.step s8
          have y1 : D7.flush.size = 50 := hz1
          have y2 : D7.flush.n = 3 := hz2
          have y3 : D7.flush.left = -1 := by show spendL D7.left = -1; rw [hz3]; rfl
          have y4 : D7.flush.tr.length = T + 2 := by show (D7.tr ++ [_]).length = _; rw [List.length_append, hz4]; rfl
          have y5 : D7.flush.wait = [] := rfl
          generalize D7.flush = D8 at *
          clear hFl s8 hz1 hz2 hz3 hz4
          have hQ := hide (pen_seq P8)
          go_wp2_with fail
          refine hQ.out.mono ?_
          rintro e W9 ⟨rfl, rfl⟩
          have cl := cl0 W8 C8.bel
          have HI : Hid (CountsI w W8 Z8 g gp key boot (n) (k + 1) D8) := hide ⟨C8, P8, kk, hne, y1, y2, y3, by omega, y5, by omega⟩
          clear hQ C8 P8 kk y1 y2 y3 y4 y5
          go_wp2_with fail
          go_roundw
          case rel => exact ⟨n, k + 1, Z8, D8, by omega, by go_num, by go_num, HI.out⟩
          case measure => simp [intOf]; omega
      · have C := hI.cl
        have kk := hI.kk
        have d1 := hI.size
        have d2 := hI.n3
        have d3 := hI.left
        have d4 := hI.tr
        have d5 := hI.wait
        have hne := hI.ne
        clear hI
        have kk1 := kk.1
        obtain ⟨B1, hB1⟩ : ∃ B1, IntKind.u32.wrap (boot + 1) = B1 := ⟨_, rfl⟩
        have hB2 : 0 ≤ B1 ∧ B1 < 4294967296 := by rw [← hB1, IntKind.wrap_u32']; omega
        go_wp2_with (refine wpList_loadA arrT32 (by rfl) _ (by rfl) w.heap.size (by rfl) (bV key) kk1 (by rw [bV_size, hkl]) ?_)
        refine (pen_new C hk hkl hB2).mono ?_
        rintro e W2 ⟨gq, rfl, -, Q, b2⟩
        replace C := C.below b2
        clear b2 kk kk1
        have hWr := hide (pen_write C Q hq (by rw [d3]; decide) (by omega) (by rw [d5]; decide) (by omega) 0 (Bs.nil W2) 28 d1 (by omega))
        go_wp2_with fail
        refine hWr.out.mono ?_
        rintro e W3 ⟨Z3, x, rfl, hx, C3, Q3, s3⟩
        clear hWr C Q s3
        obtain ⟨T, hT⟩ : ∃ T, D.tr.length = T := ⟨_, rfl⟩
        obtain ⟨e1, e2, e3⟩ := puts_is D 0 x
        have e4 := puts_len D 0 x
        have e6 := puts_tr D 0 x
        have e7 : (D.puts 0 x).tr[T]? = some ⟨2, 0, x.zs, x⟩ := by rw [e6, ← hT, List.getElem?_concat_length]
        rw [d1] at e1
        rw [hT] at e4 d4
        generalize D.puts 0 x = D1 at *
        clear e6 e2 e3 d1 d2 d3 d5 hT D
        obtain ⟨T1, HT1⟩ : ∃ T1, Hid (T1 = T + 1) := ⟨_, rfl⟩
        rw [← HT1.out] at e4
        have eT1 := HT1.out
        have hw1 : IntKind.i64.wrap ((T1 : Int) - 1) = (T : Int) := by rw [IntKind.wrap_i64]; omega
        have l1 : T < T1 := by omega
        have l2 : T1 ≤ 3 * k + 1 := by omega
        clear eT1
        have hTr := hide (C3.trace (by omega) T1 50 e4 e1)
        go_wp2_with fail
        refine hTr.out.mono ?_
        rintro e W4 ⟨rfl, t4, C4, b4⟩
        have hd := t4.head T _ e7
        rw [hx.out, fitL_head _ _ _ _ _ (by simp)] at hd
        replace Q3 := Q3.below b4
        clear hTr b4 C3 t4 e7 hx
        have hQ := hide (pen_seq Q3.drew)
        have hq4 : Glob W4.drew := hq.below C4.drew.bel hq.lt
        go_wp2_with fail
        refine wp_region_rel Kept [0, 1, 2, 3, 4, 5, 6, 7, 8, 9, 10, 11, 12, 13, 14, 15, 16, 17, 18, 19] (by kernel_rfl) (by kernel_rfl) (by kernel_rfl) Kept.refl Kept.trans ?_
        replace C4 := C4.drew
        have hlt3 : W3.heap.size < W4.drew.heap.size := Nat.lt_of_lt_of_le (by have := World.block_lt_of_cell? W4 _ (hd 0 _ (by simp [headL_length]; rfl)); exact this) (Nat.le_refl _)
        replace hd : W4.drew.rangeAt W3.heap.size (15 * T + 2) ((headL B1 0).map (Value.int .u8)) := hd
        rw [Nat.mul_comm 15 T] at hd
        generalize W4.drew = W5 at *
        repeat' (first
          | (refine wpRel_quiet (v := ?_) rfl rfl (fun _ _ _ h => h) (by rfl) ?_ ?_
             rotate_left
             · (intro w' hR; go_simp; try rfl)
             simp only [Act.put, List.setIfInBounds_toArray, List.set_cons_zero, List.set_cons_succ])
          | fail)
        refine wpRel_step rfl rfl (by rfl) (fun K' hK => ?_)
        go_simp
        refine (hQ.out).mono ?_
        rintro e W5' ⟨rfl, rfl⟩
        refine hK.out _ _ (Kept.refl _) ?_
        clear hK K'
        try simp only [Act.put, List.setIfInBounds_toArray, List.set_cons_zero, List.set_cons_succ]
        clear hQ Q3
        repeat' (first
          | (refine wpRel_quiet (v := ?_) rfl rfl (fun _ _ _ h => h) (by rfl) ?_ ?_
             rotate_left
             · (intro w' hR; go_simp; try rfl)
             simp only [Act.put, List.setIfInBounds_toArray, List.set_cons_zero, List.set_cons_succ])
          | fail)
        refine wpRel_loadM rfl rfl 34 _ rfl W3.heap.size (T * 15 + 2) (by rfl) _ _ (fun w' hR => rangeAt_keep hd (hR.block _ hlt3)) Tryd.underlying34 rfl (by rw [arrT12.size]; simp [headL_length]) (fun _ _ _ h => h) (by rfl) ?_
        try simp only [Act.put, List.setIfInBounds_toArray, List.set_cons_zero, List.set_cons_succ]
        rw [show (List.map (Value.int .u8) (headL B1 0)).toArray = bV (headL B1 0) from rfl]
        repeat' (first
          | (refine wpRel_quiet (v := ?_) rfl rfl (fun _ _ _ h => h) (by rfl) ?_ ?_
             rotate_left
             · (intro w' hR; go_simp; try rfl)
             simp only [Act.put, List.setIfInBounds_toArray, List.set_cons_zero, List.set_cons_succ])
          | fail)
        refine wpRel_step rfl rfl (by rfl) (fun K' hK => ?_)
        go_simp
        refine (rhead_any B1 0 W5 hB2 (by omega)).mono ?_
        rintro e W6 ⟨rfl, b6⟩
        refine hK.out _ _ b6 ?_
        clear hK K'
        try simp only [Act.put, List.setIfInBounds_toArray, List.set_cons_zero, List.set_cons_succ]
        have hN := run_eq12 (headL B1 0) (headL_length _ _)
        have hN2 := run_same12 (headL B1 0) (headL_length _ _)
        replace C4 := C4.below b6
        replace hq4 := hq4.below b6 hq4.lt
        clear b6 hd hlt3
        repeat' (first
          | (refine wpRel_quiet (v := ?_) rfl rfl (fun _ _ _ h => h) (by rfl) ?_ ?_
             rotate_left
             · (intro w' hR; go_simp; try rfl)
             simp only [Act.put, List.setIfInBounds_toArray, List.set_cons_zero, List.set_cons_succ])
          | fail)
        clear hN hN2
        refine wpRel_step rfl rfl (by rfl) (fun K' hK => ?_)
        go_simp
        refine (awake_any W6 hq4).mono ?_
        rintro e W7 ⟨rfl, b7⟩
        refine hK.out _ _ b7 ?_
        clear hK K'
        try simp only [Act.put, List.setIfInBounds_toArray, List.set_cons_zero, List.set_cons_succ]
        have hbel := C4.bel.trans (b7.mono C4.bel.size)
        repeat' (first
          | (refine wpRel_quiet (v := ?_) rfl rfl (fun _ _ _ h => h) (by rfl) ?_ ?_
             rotate_left
             · (intro w' hR; go_simp; try rfl)
             simp only [Act.put, List.setIfInBounds_toArray, List.set_cons_zero, List.set_cons_succ])
          | fail)
        refine wpRel_nil ?_
        go_wp2_with fail
        go_ret
        exact ⟨rfl, hbel⟩
    · have C := hI.cl
      have kk := hI.kk
      have d1 := hI.size
      have d2 := hI.n3
      have d3 := hI.left
      have d4 := hI.tr
      have d5 := hI.wait
      have hne := hI.ne
      clear hI
      have kk1 := kk.1
      obtain ⟨B1, hB1⟩ : ∃ B1, IntKind.u32.wrap (boot + 1) = B1 := ⟨_, rfl⟩
      have hB2 : 0 ≤ B1 ∧ B1 < 4294967296 := by rw [← hB1, IntKind.wrap_u32']; omega
      go_wp2_with (refine wpList_loadA arrT32 (by rfl) _ (by rfl) w.heap.size (by rfl) (bV key) kk1 (by rw [bV_size, hkl]) ?_)
      refine (pen_new C hk hkl hB2).mono ?_
      rintro e W2 ⟨gq, rfl, -, Q, b2⟩
      replace C := C.below b2
      clear b2 kk kk1
      have hWr := hide (pen_write C Q hq (by rw [d3]; decide) (by omega) (by rw [d5]; decide) (by omega) 0 (Bs.nil W2) 28 d1 (by omega))
      go_wp2_with fail
      refine hWr.out.mono ?_
      rintro e W3 ⟨Z3, x, rfl, hx, C3, Q3, s3⟩
      clear hWr C Q s3
      obtain ⟨T, hT⟩ : ∃ T, D.tr.length = T := ⟨_, rfl⟩
      obtain ⟨e1, e2, e3⟩ := puts_is D 0 x
      have e4 := puts_len D 0 x
      have e6 := puts_tr D 0 x
      have e7 : (D.puts 0 x).tr[T]? = some ⟨2, 0, x.zs, x⟩ := by rw [e6, ← hT, List.getElem?_concat_length]
      rw [d1] at e1
      rw [hT] at e4 d4
      generalize D.puts 0 x = D1 at *
      clear e6 e2 e3 d1 d2 d3 d5 hT D
      obtain ⟨T1, HT1⟩ : ∃ T1, Hid (T1 = T + 1) := ⟨_, rfl⟩
      rw [← HT1.out] at e4
      have eT1 := HT1.out
      have hw1 : IntKind.i64.wrap ((T1 : Int) - 1) = (T : Int) := by rw [IntKind.wrap_i64]; omega
      have l1 : T < T1 := by omega
      have l2 : T1 ≤ 3 * k + 1 := by omega
      clear eT1
      have hTr := hide (C3.trace (by omega) T1 50 e4 e1)
      go_wp2_with fail
      refine hTr.out.mono ?_
      rintro e W4 ⟨rfl, t4, C4, b4⟩
      have hd := t4.head T _ e7
      rw [hx.out, fitL_head _ _ _ _ _ (by simp)] at hd
      replace Q3 := Q3.below b4
      clear hTr b4 C3 t4 e7 hx
      have hQ := hide (pen_seq Q3.drew)
      have hq4 : Glob W4.drew := hq.below C4.drew.bel hq.lt
      go_wp2_with fail
      refine wp_region_rel Kept [0, 1, 2, 3, 4, 5, 6, 7, 8, 9, 10, 11, 12, 13, 14, 15, 16, 17, 18, 19] (by kernel_rfl) (by kernel_rfl) (by kernel_rfl) Kept.refl Kept.trans ?_
      replace C4 := C4.drew
      have hlt3 : W3.heap.size < W4.drew.heap.size := Nat.lt_of_lt_of_le (by have := World.block_lt_of_cell? W4 _ (hd 0 _ (by simp [headL_length]; rfl)); exact this) (Nat.le_refl _)
      replace hd : W4.drew.rangeAt W3.heap.size (15 * T + 2) ((headL B1 0).map (Value.int .u8)) := hd
      rw [Nat.mul_comm 15 T] at hd
      generalize W4.drew = W5 at *
      repeat' (first
        | (refine wpRel_quiet (v := ?_) rfl rfl (fun _ _ _ h => h) (by rfl) ?_ ?_
           rotate_left
           · (intro w' hR; go_simp; try rfl)
           simp only [Act.put, List.setIfInBounds_toArray, List.set_cons_zero, List.set_cons_succ])
        | fail)
      refine wpRel_step rfl rfl (by rfl) (fun K' hK => ?_)
      go_simp
      refine (hQ.out).mono ?_
      rintro e W5' ⟨rfl, rfl⟩
      refine hK.out _ _ (Kept.refl _) ?_
      clear hK K'
      try simp only [Act.put, List.setIfInBounds_toArray, List.set_cons_zero, List.set_cons_succ]
      clear hQ Q3
      repeat' (first
        | (refine wpRel_quiet (v := ?_) rfl rfl (fun _ _ _ h => h) (by rfl) ?_ ?_
           rotate_left
           · (intro w' hR; go_simp; try rfl)
           simp only [Act.put, List.setIfInBounds_toArray, List.set_cons_zero, List.set_cons_succ])
        | fail)
      refine wpRel_loadM rfl rfl 34 _ rfl W3.heap.size (T * 15 + 2) (by rfl) _ _ (fun w' hR => rangeAt_keep hd (hR.block _ hlt3)) Tryd.underlying34 rfl (by rw [arrT12.size]; simp [headL_length]) (fun _ _ _ h => h) (by rfl) ?_
      try simp only [Act.put, List.setIfInBounds_toArray, List.set_cons_zero, List.set_cons_succ]
      rw [show (List.map (Value.int .u8) (headL B1 0)).toArray = bV (headL B1 0) from rfl]
      repeat' (first
        | (refine wpRel_quiet (v := ?_) rfl rfl (fun _ _ _ h => h) (by rfl) ?_ ?_
           rotate_left
           · (intro w' hR; go_simp; try rfl)
           simp only [Act.put, List.setIfInBounds_toArray, List.set_cons_zero, List.set_cons_succ])
        | fail)
      refine wpRel_step rfl rfl (by rfl) (fun K' hK => ?_)
      go_simp
      refine (rhead_any B1 0 W5 hB2 (by omega)).mono ?_
      rintro e W6 ⟨rfl, b6⟩
      refine hK.out _ _ b6 ?_
      clear hK K'
      try simp only [Act.put, List.setIfInBounds_toArray, List.set_cons_zero, List.set_cons_succ]
      have hN := run_eq12 (headL B1 0) (headL_length _ _)
      have hN2 := run_same12 (headL B1 0) (headL_length _ _)
      replace C4 := C4.below b6
      replace hq4 := hq4.below b6 hq4.lt
      clear b6 hd hlt3
      repeat' (first
        | (refine wpRel_quiet (v := ?_) rfl rfl (fun _ _ _ h => h) (by rfl) ?_ ?_
           rotate_left
           · (intro w' hR; go_simp; try rfl)
           simp only [Act.put, List.setIfInBounds_toArray, List.set_cons_zero, List.set_cons_succ])
        | fail)
      clear hN hN2
      refine wpRel_step rfl rfl (by rfl) (fun K' hK => ?_)
      go_simp
      refine (awake_any W6 hq4).mono ?_
      rintro e W7 ⟨rfl, b7⟩
      refine hK.out _ _ b7 ?_
      clear hK K'
      try simp only [Act.put, List.setIfInBounds_toArray, List.set_cons_zero, List.set_cons_succ]
      have hbel := C4.bel.trans (b7.mono C4.bel.size)
      repeat' (first
        | (refine wpRel_quiet (v := ?_) rfl rfl (fun _ _ _ h => h) (by rfl) ?_ ?_
           rotate_left
           · (intro w' hR; go_simp; try rfl)
           simp only [Act.put, List.setIfInBounds_toArray, List.set_cons_zero, List.set_cons_succ])
        | fail)
      refine wpRel_nil ?_
      go_wp2_with fail
      go_ret
      exact ⟨rfl, hbel⟩
#print axioms penCounts_walk
end Go.Proofs.YtimeioajfggmlaaDoor
