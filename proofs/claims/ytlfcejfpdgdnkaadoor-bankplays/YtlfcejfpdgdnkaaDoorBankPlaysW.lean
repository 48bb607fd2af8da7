
/- The law BankPlays answers true for every key, number of places and script, wherever quar.rounds reads as its text says; nothing that was there is turned. -/
import Derived.Test.YtlfcejfpdgdnkaaDoorJAwake
import Derived.Test.YtlfcejfpdgdnkaaDoorJPlay
import Derived.Test.YtlfcejfpdgdnkaaDoorXFair
import Derived.Test.YtlfcejfpdgdnkaaDoorJStep
import Derived.Deep.DeepCutAuto
import Derived.Deep.CutBlock
namespace Go.Proofs.YtlfcejfpdgdnkaaDoor
open Go.RowKit
set_option maxRecDepth 20000

theorem str_app (zs : List Int) : (⟨#[61]⟩ ++ strOfNums zs : ByteArray) = strOfNums (61 :: zs) := by
  apply ByteArray.ext
  rw [ByteArray.data_append]
  apply Array.ext'
  simp [strOfNums]
theorem run_cat (zs : List Int) (h : zs.length ≤ 1000000) (w : World) : (Op.stringOp .add ⟨#[61]⟩ (strOfNums zs)).run Tryd.prog w = .ok (.string (strOfNums (61 :: zs))) w := by
  rw [← str_app]
  exact run_string_add_sum w _ _ (by rw [strOfNums_size]; simp [ByteArray.size]; omega)

theorem str_nil : (strOfNums []).toList = [] := by kernel_rfl
theorem str_some {us : List Int} (h : IsBytes us) : ¬ (strOfNums (61 :: us)).toList = [] := fun e => by
  have hb : IsBytes (61 :: us) := fun y hy => by
    rcases List.mem_cons.1 hy with rfl | hy
    · omega
    · exact h y hy
  have := strOfNums_inj hb IsBytes.nil (e.trans str_nil.symm)
  cases this

set_option maxRecDepth 100000 in
set_option maxHeartbeats 64000000 in
theorem bankPlays_walk (key : List Int) (size : Int) {a : Option Addr} {len cap : Nat} {kd pl : Nat → Int} {xs : Nat → BV} (w : World) (hk : IsBytes key) (hkl : key.length = 32) (hl : Sts w a len cap kd pl xs) (hq : Glob w) :
    Calls Tryd.prog 4 #[.agg (bV key), .int .i64 size, .slice a len cap] w fun e w' => e = .returned (.bool true) ∧ Below w.heap.size w w' := by
  have hlc := hl.le_cap
  have hcm := hl.cap_le
  obtain ⟨n, hsz, hn8⟩ : ∃ n : Nat, bits .and .i64 size 7 = (n : Int) - 1 ∧ 1 ≤ n ∧ n ≤ 8 := ⟨(size % 8).toNat + 1, by rw [i64_and7]; omega, by omega⟩
  have hm : (n + 7) / 8 = 1 := by omega
  have hS := KK.start w key hq
  have HL := hide hl
  have HM := hide hm
  clear hl hm
  go_enter Tryd.func4, Tryd.ntmps4
  go_wp2_with fail
  have hbw := hS.bel
  have kk0 := hS.kk
  generalize (w.alloc (Obj.cells (bV key) 29)) = W0 at *
  refine (new_any 20 60 20 60 rfl rfl W0).mono ?_
  rintro e W ⟨g, Z, rfl, hD, hF, hB⟩
  have C : Cl w W Z g (DS.new 20 60) := ⟨hD, fun k hk => Nat.le_trans hbw.size (hF k hk), hbw.trans (hB.mono hbw.size)⟩
  have kk : Has Z W w.heap.size (.cells (bV key) 29 (0, 0)) := ⟨(kk0.below hB : OwnB _ _ _ _), fun hs => by have := hF _ hs; have := kk0.lt; omega⟩
  clear hD hF hB hS kk0 hbw
  have kk1 := kk.1
  go_wp2_with (refine wpList_loadA arrT32 (by rfl) _ (by rfl) w.heap.size (by rfl) (bV key) kk1 (by rw [bV_size, hkl]) ?_)
  refine (pen_new C hk hkl (boot := 1) (by omega)).mono ?_
  rintro e W1 ⟨gp, rfl, hgp, P, b1⟩
  replace C := C.below b1
  replace kk := kk.below b1
  clear b1 kk1 hgp
  have hN := hide (bn_new C P 1 n 1 HM.out (by omega) (by omega))
  clear C P
  go_wp2_with fail
  refine hN.out.mono ?_
  rintro e W2 ⟨gb, gh, gf, rfl, H, b2, -⟩
  replace kk := kk.below b2
  have kk1 := kk.1
  clear hN b2
  have hqW : Glob W2 := hq.below H.cl.bel hq.lt
  have hA := hide (blank_any key 60 W2 hk hkl (by omega) hqW)
  obtain ⟨B, hB⟩ : ∃ B, openB key (zL 60) = B := ⟨_, rfl⟩
  rw [hB] at hA
  cases B with
  | true =>
    have hbel := H.cl.bel
    clear H
    go_wp2_with (refine wpList_loadA arrT32 (by rfl) _ (by rfl) w.heap.size (by rfl) (bV key) kk1 (by rw [bV_size, hkl]) ?_)
    refine hA.out.mono ?_
    rintro e W3 ⟨rfl, b3⟩
    have hb2 := hbel.trans (b3.mono hbel.size)
    go_wp2_with fail
    refine (awake_any W3 (hqW.below b3 hqW.lt)).mono ?_
    rintro e W4 ⟨rfl, b4⟩
    have hb3 := hb2.trans (b4.mono hb2.size)
    go_wp2_with fail
    go_ret
    exact ⟨rfl, hb3⟩
  | false =>
    go_wp2_with (refine wpList_loadA arrT32 (by rfl) _ (by rfl) w.heap.size (by rfl) (bV key) kk1 (by rw [bV_size, hkl]) ?_)
    refine hA.out.mono ?_
    rintro e W3 ⟨rfl, b3⟩
    replace H := H.below b3
    clear hA b3 hqW kk kk1
    go_upto_region 9 with fail
    go_cut [10, 11] (fun v10 v11 wx => ∃ kn kw, v10 = .slice (some ⟨kn, 0, none⟩) n n ∧ v11 = .slice (some ⟨kw, 0, none⟩) n n ∧ W3.heap.size ≤ kn ∧ W3.heap.size ≤ kw ∧ kn ≠ kw ∧ wx.heap[kn]? = some (stO (fun _ => []) n) ∧ wx.heap[kw]? = some (stO (fun _ => []) n) ∧ Below W3.heap.size W3 wx)
    case first =>
      clear H
      refine wp_region_pre Kept [0, 2] 4 (by kernel_rfl) (by kernel_rfl) (by kernel_rfl) Kept.refl Kept.trans ?_
      have hB4 : Below W3.heap.size W3 W3.drew := (Below.refl _ _).drew
      have hN4 := hB4.size
      generalize W3.drew = W4 at *
      repeat' (first
        | (refine wpPre_quiet (v := ?_) rfl (fun _ _ _ h => h) (by rfl) ?_ ?_
           rotate_left
           · (intro w' hR; go_simp; try rfl)
           simp only [Act.put, List.setIfInBounds_toArray, List.set_cons_zero, List.set_cons_succ])
        | fail)
      refine wpPre_nil ?_
      refine wpR_two 1 3 (by kernel_rfl) ?_ ?_
      · refine wpOp_go rfl (by rfl) (fun K' hK => ?_)
        refine wp_make_vals (.string ⟨#[]⟩) 16 Tryd.underlying47 info_str rfl n (by omega) (by omega) _ _ (by rfl) (by rfl) (by rfl) ?_
        have b4 : Below W4.heap.size W4 (W4.alloc (vlO 9 (fun _ => .string ⟨#[]⟩) n)) := below_alloc (Below.refl _ _) _
        have h1 := heap_alloc_new W4 (vlO 9 (fun _ => .string ⟨#[]⟩) n)
        have l1 : W4.heap.size < (W4.alloc (vlO 9 (fun _ => .string ⟨#[]⟩) n)).heap.size := by rw [size_alloc]; omega
        refine hK.out _ _ b4 ?_
        clear hK K'
        try simp only [Act.put, List.setIfInBounds_toArray, List.set_cons_zero, List.set_cons_succ]
        refine wpR_ord [4, 3, 5] (by kernel_rfl) (by kernel_rfl) Kept.refl Kept.trans ?_
        repeat' (first
          | (refine wpRel_quiet (v := ?_) rfl rfl (fun _ _ _ h => h) (by rfl) ?_ ?_
             rotate_left
             · (intro w' hR; go_simp; try rfl)
             simp only [Act.put, List.setIfInBounds_toArray, List.set_cons_zero, List.set_cons_succ])
          | fail)
        refine wpRel_step rfl rfl (by rfl) (fun K' hK => ?_)
        refine wp_make_vals (.string ⟨#[]⟩) 16 Tryd.underlying47 info_str rfl n (by omega) (by omega) _ _ (by rfl) (by rfl) (by rfl) ?_
        have b5 : Below (W4.alloc (vlO 9 (fun _ => .string ⟨#[]⟩) n)).heap.size (W4.alloc (vlO 9 (fun _ => .string ⟨#[]⟩) n)) ((W4.alloc (vlO 9 (fun _ => .string ⟨#[]⟩) n)).alloc (vlO 9 (fun _ => .string ⟨#[]⟩) n)) := below_alloc (Below.refl _ _) _
        have h2 := heap_alloc_new (W4.alloc (vlO 9 (fun _ => .string ⟨#[]⟩) n)) (vlO 9 (fun _ => .string ⟨#[]⟩) n)
        refine hK.out _ _ b5 ?_
        clear hK K'
        try simp only [Act.put, List.setIfInBounds_toArray, List.set_cons_zero, List.set_cons_succ]
        have h1' := (b5.block _ l1).trans h1
        rw [size_alloc] at h2
        have hB6 := hB4.trans ((b4.trans (b5.mono b4.size)).mono hN4)
        repeat' (first
          | (refine wpRel_quiet (v := ?_) rfl rfl (fun _ _ _ h => h) (by rfl) ?_ ?_
             rotate_left
             · (intro w' hR; go_simp; try rfl)
             simp only [Act.put, List.setIfInBounds_toArray, List.set_cons_zero, List.set_cons_succ])
          | fail)
        refine wpRel_nil ?_
        go_wp2_with fail
        go_meet
        case rel => exact ⟨_, _, rfl, rfl, hN4, by omega, by omega, h1', h2, hB6⟩
      · refine wpOp_go rfl (by rfl) (fun K' hK => ?_)
        refine wp_make_vals (.string ⟨#[]⟩) 16 Tryd.underlying47 info_str rfl n (by omega) (by omega) _ _ (by rfl) (by rfl) (by rfl) ?_
        have b4 : Below W4.heap.size W4 (W4.alloc (vlO 9 (fun _ => .string ⟨#[]⟩) n)) := below_alloc (Below.refl _ _) _
        have h1 := heap_alloc_new W4 (vlO 9 (fun _ => .string ⟨#[]⟩) n)
        have l1 : W4.heap.size < (W4.alloc (vlO 9 (fun _ => .string ⟨#[]⟩) n)).heap.size := by rw [size_alloc]; omega
        refine hK.out _ _ b4 ?_
        clear hK K'
        try simp only [Act.put, List.setIfInBounds_toArray, List.set_cons_zero, List.set_cons_succ]
        refine wpR_ord [1, 4, 5] (by kernel_rfl) (by kernel_rfl) Kept.refl Kept.trans ?_

        refine wpRel_step rfl rfl (by rfl) (fun K' hK => ?_)
        refine wp_make_vals (.string ⟨#[]⟩) 16 Tryd.underlying47 info_str rfl n (by omega) (by omega) _ _ (by rfl) (by rfl) (by rfl) ?_
        have b5 : Below (W4.alloc (vlO 9 (fun _ => .string ⟨#[]⟩) n)).heap.size (W4.alloc (vlO 9 (fun _ => .string ⟨#[]⟩) n)) ((W4.alloc (vlO 9 (fun _ => .string ⟨#[]⟩) n)).alloc (vlO 9 (fun _ => .string ⟨#[]⟩) n)) := below_alloc (Below.refl _ _) _
        have h2 := heap_alloc_new (W4.alloc (vlO 9 (fun _ => .string ⟨#[]⟩) n)) (vlO 9 (fun _ => .string ⟨#[]⟩) n)
        refine hK.out _ _ b5 ?_
        clear hK K'
        try simp only [Act.put, List.setIfInBounds_toArray, List.set_cons_zero, List.set_cons_succ]
        have h1' := (b5.block _ l1).trans h1
        rw [size_alloc] at h2
        have hB6 := hB4.trans ((b4.trans (b5.mono b4.size)).mono hN4)
        repeat' (first
          | (refine wpRel_quiet (v := ?_) rfl rfl (fun _ _ _ h => h) (by rfl) ?_ ?_
             rotate_left
             · (intro w' hR; go_simp; try rfl)
             simp only [Act.put, List.setIfInBounds_toArray, List.set_cons_zero, List.set_cons_succ])
          | fail)
        refine wpRel_nil ?_
        go_wp2_with fail
        go_meet
        case rel => exact ⟨_, _, rfl, rfl, by omega, hN4, by omega, h2, h1', hB6⟩
    case rest =>
      obtain ⟨kn, kw, rfl, rfl, hkn, hkw, hnw, hon, how, b6⟩ := hcut
      have hl6 := H.lts
      have hlt6 := H.cl.dk.lt
      have hsz6 := H.cl.size
      have H6 := H.below b6
      have hNn : Has Z wc kn (stO (fun _ => []) n) := ⟨hon, fun hs => by have := hlt6 _ hs; omega⟩
      have hNw : Has Z wc kw (stO (fun _ => []) n) := ⟨how, fun hs => by have := hlt6 _ hs; omega⟩
      clear H b6 hon how hlt6
      have hS0 := hide (bn_state H6 (by omega))
      have HF := hide (And.intro hkn (And.intro hkw (And.intro hnw (And.intro hl6 hsz6))))
      clear hkn hkw hnw hl6 hsz6
      go_wp2_with fail
      refine hS0.out.mono ?_
      rintro e W7 ⟨ks, cst, rfl, hks, B7, b7⟩
      have hnl := hNn.lt
      have hwl := hNw.lt
      have hl7 := H6.lts
      have HI0 : Hid (PlayI w W7 Z key g gp gb gh gf kn kw ks n 0 0 0 cst (DS.new 20 60) (fun _ => zL 60) (onesL 1 n) (zL 1)) := hide (by
        obtain ⟨q1, q2, q3, q4, q5⟩ := HF.out
        have hT : txtL key (zL 60) = [] := txtL_no hB
        refine ⟨H6.below b7, DQ.start 20 60, ?_, ?_, B7, by omega, by omega, by omega, by omega, by omega, by omega, by omega, by omega, by omega, by omega, by omega, by omega, by omega, by omega, by omega, by omega⟩
        · simp only [hT]; exact hNn.below b7
        · simp only [hT]; exact hNw.below b7)
      clear hS0 HF H6 hNn hNw hnl hwl hl7 b7 B7 hks hB
      go_wp2_with fail
      go_loopw [9, 12, 13] (fun v9 v12 v13 wr => ∃ (i gb gh gf ks cst sq t wl : Nat) (Z1 : Own) (D : DS) (T : Nat → List Int) (hs fs : List Int), i ≤ 40 ∧ sq ≤ i ∧ wl ≤ i ∧ t ≤ 11 * i ∧ v9 = .pointer (some ⟨gb, 0, none⟩) ∧ v12 = .slice (some ⟨ks, 0, none⟩) 1 cst ∧ v13 = .int .i64 (i : Int) ∧ PlayI w wr Z1 key g gp gb gh gf kn kw ks n sq t wl cst D T hs fs) (fun _ _ v13 _ => 40 - (intOf v13).toNat)
      case atStart => exact ⟨0, gb, gh, gf, ks, cst, 0, 0, 0, Z, _, _, _, _, by omega, by omega, by omega, by omega, rfl, rfl, rfl, HI0.out⟩
      case round =>
        clear HI0
        obtain ⟨i, gb1, gh1, gf1, ks1, ct1, sq, t, wl, Z1, D, T, hs, fs, hi40, hsq, hwl, ht, rfl, rfl, rfl, hI⟩ := hrel
        by_cases h1 : i < len ∧ i < 40
        · obtain ⟨h1, h2⟩ := h1
          have h2i : (i : Int) < 40 := by omega
          obtain ⟨⟨b, off, rfl, hkc, hpc, hxc⟩, hBx⟩ := HL.out.item i h1
          have hlt := World.block_lt_of_cell? w _ hkc
          have k1 := (hI.bn.cl.bel.cell hlt).trans hkc
          have k2 := (hI.bn.cl.bel.cell (World.block_lt_of_cell? w _ hpc)).trans hpc
          have k3 := (hI.bn.cl.bel.cell (World.block_lt_of_cell? w _ hxc)).trans hxc
          have hBw := hBx.below hI.bn.cl.bel
          have hxl := hBx.length
          have hxcap := hBx.cap_le
          have hxlc := hBx.le_cap
          generalize xs i = x at *
          obtain ⟨xa, xl, xc, xz⟩ := x
          simp only [BV.v] at k3 hBw hxl hBx hxc hxcap hxlc
          have HK := hide (And.intro hkc (And.intro hpc (And.intro hxc hBx)))
          clear hpc hxc hkc hBx hlt
          generalize pl i = pz at *
          generalize kd i = kz at *
          obtain ⟨d, hd⟩ : ∃ d : Nat, bits .and .i64 pz 255 = (d : Int) := ⟨(pz % 256).toNat, by rw [i64_and255]; omega⟩
          obtain ⟨p, hpe⟩ : ∃ p : Nat, p = d % n := ⟨_, rfl⟩
          have hp : (d : Int) % (n : Int) = (p : Int) := by rw [hpe]; omega
          have hpn : p < n := by rw [hpe]; exact Nat.mod_lt _ (by omega)
          clear hpe
          obtain ⟨c, hc, hc7⟩ : ∃ c : Nat, bits .and .i64 kz 7 = (c : Int) ∧ c ≤ 7 := ⟨(kz % 8).toNat, by rw [i64_and7]; omega, by omega⟩
          have HI := hide hI
          clear hI
          obtain ⟨j, hj⟩ : ∃ j, bN 1 p (!bitB hs p) = j := ⟨_, rfl⟩
          have hjn : j < 20 := by
            rw [← hj]
            unfold bN
            cases bitB hs p <;> simp <;> omega
          go_upto_block 2 with fail
          simp only [hp]
          clear k1 k2 hd hp
          have HD := hide hc
          clear hc
          go_cut [9, 12, 14, 72] (fun v9 v12 v14 v72 wx => v14 = .int .i64 (p : Int) ∧ v72 = .int .i64 (c : Int) ∧ ∃ (gb2 gh2 gf2 ks2 ct2 sq2 t2 wl2 : Nat) (Z2 : Own) (D2 : DS) (T2 : Nat → List Int) (hs2 fs2 : List Int), sq2 ≤ i + 1 ∧ wl2 ≤ i + 1 ∧ t2 ≤ 11 * i + 1 ∧ v9 = .pointer (some ⟨gb2, 0, none⟩) ∧ v12 = .slice (some ⟨ks2, 0, none⟩) 1 ct2 ∧ PlayI w wx Z2 key g gp gb2 gh2 gf2 kn kw ks2 n sq2 t2 wl2 ct2 D2 T2 hs2 fs2)
          case first =>
            by_cases hw : c = 0 ∨ c = 4 ∨ c = 5
            · rcases hw with rfl | rfl | rfl
              · by_cases h38 : xl ≤ 38
                · have e38 : decide ((xl : Int) ≤ 38) = true := decide_eq_true (by omega)
                  have hW := hide (bn_write HI.out.bn HI.out.q hq (by omega) (by omega) (by omega) p hpn j hj hjn hBw 38 rfl h38)
                  go_wp2_with fail
                  refine hW.out.mono ?_
                  rintro e W8 ⟨Z8, D8, rfl, H8, q8, k8, -⟩
                  obtain ⟨-, -, hxc, hBx⟩ := HK.out
                  have k4 := (H8.cl.bel.cell (World.block_lt_of_cell? w _ hxc)).trans hxc
                  have hB8 := hBx.below H8.cl.bel
                  have sB : (convert 36 9 (.slice xa xl xc)).run Tryd.prog W8 = .ok (.string (strOfNums xz)) W8 := str_bytes hB8
                  obtain ⟨r1, r2, -, -⟩ := open_is key 1 (sq : Int) xz 38 (by omega) (by omega) hB8.bytes (by rw [hxl]; exact h38) (by omega)
                  have HJ := hide (HI.out.wrote hpn hj r2 r1 k8 H8 q8)
                  have hn := k8.has HI.out.now HI.out.xn
                  have zf := vl_froz hn.1 p
                  have cf := st_cell hn.1 p hpn
                  have happ := run_cat xz (by omega)
                  clear hW H8 q8 k8 hxc hBx hB8 r1 r2 hn k3 hBw
                  go_wp2_with fail
                  go_meet
                  case rel => exact ⟨rfl, rfl, _, _, _, _, _, _, _, _, _, _, _, _, _, by omega, by omega, by omega, rfl, rfl, HJ.out⟩
                · have e38 : decide ((xl : Int) ≤ 38) = false := decide_eq_false (by omega)
                  have hW := hide (bn_write_no HI.out.bn p hpn (by omega : xl ≤ 9223372036854775807) HI.out.q.size (by omega) (a := xa) (cap := xc))
                  go_wp2_with fail
                  refine hW.out.mono ?_
                  rintro e W8 ⟨rfl, b8⟩
                  have HJ := hide (HI.out.below b8)
                  obtain ⟨-, -, hxc, hBx⟩ := HK.out
                  have k4 := (HJ.out.bn.cl.bel.cell (World.block_lt_of_cell? w _ hxc)).trans hxc
                  clear hW b8 hxc hBx k3 hBw
                  go_wp2_with fail
                  go_meet
                  case rel => exact ⟨rfl, rfl, _, _, _, _, _, _, _, _, _, _, _, _, _, by omega, by omega, by omega, rfl, rfl, HJ.out⟩
              · by_cases h38 : xl ≤ 38
                · have e38 : decide ((xl : Int) ≤ 38) = true := decide_eq_true (by omega)
                  have hW := hide (bn_write HI.out.bn HI.out.q hq (by omega) (by omega) (by omega) p hpn j hj hjn hBw 38 rfl h38)
                  go_wp2_with fail
                  refine hW.out.mono ?_
                  rintro e W8 ⟨Z8, D8, rfl, H8, q8, k8, -⟩
                  obtain ⟨-, -, hxc, hBx⟩ := HK.out
                  have k4 := (H8.cl.bel.cell (World.block_lt_of_cell? w _ hxc)).trans hxc
                  have hB8 := hBx.below H8.cl.bel
                  have sB : (convert 36 9 (.slice xa xl xc)).run Tryd.prog W8 = .ok (.string (strOfNums xz)) W8 := str_bytes hB8
                  obtain ⟨r1, r2, -, -⟩ := open_is key 1 (sq : Int) xz 38 (by omega) (by omega) hB8.bytes (by rw [hxl]; exact h38) (by omega)
                  have HJ := hide (HI.out.wrote hpn hj r2 r1 k8 H8 q8)
                  have hn := k8.has HI.out.now HI.out.xn
                  have zf := vl_froz hn.1 p
                  have cf := st_cell hn.1 p hpn
                  have happ := run_cat xz (by omega)
                  clear hW H8 q8 k8 hxc hBx hB8 r1 r2 hn k3 hBw
                  go_wp2_with fail
                  go_meet
                  case rel => exact ⟨rfl, rfl, _, _, _, _, _, _, _, _, _, _, _, _, _, by omega, by omega, by omega, rfl, rfl, HJ.out⟩
                · have e38 : decide ((xl : Int) ≤ 38) = false := decide_eq_false (by omega)
                  have hW := hide (bn_write_no HI.out.bn p hpn (by omega : xl ≤ 9223372036854775807) HI.out.q.size (by omega) (a := xa) (cap := xc))
                  go_wp2_with fail
                  refine hW.out.mono ?_
                  rintro e W8 ⟨rfl, b8⟩
                  have HJ := hide (HI.out.below b8)
                  obtain ⟨-, -, hxc, hBx⟩ := HK.out
                  have k4 := (HJ.out.bn.cl.bel.cell (World.block_lt_of_cell? w _ hxc)).trans hxc
                  clear hW b8 hxc hBx k3 hBw
                  go_wp2_with fail
                  go_meet
                  case rel => exact ⟨rfl, rfl, _, _, _, _, _, _, _, _, _, _, _, _, _, by omega, by omega, by omega, rfl, rfl, HJ.out⟩
              · by_cases h38 : xl ≤ 38
                · have e38 : decide ((xl : Int) ≤ 38) = true := decide_eq_true (by omega)
                  have hW := hide (bn_write HI.out.bn HI.out.q hq (by omega) (by omega) (by omega) p hpn j hj hjn hBw 38 rfl h38)
                  go_wp2_with fail
                  refine hW.out.mono ?_
                  rintro e W8 ⟨Z8, D8, rfl, H8, q8, k8, -⟩
                  obtain ⟨-, -, hxc, hBx⟩ := HK.out
                  have k4 := (H8.cl.bel.cell (World.block_lt_of_cell? w _ hxc)).trans hxc
                  have hB8 := hBx.below H8.cl.bel
                  have sB : (convert 36 9 (.slice xa xl xc)).run Tryd.prog W8 = .ok (.string (strOfNums xz)) W8 := str_bytes hB8
                  obtain ⟨r1, r2, -, -⟩ := open_is key 1 (sq : Int) xz 38 (by omega) (by omega) hB8.bytes (by rw [hxl]; exact h38) (by omega)
                  have HJ := hide (HI.out.wrote hpn hj r2 r1 k8 H8 q8)
                  have hn := k8.has HI.out.now HI.out.xn
                  have zf := vl_froz hn.1 p
                  have cf := st_cell hn.1 p hpn
                  have happ := run_cat xz (by omega)
                  clear hW H8 q8 k8 hxc hBx hB8 r1 r2 hn k3 hBw
                  go_wp2_with fail
                  go_meet
                  case rel => exact ⟨rfl, rfl, _, _, _, _, _, _, _, _, _, _, _, _, _, by omega, by omega, by omega, rfl, rfl, HJ.out⟩
                · have e38 : decide ((xl : Int) ≤ 38) = false := decide_eq_false (by omega)
                  have hW := hide (bn_write_no HI.out.bn p hpn (by omega : xl ≤ 9223372036854775807) HI.out.q.size (by omega) (a := xa) (cap := xc))
                  go_wp2_with fail
                  refine hW.out.mono ?_
                  rintro e W8 ⟨rfl, b8⟩
                  have HJ := hide (HI.out.below b8)
                  obtain ⟨-, -, hxc, hBx⟩ := HK.out
                  have k4 := (HJ.out.bn.cl.bel.cell (World.block_lt_of_cell? w _ hxc)).trans hxc
                  clear hW b8 hxc hBx k3 hBw
                  go_wp2_with fail
                  go_meet
                  case rel => exact ⟨rfl, rfl, _, _, _, _, _, _, _, _, _, _, _, _, _, by omega, by omega, by omega, rfl, rfl, HJ.out⟩
            · by_cases hc1 : c = 1
              · subst hc1
                clear hw
                have hC := hide (bn_commit HI.out.bn)
                go_wp2_with fail
                refine hC.out.mono ?_
                rintro e W8 ⟨rfl, H8, k8⟩
                have hSt := hide (bn_state H8 (by omega))
                clear hC
                go_wp2_with fail
                refine hSt.out.mono ?_
                rintro e W9 ⟨kt, ct, rfl, hkt, B9, b9⟩
                obtain ⟨W10, hr10, hJ⟩ := HI.out.committed k8 H8 b9 hkt B9
                have HJ := hide hJ
                clear hSt H8 k8 hkt B9 b9 hJ k3 hBw
                go_wp2_with fail
                go_meet
                case rel => exact ⟨rfl, rfl, _, _, _, _, _, _, _, _, _, _, _, _, _, by omega, by omega, by omega, rfl, rfl, HJ.out⟩
              · by_cases hc2 : c = 2
                · subst hc2
                  clear hw hc1
                  have hN2 := hide (bn_new HI.out.bn.cl HI.out.bn.pn 1 n 1 HM.out (by omega) (by omega))
                  go_wp2_with fail
                  refine hN2.out.mono ?_
                  rintro e W8 ⟨gb2, gh2, gf2, rfl, H8, b8, g1, g2, g3⟩
                  have hB8 := HI.out.st.step (Step.of_below _ b8)
                  have hLd := hide (bn_load H8 hB8.bs HI.out.bn.bk.okh)
                  clear hN2 H8 hB8
                  go_wp2_with fail
                  refine hLd.out.mono ?_
                  rintro e W9 ⟨rfl, H9, k9⟩
                  obtain ⟨W10, hr10, hJ⟩ := HI.out.loaded b8 g1 g2 g3 k9 H9
                  have HJ := hide hJ
                  clear hLd H9 k9 hJ b8 g1 g2 g3 k3 hBw
                  go_wp2_with fail
                  go_meet
                  case rel => exact ⟨rfl, rfl, _, _, _, _, _, _, _, _, _, _, _, _, _, by omega, by omega, by omega, rfl, rfl, HJ.out⟩
                · have b0 : ((c : Int) == 0) = false := by rw [beq_eq_false_iff_ne]; omega
                  have b1 : ((c : Int) == 1) = false := by rw [beq_eq_false_iff_ne]; omega
                  have b2 : ((c : Int) == 2) = false := by rw [beq_eq_false_iff_ne]; omega
                  have b4 : ((c : Int) == 4) = false := by rw [beq_eq_false_iff_ne]; omega
                  have b5 : ((c : Int) == 5) = false := by rw [beq_eq_false_iff_ne]; omega
                  clear k3 hBw hw hc1 hc2
                  go_wp2_with fail
                  go_meet
                  case rel => exact ⟨rfl, rfl, _, _, _, _, _, _, _, _, _, _, _, _, _, by omega, by omega, by omega, rfl, rfl, HI.out⟩
          case rest =>
            obtain ⟨rfl, rfl, gb2, gh2, gf2, ks2, ct2, sq2, t2, wl2, Z2, D2, T2, hs2, fs2, hsq2, hwl2, ht2, rfl, rfl, hJ⟩ := hcut
            have HJ0 := hide hJ
            clear hJ HI hj hjn k3 hBw hsq hwl ht
            go_wp2_with fail
            go_loopw [16] (fun v16 wr2 => ∃ (k t3 : Nat) (Z3 : Own) (D3 : DS), k ≤ n + 2 ∧ v16 = .int .i64 ((k : Int) - 1) ∧ t3 ≤ 11 * i + 1 + k ∧ PlayI w wr2 Z3 key g gp gb2 gh2 gf2 kn kw ks2 n sq2 t3 wl2 ct2 D3 T2 hs2 fs2) (fun v16 _ => n + 2 - (intOf v16 + 1).toNat)
            case atStart => exact ⟨0, t2, Z2, D2, by omega, rfl, by omega, HJ0.out⟩
            case round =>
              clear HJ0
              obtain ⟨k, t3, Z3, D3, hk, rfl, ht3, hJ⟩ := hrel
              by_cases hk0 : k = 0
              · subst hk0
                have hR := hide (bank_read_no hJ.bn.bk (-1) (by simp [hasI]))
                have HJ := hide hJ
                clear hJ
                go_wp2_with fail
                refine hR.out.mono ?_
                rintro e _ ⟨rfl, rfl⟩
                clear hR
                go_wp2_with fail
                go_roundw
                case rel => exact ⟨1, t3, Z3, D3, by omega, by go_num, by omega, HJ.out⟩
                case measure => simp [intOf]
              · by_cases hkn : k ≤ n
                · obtain ⟨q, rfl⟩ : ∃ q, k = q + 1 := ⟨k - 1, by omega⟩
                  have eq1 : ((q + 1 : Nat) : Int) - 1 = (q : Int) := by omega
                  simp only [eq1]
                  clear eq1 hk0
                  obtain ⟨r, hr⟩ : ∃ r, bN 1 q (bitB hs2 q != bitB fs2 q) = r := ⟨_, rfl⟩
                  have hr20 : r < 20 := by
                    rw [← hr]
                    unfold bN
                    cases (bitB hs2 q != bitB fs2 q) <;> simp <;> omega
                  obtain ⟨us, hus⟩ : ∃ us, openR key (T2 r) = us := ⟨_, rfl⟩
                  obtain ⟨ob, hob⟩ : ∃ ob, openB key (T2 r) = ob := ⟨_, rfl⟩
                  have hR := hide (bn_read hJ.bn hJ.q hq (by omega) q (by omega) r hr hr20 us ob hus hob)
                  have hul : us.length ≤ 1000000 := by
                    have hT := (hJ.q.at_ r).symm
                    have hTl : (T2 r).length ≤ 60 := by
                      rw [hT]
                      unfold DS.at_
                      rw [fitL_length, hJ.q.size]
                      omega
                    rw [← hus]
                    unfold openR
                    cases ho : openL key (T2 r) with
                    | none => simp
                    | some u => have := openL_short ho; simp; omega
                  have HJ := hide hJ
                  clear hJ hr20
                  cases ob with
                  | true =>
                    have HTX := hide (show txtL key (T2 (bN 1 q (bitB hs2 q != bitB fs2 q))) = 61 :: us by rw [hr, txtL_yes hob, hus])
                    clear hob hus hr
                    go_wp2_with fail
                    refine hR.out.mono ?_
                    rintro e W8 ⟨Z8, p8, c8, D8, rfl, B8, H8, q8, k8, -, -⟩
                    have hJ8 := HJ.out.go k8 H8 q8
                    have hc8 : W8.cell? ⟨kn, q, none⟩ = some (.string (strOfNums (61 :: us))) := by
                      have := st_cell hJ8.now.1 q (by omega)
                      simpa only [HTX.out] using this
                    have sx : (convert 36 9 (.slice p8 us.length c8)).run Tryd.prog W8 = .ok (.string (strOfNums us)) W8 := str_bytes B8.bs
                    have hcat := run_cat us hul
                    have hy1 := str_some B8.bs.bytes
                    have hy2 : (strOfNums (61 :: us)).toList.isEmpty = false := List.isEmpty_eq_false_iff.2 hy1
                    have HJ8 := hide hJ8
                    clear hR HJ hJ8 B8 H8 q8 k8 HTX
                    have hqn : q < n := by omega
                    go_wp2_with fail
                    go_roundw
                    case rel => exact ⟨q + 2, t3 + 1, Z8, D8, by omega, by go_num, by omega, HJ8.out⟩
                    case measure => simp [intOf]; omega
                  | false =>
                    have HTX := hide (show txtL key (T2 (bN 1 q (bitB hs2 q != bitB fs2 q))) = [] by rw [hr, txtL_no hob])
                    clear hob hus hr
                    go_wp2_with fail
                    refine hR.out.mono ?_
                    rintro e W8 ⟨Z8, p8, c8, D8, rfl, B8, H8, q8, k8, -, -⟩
                    have hJ8 := HJ.out.go k8 H8 q8
                    have hc8 : W8.cell? ⟨kn, q, none⟩ = some (.string ⟨#[]⟩) := by
                      have := st_cell hJ8.now.1 q (by omega)
                      simp only [HTX.out] at this
                      exact this
                    have HJ8 := hide hJ8
                    clear hR HJ hJ8 B8 H8 q8 k8 HTX
                    have hqn : q < n := by omega
                    go_wp2_with fail
                    go_roundw
                    case rel => exact ⟨q + 2, t3 + 1, Z8, D8, by omega, by go_num, by omega, HJ8.out⟩
                    case measure => simp [intOf]; omega
                · by_cases hkn1 : k = n + 1
                  · subst hkn1
                    have eq1 : ((n + 1 : Nat) : Int) - 1 = (n : Int) := by omega
                    simp only [eq1]
                    clear eq1 hk0 hkn
                    have hR := hide (bank_read_no hJ.bn.bk (n : Int) (by simp [hasI]))
                    have HJ := hide hJ
                    clear hJ
                    go_wp2_with fail
                    refine hR.out.mono ?_
                    rintro e _ ⟨rfl, rfl⟩
                    clear hR
                    go_wp2_with fail
                    go_roundw
                    case rel => exact ⟨n + 2, t3, Z3, D3, by omega, by go_num, by omega, HJ.out⟩
                    case measure => simp [intOf]; omega
                  · have hx : ¬ (k : Int) - 1 ≤ (n : Int) := by omega
                    go_wp2_with fail
                    refine wp_region_rel Kept [0, 3, 4, 1, 2, 5, 6, 7, 8, 9, 10, 11, 12, 13, 14] (by kernel_rfl) (by kernel_rfl) (by kernel_rfl) Kept.refl Kept.trans ?_
                    have sd : Below wr.heap.size wr wr.drew := (Below.refl _ _).drew
                    replace hJ := hJ.below sd
                    clear sd
                    generalize wr.drew = W8 at *
                    have hSt := hide (bn_state hJ.bn (by omega))
                    have C8 := hJ.st.bs
                    have HJ8 := hide hJ
                    clear hJ
                    repeat' (first
                      | (refine wpRel_quiet (v := ?_) rfl rfl (fun _ _ _ h => h) (by rfl) ?_ ?_
                         rotate_left
                         · (intro w' hR; have q1 := str_bytes (C8.below hR); go_simp; try rfl)
                         simp only [Act.put, List.setIfInBounds_toArray, List.set_cons_zero, List.set_cons_succ])
                      | fail)
                    refine wpRel_step rfl rfl (by rfl) (fun K' hK => ?_)
                    go_simp
                    refine (hSt.out).mono ?_
                    rintro e W9 ⟨kt, ct, rfl, hkt, B9, b9⟩
                    refine hK.out _ _ b9 ?_
                    clear hK K'
                    try simp only [Act.put, List.setIfInBounds_toArray, List.set_cons_zero, List.set_cons_succ]
                    have D9 := B9.bs
                    have HJ9 := hide (HJ8.out.below b9)
                    clear hSt HJ8 b9 hkt B9 C8
                    repeat' (first
                      | (refine wpRel_quiet (v := ?_) rfl rfl (fun _ _ _ h => h) (by rfl) ?_ ?_
                         rotate_left
                         · (intro w' hR; have q2 := str_bytes (D9.below hR); go_simp; try rfl)
                         simp only [Act.put, List.setIfInBounds_toArray, List.set_cons_zero, List.set_cons_succ])
                      | fail)
                    repeat' (first
                      | (refine wpRel_pass rfl (fun _ _ _ h => h) (by rfl) (Kept.refl _) ?_
                         simp only [Act.put, List.setIfInBounds_toArray, List.set_cons_zero, List.set_cons_succ])
                      | fail)
                    repeat' (first
                      | (refine wpRel_quiet (v := ?_) rfl rfl (fun _ _ _ h => h) (by rfl) ?_ ?_
                         rotate_left
                         · (intro w' hR; go_simp; try rfl)
                         simp only [Act.put, List.setIfInBounds_toArray, List.set_cons_zero, List.set_cons_succ])
                      | fail)
                    refine wpRel_nil ?_
                    go_wp2_with fail
                    go_roundw
                    case rel => exact ⟨i + 1, gb2, gh2, gf2, ks2, ct2, sq2, t3, wl2, Z3, D3, T2, hs2, fs2, by omega, by omega, by omega, by omega, rfl, rfl, by go_num, HJ9.out⟩
                    case measure => simp [intOf]; omega
        · have hbel := hI.bn.cl.bel
          clear hI
          by_cases h1b : i < len
          · have h2b : ¬ (i : Int) < 40 := by omega
            go_wp2_with fail
            refine (awake_any _ (hq.below hbel hq.lt)).mono ?_
            rintro e W9 ⟨rfl, b9⟩
            have hb9 := hbel.trans (b9.mono hbel.size)
            clear b9
            go_wp2_with fail
            go_ret
            exact ⟨rfl, hb9⟩
          · have h1c : ¬ (i : Int) < (len : Int) := by omega
            go_wp2_with fail
            refine (awake_any _ (hq.below hbel hq.lt)).mono ?_
            rintro e W9 ⟨rfl, b9⟩
            have hb9 := hbel.trans (b9.mono hbel.size)
            clear b9
            go_wp2_with fail
            go_ret
            exact ⟨rfl, hb9⟩
#print axioms bankPlays_walk
end Go.Proofs.YtlfcejfpdgdnkaaDoor
