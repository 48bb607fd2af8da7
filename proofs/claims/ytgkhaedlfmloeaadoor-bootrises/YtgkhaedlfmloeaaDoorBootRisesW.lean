
/- The walk of dumbwaiterlaw8.BootRises: for any rows of ints it answers true; nothing that was there is turned. The variable of package disk holds its error. -/
import Derived.Test.YtgkhaedlfmloeaaDoorBRise
namespace Go.Proofs.YtgkhaedlfmloeaaDoor
open Go.RowKit

/-- A variable that holds the device, one that holds a number, one that holds an answer. -/
abbrev dvO (g : Nat) : Obj := .cells #[.pointer (some ⟨g, 0, none⟩)] 23 (0, 0)
abbrev nvO (n : Int) : Obj := .cells #[.int .u32 n] 22 (0, 0)
abbrev evO (n : Int) : Obj := .cells #[.int .i64 n] 30 (0, 0)
theorem nv_set {w : World} {g : Nat} {n m : Int} (h : w.heap[g]? = some (nvO n)) : (w.setCell ⟨g, 0, none⟩ (.int .u32 m)).heap[g]? = some (nvO m) := by
  rw [heap_setCell_same w g 0 _ _ _ h]
  rfl
theorem ev_set {w : World} {g : Nat} {n m : Int} (h : w.heap[g]? = some (evO n)) : (w.setCell ⟨g, 0, none⟩ (.int .i64 m)).heap[g]? = some (evO m) := by
  rw [heap_setCell_same w g 0 _ _ _ h]
  rfl
theorem Ns.cut {k : IntKind} {w : World} {a : Option Addr} {len cap : Nat} {zs : List Int} (h : Ns k w a len cap zs) (l : Nat) (hl : l ≤ len) : Ns k w (cutA a cap l) (len - l) (cap - l) (zs.drop l) := by
  have hlc := h.le_cap
  have hcc := h.cap_le
  refine ⟨by rw [List.length_drop, h.length], by omega, by omega, fun z hz => h.wf z (List.mem_of_mem_drop hz), ?_⟩
  unfold cutA
  by_cases hc0 : cap = l
  · exact .inl (by omega)
  · rw [if_neg hc0]
    rcases h.place with h1 | ⟨b, off, rfl, hc⟩
    · omega
    · refine .inr ⟨b, off + l, by simp [addr_add], fun i hi => ?_⟩
      have := hc (l + i) (by omega)
      rw [show off + l + i = off + (l + i) by omega, this]
      congr 2
      simp [List.getD, List.getElem?_drop]

section
variable {w0 W : World} {Z : Own} {g dv nv ev : Nat} {D : DS} {p : Addr}
set_option maxHeartbeats 4000000 in
theorem rises1_ok (h : Cl w0 W Z g D) (hl : D.left < 0 ∨ 4 ≤ D.left) (hlim : D.tr.length < 1000) (hw : D.wait = []) (hs : D.size = 40) (hn3 : D.n = 3) (N : Int) (hN : topN D 0 = N) (hN2 : N < 4294967295)
    (hd : Has Z W dv (dvO g)) (hn : Has Z W nv (nvO 0)) (he : Has Z W ev (evO 0)) (hwd : w0.heap.size ≤ dv) (hwn : dv < nv) (hwe : nv < ev) :
    Calls Tryd.prog 23 #[.pointer (some ⟨dv, 0, none⟩), .pointer (some ⟨nv, 0, none⟩), .pointer (some ⟨ev, 0, none⟩)] W fun e W' => e = .returned (.tuple #[]) ∧
      ∃ Z' x, x.zs = recL (N + 1) ∧ Cl w0 W' Z' g (D.begun 0 (N + 1) x) ∧ Has Z' W' dv (dvO g) ∧ Has Z' W' nv (nvO (N + 1)) ∧ Has Z' W' ev (evO 0) := by
  have c1 := hd.var
  have HB := hide (bump_ok h hl (by omega) (by rw [hw]; simp) (by omega) 0 (by omega) (by omega) N hN hN2)
  have HD := hide hd
  have HN := hide hn
  have HE := hide he
  have hbase := h.size
  clear h hd hn he
  go_enter Tryd.func23, Tryd.ntmps23
  go_wp2_with fail
  refine HB.out.mono ?_
  rintro e W1 ⟨Z1, x, rfl, hx, C1, s1⟩
  have D1 := HD.out.step s1
  have N1 := HN.out.step s1
  have E1 := HE.out.step s1
  have k1 := N1.var
  have k2 := E1.var
  have f1 := frozen_of_row W1 nv 0 _ _ N1.1
  have o1 := OnlyAt.setCell nv 0 W1 (.int .u32 (N + 1))
  have C2 := C1.only o1 N1.2 (by omega)
  have D2 := D1.only o1 (by omega)
  have E2 := E1.only o1 (by omega)
  have N2 : Has Z1 (W1.setCell ⟨nv, 0, none⟩ (.int .u32 (N + 1))) nv (nvO (N + 1)) := ⟨nv_set N1.1, N1.2⟩
  clear HB HD HN HE s1 D1 N1 E1 o1 C1 c1 k2
  have k2 := E2.var
  have f2 := frozen_of_row _ ev 0 _ _ E2.1
  have o2 := OnlyAt.setCell ev 0 (W1.setCell ⟨nv, 0, none⟩ (.int .u32 (N + 1))) (.int .i64 0)
  have C3 := C2.only o2 E2.2 (by omega)
  have D3 := D2.only o2 (by omega)
  have N3 := N2.only o2 (by omega)
  have E3 : Has Z1 ((W1.setCell ⟨nv, 0, none⟩ (.int .u32 (N + 1))).setCell ⟨ev, 0, none⟩ (.int .i64 0)) ev (evO 0) := ⟨ev_set E2.1, E2.2⟩
  clear o2 C2 D2 N2 E2
  go_wp2_with fail
  refine bodyPost_end (results_none rfl _ _ _) rfl ?_
  exact ⟨rfl, Z1, x, hx.out, C3, D3, N3, E3⟩
set_option maxHeartbeats 4000000 in
theorem rises1_no (h : Cl w0 W Z g D) (hp : Pow p w0) (hl : D.left = 0 ∨ D.left = 1 ∨ D.left = 2 ∨ D.left = 3) (hlim : D.tr.length < 1000) (hw : D.wait = []) (hs : D.size = 40) (hn3 : D.n = 3) (N : Int) (hN : topN D 0 = N) (hN2 : N < 4294967295)
    (hd : Has Z W dv (dvO g)) (hn : Has Z W nv (nvO 0)) (he : Has Z W ev (evO 0)) :
    Calls Tryd.prog 23 #[.pointer (some ⟨dv, 0, none⟩), .pointer (some ⟨nv, 0, none⟩), .pointer (some ⟨ev, 0, none⟩)] W fun e W' => e = .panicked [{ v := errV p, recovered := false }] ∧
      ∃ Z' D', Cutoff D 0 N D' ∧ Cl w0 W' Z' g D' ∧ Has Z' W' dv (dvO g) ∧ Has Z' W' nv (nvO 0) ∧ Has Z' W' ev (evO 0) := by
  have c1 := hd.var
  have HB := hide (bump_cut h hp hl (by omega) (by rw [hw]; simp) (by omega) 0 (by omega) (by omega) N hN hN2)
  have HD := hide hd
  have HN := hide hn
  have HE := hide he
  clear h hd hn he
  go_enter Tryd.func23, Tryd.ntmps23
  go_wp2_with fail
  refine HB.out.mono ?_
  rintro e W1 ⟨Z1, D', rfl, hC, _, C1, s1⟩
  have D1 := HD.out.step s1
  have N1 := HN.out.step s1
  have E1 := HE.out.step s1
  clear c1
  go_wp2_with fail
  exact ⟨rfl, rfl, Z1, D', hC, C1, D1, N1, E1⟩
end
#print axioms rises1_ok
#print axioms rises1_no

/-- What stands in the loop. -/
structure RisesI (w wr : World) (Z : Own) (g dv k : Nat) (D : DS) (last : Int) : Prop where
  cl : Cl w wr Z g D
  dvh : Has Z wr dv (dvO g)
  base : w.heap.size ≤ dv
  rise : Rise D last
  left : D.left = -1
  tr : D.tr.length ≤ 7 * k
  top : topN D 0 ≤ k
  low : 0 ≤ last
theorem size_i64 : (Tryd.prog.info? 3).map (·.size) = some 1 := by kernel_rfl
theorem cut7 (z : Int) : -1 ≤ IntKind.i64.wrap (bits BinOp.and IntKind.i64 z 7 - 1) ∧ IntKind.i64.wrap (bits BinOp.and IntKind.i64 z 7 - 1) ≤ 6 := by
  rw [i64_and7, IntKind.wrap_i64]
  omega

set_option maxRecDepth 100000 in
set_option maxHeartbeats 8000000 in
theorem bootRises_walk {a : Option Addr} {la ca : Nat} {xs : List Int} {b : Option Addr} {lb cb : Nat} {ch : List Int} {p : Addr} (w : World) (ha : Ns .i64 w a la ca xs) (hb : Ns .i64 w b lb cb ch) (hp : Pow p w) :
    Calls Tryd.prog 6 #[.slice a la ca, .slice b lb cb] w fun e w' => e = .returned (.bool true) ∧ Below w.heap.size w w' := by
  have hla := ha.le_cap
  have hca := ha.cap_le
  have hlb := hb.le_cap
  have hcb := hb.cap_le
  have hmf : ∀ (fn : Fn) (first cap : Array Value) (w : World), (Instr.makeFunc fn first cap).run Tryd.prog w = .ok (.func fn first cap) w := fun _ _ _ _ => rfl
  have e1 : ∀ args w, (callFunc 23 args).run Tryd.prog w = .ok (.enter 23 args) w := enters_of Tryd.func23 (by kernel_rfl) rfl
  go_enter Tryd.func6, Tryd.ntmps6
  go_wp2_with fail
  refine (new_any 3 40 3 40 rfl rfl w).mono ?_
  rintro e W ⟨g, Z, rfl, hD, hF, hB⟩
  have C : Cl w W Z g (DS.new 3 40) := ⟨hD, hF, hB⟩
  have V := C.new (dvO g)
  have hdv := C.size
  replace C := C.alloc (dvO g)
  clear hD hF hB
  have HV := hide V
  have HC := hide C
  clear V C
  go_wp2_with fail
  generalize (W.alloc (dvO g)) = W0 at *
  generalize W.heap.size = dv at *
  have c0 := HV.out.var
  go_wp2_with fail
  go_loopw [6, 7] (fun v i wr => ∃ (k : Nat) (Z : Own) (D : DS) (last : Int), k ≤ la ∧ k ≤ 40 ∧ i = .int .i64 k ∧ v = .int .u32 last ∧ RisesI w wr Z g dv k D last) (fun _ i _ => 40 - (intOf i).toNat)
  case atStart => exact ⟨0, Z, DS.new 3 40, 0, by omega, by omega, rfl, rfl, HC.out, HV.out, hdv, Rise.new, rfl, by simp [DS.new], by rw [topN_new]; omega, by omega⟩
  case round =>
    obtain ⟨k, Z1, D, last, hk, hk40, rfl, rfl, hI⟩ := hrel
    clear HV HC c0
    have c0 := hI.dvh.var
    by_cases hkl : k < la
    · by_cases h40 : k < 40
      · have hz0 := int_of_wf (ha.getD k hkl)
        obtain ⟨tb, toff, rfl, hcw⟩ : ∃ tb toff, a = some ⟨tb, toff, none⟩ ∧ w.cell? ⟨tb, toff + k, none⟩ = some (.int .i64 (xs.getD k 0)) := by
          rcases ha.place with h | ⟨tb, toff, e, hc⟩
          · omega
          · exact ⟨tb, toff, e, hc k hkl⟩
        have htc : wr.cell? ⟨tb, toff + k, none⟩ = some (.int .i64 (xs.getD k 0)) := (hI.cl.bel.cell (World.block_lt_of_cell? w _ hcw)).trans hcw
        have hcc := cut7 (xs.getD k 0)
        generalize xs.getD k 0 = z at *
        go_wp2_with fail
        refine wp_region_ord 1000 [0, 1, 2, 3, 4, 5, 6, 7] (fun w' => w'.cell? ⟨dv, 0, none⟩ = some (.pointer (some ⟨g, 0, none⟩)) ∧ w'.cell? ⟨tb, toff + k, none⟩ = some (.int .i64 z)) (fun _ => True) (by kernel_rfl) (by kernel_rfl) (by kernel_rfl) ⟨c0, htc⟩ trivial (fun _ _ => ?_)
        have C1 := hI.cl.drew
        have V1 : Has Z1 wr.drew dv (dvO g) := hI.dvh
        have T1 : wr.drew.cell? ⟨tb, toff + k, none⟩ = some (.int .i64 z) := htc
        clear c0 htc
        generalize wr.drew = W1 at *
        repeat' (first
          | (refine wpOrd_quiet (v := ?_) rfl rfl (fun _ _ _ h => h) (by rfl) ?_ ?_
             rotate_left
             · (intro w' hT _; obtain ⟨t1, t2⟩ := hT; go_simp; try rfl)
             simp only [Act.put, List.setIfInBounds_toArray, List.set_cons_zero, List.set_cons_succ])
          | fail)
        refine wpOrd_step rfl rfl (by rfl) (fun K' hK => ?_)
        go_simp
        generalize IntKind.i64.wrap (bits BinOp.and IntKind.i64 z 7 - 1) = c at hcc ⊢
        refine (C1.cut (by have := hI.left; omega) c (by omega)).mono ?_
        rintro e W2 ⟨rfl, C2, s2⟩
        have V2 := V1.step s2
        refine hK.out _ _ ⟨V2.var, (C2.bel.cell (World.block_lt_of_cell? w _ hcw)).trans hcw⟩ (fun h => absurd h (by decide)) (fun _ => ?_)
        clear hK K'
        try simp only [Act.put, List.setIfInBounds_toArray, List.set_cons_zero, List.set_cons_succ]
        clear C1 V1 T1 s2 hcw hz0
        have hrise := hI.rise
        have hleft := hI.left
        have htr := hI.tr
        have htop := hI.top
        have hlow := hI.low
        have hbase := hI.base
        clear hI
        refine wpOrd_nil ?_
        have N3 := C2.new (nvO 0)
        have V3 := V2.alloc (nvO 0)
        have C3 := C2.alloc (nvO 0)
        have E4 := C3.new (evO 0)
        have N4 := N3.alloc (evO 0)
        have V4 := V3.alloc (evO 0)
        have C4 := C3.alloc (evO 0)
        have hsz : (W2.alloc (nvO 0)).heap.size = W2.heap.size + 1 := size_alloc _ _
        have hdvl := V2.lt
        go_wp2_with fail
        rw [hsz] at E4
        generalize ((W2.alloc (nvO 0)).alloc (evO 0)) = W4 at *
        clear N3 V3 C3 C2 V2 hsz
        generalize W2.heap.size = nv at *
        have htop0 : 0 ≤ topN D 0 := by
          have h1 := topN_tell hrise.size
          have h2 := hrise.nn
          omega
        by_cases hc : c < 0 ∨ 4 ≤ c
        · by_cases hklb : k < lb
          · have HT := hide (try_ok e1 (rises1_ok C4 (by show c < 0 ∨ 4 ≤ c; omega) (by show D.tr.length < 1000; omega) hrise.wait hrise.size hrise.n (topN D 0) rfl (by omega) V4 N4 E4 hbase hdvl (by omega)))
            clear C4 V4 N4 E4
            refine HT.out.mono ?_
            rintro e W5 ⟨rfl, Z5, x, hx, C5, V5, N5, E5⟩
            have v1 := V5.var
            have v2 := N5.var
            have v3 := E5.var
            clear HT N5 E5
            have hle : ¬ topN D 0 + 1 ≤ last := by have := hrise.low; omega
            have htr5 := begun_len { D with left := c } 0 (topN D 0 + 1) x
            replace htr5 : (DS.begun { D with left := c } 0 (topN D 0 + 1) x).tr.length = D.tr.length + 4 := htr5
            have hs1 := run_cut_from (P := Tryd.prog) Tryd.underlying48 size_i64 b lb cb .i64 (k : Int) k rfl (by omega)
            have hNs := hb.cut k (by omega)
            generalize cutA b cb k = q at *
            have hv0 := v1
            go_wp2_with fail
            refine wp_region_ord 1000 [0, 1, 2, 3, 4] (fun w' => w'.cell? ⟨dv, 0, none⟩ = some (.pointer (some ⟨g, 0, none⟩))) (fun _ => True) (by kernel_rfl) (by kernel_rfl) (by kernel_rfl) v1 trivial (fun _ _ => ?_)
            replace C5 := C5.drew
            replace V5 : Has Z5 W5.drew dv (dvO g) := V5
            clear v1 v2 v3 hv0
            generalize W5.drew = W5' at *
            repeat' (first
              | (refine wpOrd_quiet (v := ?_) rfl rfl (fun _ _ _ h => h) (by rfl) ?_ ?_
                 rotate_left
                 · (intro w' hT _; go_simp; try rfl)
                 simp only [Act.put, List.setIfInBounds_toArray, List.set_cons_zero, List.set_cons_succ])
              | fail)
            refine wpOrd_step rfl rfl (by rfl) (fun K' hK => ?_)
            go_simp
            refine (C5.crash (by omega) (C5.nz hNs)).mono ?_
            rintro e W6 ⟨Z6, bb, rfl, hbb, C6, s6⟩
            have V6 := V5.step s6
            refine hK.out _ _ V6.var (fun h => absurd h (by decide)) (fun _ => ?_)
            clear hK K'
            try simp only [Act.put, List.setIfInBounds_toArray, List.set_cons_zero, List.set_cons_succ]
            refine wpOrd_nil ?_
            obtain ⟨hr6, ht6⟩ := rise_ok hrise rfl htop0 (by omega) hx hbb.out
            have htr6 : ((DS.begun { D with left := c } 0 (topN D 0 + 1) x).crash bb).tr.length = (DS.begun { D with left := c } 0 (topN D 0 + 1) x).tr.length + 1 := by show ((DS.begun { D with left := c } 0 (topN D 0 + 1) x).tr ++ [_]).length = _; simp
            have hl6 : ((DS.begun { D with left := c } 0 (topN D 0 + 1) x).crash bb).left = -1 := rfl
            clear hbb C5 V5 s6 hx
            generalize (DS.begun { D with left := c } 0 (topN D 0 + 1) x).crash bb = D6 at *
            have v6 := V6.var
            have hM6 := hr6.low
            have hT6 : topN D6 0 = topN D 0 + 1 := ht6
            have HL := hide (last_ok C6 (by omega) (by omega) (by omega) 0 (by rw [hr6.n]; omega) _ hT6)
            go_wp2_with fail
            refine HL.out.mono ?_
            rintro e W7 ⟨Z7, rfl, C7, s7⟩
            have V7 := V6.step s7
            have ht7 := looks_len D6 0
            clear HL C6 V6 s7 v6
            go_wp2_with fail
            go_roundw
            case rel => exact ⟨k + 1, Z7, D6.looks 0, (topN D 0 + 1), by omega, by omega, by go_num, rfl, C7, V7, hbase, hr6.looks, (by rw [looks_left, hl6]; rfl), (by omega), (by show topN D6 0 ≤ _; rw [hT6]; omega), (by omega)⟩
            case measure => simp [intOf]; omega
          · have hklb' : ¬ (k : Int) < (lb : Int) := by omega
            have HT := hide (try_ok e1 (rises1_ok C4 (by show c < 0 ∨ 4 ≤ c; omega) (by show D.tr.length < 1000; omega) hrise.wait hrise.size hrise.n (topN D 0) rfl (by omega) V4 N4 E4 hbase hdvl (by omega)))
            clear C4 V4 N4 E4
            refine HT.out.mono ?_
            rintro e W5 ⟨rfl, Z5, x, hx, C5, V5, N5, E5⟩
            have v1 := V5.var
            have v2 := N5.var
            have v3 := E5.var
            clear HT N5 E5
            have hle : ¬ topN D 0 + 1 ≤ last := by have := hrise.low; omega
            have htr5 := begun_len { D with left := c } 0 (topN D 0 + 1) x
            replace htr5 : (DS.begun { D with left := c } 0 (topN D 0 + 1) x).tr.length = D.tr.length + 4 := htr5
            go_wp2_with fail
            refine (C5.crash (by omega) (C5.nz (Ns.nil .i64 w))).mono ?_
            rintro e W6 ⟨Z6, bb, rfl, hbb, C6, s6⟩
            have V6 := V5.step s6
            obtain ⟨hr6, ht6⟩ := rise_ok hrise rfl htop0 (by omega) hx hbb.out
            have htr6 : ((DS.begun { D with left := c } 0 (topN D 0 + 1) x).crash bb).tr.length = (DS.begun { D with left := c } 0 (topN D 0 + 1) x).tr.length + 1 := by show ((DS.begun { D with left := c } 0 (topN D 0 + 1) x).tr ++ [_]).length = _; simp
            have hl6 : ((DS.begun { D with left := c } 0 (topN D 0 + 1) x).crash bb).left = -1 := rfl
            clear hbb C5 V5 s6 hx
            generalize (DS.begun { D with left := c } 0 (topN D 0 + 1) x).crash bb = D6 at *
            have v6 := V6.var
            have hM6 := hr6.low
            have hT6 : topN D6 0 = topN D 0 + 1 := ht6
            have HL := hide (last_ok C6 (by omega) (by omega) (by omega) 0 (by rw [hr6.n]; omega) _ hT6)
            go_wp2_with fail
            refine HL.out.mono ?_
            rintro e W7 ⟨Z7, rfl, C7, s7⟩
            have V7 := V6.step s7
            have ht7 := looks_len D6 0
            clear HL C6 V6 s7 v6
            go_wp2_with fail
            go_roundw
            case rel => exact ⟨k + 1, Z7, D6.looks 0, (topN D 0 + 1), by omega, by omega, by go_num, rfl, C7, V7, hbase, hr6.looks, (by rw [looks_left, hl6]; rfl), (by omega), (by show topN D6 0 ≤ _; rw [hT6]; omega), (by omega)⟩
            case measure => simp [intOf]; omega
        · by_cases hklb : k < lb
          · have HT := hide (try_no e1 (rises1_no C4 hp (by show c = 0 ∨ c = 1 ∨ c = 2 ∨ c = 3; omega) (by show D.tr.length < 1000; omega) hrise.wait hrise.size hrise.n (topN D 0) rfl (by omega) V4 N4 E4) (fun w' hR => by obtain ⟨Z', D', _, C', _⟩ := hR; exact C'.pow hp))
            clear C4 V4 N4 E4
            refine HT.out.mono ?_
            rintro e W5 ⟨rfl, Z5, D5, hCut, C5, V5, N5, E5⟩
            have v1 := V5.var
            have v2 := N5.var
            have v3 := E5.var
            clear HT N5 E5
            have htr5 := hCut.len
            replace htr5 : D5.tr.length ≤ D.tr.length + 3 := htr5
            have hs1 := run_cut_from (P := Tryd.prog) Tryd.underlying48 size_i64 b lb cb .i64 (k : Int) k rfl (by omega)
            have hNs := hb.cut k (by omega)
            generalize cutA b cb k = q at *
            clear v2 v3
            go_wp2_with fail
            refine wp_region_ord 1000 [0, 1, 2, 3, 4] (fun w' => w'.cell? ⟨dv, 0, none⟩ = some (.pointer (some ⟨g, 0, none⟩))) (fun _ => True) (by kernel_rfl) (by kernel_rfl) (by kernel_rfl) v1 trivial (fun _ _ => ?_)
            replace C5 := C5.drew
            replace V5 : Has Z5 W5.drew dv (dvO g) := V5
            clear v1
            generalize W5.drew = W5' at *
            repeat' (first
              | (refine wpOrd_quiet (v := ?_) rfl rfl (fun _ _ _ h => h) (by rfl) ?_ ?_
                 rotate_left
                 · (intro w' hT _; go_simp; try rfl)
                 simp only [Act.put, List.setIfInBounds_toArray, List.set_cons_zero, List.set_cons_succ])
              | fail)
            refine wpOrd_step rfl rfl (by rfl) (fun K' hK => ?_)
            go_simp
            refine (C5.crash (by omega) (C5.nz hNs)).mono ?_
            rintro e W6 ⟨Z6, bb, rfl, hbb, C6, s6⟩
            have V6 := V5.step s6
            refine hK.out _ _ V6.var (fun h => absurd h (by decide)) (fun _ => ?_)
            clear hK K'
            try simp only [Act.put, List.setIfInBounds_toArray, List.set_cons_zero, List.set_cons_succ]
            refine wpOrd_nil ?_
            obtain ⟨hr6, ht6⟩ := rise_cut hrise rfl htop0 (by omega) hCut hbb.out
            have htr6 : (D5.crash bb).tr.length = D5.tr.length + 1 := by show (D5.tr ++ [_]).length = _; simp
            have hl6 : (D5.crash bb).left = -1 := rfl
            clear hbb C5 V5 s6 hCut
            generalize D5.crash bb = D6 at *
            have v6 := V6.var
            have hM6 := hr6.low
            obtain ⟨N1, hT6⟩ : ∃ N1, topN D6 0 = N1 := ⟨_, rfl⟩
            rw [hT6] at hM6 ht6
            have HL := hide (last_ok C6 (by omega) (by omega) (by omega) 0 (by rw [hr6.n]; omega) _ hT6)
            go_wp2_with fail
            refine HL.out.mono ?_
            rintro e W7 ⟨Z7, rfl, C7, s7⟩
            have V7 := V6.step s7
            have ht7 := looks_len D6 0
            clear HL C6 V6 s7 v6
            have hge : ¬ N1 < last := by omega
            go_wp2_with fail
            go_roundw
            case rel => exact ⟨k + 1, Z7, D6.looks 0, last, by omega, by omega, by go_num, rfl, C7, V7, hbase, hr6.looks, (by rw [looks_left, hl6]; rfl), (by omega), (by show topN D6 0 ≤ _; rw [hT6]; omega), (by omega)⟩
            case measure => simp [intOf]; omega
          · have hklb' : ¬ (k : Int) < (lb : Int) := by omega
            have HT := hide (try_no e1 (rises1_no C4 hp (by show c = 0 ∨ c = 1 ∨ c = 2 ∨ c = 3; omega) (by show D.tr.length < 1000; omega) hrise.wait hrise.size hrise.n (topN D 0) rfl (by omega) V4 N4 E4) (fun w' hR => by obtain ⟨Z', D', _, C', _⟩ := hR; exact C'.pow hp))
            clear C4 V4 N4 E4
            refine HT.out.mono ?_
            rintro e W5 ⟨rfl, Z5, D5, hCut, C5, V5, N5, E5⟩
            have v1 := V5.var
            have v2 := N5.var
            have v3 := E5.var
            clear HT N5 E5
            have htr5 := hCut.len
            replace htr5 : D5.tr.length ≤ D.tr.length + 3 := htr5
            go_wp2_with fail
            refine (C5.crash (by omega) (C5.nz (Ns.nil .i64 w))).mono ?_
            rintro e W6 ⟨Z6, bb, rfl, hbb, C6, s6⟩
            have V6 := V5.step s6
            obtain ⟨hr6, ht6⟩ := rise_cut hrise rfl htop0 (by omega) hCut hbb.out
            have htr6 : (D5.crash bb).tr.length = D5.tr.length + 1 := by show (D5.tr ++ [_]).length = _; simp
            have hl6 : (D5.crash bb).left = -1 := rfl
            clear hbb C5 V5 s6 hCut
            generalize D5.crash bb = D6 at *
            have v6 := V6.var
            have hM6 := hr6.low
            obtain ⟨N1, hT6⟩ : ∃ N1, topN D6 0 = N1 := ⟨_, rfl⟩
            rw [hT6] at hM6 ht6
            have HL := hide (last_ok C6 (by omega) (by omega) (by omega) 0 (by rw [hr6.n]; omega) _ hT6)
            go_wp2_with fail
            refine HL.out.mono ?_
            rintro e W7 ⟨Z7, rfl, C7, s7⟩
            have V7 := V6.step s7
            have ht7 := looks_len D6 0
            clear HL C6 V6 s7 v6
            have hge : ¬ N1 < last := by omega
            go_wp2_with fail
            go_roundw
            case rel => exact ⟨k + 1, Z7, D6.looks 0, last, by omega, by omega, by go_num, rfl, C7, V7, hbase, hr6.looks, (by rw [looks_left, hl6]; rfl), (by omega), (by show topN D6 0 ≤ _; rw [hT6]; omega), (by omega)⟩
            case measure => simp [intOf]; omega
      · have h40b : ¬ (k : Int) < 40 := by omega
        go_wp2_with fail
        refine (awake_any wr).mono ?_
        rintro e w1 ⟨rfl, b1⟩
        have hb1 := hI.cl.bel.trans (b1.mono hI.cl.bel.size)
        go_wp2_with fail
        go_ret
        exact ⟨rfl, hb1⟩
    · have hklb : ¬ (k : Int) < (la : Int) := by omega
      go_wp2_with fail
      refine (awake_any wr).mono ?_
      rintro e w1 ⟨rfl, b1⟩
      have hb1 := hI.cl.bel.trans (b1.mono hI.cl.bel.size)
      go_wp2_with fail
      go_ret
      exact ⟨rfl, hb1⟩
#print axioms bootRises_walk
end Go.Proofs.YtgkhaedlfmloeaaDoor
