
/- What package buck's Code does: for every row of Cells, every number of Cells and every size. No conditions but those that each line states. -/
import Derived.Test.YtgjffoeegnljlaaBkCode
namespace Go.Proofs.Ytgjffoeegnljlaa
open Go.RowKit
set_option maxRecDepth 20000

theorem pcs_length {cs : List CV} {s : Nat} (h : ∀ c ∈ cs, okC (s : Int) c.pc = true) : ∀ c ∈ cs.map CV.pc, c.2.2.length = s := by
  intro p hp
  obtain ⟨c, hc, rfl⟩ := List.mem_map.1 hp
  have := (okC_is (h c hc)).2.2
  omega
theorem map_take_snoc (cs : List CV) (k : Nat) (hk : k < cs.length) : (cs.take (k + 1)).map CV.pc = (cs.take k).map CV.pc ++ [cs[k].pc] := by
  rw [take_next cs k cs[k] (List.getElem?_eq_getElem hk), List.map_append]
  rfl
theorem mul_low (k S N : Nat) (h : k * (8 + S) + 8 + S ≤ N) (hN : N ≤ 16 * 60008) : IntKind.i64.wrap (8 + (S : Int)) = 8 + (S : Int) ∧ (k : Int) * (8 + (S : Int)) = ((k * (8 + S) : Nat) : Int) ∧ IntKind.i64.wrap ((k : Int) * (8 + (S : Int))) = (k : Int) * (8 + (S : Int)) ∧ ¬ N = k * (8 + S) ∧ k * (8 + S) ≤ N ∧ N - k * (8 + S) ≤ 9223372036854775807 := by
  have e : (k : Int) * (8 + (S : Int)) = ((k * (8 + S) : Nat) : Int) := by push_cast; rfl
  rw [e]
  generalize k * (8 + S) = K at *
  exact ⟨wrap_i64_low _ (by omega), rfl, wrap_i64_low _ (by omega), by omega, by omega, by omega⟩
theorem fit_low (k S N L M : Nat) (h : k * (8 + S) + 8 + S ≤ N) (hL : (L : Int) = (S : Int)) (hM : M = N) : 8 + L ≤ N - k * (8 + S) ∧ k * (8 + S) + 8 + L ≤ M := by
  generalize k * (8 + S) = K at *
  exact ⟨by omega, by omega⟩
set_option maxHeartbeats 1000000 in
theorem code_any {a : Option Addr} {len cap : Nat} {cs : List CV} (w : World) (h : Ces w a len cap cs) (z size : Int) :
    Calls Try.prog 8 #[.slice a len cap, .int .i64 z, .int .i64 size] w fun e w' => ∃ a' n' c', e = .returned (.tuple #[.slice a' n' c', .bool (okK (cs.map CV.pc) z size)]) ∧ OwnS 5 w.heap.size w' a' n' c' (codeR (cs.map CV.pc) z size) ∧ Below w.heap.size w w' := by
  have hlen := h.length
  have hlc := h.le_cap
  have hcl := h.cap_le
  have hL : (cs.map CV.pc).length = len := by rw [List.length_map]; exact hlen
  have hno : ∀ w', okK (cs.map CV.pc) z size = false → OwnS 5 w.heap.size w' none 0 0 (codeR (cs.map CV.pc) z size) := by
    intro w' hk
    unfold codeR
    rw [if_neg (by rw [hk]; decide)]
    exact OwnS.nil _ _ _
  have hZ := isBucket_any z size w
  cases hz : okZ z size
  · have hk : okK (cs.map CV.pc) z size = false := by unfold okK; rw [hz]; rfl
    have hn := hide (hno w hk)
    rw [hz] at hZ
    rw [hk]
    clear hno hz hk h hL
    go_enter Try.func8, Try.ntmps8
    go_wp2_with fail
    refine hZ.mono ?_
    rintro e w1 ⟨rfl, rfl⟩
    go_wp2_with fail
    go_ret2
    exact ⟨none, 0, 0, rfl, hn.out, Below.refl _ _⟩
  · rw [hz] at hZ
    obtain ⟨⟨z0, z1⟩, s0, s1⟩ := okZ_is hz
    by_cases hle : (len : Int) ≤ z
    · have hA := allCells_any w h size
      cases hall : (cs.map CV.pc).all (okC size)
      · have hk : okK (cs.map CV.pc) z size = false := by unfold okK; rw [hall]; simp
        have hn := fun w' => hide (hno w' hk)
        rw [hall] at hA
        rw [hk]
        clear hno hz hk h hL hall
        go_enter Try.func8, Try.ntmps8
        go_wp2_with fail
        refine hZ.mono ?_
        rintro e w1 ⟨rfl, rfl⟩
        go_wp2_with fail
        refine hA.mono ?_
        rintro e w1 ⟨rfl, hb1⟩
        go_wp2_with fail
        go_ret2
        exact ⟨none, 0, 0, rfl, (hn w1).out, hb1⟩
      · have hk : okK (cs.map CV.pc) z size = true := okK_of hz (by rw [hL]; exact hle) (List.all_eq_true.1 hall)
        have hitem : ∀ c ∈ cs, okC size c.pc = true := fun c hc => List.all_eq_true.1 hall _ (List.mem_map_of_mem hc)
        rw [hall] at hA
        rw [hk]
        clear hno hall
        obtain ⟨Z, rfl⟩ := Int.eq_ofNat_of_zero_le z0
        obtain ⟨S, rfl⟩ := Int.eq_ofNat_of_zero_le s0
        have hZS : (Z : Int) * (8 + (S : Int)) = ((Z * (8 + S) : Nat) : Int) := by push_cast; rfl
        have hNm : Z * (8 + S) ≤ 16 * 60008 := Nat.mul_le_mul (by omega) (by omega)
        have hcode : codeR (cs.map CV.pc) Z S = codeL (cs.map CV.pc) (Z * (8 + S)) := by
          unfold codeR
          rw [if_pos hk, hZS, Int.toNat_natCast]
        rw [hcode]
        have hps := pcs_length hitem
        have hfull : (cs.map CV.pc).length * (8 + S) ≤ Z * (8 + S) := Nat.mul_le_mul (by rw [hL]; omega) (Nat.le_refl _)
        have hfin : (codeL (cs.map CV.pc) (Z * (8 + S))).length = Z * (8 + S) := codeL_length (by rw [tells_length hps]; exact hfull)
        have hbytes : ∀ c ∈ cs.map CV.pc, IsBytes c.2.2 := by
          intro p hp
          obtain ⟨c, hc, rfl⟩ := List.mem_map.1 hp
          exact (h.item c hc).bs.bytes
        have hLong := fun w1 => long_any (Z : Int) (S : Int) w1 (by omega) (by omega)
        rw [hZS] at hLong
        have hmk := run_make_row' (P := Try.prog) 22 5 (.int .u8 0) 1 Try.underlying22 Try.info_u8 rfl .i64 .i64 (Z * (8 + S)) (by omega) (by omega)
        have hstep : ∀ k, k < len → (codeL ((cs.take k).map CV.pc) (Z * (8 + S))).length = Z * (8 + S) ∧ (((cs.take k).map CV.pc).flatMap tellC).length = k * (8 + S) ∧ k * (8 + S) + 8 + S ≤ Z * (8 + S) := by
          intro k hk
          have h1 : (((cs.take k).map CV.pc).flatMap tellC).length = k * (8 + S) := by
            rw [tells_length (s := S) (fun c hc => hps c (by rw [List.map_take] at hc; exact List.mem_of_mem_take hc)), List.length_map, List.length_take, Nat.min_eq_left (by omega)]
          have h2 : (k + 1) * (8 + S) ≤ Z * (8 + S) := Nat.mul_le_mul (by omega) (Nat.le_refl _)
          rw [Nat.add_mul, Nat.one_mul] at h2
          exact ⟨codeL_length (by rw [h1]; omega), h1, by omega⟩
        generalize hN : Z * (8 + S) = N at *
        go_enter Try.func8, Try.ntmps8
        go_wp2_with fail
        refine hZ.mono ?_
        rintro e w1 ⟨rfl, rfl⟩
        go_wp2_with fail
        refine hA.mono ?_
        rintro e w1 ⟨rfl, hb1⟩
        go_wp2_with fail
        refine (hLong w1).mono ?_
        rintro e w2 ⟨rfl, rfl⟩
        go_wp2_with fail
        clear hZ hA hLong hmk
        have hg := made_zB w1 N 5
        have hb2 := below_alloc hb1 (Obj.cells (madeCells #[Value.int .u8 0] N) 5)
        have hle1 := hb1.size
        generalize (w1.alloc (Obj.cells (madeCells #[Value.int .u8 0] N) 5)) = w2 at *
        generalize w1.heap.size = g at *
        have hcl0 : codeL ((cs.take 0).map CV.pc) N = zL N := by simp [codeL]
        go_loopw [33] (fun i wr => ∃ k : Nat, k ≤ len ∧ i = .int .i64 k ∧ OwnB 5 wr g (codeL ((cs.take k).map CV.pc) N) ∧ Below w.heap.size w wr) (fun i _ => len - (intOf i).toNat)
        case atStart => exact ⟨0, Nat.zero_le _, rfl, by rw [hcl0]; exact hg, hb2⟩
        case round =>
          clear hg hb2 hcl0
          obtain ⟨k, hk', rfl, hown, hbel⟩ := hrel
          by_cases hlt : k < len
          · obtain ⟨b, off, rfl, hsp⟩ := h.spot (by omega)
            have hk2 : k < cs.length := by omega
            obtain ⟨q1, q2, q3⟩ := hstep k hlt
            have hr := hsp wr hbel k hk2
            have hpc := map_take_snoc cs k hk2
            have hcs := codeL_step ((cs.take k).map CV.pc) cs[k].pc N
            rw [q2, ← hpc] at hcs
            have hiw := h.item cs[k] (List.getElem_mem hk2)
            have hoff := CV.Off.new hiw hle1
            have hca := hiw.below hbel
            have hS := (okC_is (hitem cs[k] (List.getElem_mem hk2)))
            generalize cs[k] = c at hr hca hiw hoff hcs hpc hS
            have hL1 := laid_store hca
            have HN := hide (heap_alloc_new wr (.cells #[.int .i64 0, .int .i64 0, .slice none 0 0] 24))
            have ho2 := OwnB.below hown hL1.bel
            have hglt := hown.lt
            clear hsp hstep
            go_wp2_with (first
              | (refine wpList_newA (by rfl) 24 (by rfl) _ zero_cell wr.heap.size rfl ?_)
              | (refine wpList_load_mid rfl 24 _ (by rfl) b (off + k * 3) (by rfl) c.row _ hr Try.underlying24 rfl size_cell ?_)
              | (refine wpList_putS size_cell (by rfl) _ _ (by rfl) wr.heap.size c.row.toArray (by rfl) (by rfl) _ HN.out (by rfl) (by rfl) (cell_all c) ?_))
            refine wp_region_ord 1000 [0, 1, 2, 3, 4, 5, 6, 7] (fun w' => w'.rangeAt wr.heap.size 0 c.row) (fun _ => True) (by kernel_rfl) (by kernel_rfl) (by kernel_rfl) hL1.rng trivial (fun _ _ => ?_)
            have hB3 := hbel.trans (hL1.bel.mono hbel.size)
            have hrg := hL1.rng
            have hca3 := hL1.it
            clear hL1 HN hr hca hown
            generalize ((wr.alloc (.cells #[.int .i64 0, .int .i64 0, .slice none 0 0] 24)).setRow wr.heap.size c.row.toArray) = w3 at *
            replace hB3 := hB3.drew
            replace ho2 : OwnB 5 w3.drew g (codeL ((cs.take k).map CV.pc) N) := ho2
            replace hca3 := hca3.below (Below.refl _ _).drew
            replace hrg : w3.drew.rangeAt wr.heap.size 0 c.row := hrg
            generalize w3.drew = w4 at *
            obtain ⟨hw1, hki, hw2, hne, hle2, hcc⟩ := mul_low k S N q3 hNm
            obtain ⟨hf1, hf2⟩ := fit_low k S N _ _ q3 hS.2.2 q1
            have hS1 := hS.1
            have hS2 := hS.2.1
            simp only [CV.pc] at hS1 hS2 hf1 hf2
            have hcut := run_cut_from (P := Try.prog) Try.underlying22 Try.size_u8 (some ⟨g, 0, none⟩) N N .i64 ((k : Int) * (8 + (S : Int))) (k * (8 + S)) hki hle2
            rw [show cutA (some ⟨g, 0, none⟩) N (k * (8 + S)) = some ⟨g, k * (8 + S), none⟩ by unfold cutA; rw [if_neg hne]; simp [addr_add]] at hcut
            clear hki
            repeat' (first
              | (refine wpOrd_quiet (v := ?_) rfl rfl (fun _ _ _ h => h) (by rfl) ?_ ?_
                 rotate_left
                 · (intro w' hT _; go_simp; try rfl)
                 simp only [Act.put, List.setIfInBounds_toArray, List.set_cons_zero, List.set_cons_succ])
              | fail)
            refine wpOrd_loadM _ Try.underlying24 rfl rfl rfl _ (by rfl) wr.heap.size 0 c.row (by rfl) (fun _ hT => hT) size_cell (fun _ _ _ h => h) (by rfl) ?_
            try simp only [Act.put, List.setIfInBounds_toArray, List.set_cons_zero, List.set_cons_succ]
            refine wpOrd_step rfl rfl (by rfl) (fun K' hK => ?_)
            go_simp
            refine (putCell_any ho2 hca3 hoff (by omega) (by omega) (n := N - k * (8 + S)) (cap := N - k * (8 + S)) hf1 (Nat.le_refl _) hcc hf2).mono ?_
            rintro e w5 ⟨rfl, ho5, hbut⟩
            refine hK.out _ _ (rangeAt_keep hrg (hbut.block _ (World.block_lt_of_cell? w4 _ (hrg 0 _ rfl)) (by omega))) (fun h => absurd h (by decide)) (fun _ => ?_)
            clear hK K'
            try simp only [Act.put, List.setIfInBounds_toArray, List.set_cons_zero, List.set_cons_succ]
            refine wpOrd_nil ?_
            have hb5 := hbut.below hB3 hle1 hB3.size
            rw [hcs] at ho5
            clear hcut hw1 hw2 hbut ho2 hB3 hca3 hrg hcs hpc hoff hiw
            go_wp2
            go_roundw
            case rel => exact ⟨k + 1, by omega, by go_num, ho5, hb5⟩
            case measure => simp [intOf]; omega
          · have hk'' : k = len := by omega
            subst hk''
            rw [List.take_of_length_le (by omega)] at hown
            have hO := hide (OwnB.owns (base := w.heap.size) hown (codeL_bytes hbytes N) hfin (by omega) hle1)
            clear hown hstep
            go_wp2
            go_ret2
            exact ⟨_, _, _, rfl, hO.out, hbel⟩
    · have hk : okK (cs.map CV.pc) z size = false := by unfold okK; rw [decide_eq_false (by rw [hL]; exact hle)]; simp
      have hn := hide (hno w hk)
      rw [hk]
      clear hno hz hk h hL
      go_enter Try.func8, Try.ntmps8
      go_wp2_with fail
      refine hZ.mono ?_
      rintro e w1 ⟨rfl, rfl⟩
      go_wp2_with fail
      go_ret2
      exact ⟨none, 0, 0, rfl, hn.out, Below.refl _ _⟩
#print axioms code_any
end Go.Proofs.Ytgjffoeegnljlaa
