
/- The law BuckBack answers true for every row of Cells, every size and place; nothing that was there is turned. -/
import Derived.Test.YtgjffoeegnljlaaBkAwake
import Derived.Test.YtgjffoeegnljlaaBkTame
import Derived.Test.YtgjffoeegnljlaaBkFew
import Derived.Test.YtgjffoeegnljlaaBkSame
import Derived.Test.YtgjffoeegnljlaaBkLeaf
namespace Go.Proofs.Ytgjffoeegnljlaa
open Go.RowKit
set_option maxRecDepth 20000

def zeroC : CV := ⟨0, 0, BV.nil⟩
theorem zeroC_at (w : World) : zeroC.At w := ⟨by simp only [zeroC]; omega, by simp only [zeroC]; omega, Bs.nil w⟩
theorem back_low {S n : Nat} (hS : S ≤ 31) (h : (n : Int) = 6 * (8 + (S : Int))) : n ≤ 234 ∧ wrap64 (8 + (S : Int)) = 8 + (S : Int) ∧ wrap64 (6 * (8 + (S : Int))) = 6 * (8 + (S : Int)) := ⟨by omega, wrap64_low _ (by omega), wrap64_low _ (by omega)⟩
theorem okK_many {A : List PC} {z size : Int} (h : z < (A.length : Int)) : okK A z size = false := by
  rw [Bool.eq_false_iff]
  intro h1
  have := (okK_is h1).2.1
  omega
theorem str_ne {xs ys : List Int} (hx : IsBytes xs) (hy : IsBytes ys) (h : xs ≠ ys) : ((strOfNums xs).toList == (strOfNums ys).toList) = false := by
  rw [str_eq hx hy]
  exact decide_eq_false h
set_option maxRecDepth 100000 in
set_option maxHeartbeats 8000000 in
theorem buckBack_walk (size at_ : Int) {a : Option Addr} {len cap : Nat} {cs : List CV} (w : World) (h : Ces w a len cap cs) :
    Calls Try.prog 6 #[.slice a len cap, .int .i64 size, .int .i64 at_] w fun e w' => e = .returned (.bool true) ∧ Below w.heap.size w w' := by
  obtain ⟨S, hS, hS31⟩ : ∃ S : Nat, bits .and .i64 size 31 = (S : Int) ∧ S ≤ 31 := ⟨(size % 32).toNat, by rw [i64_mask _ 5 (by decide) 31 (by decide)]; omega, by omega⟩
  go_enter Try.func6, Try.ntmps6
  go_wp2_with fail
  refine (few_any w h).mono ?_
  rintro e w1 ⟨rfl, hr⟩
  rcases hr with rfl | ⟨rfl, -, -⟩
  · clear hS h
    go_wp2_with fail
    refine (awake_any w).mono ?_
    rintro e w1 ⟨rfl, b1⟩
    go_wp2_with fail
    go_ret
    exact ⟨rfl, b1⟩
  · have hT := tame_any w h 6 S (by omega) (by omega)
    clear h
    go_wp2_with fail
    refine hT.mono ?_
    rintro e w1 ⟨la, ln, lc, ds, rfl, hds, hown, b1⟩
    have hok : okK (ds.map CV.pc) 6 S = true := by
      rw [hds]
      exact tameL_ok _ 6 S 6 (by omega) (by omega) (by omega)
    have hln : ln ≤ 6 := by
      have h1 := congrArg List.length hds
      rw [List.length_map, hown.length, tameL_length] at h1
      omega
    have hdl := hown.length
    have hleaf : ∀ j (hj : j < ds.length), 0 ≤ ds[j].leaf ∧ ds[j].leaf < 65536 := by
      intro j hj
      have h1 : ds[j].pc ∈ ds.map CV.pc := List.mem_map.2 ⟨_, List.getElem_mem hj, rfl⟩
      rw [hds] at h1
      obtain ⟨q, _, hq⟩ := List.mem_map.1 h1
      have h2 : q.2.1 % 65536 = ds[j].leaf := congrArg (fun p : PC => p.2.1) hq
      omega
    have HLF := hide hleaf
    have hL := hown.ces
    have hC := code_any w1 hL 6 S
    have hl := codeR_length hok
    rw [hok] at hC
    have HOK := hide hok
    clear hT hds hleaf
    go_wp2_with fail
    refine hC.mono ?_
    rintro e w2 ⟨ba, n, bc, rfl, hO, b2⟩
    have B2 := b1.trans (b2.mono b1.size)
    have hB := hO.bs
    rw [hB.length] at hl
    obtain ⟨hn, hw1, hw2⟩ := back_low hS31 hl
    have hL2 := hL.below b2
    have hP := parse_any w2 hB 6 S
    rw [(isBk_code hok).1, (isBk_code hok).2] at hP
    have HL := hide hl
    have HW1 := hide hw1
    have HW2 := hide hw2
    clear hC b1 b2 hO hl hok hw1 hw2 hL
    go_wp2_with fail
    refine hP.mono ?_
    rintro e w3 ⟨pa, pn, pc, ps, rfl, hps, hZ, b3⟩
    have B3 := B2.trans (b3.mono B2.size)
    have hB3 := hB.below b3
    have hL3 := hL2.below b3
    have hoff3 := hown.off
    clear hP B2 b3 hB hL2 hown
    -- l and seven more
    obtain ⟨fa, fc, v1, hr1, hown1, d1⟩ := run_append_cells0 w3 la ln lc ds hL3 (by omega)
    have hz := Ces.lit (w := v1) (cs := [zeroC, zeroC, zeroC, zeroC, zeroC, zeroC, zeroC]) (vs := #[.int .i64 0, .int .i64 0, .slice none 0 0, .int .i64 0, .int .i64 0, .slice none 0 0, .int .i64 0, .int .i64 0, .slice none 0 0, .int .i64 0, .int .i64 0, .slice none 0 0, .int .i64 0, .int .i64 0, .slice none 0 0, .int .i64 0, .int .i64 0, .slice none 0 0, .int .i64 0, .int .i64 0, .slice none 0 0]) (n := 7) rfl rfl (by omega) (fun c hc => by
      have : c = zeroC := by simpa using hc
      rw [this]
      exact zeroC_at v1)
    have d2 := cells_below v1 #[.int .i64 0, .int .i64 0, .slice none 0 0, .int .i64 0, .int .i64 0, .slice none 0 0, .int .i64 0, .int .i64 0, .slice none 0 0, .int .i64 0, .int .i64 0, .slice none 0 0, .int .i64 0, .int .i64 0, .slice none 0 0, .int .i64 0, .int .i64 0, .slice none 0 0, .int .i64 0, .int .i64 0, .slice none 0 0]
    go_wp2_with (at_builtin; refine wpList_append_run (by rfl) (.tmp 39) (.tmp 40) 26 (by rfl) _ _ _ _ (by rfl) (by rfl) hr1 ?_)
    generalize (v1.alloc (Obj.cells #[Value.int .i64 0, .int .i64 0, .slice none 0 0, .int .i64 0, .int .i64 0, .slice none 0 0, .int .i64 0, .int .i64 0, .slice none 0 0, .int .i64 0, .int .i64 0, .slice none 0 0, .int .i64 0, .int .i64 0, .slice none 0 0, .int .i64 0, .int .i64 0, .slice none 0 0, .int .i64 0, .int .i64 0, .slice none 0 0] 24)) = v2 at *
    refine (tame_new v2 hz 7 S (by omega) (by omega)).mono ?_
    rintro e v3 ⟨ta, tn, tc, ts, rfl, hts, hownt, d3, hnew⟩
    have htn : tn = 7 := by
      have h1 := congrArg List.length hts
      rw [List.length_map, hownt.length, tameL_length] at h1
      simpa using h1
    subst htn
    have D3 : Below w3.heap.size w3 v3 := (d1.trans (d2.mono d1.size)).trans (d3.mono (d1.trans (d2.mono d1.size)).size)
    have hoff1 : ∀ d ∈ ts, d.Off (Value.slice fa ln fc).ownBlock := by
      intro d hd h0 p hp e
      have h1 := (hown1.row.lt p.block e).2
      have h2 := hnew d hd p hp
      have h3 := d2.size
      omega
    have hown2 := (hown1.below d2).below d3
    clear hr1 hz hts hnew d1 d2 d3 hown1
    obtain ⟨ea, ec, v4, hr2, hown4, d4⟩ := run_append_cells w3.heap.size w3 v3 fa ln fc ds hown2 D3 (Nat.le_refl _) ta 7 tc ts hownt.ces hoff1 (by omega)
    have hno : okK ((ds ++ ts).map CV.pc) 6 S = false := okK_many (by rw [List.length_map, hown4.length]; omega)
    have hC := code_any v4 hown4.ces 6 S
    rw [hno] at hC
    have B4 := B3.trans (d4.mono B3.size)
    have hB4 := hB3.below d4
    have hL4 := hL3.below d4
    have hZ4 := hZ.below d4
    clear hown2 hownt hoff1 hown4 hno D3 B3 hB3 hL3 hZ d4
    go_wp2_with (at_builtin; refine wpList_append_run (by rfl) (.tmp 41) (.tmp 51) 26 (by rfl) _ _ _ _ (by rfl) (by rfl) hr2 ?_)
    refine hC.mono ?_
    rintro e w5 ⟨qa, qn, qc, rfl, -, b5⟩
    have B5 := B4.trans (b5.mono B4.size)
    have hB5 := hB4.below b5
    have hL5 := hL4.below b5
    have hZ5 := hZ4.below b5
    have hLo := long_any 6 S w5 (by omega) (by omega)
    have hSa := sameCells_any w5 hZ5 hL5
    rw [decide_eq_true hps] at hSa
    have hl := HL.out
    have hw1 := HW1.out
    have hw2 := HW2.out
    clear hr2 hC B4 hB4 hL4 hZ4 b5 hps hZ5
    go_wp2_with fail
    refine hLo.mono ?_
    rintro e w6 ⟨rfl, rfl⟩
    go_wp2_with fail
    refine hSa.mono ?_
    rintro e w6 ⟨rfl, b6⟩
    have B6 := B5.trans (b6.mono B5.size)
    have hB6 := hB5.below b6
    have hL6 := hL5.below b6
    clear hLo hSa B5 hB5 hL5 b6 hw1 hw2 hl HL HW1 HW2
    by_cases hln0 : ln = 0
    · clear hL6 hB6 HLF HOK hoff3
      go_wp2_with fail
      refine (awake_any w6).mono ?_
      rintro e w7 ⟨rfl, b7⟩
      go_wp2_with fail
      go_ret
      exact ⟨rfl, B6.trans (b7.mono B6.size)⟩
    · obtain ⟨J, hJ, hJn⟩ : ∃ J : Nat, (bits .and .i64 at_ 255).tmod (ln : Int) = (J : Int) ∧ J < ln := by
        rw [i64_and255, Int.tmod_eq_emod_of_nonneg (Int.emod_nonneg _ (by decide))]
        have h1 := Int.emod_nonneg (at_ % 256) (show (ln : Int) ≠ 0 by omega)
        have h2 := Int.emod_lt_of_pos (at_ % 256) (show (0 : Int) < (ln : Int) by omega)
        exact ⟨((at_ % 256) % (ln : Int)).toNat, by omega, by omega⟩
      have hJd : J < ds.length := by omega
      obtain ⟨ma, mc, x1, hr7, hown7, d7⟩ := run_append_cells0 w6 la ln lc ds hL6 (by omega)
      obtain ⟨g, rfl, hg, hgl⟩ := hown7.form (by omega)
      have hfro := hown7.row.frozenAt (J * 3 + 1)
      have hcell : x1.cell? ⟨g, J * 3 + 1, none⟩ = some (.int .i64 ds[J].leaf) := by
        obtain ⟨b, off, e, hr⟩ := hown7.ces.place.resolve_left hln0
        have e' := Option.some.inj e
        simp only [Addr.mk.injEq, and_true] at e'
        obtain ⟨rfl, rfl⟩ := e'
        have := hr J ds[J] (List.getElem?_eq_getElem hJd) 1 _ rfl
        rw [show 0 + J * 3 + 1 = J * 3 + 1 by omega] at this
        exact this
      obtain ⟨hX, hXne⟩ := leaf_xor ds[J].leaf (HLF.out J hJd)
      generalize hXe : bits .xor .i64 ds[J].leaf 1 = X at *
      have hM := hown7.ces.setLeaf (fun c hc => hown7.off c hc) hJd X hX
      have hokA := turn_ok HOK.out hJd X hX
      have hneA := turn_pcs hJd X hXne
      have d8 := d7.setCell (p := ⟨g, J * 3 + 1, none⟩) hg (.int .i64 X)
      have B8 := B6.trans (d8.mono B6.size)
      have hB8 := hB6.below d8
      have hcne : codeR ((ds.set J (ds[J].turn X)).map CV.pc) 6 S ≠ codeR (ds.map CV.pc) 6 S := fun e => hneA (codeR_inj hokA HOK.out e)
      have hC := code_any _ hM 6 S
      rw [hokA] at hC
      clear hown7 d7 d8 hX hXne hM hokA hneA hL6 hg hgl B6 hB6 HLF HOK
      generalize ds[J].leaf = L at *
      go_wp2_with (at_builtin; refine wpList_append_run (by rfl) (.tmp 91) (.tmp 92) 26 (by rfl) _ _ _ _ (by rfl) (by rfl) hr7 ?_)
      generalize codeR ((ds.set J (ds[J].turn X)).map CV.pc) 6 S = Y at *
      generalize codeR (ds.map CV.pc) 6 S = B at *
      refine hC.mono ?_
      rintro e x3 ⟨ca, cn, cc, rfl, hY, b9⟩
      have B9 := B8.trans (b9.mono B8.size)
      have hB9 := hB8.below b9
      have s1 := str_bytes hY.bs
      have s2 := str_bytes hB9
      have hq := str_ne hY.1 hB9.bytes hcne
      have hq2 : ((strOfNums Y).toList != (strOfNums B).toList) = true := by rw [bne, hq]; rfl
      clear hC hcne hY hB8 hB9 B8 b9 hr7 hfro hcell hXe
      go_wp2_with fail
      refine (awake_any x3).mono ?_
      rintro e x4 ⟨rfl, b10⟩
      go_wp2_with fail
      go_ret
      exact ⟨rfl, B9.trans (b10.mono B9.size)⟩
#print axioms buckBack_walk
end Go.Proofs.Ytgjffoeegnljlaa
