
/- What the reference's Code of a bucket does: for every row of Cells, every number of Cells and every size. No conditions but those that each line states. -/
import Derived.Test.YtgjffoeegnljlaaBkRef
namespace Go.Proofs.Ytgjffoeegnljlaa
open Go.RowKit
set_option maxRecDepth 20000

theorem out_low (Z S m : Nat) (hS : S ≤ 60000) (h : Z * (8 + S) ≤ 16 * 60008) (hm : m ≤ Z * (8 + S)) : wrap64 (8 + (S : Int)) = 8 + (S : Int) ∧ wrap64 ((Z : Int) * (8 + (S : Int))) = (Z : Int) * (8 + (S : Int)) ∧ wrap64 ((Z : Int) * (8 + (S : Int)) - (m : Int)) = ((Z * (8 + S) - m : Nat) : Int) ∧ m + (Z * (8 + S) - m) ≤ 140737488355328 := by
  have e : (Z : Int) * (8 + (S : Int)) = ((Z * (8 + S) : Nat) : Int) := by push_cast; rfl
  rw [e]
  generalize Z * (8 + S) = N at *
  exact ⟨wrap64_low _ (by omega), wrap64_low _ (by omega), by rw [wrap64_low _ (by omega)]; omega, by omega⟩
/-- What a round of the reference's Code finds: k Cells told. -/
structure RTold (w wr : World) (cs : List CV) (S k m : Nat) (a : Option Addr) (cap : Nat) : Prop where
  len : m = k * (8 + S)
  none : k = 0 → a = .none ∧ cap = 0
  own : OwnS 5 w.heap.size wr a m cap (((cs.take k).map CV.pc).flatMap tellC)
  ok : ((cs.map CV.pc).take k).all (okC S) = true
  bel : Below w.heap.size w wr
theorem sum_low (k S M : Nat) (hk : k ≤ 16) (hS : S ≤ 60000) (hm : M = k * (8 + S)) : M ≤ 16 * 60008 := by
  rw [hm]
  exact Nat.mul_le_mul hk (by omega)
/-- One Cell more. -/
theorem RTold.next {w wr w' : World} {cs : List CV} {S k m : Nat} {a : Option Addr} {cap : Nat} (h : RTold w wr cs S k m a cap) (hk : k < cs.length) (hok : okC S cs[k].pc = true) {a' : Option Addr} {cap' m' : Nat} (hm : m' = m + (8 + S)) (ho : OwnS 5 w.heap.size w' a' m' cap' (((cs.take k).map CV.pc).flatMap tellC ++ tellC cs[k].pc)) (hb : Below w.heap.size w w') : RTold w w' cs S (k + 1) m' a' cap' := by
  refine ⟨by rw [hm, h.len, Nat.add_mul, Nat.one_mul], fun h0 => by omega, ?_, all_step _ _ k cs[k].pc ?_ h.ok hok, hb⟩
  · rw [map_take_snoc cs k hk, List.flatMap_append]
    simp only [List.flatMap_cons, List.flatMap_nil, List.append_nil]
    exact ho
  · rw [List.getElem?_map, List.getElem?_eq_getElem hk]
    rfl
set_option maxHeartbeats 2000000 in
theorem rcode_any {a : Option Addr} {len cap : Nat} {cs : List CV} (w : World) (h : Ces w a len cap cs) (z size : Int) :
    Calls Try.prog 13 #[.slice a len cap, .int .i64 z, .int .i64 size] w fun e w' => ∃ a' n' c', e = .returned (.tuple #[.slice a' n' c', .bool (okK (cs.map CV.pc) z size)]) ∧ OwnS 5 w.heap.size w' a' n' c' (codeR (cs.map CV.pc) z size) ∧ Below w.heap.size w w' := by
  have hlen := h.length
  have hlc := h.le_cap
  have hcl := h.cap_le
  have hL : (cs.map CV.pc).length = len := by rw [List.length_map]; exact hlen
  have hno : ∀ w', okK (cs.map CV.pc) z size = false → OwnS 5 w.heap.size w' none 0 0 (codeR (cs.map CV.pc) z size) := by
    intro w' hk
    unfold codeR
    rw [if_neg (by rw [hk]; decide)]
    exact OwnS.nil _ _ _
  by_cases hz : ((0 ≤ z ∧ z ≤ 16) ∧ 0 ≤ size ∧ size ≤ 60000) ∧ (len : Int) ≤ z
  · obtain ⟨⟨⟨z0, z1⟩, s0, s1⟩, hle⟩ := hz
    have hz : okZ z size = true := decide_eq_true ⟨⟨z0, z1⟩, s0, s1⟩
    obtain ⟨Z, rfl⟩ := Int.eq_ofNat_of_zero_le z0
    obtain ⟨S, rfl⟩ := Int.eq_ofNat_of_zero_le s0
    have hz16 : Z ≤ 16 := by omega
    have hs6 : S ≤ 60000 := by omega
    have h0 : RTold w w cs S 0 0 none 0 := ⟨by rw [Nat.zero_mul], fun _ => ⟨rfl, rfl⟩, OwnS.nil _ _ _, rfl, Below.refl _ _⟩
    have hq1 : ¬ (Z : Int) < 0 := by omega
    have hq2 : ¬ (16 : Int) < (Z : Int) := by omega
    have hq3 : ¬ (S : Int) < 0 := by omega
    have hq4 : ¬ (60000 : Int) < (S : Int) := by omega
    have hq5 : ¬ (Z : Int) < (len : Int) := by omega
    go_enter Try.func13, Try.ntmps13
    go_wp2_with fail
    go_loopw [8, 9] (fun o i wr => ∃ (k m : Nat) (oa : Option Addr) (oc : Nat), k ≤ len ∧ i = .int .i64 k ∧ o = .slice oa m oc ∧ RTold w wr cs S k m oa oc) (fun _ i _ => len - (intOf i).toNat)
    case atStart => exact ⟨0, 0, none, 0, Nat.zero_le _, rfl, rfl, h0⟩
    case round =>
      clear h0
      obtain ⟨k, m, oa, oc, hk, rfl, rfl, hI⟩ := hrel
      have hbel := hI.bel
      have hM := sum_low k S m (by omega) hs6 hI.len
      by_cases hlt : k < len
      · obtain ⟨b, off, rfl, hsp⟩ := h.spot (by omega)
        have hk2 : k < cs.length := by omega
        have hr := hsp wr hbel k hk2
        have hcw := h.item cs[k] (List.getElem_mem hk2)
        have hca := hcw.below hbel
        have hpc : (cs.map CV.pc)[k]? = some cs[k].pc := by rw [List.getElem?_map, List.getElem?_eq_getElem hk2]; rfl
        have hC := rcellOk_any hca (S : Int)
        cases hok : okC S cs[k].pc
        · have hall := all_stop _ _ k _ hpc hok
          have hkk : okK (cs.map CV.pc) Z S = false := by unfold okK; rw [hall]; simp
          have HB := hide hkk
          have hn := fun w' => hide (hno w' hkk)
          rw [hok] at hC
          clear hno hall hkk hok hpc hI
          generalize cs[k] = c at *
          go_wp2_with (first
            | (refine wpList_load_mid rfl 24 _ (by rfl) b (off + k * 3) (by rfl) c.row _ hr Try.underlying24 rfl size_cell ?_))
          refine hC.mono ?_
          rintro e w1 ⟨rfl, hb1⟩
          go_wp2_with fail
          go_ret2
          exact ⟨none, 0, 0, ret_pair HB.out.symm, (hn w1).out, hbel.trans (hb1.mono hbel.size)⟩
        · have hN := fun (w' : World) (a' : Option Addr) (cap' m' : Nat) => hI.next (w' := w') (a' := a') (cap' := cap') (m' := m') hk2 hok
          rw [hok] at hC
          have hokc := okC_is hok
          clear hok hpc hno
          have hown := hI.own
          clear hI
          generalize hcv : cs[k] = c at *
          clear hcv
          have hS1 := hokc.1
          have hS2 := hokc.2.1
          have hS3 := hokc.2.2
          simp only [CV.pc] at hS1 hS2 hS3
          have hr2 := fun (w' : World) (hb : Below wr.heap.size wr w') => rangeAt_below hr hb
          go_wp2_with (first
            | (refine wpList_load_mid rfl 24 _ (by rfl) b (off + k * 3) (by rfl) c.row _ hr Try.underlying24 rfl size_cell ?_))
          refine hC.mono ?_
          rintro e w1 ⟨rfl, hb1⟩
          go_wp2_with (first
            | (refine wpList_load_mid rfl 24 _ (by rfl) b (off + k * 3) (by rfl) c.row _ (hr2 w1 hb1) Try.underlying24 rfl size_cell ?_))
          refine (rcell_any (hca.below hb1) (by omega) (by omega) (by omega)).mono ?_
          rintro e w2 ⟨ca, cn, cc, rfl, hO2, hb2⟩
          have hcn : cn = 8 + S := by
            have := hO2.2.1
            rw [tellC_length] at this
            have := hO2.bs.length
            rw [tellC_length] at this
            simp only [CV.pc] at this
            omega
          subst hcn
          have hbel1 := hbel.trans (hb1.mono hbel.size)
          have hbel2 := hbel1.trans (hb2.mono hbel1.size)
          obtain ⟨a3, c3, w3, hr3, ho3, hb3⟩ := run_append_more w.heap.size w w2 oa m oc _ ((hown.below hb1).below hb2) hbel2 (Nat.le_refl _) ca (8 + S) cc _ hO2.bs (by omega)
          have hF := hN w3 a3 c3 _ rfl ho3 hb3
          clear hN hown hC hr hr2 hca hO2 ho3 hcw
          go_wp2_with (at_builtin; refine wpList_append_run (by rfl) (.tmp 43) (.tmp 48) 22 (by rfl) _ _ _ _ (by rfl) (by rfl) hr3 ?_)
          go_roundw
          case rel => exact ⟨k + 1, _, a3, c3, by omega, by go_num, rfl, hF⟩
          case measure => simp [intOf]; omega
      · have hk' : k = len := by omega
        subst hk'
        have hall : (cs.map CV.pc).all (okC S) = true := by
          have := hI.ok
          rw [List.take_of_length_le (by rw [List.length_map]; omega)] at this
          exact this
        have hown := hI.own
        rw [List.take_of_length_le (by omega)] at hown
        have hkk : okK (cs.map CV.pc) Z S = true := okK_of hz (by rw [hL]; exact hle) (List.all_eq_true.1 hall)
        have HB := hide hkk
        have hmZ : m ≤ Z * (8 + S) := by
          rw [hI.len]
          exact Nat.mul_le_mul (by omega) (Nat.le_refl _)
        have hZS : (Z : Int) * (8 + (S : Int)) = ((Z * (8 + S) : Nat) : Int) := by push_cast; rfl
        have hNm : Z * (8 + S) ≤ 16 * 60008 := Nat.mul_le_mul hz16 (by omega)
        have hfl : ((cs.map CV.pc).flatMap tellC).length = m := hown.bs.length
        have hcode : codeR (cs.map CV.pc) Z S = (cs.map CV.pc).flatMap tellC ++ zL (Z * (8 + S) - m) := by
          unfold codeR codeL
          rw [if_pos hkk, hZS, Int.toNat_natCast, hfl]
        obtain ⟨hw1, hw2, hw3, hlim⟩ := out_low Z S m hs6 hNm hmZ
        generalize hN : Z * (8 + S) = N at *
        have HC := hide hcode
        have hnn := hI.none
        have hmp : ¬ k = 0 → 0 < m := fun h0 => by rw [hI.len]; exact Nat.mul_pos (Nat.pos_of_ne_zero h0) (by omega)
        clear hno hall hkk hcode hI hN
        by_cases hk0 : k = 0
        · obtain ⟨rfl, rfl⟩ := hnn hk0
          have hm0 : m = 0 := hown.bs.le_cap |> Nat.le_zero.1
          subst hm0
          obtain ⟨a3, c3, w3, hr3, ho3, hb3⟩ := run_append_zeros0 wr (N - 0) (by omega)
          have hnil : (cs.map CV.pc).flatMap tellC = [] := List.eq_nil_of_length_eq_zero hfl
          have hR : OwnS 5 w.heap.size w3 a3 (N - 0) c3 (codeR (cs.map CV.pc) Z S) := by
            rw [HC.out, hnil, List.nil_append]
            exact ho3.weak hbel.size
          have HR := hide hR
          clear hR ho3 hfl hnil hown hw3 hlim hmp hnn hmZ hM
          subst hk0
          go_wp2_with (at_builtin; (refine Lib.wpList_append_run _ rfl (.tmp 50) (.tmp 57) 22 3 (by rfl) _ _ rfl rfl (.slice a3 N c3) w3 ?hh ?_; case hh => (simp [Act.eval]; exact hr3)))
          go_ret2
          exact ⟨a3, _, c3, ret_pair HB.out.symm, HR.out, hbel.trans (hb3.mono hbel.size)⟩
        · have hm0 : 0 < m := hmp hk0
          obtain ⟨a3, c3, w3, hr3, ho3, hb3⟩ := run_append_zeros w.heap.size w wr oa m oc _ hown hm0 hbel (Nat.le_refl _) (N - m) hlim
          rw [show ((N - m : Nat) : Int) = (N : Int) - (m : Int) by omega, show m + (N - m) = N by omega] at hr3
          rw [show m + (N - m) = N by omega] at ho3
          rw [← HC.out] at ho3
          have HR := hide ho3
          clear ho3 hfl hown hnn hmp hlim
          go_wp2_with (at_builtin; (refine Lib.wpList_append_run _ rfl (.tmp 50) (.tmp 57) 22 3 (by rfl) _ _ rfl rfl (.slice a3 N c3) w3 ?hh ?_; case hh => (simp [Act.eval]; exact hr3)))
          go_ret2
          exact ⟨a3, _, c3, ret_pair HB.out.symm, HR.out, hb3⟩
  · have hk : okK (cs.map CV.pc) z size = false := by
      by_cases h1 : okZ z size = true
      · have h2 : ¬ (len : Int) ≤ z := fun h2 => hz ⟨okZ_is h1, h2⟩
        unfold okK
        rw [decide_eq_false (by rw [hL]; exact h2)]
        simp
      · unfold okK
        rw [Bool.eq_false_iff.2 h1]
        rfl
    have hn := hide (hno w hk)
    rw [hk]
    clear hno hk h hL hlc hcl
    have hex : z < 0 ∨ 16 < z ∨ size < 0 ∨ 60000 < size ∨ (0 ≤ z ∧ z ≤ 16 ∧ 0 ≤ size ∧ size ≤ 60000 ∧ z < (len : Int)) := by omega
    by_cases z0 : z < 0
    · clear hz hex
      go_enter Try.func13, Try.ntmps13
      go_wp2_with fail
      go_ret2
      exact ⟨none, 0, 0, rfl, hn.out, Below.refl _ _⟩
    · by_cases z1 : 16 < z
      · clear hz hex
        go_enter Try.func13, Try.ntmps13
        go_wp2_with fail
        go_ret2
        exact ⟨none, 0, 0, rfl, hn.out, Below.refl _ _⟩
      · by_cases s0 : size < 0
        · clear hz hex
          go_enter Try.func13, Try.ntmps13
          go_wp2_with fail
          go_ret2
          exact ⟨none, 0, 0, rfl, hn.out, Below.refl _ _⟩
        · by_cases s1 : 60000 < size
          · clear hz hex
            go_enter Try.func13, Try.ntmps13
            go_wp2_with fail
            go_ret2
            exact ⟨none, 0, 0, rfl, hn.out, Below.refl _ _⟩
          · have hq : z < (len : Int) := by omega
            clear hz hex
            go_enter Try.func13, Try.ntmps13
            go_wp2_with fail
            go_ret2
            exact ⟨none, 0, 0, rfl, hn.out, Below.refl _ _⟩
#print axioms rcode_any
end Go.Proofs.Ytgjffoeegnljlaa
