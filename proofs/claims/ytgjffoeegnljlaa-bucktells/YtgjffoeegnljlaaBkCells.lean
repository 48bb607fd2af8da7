
/- What the reference's Cells of a bucket does: for all bytes, every number of Cells and every size. No conditions but those that each line states. -/
import Derived.Test.YtgjffoeegnljlaaBkRead
import Derived.Test.YtgjffoeegnljlaaBkRefC
import Derived.Test.YtgjffoeegnljlaaSame1
import Derived.Test.YtgjffoeegnljlaaRef1Get
import Derived.Test.YtgjffoeegnljlaaFork
namespace Go.Proofs.Ytgjffoeegnljlaa
open Go.RowKit
set_option maxRecDepth 20000

/-- What a round of Cells finds: k Cells read. -/
structure CellI (w wr : World) (S Z : Nat) (bs : List Int) (k : Nat) (oa : Option Addr) (oc : Nat) (ds : List CV) : Prop where
  le : k ≤ Z
  own : OwnC w.heap.size wr oa k oc ds
  bel : Below w.heap.size w wr
  rd : readL S Z bs = ds.map CV.pc ++ readL S (Z - k) (bs.drop (k * (8 + S)))
  tl : (ds.map CV.pc).flatMap tellC = bs.take (k * (8 + S))
/-- One Cell more. -/
theorem CellI.next {w wr w' : World} {S Z : Nat} {bs : List Int} {k : Nat} {oa : Option Addr} {oc : Nat} {ds : List CV} (h : CellI w wr S Z bs k oa oc ds) (hb : IsBytes bs) (hl : bs.length = Z * (8 + S)) (hk : k < Z) (hn : ¬ leNum ((bs.drop (k * (8 + S))).take 4) = 0) (d : CV) (hd : d.pc = (leNum ((bs.drop (k * (8 + S))).take 4), leNum (((bs.drop (k * (8 + S))).drop 4).take 4), ((bs.drop (k * (8 + S))).drop 8).take S)) {oa' : Option Addr} {oc' : Nat}
    (ho : OwnC w.heap.size w' oa' (k + 1) oc' (ds ++ [d])) (hb' : Below w.heap.size w w') : CellI w w' S Z bs (k + 1) oa' oc' (ds ++ [d]) := by
  obtain ⟨h4, h5⟩ := read_next (cs := ds.map CV.pc) hb hl hk h.rd h.tl hn d.pc hd
  refine ⟨hk, ho, hb', ?_, ?_⟩
  · rw [List.map_append]
    exact h4
  · rw [List.map_append]
    exact h5
/-- Where nothing more is read. -/
theorem CellI.done {w wr : World} {S Z : Nat} {bs : List Int} {k : Nat} {oa : Option Addr} {oc : Nat} {ds : List CV} (h : CellI w wr S Z bs k oa oc ds) (hz : Z ≤ 16) (hs : S ≤ 60000) (hl : bs.length = Z * (8 + S)) (hn : readL S (Z - k) (bs.drop (k * (8 + S))) = []) :
    isBk bs Z S = (okK (ds.map CV.pc) Z S && decide (codeR (ds.map CV.pc) Z S = bs)) ∧ (isBk bs Z S = true → ds.map CV.pc = readR bs Z S) := by
  have hr : readL S Z bs = ds.map CV.pc := by
    rw [h.rd, hn, List.append_nil]
  have h1 : okZ (Z : Int) (S : Int) = true := decide_eq_true ⟨⟨by omega, by omega⟩, by omega, by omega⟩
  have hZS : (Z : Int) * (8 + (S : Int)) = ((Z * (8 + S) : Nat) : Int) := by push_cast; rfl
  have h2 : decide (((bs.length : Nat) : Int) = (Z : Int) * (8 + (S : Int))) = true := decide_eq_true (by rw [hl, hZS])
  constructor
  · unfold isBk
    rw [Int.toNat_natCast, Int.toNat_natCast, hr, h1, h2]
    simp only [Bool.true_and]
    cases hk : okK (ds.map CV.pc) Z S
    · rfl
    · unfold codeR
      rw [if_pos hk, hZS, Int.toNat_natCast, hl]
  · intro hb
    unfold readR
    rw [if_pos hb, Int.toNat_natCast, Int.toNat_natCast, hr]
theorem cells_low (k Z S len : Nat) (hk : k < Z) (hZ : Z ≤ 16) (hS : S ≤ 60000) (hl : len = Z * (8 + S)) : k * (8 + S) + (8 + S) ≤ len ∧ (k : Int) * (8 + (S : Int)) = ((k * (8 + S) : Nat) : Int) ∧ ((k : Int) + 1) * (8 + (S : Int)) = ((k * (8 + S) + (8 + S) : Nat) : Int) ∧ wrap64 (8 + (S : Int)) = 8 + (S : Int) ∧ wrap64 ((k : Int) * (8 + (S : Int))) = (k : Int) * (8 + (S : Int)) ∧ wrap64 (((k : Int) + 1) * (8 + (S : Int))) = ((k : Int) + 1) * (8 + (S : Int)) ∧ len ≤ 16 * 60008 := by
  have e1 : (k : Int) * (8 + (S : Int)) = ((k * (8 + S) : Nat) : Int) := by push_cast; rfl
  have e2 : ((k : Int) + 1) * (8 + (S : Int)) = ((k * (8 + S) + (8 + S) : Nat) : Int) := by push_cast; rw [Int.add_mul, Int.one_mul]
  have h1 : (k + 1) * (8 + S) ≤ Z * (8 + S) := Nat.mul_le_mul hk (Nat.le_refl _)
  have h2 : Z * (8 + S) ≤ 16 * 60008 := Nat.mul_le_mul hZ (by omega)
  rw [Nat.add_mul, Nat.one_mul] at h1
  rw [e1, e2]
  subst hl
  generalize k * (8 + S) = K at *
  generalize Z * (8 + S) = M at *
  exact ⟨h1, rfl, rfl, wrap64_low _ (by omega), wrap64_low _ (by omega), wrap64_low _ (by omega), h2⟩
/-- The cut of one Cell's bytes. -/
theorem cell_cut {w : World} {a : Option Addr} {len cap K S : Nat} {bs : List Int} (h : Bs w a len cap bs) (hK : K + (8 + S) ≤ len) (i j : Int) (e1 : i = (K : Int)) (e2 : j = ((K + (8 + S) : Nat) : Int)) :
    Bs w (cutA a cap K) (8 + S) (cap - K) ((bs.drop K).take (8 + S)) ∧ ∀ w', (Instr.slice 22 (.slice a len cap) (some (.int .i64 i)) (some (.int .i64 j)) none).run Try.prog w' = .ok (.slice (cutA a cap K) (8 + S) (cap - K)) w' := by
  have hlc := h.le_cap
  refine ⟨(h.cut K (by omega)).taken (8 + S) (by omega), fun w' => ?_⟩
  have hcut := run_cut_mid (P := Try.prog) Try.underlying22 Try.size_u8 a len cap .i64 .i64 i j K (K + (8 + S)) e1 e2 (by omega) (by omega) w'
  rw [show K + (8 + S) - K = 8 + S by omega] at hcut
  exact hcut
theorem mul16_low (z size : Int) (hz : 0 ≤ z ∧ z ≤ 16) (hs : 0 ≤ size ∧ size ≤ 60000) : wrap64 (z * (8 + size)) = z * (8 + size) := by
  have h1 : z * (8 + size) ≤ 16 * 60008 := Int.mul_le_mul hz.2 (by omega) (by omega) (by omega)
  have h2 : 0 ≤ z * (8 + size) := Int.mul_nonneg hz.1 (by omega)
  generalize z * (8 + size) = M at *
  exact wrap64_low _ (by omega)
theorem x_parts (l : List Int) (S : Nat) : (l.take (8 + S)).take 4 = l.take 4 ∧ ((l.take (8 + S)).drop 4).take 4 = (l.drop 4).take 4 ∧ (l.take (8 + S)).drop 8 = (l.drop 8).take S := by
  refine ⟨?_, ?_, ?_⟩
  · rw [List.take_take, Nat.min_eq_left (by omega)]
  · rw [List.drop_take, List.take_take, Nat.min_eq_left (by omega)]
  · rw [List.drop_take, show 8 + S - 8 = S by omega]
/-- 'append([]byte{}, src...)', behind the row just laid. -/
theorem run_append_fresh2 (w : World) (sp : Option Addr) (sLen sCap : Nat) (zs : List Int) (hs : Bs (w.alloc (Obj.cells #[] 5)) sp sLen sCap zs) (hlim : sLen ≤ 140737488355328) :
    ∃ a' cap' w', (Builtin.append_ #[22, 22] 22 #[.slice (some ⟨w.heap.size, 0, none⟩) 0 0, .slice sp sLen sCap]).run Try.prog (w.alloc (Obj.cells #[] 5)) = .ok (.slice a' sLen cap') w' ∧ OwnS 5 w.heap.size w' a' sLen cap' zs ∧ Below w.heap.size (w.alloc (Obj.cells #[] 5)) w' := by
  have h0 : OwnS 5 w.heap.size (w.alloc (Obj.cells #[] 5)) (some ⟨w.heap.size, 0, none⟩) 0 0 [] := OwnB.owns (E := 5) (heap_alloc_new w (Obj.cells #[] 5)) IsBytes.nil rfl (by omega) (Nat.le_refl _)
  obtain ⟨a', c', w', hr, ho, hb⟩ := run_append_more w.heap.size (w.alloc (Obj.cells #[] 5)) _ _ 0 0 [] h0 (Below.refl _ _) (by rw [size_alloc]; omega) sp sLen sCap zs hs (by omega)
  rw [Nat.zero_add, List.nil_append] at ho
  rw [Nat.zero_add] at hr
  exact ⟨a', c', w', hr, ho, hb⟩
/-- The literal '[]byte{}'. -/
theorem op_empty {w : World} {o : Oper} {a : Act} {K : Act → World → Prop} {Q : Exit → Act → World → Prop} (hop : o.op = .buildSlice 22 0 #[]) (h : K (a.put o.dst (.slice (some ⟨w.heap.size, 0, none⟩) 0 0)) (w.alloc (.cells #[] 5))) : o.wp Try.prog a w K Q := by
  unfold Oper.wp execOp
  simp only [hop]
  go_simp
  exact h
set_option maxHeartbeats 4000000 in
theorem rcells_any {a : Option Addr} {len cap : Nat} {bs : List Int} (w : World) (h : Bs w a len cap bs) (z size : Int) :
    Calls Try.prog 14 #[.slice a len cap, .int .i64 z, .int .i64 size] w fun e w' => ∃ a' n' c' ds, e = .returned (.tuple #[.slice a' n' c', .bool (isBk bs z size)]) ∧ ds.map CV.pc = readR bs z size ∧ Ces w' a' n' c' ds ∧ Below w.heap.size w w' := by
  have hlen := h.length
  have hlc := h.le_cap
  have hcl := h.cap_le
  by_cases hz : ((0 ≤ z ∧ z ≤ 16) ∧ 0 ≤ size ∧ size ≤ 60000) ∧ (len : Int) = z * (8 + size)
  · obtain ⟨⟨⟨z0, z1⟩, s0, s1⟩, hle⟩ := hz
    obtain ⟨Z, rfl⟩ := Int.eq_ofNat_of_zero_le z0
    obtain ⟨S, rfl⟩ := Int.eq_ofNat_of_zero_le s0
    have hz16 : Z ≤ 16 := by omega
    have hs6 : S ≤ 60000 := by omega
    have hZS : (Z : Int) * (8 + (S : Int)) = ((Z * (8 + S) : Nat) : Int) := by push_cast; rfl
    have hl : bs.length = Z * (8 + S) := by rw [hlen]; rw [hZS] at hle; exact Int.ofNat.inj hle
    have h0 : CellI w w S Z bs 0 none 0 [] := ⟨Nat.zero_le _, OwnC.nil _ _, Below.refl _ _, by simp, by simp⟩
    have hb := h.bytes
    have hq1 : ¬ (Z : Int) < 0 := by omega
    have hq2 : ¬ (16 : Int) < (Z : Int) := by omega
    have hq3 : ¬ (S : Int) < 0 := by omega
    have hq4 : ¬ (60000 : Int) < (S : Int) := by omega
    have hw1 : wrap64 (8 + (S : Int)) = 8 + (S : Int) := wrap64_low _ (by omega)
    have hw2 : wrap64 ((Z : Int) * (8 + (S : Int))) = (len : Int) := by
      rw [← hle]
      exact wrap64_low _ (by omega)
    clear hle hZS
    go_enter Try.func14, Try.ntmps14
    go_wp2_with fail
    clear hw2 hw1 hq1 hq2 hq3 hq4
    go_loopw [8, 9] (fun o i wr => ∃ (k : Nat) (oa : Option Addr) (oc : Nat) (ds : List CV), i = .int .i64 k ∧ o = .slice oa k oc ∧ CellI w wr S Z bs k oa oc ds) (fun _ i _ => Z - (intOf i).toNat)
    case atStart => exact ⟨0, none, 0, [], rfl, rfl, h0⟩
    case round =>
      clear h0
      obtain ⟨k, oa, oc, ds, rfl, rfl, hI⟩ := hrel
      have hk1 := hI.le
      have hbel := hI.bel
      by_cases hlt : k < Z
      · obtain ⟨hK, e1, e2, hw1, hw2, hw3, -⟩ := cells_low k Z S len hlt hz16 hs6 (hlen.symm.trans hl)
        obtain ⟨hX, hcut⟩ := cell_cut (h.below hbel) hK _ _ e1 e2
        obtain ⟨p1, p2, p3⟩ := x_parts (bs.drop (k * (8 + S))) S
        have hcut4 := run_cut_to (P := Try.prog) Try.underlying22 Try.size_u8 hX .i64 4 4 rfl (Nat.le_trans (Nat.le_trans (by decide) (Nat.le_add_right 8 S)) hX.le_cap)
        have hG := rget_any wr (hX.taken 4 (Nat.le_trans (by decide) (Nat.le_add_right 8 S)))
        rw [List.take_take, show min 8 4 = 4 from rfl, p1] at hG
        clear e1 e2
        by_cases hnum : leNum ((bs.drop (k * (8 + S))).take 4) = 0
        · obtain ⟨hD1, hD2⟩ := hI.done hz16 hs6 hl (readL_stop _ _ _ hnum)
          rw [hnum] at hG
          have hces := hI.own.ces
          clear hnum hX p1 p2 p3 hK hI
          generalize k * (8 + S) = K at *
          go_wp2_with fail
          refine hG.mono ?_
          rintro e w1 ⟨rfl, rfl⟩
          clear hG hcut hcut4 hw1 hw2 hw3
          have hC := rcode_any wr hces (Z : Int) (S : Int)
          cases hok : okK (ds.map CV.pc) Z S
          · rw [hok] at hC
            have hbk : isBk bs Z S = false := by rw [hD1, hok]; rfl
            have HR := hide (readR_no hbk)
            have HB := hide hbk
            clear hD1 hD2 hok hbk hces hl
            go_wp2_with fail
            refine hC.mono ?_
            rintro e w1 ⟨ca, cn, cc, rfl, -, b1⟩
            go_wp2_with fail
            go_ret2
            exact ⟨none, 0, 0, [], ret_pair HB.out.symm, HR.out, Ces.nil _, hbel.trans (b1.mono hbel.size)⟩
          · rw [hok] at hC
            cases heq : decide (codeR (ds.map CV.pc) Z S = bs)
            · have hbk : isBk bs Z S = false := by rw [hD1, hok, heq]; rfl
              have HR := hide (readR_no hbk)
              have HB := hide hbk
              have HQ := hide heq
              clear hD1 hD2 hok hbk hces heq hl
              go_wp2_with fail
              refine hC.mono ?_
              rintro e w1 ⟨ca, cn, cc, rfl, hO, b1⟩
              have hS := same_any w1 hO.bs ((h.below hbel).below b1)
              rw [HQ.out] at hS
              clear hC hO
              go_wp2_with fail
              refine hS.mono ?_
              rintro e w2 ⟨rfl, rfl⟩
              go_wp2_with fail
              go_ret2
              exact ⟨none, 0, 0, [], ret_pair HB.out.symm, HR.out, Ces.nil _, hbel.trans (b1.mono hbel.size)⟩
            · have hbk : isBk bs Z S = true := by rw [hD1, hok, heq]; rfl
              have HR := hide (hD2 hbk)
              have HB := hide hbk
              have HQ := hide heq
              clear hD1 hD2 hok hbk heq hl
              go_wp2_with fail
              refine hC.mono ?_
              rintro e w1 ⟨ca, cn, cc, rfl, hO, b1⟩
              have hS := same_any w1 hO.bs ((h.below hbel).below b1)
              rw [HQ.out] at hS
              clear hC hO
              go_wp2_with fail
              refine hS.mono ?_
              rintro e w2 ⟨rfl, rfl⟩
              go_wp2_with fail
              go_ret2
              exact ⟨oa, _, oc, ds, ret_pair HB.out.symm, HR.out, hces.below b1, hbel.trans (b1.mono hbel.size)⟩
        · have hN := fun (w' : World) (oa' : Option Addr) (oc' : Nat) (d : CV) hd => hI.next (w' := w') (oa' := oa') (oc' := oc') hb hl hlt hnum d hd
          have hown := hI.own
          have hA0 : (leNum ((bs.drop (k * (8 + S))).take 4) == 0) = false := beq_eq_false_iff_ne.2 hnum
          have h84 : 4 ≤ 8 + S := Nat.le_trans (by decide) (Nat.le_add_right 8 S)
          have h88 : 8 ≤ 8 + S := Nat.le_add_right 8 S
          have hXc := hX.le_cap
          have hM := (hX.cut 4 h84).taken 4 (by omega)
          have hE := hX.cut 8 h88
          rw [p2] at hM
          rw [p3, Nat.add_sub_cancel_left] at hE
          have hX4 := hX.taken 4 h84
          rw [p1] at hX4
          have hbA := leNum4 ((hb.drop (k * (8 + S))).take 4) (by rw [List.length_take]; exact Nat.min_le_left _ _)
          have hbL := leNum4 (((hb.drop (k * (8 + S))).drop 4).take 4) (by rw [List.length_take]; exact Nat.min_le_left _ _)
          have hcutm := run_cut_mid (P := Try.prog) Try.underlying22 Try.size_u8 (cutA a cap (k * (8 + S))) (8 + S) (cap - k * (8 + S)) .i64 .i64 4 8 4 8 rfl rfl (by decide) (Nat.le_trans h88 hXc)
          have hcut8 := run_cut_from (P := Try.prog) Try.underlying22 Try.size_u8 (cutA a cap (k * (8 + S))) (8 + S) (cap - k * (8 + S)) .i64 8 8 rfl h88
          rw [Nat.add_sub_cancel_left] at hcut8
          have hlt2 := hown.row.lt
          have hk16 : k + 1 ≤ 1000000 := by omega
          clear hX p1 p2 p3 hK hI hnum hl h84 h88 hXc
          generalize k * (8 + S) = K at *
          generalize cutA a cap K = xa at *
          generalize cap - K = xc at *
          generalize hAe : leNum ((bs.drop K).take 4) = A at *
          generalize hLe : leNum (((bs.drop K).drop 4).take 4) = L at *
          have HA := hide hAe
          have HL := hide hLe
          clear hAe hLe
          generalize ((bs.drop K).drop 8).take S = D at *
          go_wp2_with fail
          refine hG.mono ?_
          rintro e w1 ⟨rfl, rfl⟩
          go_wp2_with fail
          refine wp_region_pre (fun v v' => Below w.heap.size v v') [0, 1, 2, 5, 6, 10, 11] 10 (by kernel_rfl) (by kernel_rfl) (by kernel_rfl) (fun _ => Below.refl _ _) (fun _ _ _ h k => h.trans k) ?_
          have sd := (Below.refl wr.heap.size wr).drew
          have B1 : Below w.heap.size w wr.drew := hbel.drew
          have hM1 := hM.below sd
          have hX1 := hX4.below sd
          have hE1 := hE.below sd
          have hown1 := hown.below sd
          have hlt3 : ∀ g, (Value.slice oa k oc).ownBlock = some g → g < wr.drew.heap.size := fun g e => Nat.lt_of_lt_of_le (hlt2 g e).2 sd.size
          have hw4 := wrap_i64_low A (by omega)
          have hw5 := wrap_i64_low L (by omega)
          clear hG hM hE hX4 hown sd hlt2 hw1 hw2 hw3 hcut
          generalize wr.drew = v1 at *
          have hG3 : ∀ v, Below v1.heap.size v1 v → Calls Try.prog 26 #[.slice xa 4 xc] v fun e w' => e = .returned (.int .u64 A) ∧ v = w' := by
            intro v hb
            have := rget_any v (hX1.below hb)
            rw [List.take_of_length_le (by rw [hX1.length]; decide), HA.out] at this
            exact this
          have hG7 : ∀ v, Below v1.heap.size v1 v → Calls Try.prog 26 #[.slice (cutA xa xc 4) 4 (xc - 4)] v fun e w' => e = .returned (.int .u64 L) ∧ v = w' := by
            intro v hb
            have := rget_any v (hM1.below hb)
            rw [List.take_of_length_le (by rw [hM1.length]; decide), HL.out] at this
            exact this
          have HG3 := hide hG3
          have HG7 := hide hG7
          clear hG3 hG7 hX1 hM1 HA HL
          repeat' (first
            | (refine wpPre_quiet (v := ?_) rfl (fun _ _ _ h => h) (by rfl) ?_ ?_
               rotate_left
               · (intro w' hR; go_simp; try rfl)
               simp only [Act.put, List.setIfInBounds_toArray, List.set_cons_zero, List.set_cons_succ])
            | fail)
          refine wpPre_nil ?_
          refine wpR_two 3 9 (by kernel_rfl) ?_ ?_
          · refine wpOp_go rfl (by rfl) (fun K' hK => ?_)
            go_simp
            refine (HG3.out v1 (Below.refl _ _)).mono ?_
            rintro e v2 ⟨rfl, rfl⟩
            refine hK.out _ _ (Below.refl _ _) ?_
            clear hK K'
            try simp only [Act.put, List.setIfInBounds_toArray, List.set_cons_zero, List.set_cons_succ]
            refine wpR_of_pre (by kernel_rfl) (fun _ => Below.refl _ _) (fun _ _ _ h k => h.trans k) 8 [4] _ _ _ (by kernel_rfl) ?_
            repeat' (first
              | (refine wpPre_quiet (v := ?_) rfl (fun _ _ _ h => h) (by rfl) ?_ ?_
                 rotate_left
                 · (intro w' hR; go_simp; try rfl)
                 simp only [Act.put, List.setIfInBounds_toArray, List.set_cons_zero, List.set_cons_succ])
              | fail)
            refine wpPre_nil ?_
            refine wpR_two 7 9 (by kernel_rfl) ?_ ?_
            · refine wpOp_go rfl (by rfl) (fun K' hK => ?_)
              go_simp
              refine (HG7.out v1 (Below.refl _ _)).mono ?_
              rintro e v2 ⟨rfl, rfl⟩
              refine hK.out _ _ (Below.refl _ _) ?_
              clear hK K'
              try simp only [Act.put, List.setIfInBounds_toArray, List.set_cons_zero, List.set_cons_succ]
              refine wpR_ord [8, 9, 12, 13, 14, 15, 16] (by kernel_rfl) (by kernel_rfl) (fun _ => Below.refl _ _) (fun _ _ _ h k => h.trans k) ?_
              repeat' (first
                | (refine wpRel_quiet (v := ?_) rfl rfl (fun _ _ _ h => h) (by rfl) ?_ ?_
                   rotate_left
                   · (intro w' hR; go_simp; try rfl)
                   simp only [Act.put, List.setIfInBounds_toArray, List.set_cons_zero, List.set_cons_succ])
                | fail)
              refine wpRel_step rfl rfl (by rfl) (fun K' hK => ?_)
              refine op_empty (by rfl) ?_
              have b2 := below_alloc (Below.refl v1.heap.size v1) (Obj.cells #[] 5)
              have B2 := B1.trans (b2.mono B1.size)
              obtain ⟨da, dc, v3, hr3, ho3, b3⟩ := run_append_fresh2 v1 _ S _ _ (hE1.below b2) (by omega)
              refine hK.out _ _ (b2.mono B1.size) ?_
              clear hK K'
              try simp only [Act.put, List.setIfInBounds_toArray, List.set_cons_zero, List.set_cons_succ]
              have B3 := B2.trans (b3.mono B1.size)
              have hown5 : OwnC w.heap.size v3 oa k oc ds := by
                have hb5 : Below v1.heap.size v1 v3 := b2.trans b3
                exact hown1.below hb5
              have hdoff : (CV.mk A L ⟨da, S, dc, D⟩).Off (Value.slice oa k oc).ownBlock := by
                intro h0 p hp e
                obtain ⟨g, e2, hg, _⟩ := ho3.form h0
                simp only at hp
                rw [e2] at hp
                cases hp
                have := hlt3 _ e
                simp only at this
                omega
              have hdat : (CV.mk A L ⟨da, S, dc, D⟩).At v3 := ⟨by simp only; omega, by simp only; omega, ho3.bs⟩
              refine wpRel_step rfl rfl (by rfl) (fun K' hK => ?_)
              refine wp_append_run (.tmp 65) (.tmp 67) 22 (by rfl) _ _ _ (by rfl) (by rfl) hr3 ?_
              refine hK.out _ _ (b3.mono B1.size) ?_
              clear hK K'
              try simp only [Act.put, List.setIfInBounds_toArray, List.set_cons_zero, List.set_cons_succ]
              clear hr3 ho3 b2 b3 B2 hE1 hown1 hlt3
              repeat' (first
                | (refine wpRel_quiet (v := ?_) rfl rfl (fun _ _ _ h => h) (by rfl) ?_ ?_
                   rotate_left
                   · (intro w' hR; go_simp; try rfl)
                   simp only [Act.put, List.setIfInBounds_toArray, List.set_cons_zero, List.set_cons_succ])
                | fail)
              refine wpRel_step rfl rfl (by rfl) (fun K' hK => ?_)
              refine wp_buildSliceTo 26 24 1 _ (by rfl) Try.underlying26 [(0, .agg #[.int .i64 A, .int .i64 L, .slice da S dc])] (by simp [Act.eval]) #[.int .i64 A, .int .i64 L, .slice da S dc] (builtS_cell (CV.mk A L ⟨da, S, dc, D⟩)) ?_
              have b4 := cells_below v3 #[.int .i64 A, .int .i64 L, .slice da S dc]
              have hs4 := Ces.lit (w := v3) (cs := [CV.mk A L ⟨da, S, dc, D⟩]) (vs := #[.int .i64 A, .int .i64 L, .slice da S dc]) (n := 1) rfl rfl (by omega) (fun c h => by cases List.mem_singleton.1 h; exact hdat)
              have B4 := B3.trans (b4.mono B3.size)
              have hown4 := hown5.below b4
              refine hK.out _ _ (b4.mono B3.size) ?_
              clear hK K'
              try simp only [Act.put, List.setIfInBounds_toArray, List.set_cons_zero, List.set_cons_succ]
              clear b4 hdat B3 hown5
              generalize (v3.alloc (Obj.cells #[.int .i64 A, .int .i64 L, .slice da S dc] 24)) = v4 at *
              obtain ⟨a5, c5, v5, hr5, ho5, b5⟩ := run_append_cells w.heap.size v4 v4 oa k oc ds hown4 (Below.refl _ _) B4.size _ 1 1 _ hs4 (fun d hd => by cases List.mem_singleton.1 hd; exact hdoff) hk16
              refine wpRel_step rfl rfl (by rfl) (fun K' hK => ?_)
              refine wp_append_run (.tmp 56) (.tmp 70) 26 (by rfl) _ _ _ (by rfl) (by rfl) hr5 ?_
              refine hK.out _ _ b5 ?_
              clear hK K'
              try simp only [Act.put, List.setIfInBounds_toArray, List.set_cons_zero, List.set_cons_succ]
              have hF := hN v5 a5 c5 _ rfl ho5 (B4.trans b5)
              clear hr5 ho5 b5 hown4 hs4 hN hdoff hw4 hw5
              repeat' (first
                | (refine wpRel_quiet (v := ?_) rfl rfl (fun _ _ _ h => h) (by rfl) ?_ ?_
                   rotate_left
                   · (intro w' hR; go_simp; try rfl)
                   simp only [Act.put, List.setIfInBounds_toArray, List.set_cons_zero, List.set_cons_succ])
                | fail)
              refine wpRel_nil ?_
              go_wp2_with fail
              go_roundw
              case rel => exact ⟨k + 1, a5, c5, _, by go_num, rfl, hF⟩
              case measure => simp [intOf]; omega
            · refine wpOp_go rfl (by rfl) (fun K' hK => ?_)
              refine op_empty (by rfl) ?_
              have b2 := below_alloc (Below.refl v1.heap.size v1) (Obj.cells #[] 5)
              have B2 := B1.trans (b2.mono B1.size)
              obtain ⟨da, dc, v3, hr3, ho3, b3⟩ := run_append_fresh2 v1 _ S _ _ (hE1.below b2) (by omega)
              refine hK.out _ _ (b2.mono B1.size) ?_
              clear hK K'
              try simp only [Act.put, List.setIfInBounds_toArray, List.set_cons_zero, List.set_cons_succ]
              refine wpR_ord [7, 8, 12, 13, 14, 15, 16] (by kernel_rfl) (by kernel_rfl) (fun _ => Below.refl _ _) (fun _ _ _ h k => h.trans k) ?_
              refine wpRel_step rfl rfl (by rfl) (fun K' hK => ?_)
              go_simp
              refine (HG7.out _ b2).mono ?_
              rintro e v2 ⟨rfl, rfl⟩
              refine hK.out _ _ (Below.refl _ _) ?_
              clear hK K'
              try simp only [Act.put, List.setIfInBounds_toArray, List.set_cons_zero, List.set_cons_succ]
              repeat' (first
                | (refine wpRel_quiet (v := ?_) rfl rfl (fun _ _ _ h => h) (by rfl) ?_ ?_
                   rotate_left
                   · (intro w' hR; go_simp; try rfl)
                   simp only [Act.put, List.setIfInBounds_toArray, List.set_cons_zero, List.set_cons_succ])
                | fail)
              have B3 := B2.trans (b3.mono B1.size)
              have hown5 : OwnC w.heap.size v3 oa k oc ds := by
                have hb5 : Below v1.heap.size v1 v3 := b2.trans b3
                exact hown1.below hb5
              have hdoff : (CV.mk A L ⟨da, S, dc, D⟩).Off (Value.slice oa k oc).ownBlock := by
                intro h0 p hp e
                obtain ⟨g, e2, hg, _⟩ := ho3.form h0
                simp only at hp
                rw [e2] at hp
                cases hp
                have := hlt3 _ e
                simp only at this
                omega
              have hdat : (CV.mk A L ⟨da, S, dc, D⟩).At v3 := ⟨by simp only; omega, by simp only; omega, ho3.bs⟩
              refine wpRel_step rfl rfl (by rfl) (fun K' hK => ?_)
              refine wp_append_run (.tmp 65) (.tmp 67) 22 (by rfl) _ _ _ (by rfl) (by rfl) hr3 ?_
              refine hK.out _ _ (b3.mono B1.size) ?_
              clear hK K'
              try simp only [Act.put, List.setIfInBounds_toArray, List.set_cons_zero, List.set_cons_succ]
              clear hr3 ho3 b2 b3 B2 hE1 hown1 hlt3
              repeat' (first
                | (refine wpRel_quiet (v := ?_) rfl rfl (fun _ _ _ h => h) (by rfl) ?_ ?_
                   rotate_left
                   · (intro w' hR; go_simp; try rfl)
                   simp only [Act.put, List.setIfInBounds_toArray, List.set_cons_zero, List.set_cons_succ])
                | fail)
              refine wpRel_step rfl rfl (by rfl) (fun K' hK => ?_)
              refine wp_buildSliceTo 26 24 1 _ (by rfl) Try.underlying26 [(0, .agg #[.int .i64 A, .int .i64 L, .slice da S dc])] (by simp [Act.eval]) #[.int .i64 A, .int .i64 L, .slice da S dc] (builtS_cell (CV.mk A L ⟨da, S, dc, D⟩)) ?_
              have b4 := cells_below v3 #[.int .i64 A, .int .i64 L, .slice da S dc]
              have hs4 := Ces.lit (w := v3) (cs := [CV.mk A L ⟨da, S, dc, D⟩]) (vs := #[.int .i64 A, .int .i64 L, .slice da S dc]) (n := 1) rfl rfl (by omega) (fun c h => by cases List.mem_singleton.1 h; exact hdat)
              have B4 := B3.trans (b4.mono B3.size)
              have hown4 := hown5.below b4
              refine hK.out _ _ (b4.mono B3.size) ?_
              clear hK K'
              try simp only [Act.put, List.setIfInBounds_toArray, List.set_cons_zero, List.set_cons_succ]
              clear b4 hdat B3 hown5
              generalize (v3.alloc (Obj.cells #[.int .i64 A, .int .i64 L, .slice da S dc] 24)) = v4 at *
              obtain ⟨a5, c5, v5, hr5, ho5, b5⟩ := run_append_cells w.heap.size v4 v4 oa k oc ds hown4 (Below.refl _ _) B4.size _ 1 1 _ hs4 (fun d hd => by cases List.mem_singleton.1 hd; exact hdoff) hk16
              refine wpRel_step rfl rfl (by rfl) (fun K' hK => ?_)
              refine wp_append_run (.tmp 56) (.tmp 70) 26 (by rfl) _ _ _ (by rfl) (by rfl) hr5 ?_
              refine hK.out _ _ b5 ?_
              clear hK K'
              try simp only [Act.put, List.setIfInBounds_toArray, List.set_cons_zero, List.set_cons_succ]
              have hF := hN v5 a5 c5 _ rfl ho5 (B4.trans b5)
              clear hr5 ho5 b5 hown4 hs4 hN hdoff hw4 hw5
              repeat' (first
                | (refine wpRel_quiet (v := ?_) rfl rfl (fun _ _ _ h => h) (by rfl) ?_ ?_
                   rotate_left
                   · (intro w' hR; go_simp; try rfl)
                   simp only [Act.put, List.setIfInBounds_toArray, List.set_cons_zero, List.set_cons_succ])
                | fail)
              refine wpRel_nil ?_
              go_wp2_with fail
              go_roundw
              case rel => exact ⟨k + 1, a5, c5, _, by go_num, rfl, hF⟩
              case measure => simp [intOf]; omega
          · refine wpOp_go rfl (by rfl) (fun K' hK => ?_)
            refine op_empty (by rfl) ?_
            have b2 := below_alloc (Below.refl v1.heap.size v1) (Obj.cells #[] 5)
            have B2 := B1.trans (b2.mono B1.size)
            obtain ⟨da, dc, v3, hr3, ho3, b3⟩ := run_append_fresh2 v1 _ S _ _ (hE1.below b2) (by omega)
            refine hK.out _ _ (b2.mono B1.size) ?_
            clear hK K'
            try simp only [Act.put, List.setIfInBounds_toArray, List.set_cons_zero, List.set_cons_succ]
            refine wpR_ord [3, 4, 7, 8, 12, 13, 14, 15, 16] (by kernel_rfl) (by kernel_rfl) (fun _ => Below.refl _ _) (fun _ _ _ h k => h.trans k) ?_
            refine wpRel_step rfl rfl (by rfl) (fun K' hK => ?_)
            go_simp
            refine (HG3.out _ b2).mono ?_
            rintro e v2 ⟨rfl, rfl⟩
            refine hK.out _ _ (Below.refl _ _) ?_
            clear hK K'
            try simp only [Act.put, List.setIfInBounds_toArray, List.set_cons_zero, List.set_cons_succ]
            repeat' (first
              | (refine wpRel_quiet (v := ?_) rfl rfl (fun _ _ _ h => h) (by rfl) ?_ ?_
                 rotate_left
                 · (intro w' hR; go_simp; try rfl)
                 simp only [Act.put, List.setIfInBounds_toArray, List.set_cons_zero, List.set_cons_succ])
              | fail)
            refine wpRel_step rfl rfl (by rfl) (fun K' hK => ?_)
            go_simp
            refine (HG7.out _ b2).mono ?_
            rintro e v2 ⟨rfl, rfl⟩
            refine hK.out _ _ (Below.refl _ _) ?_
            clear hK K'
            try simp only [Act.put, List.setIfInBounds_toArray, List.set_cons_zero, List.set_cons_succ]
            repeat' (first
              | (refine wpRel_quiet (v := ?_) rfl rfl (fun _ _ _ h => h) (by rfl) ?_ ?_
                 rotate_left
                 · (intro w' hR; go_simp; try rfl)
                 simp only [Act.put, List.setIfInBounds_toArray, List.set_cons_zero, List.set_cons_succ])
              | fail)
            have B3 := B2.trans (b3.mono B1.size)
            have hown5 : OwnC w.heap.size v3 oa k oc ds := by
              have hb5 : Below v1.heap.size v1 v3 := b2.trans b3
              exact hown1.below hb5
            have hdoff : (CV.mk A L ⟨da, S, dc, D⟩).Off (Value.slice oa k oc).ownBlock := by
              intro h0 p hp e
              obtain ⟨g, e2, hg, _⟩ := ho3.form h0
              simp only at hp
              rw [e2] at hp
              cases hp
              have := hlt3 _ e
              simp only at this
              omega
            have hdat : (CV.mk A L ⟨da, S, dc, D⟩).At v3 := ⟨by simp only; omega, by simp only; omega, ho3.bs⟩
            refine wpRel_step rfl rfl (by rfl) (fun K' hK => ?_)
            refine wp_append_run (.tmp 65) (.tmp 67) 22 (by rfl) _ _ _ (by rfl) (by rfl) hr3 ?_
            refine hK.out _ _ (b3.mono B1.size) ?_
            clear hK K'
            try simp only [Act.put, List.setIfInBounds_toArray, List.set_cons_zero, List.set_cons_succ]
            clear hr3 ho3 b2 b3 B2 hE1 hown1 hlt3
            repeat' (first
              | (refine wpRel_quiet (v := ?_) rfl rfl (fun _ _ _ h => h) (by rfl) ?_ ?_
                 rotate_left
                 · (intro w' hR; go_simp; try rfl)
                 simp only [Act.put, List.setIfInBounds_toArray, List.set_cons_zero, List.set_cons_succ])
              | fail)
            refine wpRel_step rfl rfl (by rfl) (fun K' hK => ?_)
            refine wp_buildSliceTo 26 24 1 _ (by rfl) Try.underlying26 [(0, .agg #[.int .i64 A, .int .i64 L, .slice da S dc])] (by simp [Act.eval]) #[.int .i64 A, .int .i64 L, .slice da S dc] (builtS_cell (CV.mk A L ⟨da, S, dc, D⟩)) ?_
            have b4 := cells_below v3 #[.int .i64 A, .int .i64 L, .slice da S dc]
            have hs4 := Ces.lit (w := v3) (cs := [CV.mk A L ⟨da, S, dc, D⟩]) (vs := #[.int .i64 A, .int .i64 L, .slice da S dc]) (n := 1) rfl rfl (by omega) (fun c h => by cases List.mem_singleton.1 h; exact hdat)
            have B4 := B3.trans (b4.mono B3.size)
            have hown4 := hown5.below b4
            refine hK.out _ _ (b4.mono B3.size) ?_
            clear hK K'
            try simp only [Act.put, List.setIfInBounds_toArray, List.set_cons_zero, List.set_cons_succ]
            clear b4 hdat B3 hown5
            generalize (v3.alloc (Obj.cells #[.int .i64 A, .int .i64 L, .slice da S dc] 24)) = v4 at *
            obtain ⟨a5, c5, v5, hr5, ho5, b5⟩ := run_append_cells w.heap.size v4 v4 oa k oc ds hown4 (Below.refl _ _) B4.size _ 1 1 _ hs4 (fun d hd => by cases List.mem_singleton.1 hd; exact hdoff) hk16
            refine wpRel_step rfl rfl (by rfl) (fun K' hK => ?_)
            refine wp_append_run (.tmp 56) (.tmp 70) 26 (by rfl) _ _ _ (by rfl) (by rfl) hr5 ?_
            refine hK.out _ _ b5 ?_
            clear hK K'
            try simp only [Act.put, List.setIfInBounds_toArray, List.set_cons_zero, List.set_cons_succ]
            have hF := hN v5 a5 c5 _ rfl ho5 (B4.trans b5)
            clear hr5 ho5 b5 hown4 hs4 hN hdoff hw4 hw5
            repeat' (first
              | (refine wpRel_quiet (v := ?_) rfl rfl (fun _ _ _ h => h) (by rfl) ?_ ?_
                 rotate_left
                 · (intro w' hR; go_simp; try rfl)
                 simp only [Act.put, List.setIfInBounds_toArray, List.set_cons_zero, List.set_cons_succ])
              | fail)
            refine wpRel_nil ?_
            go_wp2_with fail
            go_roundw
            case rel => exact ⟨k + 1, a5, c5, _, by go_num, rfl, hF⟩
            case measure => simp [intOf]; omega
      · obtain rfl : k = Z := by omega
        obtain ⟨hD1, hD2⟩ := hI.done hz16 hs6 hl (by rw [Nat.sub_self]; rfl)
        have hces := hI.own.ces
        clear hI
        have hC := rcode_any wr hces (k : Int) (S : Int)
        cases hok : okK (ds.map CV.pc) k S
        · rw [hok] at hC
          have hbk : isBk bs k S = false := by rw [hD1, hok]; rfl
          have HR := hide (readR_no hbk)
          have HB := hide hbk
          clear hD1 hD2 hok hbk hces hl
          go_wp2_with fail
          refine hC.mono ?_
          rintro e w1 ⟨ca, cn, cc, rfl, -, b1⟩
          go_wp2_with fail
          go_ret2
          exact ⟨none, 0, 0, [], ret_pair HB.out.symm, HR.out, Ces.nil _, hbel.trans (b1.mono hbel.size)⟩
        · rw [hok] at hC
          cases heq : decide (codeR (ds.map CV.pc) k S = bs)
          · have hbk : isBk bs k S = false := by rw [hD1, hok, heq]; rfl
            have HR := hide (readR_no hbk)
            have HB := hide hbk
            have HQ := hide heq
            clear hD1 hD2 hok hbk hces heq hl
            go_wp2_with fail
            refine hC.mono ?_
            rintro e w1 ⟨ca, cn, cc, rfl, hO, b1⟩
            have hS := same_any w1 hO.bs ((h.below hbel).below b1)
            rw [HQ.out] at hS
            clear hC hO
            go_wp2_with fail
            refine hS.mono ?_
            rintro e w2 ⟨rfl, rfl⟩
            go_wp2_with fail
            go_ret2
            exact ⟨none, 0, 0, [], ret_pair HB.out.symm, HR.out, Ces.nil _, hbel.trans (b1.mono hbel.size)⟩
          · have hbk : isBk bs k S = true := by rw [hD1, hok, heq]; rfl
            have HR := hide (hD2 hbk)
            have HB := hide hbk
            have HQ := hide heq
            clear hD1 hD2 hok hbk heq hl
            go_wp2_with fail
            refine hC.mono ?_
            rintro e w1 ⟨ca, cn, cc, rfl, hO, b1⟩
            have hS := same_any w1 hO.bs ((h.below hbel).below b1)
            rw [HQ.out] at hS
            clear hC hO
            go_wp2_with fail
            refine hS.mono ?_
            rintro e w2 ⟨rfl, rfl⟩
            go_wp2_with fail
            go_ret2
            exact ⟨oa, _, oc, ds, ret_pair HB.out.symm, HR.out, hces.below b1, hbel.trans (b1.mono hbel.size)⟩
  · have hbk : isBk bs z size = false := by
      rw [Bool.eq_false_iff]
      intro h1
      obtain ⟨h2, h3⟩ := isBk_len h1
      exact hz ⟨okZ_is h2, by rw [← hlen]; exact h3⟩
    have HR := hide (readR_no hbk)
    rw [hbk]
    clear hbk h hlen hlc
    by_cases z0 : z < 0
    · clear hz
      go_enter Try.func14, Try.ntmps14
      go_wp2_with fail
      go_ret2
      first | exact ⟨none, 0, 0, rfl, [], HR.out, Ces.nil _, Below.refl _ _⟩ | exact ⟨none, 0, 0, [], rfl, HR.out, Ces.nil _, Below.refl _ _⟩
    · by_cases z1 : 16 < z
      · clear hz
        go_enter Try.func14, Try.ntmps14
        go_wp2_with fail
        go_ret2
        first | exact ⟨none, 0, 0, rfl, [], HR.out, Ces.nil _, Below.refl _ _⟩ | exact ⟨none, 0, 0, [], rfl, HR.out, Ces.nil _, Below.refl _ _⟩
      · by_cases s0 : size < 0
        · clear hz
          go_enter Try.func14, Try.ntmps14
          go_wp2_with fail
          go_ret2
          first | exact ⟨none, 0, 0, rfl, [], HR.out, Ces.nil _, Below.refl _ _⟩ | exact ⟨none, 0, 0, [], rfl, HR.out, Ces.nil _, Below.refl _ _⟩
        · by_cases s1 : 60000 < size
          · clear hz
            go_enter Try.func14, Try.ntmps14
            go_wp2_with fail
            go_ret2
            first | exact ⟨none, 0, 0, rfl, [], HR.out, Ces.nil _, Below.refl _ _⟩ | exact ⟨none, 0, 0, [], rfl, HR.out, Ces.nil _, Below.refl _ _⟩
          · have hq : ¬ (len : Int) = z * (8 + size) := fun e => hz ⟨⟨⟨by omega, by omega⟩, by omega, by omega⟩, e⟩
            have hw1 : wrap64 (8 + size) = 8 + size := wrap64_low _ (by omega)
            have hw2 : wrap64 (z * (8 + size)) = z * (8 + size) := mul16_low z size (by omega) (by omega)
            clear hz
            generalize hm : z * (8 + size) = m at *
            have hq2 : ((len : Int) != m) = true := bne_iff_ne.2 hq
            have hw3 : wrap64 (z * (8 + size)) = m := by rw [hm]; exact hw2
            clear hm hw2
            go_enter Try.func14, Try.ntmps14
            go_wp2_with fail
            go_ret2
            first | exact ⟨none, 0, 0, rfl, [], HR.out, Ces.nil _, Below.refl _ _⟩ | exact ⟨none, 0, 0, [], rfl, HR.out, Ces.nil _, Below.refl _ _⟩
#print axioms rcells_any
end Go.Proofs.Ytgjffoeegnljlaa
