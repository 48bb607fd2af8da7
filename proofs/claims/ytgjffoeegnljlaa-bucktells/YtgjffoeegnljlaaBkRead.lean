
/- What package buck's Parse does: for all bytes, every number of Cells and every size. No conditions but those that each line states. -/
import Derived.Test.YtgjffoeegnljlaaBkGet
namespace Go.Proofs.Ytgjffoeegnljlaa
open Go.RowKit
set_option maxRecDepth 20000

def lenV : Value → Nat
  | .slice _ n _ => n
  | _ => 0
theorem readL_stop (s k : Nat) (bs : List Int) (h : leNum (bs.take 4) = 0) : readL s k bs = [] := by
  cases k with
  | zero => rfl
  | succ k => unfold readL; rw [if_pos h]
/-- What a round of Parse finds: m bytes left, k Cells read. -/
structure ReadI (w wr : World) (S Z : Nat) (bs : List Int) (k m c : Nat) (sa la : Option Addr) (lcap : Nat) (ds : List CV) : Prop where
  sum : m + k * (8 + S) = Z * (8 + S)
  le : k ≤ Z
  src : Bs w sa m c (bs.drop (k * (8 + S)))
  own : OwnC w.heap.size wr la k lcap ds
  bel : Below w.heap.size w wr
  rd : readL S Z bs = ds.map CV.pc ++ readL S (Z - k) (bs.drop (k * (8 + S)))
  tl : (ds.map CV.pc).flatMap tellC = bs.take (k * (8 + S))
theorem left_low (S Z k m : Nat) (h : m + k * (8 + S) = Z * (8 + S)) (h0 : 0 < m) : k < Z ∧ 8 + S ≤ m ∧ (m - (8 + S)) + (k + 1) * (8 + S) = Z * (8 + S) := by
  have h1 : k < Z := by
    rcases Nat.lt_or_ge k Z with h1 | h1
    · exact h1
    · have := Nat.mul_le_mul h1 (Nat.le_refl (8 + S))
      omega
  have h2 : (k + 1) * (8 + S) ≤ Z * (8 + S) := Nat.mul_le_mul h1 (Nat.le_refl _)
  rw [Nat.add_mul, Nat.one_mul] at h2 ⊢
  generalize k * (8 + S) = K at *
  generalize Z * (8 + S) = M at *
  exact ⟨h1, by omega, by omega⟩
/-- One Cell more. -/
theorem ReadI.next {w wr w' : World} {S Z : Nat} {bs : List Int} {k m c : Nat} {sa la : Option Addr} {lcap : Nat} {ds : List CV} (h : ReadI w wr S Z bs k m c sa la lcap ds) (hb : IsBytes bs) (hl : bs.length = Z * (8 + S)) (h0 : 0 < m) (hn : ¬ leNum ((bs.drop (k * (8 + S))).take 4) = 0) (g : Nat) {la' : Option Addr} {lcap' : Nat}
    (ho : OwnC w.heap.size w' la' (k + 1) lcap' (ds ++ [cellAt (bs.drop (k * (8 + S))) S g])) (hb' : Below w.heap.size w w') : ReadI w w' S Z bs (k + 1) (m - (8 + S)) (c - (8 + S)) (cutA sa c (8 + S)) la' lcap' (ds ++ [cellAt (bs.drop (k * (8 + S))) S g]) := by
  obtain ⟨h1, h2, h3⟩ := left_low S Z k m h.sum h0
  obtain ⟨h4, h5⟩ := read_next (cs := ds.map CV.pc) hb hl h1 h.rd h.tl hn (cellAt (bs.drop (k * (8 + S))) S g).pc rfl
  have h6 := h.src.cut (8 + S) h2
  rw [List.drop_drop] at h6
  refine ⟨h3, h1, ?_, ho, hb', ?_, ?_⟩
  · rw [show (k + 1) * (8 + S) = k * (8 + S) + (8 + S) by rw [Nat.add_mul, Nat.one_mul]]
    exact h6
  · rw [List.map_append]
    exact h4
  · rw [List.map_append]
    exact h5
/-- Where nothing more is read. -/
theorem ReadI.done {w wr : World} {S Z : Nat} {bs : List Int} {k m c : Nat} {sa la : Option Addr} {lcap : Nat} {ds : List CV} (h : ReadI w wr S Z bs k m c sa la lcap ds) (hz : Z ≤ 16) (hs : S ≤ 60000) (hl : bs.length = Z * (8 + S)) (hn : leNum ((bs.drop (k * (8 + S))).take 4) = 0) :
    isBk bs Z S = ((ds.map CV.pc).all (okC S) && allZ (bs.drop (k * (8 + S)))) ∧ (isBk bs Z S = true → ds.map CV.pc = readR bs Z S) := by
  have hr : readL S Z bs = ds.map CV.pc := by
    rw [h.rd, readL_stop _ _ _ hn, List.append_nil]
  refine ⟨isBk_found hz hs hl (by rw [List.length_map]; exact h.own.length) h.le hr h.tl, fun hb => ?_⟩
  unfold readR
  rw [if_pos hb, Int.toNat_natCast, Int.toNat_natCast, hr]
theorem readR_no {bs : List Int} {z size : Int} (h : isBk bs z size = false) : [].map CV.pc = readR bs z size := by
  unfold readR
  rw [if_neg (by rw [h]; decide)]
  rfl
set_option maxHeartbeats 2000000 in
theorem parse_any {a : Option Addr} {len cap : Nat} {bs : List Int} (w : World) (h : Bs w a len cap bs) (z size : Int) :
    Calls Try.prog 10 #[.slice a len cap, .int .i64 z, .int .i64 size] w fun e w' => ∃ a' n' c' ds, e = .returned (.tuple #[.slice a' n' c', .bool (isBk bs z size)]) ∧ ds.map CV.pc = readR bs z size ∧ Ces w' a' n' c' ds ∧ Below w.heap.size w w' := by
  have hlen := h.length
  have hlc := h.le_cap
  have hcl := h.cap_le
  have hZ := isBucket_any z size w
  cases hz : okZ z size
  · have hbk : isBk bs z size = false := by unfold isBk; rw [hz]; rfl
    have HR := hide (readR_no hbk)
    rw [hz] at hZ
    rw [hbk]
    clear hz hbk h
    go_enter Try.func10, Try.ntmps10
    go_wp2_with fail
    refine hZ.mono ?_
    rintro e w1 ⟨rfl, rfl⟩
    go_wp2_with fail
    go_ret2
    exact ⟨none, 0, 0, [], rfl, HR.out, Ces.nil _, Below.refl _ _⟩
  · rw [hz] at hZ
    obtain ⟨⟨z0, z1⟩, s0, s1⟩ := okZ_is hz
    obtain ⟨Z, rfl⟩ := Int.eq_ofNat_of_zero_le z0
    obtain ⟨S, rfl⟩ := Int.eq_ofNat_of_zero_le s0
    have hz16 : Z ≤ 16 := by omega
    have hs6 : S ≤ 60000 := by omega
    have hZS : (Z : Int) * (8 + (S : Int)) = ((Z * (8 + S) : Nat) : Int) := by push_cast; rfl
    have hLong := long_any (Z : Int) (S : Int) w (by omega) (by omega)
    rw [hZS] at hLong
    by_cases hl : bs.length = Z * (8 + S)
    · have h0 : ReadI w w S Z bs 0 len cap a none 0 [] := ⟨by omega, Nat.zero_le _, by rw [Nat.zero_mul]; exact h, OwnC.nil _ _, Below.refl _ _, by simp, by simp⟩
      have hb := h.bytes
      have hle : len = Z * (8 + S) := by omega
      have hle' : (len : Int) = ((Z * (8 + S) : Nat) : Int) := by rw [hle]
      rw [← hle'] at hLong
      clear hz hZS hle hle'
      go_enter Try.func10, Try.ntmps10
      go_wp2_with fail
      refine hZ.mono ?_
      rintro e w1 ⟨rfl, rfl⟩
      go_wp2_with fail
      refine hLong.mono ?_
      rintro e w1 ⟨rfl, rfl⟩
      go_wp2_with fail
      clear hZ hLong h hlen hlc
      go_loopw [0, 8] (fun s l wr => ∃ (k m c : Nat) (sa la : Option Addr) (lcap : Nat) (ds : List CV), s = .slice sa m c ∧ l = .slice la k lcap ∧ ReadI w wr S Z bs k m c sa la lcap ds) (fun s _ _ => lenV s)
      case atStart => exact ⟨0, len, cap, a, none, 0, [], rfl, rfl, h0⟩
      case round =>
        clear h0
        obtain ⟨k, m, c, sa, la, lcap, ds, rfl, rfl, hI⟩ := hrel
        have hmc := hI.src.le_cap
        have hcc := hI.src.cap_le
        have hk1 := hI.le
        have hdl := hI.src.length
        by_cases h0 : 0 < m
        · obtain ⟨q1, q2, q3⟩ := left_low S Z k m hI.sum h0
          have hH := hasCell_any wr (hI.src.below hI.bel) (by omega)
          by_cases hnum : leNum ((bs.drop (k * (8 + S))).take 4) = 0
          · rw [decide_eq_false (fun hn => hn hnum)] at hH
            have hn := hide hnum
            clear q3
            have hA := allCells_any wr hI.own.ces (S : Int)
            obtain ⟨hD1, hD2⟩ := hI.done hz16 hs6 hl hnum
            have hces := hI.own.ces
            have hbel := hI.bel
            have hrest := hI.src
            clear hI hn
            cases hall : (ds.map CV.pc).all (okC S)
            · rw [hall] at hA
              have hbk : isBk bs Z S = false := by rw [hD1, hall]; rfl
              have HR := hide (readR_no hbk)
              have HB := hide hbk
              clear hD1 hD2 hall hbk hces
              go_wp2_with fail
              refine hH.mono ?_
              rintro e w1 ⟨rfl, rfl⟩
              go_wp2_with fail
              refine hA.mono ?_
              rintro e w1 ⟨rfl, hb1⟩
              go_wp2_with fail
              go_ret2
              exact ⟨none, 0, 0, [], ret_pair HB.out.symm, HR.out, Ces.nil _, hbel.trans (hb1.mono hbel.size)⟩
            · rw [hall] at hA
              have hN := fun w1 (hb1 : Below wr.heap.size wr w1) => allNought_any w1 ((hrest.below hbel).below hb1)
              cases hnz : allZ (bs.drop (k * (8 + S)))
              · rw [hnz] at hN
                have hbk : isBk bs Z S = false := by rw [hD1, hnz, hall]; rfl
                have HR := hide (readR_no hbk)
                have HB := hide hbk
                clear hD1 hD2 hall hbk hces hnz
                go_wp2_with fail
                refine hH.mono ?_
                rintro e w1 ⟨rfl, rfl⟩
                go_wp2_with fail
                refine hA.mono ?_
                rintro e w1 ⟨rfl, hb1⟩
                go_wp2_with fail
                refine (hN w1 hb1).mono ?_
                rintro e w2 ⟨rfl, rfl⟩
                go_wp2_with fail
                go_ret2
                exact ⟨none, 0, 0, [], ret_pair HB.out.symm, HR.out, Ces.nil _, hbel.trans (hb1.mono hbel.size)⟩
              · rw [hnz] at hN
                have hbk : isBk bs Z S = true := by rw [hD1, hnz, hall]; rfl
                have HR := hide (hD2 hbk)
                have HB := hide hbk
                clear hD1 hD2 hall hbk hnz
                go_wp2_with fail
                refine hH.mono ?_
                rintro e w1 ⟨rfl, rfl⟩
                go_wp2_with fail
                refine hA.mono ?_
                rintro e w1 ⟨rfl, hb1⟩
                go_wp2_with fail
                refine (hN w1 hb1).mono ?_
                rintro e w2 ⟨rfl, rfl⟩
                go_wp2_with fail
                go_ret2
                exact ⟨la, k, lcap, ds, ret_pair HB.out.symm, HR.out, hces.below hb1, hbel.trans (hb1.mono hbel.size)⟩
          · rw [decide_eq_true hnum] at hH
            have hG := getCell_any wr (hI.src.below hI.bel) S hs6 q2
            have hw1 : wrap64 (8 + (S : Int)) = 8 + (S : Int) := wrap64_low _ (by omega)
            have hcut := run_cut_from (P := Try.prog) Try.underlying22 Try.size_u8 sa m c .i64 (8 + (S : Int)) (8 + S) (by push_cast; rfl) q2
            have hlt := hI.own.row.lt
            clear q3 hdl
            go_wp2_with fail
            refine hH.mono ?_
            rintro e w1 ⟨rfl, rfl⟩
            go_wp2_with fail
            refine hG.mono ?_
            rintro e w1 ⟨g, rfl, hcell, hg, hb1⟩
            have hoff : (cellAt (bs.drop (k * (8 + S))) S g).Off (Value.slice la k lcap).ownBlock := by
              intro _ p hp e
              have e2 : p = ⟨g, 0, none⟩ := (Option.some.inj hp).symm
              rw [e2] at e
              have := (hlt g e).2
              omega
            obtain ⟨la', lcap', w2, hr2, ho2, hb2⟩ := run_append_cell w.heap.size w w1 la k lcap ds _ (hI.own.below hb1) (hI.bel.trans (hb1.mono hI.bel.size)) (Nat.le_refl _) hcell hoff (by omega)
            have hN := hI.next hb hl h0 hnum g ho2 hb2
            clear hI hcell hoff ho2 hlt hH hG
            generalize hcv : cellAt (bs.drop (k * (8 + S))) S g = cv at *
            go_wp2_with (first
              | (refine wpList_buildSliceAt (by rfl) 26 24 1 _ (by rfl) Try.underlying26 [(0, .agg cv.row.toArray)] (by rfl) _ (builtS_cell cv) w1.heap.size rfl ?_)
              | (at_builtin; refine wpList_append_run (by rfl) (.tmp 28) (.tmp 32) 26 (by rfl) _ _ _ _ (by rfl) (by rfl) hr2 ?_))
            go_roundw
            case rel => exact ⟨k + 1, _, _, _, la', lcap', _, rfl, rfl, hN⟩
            case measure => exact Nat.sub_lt h0 (Nat.lt_of_lt_of_le (by decide) (Nat.le_add_right 8 S))
        · obtain rfl : m = 0 := by omega
          have hnum : leNum ((bs.drop (k * (8 + S))).take 4) = 0 := by
            have : bs.drop (k * (8 + S)) = [] := List.eq_nil_of_length_eq_zero (by omega)
            rw [this]
            rfl
          have hn := hide hnum
          have hA := allCells_any wr hI.own.ces (S : Int)
          obtain ⟨hD1, hD2⟩ := hI.done hz16 hs6 hl hnum
          have hces := hI.own.ces
          have hbel := hI.bel
          have hrest := hI.src
          clear hI hn
          cases hall : (ds.map CV.pc).all (okC S)
          · rw [hall] at hA
            have hbk : isBk bs Z S = false := by rw [hD1, hall]; rfl
            have HR := hide (readR_no hbk)
            have HB := hide hbk
            clear hD1 hD2 hall hbk hces
            go_wp2_with fail
            refine hA.mono ?_
            rintro e w1 ⟨rfl, hb1⟩
            go_wp2_with fail
            go_ret2
            exact ⟨none, 0, 0, [], ret_pair HB.out.symm, HR.out, Ces.nil _, hbel.trans (hb1.mono hbel.size)⟩
          · rw [hall] at hA
            have hN := fun w1 (hb1 : Below wr.heap.size wr w1) => allNought_any w1 ((hrest.below hbel).below hb1)
            cases hnz : allZ (bs.drop (k * (8 + S)))
            · rw [hnz] at hN
              have hbk : isBk bs Z S = false := by rw [hD1, hnz, hall]; rfl
              have HR := hide (readR_no hbk)
              have HB := hide hbk
              clear hD1 hD2 hall hbk hces hnz
              go_wp2_with fail
              refine hA.mono ?_
              rintro e w1 ⟨rfl, hb1⟩
              go_wp2_with fail
              refine (hN w1 hb1).mono ?_
              rintro e w2 ⟨rfl, rfl⟩
              go_wp2_with fail
              go_ret2
              exact ⟨none, 0, 0, [], ret_pair HB.out.symm, HR.out, Ces.nil _, hbel.trans (hb1.mono hbel.size)⟩
            · rw [hnz] at hN
              have hbk : isBk bs Z S = true := by rw [hD1, hnz, hall]; rfl
              have HR := hide (hD2 hbk)
              have HB := hide hbk
              clear hD1 hD2 hall hbk hnz
              go_wp2_with fail
              refine hA.mono ?_
              rintro e w1 ⟨rfl, hb1⟩
              go_wp2_with fail
              refine (hN w1 hb1).mono ?_
              rintro e w2 ⟨rfl, rfl⟩
              go_wp2_with fail
              go_ret2
              exact ⟨la, k, lcap, ds, ret_pair HB.out.symm, HR.out, hces.below hb1, hbel.trans (hb1.mono hbel.size)⟩
    · have hbk : isBk bs Z S = false := by
        unfold isBk
        rw [decide_eq_false (fun e => hl (by rw [hZS] at e; exact Int.ofNat.inj e))]
        simp
      have HR := hide (readR_no hbk)
      have hne : ¬ (len : Int) = ((Z * (8 + S) : Nat) : Int) := fun e => hl (by rw [hlen]; exact Int.ofNat.inj e)
      rw [hbk]
      clear hz hbk hZS hl h
      generalize Z * (8 + S) = M at *
      go_enter Try.func10, Try.ntmps10
      go_wp2_with fail
      refine hZ.mono ?_
      rintro e w1 ⟨rfl, rfl⟩
      go_wp2_with fail
      refine hLong.mono ?_
      rintro e w1 ⟨rfl, rfl⟩
      go_wp2_with fail
      go_ret2
      exact ⟨none, 0, 0, [], rfl, HR.out, Ces.nil _, Below.refl _ _⟩
#print axioms parse_any
end Go.Proofs.Ytgjffoeegnljlaa
