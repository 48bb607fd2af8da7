
/- A Cell's leaf turned: in numbers, and in a row of Cells in memory. No conditions but those that each line states. -/
import Derived.Test.YtgjffoeegnljlaaBkMem
import Derived.Test.YtgjffoeegnljlaaLvs
namespace Go.Proofs.Ytgjffoeegnljlaa
open Go.RowKit
set_option maxRecDepth 20000

/-- The last bit of a leaf, turned. -/
theorem leaf_xor (L : Int) (h : 0 ≤ L ∧ L < 65536) : (0 ≤ bits .xor .i64 L 1 ∧ bits .xor .i64 L 1 < 65536) ∧ bits .xor .i64 L 1 ≠ L := by
  obtain ⟨n, rfl⟩ := Int.eq_ofNat_of_zero_le h.1
  have hn : n < 65536 := by omega
  rw [show (1 : Int) = ((1 : Nat) : Int) from rfl, i64_xor_nat n 1 (by omega) (by omega)]
  have h1 : n ^^^ 1 < 2 ^ 16 := Nat.xor_lt_two_pow (by omega) (by omega)
  refine ⟨⟨by omega, by omega⟩, fun e => ?_⟩
  have e2 : n ^^^ 1 = n := by omega
  have := congrArg (fun m => n ^^^ m) e2
  simp only [← Nat.xor_assoc, Nat.xor_self, Nat.zero_xor] at this
  omega
/-- Two rows of Cells that may be in a bucket, told in the same bytes, are one. -/
theorem codeR_inj {A B : List PC} {z size : Int} (hA : okK A z size = true) (hB : okK B z size = true) (h : codeR A z size = codeR B z size) : A = B := by
  have h1 := (isBk_code hA).2
  rw [h, (isBk_code hB).2] at h1
  exact h1.symm
def CV.turn (c : CV) (X : Int) : CV := { c with leaf := X }
theorem turn_pcs {cs : List CV} {J : Nat} (hJ : J < cs.length) (X : Int) (hX : X ≠ cs[J].leaf) : (cs.set J (cs[J].turn X)).map CV.pc ≠ cs.map CV.pc := by
  intro e
  have h := congrArg (fun l => l[J]?) e
  simp only [List.getElem?_map, List.getElem?_set, hJ, if_true, List.getElem?_eq_getElem hJ, Option.map_some] at h
  have := Option.some.inj h
  simp only [CV.turn, CV.pc, Prod.mk.injEq, true_and, and_true] at this
  exact hX this
theorem turn_ok {cs : List CV} {z size : Int} (h : okK (cs.map CV.pc) z size = true) {J : Nat} (hJ : J < cs.length) (X : Int) (hX : 0 ≤ X ∧ X < 65536) : okK ((cs.set J (cs[J].turn X)).map CV.pc) z size = true := by
  obtain ⟨h1, h2, h3⟩ := okK_is h
  refine okK_of h1 (by simpa using h2) (fun c hc => ?_)
  obtain ⟨d, hd, rfl⟩ := List.mem_map.1 hc
  rcases List.mem_or_eq_of_mem_set hd with h4 | rfl
  · exact h3 _ (List.mem_map.2 ⟨d, h4, rfl⟩)
  · obtain ⟨a1, a2, a3⟩ := okC_is (h3 _ (List.mem_map.2 ⟨cs[J], List.getElem_mem hJ, rfl⟩))
    exact decide_eq_true ⟨a1, ⟨hX.1, by simp only [CV.turn, CV.pc]; omega⟩, a3⟩
/-- The leaf of a Cell of a row stored. -/
theorem Ces.setLeaf {w : World} {g n cap : Nat} {cs : List CV} (h : Ces w (some ⟨g, 0, none⟩) n cap cs) (hoff : ∀ c ∈ cs, c.Off (some g)) {J : Nat} (hJ : J < cs.length) (X : Int) (hX : 0 ≤ X ∧ X < 65536) :
    Ces (w.setCell ⟨g, J * 3 + 1, none⟩ (.int .i64 X)) (some ⟨g, 0, none⟩) n cap (cs.set J (cs[J].turn X)) := by
  have keep : ∀ c ∈ cs, c.At (w.setCell ⟨g, J * 3 + 1, none⟩ (.int .i64 X)) := by
    intro c hc
    refine (h.item c hc).keep fun h0 p hp => (OnlyAt.setCell g (J * 3 + 1) w (.int .i64 X)).block _ (fun e => ?_)
    exact hoff c hc h0 p hp (by rw [e])
  refine ⟨by simpa using h.length, h.le_cap, h.cap_le, ?_, fun c hc => ?_⟩
  · rcases h.place with h1 | ⟨b, off, e, hr⟩
    · exact .inl h1
    · have e' := Option.some.inj e
      simp only [Addr.mk.injEq, and_true] at e'
      obtain ⟨rfl, rfl⟩ := e'
      refine .inr ⟨g, 0, rfl, fun i c hc j v hv => ?_⟩
      have hj : j < 3 := (List.getElem?_eq_some_iff.1 hv).1
      by_cases hij : i = J ∧ j = 1
      · obtain ⟨rfl, rfl⟩ := hij
        have hc2 : c = cs[i].turn X := by
          rw [List.getElem?_set] at hc
          simp only [hJ, if_true] at hc
          exact (Option.some.inj hc).symm
        subst hc2
        have hv2 : v = .int .i64 X := (Option.some.inj hv).symm
        subst hv2
        have := hr i cs[i] (List.getElem?_eq_getElem hJ) 1 _ rfl
        rw [show 0 + i * 3 + 1 = i * 3 + 1 by omega] at this ⊢
        exact World.cell?_setCell_same _ _ _ this
      · have hc0 : ∃ c0, cs[i]? = some c0 ∧ c0.row[j]? = some v := by
          rw [List.getElem?_set] at hc
          by_cases hi : J = i
          · subst hi
            simp only [hJ, if_true] at hc
            have hc2 := Option.some.inj hc
            subst hc2
            refine ⟨cs[J], List.getElem?_eq_getElem hJ, ?_⟩
            rw [← hv]
            match j, hj, hij with
            | 0, _, _ => rfl
            | 1, _, h => exact absurd ⟨rfl, rfl⟩ h
            | 2, _, _ => rfl
          · rw [if_neg hi] at hc
            exact ⟨c, hc, hv⟩
        obtain ⟨c0, h1, h2⟩ := hc0
        rw [World.cell?_setCell_other _ _ _ _ (fun e => by simp only [Addr.mk.injEq, and_true, true_and] at e; exact hij ⟨by omega, by omega⟩)]
        exact hr i c0 h1 j v h2
  · rcases List.mem_or_eq_of_mem_set hc with h4 | rfl
    · exact keep c h4
    · have := keep cs[J] (List.getElem_mem hJ)
      exact ⟨this.id, by simp only [CV.turn]; omega, this.bs⟩
#print axioms leaf_xor
#print axioms Ces.setLeaf
end Go.Proofs.Ytgjffoeegnljlaa
