
/- What the law's Few answers: for every row of Cells. No conditions but those that each line states. -/
import Derived.Test.YtgjffoeegnljlaaBkMem
namespace Go.Proofs.Ytgjffoeegnljlaa
open Go.RowKit
set_option maxRecDepth 20000

theorem nine_low (k : Nat) (N : Int) (m : Nat) (h0 : 0 ≤ N) (h1 : N ≤ (k : Int) * 9000) (hk : k < 40) : wrap64 (N + ((min (m : Int) 9000))) = N + min (m : Int) 9000 ∧ N + min (m : Int) 9000 ≤ ((k + 1 : Nat) : Int) * 9000 := by
  have : 0 ≤ min (m : Int) 9000 ∧ min (m : Int) 9000 ≤ 9000 := by omega
  refine ⟨wrap64_low _ (by omega), ?_⟩
  push_cast
  omega
/-- What Few answers: if yes, the Cells are few, and their bytes. -/
structure FewE (w w' : World) (len : Nat) (cs : List CV) (e : Ending) : Prop where
  same : w = w'
  ans : e = .returned (.bool false) ∨ e = .returned (.bool true) ∧ len ≤ 30 ∧ ∀ c ∈ cs, c.d.len ≤ 3000
set_option maxHeartbeats 1000000 in
theorem few_any {a : Option Addr} {len cap : Nat} {cs : List CV} (w : World) (h : Ces w a len cap cs) :
    Calls Try.prog 11 #[.slice a len cap] w fun e w' => FewE w w' len cs e := by
  have hlen := h.length
  have hlc := h.le_cap
  have hcl := h.cap_le
  go_enter Try.func11, Try.ntmps11
  go_wp2_with fail
  go_loopw [3, 4] (fun n i wr => w = wr ∧ ∃ (k : Nat) (N : Int), k ≤ len ∧ k ≤ 40 ∧ i = .int .i64 k ∧ n = .int .i64 N ∧ 0 ≤ N ∧ N ≤ (k : Int) * 9000 ∧ ∀ j (hj : j < cs.length), j < k → min ((cs[j].d.len : Nat) : Int) 9000 ≤ N) (fun _ i _ => 40 - (intOf i).toNat)
  case atStart => exact ⟨rfl, 0, 0, Nat.zero_le _, by omega, rfl, rfl, by omega, by omega, fun j _ h => by omega⟩
  case round =>
    obtain ⟨rfl, k, N, hk, hk4, rfl, rfl, hN0, hN, hall⟩ := hrel
    by_cases hlt : k < len
    · by_cases h40 : k < 40
      · obtain ⟨b, off, rfl, hsp⟩ := h.spot (by omega)
        have hk2 : k < cs.length := by omega
        have hr := hsp w (Below.refl _ _) k hk2
        have e2 : w.cell? ⟨b, off + k * 3 + 2, none⟩ = some (.slice cs[k].d.a cs[k].d.len cs[k].d.cap) := hr 2 _ rfl
        obtain ⟨hw, hN2⟩ := nine_low k N cs[k].d.len hN0 hN h40
        have hmin : 0 ≤ min ((cs[k].d.len : Nat) : Int) 9000 := by omega
        have hall2 : ∀ j (hj : j < cs.length), j < k + 1 → min ((cs[j].d.len : Nat) : Int) 9000 ≤ N + min ((cs[k].d.len : Nat) : Int) 9000 := by
          intro j hj h1
          by_cases h2 : j = k
          · subst h2; omega
          · have := hall j hj (by omega)
            omega
        have HA := hide hall2
        clear hr hsp hall hall2
        generalize cs[k] = c at *
        go_wp2_with fail
        go_roundw
        case rel => exact ⟨trivial, k + 1, N + min ((c.d.len : Nat) : Int) 9000, by omega, by omega, by go_num, by go_num, by omega, hN2, HA.out⟩
        case measure => simp [intOf]; omega
      · have h30 : ¬ len ≤ 30 := by omega
        go_wp2_with fail
        go_ret
        exact ⟨rfl, .inl rfl⟩
    · by_cases h30 : len ≤ 30
      · by_cases h3 : N ≤ 3000
        · have hd : ∀ c ∈ cs, c.d.len ≤ 3000 := by
            intro c hc
            obtain ⟨j, hj, rfl⟩ := List.mem_iff_getElem.1 hc
            have := hall j hj (by omega)
            omega
          have HD := hide hd
          clear hall hd
          go_wp2_with fail
          go_ret
          exact ⟨rfl, .inr ⟨rfl, h30, HD.out⟩⟩
        · clear hall
          go_wp2_with fail
          go_ret
          exact ⟨rfl, .inl rfl⟩
      · clear hall
        go_wp2_with fail
        go_ret
        exact ⟨rfl, .inl rfl⟩
#print axioms few_any
end Go.Proofs.Ytgjffoeegnljlaa
