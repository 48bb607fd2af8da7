
/- What a call of the closure in RingForms does: a place's text is laid anew; nothing that was there is turned. -/
import Derived.Test.YtkpkipjelpedeaaDoorXRing
import Derived.Test.YtkpkipjelpedeaaDoorXLe
import Derived.Lib.AppendStr
namespace Go.Proofs.YtkpkipjelpedeaaDoor
open Go.RowKit
set_option maxRecDepth 20000

set_option maxHeartbeats 1000000 in
theorem lay_any (e n : Int) (s : ByteArray) (zs : List Int) (M : Nat) (w : World) (he : 0 ≤ e ∧ e < 18446744073709551616) (hn : 0 ≤ n ∧ n < 18446744073709551616) (hs : Lib.strCells s = zs.map (Value.int .u8)) (hz : IsBytes zs) (hl : zs.length ≤ 1000) (hM : 12 + s.size = M) :
    Calls Tryd.prog 18 #[.int .u64 e, .int .u64 n, .string s] w fun ex w' => ∃ g c, ex = .returned (.slice (some ⟨g, 0, none⟩) M c) ∧ OwnS 5 w.heap.size w' (some ⟨g, 0, none⟩) M c (headR e n ++ zs) ∧ Below w.heap.size w w' := by
  have hsz : s.size = zs.length := by rw [← Lib.strCells_length, hs, List.length_map]
  go_enter Tryd.func18, Tryd.ntmps18
  go_wp2_with fail
  refine (rput_ok e 8 w he (by omega)).mono ?_
  rintro ex W1 ⟨a1, c1, rfl, h1, b1⟩
  go_wp2_with fail
  refine (rput_ok n 4 W1 hn (by omega)).mono ?_
  rintro ex W2 ⟨a2, c2, rfl, h2, b2⟩
  have h1' := h1.below b2
  have b12 := b1.trans (b2.mono b1.size)
  obtain ⟨a3, c3, W3, hr3, h3, b3⟩ := run_append_more w.heap.size w W2 a1 8 c1 _ h1' b12 (Nat.le_refl _) a2 4 c2 (putL n 4) h2.bs (by omega)
  obtain ⟨i, hi, hzi⟩ := Option.map_eq_some_iff.1 Tryd.info_u8
  simp only [Prod.mk.injEq] at hzi
  obtain ⟨hzi, hsi, hbi⟩ := hzi
  have hle3 : w.heap.size ≤ W3.heap.size := b3.size
  obtain ⟨v4, W4, hr4, h4, g4, -⟩ := Lib.run_append_own_string (P := Tryd.prog) W3 w.heap.size 36 9 36 5 i Tryd.underlying36 Tryd.underlying9 hi hzi hsi hbi (.slice a3 (8 + 4) c3) (8 + 4) _ h3.2.2 s (by unfold maxLen; omega) (by omega) hle3
  have hb4 := b3.grown g4 hle3 (fun k hk => (h3.2.2.lt k hk).1)
  obtain ⟨g, c, rfl, hO⟩ : ∃ g c, v4 = .slice (some ⟨g, 0, none⟩) M c ∧ OwnS 5 w.heap.size W4 (some ⟨g, 0, none⟩) M c (headR e n ++ zs) := by
    have hv := h4
    rcases h4.2 with ⟨_, h0⟩ | ⟨g, c, cur, hv4, _⟩
    · omega
    · subst hv4
      have hM' : 8 + 4 + s.size = M := by omega
      rw [hM'] at hv ⊢
      refine ⟨g, c, rfl, (headR_bytes _ _).append hz, by rw [List.length_append, headR_length, ← hsz]; omega, ?_⟩
      rw [hs, ← List.map_append] at hv
      exact hv
  clear h1 h2 h1' h3 h4 b1 b2 b12 b3 g4 hi hzi hsi hbi
  go_wp2_with (at_builtin; first
    | refine wpList_append_run (by rfl) (.tmp 8) (.tmp 10) 36 (by rfl) _ _ _ _ (by rfl) (by rfl) hr3 ?_
    | refine Lib.wpList_append_run _ rfl _ _ _ _ rfl _ _ rfl rfl _ _ hr4 ?_)
  go_ret
  exact ⟨g, c, rfl, hO, hb4⟩
#print axioms lay_any
end Go.Proofs.YtkpkipjelpedeaaDoor
