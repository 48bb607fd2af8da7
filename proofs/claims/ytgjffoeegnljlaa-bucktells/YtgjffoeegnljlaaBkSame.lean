
/- What the reference's SameCells answers: for every two rows of Cells. No conditions but those that each line states. -/
import Derived.Test.YtgjffoeegnljlaaBkMem
import Derived.Test.YtgjffoeegnljlaaRel
import Derived.Test.YtgjffoeegnljlaaSame1
namespace Go.Proofs.Ytgjffoeegnljlaa
open Go.RowKit
set_option maxRecDepth 20000

theorem pcs_ne {cs ds : List CV} {k : Nat} (h1 : k < cs.length) (h2 : k < ds.length) (h : cs[k].pc ≠ ds[k].pc) : decide (cs.map CV.pc = ds.map CV.pc) = false := by
  refine decide_eq_false fun e => h ?_
  have := congrArg (fun l => l[k]?) e
  simpa [h1, h2] using this
theorem pcs_eq {cs ds : List CV} (hl : cs.length = ds.length) (h : ∀ j (h1 : j < cs.length) (h2 : j < ds.length), cs[j].pc = ds[j].pc) : decide (cs.map CV.pc = ds.map CV.pc) = true := by
  refine decide_eq_true (List.ext_getElem (by simp [hl]) fun j h1 h2 => ?_)
  rw [List.getElem_map, List.getElem_map]
  exact h j (by simpa using h1) (by simpa using h2)
set_option maxHeartbeats 2000000 in
theorem sameCells_any {a b : Option Addr} {n cap m cap' : Nat} {cs ds : List CV} (w : World) (h : Ces w a n cap cs) (h' : Ces w b m cap' ds) :
    Calls Try.prog 16 #[.slice a n cap, .slice b m cap'] w fun e w' => e = .returned (.bool (decide (cs.map CV.pc = ds.map CV.pc))) ∧ Below w.heap.size w w' := by
  have hlen := h.length
  have hlc := h.le_cap
  have hcl := h.cap_le
  have hlen' := h'.length
  have hlc' := h'.le_cap
  have hcl' := h'.cap_le
  by_cases hnm : n = m
  · subst hnm
    go_enter Try.func16, Try.ntmps16
    go_wp2_with fail
    go_loopw [5] (fun i wr => ∃ k : Nat, k ≤ n ∧ i = .int .i64 k ∧ (∀ j (h1 : j < cs.length) (h2 : j < ds.length), j < k → cs[j].pc = ds[j].pc) ∧ Below w.heap.size w wr) (fun i _ => n - (intOf i).toNat)
    case atStart => exact ⟨0, Nat.zero_le _, rfl, fun j _ _ h => by omega, Below.refl _ _⟩
    case round =>
      obtain ⟨k, hk, rfl, hall, hbel⟩ := hrel
      by_cases hlt : k < n
      · obtain ⟨b1, o1, rfl, hs1⟩ := h.spot (by omega)
        obtain ⟨b2, o2, rfl, hs2⟩ := h'.spot (by omega)
        have hk1 : k < cs.length := by omega
        have hk2 : k < ds.length := by omega
        have hR1 := fun w' hb => hs1 w' hb k hk1
        have hR2 := fun w' hb => hs2 w' hb k hk2
        have hD1 := (h.item cs[k] (List.getElem_mem hk1)).bs.below hbel
        have hD2 := (h'.item ds[k] (List.getElem_mem hk2)).bs.below hbel
        have HR1 := hide hR1
        have HR2 := hide hR2
        have HNE := hide (fun h => pcs_ne hk1 hk2 h)
        clear hs1 hs2 hR1 hR2
        by_cases e0 : cs[k].id = ds[k].id
        · by_cases e1 : cs[k].leaf = ds[k].leaf
          · have hQ := same_any wr.drew (hD1.below (Below.refl wr.heap.size wr).drew) (hD2.below (Below.refl wr.heap.size wr).drew)
            by_cases e2 : cs[k].d.zs = ds[k].d.zs
            · have hall2 : ∀ j (h1 : j < cs.length) (h2 : j < ds.length), j < k + 1 → cs[j].pc = ds[j].pc := by
                intro j h1 h2 h3
                by_cases h4 : j = k
                · subst h4
                  simp only [CV.pc, e0, e1, e2]
                · exact hall j h1 h2 (by omega)
              have HF := hide hall2
              rw [decide_eq_true e2] at hQ
              clear hall hall2 HNE hD1 hD2 e2
              generalize cs[k] = c at *
              generalize ds[k] = d at *
              go_wp2_with fail
              refine wp_region_rel (fun v v' => Below w.heap.size v v') [0, 1, 2, 3, 4, 5, 6, 7, 8, 9, 10, 11, 12, 13, 14, 15, 16, 17, 18, 19, 20, 21, 22, 23, 24, 25, 26, 27, 28, 29, 30, 31, 32, 33, 34, 35, 36, 37] (by kernel_rfl) (by kernel_rfl) (by kernel_rfl) (fun _ => Below.refl _ _) (fun _ _ _ h k => h.trans k) ?_
              have B1 : Below w.heap.size w wr.drew := hbel.drew
              generalize wr.drew = w1 at *
              repeat' (first
                | (refine wpRel_quiet (v := ?_) rfl rfl (fun _ _ _ h => h) (by rfl) ?_ ?_
                   rotate_left
                   · (intro w' hR; have r1 := HR1.out w' (B1.trans hR); have r2 := HR2.out w' (B1.trans hR); have c0 : w'.cell? ⟨b1, o1 + k * 3, none⟩ = some (.int .i64 c.id) := r1 0 _ rfl; have c1 : w'.cell? ⟨b1, o1 + k * 3 + 1, none⟩ = some (.int .i64 c.leaf) := r1 1 _ rfl; have c2 : w'.cell? ⟨b1, o1 + k * 3 + 2, none⟩ = some c.d.v := r1 2 _ rfl; have d0 : w'.cell? ⟨b2, o2 + k * 3, none⟩ = some (.int .i64 d.id) := r2 0 _ rfl; have d1 : w'.cell? ⟨b2, o2 + k * 3 + 1, none⟩ = some (.int .i64 d.leaf) := r2 1 _ rfl; have d2 : w'.cell? ⟨b2, o2 + k * 3 + 2, none⟩ = some d.d.v := r2 2 _ rfl; go_simp; try rfl)
                   simp only [Act.put, List.setIfInBounds_toArray, List.set_cons_zero, List.set_cons_succ])
                | fail)
              refine wpRel_step rfl rfl (by rfl) (fun K' hK => ?_)
              go_simp
              refine (hQ).mono ?_
              rintro e w2 ⟨rfl, rfl⟩
              refine hK.out _ _ (Below.refl _ _) ?_
              clear hK K'
              try simp only [Act.put, List.setIfInBounds_toArray, List.set_cons_zero, List.set_cons_succ]
              repeat' (first
                | (refine wpRel_quiet (v := ?_) rfl rfl (fun _ _ _ h => h) (by rfl) ?_ ?_
                   rotate_left
                   · (intro w' hR; go_simp; try rfl)
                   simp only [Act.put, List.setIfInBounds_toArray, List.set_cons_zero, List.set_cons_succ])
                | fail)
              refine wpRel_nil ?_
              go_wp2_with fail
              go_roundw
              case rel => exact ⟨k + 1, by omega, by go_num, HF.out, B1⟩
              case measure => simp [intOf]; omega
            · have HF := hide (HNE.out (fun e => e2 (congrArg (fun p => p.2.2) e)))
              rw [decide_eq_false e2] at hQ
              clear hall HNE hD1 hD2 e2
              generalize cs[k] = c at *
              generalize ds[k] = d at *
              go_wp2_with fail
              refine wp_region_rel (fun v v' => Below w.heap.size v v') [0, 1, 2, 3, 4, 5, 6, 7, 8, 9, 10, 11, 12, 13, 14, 15, 16, 17, 18, 19, 20, 21, 22, 23, 24, 25, 26, 27, 28, 29, 30, 31, 32, 33, 34, 35, 36, 37] (by kernel_rfl) (by kernel_rfl) (by kernel_rfl) (fun _ => Below.refl _ _) (fun _ _ _ h k => h.trans k) ?_
              have B1 : Below w.heap.size w wr.drew := hbel.drew
              generalize wr.drew = w1 at *
              repeat' (first
                | (refine wpRel_quiet (v := ?_) rfl rfl (fun _ _ _ h => h) (by rfl) ?_ ?_
                   rotate_left
                   · (intro w' hR; have r1 := HR1.out w' (B1.trans hR); have r2 := HR2.out w' (B1.trans hR); have c0 : w'.cell? ⟨b1, o1 + k * 3, none⟩ = some (.int .i64 c.id) := r1 0 _ rfl; have c1 : w'.cell? ⟨b1, o1 + k * 3 + 1, none⟩ = some (.int .i64 c.leaf) := r1 1 _ rfl; have c2 : w'.cell? ⟨b1, o1 + k * 3 + 2, none⟩ = some c.d.v := r1 2 _ rfl; have d0 : w'.cell? ⟨b2, o2 + k * 3, none⟩ = some (.int .i64 d.id) := r2 0 _ rfl; have d1 : w'.cell? ⟨b2, o2 + k * 3 + 1, none⟩ = some (.int .i64 d.leaf) := r2 1 _ rfl; have d2 : w'.cell? ⟨b2, o2 + k * 3 + 2, none⟩ = some d.d.v := r2 2 _ rfl; go_simp; try rfl)
                   simp only [Act.put, List.setIfInBounds_toArray, List.set_cons_zero, List.set_cons_succ])
                | fail)
              refine wpRel_step rfl rfl (by rfl) (fun K' hK => ?_)
              go_simp
              refine (hQ).mono ?_
              rintro e w2 ⟨rfl, rfl⟩
              refine hK.out _ _ (Below.refl _ _) ?_
              clear hK K'
              try simp only [Act.put, List.setIfInBounds_toArray, List.set_cons_zero, List.set_cons_succ]
              repeat' (first
                | (refine wpRel_quiet (v := ?_) rfl rfl (fun _ _ _ h => h) (by rfl) ?_ ?_
                   rotate_left
                   · (intro w' hR; go_simp; try rfl)
                   simp only [Act.put, List.setIfInBounds_toArray, List.set_cons_zero, List.set_cons_succ])
                | fail)
              refine wpRel_nil ?_
              go_wp2_with fail
              go_ret
              exact ⟨ret_bool HF.out.symm, B1⟩
          · have HF := hide (HNE.out (fun e => e1 (congrArg (fun p => p.2.1) e)))
            clear hall HNE hD1 hD2
            generalize cs[k] = c at *
            generalize ds[k] = d at *
            go_wp2_with fail
            refine wp_region_rel (fun v v' => Below w.heap.size v v') [0, 1, 2, 3, 4, 5, 6, 7, 8, 9, 10, 11, 12, 13, 14, 15, 16, 17, 18, 19, 20, 21, 22, 23, 24, 25, 26, 27, 28, 29, 30, 31, 32, 33, 34, 35, 36, 37] (by kernel_rfl) (by kernel_rfl) (by kernel_rfl) (fun _ => Below.refl _ _) (fun _ _ _ h k => h.trans k) ?_
            have B1 : Below w.heap.size w wr.drew := hbel.drew
            generalize wr.drew = w1 at *
            have hb : (c.leaf != d.leaf) = true := bne_iff_ne.2 e1
            repeat' (first
              | (refine wpRel_quiet (v := ?_) rfl rfl (fun _ _ _ h => h) (by rfl) ?_ ?_
                 rotate_left
                 · (intro w' hR; have r1 := HR1.out w' (B1.trans hR); have r2 := HR2.out w' (B1.trans hR); have c0 : w'.cell? ⟨b1, o1 + k * 3, none⟩ = some (.int .i64 c.id) := r1 0 _ rfl; have c1 : w'.cell? ⟨b1, o1 + k * 3 + 1, none⟩ = some (.int .i64 c.leaf) := r1 1 _ rfl; have c2 : w'.cell? ⟨b1, o1 + k * 3 + 2, none⟩ = some c.d.v := r1 2 _ rfl; have d0 : w'.cell? ⟨b2, o2 + k * 3, none⟩ = some (.int .i64 d.id) := r2 0 _ rfl; have d1 : w'.cell? ⟨b2, o2 + k * 3 + 1, none⟩ = some (.int .i64 d.leaf) := r2 1 _ rfl; have d2 : w'.cell? ⟨b2, o2 + k * 3 + 2, none⟩ = some d.d.v := r2 2 _ rfl; go_simp; try rfl)
                 simp only [Act.put, List.setIfInBounds_toArray, List.set_cons_zero, List.set_cons_succ])
              | fail)
            repeat' (first
              | (refine wpRel_pass rfl (fun _ _ _ h => h) (by rfl) (by first | exact Kept.refl _ | exact RowKit.Below.refl _ _) ?_
                 simp only [Act.put, List.setIfInBounds_toArray, List.set_cons_zero, List.set_cons_succ])
              | fail)
            repeat' (first
              | (refine wpRel_quiet (v := ?_) rfl rfl (fun _ _ _ h => h) (by rfl) ?_ ?_
                 rotate_left
                 · (intro w' hR; go_simp; try rfl)
                 simp only [Act.put, List.setIfInBounds_toArray, List.set_cons_zero, List.set_cons_succ])
              | fail)
            refine wpRel_nil ?_
            go_wp2_with fail
            go_ret
            exact ⟨ret_bool HF.out.symm, B1⟩
        · have HF := hide (HNE.out (fun e => e0 (congrArg Prod.fst e)))
          clear hall HNE hD1 hD2
          generalize cs[k] = c at *
          generalize ds[k] = d at *
          go_wp2_with fail
          refine wp_region_rel (fun v v' => Below w.heap.size v v') [0, 1, 2, 3, 4, 5, 6, 7, 8, 9, 10, 11, 12, 13, 14, 15, 16, 17, 18, 19, 20, 21, 22, 23, 24, 25, 26, 27, 28, 29, 30, 31, 32, 33, 34, 35, 36, 37] (by kernel_rfl) (by kernel_rfl) (by kernel_rfl) (fun _ => Below.refl _ _) (fun _ _ _ h k => h.trans k) ?_
          have B1 : Below w.heap.size w wr.drew := hbel.drew
          generalize wr.drew = w1 at *
          have hb : (c.id != d.id) = true := bne_iff_ne.2 e0
          repeat' (first
            | (refine wpRel_quiet (v := ?_) rfl rfl (fun _ _ _ h => h) (by rfl) ?_ ?_
               rotate_left
               · (intro w' hR; have r1 := HR1.out w' (B1.trans hR); have r2 := HR2.out w' (B1.trans hR); have c0 : w'.cell? ⟨b1, o1 + k * 3, none⟩ = some (.int .i64 c.id) := r1 0 _ rfl; have c1 : w'.cell? ⟨b1, o1 + k * 3 + 1, none⟩ = some (.int .i64 c.leaf) := r1 1 _ rfl; have c2 : w'.cell? ⟨b1, o1 + k * 3 + 2, none⟩ = some c.d.v := r1 2 _ rfl; have d0 : w'.cell? ⟨b2, o2 + k * 3, none⟩ = some (.int .i64 d.id) := r2 0 _ rfl; have d1 : w'.cell? ⟨b2, o2 + k * 3 + 1, none⟩ = some (.int .i64 d.leaf) := r2 1 _ rfl; have d2 : w'.cell? ⟨b2, o2 + k * 3 + 2, none⟩ = some d.d.v := r2 2 _ rfl; go_simp; try rfl)
               simp only [Act.put, List.setIfInBounds_toArray, List.set_cons_zero, List.set_cons_succ])
            | fail)
          repeat' (first
            | (refine wpRel_pass rfl (fun _ _ _ h => h) (by rfl) (by first | exact Kept.refl _ | exact RowKit.Below.refl _ _) ?_
               simp only [Act.put, List.setIfInBounds_toArray, List.set_cons_zero, List.set_cons_succ])
            | fail)
          repeat' (first
            | (refine wpRel_quiet (v := ?_) rfl rfl (fun _ _ _ h => h) (by rfl) ?_ ?_
               rotate_left
               · (intro w' hR; go_simp; try rfl)
               simp only [Act.put, List.setIfInBounds_toArray, List.set_cons_zero, List.set_cons_succ])
            | fail)
          repeat' (first
            | (refine wpRel_pass rfl (fun _ _ _ h => h) (by rfl) (by first | exact Kept.refl _ | exact RowKit.Below.refl _ _) ?_
               simp only [Act.put, List.setIfInBounds_toArray, List.set_cons_zero, List.set_cons_succ])
            | fail)
          repeat' (first
            | (refine wpRel_quiet (v := ?_) rfl rfl (fun _ _ _ h => h) (by rfl) ?_ ?_
               rotate_left
               · (intro w' hR; go_simp; try rfl)
               simp only [Act.put, List.setIfInBounds_toArray, List.set_cons_zero, List.set_cons_succ])
            | fail)
          refine wpRel_nil ?_
          go_wp2_with fail
          go_ret
          exact ⟨ret_bool HF.out.symm, B1⟩
      · have HF := hide (pcs_eq (by omega) (fun j h1 h2 => hall j h1 h2 (by omega)))
        clear hall
        obtain rfl : k = n := by omega
        go_wp2_with fail
        go_ret
        exact ⟨ret_bool HF.out.symm, hbel⟩
  · have hne : decide (cs.map CV.pc = ds.map CV.pc) = false := decide_eq_false fun e => hnm (by
      have := congrArg List.length e
      rw [List.length_map, List.length_map] at this
      omega)
    rw [hne]
    clear hne h h'
    go_enter Try.func16, Try.ntmps16
    go_wp2_with fail
    go_ret
    exact ⟨rfl, Below.refl _ _⟩
#print axioms sameCells_any
end Go.Proofs.Ytgjffoeegnljlaa
