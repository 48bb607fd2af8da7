
/- What a call of dumbwaiterlaw14's awake answers; nothing that was there is turned. -/
import Derived.Test.YtgjffoeegnljlaaBkRead
import Derived.Test.YtgjffoeegnljlaaBkTell
import Derived.Test.YtgjffoeegnljlaaLit
namespace Go.Proofs.Ytgjffoeegnljlaa
open Go.RowKit
set_option maxRecDepth 20000

theorem code_ab : okK [(1, 258, [97, 98])] 2 2 = true ∧ codeR [(1, 258, [97, 98])] 2 2 = [1, 0, 0, 0, 2, 1, 0, 0, 97, 98, 0, 0, 0, 0, 0, 0, 0, 0, 0, 0] := by
  constructor <;> decide +kernel
theorem code_no : okK [(0, 0, [97, 98])] 2 2 = false := by decide +kernel
theorem isBk_ab : isBk [1, 0, 0, 0, 2, 1, 0, 0, 97, 98, 0, 0, 0, 0, 0, 0, 0, 0, 0, 0] 2 2 = true ∧ readR [1, 0, 0, 0, 2, 1, 0, 0, 97, 98, 0, 0, 0, 0, 0, 0, 0, 0, 0, 0] 2 2 = [(1, 258, [97, 98])] := by
  constructor <;> decide +kernel
theorem one_of {ds : List CV} {p : PC} (h : ds.map CV.pc = [p]) : ∃ d, ds = [d] ∧ d.pc = p := by
  match ds, h with
  | [d], h => exact ⟨d, rfl, (List.cons.inj h).1⟩
  | [], h => cases h
  | _ :: _ :: _, h => cases h
theorem code_lit (w : World) (i l : Int) (ga : Option Addr) (hc : (CV.mk i l ⟨ga, 2, 2, [97, 98]⟩).At w) (k : Bool) (r : List Int) (h1 : okK [(i, l, [97, 98])] 2 2 = k) (h2 : codeR [(i, l, [97, 98])] 2 2 = r) :
    Calls Try.prog 8 #[.slice (some ⟨w.heap.size, 0, none⟩) 1 1, .int .i64 2, .int .i64 2] (w.alloc (Obj.cells #[.int .i64 i, .int .i64 l, .slice ga 2 2] 24)) fun e w' => ∃ a n c, e = .returned (.tuple #[.slice a n c, .bool k]) ∧ Bs w' a n c r ∧ Below w.heap.size w w' := by
  have hb := cells_below w #[.int .i64 i, .int .i64 l, .slice ga 2 2]
  refine (code_any _ (Ces.lit (cs := [CV.mk i l ⟨ga, 2, 2, [97, 98]⟩]) (vs := #[.int .i64 i, .int .i64 l, .slice ga 2 2]) (n := 1) rfl rfl (by omega) (fun c h => by cases List.mem_singleton.1 h; exact hc)) 2 2).mono ?_
  rintro e w' ⟨a, n, c, rfl, hO, b⟩
  refine ⟨a, n, c, ?_, ?_, hb.trans (b.mono hb.size)⟩
  · rw [← h1]; rfl
  · rw [← h2]; exact hO.bs
theorem str_ten : ((⟨#[1, 0, 0, 0, 2, 1, 0, 0, 97, 98]⟩ : ByteArray) ++ (⟨#[0, 0, 0, 0, 0, 0, 0, 0, 0, 0]⟩ : ByteArray)) = ⟨#[1, 0, 0, 0, 2, 1, 0, 0, 97, 98, 0, 0, 0, 0, 0, 0, 0, 0, 0, 0]⟩ := by
  apply ByteArray.ext
  rw [ByteArray.data_append]
  rfl
set_option maxRecDepth 100000 in
set_option maxHeartbeats 4000000 in
theorem awake_any (w : World) : Calls Try.prog 9 #[] w fun e w' => e = .returned (.bool true) ∧ Below w.heap.size w w' := by
  go_enter Try.func9, Try.ntmps9
  go_wp2_with fail
  rw [conv_bytes]
  have hL : Bs (w.alloc (Obj.cells #[Value.int IntKind.u8 97, Value.int IntKind.u8 98] 5 (2, 3))) (some ⟨w.heap.size, 0, none⟩) 2 2 [97, 98] := Bs.lit rfl rfl (bytes_lit rfl) rfl (by omega)
  have b1 := below_alloc (Below.refl w.heap.size w) (Obj.cells #[Value.int IntKind.u8 97, Value.int IntKind.u8 98] 5 (2, 3))
  have hc : (CV.mk 1 258 ⟨some ⟨w.heap.size, 0, none⟩, 2, 2, [97, 98]⟩).At (w.alloc (Obj.cells #[Value.int IntKind.u8 97, Value.int IntKind.u8 98] 5 (2, 3))) := ⟨by simp only; omega, by simp only; omega, hL⟩
  generalize (w.alloc (Obj.cells #[Value.int IntKind.u8 97, Value.int IntKind.u8 98] 5 (2, 3))) = w1 at *
  generalize hga : some (Addr.mk w.heap.size 0 none) = ga at *
  have hC := hide (code_lit w1 1 258 ga hc true _ code_ab.1 code_ab.2)
  clear hc hL hga
  go_wp2_with (refine wpList_buildSliceAt (by rfl) 26 24 1 _ (by rfl) Try.underlying26 [(0, .agg #[.int .i64 1, .int .i64 258, .slice ga 2 2])] (by rfl) _ (builtS_cell (CV.mk 1 258 ⟨ga, 2, 2, [97, 98]⟩)) w1.heap.size rfl ?_)
  refine hC.out.mono ?_
  rintro e w2 ⟨a, n, c, rfl, hB, b2⟩
  have B2 := b1.trans (b2.mono b1.size)
  have hP := hide (parse_any w2 hB 2 2)
  rw [isBk_ab.1, isBk_ab.2] at hP
  clear hC b1 b2
  go_wp2_with fail
  refine hP.out.mono ?_
  rintro e w3 ⟨la, ln, lc, ds, rfl, hds, hZ, b3⟩
  have B3 := B2.trans (b3.mono B2.size)
  have hB3 := hB.below b3
  clear hP B2 b3 hB
  go_wp2_with fail
  rw [conv_bytes]
  have hL : Bs (w3.alloc (Obj.cells #[Value.int IntKind.u8 97, Value.int IntKind.u8 98] 5 (2, 3))) (some ⟨w3.heap.size, 0, none⟩) 2 2 [97, 98] := Bs.lit rfl rfl (bytes_lit rfl) rfl (by omega)
  have b4 := below_alloc (Below.refl w3.heap.size w3) (Obj.cells #[Value.int IntKind.u8 97, Value.int IntKind.u8 98] 5 (2, 3))
  have hc : (CV.mk 0 0 ⟨some ⟨w3.heap.size, 0, none⟩, 2, 2, [97, 98]⟩).At (w3.alloc (Obj.cells #[Value.int IntKind.u8 97, Value.int IntKind.u8 98] 5 (2, 3))) := ⟨by simp only; omega, by simp only; omega, hL⟩
  generalize (w3.alloc (Obj.cells #[Value.int IntKind.u8 97, Value.int IntKind.u8 98] 5 (2, 3))) = w4 at *
  generalize hga : some (Addr.mk w3.heap.size 0 none) = ga at *
  have hC := hide (code_lit w4 0 0 ga hc false _ code_no rfl)
  have B4 := B3.trans (b4.mono B3.size)
  have hB4 := hB3.below b4
  have hZ4 := hZ.below b4
  clear hc hL hga b4 B3 hB3 hZ
  go_wp2_with (refine wpList_buildSliceAt (by rfl) 26 24 1 _ (by rfl) Try.underlying26 [(0, .agg #[.int .i64 0, .int .i64 0, .slice ga 2 2])] (by rfl) _ (builtS_cell (CV.mk 0 0 ⟨ga, 2, 2, [97, 98]⟩)) w4.heap.size rfl ?_)
  refine hC.out.mono ?_
  rintro e w5 ⟨a5, n5, c5, rfl, -, b5⟩
  have B5 := B4.trans (b5.mono B4.size)
  have hB5 := hB4.below b5
  have hZ5 := hZ4.below b5
  clear hC B4 hB4 hZ4 b5
  obtain ⟨d, rfl, hd⟩ := one_of hds
  obtain ⟨di, dl, ⟨da, dn, dc, dz⟩⟩ := d
  simp only [CV.pc, Prod.mk.injEq] at hd
  obtain ⟨rfl, rfl, rfl⟩ := hd
  clear hds
  obtain rfl : 1 = ln := hZ5.length
  obtain ⟨bb, off, rfl, hsp⟩ := hZ5.spot (by omega)
  have hD := (hZ5.item _ (List.mem_singleton.2 rfl)).bs
  simp only at hD
  go_wp2_with fail
  refine wp_region_rel Kept [0, 1, 2, 3, 4, 5, 6, 7, 8, 9, 10, 11, 12, 13, 14, 15, 16, 17, 18, 19, 20, 21, 22, 23, 24, 25, 26, 27, 28, 29, 30, 31, 32, 33, 34, 35, 36, 37, 38, 39, 40, 41, 42, 43, 44, 45, 46, 47] (by kernel_rfl) (by kernel_rfl) (by kernel_rfl) Kept.refl Kept.trans ?_
  have sd : Below w5.heap.size w5 w5.drew := (Below.refl _ _).drew
  have hBd := hB5.below sd
  have hDd := hD.below sd
  have hR0 := fun w' (hb : Below w5.drew.heap.size w5.drew w') => hsp w' (sd.trans (hb.mono sd.size)) 0 (by rw [List.length_singleton]; omega)
  simp only [Nat.zero_mul, Nat.add_zero, List.getElem_cons_zero] at hR0
  have HR0 := hide hR0
  have Bd := B5.trans (sd.mono B5.size)
  clear hsp hB5 hD hZ5 B5 sd hR0
  generalize w5.drew = W0 at *
  repeat' (first
    | (refine wpRel_quiet (v := ?_) rfl rfl (fun _ _ _ h => h) (by rfl) ?_ ?_
       rotate_left
       · (intro w' hR; have sx : (convert 22 9 (.slice a n c)).run Try.prog w' = .ok (.string ⟨#[1, 0, 0, 0, 2, 1, 0, 0, 97, 98, 0, 0, 0, 0, 0, 0, 0, 0, 0, 0]⟩) w' := str_bytes (hBd.below hR); go_simp; try rfl)
       simp only [Act.put, List.setIfInBounds_toArray, List.set_cons_zero, List.set_cons_succ])
    | fail)
  refine wpRel_step rfl rfl (by rfl) (fun K' hK => ?_)
  refine wp_make_bytes 10 (by omega) _ _ (by rfl) (by rfl) (by rfl) ?_
  have b1 := below_alloc (Below.refl W0.heap.size W0) (Obj.cells (madeCells #[Value.int .u8 0] 10) 5)
  have hz := (OwnB.owns (base := 0) (n := 10) (made_zB W0 10 5) (zL_bytes 10) (zL_length _) (by omega) (Nat.zero_le _)).bs
  refine hK.out _ _ b1 ?_
  clear hK K'
  try simp only [Act.put, List.setIfInBounds_toArray, List.set_cons_zero, List.set_cons_succ]
  have Bd1 := Bd.trans (b1.mono Bd.size)
  have hD1 := hDd.below b1
  have HR1 := hide (fun w' (hb : Below (W0.alloc (Obj.cells (madeCells #[Value.int .u8 0] 10) 5)).heap.size (W0.alloc (Obj.cells (madeCells #[Value.int .u8 0] 10) 5)) w') => HR0.out w' (b1.trans (hb.mono b1.size)))
  clear hBd hDd HR0 Bd b1
  generalize (W0.alloc (Obj.cells (madeCells #[Value.int .u8 0] 10) 5)) = W1 at *
  repeat' (first
    | (refine wpRel_quiet (v := ?_) rfl rfl (fun _ _ _ h => h) (by rfl) ?_ ?_
       rotate_left
       · (intro w' hR; have st := str_ten; have sz : (convert 22 9 (.slice (some ⟨W0.heap.size, 0, none⟩) 10 10)).run Try.prog w' = .ok (.string ⟨#[0, 0, 0, 0, 0, 0, 0, 0, 0, 0]⟩) w' := str_bytes (hz.below hR); have sd : (convert 22 9 (.slice da dn dc)).run Try.prog w' = .ok (.string ⟨#[97, 98]⟩) w' := str_bytes (hD1.below hR); have hr := HR1.out w' hR; have e0 : w'.cell? ⟨bb, off, none⟩ = some (.int .i64 1) := hr 0 _ rfl; have e1 : w'.cell? ⟨bb, off + 1, none⟩ = some (.int .i64 258) := hr 1 _ rfl; have e2 : w'.cell? ⟨bb, off + 2, none⟩ = some (.slice da dn dc) := hr 2 _ rfl; go_simp; try rfl)
       simp only [Act.put, List.setIfInBounds_toArray, List.set_cons_zero, List.set_cons_succ])
    | fail)
  refine wpRel_step rfl rfl (by rfl) (fun K' hK => ?_)
  go_simp
  refine (long_any 4 8 W1 (by omega) (by omega)).mono ?_
  rintro e w6 ⟨rfl, rfl⟩
  refine hK.out _ _ (Kept.refl _) ?_
  clear hK K'
  try simp only [Act.put, List.setIfInBounds_toArray, List.set_cons_zero, List.set_cons_succ]
  repeat' (first
    | (refine wpRel_quiet (v := ?_) rfl rfl (fun _ _ _ h => h) (by rfl) ?_ ?_
       rotate_left
       · (intro w' hR; go_simp; try rfl)
       simp only [Act.put, List.setIfInBounds_toArray, List.set_cons_zero, List.set_cons_succ])
    | fail)
  refine wpRel_nil ?_
  go_wp2_with fail
  go_ret
  exact ⟨rfl, Bd1⟩
#print axioms awake_any
end Go.Proofs.Ytgjffoeegnljlaa
