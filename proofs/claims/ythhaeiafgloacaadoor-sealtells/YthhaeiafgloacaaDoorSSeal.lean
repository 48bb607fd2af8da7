/- What a call of seal.Seal does: for every key, numbers, text and size; nothing that was there is turned. -/
import Derived.Test.YthhaeiafgloacaaDoorSArm
import Derived.Test.YthhaeiafgloacaaDoorBuild
import Derived.Deep.Onto
namespace Go.Proofs.YthhaeiafgloacaaDoor
open Go.RowKit

theorem fits_zero (n : Nat) (h : n ≤ 100000) : fits 0 n = true := by
  unfold fits
  rw [decide_eq_true_eq, show (0 : BitVec 32).toNat = 0 from rfl]
  omega

theorem OwnS.mono {E : TypeId} {base b : Nat} {w : World} {g n cap : Nat} {xs : List Int} (h : OwnS E base w (some ⟨g, 0, none⟩) n cap xs) (hb : b ≤ base) : OwnS E b w (some ⟨g, 0, none⟩) n cap xs :=
  ⟨h.1, h.2.1, World.ownsRow.mono h.2.2 hb⟩

set_option maxRecDepth 100000 in
set_option maxHeartbeats 4000000 in
theorem seal_ok (key : List Int) (boot seq size : Int) {a : Option Addr} {len cap : Nat} {zs : List Int} (m : Nat) (w : World) (hk : IsBytes key) (hkl : key.length = 32) (hb : 0 ≤ boot ∧ boot < 4294967296) (hs : 0 ≤ seq ∧ seq < 18446744073709551616)
    (hbs : Bs w a len cap zs) (hsz : size = (m : Int) + 22) (hl : len ≤ m) (hm : m ≤ 60000) (hg : Glob w) :
    Calls Tryd.prog 8 #[.agg (bV key), .int .u32 boot, .int .u64 seq, .slice a len cap, .int .i64 size] w fun e w' => ∃ g cap', e = .returned (.tuple #[.slice (some ⟨g, 0, none⟩) (m + 22) cap', .bool true]) ∧ OwnS 5 w.heap.size w' (some ⟨g, 0, none⟩) (m + 22) cap' (sealL key boot seq zs m) ∧ Below w.heap.size w w' := by
  have hz := hbs.length
  have hpl := length_padL zs m (by omega)
  have hpb := padL_bytes zs m hbs.bytes
  have hhl := headL_length boot seq
  have hhb := headL_bytes boot seq
  have hS := KK.start w key hg
  have hbs0 := hbs.below hS.bel
  subst hsz
  have hr0 : IntKind.i64.wrap ((m : Int) + 22 - 22) = (m : Int) := by rw [IntKind.wrap_i64]; omega
  go_enter Tryd.func8, Tryd.ntmps8
  go_wp2_with fail
  generalize (w.alloc (Obj.cells (bV key) 22)) = W0 at *
  refine (room_any _ (m : Int) W0 hr0).mono ?_
  rintro e W0' ⟨rfl, rfl⟩
  go_wp2_with fail
  refine (pad_at _ m W0 rfl hbs0 hl hm).mono ?_
  rintro e w1 ⟨rfl, hP1, hb1⟩
  have hS1 := hS.later hb1
  have hgp : w.heap.size < W0.heap.size := hS.lt
  generalize W0.heap.size = gp at *
  clear hb1 hS hbs0
  go_wp2_with fail
  refine (head_any boot seq w1 hb hs).mono ?_
  rintro e w2 ⟨rfl, hb2⟩
  have hS2 := hS1.later hb2
  have hP2 := hP1.below hb2
  clear hb2 hS1 hP1
  have hn2 := heap_alloc_new w2 (Obj.cells (bV (zL 12)) 35)
  obtain ⟨hH3, hb3, -⟩ := new12 w2 (headL boot seq)
  have hS3 := hS2.later hb3
  have hP3 := hP2.below hb3
  have hgh : w.heap.size < w2.heap.size := hS2.lt
  go_wp2_with (first
    | (refine wpList_newA (by rfl) 35 (by rfl) _ zero12 w2.heap.size rfl ?_)
    | (refine wpList_putA arrT12 (by rfl) _ _ (by rfl) w2.heap.size (bV (headL boot seq)) (by rfl) (by rfl) _ hn2 (by rw [bV_size, hhl]) (bV_size _) (bV_one _) ?_))
  generalize ((w2.alloc (Obj.cells (bV (zL 12)) 35)).setRow w2.heap.size (bV (headL boot seq))) = W3 at *
  clear hS2 hP2 hb3 hn2
  generalize w2.heap.size = gh at *
  have hsl := run_arr_all (P := Tryd.prog) Tryd.underlying35 Tryd.size_u8 gh
  refine wp_region_rel Kept [0, 1, 2, 3, 4, 5, 6, 7, 8, 9, 10, 11, 12, 13, 14] (by kernel_rfl) (by kernel_rfl) (by kernel_rfl) Kept.refl Kept.trans ?_
  replace hS3 := hS3.drew
  replace hP3 : OwnB 5 W3.drew gp (padL zs m) := hP3
  replace hH3 : OwnB 35 W3.drew gh (headL boot seq) := hH3
  generalize W3.drew = W4 at *
  refine wpRel_loadA arrT32 rfl rfl _ rfl w.heap.size (bV key) (by rfl) (fun w' hR => hS3.kk.below hR) (by rw [bV_size, hkl]) (fun _ _ _ h => h) (by rfl) ?_
  try simp only [Act.put, List.setIfInBounds_toArray, List.set_cons_zero, List.set_cons_succ]
  refine wpRel_loadA arrT12 rfl rfl _ rfl gh (bV (headL boot seq)) (by rfl) (fun w' hR => hH3.below hR) (by rw [bV_size, hhl]) (fun _ _ _ h => h) (by rfl) ?_
  try simp only [Act.put, List.setIfInBounds_toArray, List.set_cons_zero, List.set_cons_succ]
  repeat' (first
    | (refine wpRel_quiet (v := ?_) rfl rfl (fun _ _ _ h => h) (by rfl) ?_ ?_
       rotate_left
       · (intro w' hR; go_simp; try rfl)
       simp only [Act.put, List.setIfInBounds_toArray, List.set_cons_zero, List.set_cons_succ]))
  refine wpRel_step rfl rfl (by rfl) (fun K' hK => ?_)
  refine wp_buildSliceTo 52 25 2 _ (by rfl) Tryd.underlying52 [(0, .slice (some ⟨gh, 0, none⟩) 12 12), (1, .slice (some ⟨gp, 0, none⟩) (2 + m) (2 + m))] (by kernel_rfl) #[.slice (some ⟨gh, 0, none⟩) 12 12, .slice (some ⟨gp, 0, none⟩) (2 + m) (2 + m)] (by kernel_rfl) ?_
  have hb5 := (Below.refl W4.heap.size W4).alloc (Nat.le_refl _) (.cells #[.slice (some ⟨gh, 0, none⟩) 12 12, .slice (some ⟨gp, 0, none⟩) (2 + m) (2 + m)] 25)
  have hB5 := heap_alloc_new W4 (.cells #[.slice (some ⟨gh, 0, none⟩) 12 12, .slice (some ⟨gp, 0, none⟩) (2 + m) (2 + m)] 25)
  refine hK.out _ _ hb5 ?_
  clear hK K'
  try simp only [Act.put, List.setIfInBounds_toArray, List.set_cons_zero, List.set_cons_succ]
  have hS5 := hS3.later hb5
  have hP5 := hP3.below hb5
  have hH5 := hH3.below hb5
  clear hS3 hP3 hH3 hb5
  generalize (W4.alloc _) = W5 at *
  generalize W4.heap.size = gv at *
  have hw1 := fnv_word (headL boot seq ++ padL zs m)
  refine wpRel_step rfl rfl (by rfl) (fun K' hK => ?_)
  go_simp
  refine (sum_is gv 2 [⟨some ⟨gh, 0, none⟩, 12, 12, headL boot seq⟩, ⟨some ⟨gp, 0, none⟩, 2 + m, 2 + m, padL zs m⟩] (fnv (headL boot seq ++ padL zs m)) W5 rfl (by omega) (by simp [partsBytes]) _ hB5 rfl (by
    intro p hp
    simp only [List.mem_cons, List.not_mem_nil, or_false] at hp
    rcases hp with rfl | rfl
    · exact hH5.bs hhb 12 hhl (by omega)
    · exact hP5.bs hpb (2 + m) hpl (by omega))).mono ?_
  rintro e W5' ⟨rfl, rfl⟩
  refine hK.out _ _ (Kept.refl _) ?_
  clear hK K' hB5
  try simp only [Act.put, List.setIfInBounds_toArray, List.set_cons_zero, List.set_cons_succ]
  refine wpRel_step rfl rfl (by rfl) (fun K' hK => ?_)
  go_simp
  refine (put_at _ _ 8 W5 rfl hw1 (by omega)).mono ?_
  rintro e w6 ⟨rfl, hO6, hb6⟩
  refine hK.out _ _ hb6 ?_
  clear hK K'
  try simp only [Act.put, List.setIfInBounds_toArray, List.set_cons_zero, List.set_cons_succ]
  have hS6 := hS5.later hb6
  have hP6 := hP5.below hb6
  have hH6 := hH5.below hb6
  clear hS5 hP5 hH5 hb6
  generalize W5.heap.size = gq at *
  obtain ⟨c7, w7, hr7, ho7, hb7⟩ := run_append_new (P := Tryd.prog) Tryd.underlying25 Tryd.info_u8 25 w6 (some ⟨gp, 0, none⟩) (2 + m) (2 + m) _ (hP6.bs hpb (2 + m) hpl (by omega)) (some ⟨gq, 0, none⟩) 8 8 _ (hO6.bs (putL_bytes _ _) 8 (length_putL _ _) (by omega)) (fun h => by cases h) (by omega) (by omega)
  refine wpRel_step rfl rfl (by rfl) (fun K' hK => ?_)
  refine wp_append_run (.tmp 31) (.tmp 36) 25 (by rfl) _ _ _ (by rfl) (by rfl) hr7 ?_
  refine hK.out _ _ hb7 ?_
  clear hK K' hr7
  try simp only [Act.put, List.setIfInBounds_toArray, List.set_cons_zero, List.set_cons_succ]
  have hS7 := hS6.later hb7
  have hH7 := hH6.below hb7
  clear hS6 hP6 hH6 hb7 hO6
  generalize w6.heap.size = gr at *
  refine wpRel_step rfl rfl (by rfl) (fun K' hK => ?_)
  go_simp
  refine (xor_at key (headL boot seq) 0 _ _ _ w7 rfl rfl rfl hk hkl hhb hhl ho7.bs (by omega) (fits_zero _ (by omega)) hS7.gl).mono ?_
  rintro e w8 ⟨g8, rfl, hO8, hg8, hb8⟩
  refine hK.out _ _ hb8 ?_
  clear hK K'
  try simp only [Act.put, List.setIfInBounds_toArray, List.set_cons_zero, List.set_cons_succ]
  have hS8 := hS7.later hb8
  have hH8 := hH7.below hb8
  clear hS7 hH7 hb8 ho7
  repeat' (first
    | (refine wpRel_quiet (v := ?_) rfl rfl (fun _ _ _ h => h) (by rfl) ?_ ?_
       rotate_left
       · (intro w' hR; go_simp; try rfl)
       simp only [Act.put, List.setIfInBounds_toArray, List.set_cons_zero, List.set_cons_succ]))
  refine wpRel_nil ?_
  have hxl : (xorL key (headL boot seq) 0 (bodyL (headL boot seq) (padL zs m))).length = 2 + m + 8 := by rw [xorL_length, bodyL_length, hpl]
  have hxb := xorL_bytes key (headL boot seq) 0 _ (bodyL_bytes (headL boot seq) (padL zs m) hpb)
  obtain ⟨c9, w9, hr9, ho9, hb9⟩ := run_append_new (P := Tryd.prog) Tryd.underlying25 Tryd.info_u8 25 w8 (some ⟨gh, 0, none⟩) 12 12 _ (hH8.bs hhb 12 hhl (by omega)) (some ⟨g8, 0, none⟩) (2 + m + 8) (2 + m + 8) _ (OwnB.bs (zs := xorL key (headL boot seq) 0 (bodyL (headL boot seq) (padL zs m))) hO8 hxb (2 + m + 8) hxl (by omega)) (fun h => by cases h) (by omega) (by omega)
  rw [show 12 + (2 + m + 8) = m + 22 by omega] at hr9 ho9
  have hbel := hS8.bel.trans (hb9.mono hS8.bel.size)
  have hle : w.heap.size ≤ w8.heap.size := hS8.bel.size
  clear hO8 hH8 hb9
  go_wp2_with (at_builtin; refine wpList_append_run (by rfl) (.tmp 43) (.tmp 44) 25 (by rfl) _ _ _ _ (by rfl) (by rfl) hr9 ?_)
  go_ret2
  exact ⟨_, _, rfl, ho9.mono hle, hbel⟩
#print axioms seal_ok

set_option maxHeartbeats 1000000 in
theorem seal_no (key : List Int) (boot seq size : Int) {a : Option Addr} {len cap : Nat} (w : World) (hsz : -9223372036854775808 ≤ size ∧ size ≤ 9223372036854775807) (hl : len ≤ 9223372036854775807) (h : size < 22 ∨ 60022 < size ∨ size < (len : Int) + 22) :
    Calls Tryd.prog 8 #[.agg (bV key), .int .u32 boot, .int .u64 seq, .slice a len cap, .int .i64 size] w fun e w' => e = .returned (.tuple #[.slice none 0 0, .bool false]) ∧ Below w.heap.size w w' := by
  obtain ⟨r, hr⟩ : ∃ r, IntKind.i64.wrap (size - 22) = r := ⟨_, rfl⟩
  have hr2 : r < 0 ∨ 60000 < r ∨ r < (len : Int) := by
    rw [IntKind.wrap_i64] at hr
    omega
  have hb0 := below_alloc (Below.refl w.heap.size w) (Obj.cells (bV key) 22)
  clear h
  go_enter Tryd.func8, Tryd.ntmps8
  go_wp2_with fail
  generalize (w.alloc (Obj.cells (bV key) 22)) = W0 at *
  refine (room_any _ r W0 hr).mono ?_
  rintro e W0' ⟨rfl, rfl⟩
  go_wp2_with fail
  refine (pad_bad r W0 hr2 hl).mono ?_
  rintro e W0' ⟨rfl, rfl⟩
  go_wp2_with fail
  go_ret2
  exact ⟨rfl, hb0⟩
#print axioms seal_no
end Go.Proofs.YthhaeiafgloacaaDoor
