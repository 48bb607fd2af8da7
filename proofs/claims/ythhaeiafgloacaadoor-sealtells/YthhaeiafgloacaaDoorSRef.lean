/- What calls of dumbwaiterref1.Head, Seal and Open do: for every key, numbers, text and size, and every row of bytes up to a bound; nothing that was there is turned. -/
import Derived.Test.YthhaeiafgloacaaDoorSSeal
import Derived.Test.YthhaeiafgloacaaDoorSOpen
import Derived.Test.YthhaeiafgloacaaDoorRef1a
import Derived.Test.YthhaeiafgloacaaDoorRef1b
namespace Go.Proofs.YthhaeiafgloacaaDoor
open Go.RowKit

set_option maxHeartbeats 1000000 in
theorem rhead_any (boot seq : Int) (w : World) (hb : 0 ≤ boot ∧ boot < 4294967296) (hs : 0 ≤ seq ∧ seq < 18446744073709551616) :
    Calls Tryd.prog 15 #[.int .u32 boot, .int .u64 seq] w fun e w' => e = .returned (.agg (bV (headL boot seq))) ∧ Below w.heap.size w w' := by
  have n1 := heap_alloc_new w (Obj.cells (bV (zL 12)) 35)
  have n2 := heap_alloc_new (w.alloc (Obj.cells (bV (zL 12)) 35)) (Obj.cells (bV (zL 12)) 35)
  simp only [size_alloc] at n2
  have hb0 := below_alloc (below_alloc (Below.refl w.heap.size w) (Obj.cells (bV (zL 12)) 35)) (Obj.cells (bV (zL 12)) 35)
  have m1 := block_alloc n1 (Obj.cells (bV (zL 12)) 35)
  clear n1
  have hbw : IntKind.u64.wrap boot = boot := by rw [wrap_u64]; omega
  have hsl := run_arr_all (P := Tryd.prog) Tryd.underlying35 Tryd.size_u8 (w.heap.size + 1)
  go_enter Tryd.func15, Tryd.ntmps15
  go_wp2_with (first
    | (refine wpList_newA (by rfl) 35 (by rfl) _ zero12 w.heap.size rfl ?_)
    | (refine wpList_newA (by rfl) 35 (by rfl) _ zero12 (w.heap.size + 1) (size_alloc _ _) ?_))
  generalize ((w.alloc (Obj.cells (bV (zL 12)) 35)).alloc (Obj.cells (bV (zL 12)) 35)) = W0 at *
  refine wp_region_ord 1000 [0, 1, 2, 4, 3, 5, 6, 7] (fun _ => True) (fun _ => True) (by kernel_rfl) (by kernel_rfl) (by kernel_rfl) trivial trivial (fun _ _ => ?_)
  replace hb0 := hb0.drew
  replace m1 : OwnB 35 W0.drew w.heap.size (zL 12) := m1
  replace n2 : OwnB 35 W0.drew (w.heap.size + 1) (zL 12) := n2
  generalize W0.drew = W1 at *
  repeat' (first
    | (refine wpOrd_quiet (v := ?_) rfl rfl (fun _ _ _ h => h) (by rfl) ?_ ?_
       rotate_left
       · (intro w' hT _; go_simp; try rfl)
       simp only [Act.put, List.setIfInBounds_toArray, List.set_cons_zero, List.set_cons_succ])
    | fail)
  refine wpOrd_step rfl rfl (by rfl) (fun K' hK => ?_)
  go_simp
  refine (rput_ok boot 4 W1 (by omega) (by omega)).mono ?_
  rintro e w2 ⟨a2, c2, rfl, hO2, hb2⟩
  refine hK.out _ _ trivial (fun h => absurd h (by decide)) (fun _ => ?_)
  clear hK K'
  try simp only [Act.put, List.setIfInBounds_toArray, List.set_cons_zero, List.set_cons_succ]
  refine wpOrd_step rfl rfl (by rfl) (fun K' hK => ?_)
  go_simp
  refine (rput_ok seq 8 w2 (by omega) (by omega)).mono ?_
  rintro e w3 ⟨a3, c3, rfl, hO3, hb3⟩
  refine hK.out _ _ trivial (fun h => absurd h (by decide)) (fun _ => ?_)
  clear hK K'
  try simp only [Act.put, List.setIfInBounds_toArray, List.set_cons_zero, List.set_cons_succ]
  obtain ⟨a4, c4, w4, hr4, ho4, hb4⟩ := run_append_more W1.heap.size W1 w3 a2 4 c2 _ (hO2.below hb3) (hb2.trans (hb3.mono hb2.size)) (Nat.le_refl _) a3 8 c3 _ hO3.bs (by omega)
  have hlt1 : w.heap.size + 1 < W1.heap.size := OwnB.lt n2
  have m4 : OwnB 35 w4 w.heap.size (zL 12) := OwnB.below m1 hb4
  have z4 : OwnB 35 w4 (w.heap.size + 1) (zL 12) := OwnB.below n2 hb4
  have hb4' := hb0.trans (hb4.mono hb0.size)
  clear hO2 hO3 hb2 hb3 hb4 m1 n2 hb0
  refine wpOrd_step rfl rfl (by rfl) (fun K' hK => ?_)
  refine wp_append_run (.tmp 9) (.tmp 11) 25 (by rfl) _ _ _ (by rfl) (by rfl) hr4 ?_
  refine hK.out _ _ trivial (fun h => absurd h (by decide)) (fun _ => ?_)
  clear hK K'
  try simp only [Act.put, List.setIfInBounds_toArray, List.set_cons_zero, List.set_cons_succ]
  clear hr4
  replace ho4 : OwnS 5 W1.heap.size w4 a4 12 c4 (headL boot seq) := ho4
  obtain ⟨w5, hr5, hP5, ho5⟩ := run_copy_bytes (P := Tryd.prog) Tryd.underlying25 Tryd.size_u8 3 w4 (some ⟨w.heap.size + 1, 0, none⟩) a4 12 12 12 c4 (w.heap.size + 1) 0 12 (zL 12) _ z4 (by omega) (.inr rfl) ho4.bs (by rw [zL_length]; omega)
  have m5 := ho5.own m4 (by omega)
  have hb5 := ho5.below hb4' (by omega)
  rw [head_whole] at hP5
  clear m4 z4 ho4 hb4' ho5
  refine wpOrd_step rfl rfl (by rfl) (fun K' hK => ?_)
  go_simp
  refine hK.out _ _ trivial (fun h => absurd h (by decide)) (fun _ => ?_)
  clear hK K'
  try simp only [Act.put, List.setIfInBounds_toArray, List.set_cons_zero, List.set_cons_succ]
  clear hr5
  refine wpOrd_nil ?_
  go_wp2_with (first
    | (refine wpList_loadA arrT12 (by rfl) _ (by rfl) (w.heap.size + 1) (by rfl) (bV (headL boot seq)) hP5 (by rw [bV_size, headL_length]) ?_)
    | (refine wpList_putA arrT12 (by rfl) _ _ (by rfl) w.heap.size (bV (headL boot seq)) (by rfl) (by rfl) _ m5 (by rw [bV_size, headL_length]) (bV_size _) (bV_one _) ?_))
  refine bodyPost_ret (results_cell_row rfl _ _ _ _ _ _ _ rfl (setRow_heap _ _ _ _ _ _ m5) Tryd.underlying35 rfl (by rw [bV_size, headL_length, info_b12])) rfl ?_
  exact ⟨rfl, Below.setRow hb5 (Nat.le_refl _) _⟩
#print axioms rhead_any

set_option maxRecDepth 100000 in
set_option maxHeartbeats 4000000 in
theorem rseal_ok (key : List Int) (boot seq size : Int) {a : Option Addr} {len cap : Nat} {zs : List Int} (m : Nat) (w : World) (hk : IsBytes key) (hkl : key.length = 32) (hb : 0 ≤ boot ∧ boot < 4294967296) (hs : 0 ≤ seq ∧ seq < 18446744073709551616)
    (hbs : Bs w a len cap zs) (hsz : size = (m : Int) + 22) (hl : len ≤ m) (hm : m ≤ 60000) (hg : Glob w) :
    Calls Tryd.prog 12 #[.agg (bV key), .int .u32 boot, .int .u64 seq, .slice a len cap, .int .i64 size] w fun e w' => ∃ b cap', e = .returned (.tuple #[.slice b (m + 22) cap', .bool true]) ∧ Bs w' b (m + 22) cap' (sealL key boot seq zs m) ∧ Below w.heap.size w w' := by
  have hz := hbs.length
  have hpl := length_padL zs m (by omega)
  have hpb := padL_bytes zs m hbs.bytes
  have hhl := headL_length boot seq
  have hhb := headL_bytes boot seq
  have hS := KK.start w key hg
  have hbs0 := hbs.below hS.bel
  subst hsz
  have hr0 : IntKind.i64.wrap ((m : Int) + 22 - 22) = (m : Int) := by rw [IntKind.wrap_i64]; omega
  have hn22 : ¬ (m : Int) + 22 < 22 := by omega
  go_enter Tryd.func12, Tryd.ntmps12
  go_wp2_with fail
  generalize (w.alloc (Obj.cells (bV key) 22)) = W0 at *
  refine (rhead_any boot seq W0 hb hs).mono ?_
  rintro e w2 ⟨rfl, hb2⟩
  have hS2 := hS.later hb2
  have hbs2 := hbs0.below hb2
  clear hb2 hS hbs0
  have hn2 := heap_alloc_new w2 (Obj.cells (bV (zL 12)) 35)
  obtain ⟨hH3, hb3, -⟩ := new12 w2 (headL boot seq)
  have hS3 := hS2.later hb3
  have hbs3 := hbs2.below hb3
  have hgh : w.heap.size < w2.heap.size := hS2.lt
  go_wp2_with (first
    | (refine wpList_newA (by rfl) 35 (by rfl) _ zero12 w2.heap.size rfl ?_)
    | (refine wpList_putA arrT12 (by rfl) _ _ (by rfl) w2.heap.size (bV (headL boot seq)) (by rfl) (by rfl) _ hn2 (by rw [bV_size, hhl]) (bV_size _) (bV_one _) ?_))
  generalize ((w2.alloc (Obj.cells (bV (zL 12)) 35)).setRow w2.heap.size (bV (headL boot seq))) = W3 at *
  clear hS2 hbs2 hb3 hn2
  generalize w2.heap.size = gh at *
  refine (rpad_ok m W3 hbs3 hl hm).mono ?_
  rintro e w4 ⟨a4, c4, rfl, hP4, hb4⟩
  clear hbs3
  have hsl := run_arr_all (P := Tryd.prog) Tryd.underlying35 Tryd.size_u8 gh
  have hS4 := hS3.later hb4
  have hH4 := hH3.below hb4
  obtain ⟨a5, c5, w5, hr5, ho5, hb5⟩ := run_append_fresh w4 (some ⟨gh, 0, none⟩) 12 12 _ (hH4.bs hhb 12 hhl (by omega)) (by omega)
  obtain ⟨a6, c6, w6, hr6, ho6, hb6⟩ := run_append_more w4.heap.size w4 w5 a5 12 c5 _ ho5 hb5 (Nat.le_refl _) a4 (2 + m) c4 _ (hP4.bs.below hb5) (by omega)
  have hP6 := hP4.below hb6
  have hb6' := hb4.trans (hb6.mono hb4.size)
  have hw1 := fnv_word (headL boot seq ++ padL zs m)
  have hB6 := ho6.bs
  clear ho5 hb5 ho6 hb6 hP4 hb4
  go_wp2_with (first
    | (at_builtin; refine wpList_append_run (by rfl) (.tmp 32) (.tmp 33) 25 (by rfl) _ _ _ _ (by rfl) (by rfl) hr5 ?_)
    | (at_builtin; refine wpList_append_run (by rfl) (.tmp 34) (.tmp 35) 25 (by rfl) _ _ _ _ (by rfl) (by rfl) hr6 ?_))
  clear hr5 hr6 hS4 hH4
  refine (rsum_any w6 hB6).mono ?_
  rintro e w6' ⟨rfl, rfl⟩
  go_wp2_with fail
  refine (rput_ok _ 8 w6 hw1 (by omega)).mono ?_
  rintro e w7 ⟨a7, c7, rfl, hO7, hb7⟩
  have hP7 := hP6.below hb7
  have hb7' := hb6'.trans (hb7.mono hb6'.size)
  obtain ⟨a8, c8, w8, hr8, ho8, hb8⟩ := run_append_more W3.heap.size W3 w7 a4 (2 + m) c4 _ hP7 hb7' (Nat.le_refl _) a7 8 c7 _ hO7.bs (by omega)
  have hS8 := hS3.later hb8
  have hH8 := hH3.below hb8
  have hB8 : Bs w8 a8 (2 + m + 8) c8 (bodyL (headL boot seq) (padL zs m)) := ho8.bs
  clear hO7 hP6 hP7 hb6' hb7 hb7' ho8 hb8 hS3 hH3 hB6
  have kk := hS8.kk
  go_wp2_with (first
    | (at_builtin; refine wpList_append_run (by rfl) (.tmp 31) (.tmp 38) 25 (by rfl) _ _ _ _ (by rfl) (by rfl) hr8 ?_)
    | (refine wpList_loadA arrT32 (by rfl) _ (by rfl) w.heap.size (by rfl) (bV key) kk (by rw [bV_size, hkl]) ?_)
    | (refine wpList_loadA arrT12 (by rfl) _ (by rfl) gh (by rfl) (bV (headL boot seq)) hH8 (by rw [bV_size, hhl]) ?_))
  clear hr8
  refine (rxor_ok key (headL boot seq) 0 w8 hk hkl hhb hhl hB8 (by omega) (fits_zero _ (by omega)) hS8.gl).mono ?_
  rintro e w9 ⟨b9, c9, rfl, hB9, hb9⟩
  have hS9 := hS8.later hb9
  have hH9 := hH8.below hb9
  clear hS8 hH8 hB8 hb9 kk
  obtain ⟨a5, c5, w5, hr5, ho5, hb5⟩ := run_append_fresh w9 (some ⟨gh, 0, none⟩) 12 12 _ (hH9.bs hhb 12 hhl (by omega)) (by omega)
  obtain ⟨a6, c6, w6, hr6, ho6, hb6⟩ := run_append_more w9.heap.size w9 w5 a5 12 c5 _ ho5 hb5 (Nat.le_refl _) b9 (2 + m + 8) c9 _ (hB9.below hb5) (by omega)
  have hS6 := hS9.later hb6
  have hB6 := ho6.bs
  rw [show 12 + (2 + m + 8) = m + 22 by omega] at hr6 hB6
  clear ho5 hb5 ho6 hb6 hS9 hH9 hB9
  go_wp2_with (first
    | (at_builtin; refine wpList_append_run (by rfl) (.tmp 47) (.tmp 48) 25 (by rfl) _ _ _ _ (by rfl) (by rfl) hr5 ?_)
    | (at_builtin; refine wpList_append_run (by rfl) (.tmp 49) (.tmp 50) 25 (by rfl) _ _ _ _ (by rfl) (by rfl) hr6 ?_))
  go_ret2
  exact ⟨_, _, rfl, hB6, hS6.bel⟩
#print axioms rseal_ok

set_option maxHeartbeats 1000000 in
theorem rseal_no (key : List Int) (boot seq size : Int) {a : Option Addr} {len cap : Nat} (w : World) (hb : 0 ≤ boot ∧ boot < 4294967296) (hs : 0 ≤ seq ∧ seq < 18446744073709551616) (hsz : -9223372036854775808 ≤ size ∧ size ≤ 9223372036854775807) (hl : len ≤ 9223372036854775807) (h : size < 22 ∨ 60022 < size ∨ size < (len : Int) + 22) :
    Calls Tryd.prog 12 #[.agg (bV key), .int .u32 boot, .int .u64 seq, .slice a len cap, .int .i64 size] w fun e w' => e = .returned (.tuple #[.slice none 0 0, .bool false]) ∧ Below w.heap.size w w' := by
  have hb0 := below_alloc (Below.refl w.heap.size w) (Obj.cells (bV key) 22)
  by_cases h22 : size < 22
  · go_enter Tryd.func12, Tryd.ntmps12
    go_wp2_with fail
    go_ret2
    exact ⟨rfl, hb0⟩
  · obtain ⟨r, hr⟩ : ∃ r, IntKind.i64.wrap (size - 22) = r := ⟨_, rfl⟩
    have hr2 : r < 0 ∨ 60000 < r ∨ r < (len : Int) := by
      rw [IntKind.wrap_i64] at hr
      omega
    have hhl := headL_length boot seq
    clear h
    go_enter Tryd.func12, Tryd.ntmps12
    go_wp2_with fail
    generalize (w.alloc (Obj.cells (bV key) 22)) = W0 at *
    refine (rhead_any boot seq W0 hb hs).mono ?_
    rintro e w2 ⟨rfl, hb2⟩
    have hn2 := heap_alloc_new w2 (Obj.cells (bV (zL 12)) 35)
    obtain ⟨hH3, hb3, -⟩ := new12 w2 (headL boot seq)
    have hbl := hb0.trans ((hb2.trans (hb3.mono hb2.size)).mono hb0.size)
    go_wp2_with (first
      | (refine wpList_newA (by rfl) 35 (by rfl) _ zero12 w2.heap.size rfl ?_)
      | (refine wpList_putA arrT12 (by rfl) _ _ (by rfl) w2.heap.size (bV (headL boot seq)) (by rfl) (by rfl) _ hn2 (by rw [bV_size, hhl]) (bV_size _) (bV_one _) ?_))
    generalize ((w2.alloc (Obj.cells (bV (zL 12)) 35)).setRow w2.heap.size (bV (headL boot seq))) = W3 at *
    refine (rpad_bad r W3 hr2 hl).mono ?_
    rintro e W3' ⟨rfl, rfl⟩
    go_wp2_with fail
    go_ret2
    exact ⟨rfl, hbl⟩
#print axioms rseal_no

section
variable {P : Program} {Q : Exit → Act → World → Prop} {md : Region.Mode} {R : World → World → Prop}
theorem wpOp_pass {l : List Oper} {fuel : Nat} {listed : Array Bool} {k : Nat} {o : Oper} {a : Act} {w : World} (ho : l[k]? = some o) (hw : Region.wanted o (yielded l.toArray a.tmps) = false) (hR : R w w)
    (h : wpR P md l.toArray Q R fuel (listed.setIfInBounds k true) (a.put o.dst undef) w) :
    wpOp P l.toArray Q k (fun a' w' => R w w' ∧ wpR P md l.toArray Q R fuel (listed.setIfInBounds k true) a' w') a w := by
  have ho' : l.toArray[k]? = some o := by simpa using ho
  unfold wpOp
  simp only [ho', hw, Bool.false_eq_true, if_false]
  exact ⟨hR, h⟩
theorem wpPre_pass {l : List Oper} {K : Act → World → Prop} {k : Nat} {rest : List Nat} {o : Oper} {a : Act} {w : World} (ho : l[k]? = some o)
    (hQ : ∀ c a w, Q (.panic c) (a.put o.dst undef) w → Q (.panic c) a w) (hw : Region.wanted o (yielded l.toArray a.tmps) = false)
    (h : wpPre P l.toArray Q R K rest (a.put o.dst undef) w) : wpPre P l.toArray Q R K (k :: rest) a w := by
  unfold wpPre
  have ho' : l.toArray[k]? = some o := by simpa using ho
  simp only [ho']
  exact ⟨undef, hQ, .inr ⟨hw, rfl⟩, h⟩
end

set_option maxRecDepth 100000 in
set_option maxHeartbeats 4000000 in
theorem ropen_any (key : List Int) {a : Option Addr} {len cap : Nat} {zs : List Int} (w : World) (hk : IsBytes key) (hkl : key.length = 32) (hb : Bs w a len cap zs) (hl : len ≤ 90022) (hg : Glob w) :
    Calls Tryd.prog 10 #[.agg (bV key), .slice a len cap] w fun e w' => Below w.heap.size w w' ∧
      ((∃ us a' c', openL key zs = some us ∧ e = .returned (.tuple #[.slice a' us.length c', .int .u32 (leNum (zs.take 4)), .int .u64 (leNum ((zs.take 12).drop 4)), .bool true]) ∧ Bs w' a' us.length c' us) ∨
       (openL key zs = none ∧ e = .returned noneV)) := by
  have hz := hb.length
  have hS := KK.start w key hg
  by_cases h22 : len < 22
  · have hop : openL key zs = none := by unfold openL; rw [if_pos (by omega)]
    go_enter Tryd.func10, Tryd.ntmps10
    go_wp2_with fail
    refine bodyPost_ret (results_tmp4 rfl _ _ _) rfl ?_
    exact ⟨hS.bel, .inr ⟨hop, rfl⟩⟩
  obtain ⟨n, rfl⟩ : ∃ n, len = n + 22 := ⟨len - 22, by omega⟩
  have hb0 := hb.below hS.bel
  have hHl : (zs.take 12).length = 12 := by simp; omega
  have hHb : IsBytes (zs.take 12) := hb.bytes.take 12
  have hcap := hb.le_cap
  have hr22 : ¬ ((n + 22 : Nat) : Int) < 22 := by omega
  have hct := fun w => cutTo hb .i64 12 12 rfl (by omega) w
  have hcf := fun w => cutFrom a (n + 22) cap .i64 12 12 (n + 10) rfl (by omega) (by omega) w
  go_enter Tryd.func10, Tryd.ntmps10
  have hn2 := heap_alloc_new (w.alloc (Obj.cells (bV key) 22)) (Obj.cells (bV (zL 12)) 35)
  have hb1 := below_alloc (Below.refl (w.alloc (Obj.cells (bV key) 22)).heap.size (w.alloc (Obj.cells (bV key) 22))) (Obj.cells (bV (zL 12)) 35)
  have hgh := hS.lt
  have hS1 := hS.later hb1
  simp only [size_alloc] at hn2 hgh
  go_wp2_with (refine wpList_newA (by rfl) 35 (by rfl) _ zero12 (w.heap.size + 1) (size_alloc _ _) ?_)
  have hb1' := hb0.below hb1
  generalize ((w.alloc (Obj.cells (bV key) 22)).alloc (Obj.cells (bV (zL 12)) 35)) = W1 at *
  clear hS hb1 hb0
  generalize w.heap.size + 1 = gh at *
  have hsl := run_arr_all (P := Tryd.prog) Tryd.underlying35 Tryd.size_u8 gh
  refine wp_region_ord 1000 [0, 1, 2, 3] (fun _ => True) (fun _ => True) (by kernel_rfl) (by kernel_rfl) (by kernel_rfl) trivial trivial (fun _ _ => ?_)
  replace hS1 := hS1.drew
  replace hb1' : Bs W1.drew a (n + 22) cap zs := ⟨hb1'.length, hb1'.le_cap, hb1'.cap_le, hb1'.bytes, hb1'.place⟩
  replace hn2 : OwnB 35 W1.drew gh (zL 12) := hn2
  generalize W1.drew = W2 at *
  repeat' (first
    | (refine wpOrd_quiet (v := ?_) rfl rfl (fun _ _ _ h => h) (by rfl) ?_ ?_
       rotate_left
       · (intro w' hT _; go_simp; try rfl)
       simp only [Act.put, List.setIfInBounds_toArray, List.set_cons_zero, List.set_cons_succ])
    | fail)
  obtain ⟨w3, hr3, hH3, ho3⟩ := run_copy_bytes (P := Tryd.prog) Tryd.underlying25 Tryd.size_u8 3 W2 (some ⟨gh, 0, none⟩) a 12 12 12 cap gh 0 12 (zL 12) _ hn2 (by omega) (.inr rfl) (hb1'.taken 12 (by omega)) (by rw [zL_length]; omega)
  rw [splice_all (zL 12) (zs.take 12) 12 (zL_length _) (by omega), List.take_take, Nat.min_self] at hH3
  have hS3 := hS1.only ho3 hgh
  clear hb1' hn2 ho3 hS1
  refine wpOrd_step rfl rfl (by rfl) (fun K' hK => ?_)
  go_simp
  refine hK.out _ _ trivial (fun h => absurd h (by decide)) (fun _ => ?_)
  clear hK K'
  try simp only [Act.put, List.setIfInBounds_toArray, List.set_cons_zero, List.set_cons_succ]
  clear hr3 hct
  refine wpOrd_nil ?_
  go_wp2_with fail
  refine wp_region_rel Kept [0, 1, 2, 3, 4, 5, 6, 7, 8, 9] (by kernel_rfl) (by kernel_rfl) (by kernel_rfl) Kept.refl Kept.trans ?_
  replace hS3 := hS3.drew
  replace hH3 : OwnB 35 w3.drew gh (zs.take 12) := hH3
  generalize w3.drew = W4 at *
  refine wpRel_loadA arrT32 rfl rfl _ rfl w.heap.size (bV key) (by rfl) (fun w' hR => hS3.kk.below hR) (by rw [bV_size, hkl]) (fun _ _ _ h => h) (by rfl) ?_
  try simp only [Act.put, List.setIfInBounds_toArray, List.set_cons_zero, List.set_cons_succ]
  refine wpRel_loadA arrT12 rfl rfl _ rfl gh (bV (zs.take 12)) (by rfl) (fun w' hR => hH3.below hR) (by rw [bV_size, hHl]) (fun _ _ _ h => h) (by rfl) ?_
  try simp only [Act.put, List.setIfInBounds_toArray, List.set_cons_zero, List.set_cons_succ]
  repeat' (first
    | (refine wpRel_quiet (v := ?_) rfl rfl (fun _ _ _ h => h) (by rfl) ?_ ?_
       rotate_left
       · (intro w' hR; go_simp; try rfl)
       simp only [Act.put, List.setIfInBounds_toArray, List.set_cons_zero, List.set_cons_succ])
    | fail)
  have hbc := (hb.below hS3.bel).cut 12 (by omega)
  rw [show n + 22 - 12 = n + 10 by omega] at hbc
  generalize cutA a cap 12 = r at *
  clear hcf hsl
  refine wpRel_step rfl rfl (by rfl) (fun K' hK => ?_)
  go_simp
  refine (rxor_ok key (zs.take 12) 0 W4 hk hkl hHb hHl hbc (by omega) (fits_zero _ (by omega)) hS3.gl).mono ?_
  rintro e w8 ⟨x8, c8, rfl, hB8, hb8⟩
  refine hK.out _ _ hb8 ?_
  clear hK K'
  try simp only [Act.put, List.setIfInBounds_toArray, List.set_cons_zero, List.set_cons_succ]
  have hS8 := hS3.later hb8
  have hH8 := hH3.below hb8
  clear hS3 hH3 hb8 hbc
  repeat' (first
    | (refine wpRel_quiet (v := ?_) rfl rfl (fun _ _ _ h => h) (by rfl) ?_ ?_
       rotate_left
       · (intro w' hR; go_simp; try rfl)
       simp only [Act.put, List.setIfInBounds_toArray, List.set_cons_zero, List.set_cons_succ])
    | fail)
  refine wpRel_nil ?_
  replace hB8 : Bs w8 x8 (n + 10) c8 (innerL key zs) := hB8
  have hil : (innerL key zs).length = n + 10 := by rw [innerL_length]; omega
  have hP8 := hB8.taken (n + 2) (by omega)
  have hT8 := hB8.cut (n + 2) (by omega)
  rw [show (innerL key zs).take (n + 2) = textL key zs by rw [textL, show zs.length - 20 = n + 2 by omega]] at hP8
  rw [show (innerL key zs).drop (n + 2) = tailL key zs by rw [tailL, show zs.length - 20 = n + 2 by omega], show n + 10 - (n + 2) = 8 by omega] at hT8
  have hc8 := hB8.le_cap
  have c3 := fun w => cutTo hB8 .i64 ((n : Int) + 2) (n + 2) (by omega) (by omega) w
  have c1 := fun w => cutFrom x8 (n + 10) c8 .i64 ((n : Int) + 2) (n + 2) 8 (by omega) (by omega) (by omega) w
  have hwr : IntKind.i64.wrap ((n : Int) + 10 - 8) = (n : Int) + 2 := by rw [IntKind.wrap_i64]; omega
  have hr : IntKind.i64.wrap (((n + 22 : Nat) : Int) - 22) = (n : Int) := by rw [IntKind.wrap_i64]; omega
  clear hil
  go_wp2_with fail
  refine (runpad_any (n : Int) w8 hP8).mono ?_
  rintro e w9 ⟨hb9, hu⟩
  have hS9 := hS8.later hb9
  have hH9 := hH8.below hb9
  have hP9 := hP8.below hb9
  have hT9 := hT8.below hb9
  have hsl := run_arr_all (P := Tryd.prog) Tryd.underlying35 Tryd.size_u8 gh
  have hsl4 := run_arr_to (P := Tryd.prog) Tryd.underlying35 Tryd.size_u8 gh .i64 4 4 rfl (by decide)
  have hsf4 := run_arr_from (P := Tryd.prog) Tryd.underlying35 Tryd.size_u8 gh .i64 4 4 rfl (by decide)
  have eq1 : leNum ((((zs.take 12).drop 0).take 4).take 8) = leNum (zs.take 4) := by simp [List.take_take]
  have eq2 : leNum ((((zs.take 12).drop 4).take 8).take 8) = leNum ((zs.take 12).drop 4) := by
    rw [List.take_of_length_le (l := ((zs.take 12).drop 4).take 8) (by simp; omega), List.take_of_length_le (by rw [List.length_drop, hHl]; omega)]
  have hw32 : IntKind.u32.wrap (leNum (zs.take 4)) = leNum (zs.take 4) := by
    have := leNum4_lt (zs.take 4) (hb.bytes.take 4) (by simp; omega)
    rw [IntKind.wrap_u32']; omega
  obtain ⟨V1, hV1⟩ : ∃ V, leNum ((tailL key zs).take 8) = V := ⟨_, rfl⟩
  obtain ⟨V2, hV2⟩ : ∃ V, fnv (zs.take 12 ++ textL key zs) = V := ⟨_, rfl⟩
  have hV1' : leNum (tailL key zs) = V1 := by rw [← hV1, List.take_of_length_le (by rw [tailL_length _ _ (by omega)]; omega)]
  have hopS : V1 = V2 → openL key zs = unpadL (textL key zs) (n : Int) := fun h => by
    unfold openL sumOk
    rw [if_neg (by omega), hV1', hV2, if_pos (by rw [decide_eq_true_eq]; exact h), show zs.length - 22 = n by omega]
  have hopN : ¬ V1 = V2 → openL key zs = none := fun h => by
    unfold openL sumOk
    rw [if_neg (by omega), hV1', hV2, if_neg (by rw [decide_eq_true_eq]; exact h)]
  clear hV1' hS8 hH8 hP8 hT8 hb9 hB8
  rcases hu with ⟨us, a9, c9, hu, rfl, hO9⟩ | ⟨hu, rfl⟩
  · have hO9 := hO9.bs
    go_wp2_with fail
    clear c3
    obtain ⟨B, hB⟩ : ∃ B, w9.heap.size = B := ⟨_, rfl⟩
    refine wp_region_pre (Below B) [0, 1, 2, 3, 4, 5, 6, 7, 10, 12] 7 (by kernel_rfl) (by kernel_rfl) (by kernel_rfl) (Below.refl B) (fun _ _ _ => Below.trans) ?_
    have hd := (Below.refl w9.heap.size w9).drew
    replace hS9 := hS9.drew
    replace hH9 := hH9.below hd
    replace hP9 := hP9.below hd
    replace hT9 := hT9.below hd
    replace hO9 := hO9.below hd
    replace hB : w9.drew.heap.size = B := hB
    clear hd
    generalize w9.drew = W9 at *
    subst hB
    repeat' (first
      | (refine wpPre_quiet (v := ?_) rfl (fun _ _ _ h => h) (by rfl) ?_ ?_
         rotate_left
         · (intro w' hR; go_simp; try rfl)
         simp only [Act.put, List.setIfInBounds_toArray, List.set_cons_zero, List.set_cons_succ])
      | fail)
    refine wpPre_nil ?_
    clear c1 hwr hr
    refine wpR_two 8 9 (by kernel_rfl) ?_ ?_
    ·
      refine wpOp_go rfl (by rfl) (fun K' hK => ?_)
      go_simp
      refine (rget_any W9 hT9).mono ?_
      rintro e W9' ⟨rfl, rfl⟩
      rw [hV1]
      refine hK.out _ _ (Below.refl _ _) ?_
      clear hK K'
      try simp only [Act.put, List.setIfInBounds_toArray, List.set_cons_zero, List.set_cons_succ]
      refine wpR_ord [9, 11, 13, 14, 15, 16] (by kernel_rfl) (by kernel_rfl) (Below.refl _) (fun _ _ _ => Below.trans) ?_
      refine wpRel_step rfl rfl (by rfl) (fun K' hK => ?_)
      go_simp
      have hb10 : Below W9.heap.size W9 (W9.alloc (Obj.cells #[] 5)) := Below.alloc (Below.refl _ _) (by omega) _
      refine hK.out _ _ hb10 ?_
      clear hK K'
      try simp only [Act.put, List.setIfInBounds_toArray, List.set_cons_zero, List.set_cons_succ]
      have hEm : Bs (W9.alloc (Obj.cells #[] 5)) (some ⟨W9.heap.size, 0, none⟩) 0 0 [] := (show OwnB 5 (W9.alloc (Obj.cells #[] 5)) W9.heap.size [] from heap_alloc_new W9 (Obj.cells #[] 5)).bs IsBytes.nil 0 rfl (by omega)
      have hS10 := hS9.later (below_alloc (Below.refl _ _) (Obj.cells #[] 5))
      have hH10 := hH9.below (below_alloc (Below.refl _ _) (Obj.cells #[] 5))
      have hP10 := hP9.below (below_alloc (Below.refl _ _) (Obj.cells #[] 5))
      have hT10 := hT9.below (below_alloc (Below.refl _ _) (Obj.cells #[] 5))
      have hO10 := hO9.below (below_alloc (Below.refl _ _) (Obj.cells #[] 5))
      have hBle : W9.heap.size ≤ (W9.alloc (Obj.cells #[] 5)).heap.size := by rw [size_alloc]; omega
      clear hS9 hH9 hP9 hT9 hO9 hb10
      generalize (W9.alloc (Obj.cells #[] 5)) = W10 at *
      obtain ⟨c11, w11, hr11, ho11, hb11⟩ := run_append_new (P := Tryd.prog) Tryd.underlying25 Tryd.info_u8 25 W10 (some ⟨W9.heap.size, 0, none⟩) 0 0 [] hEm (some ⟨gh, 0, none⟩) 12 12 _ (hH10.bs hHb 12 hHl (by omega)) (fun h => by cases h) (by omega) (by omega)
      simp only [Nat.zero_add, List.nil_append] at hr11 ho11
      have hb11' := hb11.mono (show W9.heap.size ≤ W10.heap.size by omega)
      refine wpRel_step rfl rfl (by rfl) (fun K' hK => ?_)
      refine wp_append_run (.tmp 53) (.tmp 54) 25 (by rfl) _ _ _ (by rfl) (by rfl) hr11 ?_
      refine hK.out _ _ hb11' ?_
      clear hK K'
      try simp only [Act.put, List.setIfInBounds_toArray, List.set_cons_zero, List.set_cons_succ]
      have hS11 := hS10.later hb11
      have hH11 := hH10.below hb11
      have hP11 := hP10.below hb11
      have hO11 := hO10.below hb11
      obtain ⟨a12, c12, w12, hr12, ho12, hb12⟩ := run_append_more W10.heap.size w11 w11 _ 12 c11 _ ho11 (Below.refl _ _) hb11.size x8 (n + 2) c8 _ hP11 (by omega)
      have hb12' := hb12.mono (show W9.heap.size ≤ W10.heap.size by omega)
      refine wpRel_step rfl rfl (by rfl) (fun K' hK => ?_)
      refine wp_append_run (.tmp 55) (.tmp 56) 25 (by rfl) _ _ _ (by rfl) (by rfl) hr12 ?_
      refine hK.out _ _ hb12' ?_
      clear hK K'
      try simp only [Act.put, List.setIfInBounds_toArray, List.set_cons_zero, List.set_cons_succ]
      have hb13 := hb11.trans hb12
      have hS12 := hS10.later hb13
      have hH12 := hH10.below hb13
      have hO12 := hO10.below hb13
      have hB12 := ho12.bs
      clear hS11 hH11 hP11 hO11 hS10 hH10 hP10 hO10 hb11 hb12 hb11' hb12' hb13 hr11 hr12 ho11 ho12 hEm
      refine wpRel_step rfl rfl (by rfl) (fun K' hK => ?_)
      go_simp
      refine (rsum_any w12 hB12).mono ?_
      rintro e w12' ⟨rfl, rfl⟩
      rw [hV2]
      refine hK.out _ _ (Below.refl _ _) ?_
      clear hK K'
      try simp only [Act.put, List.setIfInBounds_toArray, List.set_cons_zero, List.set_cons_succ]
      clear hB12
      by_cases hq : V1 = V2
      · have hop := hopS hq
        clear hopS hopN
        rw [hu] at hop
        subst hq
        repeat' (first
          | (refine wpRel_quiet (v := ?_) rfl rfl (fun _ _ _ h => h) (by rfl) ?_ ?_
             rotate_left
             · (intro w' hR; go_simp; try rfl)
             simp only [Act.put, List.setIfInBounds_toArray, List.set_cons_zero, List.set_cons_succ])
          | fail)
        refine wpRel_nil ?_
        go_wp2_with fail
        refine wp_region_rel Kept [0, 1, 4, 2, 3, 5, 6, 7, 8, 9] (by kernel_rfl) (by kernel_rfl) (by kernel_rfl) Kept.refl Kept.trans ?_
        have hd := (Below.refl w12.heap.size w12).drew
        replace hS12 := hS12.drew
        replace hH12 := hH12.below hd
        replace hO12 := hO12.below hd
        clear hd
        generalize w12.drew = W12 at *
        repeat' (first
          | (refine wpRel_quiet (v := ?_) rfl rfl (fun _ _ _ h => h) (by rfl) ?_ ?_
             rotate_left
             · (intro w' hR; go_simp; try rfl)
             simp only [Act.put, List.setIfInBounds_toArray, List.set_cons_zero, List.set_cons_succ])
          | fail)
        refine wpRel_step rfl rfl (by rfl) (fun K' hK => ?_)
        go_simp
        refine (rget_any W12 (hH12.bsAt hHb 0 4 12 (by rw [hHl]; omega) (by omega) (by omega))).mono ?_
        rintro e W12' ⟨rfl, rfl⟩
        rw [eq1]
        refine hK.out _ _ (Kept.refl _) ?_
        clear hK K'
        try simp only [Act.put, List.setIfInBounds_toArray, List.set_cons_zero, List.set_cons_succ]
        repeat' (first
          | (refine wpRel_quiet (v := ?_) rfl rfl (fun _ _ _ h => h) (by rfl) ?_ ?_
             rotate_left
             · (intro w' hR; go_simp; try rfl)
             simp only [Act.put, List.setIfInBounds_toArray, List.set_cons_zero, List.set_cons_succ])
          | fail)
        refine wpRel_step rfl rfl (by rfl) (fun K' hK => ?_)
        go_simp
        refine (rget_any W12 (hH12.bsAt hHb 4 8 8 (by rw [hHl]; omega) (by omega) (by omega))).mono ?_
        rintro e W12' ⟨rfl, rfl⟩
        rw [eq2]
        refine hK.out _ _ (Kept.refl _) ?_
        clear hK K'
        try simp only [Act.put, List.setIfInBounds_toArray, List.set_cons_zero, List.set_cons_succ]
        repeat' (first
          | (refine wpRel_quiet (v := ?_) rfl rfl (fun _ _ _ h => h) (by rfl) ?_ ?_
             rotate_left
             · (intro w' hR; go_simp; try rfl)
             simp only [Act.put, List.setIfInBounds_toArray, List.set_cons_zero, List.set_cons_succ])
          | fail)
        refine wpRel_nil ?_
        go_wp2_with fail
        refine bodyPost_ret (results_tmp4 rfl _ _ _) rfl ?_
        exact ⟨hS12.bel, .inl ⟨us, a9, c9, hop, rfl, hO12⟩⟩
      · have hop := hopN hq
        clear hopS hopN
        repeat' (first
          | (refine wpRel_quiet (v := ?_) rfl rfl (fun _ _ _ h => h) (by rfl) ?_ ?_
             rotate_left
             · (intro w' hR; go_simp; try rfl)
             simp only [Act.put, List.setIfInBounds_toArray, List.set_cons_zero, List.set_cons_succ])
          | fail)
        refine wpRel_nil ?_
        go_wp2_with fail
        refine bodyPost_ret (results_tmp4 rfl _ _ _) rfl ?_
        exact ⟨hS12.bel, .inr ⟨hop, rfl⟩⟩
    · refine wpOp_go rfl (by rfl) (fun K' hK => ?_)
      go_simp
      have hb10 : Below W9.heap.size W9 (W9.alloc (Obj.cells #[] 5)) := Below.alloc (Below.refl _ _) (by omega) _
      refine hK.out _ _ hb10 ?_
      clear hK K'
      try simp only [Act.put, List.setIfInBounds_toArray, List.set_cons_zero, List.set_cons_succ]
      have hEm : Bs (W9.alloc (Obj.cells #[] 5)) (some ⟨W9.heap.size, 0, none⟩) 0 0 [] := (show OwnB 5 (W9.alloc (Obj.cells #[] 5)) W9.heap.size [] from heap_alloc_new W9 (Obj.cells #[] 5)).bs IsBytes.nil 0 rfl (by omega)
      have hS10 := hS9.later (below_alloc (Below.refl _ _) (Obj.cells #[] 5))
      have hH10 := hH9.below (below_alloc (Below.refl _ _) (Obj.cells #[] 5))
      have hP10 := hP9.below (below_alloc (Below.refl _ _) (Obj.cells #[] 5))
      have hT10 := hT9.below (below_alloc (Below.refl _ _) (Obj.cells #[] 5))
      have hO10 := hO9.below (below_alloc (Below.refl _ _) (Obj.cells #[] 5))
      have hBle : W9.heap.size ≤ (W9.alloc (Obj.cells #[] 5)).heap.size := by rw [size_alloc]; omega
      clear hS9 hH9 hP9 hT9 hO9 hb10
      generalize (W9.alloc (Obj.cells #[] 5)) = W10 at *
      refine wpR_ord [8, 11, 13, 14, 15, 16] (by kernel_rfl) (by kernel_rfl) (Below.refl _) (fun _ _ _ => Below.trans) ?_
      refine wpRel_step rfl rfl (by rfl) (fun K' hK => ?_)
      go_simp
      refine (rget_any W10 hT10).mono ?_
      rintro e W10' ⟨rfl, rfl⟩
      rw [hV1]
      refine hK.out _ _ (Below.refl _ _) ?_
      clear hK K'
      try simp only [Act.put, List.setIfInBounds_toArray, List.set_cons_zero, List.set_cons_succ]
      obtain ⟨c11, w11, hr11, ho11, hb11⟩ := run_append_new (P := Tryd.prog) Tryd.underlying25 Tryd.info_u8 25 W10 (some ⟨W9.heap.size, 0, none⟩) 0 0 [] hEm (some ⟨gh, 0, none⟩) 12 12 _ (hH10.bs hHb 12 hHl (by omega)) (fun h => by cases h) (by omega) (by omega)
      simp only [Nat.zero_add, List.nil_append] at hr11 ho11
      have hb11' := hb11.mono (show W9.heap.size ≤ W10.heap.size by omega)
      refine wpRel_step rfl rfl (by rfl) (fun K' hK => ?_)
      refine wp_append_run (.tmp 53) (.tmp 54) 25 (by rfl) _ _ _ (by rfl) (by rfl) hr11 ?_
      refine hK.out _ _ hb11' ?_
      clear hK K'
      try simp only [Act.put, List.setIfInBounds_toArray, List.set_cons_zero, List.set_cons_succ]
      have hS11 := hS10.later hb11
      have hH11 := hH10.below hb11
      have hP11 := hP10.below hb11
      have hO11 := hO10.below hb11
      obtain ⟨a12, c12, w12, hr12, ho12, hb12⟩ := run_append_more W10.heap.size w11 w11 _ 12 c11 _ ho11 (Below.refl _ _) hb11.size x8 (n + 2) c8 _ hP11 (by omega)
      have hb12' := hb12.mono (show W9.heap.size ≤ W10.heap.size by omega)
      refine wpRel_step rfl rfl (by rfl) (fun K' hK => ?_)
      refine wp_append_run (.tmp 55) (.tmp 56) 25 (by rfl) _ _ _ (by rfl) (by rfl) hr12 ?_
      refine hK.out _ _ hb12' ?_
      clear hK K'
      try simp only [Act.put, List.setIfInBounds_toArray, List.set_cons_zero, List.set_cons_succ]
      have hb13 := hb11.trans hb12
      have hS12 := hS10.later hb13
      have hH12 := hH10.below hb13
      have hO12 := hO10.below hb13
      have hB12 := ho12.bs
      clear hS11 hH11 hP11 hO11 hS10 hH10 hP10 hO10 hb11 hb12 hb11' hb12' hb13 hr11 hr12 ho11 ho12 hEm
      refine wpRel_step rfl rfl (by rfl) (fun K' hK => ?_)
      go_simp
      refine (rsum_any w12 hB12).mono ?_
      rintro e w12' ⟨rfl, rfl⟩
      rw [hV2]
      refine hK.out _ _ (Below.refl _ _) ?_
      clear hK K'
      try simp only [Act.put, List.setIfInBounds_toArray, List.set_cons_zero, List.set_cons_succ]
      clear hB12
      by_cases hq : V1 = V2
      · have hop := hopS hq
        clear hopS hopN
        rw [hu] at hop
        subst hq
        repeat' (first
          | (refine wpRel_quiet (v := ?_) rfl rfl (fun _ _ _ h => h) (by rfl) ?_ ?_
             rotate_left
             · (intro w' hR; go_simp; try rfl)
             simp only [Act.put, List.setIfInBounds_toArray, List.set_cons_zero, List.set_cons_succ])
          | fail)
        refine wpRel_nil ?_
        go_wp2_with fail
        refine wp_region_rel Kept [0, 1, 4, 2, 3, 5, 6, 7, 8, 9] (by kernel_rfl) (by kernel_rfl) (by kernel_rfl) Kept.refl Kept.trans ?_
        have hd := (Below.refl w12.heap.size w12).drew
        replace hS12 := hS12.drew
        replace hH12 := hH12.below hd
        replace hO12 := hO12.below hd
        clear hd
        generalize w12.drew = W12 at *
        repeat' (first
          | (refine wpRel_quiet (v := ?_) rfl rfl (fun _ _ _ h => h) (by rfl) ?_ ?_
             rotate_left
             · (intro w' hR; go_simp; try rfl)
             simp only [Act.put, List.setIfInBounds_toArray, List.set_cons_zero, List.set_cons_succ])
          | fail)
        refine wpRel_step rfl rfl (by rfl) (fun K' hK => ?_)
        go_simp
        refine (rget_any W12 (hH12.bsAt hHb 0 4 12 (by rw [hHl]; omega) (by omega) (by omega))).mono ?_
        rintro e W12' ⟨rfl, rfl⟩
        rw [eq1]
        refine hK.out _ _ (Kept.refl _) ?_
        clear hK K'
        try simp only [Act.put, List.setIfInBounds_toArray, List.set_cons_zero, List.set_cons_succ]
        repeat' (first
          | (refine wpRel_quiet (v := ?_) rfl rfl (fun _ _ _ h => h) (by rfl) ?_ ?_
             rotate_left
             · (intro w' hR; go_simp; try rfl)
             simp only [Act.put, List.setIfInBounds_toArray, List.set_cons_zero, List.set_cons_succ])
          | fail)
        refine wpRel_step rfl rfl (by rfl) (fun K' hK => ?_)
        go_simp
        refine (rget_any W12 (hH12.bsAt hHb 4 8 8 (by rw [hHl]; omega) (by omega) (by omega))).mono ?_
        rintro e W12' ⟨rfl, rfl⟩
        rw [eq2]
        refine hK.out _ _ (Kept.refl _) ?_
        clear hK K'
        try simp only [Act.put, List.setIfInBounds_toArray, List.set_cons_zero, List.set_cons_succ]
        repeat' (first
          | (refine wpRel_quiet (v := ?_) rfl rfl (fun _ _ _ h => h) (by rfl) ?_ ?_
             rotate_left
             · (intro w' hR; go_simp; try rfl)
             simp only [Act.put, List.setIfInBounds_toArray, List.set_cons_zero, List.set_cons_succ])
          | fail)
        refine wpRel_nil ?_
        go_wp2_with fail
        refine bodyPost_ret (results_tmp4 rfl _ _ _) rfl ?_
        exact ⟨hS12.bel, .inl ⟨us, a9, c9, hop, rfl, hO12⟩⟩
      · have hop := hopN hq
        clear hopS hopN
        repeat' (first
          | (refine wpRel_quiet (v := ?_) rfl rfl (fun _ _ _ h => h) (by rfl) ?_ ?_
             rotate_left
             · (intro w' hR; go_simp; try rfl)
             simp only [Act.put, List.setIfInBounds_toArray, List.set_cons_zero, List.set_cons_succ])
          | fail)
        refine wpRel_nil ?_
        go_wp2_with fail
        refine bodyPost_ret (results_tmp4 rfl _ _ _) rfl ?_
        exact ⟨hS12.bel, .inr ⟨hop, rfl⟩⟩
  · have hop : openL key zs = none := by
      by_cases hq : V1 = V2
      · rw [hopS hq, hu]
      · exact hopN hq
    clear hopS hopN hu hsl hsl4 hsf4 c3 c1 hwr hr
    go_wp2_with fail
    refine wp_region_pre Kept [0, 1, 2, 3, 4, 5, 6, 7, 10, 12] 7 (by kernel_rfl) (by kernel_rfl) (by kernel_rfl) Kept.refl Kept.trans ?_
    replace hS9 := hS9.drew
    generalize w9.drew = W9 at *
    repeat' (first
      | (refine wpPre_quiet (v := ?_) rfl (fun _ _ _ h => h) (by rfl) ?_ ?_
         rotate_left
         · (intro w' hR; go_simp; try rfl)
         simp only [Act.put, List.setIfInBounds_toArray, List.set_cons_zero, List.set_cons_succ])
      | fail)
    repeat' (first
      | (refine wpPre_pass rfl (fun _ _ _ h => h) (by rfl) ?_
         simp only [Act.put, List.setIfInBounds_toArray, List.set_cons_zero, List.set_cons_succ])
      | fail)
    refine wpPre_nil ?_
    refine wpR_two 8 9 (by kernel_rfl) ?_ ?_
    · refine wpOp_pass rfl (by rfl) (Kept.refl _) ?_
      refine wpR_ord [9, 11, 13, 14, 15, 16] (by kernel_rfl) (by kernel_rfl) Kept.refl Kept.trans ?_
      try simp only [Act.put, List.setIfInBounds_toArray, List.set_cons_zero, List.set_cons_succ]
      repeat' (first
        | (refine wpRel_pass rfl (fun _ _ _ h => h) (by rfl) (Kept.refl _) ?_
           simp only [Act.put, List.setIfInBounds_toArray, List.set_cons_zero, List.set_cons_succ])
        | fail)
      repeat' (first
        | (refine wpRel_quiet (v := ?_) rfl rfl (fun _ _ _ h => h) (by rfl) ?_ ?_
           rotate_left
           · (intro w' hR; go_simp; try rfl)
           simp only [Act.put, List.setIfInBounds_toArray, List.set_cons_zero, List.set_cons_succ])
        | fail)
      refine wpRel_nil ?_
      go_wp2_with fail
      refine bodyPost_ret (results_tmp4 rfl _ _ _) rfl ?_
      exact ⟨hS9.bel, .inr ⟨hop, rfl⟩⟩
    · refine wpOp_pass rfl (by rfl) (Kept.refl _) ?_
      refine wpR_ord [8, 11, 13, 14, 15, 16] (by kernel_rfl) (by kernel_rfl) Kept.refl Kept.trans ?_
      try simp only [Act.put, List.setIfInBounds_toArray, List.set_cons_zero, List.set_cons_succ]
      repeat' (first
        | (refine wpRel_pass rfl (fun _ _ _ h => h) (by rfl) (Kept.refl _) ?_
           simp only [Act.put, List.setIfInBounds_toArray, List.set_cons_zero, List.set_cons_succ])
        | fail)
      repeat' (first
        | (refine wpRel_quiet (v := ?_) rfl rfl (fun _ _ _ h => h) (by rfl) ?_ ?_
           rotate_left
           · (intro w' hR; go_simp; try rfl)
           simp only [Act.put, List.setIfInBounds_toArray, List.set_cons_zero, List.set_cons_succ])
        | fail)
      refine wpRel_nil ?_
      go_wp2_with fail
      refine bodyPost_ret (results_tmp4 rfl _ _ _) rfl ?_
      exact ⟨hS9.bel, .inr ⟨hop, rfl⟩⟩
#print axioms ropen_any
end Go.Proofs.YthhaeiafgloacaaDoor
