/- What a call of seal.Open does: for every key and every row of bytes up to a bound; nothing that was there is turned. -/
import Derived.Test.YthhaeiafgloacaaDoorSSeal
import Derived.Deep.MidRow
namespace Go.Proofs.YthhaeiafgloacaaDoor
open Go.RowKit

/-- '[n]byte(b)': the row's address, where it is long enough. -/
theorem wpList_arrPtr {P : Program} {ops : Array Oper} {rest : List Oper} {o : Oper} {a : Act} {w : World} {Q : Exit → Act → World → Prop} (hw : Region.wanted o (yielded ops a.tmps) = true) (ty : TypeId) (x : Operand) (hop : o.op = .sliceToArrayPointer ty x) (n : Nat) (E : TypeId) (hu : P.underlying ty = some (.array n E)) (p : Option Addr) (len cap : Nat) (hx : a.eval x = .slice p len cap) (hl : n ≤ len)
    (h : wpList P ops Q rest (a.put o.dst (.pointer p)) w) : wpList P ops Q (o :: rest) a w := by
  refine wpList_step fun K hK => ?_
  rw [if_pos hw]
  unfold Oper.wp execOp
  simp [hop, hx, Instr.arrayAt, underlying, hu, show ¬ len < n by omega, Result.andThen]
  exact hK _ _ h

theorem Bs.range {w : World} {b off len cap : Nat} {zs : List Int} (h : Bs w (some ⟨b, off, none⟩) len cap zs) (k : Nat) (h0 : 0 < len) (hk : k ≤ len) : w.rangeAt b off ((zs.take k).map (Value.int .u8)) := by
  rcases h.place with hc | ⟨b', off', e, hc⟩
  · have := h.le_cap; omega
  · cases e
    intro j v hv
    rw [List.getElem?_map, Option.map_eq_some_iff] at hv
    obtain ⟨z, hz1, rfl⟩ := hv
    have hj : j < k := by have := (List.getElem?_eq_some_iff.1 hz1).1; simp at this; omega
    rw [hc j (by omega)]
    rw [List.getElem?_take_of_lt hj] at hz1
    simp [List.getD, hz1]

theorem cutTail (g n : Nat) (i : Int) (hi : i = ((n + 2 : Nat) : Int)) (w : World) : (Instr.slice 25 (.slice (some ⟨g, 0, none⟩) (n + 10) (n + 10)) (some (.int .i64 i)) none none).run Tryd.prog w = .ok (.slice (some ⟨g, n + 2, none⟩) 8 8) w := by
  have e : cutA (some ⟨g, 0, none⟩) (n + 10) (n + 2) = some ⟨g, n + 2, none⟩ := by rw [cutA, if_neg (by omega)]; simp [addr_add]
  rw [cutFrom _ _ _ .i64 i (n + 2) 8 hi (by omega) (by omega), e, show n + 10 - (n + 2) = 8 by omega]

/-- What Open answers of what is none. -/
def noneV : Value := .tuple #[.slice none 0 0, .int .u32 0, .int .u64 0, .bool false]

set_option maxHeartbeats 1000000 in
theorem open_short (key : List Int) {a : Option Addr} {len cap : Nat} (w : World) (hl : len < 22) :
    Calls Tryd.prog 9 #[.agg (bV key), .slice a len cap] w fun e w' => e = .returned noneV ∧ Below w.heap.size w w' := by
  have hb0 := below_alloc (Below.refl w.heap.size w) (Obj.cells (bV key) 22)
  have hr : IntKind.i64.wrap ((len : Int) - 22) = (len : Int) - 22 := by rw [IntKind.wrap_i64]; omega
  have hneg : (len : Int) - 22 < 0 := by omega
  go_enter Tryd.func9, Tryd.ntmps9
  go_wp2_with fail
  generalize (w.alloc (Obj.cells (bV key) 22)) = W0 at *
  refine (room_any _ ((len : Int) - 22) W0 hr).mono ?_
  rintro e W0' ⟨rfl, rfl⟩
  go_wp2_with fail
  refine bodyPost_ret (results_tmp4 rfl _ _ _) rfl ?_
  exact ⟨rfl, hb0⟩
#print axioms open_short

set_option maxRecDepth 100000 in
set_option maxHeartbeats 4000000 in
theorem open_long (key : List Int) {a : Option Addr} {cap : Nat} {zs : List Int} (n : Nat) (w : World) (hk : IsBytes key) (hkl : key.length = 32) (hb : Bs w a (n + 22) cap zs) (hn : n ≤ 90000) (hg : Glob w) :
    Calls Tryd.prog 9 #[.agg (bV key), .slice a (n + 22) cap] w fun e w' => Below w.heap.size w w' ∧
      ((∃ us g, openL key zs = some us ∧ e = .returned (.tuple #[.slice (some ⟨g, 0, none⟩) us.length us.length, .int .u32 (leNum (zs.take 4)), .int .u64 (leNum ((zs.take 12).drop 4)), .bool true]) ∧ w.heap.size ≤ g ∧ OwnB 5 w' g us) ∨
       (openL key zs = none ∧ e = .returned noneV)) := by
  have hz := hb.length
  have hS := KK.start w key hg
  have hb0 := hb.below hS.bel
  obtain ⟨b, off, rfl⟩ : ∃ b off, a = some ⟨b, off, none⟩ := by
    rcases hb.place with h0 | ⟨b, off, rfl, _⟩
    · have := hb.le_cap; omega
    · exact ⟨b, off, rfl⟩
  have hHl : (zs.take 12).length = 12 := by simp; omega
  have hHb : IsBytes (zs.take 12) := hb.bytes.take 12
  have hszL : (Tryd.prog.info? 35).map (·.size) = some ((zs.take 12).map (Value.int .u8)).length := by rw [List.length_map, hHl]; exact info_b12
  have hr : IntKind.i64.wrap (((n + 22 : Nat) : Int) - 22) = (n : Int) := by rw [IntKind.wrap_i64]; omega
  have hcap := hb.le_cap
  have hneg : ¬ (n : Int) < 0 := by omega
  have hct := fun w => cutTo hb .i64 12 12 rfl (by omega) w
  have hcf := fun w => cutFrom (some ⟨b, off, none⟩) (n + 22) cap .i64 12 12 (n + 10) rfl (by omega) (by omega) w
  have hrg := hb0.range 12 (by omega) (by omega)
  have hn2 := heap_alloc_new (w.alloc (Obj.cells (bV key) 22)) (Obj.cells (bV (zL 12)) 35)
  obtain ⟨hH3, hb3, -⟩ := new12 (w.alloc (Obj.cells (bV key) 22)) (zs.take 12)
  have hS3 := hS.later hb3
  have hb3' := hb0.below hb3
  have hrl := below_alloc (Below.refl (w.alloc (Obj.cells (bV key) 22)).heap.size (w.alloc (Obj.cells (bV key) 22))) (Obj.cells (bV (zL 12)) 35)
  go_enter Tryd.func9, Tryd.ntmps9
  go_wp2_with fail
  generalize (w.alloc (Obj.cells (bV key) 22)) = W0 at *
  refine (room_any _ (n : Int) W0 hr).mono ?_
  rintro e W0' ⟨rfl, rfl⟩
  clear hrl hb3 hb0
  go_wp2_with (first
    | (refine wpList_arrPtr (by rfl) 35 _ (by rfl) 12 5 Tryd.underlying35 (some ⟨b, off, none⟩) 12 cap (by rfl) (by omega) ?_)
    | (refine wpList_load_mid rfl 35 _ (by rfl) b off (by rfl) ((zs.take 12).map (Value.int .u8)) _ hrg Tryd.underlying35 rfl hszL ?_)
    | (refine wpList_newA (by rfl) 35 (by rfl) _ zero12 W0.heap.size rfl ?_)
    | (refine wpList_putA arrT12 (by rfl) _ _ (by rfl) W0.heap.size (bV (zs.take 12)) (by rfl) (by rfl) _ hn2 (by rw [bV_size, hHl]) (bV_size _) (bV_one _) ?_))
  generalize ((W0.alloc (Obj.cells (bV (zL 12)) 35)).setRow W0.heap.size (bV (zs.take 12))) = W3 at *
  have hgh : w.heap.size < W0.heap.size := hS.lt
  clear hS hn2 hrg hct
  generalize W0.heap.size = gh at *
  refine wp_region_rel Kept [0, 1, 2, 3, 4, 5, 6, 7, 8, 9] (by kernel_rfl) (by kernel_rfl) (by kernel_rfl) Kept.refl Kept.trans ?_
  replace hS3 := hS3.drew
  replace hb3' : Bs W3.drew (some ⟨b, off, none⟩) (n + 22) cap zs := ⟨hb3'.length, hb3'.le_cap, hb3'.cap_le, hb3'.bytes, hb3'.place⟩
  replace hH3 : OwnB 35 W3.drew gh (zs.take 12) := hH3
  generalize W3.drew = W4 at *
  refine wpRel_loadA arrT32 rfl rfl _ rfl w.heap.size (bV key) (by rfl) (fun w' hR => hS3.kk.below hR) (by rw [bV_size, hkl]) (fun _ _ _ h => h) (by rfl) ?_
  try simp only [Act.put, List.setIfInBounds_toArray, List.set_cons_zero, List.set_cons_succ]
  refine wpRel_loadA arrT12 rfl rfl _ rfl gh (bV (zs.take 12)) (by rfl) (fun w' hR => hH3.below hR) (by rw [bV_size, hHl]) (fun _ _ _ h => h) (by rfl) ?_
  try simp only [Act.put, List.setIfInBounds_toArray, List.set_cons_zero, List.set_cons_succ]
  repeat' (first
    | (refine wpRel_quiet (v := ?_) rfl rfl (fun _ _ _ h => h) (by rfl) ?_ ?_
       rotate_left
       · (intro w' hR; go_simp; try rfl)
       simp only [Act.put, List.setIfInBounds_toArray, List.set_cons_zero, List.set_cons_succ]))
  have hbc := hb3'.cut 12 (by omega)
  rw [show n + 22 - 12 = n + 10 by omega] at hbc
  refine wpRel_step rfl rfl (by rfl) (fun K' hK => ?_)
  go_simp
  refine (xor_at key (zs.take 12) 0 _ _ _ W4 rfl rfl rfl hk hkl hHb hHl hbc (by omega) (fits_zero _ (by omega)) hS3.gl).mono ?_
  rintro e w8 ⟨g8, rfl, hO8, hg8, hb8⟩
  refine hK.out _ _ hb8 ?_
  clear hK K' hbc hcf
  try simp only [Act.put, List.setIfInBounds_toArray, List.set_cons_zero, List.set_cons_succ]
  have hS8 := hS3.later hb8
  have hH8 := hH3.below hb8
  have hlt8 : w.heap.size ≤ g8 := Nat.le_trans hS3.bel.size hg8
  clear hS3 hH3 hb8 hg8 hb3'
  repeat' (first
    | (refine wpRel_quiet (v := ?_) rfl rfl (fun _ _ _ h => h) (by rfl) ?_ ?_
       rotate_left
       · (intro w' hR; go_simp; try rfl)
       simp only [Act.put, List.setIfInBounds_toArray, List.set_cons_zero, List.set_cons_succ]))
  refine wpRel_nil ?_
  replace hO8 : OwnB 5 w8 g8 (innerL key zs) := hO8
  have hB8 := hO8.bs (innerL_bytes key zs hb.bytes) (n + 10) (by rw [innerL_length]; omega) (by omega)
  have hP8 := hB8.taken (n + 2) (by omega)
  have hT8 := hO8.bsAt (innerL_bytes key zs hb.bytes) (n + 2) 8 8 (by rw [innerL_length]; omega) (by omega) (by omega)
  rw [show (innerL key zs).take (n + 2) = textL key zs by rw [textL, show zs.length - 20 = n + 2 by omega]] at hP8
  rw [show ((innerL key zs).drop (n + 2)).take 8 = tailL key zs by rw [tailL, show zs.length - 20 = n + 2 by omega, List.take_of_length_le (by rw [List.length_drop, innerL_length]; omega)]] at hT8
  have c3 := fun w => cutTo hB8 .i64 ((n : Int) + 2) (n + 2) (by omega) (by omega) w
  have c1 := cutTail g8 n ((n : Int) + 2) (by omega)
  have hwr : IntKind.i64.wrap ((n : Int) + 10 - 8) = (n : Int) + 2 := by rw [IntKind.wrap_i64]; omega
  clear hB8 hO8
  go_wp2_with fail
  refine wp_region_rel Kept [0, 1, 2, 3, 4, 5, 6, 7, 8, 9, 10, 11] (by kernel_rfl) (by kernel_rfl) (by kernel_rfl) Kept.refl Kept.trans ?_
  replace hS8 := hS8.drew
  replace hH8 : OwnB 35 w8.drew gh (zs.take 12) := hH8
  replace hP8 : Bs w8.drew (some ⟨g8, 0, none⟩) (n + 2) (n + 10) (textL key zs) := ⟨hP8.length, hP8.le_cap, hP8.cap_le, hP8.bytes, hP8.place⟩
  replace hT8 : Bs w8.drew (some ⟨g8, n + 2, none⟩) 8 8 (tailL key zs) := ⟨hT8.length, hT8.le_cap, hT8.cap_le, hT8.bytes, hT8.place⟩
  generalize w8.drew = W7 at *
  repeat' (first
    | (refine wpRel_quiet (v := ?_) rfl rfl (fun _ _ _ h => h) (by rfl) ?_ ?_
       rotate_left
       · (intro w' hR; go_simp; try rfl)
       simp only [Act.put, List.setIfInBounds_toArray, List.set_cons_zero, List.set_cons_succ]))
  refine wpRel_nil ?_
  clear c1 c3 hwr
  go_wp2_with fail
  have hsl := run_arr_all (P := Tryd.prog) Tryd.underlying35 Tryd.size_u8 gh
  have hsl4 := run_arr_to (P := Tryd.prog) Tryd.underlying35 Tryd.size_u8 gh .i64 4 4 rfl (by decide)
  have hsf4 := run_arr_from (P := Tryd.prog) Tryd.underlying35 Tryd.size_u8 gh .i64 4 4 rfl (by decide)
  have eq1 : leNum ((((zs.take 12).drop 0).take 4).take 8) = leNum (zs.take 4) := by simp [List.take_take]
  have eq2 : leNum ((((zs.take 12).drop 4).take 8).take 8) = leNum ((zs.take 12).drop 4) := by
    rw [List.take_of_length_le (l := ((zs.take 12).drop 4).take 8) (by simp; omega), List.take_of_length_le (by rw [List.length_drop, hHl]; omega)]
  have hw32 : IntKind.u32.wrap (leNum (zs.take 4)) = leNum (zs.take 4) := by
    have := leNum4_lt (zs.take 4) (hb.bytes.take 4) (by simp; omega)
    rw [IntKind.wrap_u32']; omega
  obtain ⟨V1, hV1⟩ : ∃ V, leNum ((tailL key zs).take 8) = V := ⟨_, rfl⟩
  obtain ⟨V2, hV2⟩ : ∃ V, fnv (zs.take 12 ++ textL key zs) = V := ⟨_, rfl⟩
  have hV1' : leNum (tailL key zs) = V1 := by rw [← hV1, List.take_of_length_le (by rw [tailL_length _ _ (by omega)]; omega)]
  have hopS : V1 = V2 → openL key zs = unpadL (textL key zs) (n : Int) := fun h => by
    unfold openL sumOk
    rw [if_neg (by omega), hV1', hV2, if_pos (by rw [decide_eq_true_eq]; exact h), show zs.length - 22 = n by omega]
  have hopN : ¬ V1 = V2 → openL key zs = none := fun h => by
    unfold openL sumOk
    rw [if_neg (by omega), hV1', hV2, if_neg (by rw [decide_eq_true_eq]; exact h)]
  refine wp_region_pre Kept [0, 2, 3] 4 (by kernel_rfl) (by kernel_rfl) (by kernel_rfl) Kept.refl Kept.trans ?_
  replace hS8 := hS8.drew
  replace hH8 : OwnB 35 W7.drew gh (zs.take 12) := hH8
  replace hP8 : Bs W7.drew (some ⟨g8, 0, none⟩) (n + 2) (n + 10) (textL key zs) := ⟨hP8.length, hP8.le_cap, hP8.cap_le, hP8.bytes, hP8.place⟩
  replace hT8 : Bs W7.drew (some ⟨g8, n + 2, none⟩) 8 8 (tailL key zs) := ⟨hT8.length, hT8.le_cap, hT8.cap_le, hT8.bytes, hT8.place⟩
  generalize W7.drew = W8 at *
  repeat' (first
    | (refine wpPre_quiet (v := ?_) rfl (fun _ _ _ h => h) (by rfl) ?_ ?_
       rotate_left
       · (intro w' hR; go_simp; try rfl)
       simp only [Act.put, List.setIfInBounds_toArray, List.set_cons_zero, List.set_cons_succ]))
  refine wpPre_nil ?_
  refine wpR_two 1 4 (by kernel_rfl) ?_ ?_
  · refine wpOp_go rfl (by rfl) (fun K' hK => ?_)
    go_simp
    refine (get_any W8 hT8).mono ?_
    rintro e W8' ⟨rfl, rfl⟩
    rw [hV1]
    refine hK.out _ _ (Kept.refl _) ?_
    clear hK K'
    try simp only [Act.put, List.setIfInBounds_toArray, List.set_cons_zero, List.set_cons_succ]
    refine wpR_ord [4, 5, 6] (by kernel_rfl) (by kernel_rfl) Kept.refl Kept.trans ?_
    refine wpRel_step rfl rfl (by rfl) (fun K' hK => ?_)
    refine wp_buildSliceTo 52 25 2 _ (by rfl) Tryd.underlying52 [(0, .slice (some ⟨gh, 0, none⟩) 12 12), (1, .slice (some ⟨g8, 0, none⟩) (n + 2) (n + 10))] (by kernel_rfl) #[.slice (some ⟨gh, 0, none⟩) 12 12, .slice (some ⟨g8, 0, none⟩) (n + 2) (n + 10)] (by kernel_rfl) ?_
    have hb9 := (Below.refl W8.heap.size W8).alloc (Nat.le_refl _) (.cells #[.slice (some ⟨gh, 0, none⟩) 12 12, .slice (some ⟨g8, 0, none⟩) (n + 2) (n + 10)] 25)
    have hB9 := heap_alloc_new W8 (.cells #[.slice (some ⟨gh, 0, none⟩) 12 12, .slice (some ⟨g8, 0, none⟩) (n + 2) (n + 10)] 25)
    refine hK.out _ _ hb9 ?_
    clear hK K'
    try simp only [Act.put, List.setIfInBounds_toArray, List.set_cons_zero, List.set_cons_succ]
    have hS9 := hS8.later hb9
    have hH9 := hH8.below hb9
    have hP9 := hP8.below hb9
    have hT9 := hT8.below hb9
    clear hS8 hH8 hP8 hT8 hb9
    generalize (W8.alloc _) = W9 at *
    generalize W8.heap.size = gv at *
    refine wpRel_step rfl rfl (by rfl) (fun K' hK => ?_)
    go_simp
    refine (sum_is gv 2 [⟨some ⟨gh, 0, none⟩, 12, 12, zs.take 12⟩, ⟨some ⟨g8, 0, none⟩, n + 2, n + 10, textL key zs⟩] V2 W9 rfl (by omega) (by rw [← hV2]; simp [partsBytes]) _ hB9 rfl (by
      intro p hp
      simp only [List.mem_cons, List.not_mem_nil, or_false] at hp
      rcases hp with rfl | rfl
      · exact hH9.bs hHb 12 hHl (by omega)
      · exact hP9)).mono ?_
    rintro e W9' ⟨rfl, rfl⟩
    refine hK.out _ _ (Kept.refl _) ?_
    clear hK K'
    try simp only [Act.put, List.setIfInBounds_toArray, List.set_cons_zero, List.set_cons_succ]
    clear hB9
    by_cases hq : V1 = V2
    · have hop := hopS hq
      clear hopS hopN
      subst hq
      repeat' (first
        | (refine wpRel_quiet (v := ?_) rfl rfl (fun _ _ _ h => h) (by rfl) ?_ ?_
           rotate_left
           · (intro w' hR; go_simp; try rfl)
           simp only [Act.put, List.setIfInBounds_toArray, List.set_cons_zero, List.set_cons_succ]))
      refine wpRel_nil ?_
      go_wp2_with fail
      refine (room_any _ (n : Int) W9 hr).mono ?_
      rintro e W9' ⟨rfl, rfl⟩
      go_wp2_with fail
      refine (unpad_any (n : Int) W9 hP9).mono ?_
      rintro e w10 ⟨hb10, (⟨us, g10, hu, rfl, hg10, hO10⟩ | ⟨hu, rfl⟩)⟩
      · have hS10 := hS9.later hb10
        have hH10 := hH9.below hb10
        have hle10 : w.heap.size ≤ g10 := Nat.le_trans hS9.bel.size hg10
        rw [hu] at hop
        clear hS9 hH9 hP9 hT9 hb10 hu hg10
        go_wp2_with fail
        refine wp_region_rel Kept [0, 1, 4, 2, 3, 5, 6, 7, 8, 9] (by kernel_rfl) (by kernel_rfl) (by kernel_rfl) Kept.refl Kept.trans ?_
        replace hS10 := hS10.drew
        replace hH10 : OwnB 35 w10.drew gh (zs.take 12) := hH10
        replace hO10 : OwnB 5 w10.drew g10 us := hO10
        generalize w10.drew = W10 at *
        repeat' (first
          | (refine wpRel_quiet (v := ?_) rfl rfl (fun _ _ _ h => h) (by rfl) ?_ ?_
             rotate_left
             · (intro w' hR; go_simp; try rfl)
             simp only [Act.put, List.setIfInBounds_toArray, List.set_cons_zero, List.set_cons_succ]))
        refine wpRel_step rfl rfl (by rfl) (fun K' hK => ?_)
        go_simp
        refine (get_any W10 (hH10.bsAt hHb 0 4 12 (by rw [hHl]; omega) (by omega) (by omega))).mono ?_
        rintro e W10' ⟨rfl, rfl⟩
        rw [eq1]
        refine hK.out _ _ (Kept.refl _) ?_
        clear hK K'
        try simp only [Act.put, List.setIfInBounds_toArray, List.set_cons_zero, List.set_cons_succ]
        repeat' (first
          | (refine wpRel_quiet (v := ?_) rfl rfl (fun _ _ _ h => h) (by rfl) ?_ ?_
             rotate_left
             · (intro w' hR; go_simp; try rfl)
             simp only [Act.put, List.setIfInBounds_toArray, List.set_cons_zero, List.set_cons_succ]))
        refine wpRel_step rfl rfl (by rfl) (fun K' hK => ?_)
        go_simp
        refine (get_any W10 (hH10.bsAt hHb 4 8 8 (by rw [hHl]; omega) (by omega) (by omega))).mono ?_
        rintro e W10' ⟨rfl, rfl⟩
        rw [eq2]
        refine hK.out _ _ (Kept.refl _) ?_
        clear hK K'
        try simp only [Act.put, List.setIfInBounds_toArray, List.set_cons_zero, List.set_cons_succ]
        repeat' (first
          | (refine wpRel_quiet (v := ?_) rfl rfl (fun _ _ _ h => h) (by rfl) ?_ ?_
             rotate_left
             · (intro w' hR; go_simp; try rfl)
             simp only [Act.put, List.setIfInBounds_toArray, List.set_cons_zero, List.set_cons_succ]))
        refine wpRel_nil ?_
        go_wp2_with fail
        refine bodyPost_ret (results_tmp4 rfl _ _ _) rfl ?_
        exact ⟨hS10.bel, .inl ⟨us, g10, hop, rfl, hle10, hO10⟩⟩
      · rw [hu] at hop
        have hS10 := hS9.later hb10
        clear hS9 hH9 hP9 hT9 hb10 hu
        go_wp2_with fail
        refine bodyPost_ret (results_tmp4 rfl _ _ _) rfl ?_
        exact ⟨hS10.bel, .inr ⟨hop, rfl⟩⟩
    · have hop := hopN hq
      clear hopS hopN
      repeat' (first
        | (refine wpRel_quiet (v := ?_) rfl rfl (fun _ _ _ h => h) (by rfl) ?_ ?_
           rotate_left
           · (intro w' hR; go_simp; try rfl)
           simp only [Act.put, List.setIfInBounds_toArray, List.set_cons_zero, List.set_cons_succ]))
      refine wpRel_nil ?_
      go_wp2_with fail
      refine bodyPost_ret (results_tmp4 rfl _ _ _) rfl ?_
      exact ⟨hS9.bel, .inr ⟨hop, rfl⟩⟩
  · refine wpOp_go rfl (by rfl) (fun K' hK => ?_)
    refine wp_buildSliceTo 52 25 2 _ (by rfl) Tryd.underlying52 [(0, .slice (some ⟨gh, 0, none⟩) 12 12), (1, .slice (some ⟨g8, 0, none⟩) (n + 2) (n + 10))] (by kernel_rfl) #[.slice (some ⟨gh, 0, none⟩) 12 12, .slice (some ⟨g8, 0, none⟩) (n + 2) (n + 10)] (by kernel_rfl) ?_
    have hb9 := (Below.refl W8.heap.size W8).alloc (Nat.le_refl _) (.cells #[.slice (some ⟨gh, 0, none⟩) 12 12, .slice (some ⟨g8, 0, none⟩) (n + 2) (n + 10)] 25)
    have hB9 := heap_alloc_new W8 (.cells #[.slice (some ⟨gh, 0, none⟩) 12 12, .slice (some ⟨g8, 0, none⟩) (n + 2) (n + 10)] 25)
    refine hK.out _ _ hb9 ?_
    clear hK K'
    try simp only [Act.put, List.setIfInBounds_toArray, List.set_cons_zero, List.set_cons_succ]
    have hS9 := hS8.later hb9
    have hH9 := hH8.below hb9
    have hP9 := hP8.below hb9
    have hT9 := hT8.below hb9
    clear hS8 hH8 hP8 hT8 hb9
    generalize (W8.alloc _) = W9 at *
    generalize W8.heap.size = gv at *
    refine wpR_ord [1, 5, 6] (by kernel_rfl) (by kernel_rfl) Kept.refl Kept.trans ?_
    refine wpRel_step rfl rfl (by rfl) (fun K' hK => ?_)
    go_simp
    refine (get_any W9 hT9).mono ?_
    rintro e W9' ⟨rfl, rfl⟩
    rw [hV1]
    refine hK.out _ _ (Kept.refl _) ?_
    clear hK K'
    try simp only [Act.put, List.setIfInBounds_toArray, List.set_cons_zero, List.set_cons_succ]
    refine wpRel_step rfl rfl (by rfl) (fun K' hK => ?_)
    go_simp
    refine (sum_is gv 2 [⟨some ⟨gh, 0, none⟩, 12, 12, zs.take 12⟩, ⟨some ⟨g8, 0, none⟩, n + 2, n + 10, textL key zs⟩] V2 W9 rfl (by omega) (by rw [← hV2]; simp [partsBytes]) _ hB9 rfl (by
      intro p hp
      simp only [List.mem_cons, List.not_mem_nil, or_false] at hp
      rcases hp with rfl | rfl
      · exact hH9.bs hHb 12 hHl (by omega)
      · exact hP9)).mono ?_
    rintro e W9' ⟨rfl, rfl⟩
    refine hK.out _ _ (Kept.refl _) ?_
    clear hK K'
    try simp only [Act.put, List.setIfInBounds_toArray, List.set_cons_zero, List.set_cons_succ]
    clear hB9
    by_cases hq : V1 = V2
    · have hop := hopS hq
      clear hopS hopN
      subst hq
      repeat' (first
        | (refine wpRel_quiet (v := ?_) rfl rfl (fun _ _ _ h => h) (by rfl) ?_ ?_
           rotate_left
           · (intro w' hR; go_simp; try rfl)
           simp only [Act.put, List.setIfInBounds_toArray, List.set_cons_zero, List.set_cons_succ]))
      refine wpRel_nil ?_
      go_wp2_with fail
      refine (room_any _ (n : Int) W9 hr).mono ?_
      rintro e W9' ⟨rfl, rfl⟩
      go_wp2_with fail
      refine (unpad_any (n : Int) W9 hP9).mono ?_
      rintro e w10 ⟨hb10, (⟨us, g10, hu, rfl, hg10, hO10⟩ | ⟨hu, rfl⟩)⟩
      · have hS10 := hS9.later hb10
        have hH10 := hH9.below hb10
        have hle10 : w.heap.size ≤ g10 := Nat.le_trans hS9.bel.size hg10
        rw [hu] at hop
        clear hS9 hH9 hP9 hT9 hb10 hu hg10
        go_wp2_with fail
        refine wp_region_rel Kept [0, 1, 4, 2, 3, 5, 6, 7, 8, 9] (by kernel_rfl) (by kernel_rfl) (by kernel_rfl) Kept.refl Kept.trans ?_
        replace hS10 := hS10.drew
        replace hH10 : OwnB 35 w10.drew gh (zs.take 12) := hH10
        replace hO10 : OwnB 5 w10.drew g10 us := hO10
        generalize w10.drew = W10 at *
        repeat' (first
          | (refine wpRel_quiet (v := ?_) rfl rfl (fun _ _ _ h => h) (by rfl) ?_ ?_
             rotate_left
             · (intro w' hR; go_simp; try rfl)
             simp only [Act.put, List.setIfInBounds_toArray, List.set_cons_zero, List.set_cons_succ]))
        refine wpRel_step rfl rfl (by rfl) (fun K' hK => ?_)
        go_simp
        refine (get_any W10 (hH10.bsAt hHb 0 4 12 (by rw [hHl]; omega) (by omega) (by omega))).mono ?_
        rintro e W10' ⟨rfl, rfl⟩
        rw [eq1]
        refine hK.out _ _ (Kept.refl _) ?_
        clear hK K'
        try simp only [Act.put, List.setIfInBounds_toArray, List.set_cons_zero, List.set_cons_succ]
        repeat' (first
          | (refine wpRel_quiet (v := ?_) rfl rfl (fun _ _ _ h => h) (by rfl) ?_ ?_
             rotate_left
             · (intro w' hR; go_simp; try rfl)
             simp only [Act.put, List.setIfInBounds_toArray, List.set_cons_zero, List.set_cons_succ]))
        refine wpRel_step rfl rfl (by rfl) (fun K' hK => ?_)
        go_simp
        refine (get_any W10 (hH10.bsAt hHb 4 8 8 (by rw [hHl]; omega) (by omega) (by omega))).mono ?_
        rintro e W10' ⟨rfl, rfl⟩
        rw [eq2]
        refine hK.out _ _ (Kept.refl _) ?_
        clear hK K'
        try simp only [Act.put, List.setIfInBounds_toArray, List.set_cons_zero, List.set_cons_succ]
        repeat' (first
          | (refine wpRel_quiet (v := ?_) rfl rfl (fun _ _ _ h => h) (by rfl) ?_ ?_
             rotate_left
             · (intro w' hR; go_simp; try rfl)
             simp only [Act.put, List.setIfInBounds_toArray, List.set_cons_zero, List.set_cons_succ]))
        refine wpRel_nil ?_
        go_wp2_with fail
        refine bodyPost_ret (results_tmp4 rfl _ _ _) rfl ?_
        exact ⟨hS10.bel, .inl ⟨us, g10, hop, rfl, hle10, hO10⟩⟩
      · rw [hu] at hop
        have hS10 := hS9.later hb10
        clear hS9 hH9 hP9 hT9 hb10 hu
        go_wp2_with fail
        refine bodyPost_ret (results_tmp4 rfl _ _ _) rfl ?_
        exact ⟨hS10.bel, .inr ⟨hop, rfl⟩⟩
    · have hop := hopN hq
      clear hopS hopN
      repeat' (first
        | (refine wpRel_quiet (v := ?_) rfl rfl (fun _ _ _ h => h) (by rfl) ?_ ?_
           rotate_left
           · (intro w' hR; go_simp; try rfl)
           simp only [Act.put, List.setIfInBounds_toArray, List.set_cons_zero, List.set_cons_succ]))
      refine wpRel_nil ?_
      go_wp2_with fail
      refine bodyPost_ret (results_tmp4 rfl _ _ _) rfl ?_
      exact ⟨hS9.bel, .inr ⟨hop, rfl⟩⟩
#print axioms open_long

theorem open_any (key : List Int) {a : Option Addr} {len cap : Nat} {zs : List Int} (w : World) (hk : IsBytes key) (hkl : key.length = 32) (hb : Bs w a len cap zs) (hl : len ≤ 90022) (hg : Glob w) :
    Calls Tryd.prog 9 #[.agg (bV key), .slice a len cap] w fun e w' => Below w.heap.size w w' ∧
      ((∃ us g, openL key zs = some us ∧ e = .returned (.tuple #[.slice (some ⟨g, 0, none⟩) us.length us.length, .int .u32 (leNum (zs.take 4)), .int .u64 (leNum ((zs.take 12).drop 4)), .bool true]) ∧ w.heap.size ≤ g ∧ OwnB 5 w' g us) ∨
       (openL key zs = none ∧ e = .returned noneV)) := by
  have hz := hb.length
  by_cases h : len < 22
  · refine (open_short key w h).mono ?_
    rintro e w' ⟨rfl, hb'⟩
    exact ⟨hb', .inr ⟨by unfold openL; rw [if_pos (by omega)], rfl⟩⟩
  · obtain ⟨n, rfl⟩ : ∃ n, len = n + 22 := ⟨len - 22, by omega⟩
    exact open_long key n w hk hkl hb (by omega) hg
#print axioms open_any
end Go.Proofs.YthhaeiafgloacaaDoor
