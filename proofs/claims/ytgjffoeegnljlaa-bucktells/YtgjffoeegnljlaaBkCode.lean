
/- What calls of package buck do: for every row of Cells and of bytes. No conditions but those that each line states. -/
import Derived.Test.YtgjffoeegnljlaaBkMem
import Derived.Test.YtgjffoeegnljlaaLePut
import Derived.Test.YtgjffoeegnljlaaLeGet
import Derived.Test.YtgjffoeegnljlaaRel
namespace Go.Proofs.Ytgjffoeegnljlaa
open Go.RowKit
set_option maxRecDepth 20000

theorem isBucket_any (z size : Int) (w : World) :
    Calls Try.prog 18 #[.int .i64 z, .int .i64 size] w fun e w' => e = .returned (.bool (okZ z size)) ∧ w = w' := by
  by_cases h : (0 ≤ z ∧ z ≤ 16) ∧ 0 ≤ size ∧ size ≤ 60000
  · have hE : okZ z size = true := decide_eq_true h
    obtain ⟨⟨h1, h2⟩, h3, h4⟩ := h
    rw [hE]
    clear hE
    go_enter Try.func18, Try.ntmps18
    go_wp2
    go_ret
    exact ⟨rfl, rfl⟩
  · have hE : okZ z size = false := decide_eq_false h
    rw [hE]
    clear hE
    by_cases h1 : 0 ≤ z
    · by_cases h2 : z ≤ 16
      · by_cases h3 : 0 ≤ size
        · have h4 : ¬ size ≤ 60000 := fun h4 => h ⟨⟨h1, h2⟩, h3, h4⟩
          clear h
          go_enter Try.func18, Try.ntmps18
          go_wp2
          go_ret
          exact ⟨rfl, rfl⟩
        · clear h
          go_enter Try.func18, Try.ntmps18
          go_wp2
          go_ret
          exact ⟨rfl, rfl⟩
      · clear h
        go_enter Try.func18, Try.ntmps18
        go_wp2
        go_ret
        exact ⟨rfl, rfl⟩
    · clear h
      go_enter Try.func18, Try.ntmps18
      go_wp2
      go_ret
      exact ⟨rfl, rfl⟩

/-- A test of a Cell in its own block. -/
theorem isCell_any {w : World} {c : CV} (h : c.At w) (size : Int) :
    Calls Try.prog 27 #[.agg c.row.toArray, .int .i64 size] w fun e w' => e = .returned (.bool (okC size c.pc)) ∧ Below w.heap.size w w' := by
  obtain ⟨i, l, ⟨a, len, cap, zs⟩⟩ := c
  have hl := h.bs.length
  simp only at hl
  have hE : okC size (CV.mk i l ⟨a, len, cap, zs⟩).pc = decide ((1 ≤ i ∧ i ≤ 2147483647) ∧ (0 ≤ l ∧ l ≤ 2147483647) ∧ (len : Int) = size) := by
    unfold okC CV.pc
    simp only [hl]
  rw [hE]
  clear hE
  have hb := below_alloc (Below.refl w.heap.size w) (.cells #[.int .i64 i, .int .i64 l, .slice a len cap] 24)
  clear h hl
  show Calls Try.prog 27 #[.agg #[.int .i64 i, .int .i64 l, .slice a len cap], .int .i64 size] w _
  by_cases h : (1 ≤ i ∧ i ≤ 2147483647) ∧ (0 ≤ l ∧ l ≤ 2147483647) ∧ (len : Int) = size
  · rw [decide_eq_true h]
    obtain ⟨⟨h1, h2⟩, ⟨h3, h4⟩, rfl⟩ := h
    go_enter Try.func27, Try.ntmps27
    go_wp2
    go_ret
    exact ⟨rfl, hb⟩
  · rw [decide_eq_false h]
    by_cases h1 : 1 ≤ i
    · by_cases h2 : i ≤ 2147483647
      · by_cases h3 : 0 ≤ l
        · by_cases h4 : l ≤ 2147483647
          · have h5 : ¬ (len : Int) = size := fun h5 => h ⟨⟨h1, h2⟩, ⟨h3, h4⟩, h5⟩
            clear h
            go_enter Try.func27, Try.ntmps27
            go_wp2
            go_ret
            exact ⟨ret_bool (beq_eq_false_iff_ne.2 h5), hb⟩
          · clear h
            go_enter Try.func27, Try.ntmps27
            go_wp2
            go_ret
            exact ⟨rfl, hb⟩
        · clear h
          go_enter Try.func27, Try.ntmps27
          go_wp2
          go_ret
          exact ⟨rfl, hb⟩
      · clear h
        go_enter Try.func27, Try.ntmps27
        go_wp2
        go_ret
        exact ⟨rfl, hb⟩
    · clear h
      go_enter Try.func27, Try.ntmps27
      go_wp2
      go_ret
      exact ⟨rfl, hb⟩
theorem long_any (z size : Int) (w : World) (hz : -1000000 ≤ z ∧ z ≤ 1000000) (hs : -1000000 ≤ size ∧ size ≤ 1000000) :
    Calls Try.prog 17 #[.int .i64 z, .int .i64 size] w fun e w' => e = .returned (.int .i64 (z * (8 + size))) ∧ w = w' := by
  have h1 : (z * (8 + size)).natAbs ≤ 1000000 * 1000008 := by
    rw [Int.natAbs_mul]
    exact Nat.mul_le_mul (by omega) (by omega)
  have hw : wrap64 (z * (8 + size)) = z * (8 + size) := wrap64_low _ (by omega)
  have hw1 : wrap64 (8 + size) = 8 + size := wrap64_low _ (by omega)
  go_enter Try.func17, Try.ntmps17
  go_wp2
  go_ret
  exact ⟨rfl, rfl⟩

theorem all_step {α : Type} (f : α → Bool) (l : List α) (k : Nat) (x : α) (h : l[k]? = some x) (ha : (l.take k).all f = true) (hx : f x = true) : (l.take (k + 1)).all f = true := by
  rw [take_next l k x h, List.all_append, ha]
  simp [hx]
theorem all_stop {α : Type} (f : α → Bool) (l : List α) (k : Nat) (x : α) (h : l[k]? = some x) (hx : f x = false) : l.all f = false := by
  rw [Bool.eq_false_iff]
  intro h'
  rw [List.all_eq_true.1 h' x (List.mem_of_getElem? h)] at hx
  cases hx
set_option maxHeartbeats 1000000 in
theorem allCells_any {a : Option Addr} {len cap : Nat} {cs : List CV} (w : World) (h : Ces w a len cap cs) (size : Int) :
    Calls Try.prog 19 #[.slice a len cap, .int .i64 size] w fun e w' => e = .returned (.bool ((cs.map CV.pc).all (okC size))) ∧ Below w.heap.size w w' := by
  have hlen := h.length
  have hlc := h.le_cap
  have hcl := h.cap_le
  go_enter Try.func19, Try.ntmps19
  go_wp2
  go_loopw [9] (fun i wr => ∃ k : Nat, k ≤ len ∧ i = .int .i64 k ∧ ((cs.map CV.pc).take k).all (okC size) = true ∧ Below w.heap.size w wr) (fun i _ => len - (intOf i).toNat)
  case atStart => exact ⟨0, Nat.zero_le _, rfl, rfl, Below.refl _ _⟩
  case round =>
    obtain ⟨k, hk, rfl, hall, hbel⟩ := hrel
    by_cases hlt : k < len
    · obtain ⟨b, off, rfl, hsp⟩ := h.spot (by omega)
      have hk2 : k < cs.length := by omega
      have hr := hsp wr hbel k hk2
      have hca := (h.item cs[k] (List.getElem_mem hk2)).below hbel
      have hpc : (cs.map CV.pc)[k]? = some cs[k].pc := by rw [List.getElem?_map, List.getElem?_eq_getElem hk2]; rfl
      generalize cs[k] = c at hr hca hpc
      have hL := laid_store hca
      have HN := hide (heap_alloc_new wr (.cells #[.int .i64 0, .int .i64 0, .slice none 0 0] 24))
      have HR := hide hL.rng
      have hb2 := hbel.trans (hL.bel.mono hbel.size)
      have hC := isCell_any hL.it size
      have HB := hide hb2
      clear hbel hca hsp hb2
      cases hok : okC size c.pc
      · have HA := hide (all_stop _ _ k _ hpc hok)
        rw [hok] at hC
        clear hall hpc hok
        go_wp2_with (first
          | (refine wpList_newA (by rfl) 24 (by rfl) _ zero_cell wr.heap.size rfl ?_)
          | (refine wpList_load_mid rfl 24 _ (by rfl) b (off + k * 3) (by rfl) c.row _ hr Try.underlying24 rfl size_cell ?_)
          | (refine wpList_load_mid rfl 24 _ (by rfl) wr.heap.size 0 (by rfl) c.row _ HR.out Try.underlying24 rfl size_cell ?_)
          | (refine wpList_putS size_cell (by rfl) _ _ (by rfl) wr.heap.size c.row.toArray (by rfl) (by rfl) _ HN.out (by rfl) (by rfl) (cell_all c) ?_))
        refine hC.mono ?_
        rintro e w1 ⟨rfl, hb1⟩
        go_wp2
        go_ret
        exact ⟨ret_bool HA.out.symm, HB.out.trans (hb1.mono HB.out.size)⟩
      · have HA := hide (all_step _ _ k _ hpc hall hok)
        rw [hok] at hC
        clear hall hpc hok
        go_wp2_with (first
          | (refine wpList_newA (by rfl) 24 (by rfl) _ zero_cell wr.heap.size rfl ?_)
          | (refine wpList_load_mid rfl 24 _ (by rfl) b (off + k * 3) (by rfl) c.row _ hr Try.underlying24 rfl size_cell ?_)
          | (refine wpList_load_mid rfl 24 _ (by rfl) wr.heap.size 0 (by rfl) c.row _ HR.out Try.underlying24 rfl size_cell ?_)
          | (refine wpList_putS size_cell (by rfl) _ _ (by rfl) wr.heap.size c.row.toArray (by rfl) (by rfl) _ HN.out (by rfl) (by rfl) (cell_all c) ?_))
        refine hC.mono ?_
        rintro e w1 ⟨rfl, hb1⟩
        have HB1 := hide (HB.out.trans (hb1.mono HB.out.size))
        clear hb1 hC HB
        go_wp2
        go_roundw
        case rel => exact ⟨k + 1, by omega, by go_num, HA.out, HB1.out⟩
        case measure => simp [intOf]; omega
    · have hk' : k = len := by omega
      subst hk'
      rw [List.take_of_length_le (by rw [List.length_map]; omega)] at hall
      have HA := hide hall
      clear hall
      go_wp2
      go_ret
      exact ⟨ret_bool HA.out.symm, hbel⟩

theorem hasCell_any {a : Option Addr} {len cap : Nat} {zs : List Int} (w : World) (h : Bs w a len cap zs) (h4 : 4 ≤ len) :
    Calls Try.prog 21 #[.slice a len cap] w fun e w' => e = .returned (.bool (decide (¬ leNum (zs.take 4) = 0))) ∧ w = w' := by
  have hlc := h.le_cap
  have hcut := run_cut_to (P := Try.prog) Try.underlying22 Try.size_u8 h .i64 4 4 rfl (by omega)
  have hC := get_any w (h.taken 4 h4)
  rw [List.take_take, show min 8 4 = 4 from rfl] at hC
  by_cases hz : leNum (zs.take 4) = 0
  · rw [decide_eq_false (fun hn => hn hz)]
    rw [hz] at hC
    clear hz h
    go_enter Try.func21, Try.ntmps21
    go_wp2_with fail
    refine hC.mono ?_
    rintro e w1 ⟨rfl, rfl⟩
    go_wp2
    go_ret
    exact ⟨rfl, rfl⟩
  · rw [decide_eq_true hz]
    clear h
    generalize leNum (zs.take 4) = N at *
    go_enter Try.func21, Try.ntmps21
    go_wp2_with fail
    refine hC.mono ?_
    rintro e w1 ⟨rfl, rfl⟩
    go_wp2
    go_ret
    exact ⟨ret_bool (by simpa using hz), rfl⟩
set_option maxHeartbeats 400000 in
theorem allNought_any {a : Option Addr} {len cap : Nat} {zs : List Int} (w : World) (h : Bs w a len cap zs) :
    Calls Try.prog 23 #[.slice a len cap] w fun e w' => e = .returned (.bool (allZ zs)) ∧ w = w' := by
  have hl : len ≤ 9223372036854775807 := Nat.le_trans h.le_cap h.cap_le
  have hz := h.length
  have hlc := h.le_cap
  go_enter Try.func23, Try.ntmps23
  go_wp2
  go_loop [7] (fun i => ∃ k : Nat, k ≤ len ∧ i = .int .i64 k ∧ allZ (zs.take k) = true) (fun i => len - (intOf i).toNat)
  case atStart => exact ⟨0, Nat.zero_le _, rfl, rfl⟩
  case round =>
    obtain ⟨k, hk, rfl, hall⟩ := hrel
    by_cases hlt : k < len
    · rcases h.place with h0 | ⟨b, off, rfl, hc⟩
      · omega
      · have hcell := hc k hlt
        clear hc
        have hkz : k < zs.length := by omega
        by_cases hx : zs.getD k 0 = 0
        · have HA := hide (allZ_step zs k hkz hall hx)
          rw [hx] at hcell
          clear hall hx
          go_wp2
          go_round
          case rel => exact ⟨k + 1, by omega, by go_num, HA.out⟩
          case measure => simp [intOf]; omega
        · have HA := hide (allZ_stop zs k hkz hx)
          clear hall
          generalize zs.getD k 0 = X at *
          go_wp2
          go_ret
          exact ⟨ret_bool HA.out.symm, rfl⟩
    · have hk' : k = len := by omega
      subst hk'
      rw [List.take_of_length_le (by omega)] at hall
      have HA := hide hall
      clear hall
      go_wp2
      go_ret
      exact ⟨ret_bool HA.out.symm, rfl⟩

/-! ### What is put into a bucket -/
theorem splice_splice (cur A B : List Int) (off : Nat) (h : off + A.length + B.length ≤ cur.length) : splice (splice cur off A) (off + A.length) B = splice cur off (A ++ B) := by
  unfold splice
  have e1 : (cur.take off).length = off := by rw [List.length_take]; omega
  have e2 : (cur.take off ++ A).length = off + A.length := by rw [List.length_append, e1]
  have e3 : (cur.take off ++ (A ++ cur.drop (off + A.length))).take (off + A.length) = cur.take off ++ A := by
    rw [← List.append_assoc]
    exact List.take_left' e2
  have e4 : (cur.take off ++ (A ++ cur.drop (off + A.length))).drop (off + A.length + B.length) = cur.drop (off + (A ++ B).length) := by
    rw [← List.drop_drop, ← List.append_assoc, List.drop_left' e2, List.drop_drop, List.length_append, Nat.add_assoc]
  have e5 : cur.take off ++ A ++ cur.drop (off + A.length) = cur.take off ++ (A ++ cur.drop (off + A.length)) := List.append_assoc _ _ _
  rw [e3, e4]
  simp only [List.append_assoc]
theorem splice_length (cur A : List Int) (off : Nat) (h : off + A.length ≤ cur.length) : (splice cur off A).length = cur.length := by
  unfold splice
  simp only [List.length_append, List.length_take, List.length_drop]
  omega
set_option maxHeartbeats 1000000 in
/-- What a call may turn: block g alone of what was there. -/
theorem putCell_any {g off n cap : Nat} {cur : List Int} {c : CV} {w : World} (hg : OwnB 5 w g cur) (hc : c.At w) (hoff : c.Off (some g)) (hi : 0 ≤ c.id ∧ c.id < 18446744073709551616) (hl : 0 ≤ c.leaf ∧ c.leaf < 18446744073709551616) (hn : 8 + c.d.zs.length ≤ n) (hnc : n ≤ cap) (hcc : cap ≤ 9223372036854775807) (hfit : off + 8 + c.d.zs.length ≤ cur.length) :
    Calls Try.prog 20 #[.slice (some ⟨g, off, none⟩) n cap, .agg c.row.toArray] w fun e w' => e = .returned (.tuple #[]) ∧ OwnB 5 w' g (splice cur off (tellC c.pc)) ∧ But g w w' := by
  obtain ⟨i, l, ⟨a, len, dc, zs⟩⟩ := c
  have hzl := hc.bs.length
  simp only at hzl hi hl hn hfit hoff
  have hgl := OwnB.lt hg
  have hw1 : IntKind.u64.wrap i = i := by rw [wrap_u64]; omega
  have hw2 : IntKind.u64.wrap l = l := by rw [wrap_u64]; omega
  show Calls Try.prog 20 #[.slice (some ⟨g, off, none⟩) n cap, .agg #[.int .i64 i, .int .i64 l, .slice a len dc]] w _
  have b0 := below_alloc (Below.refl w.heap.size w) (.cells #[.int .i64 i, .int .i64 l, .slice a len dc] 24)
  have n0 := heap_alloc_new w (.cells #[.int .i64 i, .int .i64 l, .slice a len dc] 24)
  have g0 := hg.below b0
  have B0 := But.of_below g b0
  have d0 := hc.below b0
  have hgs : g ≠ w.heap.size := by omega
  have hcut4 := run_cut_from (P := Try.prog) Try.underlying22 Try.size_u8 (some ⟨g, off, none⟩) n cap .i64 4 4 rfl (by omega)
  have hcut8 := run_cut_from (P := Try.prog) Try.underlying22 Try.size_u8 (some ⟨g, off, none⟩) n cap .i64 8 8 rfl (by omega)
  rw [show cutA (some ⟨g, off, none⟩) cap 4 = some ⟨g, off + 4, none⟩ by unfold cutA; rw [if_neg (by omega)]; simp [addr_add]] at hcut4
  go_enter Try.func20, Try.ntmps20
  go_wp2_with fail
  generalize (w.alloc (.cells #[.int .i64 i, .int .i64 l, .slice a len dc] 24)) = W at *
  have hWs : w.heap.size ≤ W.heap.size := b0.size
  have hbx : w.heap.size < W.heap.size := (Array.getElem?_eq_some_iff.1 n0).1
  refine (put_ok i 4 W hi (by omega)).mono ?_
  rintro e w1 ⟨rfl, h1, b1⟩
  have g1 := g0.below b1
  obtain ⟨w2, hr2, g2, on2⟩ := run_copy_bytes (P := Try.prog) Try.underlying22 Try.size_u8 3 w1 (some ⟨g, off, none⟩) (some ⟨W.heap.size, 0, none⟩) n cap 4 4 g off 4 cur (putL i 4) g1 (by omega) (.inr rfl) ((OwnB.owns h1 (putL_bytes _ _) (length_putL _ _) (by omega) (Nat.le_refl _)).bs) (by omega)
  have B2 := (B0.trans (But.of_below g b1)).trans (But.of_only on2)
  have n2 := (on2.block w.heap.size (by omega)).trans ((b1.block w.heap.size hbx).trans n0)
  have d2 : CV.At w2 ⟨i, l, ⟨a, len, dc, zs⟩⟩ := hc.keep fun h0 p hp => by
    obtain ⟨b, o, e, hlt⟩ := hc.lt h0
    have hne := hoff h0 p hp
    rw [e] at hp
    cases hp
    exact B2.block b hlt (fun e => hne (by rw [e]))
  rw [List.take_of_length_le (by rw [length_putL]; exact Nat.le_refl _)] at g2
  have hS2 : w.heap.size < w2.heap.size := by have := b1.size; have := on2.size; omega
  go_wp2_with fail
  clear hr2 h1 g1 on2 g0 d0 b1 n0 b0 B0
  refine wp_region_ord 1000 [0, 1, 2, 3, 4, 5, 6] (fun w' => w'.cell? ⟨w.heap.size, 1, none⟩ = some (.int .i64 l)) (fun _ => True) (by kernel_rfl) (by kernel_rfl) (by kernel_rfl) (cell_of_row _ _ 1 _ _ _ n2) trivial (fun _ _ => ?_)
  replace B2 := B2.drew
  replace n2 : w2.drew.heap[w.heap.size]? = some (.cells #[.int .i64 i, .int .i64 l, .slice a len dc] 24 (0, 0)) := n2
  replace g2 : OwnB 5 w2.drew g (splice cur off (putL i 4)) := g2
  replace d2 := d2.below (Below.refl _ _).drew
  replace hS2 : w.heap.size < w2.drew.heap.size := hS2
  generalize w2.drew = w3 at *
  repeat' (first
    | (refine wpOrd_quiet (v := ?_) rfl rfl (fun _ _ _ h => h) (by rfl) ?_ ?_
       rotate_left
       · (intro w' hT _; go_simp; try rfl)
       simp only [Act.put, List.setIfInBounds_toArray, List.set_cons_zero, List.set_cons_succ])
    | fail)
  refine wpOrd_step rfl rfl (by rfl) (fun K' hK => ?_)
  go_simp
  refine (put_ok l 4 w3 hl (by omega)).mono ?_
  rintro e w4 ⟨rfl, h4, b4⟩
  refine hK.out _ _ (cell_of_row _ _ 1 _ _ _ ((b4.block w.heap.size hS2).trans n2)) (fun h => absurd h (by decide)) (fun _ => ?_)
  clear hK K'
  try simp only [Act.put, List.setIfInBounds_toArray, List.set_cons_zero, List.set_cons_succ]
  have g4 := g2.below b4
  obtain ⟨w5, hr5, g5, on5⟩ := run_copy_bytes (P := Try.prog) Try.underlying22 Try.size_u8 3 w4 (some ⟨g, off + 4, none⟩) (some ⟨w3.heap.size, 0, none⟩) (n - 4) (cap - 4) 4 4 g (off + 4) 4 _ (putL l 4) g4 (by omega) (.inr rfl) ((OwnB.owns h4 (putL_bytes _ _) (length_putL _ _) (by omega) (Nat.le_refl _)).bs) (by rw [splice_length _ _ _ (by rw [length_putL]; omega)]; omega)
  rw [List.take_of_length_le (by rw [length_putL]; exact Nat.le_refl _)] at g5
  have B5 := (B2.trans (But.of_below g b4)).trans (But.of_only on5)
  have n5 := (on5.block w.heap.size (by omega)).trans ((b4.block w.heap.size hS2).trans n2)
  refine wpOrd_step rfl rfl (by rfl) (fun K' hK => ?_)
  go_simp
  refine hK.out _ _ (cell_of_row _ _ 1 _ _ _ n5) (fun h => absurd h (by decide)) (fun _ => ?_)
  clear hK K'
  try simp only [Act.put, List.setIfInBounds_toArray, List.set_cons_zero, List.set_cons_succ]
  refine wpOrd_nil ?_
  go_wp2_with fail
  have hS5 : w.heap.size < w5.heap.size := by have := b4.size; have := on5.size; omega
  have L1 : (splice cur off (putL i 4)).length = cur.length := splice_length _ _ _ (by rw [length_putL]; omega)
  have d5 : CV.At w5 ⟨i, l, ⟨a, len, dc, zs⟩⟩ := hc.keep fun h0 p hp => by
    obtain ⟨b, o, e, hlt⟩ := hc.lt h0
    have hne := hoff h0 p hp
    rw [e] at hp
    cases hp
    exact B5.block b hlt (fun e => hne (by rw [e]))
  rw [show off + 4 = off + (putL i 4).length by rw [length_putL], splice_splice _ _ _ _ (by rw [length_putL, length_putL]; omega)] at g5
  clear hr5 h4 g4 on5 g2 d2 b4 n2 B2
  refine wp_region_ord 1000 [0, 1, 2, 3, 4] (fun w' => w'.cell? ⟨w.heap.size, 2, none⟩ = some (.slice a len dc)) (fun _ => True) (by kernel_rfl) (by kernel_rfl) (by kernel_rfl) (cell_of_row _ _ 2 _ _ _ n5) trivial (fun _ _ => ?_)
  replace B5 := B5.drew
  replace n5 : w5.drew.heap[w.heap.size]? = some (.cells #[.int .i64 i, .int .i64 l, .slice a len dc] 24 (0, 0)) := n5
  replace g5 : OwnB 5 w5.drew g (splice cur off (putL i 4 ++ putL l 4)) := g5
  replace d5 := d5.below (Below.refl _ _).drew
  generalize w5.drew = w6 at *
  have L2 : (splice cur off (putL i 4 ++ putL l 4)).length = cur.length := splice_length _ _ _ (by rw [List.length_append, length_putL, length_putL]; omega)
  obtain ⟨w7, hr7, g7, on7⟩ := run_copy_bytes (P := Try.prog) Try.underlying22 Try.size_u8 3 w6 (cutA (some ⟨g, off, none⟩) cap 8) a (n - 8) (cap - 8) len dc g (off + 8) len _ zs g5 (by omega) (by
    by_cases h0 : len = 0
    · exact .inl h0
    · right
      unfold cutA
      rw [if_neg (by omega)]
      simp [addr_add]) d5.bs (by omega)
  rw [List.take_of_length_le (by omega), show off + 8 = off + (putL i 4 ++ putL l 4).length by rw [List.length_append, length_putL, length_putL], splice_splice _ _ _ _ (by rw [List.length_append, length_putL, length_putL]; omega), List.append_assoc] at g7
  have n7 := (on7.block w.heap.size (by omega)).trans n5
  have B7 := B5.trans (But.of_only on7)
  clear g5 d5 on7 n5 B5
  repeat' (first
    | (refine wpOrd_quiet (v := ?_) rfl rfl (fun _ _ _ h => h) (by rfl) ?_ ?_
       rotate_left
       · (intro w' hT _; go_simp; try rfl)
       simp only [Act.put, List.setIfInBounds_toArray, List.set_cons_zero, List.set_cons_succ])
    | fail)
  refine wpOrd_step rfl rfl (by rfl) (fun K' hK => ?_)
  go_simp
  refine hK.out _ _ (cell_of_row _ _ 2 _ _ _ n7) (fun h => absurd h (by decide)) (fun _ => ?_)
  clear hK K'
  try simp only [Act.put, List.setIfInBounds_toArray, List.set_cons_zero, List.set_cons_succ]
  refine wpOrd_nil ?_
  go_wp2_with fail
  refine bodyPost_end (results_none rfl _ _ _) rfl ?_
  exact ⟨rfl, g7, B7⟩
#print axioms isCell_any
#print axioms putCell_any
end Go.Proofs.Ytgjffoeegnljlaa
