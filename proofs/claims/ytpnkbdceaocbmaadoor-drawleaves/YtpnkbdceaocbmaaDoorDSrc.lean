/- What calls of package draw do: for every Source in memory, every number; nothing that was there is turned but the Source itself. -/
import Derived.Test.YtpnkbdceaocbmaaDoorDBase
import Derived.Test.YtpnkbdceaocbmaaDoorCBlock
import Derived.Test.YtpnkbdceaocbmaaDoorQRef
namespace Go.Proofs.YtpnkbdceaocbmaaDoor
open Go.RowKit

/-- A Source's row. -/
def SrcAt (w : World) (g : Nat) (t : Value) (key : List Int) (st : Bool) (n : Nat) : Prop := w.heap[g]? = some (.cells (srcV t key st n) 45 (0, 0))
theorem SrcAt.lt {w : World} {g : Nat} {t : Value} {key : List Int} {st : Bool} {n : Nat} (h : SrcAt w g t key st n) : g < w.heap.size := (Array.getElem?_eq_some_iff.1 h).1
theorem SrcAt.cell {w : World} {g : Nat} {t : Value} {key : List Int} {st : Bool} {n : Nat} (h : SrcAt w g t key st n) (j : Nat) : w.cell? ⟨g, j, none⟩ = (srcV t key st n)[j]? := cell_of_row w g j _ _ _ h
theorem SrcAt.froz {w : World} {g : Nat} {t : Value} {key : List Int} {st : Bool} {n : Nat} (h : SrcAt w g t key st n) (j : Nat) : w.frozen? ⟨g, j, none⟩ = false := frozen_of_row w g j _ _ h
theorem SrcAt.next {w : World} {g : Nat} {t : Value} {key : List Int} {st : Bool} {n : Nat} (h : SrcAt w g t key st n) (hk : key.length = 32) (m : Nat) : SrcAt (w.setCell ⟨g, 34, none⟩ (.int .u64 (m : Int))) g t key st m := by
  unfold SrcAt at h ⊢
  rw [heap_setCell_same w g 34 _ _ _ h, srcV_set _ _ _ _ _ hk]

set_option maxHeartbeats 400000 in
theorem leaves_any (n : Int) (w : World) (hn : -9223372036854775808 ≤ n ∧ n ≤ 9223372036854775807) :
    Calls Tryd.prog 13 #[.int .i64 n] w fun e w' => e = .returned (.bool (lvs n)) ∧ w = w' := by
  by_cases h1 : 1 ≤ n
  · by_cases h2 : n ≤ 65536
    · obtain ⟨m, rfl⟩ := Int.eq_ofNat_of_zero_le (show 0 ≤ n by omega)
      have hL : lvs (m : Int) = decide (m &&& (m - 1) = 0) := by simp [lvs, h1, h2]
      rw [hL]
      have hs : IntKind.i64.wrap ((m : Int) - 1) = ((m - 1 : Nat) : Int) := by rw [IntKind.wrap_i64]; omega
      have hA := i64_and_nat m (m - 1) (by omega) (by omega)
      have hE : ((((m &&& (m - 1) : Nat) : Int)) == 0) = decide (m &&& (m - 1) = 0) := by
        rw [Bool.eq_iff_iff]; simp
      clear hL
      generalize (m &&& (m - 1)) = X at *
      go_enter Tryd.func13, Tryd.ntmps13
      go_wp2
      go_ret
      exact ⟨by first | rfl | (simp; omega), rfl⟩
    · have hL : lvs n = false := by simp [lvs, h2]
      rw [hL]
      go_enter Tryd.func13, Tryd.ntmps13
      go_wp2
      go_ret
      exact ⟨rfl, rfl⟩
  · have hL : lvs n = false := by simp [lvs, h1]
    rw [hL]
    go_enter Tryd.func13, Tryd.ntmps13
    go_wp2
    go_ret
    exact ⟨rfl, rfl⟩

theorem Tryd.info_u32 : (Tryd.prog.info? 33).map (fun i => (i.zero, i.size, i.bytes)) = some (some (.int .u32 0), 1, 4) := by kernel_rfl
theorem Tryd.size_u32 : (Tryd.prog.info? 33).map (·.size) = some 1 := by kernel_rfl
theorem zero12 : (Tryd.prog.info? 47).bind (·.zero) = some (.agg (bV (zL 12))) := by kernel_rfl

theorem run_arr_all {P : Program} {ty E : TypeId} {n : Nat} (hu : P.underlying ty = some (.array n E)) (hsz : (P.info? E).map (·.size) = some 1) (g : Nat) (w : World) :
    (Instr.sliceAt ty (.pointer (some ⟨g, 0, none⟩)) none none none).run P w = .ok (.slice (some ⟨g, 0, none⟩) n n) w := by
  obtain ⟨info, hq, hs⟩ := Option.map_eq_some_iff.1 hsz
  have e1 : P.elem ty = E := by simp [Program.elem, hu]
  have e2 : P.arrayLen ty = n := by simp [Program.arrayLen, hu]
  rw [run_sliceAt_array_all w ty ⟨g, 0, none⟩ (by rw [e1, e2]; exact hu), e1, e2]
  simp [sizeOf, typeInfo, hq, hs, slicedAt, addr_add]

set_option maxRecDepth 100000 in
set_option maxHeartbeats 1000000 in
theorem streamDraw_any (key : List Int) (n : Nat) (w : World) (hk : IsBytes key) (hkl : key.length = 32) (hn : n < 18446744073709551616) (hg : Glob w) :
    Calls Tryd.prog 23 #[.agg (bV key), .int .u64 (n : Int)] w fun e w' => e = .returned (.int .u32 ((streamD key n).toNat : Int)) ∧ Below w.heap.size w w' := by
  have n1 := heap_alloc_new w (Obj.cells (bV key) 22)
  have n2 := heap_alloc_new (w.alloc (Obj.cells (bV key) 22)) (Obj.cells (bV (zL 12)) 47)
  simp only [size_alloc] at n2
  have hb0 := below_alloc (below_alloc (Below.refl w.heap.size w) (Obj.cells (bV key) 22)) (Obj.cells (bV (zL 12)) 47)
  have m1 := block_alloc n1 (Obj.cells (bV (zL 12)) 47)
  have hg0 := hg.below hb0 hg.lt
  clear n1
  go_enter Tryd.func23, Tryd.ntmps23
  go_wp2_with (refine wpList_newA (by rfl) 47 (by rfl) _ zero12 (w.heap.size + 1) (size_alloc _ _) ?_)
  have HD : Hid (streamD key n = word4 (blkL (stW key (nonceL (n / 16)) 0)) (n % 16)) := rfl
  obtain ⟨q, hqN⟩ : ∃ q : Nat, n / 16 = q := ⟨_, rfl⟩
  obtain ⟨m, hmN⟩ : ∃ m : Nat, n % 16 = m := ⟨_, rfl⟩
  have hq : (n : Int) / 16 = (q : Int) := by omega
  have hr : (n : Int) % 16 = (m : Int) := by omega
  have hm : m < 16 := by omega
  have hql : q < 18446744073709551616 := by omega
  have hqw : IntKind.u64.wrap (q : Int) = (q : Int) := by rw [wrap_u64]; omega
  rw [hqN, hmN] at HD
  clear hqN hmN
  have hsl := run_arr_all (P := Tryd.prog) Tryd.underlying47 Tryd.size_u8 (w.heap.size + 1)
  generalize ((w.alloc (Obj.cells (bV key) 22)).alloc (Obj.cells (bV (zL 12)) 47)) = W0 at *
  refine wp_region_ord 1000 [0, 1, 2, 3, 4] (fun _ => True) (fun _ => True) (by kernel_rfl) (by kernel_rfl) (by kernel_rfl) trivial trivial (fun _ _ => ?_)
  replace hb0 := hb0.drew
  replace m1 : OwnB 22 W0.drew w.heap.size key := m1
  replace n2 : OwnB 47 W0.drew (w.heap.size + 1) (zL 12) := n2
  replace hg0 : Glob W0.drew := hg0
  generalize W0.drew = W1 at *
  repeat' (refine wpOrd_quiet (v := ?_) rfl rfl (fun _ _ _ h => h) (by rfl) ?_ ?_
           rotate_left
           · (intro w' _ _; go_simp; try rfl)
           simp only [Act.put, List.setIfInBounds_toArray, List.set_cons_zero, List.set_cons_succ])
  refine wpOrd_step rfl rfl (by rfl) (fun K' hK => ?_)
  go_simp
  refine (put_at _ _ 8 W1 rfl (by omega) (by omega)).mono ?_
  rintro e w2 ⟨rfl, hO2, hb2⟩
  have hb2' := hb0.trans (hb2.mono hb0.size)
  have k2 := m1.below hb2
  have z2 := n2.below hb2
  have hg2 := hg0.below hb2 hg0.lt
  have hlt1 : w.heap.size + 1 < W1.heap.size := n2.lt
  clear hb2 m1 n2 hg0 hb0
  obtain ⟨w3, hr3, hP3, ho3⟩ := run_copy_bytes (P := Tryd.prog) Tryd.underlying48 Tryd.size_u8 3 w2 (some ⟨w.heap.size + 1, 0, none⟩) (some ⟨W1.heap.size, 0, none⟩) 12 12 8 8 (w.heap.size + 1) 0 8 (zL 12) _ z2 (by omega) (.inr rfl) (hO2.bs (putL_bytes _ _) 8 (length_putL _ _) (by omega)) (by rw [zL_length]; omega)
  have k3 := ho3.own k2 (by omega)
  have hb3 := ho3.below hb2' (by omega)
  have hg3 : Glob w3 := rangeAt_keep hg2 (ho3.block _ (by have := hg.lt; omega))
  refine hK.out _ _ trivial (fun h => absurd h (by decide)) (fun _ => ?_)
  clear hK K' k2 z2 hO2 hb2' ho3
  try simp only [Act.put, List.setIfInBounds_toArray, List.set_cons_zero, List.set_cons_succ]
  refine wpOrd_step rfl rfl (by rfl) (fun K' hK => ?_)
  go_simp
  refine hK.out _ _ trivial (fun h => absurd h (by decide)) (fun _ => ?_)
  clear hK K' hr3
  try simp only [Act.put, List.setIfInBounds_toArray, List.set_cons_zero, List.set_cons_succ]
  refine wpOrd_nil ?_
  have hP : OwnB 47 w3 (w.heap.size + 1) (nonceL q) := by
    exact hP3
  clear hP3
  go_wp2_with (first
    | (refine wpList_loadA arrT32 (by rfl) _ (by rfl) w.heap.size (by rfl) (bV key) k3 (by rw [bV_size, hkl]) ?_)
    | (refine wpList_loadA arrT12 (by rfl) _ (by rfl) (w.heap.size + 1) (by rfl) (bV (nonceL q)) hP (by rw [bV_size, nonceL_length]) ?_))
  refine (block_any key (nonceL q) 0 w3 hk hkl (nonceL_bytes _) (nonceL_length _) hg3).mono ?_
  rintro e w4 ⟨rfl, hb4⟩
  have hb4' := hb3.trans (hb4.mono hb3.size)
  clear hb4 hb3 hg3 k3 hP hg2
  have hbl := blkL_length (stW key (nonceL q) 0)
  have hby := blkL_bytes (stW key (nonceL q) 0)
  generalize blkL (stW key (nonceL q) 0) = blk at *
  have n4 := heap_alloc_new w4 (Obj.cells (bV (zL 64)) 50)
  have hb5 := Below.setRow (below_alloc hb4' (Obj.cells (bV (zL 64)) 50)) (show w.heap.size ≤ w4.heap.size from hb4'.size) (bV blk)
  have hB5 : OwnB 50 ((w4.alloc (Obj.cells (bV (zL 64)) 50)).setRow w4.heap.size (bV blk)) w4.heap.size blk := setRow_heap _ _ _ _ _ _ n4
  have hcut := run_arr_mid (P := Tryd.prog) Tryd.underlying50 Tryd.size_u8 w4.heap.size .u64 .u64 (4 * (m : Int)) (4 * (m : Int) + 4) (4 * m) (4 * m + 4) (by omega) (by omega) (by omega) (by omega) (by omega)
  rw [show 4 * m + 4 - 4 * m = 4 by omega] at hcut
  have hw1 : IntKind.u64.wrap (4 * (m : Int)) = 4 * (m : Int) := by rw [wrap_u64]; omega
  have hw2 : IntKind.u64.wrap (4 * (m : Int) + 4) = 4 * (m : Int) + 4 := by rw [wrap_u64]; omega
  go_wp2_with (first
    | (refine wpList_newA (by rfl) 50 (by rfl) _ zero64 w4.heap.size rfl ?_)
    | (refine wpList_putA arrT64 (by rfl) _ _ (by rfl) w4.heap.size (bV blk) (by rfl) (by rfl) _ n4 (by rw [bV_size, hbl]) (bV_size _) (bV_one _) ?_))
  have HG := get_any _ (hB5.bsAt hby (4 * m) 4 (64 - 4 * m) (by omega) (by omega) (by omega))
  rw [take48, word4_num blk hby m] at HG
  have hu := u32_lt (word4 blk m)
  refine HG.mono ?_
  rintro e w6 ⟨rfl, rfl⟩
  generalize ((w4.alloc (Obj.cells (bV (zL 64)) 50)).setRow w4.heap.size (bV blk)) = W5 at *
  clear HG hcut
  go_wp2_with fail
  go_ret
  exact ⟨by rw [HD.out]; rfl, hb5⟩
#print axioms streamDraw_any

/-! ### A Source, and its draws -/
/-- What a Source is of: a key, or a tape that lies in block b. -/
abbrev SK : Type := Sum (List Int) (Nat × List Int)
abbrev SK.strm (key : List Int) : SK := Sum.inl key
abbrev SK.tape (b : Nat) (l : List Int) : SK := Sum.inr (b, l)
def SK.D (K : SK) : Nat → BitVec 32 :=
  match K with
  | .inl key => streamD key
  | .inr (_, l) => tapeD l
/-- Block g is none that it reads. -/
def SK.away (g : Nat) (K : SK) : Prop :=
  match K with
  | .inl _ => True
  | .inr (b, _) => b ≠ g
/-- Block g holds a Source of K, of which draw n is the next one. -/
def Src (w : World) (g : Nat) (K : SK) (n : Nat) : Prop :=
  n < 18446744073709551616 ∧ match K with
    | .inl key => IsBytes key ∧ key.length = 32 ∧ SrcAt w g (.slice none 0 0) key true n
    | .inr (b, l) => AllK .u32 l ∧ l.length ≤ 9223372036854775807 ∧ b ≠ g ∧ OwnN .u32 33 w b l ∧ SrcAt w g (.slice (some ⟨b, 0, none⟩) l.length l.length) (zL 32) false n
theorem Src.lt {w : World} {g n : Nat} {K : SK} (h : Src w g K n) : g < w.heap.size := by
  rcases K with key | ⟨b, l⟩
  · exact h.2.2.2.lt
  · exact h.2.2.2.2.2.lt
theorem Src.below {w w' : World} {g n : Nat} {K : SK} (h : Src w g K n) (hb : Below w.heap.size w w') : Src w' g K n := by
  rcases K with key | ⟨b, l⟩
  · obtain ⟨h0, h1, h2, h4⟩ := h
    exact ⟨h0, h1, h2, (hb.block g h4.lt).trans h4⟩
  · obtain ⟨h0, h1, h2, h4, h5, h6⟩ := h
    exact ⟨h0, h1, h2, h4, h5.below hb, (hb.block g h6.lt).trans h6⟩
theorem Src.but {w w' : World} {g g' n : Nat} {K : SK} (h : Src w g K n) (hb : But g' w w') (hg : g ≠ g') (hK : K.away g') : Src w' g K n := by
  rcases K with key | ⟨b, l⟩
  · obtain ⟨h0, h1, h2, h4⟩ := h
    exact ⟨h0, h1, h2, hb.heap h4 hg⟩
  · obtain ⟨h0, h1, h2, h4, h5, h6⟩ := h
    exact ⟨h0, h1, h2, h4, h5.but hb hK, hb.heap h6 hg⟩
theorem Src.drew {w : World} {g n : Nat} {K : SK} (h : Src w g K n) : Src w.drew g K n := h
/-- The number of the next one, and where it stands. -/
theorem Src.num {w : World} {g n : Nat} {K : SK} (h : Src w g K n) : w.cell? ⟨g, 34, none⟩ = some (.int .u64 (n : Int)) ∧ w.frozen? ⟨g, 34, none⟩ = false := by
  rcases K with key | ⟨b, l⟩
  · obtain ⟨h0, h1, h2, h4⟩ := h
    exact ⟨by rw [h4.cell, srcV_34 _ _ _ _ h2], h4.froz _⟩
  · obtain ⟨h0, h1, h2, h4, h5, h6⟩ := h
    exact ⟨by rw [h6.cell, srcV_34 _ _ _ _ (zL_length _)], h6.froz _⟩
theorem Src.next {w : World} {g n : Nat} {K : SK} (h : Src w g K n) (m : Nat) (hm : m < 18446744073709551616) : Src (w.setCell ⟨g, 34, none⟩ (.int .u64 (m : Int))) g K m := by
  rcases K with key | ⟨b, l⟩
  · obtain ⟨h0, h1, h2, h4⟩ := h
    exact ⟨hm, h1, h2, h4.next h2 m⟩
  · obtain ⟨h0, h1, h2, h4, h5, h6⟩ := h
    exact ⟨hm, h1, h2, h4, (OnlyAt.setCell' g 34 w _).block b h4 |>.trans h5, h6.next (zL_length _) m⟩

theorem used_any {g n : Nat} {K : SK} (w : World) (h : Src w g K n) :
    Calls Tryd.prog 10 #[.pointer (some ⟨g, 0, none⟩)] w fun e w' => e = .returned (.int .u64 (n : Int)) ∧ w = w' := by
  have hc := h.num.1
  go_enter Tryd.func10, Tryd.ntmps10
  go_wp2
  go_ret
  exact ⟨rfl, rfl⟩

theorem seek_any {g n : Nat} {K : SK} (m : Nat) (w : World) (h : Src w g K n) (hm : m < 18446744073709551616) :
    Calls Tryd.prog 18 #[.pointer (some ⟨g, 0, none⟩), .int .u64 (m : Int)] w fun e w' => e = .returned (.tuple #[]) ∧ Src w' g K m ∧ But g w w' := by
  have hc := h.num.1
  have hf := h.num.2
  have hS := h.next m hm
  have hB := But.of_only (OnlyAt.setCell' g 34 w (.int .u64 (m : Int)))
  go_enter Tryd.func18, Tryd.ntmps18
  go_wp2
  refine bodyPost_end (results_none rfl _ _ _) rfl ?_
  exact ⟨rfl, hS, hB⟩

/-- The cells of the key. -/
theorem key_row {w : World} {g n : Nat} {t : Value} {key : List Int} {st : Bool} (h : SrcAt w g t key st n) : w.rangeAt g 1 (key.map (Value.int .u8)) := fun j v hv => by
  have hj : j < key.length := by
    have := (List.getElem?_eq_some_iff.1 hv).1
    simpa using this
  rw [h.cell, srcV_key _ _ _ _ j hj, ← hv]
  simp [List.getD, hj]
theorem wpList_load_bytes {P : Program} {Q : Exit → Act → World → Prop} {ops : Array Oper} {rest : List Oper} {o : Oper} {a : Act} {w : World} {ty : TypeId} {n : Nat} (hA : ArrT P ty n) (hg : o.guard = none) (x : Operand) (hop : o.op = .load ty x) (b off : Nat)
    (hx : a.eval x = .pointer (some ⟨b, off, none⟩)) (zs : List Int) (hc : w.rangeAt b off (zs.map (Value.int .u8))) (hn : zs.length = n) (h : wpList P ops Q rest (a.put o.dst (.agg (bV zs))) w) : wpList P ops Q (o :: rest) a w := by
  obtain ⟨m, e, hu⟩ := hA.und
  exact wpList_load_mid hg ty x hop b off hx _ _ hc hu rfl (by rw [List.length_map, hn, hA.size]) h

set_option maxHeartbeats 1000000 in
theorem draw_stream {g n : Nat} {t : Value} {key : List Int} (m : Nat) (w : World) (hk : IsBytes key) (hkl : key.length = 32) (h : SrcAt w g t key true n) (hm : m < 18446744073709551616) (hg : Glob w) :
    Calls Tryd.prog 19 #[.pointer (some ⟨g, 0, none⟩), .int .u64 (m : Int)] w fun e w' => e = .returned (.int .u32 ((streamD key m).toNat : Int)) ∧ Below w.heap.size w w' := by
  have hc : w.cell? ⟨g, 33, none⟩ = some (.bool true) := by rw [h.cell, srcV_33 _ _ _ _ hkl]
  have hK := key_row h
  go_enter Tryd.func19, Tryd.ntmps19
  go_wp2_with (refine wpList_load_bytes arrT32 (by rfl) _ (by rfl) g 1 (by rfl) key hK hkl ?_)
  refine (streamDraw_any key m w hk hkl hm hg).mono ?_
  rintro e w1 ⟨rfl, hb⟩
  go_wp2_with fail
  go_ret
  exact ⟨rfl, hb⟩

set_option maxHeartbeats 1000000 in
theorem draw_tape {g b n : Nat} {key l : List Int} (m : Nat) (w : World) (hkl : key.length = 32) (hl : AllK .u32 l) (hll : l.length ≤ 9223372036854775807) (hO : OwnN .u32 33 w b l) (h : SrcAt w g (.slice (some ⟨b, 0, none⟩) l.length l.length) key false n) (_hm : m < 18446744073709551616) :
    Calls Tryd.prog 19 #[.pointer (some ⟨g, 0, none⟩), .int .u64 (m : Int)] w fun e w' => e = .returned (.int .u32 ((tapeD l m).toNat : Int)) ∧ w = w' := by
  have hc : w.cell? ⟨g, 33, none⟩ = some (.bool false) := by rw [h.cell, srcV_33 _ _ _ _ hkl]
  have ht : w.cell? ⟨g, 0, none⟩ = some (.slice (some ⟨b, 0, none⟩) l.length l.length) := by rw [h.cell, srcV_0]
  have hw : IntKind.u64.wrap (l.length : Int) = (l.length : Int) := by rw [wrap_u64]; omega
  by_cases hlt : m < l.length
  · have hx := hO.cell m hlt
    have HD : Hid (l.getD m 0 = ((tapeD l m).toNat : Int)) := tapeD_num hl m
    generalize l.getD m 0 = X at *
    clear hO h hl
    generalize l.length = len at *
    go_enter Tryd.func19, Tryd.ntmps19
    go_wp2
    go_ret
    exact ⟨by rw [← HD.out]; rfl, rfl⟩
  · have HD : Hid (tapeD l m = 0) := tapeD_end l m (by omega)
    clear hO h hl
    generalize l.length = len at *
    go_enter Tryd.func19, Tryd.ntmps19
    go_wp2
    go_ret
    exact ⟨by rw [HD.out]; rfl, rfl⟩

theorem draw_any {g n : Nat} {K : SK} (m : Nat) (w : World) (h : Src w g K n) (hm : m < 18446744073709551616) (hg : Glob w) :
    Calls Tryd.prog 19 #[.pointer (some ⟨g, 0, none⟩), .int .u64 (m : Int)] w fun e w' => e = .returned (.int .u32 ((K.D m).toNat : Int)) ∧ Below w.heap.size w w' := by
  rcases K with key | ⟨b, l⟩
  · obtain ⟨h0, h1, h2, h4⟩ := h
    exact draw_stream m w h1 h2 h4 hm hg
  · obtain ⟨h0, h1, h2, h4, h5, h6⟩ := h
    refine (draw_tape m w (zL_length _) h1 h2 h5 h6 hm).mono ?_
    rintro e w1 ⟨rfl, rfl⟩
    exact ⟨rfl, Below.refl _ _⟩

set_option maxHeartbeats 1000000 in
theorem next_any {g n : Nat} {K : SK} (leaves : Int) (w : World) (h : Src w g K n) (hg : Glob w) (hg0 : g ≠ 0) (hl : -9223372036854775808 ≤ leaves ∧ leaves ≤ 9223372036854775807) :
    Calls Tryd.prog 9 #[.pointer (some ⟨g, 0, none⟩), .int .i64 leaves] w fun e w' => e = .returned (.int .i64 (among (K.D n) leaves)) ∧ Src w' g K ((n + 1) % 18446744073709551616) ∧ Glob w' ∧ But g w w' := by
  have hc := h.num.1
  have hf := h.num.2
  have hn := h.1
  have hw : IntKind.u64.wrap ((n : Int) + 1) = (((n + 1) % 18446744073709551616 : Nat) : Int) := by rw [wrap_u64]; omega
  have hS := h.next ((n + 1) % 18446744073709551616) (Nat.mod_lt _ (by decide))
  have hO := OnlyAt.setCell' g 34 w (.int .u64 (((n + 1) % 18446744073709551616 : Nat) : Int))
  have hB := But.of_only hO
  have hG : Glob (w.setCell ⟨g, 34, none⟩ (.int .u64 (((n + 1) % 18446744073709551616 : Nat) : Int))) := rangeAt_keep hg (hO.block _ (by omega))
  clear hO h hg
  generalize (n + 1) % 18446744073709551616 = n' at *
  go_enter Tryd.func9, Tryd.ntmps9
  go_wp2_with fail
  generalize (w.setCell ⟨g, 34, none⟩ (.int .u64 (n' : Int))) = W1 at *
  refine (leaves_any leaves W1 hl).mono ?_
  rintro e w1 ⟨rfl, rfl⟩
  cases hL : lvs leaves with
  | false =>
    have HA : Hid (among (K.D n) leaves = 0) := among_no _ _ hL
    go_wp2_with fail
    go_ret
    exact ⟨by rw [HA.out]; rfl, hS, hG, hB⟩
  | true =>
    obtain ⟨k, hk, hp⟩ := (lvs_iff _).1 hL
    have HA : Hid (among (K.D n) leaves = (((K.D n).toNat % 2 ^ k : Nat) : Int)) := by
      show _ = _
      rw [hp]
      exact among_pow _ _ hk
    have h0 : 0 < 2 ^ k := Nat.pow_pos (by decide)
    have h1 : 2 ^ k ≤ 2 ^ 16 := Nat.pow_le_pow_right (by decide) hk
    have hM := u32_mask (K.D n) k (by omega) (leaves - 1) (by rw [hp, Int.natCast_pow]; rfl)
    have hlt : (K.D n).toNat % 2 ^ k < 2 ^ k := Nat.mod_lt _ h0
    generalize (K.D n).toNat % 2 ^ k = Y at *
    have hl1 : 1 ≤ leaves ∧ leaves ≤ 65536 := by omega
    have hY : Y < 65536 := by omega
    clear hp h0 h1 hlt hL
    have hs : IntKind.i64.wrap (leaves - 1) = leaves - 1 := by rw [IntKind.wrap_i64]; omega
    have hs2 : IntKind.u32.wrap (leaves - 1) = leaves - 1 := by rw [IntKind.wrap_u32']; omega
    have hs3 : IntKind.i64.wrap (Y : Int) = (Y : Int) := by rw [IntKind.wrap_i64]; omega
    go_wp2_with fail
    refine (draw_any n W1 hS hn hG).mono ?_
    rintro e w2 ⟨rfl, hb2⟩
    have hS2 := hS.below hb2
    have hG2 := hG.below hb2 hG.lt
    have hB2 := hB.trans (But.of_below g hb2)
    go_wp2_with fail
    go_ret
    exact ⟨by rw [HA.out]; rfl, hS2, hG2, hB2⟩
#print axioms next_any
theorem next_strm {g n : Nat} {key : List Int} (leaves : Int) (w : World) (h : Src w g (.strm key) n) (hg : Glob w) (hg0 : g ≠ 0) (hl : -9223372036854775808 ≤ leaves ∧ leaves ≤ 9223372036854775807) :
    Calls Tryd.prog 9 #[.pointer (some ⟨g, 0, none⟩), .int .i64 leaves] w fun e w' => e = .returned (.int .i64 (among (streamD key n) leaves)) ∧ Src w' g (.strm key) ((n + 1) % 18446744073709551616) ∧ Glob w' ∧ But g w w' := next_any leaves w h hg hg0 hl
theorem next_tape {g n b : Nat} {l : List Int} (leaves : Int) (w : World) (h : Src w g (.tape b l) n) (hg : Glob w) (hg0 : g ≠ 0) (hl : -9223372036854775808 ≤ leaves ∧ leaves ≤ 9223372036854775807) :
    Calls Tryd.prog 9 #[.pointer (some ⟨g, 0, none⟩), .int .i64 leaves] w fun e w' => e = .returned (.int .i64 (among (tapeD l n) leaves)) ∧ Src w' g (.tape b l) ((n + 1) % 18446744073709551616) ∧ Glob w' ∧ But g w w' := next_any leaves w h hg hg0 hl

/-! ### New ones -/
theorem built_stream (key : List Int) (h : key.length = 32) (n : Int) : Tryd.prog.built 45 [(1, .agg (bV key)), (2, .bool true), (3, .int .u64 n)] = some ((Value.slice none 0 0 :: (key.map (Value.int .u8) ++ [Value.bool true, Value.int .u64 n])).toArray) := by
  match key, h with
  | [k0, k1, k2, k3, k4, k5, k6, k7, k8, k9, k10, k11, k12, k13, k14, k15, k16, k17, k18, k19, k20, k21, k22, k23, k24, k25, k26, k27, k28, k29, k30, k31], _ => show (_ : Option (Array Value)) = _; kernel_rfl
theorem built_tape (a : Option Addr) (len cap : Nat) : Tryd.prog.built 45 [(0, .slice a len cap)] = some (srcV (.slice a len cap) (zL 32) false 0) := by kernel_rfl
theorem wpList_build_at {P : Program} {ops : Array Oper} {rest : List Oper} {o : Oper} {a : Act} {w : World} {Q : Exit → Act → World → Prop} (hg : o.guard = none) (t : TypeId) (parts : Array (Nat × Operand)) (ho : o.op = .build t parts)
    (ps : List (Nat × Value)) (hps : (parts.map fun (i, x) => (i, a.eval x)).toList = ps) (cells : Array Value) (hf : P.built t ps = some cells)
    (h : wpList P ops Q rest (a.put o.dst (.agg cells)) w) : wpList P ops Q (o :: rest) a w :=
  wpList_build_is hg t parts ho cells (by rw [hps]; exact hf) h

set_option maxHeartbeats 1000000 in
theorem stream_any (key : List Int) (n : Nat) (w : World) (hk : IsBytes key) (hkl : key.length = 32) (hn : n < 18446744073709551616) :
    Calls Tryd.prog 8 #[.agg (bV key), .int .u64 (n : Int)] w fun e w' => ∃ g, e = .returned (.pointer (some ⟨g, 0, none⟩)) ∧ w.heap.size ≤ g ∧ Src w' g (.strm key) n ∧ Below w.heap.size w w' := by
  have n1 := heap_alloc_new w (Obj.cells (bV key) 22)
  have hb := below_alloc (Below.refl w.heap.size w) (Obj.cells (bV key) 22)
  have hB := built_stream key hkl (n : Int)
  go_enter Tryd.func8, Tryd.ntmps8
  go_wp2_with (first
    | (refine wpList_loadA arrT32 (by rfl) _ (by rfl) w.heap.size (by rfl) (bV key) n1 (by rw [bV_size, hkl]) ?_)
    | (refine wpList_build_at rfl 45 _ rfl [(1, .agg (bV key)), (2, .bool true), (3, .int .u64 (n : Int))] (by kernel_rfl) (srcV (.slice none 0 0) key true n) hB ?_))
  have n2 := heap_alloc_new (w.alloc (Obj.cells (bV key) 22)) (Obj.cells (srcV (.slice none 0 0) key true n) 45)
  simp only [size_alloc] at n2
  have hb2 := below_alloc hb (Obj.cells (srcV (.slice none 0 0) key true n) 45)
  generalize ((w.alloc (Obj.cells (bV key) 22)).alloc (Obj.cells (srcV (.slice none 0 0) key true n) 45)) = W2 at *
  go_ret
  exact ⟨w.heap.size + 1, rfl, by omega, ⟨hn, hk, hkl, n2⟩, hb2⟩

set_option maxHeartbeats 1000000 in
theorem tape_any {a : Option Addr} {len cap : Nat} {l : List Int} (w : World) (h : Ns .u32 w a len cap l) (hl : len ≤ 1000) :
    Calls Tryd.prog 12 #[.slice a len cap] w fun e w' => ∃ g b, e = .returned (.pointer (some ⟨g, 0, none⟩)) ∧ w.heap.size ≤ g ∧ w.heap.size ≤ b ∧ b < w'.heap.size ∧ Src w' g (.tape b l) 0 ∧ Below w.heap.size w w' := by
  have hz := h.length
  have hmk := run_make_row' (P := Tryd.prog) 31 33 (.int .u32 0) 4 Tryd.underlying31 Tryd.info_u32 rfl .i64 .i64 len (by omega) (by omega)
  have hO := made_zN .u32 w len 33
  have hb0 := below_alloc (Below.refl w.heap.size w) (Obj.cells (madeCells #[Value.int IntKind.u32 0] len) 33)
  obtain ⟨w2, hr2, hO2, ho2⟩ := run_copy_nums (P := Tryd.prog) .u32 Tryd.underlying31 Tryd.size_u32 3 (w.alloc (Obj.cells (madeCells #[Value.int IntKind.u32 0] len) 33)) (some ⟨w.heap.size, 0, none⟩) a len len len cap w.heap.size 0 len (zL len) l hO (by omega) (.inr rfl) (h.below hb0) (by rw [zL_length]; omega)
  have hb2 := ho2.below hb0 (Nat.le_refl _)
  have hs := splice_whole (zL len) l (by rw [zL_length, hz])
  rw [zL_length] at hs
  rw [hs] at hO2
  have hwf := h.wf
  clear hO hb0 ho2 hs h
  go_enter Tryd.func12, Tryd.ntmps12
  have hB := built_tape (some ⟨w.heap.size, 0, none⟩) len len
  go_wp2_with (refine wpList_build_at rfl 45 _ rfl [(0, .slice (some ⟨w.heap.size, 0, none⟩) len len)] (by kernel_rfl) _ hB ?_)
  have n3 := heap_alloc_new w2 (Obj.cells (srcV (.slice (some ⟨w.heap.size, 0, none⟩) len len) (zL 32) false 0) 45)
  have hb3 := below_alloc hb2 (Obj.cells (srcV (.slice (some ⟨w.heap.size, 0, none⟩) len len) (zL 32) false 0) 45)
  have hO3 : OwnN .u32 33 (w2.alloc (Obj.cells (srcV (.slice (some ⟨w.heap.size, 0, none⟩) len len) (zL 32) false 0) 45)) w.heap.size l := block_alloc hO2 _
  have hlt : w.heap.size < w2.heap.size := hO2.lt
  go_ret
  refine ⟨w2.heap.size, w.heap.size, rfl, by omega, Nat.le_refl _, by rw [size_alloc]; omega, ⟨by decide, hwf, by omega, by omega, hO3, ?_⟩, hb3⟩
  rw [hz]
  exact n3
#print axioms stream_any
#print axioms tape_any
end Go.Proofs.YtpnkbdceaocbmaaDoor
