
/- The law SuprForms answers true for every key, epoch and number, wherever quar.rounds reads as its text says; nothing that was there is turned. -/
import Derived.Test.YthiinflodgjdjaaDoorUAwake
import Derived.Test.YthiinflodgjdjaaDoorXFair
import Derived.Test.YthiinflodgjdjaaDoorTTable
namespace Go.Proofs.YthiinflodgjdjaaDoor
open Go.RowKit
set_option maxRecDepth 20000

def wordE : List Int := [69, 112, 111, 99, 104]
theorem wordL_bytes : IsBytes wordL := by unfold IsBytes wordL; decide
theorem wordE_bytes : IsBytes wordE := by unfold IsBytes wordE; decide
/-- The rows of the table. -/
def rowU (E N : Int) (i : Nat) : List Int := [[], wordL, wordL ++ (putL N 8).take 7, wordL ++ putL N 8 ++ [0], wordE ++ putL N 8, wordL ++ putL E 8, putL N 8, zL 13].getD i []
/-- None of them tells an epoch that is odd. -/
theorem row_bad (E N : Int) (hE : 0 ≤ E ∧ E < 18446744073709551616) (h2 : E % 2 = 0) (i : Nat) (hi : i < 8) : (epoOk (rowU E N i) && decide (epoV (rowU E N i) % 2 = ((1 : Nat) : Int))) = false ∧ (rowU E N i).length ≤ 14 := by
  have hl := length_putL N 8
  have hl2 := length_putL E 8
  have len : ∀ zs : List Int, ¬ zs.length = 13 → (epoOk zs && decide (epoV zs % 2 = ((1 : Nat) : Int))) = false := fun zs h => by rw [epoOk_len h, Bool.false_and]
  have : i = 0 ∨ i = 1 ∨ i = 2 ∨ i = 3 ∨ i = 4 ∨ i = 5 ∨ i = 6 ∨ i = 7 := by omega
  rcases this with rfl | rfl | rfl | rfl | rfl | rfl | rfl | rfl
  · exact ⟨len [] (by decide), by show ([] : List Int).length ≤ 14; decide⟩
  · exact ⟨len wordL (by decide), by show wordL.length ≤ 14; decide⟩
  · have h : (wordL ++ (putL N 8).take 7).length = 12 := by rw [List.length_append, List.length_take, hl]; rfl
    exact ⟨len (wordL ++ (putL N 8).take 7) (by omega), by show (wordL ++ (putL N 8).take 7).length ≤ 14; omega⟩
  · have h : (wordL ++ putL N 8 ++ [0]).length = 14 := by rw [List.length_append, List.length_append, hl]; rfl
    exact ⟨len (wordL ++ putL N 8 ++ [0]) (by omega), by show (wordL ++ putL N 8 ++ [0]).length ≤ 14; omega⟩
  · have h : (wordE ++ putL N 8).length = 13 := by rw [List.length_append, hl]; rfl
    refine ⟨?_, by show (wordE ++ putL N 8).length ≤ 14; omega⟩
    show (epoOk (wordE ++ putL N 8) && _) = false
    rw [epoOk_word (fun e => by have := congrArg (fun l => l.getD 0 0) e; simp [wordL, wordE] at this), Bool.false_and]
  · have h : (wordL ++ putL E 8).length = 13 := by rw [List.length_append, hl2]; rfl
    refine ⟨?_, by show (wordL ++ putL E 8).length ≤ 14; omega⟩
    show (epoOk (epoL E) && decide (epoV (epoL E) % 2 = ((1 : Nat) : Int))) = false
    rw [epoV_epoL E hE, decide_eq_false (by omega), Bool.and_false]
  · exact ⟨len (putL N 8) (by omega), by show (putL N 8).length ≤ 14; omega⟩
  · refine ⟨?_, by show (zL 13).length ≤ 14; decide⟩
    show (epoOk (zL 13) && _) = false
    rw [epoOk_word (fun e => by have := congrArg (fun l => l.getD 0 0) e; revert this; decide), Bool.false_and]

def factU (B : Nat) (nv : Value) (E N : Int) (k : Nat) : FactT := ([FNew wordL, FLit wordL, FNew wordL, FLit wordL, FVal nv, FSli B ((putL N 8).take 7), FOwn B (wordL ++ (putL N 8).take 7), FNew wordL, FLit wordL, FVal nv, FOwn B (wordL ++ putL N 8), FNew [0], FOwn B (wordL ++ putL N 8 ++ [0]), FNew wordE, FLit wordE, FVal nv, FOwn B (wordE ++ putL N 8), FNew wordL, FLit wordL, FVal (.int .u64 E), FOwn B (putL E 8), FOwn B (wordL ++ putL E 8), FVal nv, FOwn B (zL 13), FTab B 8 (rowU E N), FTab B 8 (rowU E N)] : List FactT).getD k (FVal undef)
theorem factU_stays (B : Nat) (nv : Value) (E N : Int) (k : Nat) : Stays B (factU B nv E N k) := by
  refine stays_all (fun f hf => ?_) (stays_val _) k
  simp only [List.mem_cons, List.not_mem_nil, or_false] at hf
  rcases hf with rfl | rfl | rfl | rfl | rfl | rfl | rfl | rfl | rfl | rfl | rfl | rfl | rfl | rfl | rfl | rfl | rfl | rfl | rfl | rfl | rfl | rfl | rfl | rfl | rfl | rfl
  · exact stays_new _
  · exact stays_lit _
  · exact stays_new _
  · exact stays_lit _
  · exact stays_val _
  · exact stays_sli _
  · exact stays_own _
  · exact stays_new _
  · exact stays_lit _
  · exact stays_val _
  · exact stays_own _
  · exact stays_new _
  · exact stays_own _
  · exact stays_new _
  · exact stays_lit _
  · exact stays_val _
  · exact stays_own _
  · exact stays_new _
  · exact stays_lit _
  · exact stays_val _
  · exact stays_own _
  · exact stays_own _
  · exact stays_val _
  · exact stays_own _
  · exact stays_tab _ _
  · exact stays_tab _ _
def depsU (k : Nat) : List Nat := [[], [0], [], [2], [], [4], [3, 5], [], [7], [], [8, 9], [], [10, 11], [], [13], [], [14, 15], [], [17], [], [19], [18, 20], [], [], [1, 6, 12, 16, 21, 22, 23], [24]].getD k []

/-- What the frame and the memory hold when the table is begun. -/
structure TabU (l : List Oper) (w0 : World) (a0 : Act) (E N : Int) (gn cn : Nat) : Prop where
  t1 : ∀ j, j < l.length → dstOf l j ≠ some 1
  t9 : ∀ j, j < l.length → dstOf l j ≠ some 9
  a1 : a0.tmps[1]? = some (.int .u64 E)
  a9 : a0.tmps[9]? = some (.slice (some ⟨gn, 0, none⟩) 8 cn)
  bs : Bs w0 (some ⟨gn, 0, none⟩) 8 cn (putL N 8)
  gl : gn < w0.heap.size
  dst : ∀ j, j < 24 → dstOf l j = some (38 + j)
abbrev StepU (Q : Exit → Act → World → Prop) (l : List Oper) (w0 : World) (a0 : Act) (E N : Int) (gn cn k : Nat) : Prop := StepT Q l depsU w0 a0 (factU w0.heap.size (.slice (some ⟨gn, 0, none⟩) 8 cn) E N) k
theorem with_tabU {Q : Exit → Act → World → Prop} {l : List Oper} {w0 : World} {a0 : Act} {E N : Int} {gn cn k : Nat} (T0 : TabU l w0 a0 E N gn cn) (h : TabU l w0 a0 E N gn cn → StepU Q l w0 a0 E N gn cn k) : TreeStep Tryd.prog Q l depsU w0.heap.size w0 a0 (factU w0.heap.size (.slice (some ⟨gn, 0, none⟩) 8 cn) E N) k := h T0
theorem built_tab8 (x1 x2 x3 x4 x5 x6 x7 : BV) : Tryd.prog.builtSlice 37 8 [(0, .slice none 0 0), (1, x1.v), (2, x2.v), (3, x3.v), (4, x4.v), (5, x5.v), (6, x6.v), (7, x7.v)] = some #[.slice none 0 0, x1.v, x2.v, x3.v, x4.v, x5.v, x6.v, x7.v] := by kernel_rfl
set_option maxHeartbeats 2000000 in
theorem st_tab {Q : Exit → Act → World → Prop} {l : List Oper} {w0 : World} {a0 : Act} {E N : Int} {gn cn : Nat} (T0 : TabU l w0 a0 E N gn cn) (hop : ∀ o, l[24]? = some o → o.op = .buildSlice 45 8 #[(0, .const (.slice none 0 0)), (1, .tmp 39), (2, .tmp 44), (3, .tmp 50), (4, .tmp 54), (5, .tmp 59), (6, .tmp 60), (7, .tmp 61)]) : StepU Q l w0 a0 E N gn cn 24 := by
  intro o a w S K ho hb hB htm hf _ hK
  have hd : depsU 24 = [1, 6, 12, 16, 21, 22, 23] := rfl
  have hdst := T0.dst
  obtain ⟨h1, g1⟩ := hf 1 (by rw [hd]; simp) 39 (by exact hdst 1 (by decide))
  obtain ⟨x1, v1, s1⟩ : FSli w0.heap.size (rowU E N 1) (S 1) (a.tmps.getD 39 undef) w := FLit.sli h1
  obtain ⟨h2, g2⟩ := hf 6 (by rw [hd]; simp) 44 (by exact hdst 6 (by decide))
  obtain ⟨x2, v2, s2⟩ : FSli w0.heap.size (rowU E N 2) (S 6) (a.tmps.getD 44 undef) w := FOwn.sli h2
  obtain ⟨h3, g3⟩ := hf 12 (by rw [hd]; simp) 50 (by exact hdst 12 (by decide))
  obtain ⟨x3, v3, s3⟩ : FSli w0.heap.size (rowU E N 3) (S 12) (a.tmps.getD 50 undef) w := FOwn.sli h3
  obtain ⟨h4, g4⟩ := hf 16 (by rw [hd]; simp) 54 (by exact hdst 16 (by decide))
  obtain ⟨x4, v4, s4⟩ : FSli w0.heap.size (rowU E N 4) (S 16) (a.tmps.getD 54 undef) w := FOwn.sli h4
  obtain ⟨h5, g5⟩ := hf 21 (by rw [hd]; simp) 59 (by exact hdst 21 (by decide))
  obtain ⟨x5, v5, s5⟩ : FSli w0.heap.size (rowU E N 5) (S 21) (a.tmps.getD 59 undef) w := FOwn.sli h5
  obtain ⟨h6, g6⟩ := hf 22 (by rw [hd]; simp) 60 (by exact hdst 22 (by decide))
  obtain ⟨x6, v6, s6⟩ : FSli w0.heap.size (rowU E N 6) (S 22) (a.tmps.getD 60 undef) w := by
    have h : a.tmps.getD 60 undef = .slice (some ⟨gn, 0, none⟩) 8 cn := h6
    exact ⟨⟨some ⟨gn, 0, none⟩, 8, cn, putL N 8⟩, h, ⟨rfl, T0.bs.below hb, fun _ p hp => by cases hp; exact .inl T0.gl⟩⟩
  obtain ⟨h7, g7⟩ := hf 23 (by rw [hd]; simp) 61 (by exact hdst 23 (by decide))
  obtain ⟨x7, v7, s7⟩ : FSli w0.heap.size (rowU E N 7) (S 23) (a.tmps.getD 61 undef) w := FOwn.sli h7
  refine wp_buildSliceTo 45 37 8 _ (hop o ho) Tryd.underlying45 [(0, .slice none 0 0), (1, x1.v), (2, x2.v), (3, x3.v), (4, x4.v), (5, x5.v), (6, x6.v), (7, x7.v)] ?_ _ (built_tab8 x1 x2 x3 x4 x5 x6 x7) ?_
  · have e : ∀ i, a.eval (.tmp i) = a.tmps.getD i undef := fun _ => rfl
    simp only [List.map_toArray, List.map_cons, List.map_nil, e, v1, v2, v3, v4, v5, v6, v7]
    rfl
  have b1 := below_alloc (Below.refl w.heap.size w) (.cells #[.slice none 0 0, x1.v, x2.v, x3.v, x4.v, x5.v, x6.v, x7.v] 37)
  have n1 := heap_alloc_new w (.cells #[.slice none 0 0, x1.v, x2.v, x3.v, x4.v, x5.v, x6.v, x7.v] 37)
  refine hK _ _ (fun g => g = w.heap.size ∨ ∃ j ∈ depsU 24, S j g) (Turn.of_below b1 fun g hg => ?_) (hb.trans (b1.mono hB)) ?_
  · rcases hg with rfl | ⟨j, hj, hg⟩
    · exact ⟨by rw [size_alloc]; omega, .inr (Nat.le_refl _)⟩
    · have h1 := ((hf j hj (38 + j) (hdst j (by rw [hd] at hj; simp only [List.mem_cons, List.not_mem_nil, or_false] at hj; omega))).2 g hg).2
      exact ⟨by rw [size_alloc]; omega, .inl ⟨j, hj, hg⟩⟩
  · have up : ∀ (x : BV) (zs : List Int) (j : Nat), j ∈ depsU 24 → SliX w0.heap.size (S j) x w zs → (∀ g, S j g → w0.heap.size ≤ g ∧ g < w.heap.size) → SliX w0.heap.size (fun g => g = w.heap.size ∨ ∃ j ∈ depsU 24, S j g) x (w.alloc (.cells #[.slice none 0 0, x1.v, x2.v, x3.v, x4.v, x5.v, x6.v, x7.v] 37)) zs := fun x zs j hj hs hg =>
      (hs.keep fun g hg' => b1.block g (hg'.elim (fun h => Nat.lt_of_lt_of_le h hB) (fun h => (hg g h).2))).sub fun g hgj => .inr ⟨j, hj, hgj⟩
    generalize w.alloc _ = W at *
    show FTab w0.heap.size 8 (rowU E N) _ _ _
    refine ⟨w.heap.size, fun i => [BV.nil, x1, x2, x3, x4, x5, x6, x7].getD i BV.nil, rfl, fun i hi => ?_, fun i hi => ?_, .inl rfl⟩
    · rw [cell_of_row W w.heap.size _ _ _ _ n1]
      have : i = 0 ∨ i = 1 ∨ i = 2 ∨ i = 3 ∨ i = 4 ∨ i = 5 ∨ i = 6 ∨ i = 7 := by omega
      rcases this with rfl | rfl | rfl | rfl | rfl | rfl | rfl | rfl <;> rfl
    have : i = 0 ∨ i = 1 ∨ i = 2 ∨ i = 3 ∨ i = 4 ∨ i = 5 ∨ i = 6 ∨ i = 7 := by omega
    rcases this with rfl | rfl | rfl | rfl | rfl | rfl | rfl | rfl
    · exact ⟨rfl, Bs.nil W, fun h0 => absurd h0 (Nat.lt_irrefl _)⟩
    · exact up x1 _ 1 (by rw [hd]; simp) s1 g1
    · exact up x2 _ 6 (by rw [hd]; simp) s2 g2
    · exact up x3 _ 12 (by rw [hd]; simp) s3 g3
    · exact up x4 _ 16 (by rw [hd]; simp) s4 g4
    · exact up x5 _ 21 (by rw [hd]; simp) s5 g5
    · exact up x6 _ 22 (by rw [hd]; simp) s6 g6
    · exact up x7 _ 23 (by rw [hd]; simp) s7 g7
#print axioms st_tab
theorem lit111 (x : Array Value) (h : x.size = 111) : ∃ t : Nat → Value, x = #[t 0, t 1, t 2, t 3, t 4, t 5, t 6, t 7, t 8, t 9, t 10, t 11, t 12, t 13, t 14, t 15, t 16, t 17, t 18, t 19, t 20, t 21, t 22, t 23, t 24, t 25, t 26, t 27, t 28, t 29, t 30, t 31, t 32, t 33, t 34, t 35, t 36, t 37, t 38, t 39, t 40, t 41, t 42, t 43, t 44, t 45, t 46, t 47, t 48, t 49, t 50, t 51, t 52, t 53, t 54, t 55, t 56, t 57, t 58, t 59, t 60, t 61, t 62, t 63, t 64, t 65, t 66, t 67, t 68, t 69, t 70, t 71, t 72, t 73, t 74, t 75, t 76, t 77, t 78, t 79, t 80, t 81, t 82, t 83, t 84, t 85, t 86, t 87, t 88, t 89, t 90, t 91, t 92, t 93, t 94, t 95, t 96, t 97, t 98, t 99, t 100, t 101, t 102, t 103, t 104, t 105, t 106, t 107, t 108, t 109, t 110] ∧ ∀ i, x.getD i undef = t i := by
  refine ⟨fun i => x.getD i undef, ?_, fun _ => rfl⟩
  have e : x = ((List.range 111).map fun i => x.getD i undef).toArray := by
    apply Array.ext_getElem?
    intro i
    rcases Nat.lt_or_ge i 111 with hi | hi
    · have h2 : i < x.size := by omega
      simp [hi, h2]
    · have h2 : ¬ i < x.size := by omega
      simp [Nat.not_lt.2 hi, h2]
  exact e
theorem dst_no (l : List Oper) (i : Nat) (h : ((List.range l.length).all fun j => dstOf l j != some i) = true) : ∀ j, j < l.length → dstOf l j ≠ some i := fun j hj => by
  have := (List.all_eq_true.1 h) j (List.mem_range.2 hj)
  simpa using this
theorem dst_is (l : List Oper) (h : ((List.range 24).all fun j => dstOf l j == some (38 + j)) = true) : ∀ j, j < 24 → dstOf l j = some (38 + j) := fun j hj => by
  have := (List.all_eq_true.1 h) j (List.mem_range.2 hj)
  simpa using this

set_option maxRecDepth 100000 in
set_option maxHeartbeats 16000000 in
theorem suprForms_walk (key : List Int) (n which : Int) (w : World) (hk : IsBytes key) (hkl : key.length = 32) (hn : 0 ≤ n ∧ n < 18446744073709551616) (hq : Glob w) :
    Calls Tryd.prog 4 #[.agg (bV key), .int .u64 n, .int .i64 which] w fun e w' => e = .returned (.bool true) ∧ Below w.heap.size w w' := by
  obtain ⟨J, hJ, hJ8⟩ : ∃ J : Nat, (bits .and .i64 which 255).tmod 8 = (J : Int) ∧ J < 8 := by
    rw [i64_and255, Int.tmod_eq_emod_of_nonneg (Int.emod_nonneg _ (by decide))]
    exact ⟨(which % 256 % 8).toNat, by omega, by omega⟩
  obtain ⟨E, hEn⟩ : ∃ E, 2 * (n / 2) = E := ⟨_, rfl⟩
  have hcl : bits .andNot .u64 n 1 = E := by rw [u64_clear1 n hn, hEn]
  have hE : 0 ≤ E ∧ E < 18446744073709551616 := by omega
  have hE2 : E % 2 = 0 := by omega
  obtain ⟨N, hN⟩ : ∃ N, E + 1 = N := ⟨_, rfl⟩
  have hor : bits .or .u64 E 1 = N := by rw [u64_or1 E hE hE2, hN]
  have hNb : 0 ≤ N ∧ N < 18446744073709551616 := by omega
  have hN2 : N % 2 = 1 := by omega
  have hEN : max E N = N := by omega
  have hE0 : max E 0 = E := by omega
  clear hEn hN hn
  have hS := KK.start w key hq
  go_enter Tryd.func4, Tryd.ntmps4
  go_wp2_with fail
  have hbw := hS.bel
  have kk0 := hS.kk
  generalize (w.alloc (Obj.cells (bV key) 27)) = W0 at *
  refine (new_any 3 50 3 50 rfl rfl W0).mono ?_
  rintro e W ⟨g, Z, rfl, hD, hF, hB⟩
  have C : Cl w W Z g (DS.new 3 50) := ⟨hD, fun k hk => Nat.le_trans hbw.size (hF k hk), hbw.trans (hB.mono hbw.size)⟩
  have kk : Has Z W w.heap.size (.cells (bV key) 27 (0, 0)) := ⟨(kk0.below hB : OwnB _ _ _ _), fun hs => by have := hF _ hs; have := kk0.lt; omega⟩
  clear hD hF hB hS kk0 hbw
  have kk1 := kk.1
  go_wp2_with (refine wpList_loadA arrT32 (by rfl) _ (by rfl) w.heap.size (by rfl) (bV key) kk1 (by rw [bV_size, hkl]) ?_)
  refine (pen_new C hk hkl (boot := 1) (by omega)).mono ?_
  rintro e W1 ⟨gp, rfl, hgp, P, b1⟩
  replace C := C.below b1
  replace kk := kk.below b1
  have kk1 := kk.1
  have hq1 : Glob W1 := hq.below C.bel hq.lt
  have hA := hide (blank_any key 50 W1 hk hkl (by omega) hq1)
  clear b1 hgp
  obtain ⟨B, hB⟩ : ∃ B, openB key (zL 50) = B := ⟨_, rfl⟩
  rw [hB] at hA
  cases B with
  | true =>
    go_wp2_with (refine wpList_loadA arrT32 (by rfl) _ (by rfl) w.heap.size (by rfl) (bV key) kk1 (by rw [bV_size, hkl]) ?_)
    refine hA.out.mono ?_
    rintro e W2 ⟨rfl, b2⟩
    have hb2 := C.bel.trans (b2.mono C.bel.size)
    go_wp2_with fail
    refine (awake_any W2 (hq1.below b2 hq1.lt)).mono ?_
    rintro e W3 ⟨rfl, b3⟩
    have hb3 := hb2.trans (b3.mono hb2.size)
    go_wp2_with fail
    go_ret
    exact ⟨rfl, hb3⟩
  | false =>
    go_wp2_with (refine wpList_loadA arrT32 (by rfl) _ (by rfl) w.heap.size (by rfl) (bV key) kk1 (by rw [bV_size, hkl]) ?_)
    refine hA.out.mono ?_
    rintro e W2 ⟨rfl, b2⟩
    have C2 := C.below b2
    have P2 := P.below b2
    have hC := hide (ucommit_at C2 P2 hq rfl (by decide) (by decide) (by omega) 0 E (by omega) hE 0 (by rw [hE2]; rfl) (by decide) 28 rfl (by omega))
    clear hA C P kk kk1 b2 hq1 C2 P2
    go_wp2_with fail
    refine hC.out.mono ?_
    rintro e W3 ⟨Z3, D1, rfl, F1, C3, P3, -⟩
    have g1 : D1.size = 50 := F1.size
    have g2 : D1.n = 3 := F1.n
    have g3 := F1.left
    have g4 := F1.wait
    have g5 : D1.tr.length = 2 := F1.len
    have g6 : D1.at_ 0 = sealL key 1 0 (epoL E) 28 := by rw [F1.at_, if_pos rfl]
    clear hC F1
    go_wp2_with fail
    refine (rput_ok N 8 W3 hNb (by omega)).mono ?_
    rintro e W4 ⟨ap, cn, rfl, hO, b4⟩
    obtain ⟨gn, rfl, hgn, hgn2⟩ := hO.form (by omega)
    have hNz := C3.own hO
    have hgpn : gn ≠ gp := by have := P3.lt; omega
    have C4 := C3.below b4
    have P4 := P3.below b4
    clear C3 P3 b4 hO hgn
    go_wp2_with fail
    refine wp_region_tree (n := 111) (deps := depsU) (Fact := factU W4.heap.size (.slice (some ⟨gn, 0, none⟩) 8 cn) E N) (by kernel_rfl) (by kernel_rfl) rfl (fun k S v w1 w2 h hk => factU_stays W4.heap.size (.slice (some ⟨gn, 0, none⟩) 8 cn) E N k S v w1 w2 h hk) ?_ ?_
    · intro k hk
      have hk' : k < 26 := hk
      refine with_tabU (gn := gn) (cn := cn) ⟨dst_no _ 1 (by kernel_rfl), dst_no _ 9 (by kernel_rfl), rfl, rfl, hNz.bs, hgn2, dst_is _ (by kernel_rfl)⟩ (fun T0 => ?_)
      have : k = 0 ∨ k = 1 ∨ k = 2 ∨ k = 3 ∨ k = 4 ∨ k = 5 ∨ k = 6 ∨ k = 7 ∨ k = 8 ∨ k = 9 ∨ k = 10 ∨ k = 11 ∨ k = 12 ∨ k = 13 ∨ k = 14 ∨ k = 15 ∨ k = 16 ∨ k = 17 ∨ k = 18 ∨ k = 19 ∨ k = 20 ∨ k = 21 ∨ k = 22 ∨ k = 23 ∨ k = 24 ∨ k = 25 := by omega
      clear hk hk'
      rcases this with rfl | rfl | rfl | rfl | rfl | rfl | rfl | rfl | rfl | rfl | rfl | rfl | rfl | rfl | rfl | rfl | rfl | rfl | rfl | rfl | rfl | rfl | rfl | rfl | rfl | rfl
      · exact st_lit 0 5 wordL [(0, .int .u8 101), (1, .int .u8 112), (2, .int .u8 111), (3, .int .u8 99), (4, .int .u8 104)] #[(0, .const (.int .u8 101)), (1, .const (.int .u8 112)), (2, .const (.int .u8 111)), (3, .const (.int .u8 99)), (4, .const (.int .u8 104))] rfl rfl (fun o ho => by obtain rfl := Option.some.inj ho; rfl) (fun _ => by simp [Act.eval]) (by kernel_rfl)
      · exact st_conv 1 0 38 wordL wordL_bytes (by decide) rfl rfl rfl rfl (fun o ho => by obtain rfl := Option.some.inj ho; rfl)
      · exact st_lit 2 5 wordL [(0, .int .u8 101), (1, .int .u8 112), (2, .int .u8 111), (3, .int .u8 99), (4, .int .u8 104)] #[(0, .const (.int .u8 101)), (1, .const (.int .u8 112)), (2, .const (.int .u8 111)), (3, .const (.int .u8 99)), (4, .const (.int .u8 104))] rfl rfl (fun o ho => by obtain rfl := Option.some.inj ho; rfl) (fun _ => by simp [Act.eval]) (by kernel_rfl)
      · exact st_conv 3 2 40 wordL wordL_bytes (by decide) rfl rfl rfl rfl (fun o ho => by obtain rfl := Option.some.inj ho; rfl)
      · exact st_move 4 9 _ T0.t9 T0.a9 rfl (fun o ho => by obtain rfl := Option.some.inj ho; rfl)
      · exact st_cut 5 4 42 7 gn cn 8 (putL N 8) rfl rfl rfl T0.bs T0.gl (by omega) rfl (fun o ho => by obtain rfl := Option.some.inj ho; rfl)
      · exact st_append_lit 6 3 5 41 43 wordL ((putL N 8).take 7) rfl rfl rfl rfl rfl (by rw [List.length_take, length_putL]; omega) (by rw [List.length_take, length_putL]; show 5 + _ ≤ _; omega) src_sli (fun o ho => by obtain rfl := Option.some.inj ho; exact ⟨rfl, rfl⟩)
      · exact st_lit 7 5 wordL [(0, .int .u8 101), (1, .int .u8 112), (2, .int .u8 111), (3, .int .u8 99), (4, .int .u8 104)] #[(0, .const (.int .u8 101)), (1, .const (.int .u8 112)), (2, .const (.int .u8 111)), (3, .const (.int .u8 99)), (4, .const (.int .u8 104))] rfl rfl (fun o ho => by obtain rfl := Option.some.inj ho; rfl) (fun _ => by simp [Act.eval]) (by kernel_rfl)
      · exact st_conv 8 7 45 wordL wordL_bytes (by decide) rfl rfl rfl rfl (fun o ho => by obtain rfl := Option.some.inj ho; rfl)
      · exact st_move 9 9 _ T0.t9 T0.a9 rfl (fun o ho => by obtain rfl := Option.some.inj ho; rfl)
      · exact st_append_lit 10 8 9 46 47 wordL (putL N 8) rfl rfl rfl rfl rfl (by rw [length_putL]; omega) (by rw [length_putL]; show 5 + _ ≤ _; omega) (src_val T0.bs) (fun o ho => by obtain rfl := Option.some.inj ho; exact ⟨rfl, rfl⟩)
      · exact st_lit 11 1 [0] [(0, .int .u8 0)] #[(0, .const (.int .u8 0))] rfl rfl (fun o ho => by obtain rfl := Option.some.inj ho; rfl) (fun _ => by simp [Act.eval]) (by kernel_rfl)
      · exact st_append_own 12 10 11 48 49 (wordL ++ putL N 8) [0] rfl rfl rfl rfl rfl (by decide) (by rw [List.length_append, length_putL]; show 5 + 8 + 1 ≤ _; omega) (src_new (by unfold IsBytes; decide) (by decide)) (fun o ho => by obtain rfl := Option.some.inj ho; exact ⟨rfl, rfl⟩)
      · exact st_lit 13 5 wordE [(0, .int .u8 69), (1, .int .u8 112), (2, .int .u8 111), (3, .int .u8 99), (4, .int .u8 104)] #[(0, .const (.int .u8 69)), (1, .const (.int .u8 112)), (2, .const (.int .u8 111)), (3, .const (.int .u8 99)), (4, .const (.int .u8 104))] rfl rfl (fun o ho => by obtain rfl := Option.some.inj ho; rfl) (fun _ => by simp [Act.eval]) (by kernel_rfl)
      · exact st_conv 14 13 51 wordE wordE_bytes (by decide) rfl rfl rfl rfl (fun o ho => by obtain rfl := Option.some.inj ho; rfl)
      · exact st_move 15 9 _ T0.t9 T0.a9 rfl (fun o ho => by obtain rfl := Option.some.inj ho; rfl)
      · exact st_append_lit 16 14 15 52 53 wordE (putL N 8) rfl rfl rfl rfl rfl (by rw [length_putL]; omega) (by rw [length_putL]; show 5 + _ ≤ _; omega) (src_val T0.bs) (fun o ho => by obtain rfl := Option.some.inj ho; exact ⟨rfl, rfl⟩)
      · exact st_lit 17 5 wordL [(0, .int .u8 101), (1, .int .u8 112), (2, .int .u8 111), (3, .int .u8 99), (4, .int .u8 104)] #[(0, .const (.int .u8 101)), (1, .const (.int .u8 112)), (2, .const (.int .u8 111)), (3, .const (.int .u8 99)), (4, .const (.int .u8 104))] rfl rfl (fun o ho => by obtain rfl := Option.some.inj ho; rfl) (fun _ => by simp [Act.eval]) (by kernel_rfl)
      · exact st_conv 18 17 55 wordL wordL_bytes (by decide) rfl rfl rfl rfl (fun o ho => by obtain rfl := Option.some.inj ho; rfl)
      · exact st_move 19 1 _ T0.t1 T0.a1 rfl (fun o ho => by obtain rfl := Option.some.inj ho; rfl)
      · exact st_rput 20 19 57 E hE rfl rfl rfl rfl (fun o ho => by obtain rfl := Option.some.inj ho; rfl)
      · exact st_append_lit 21 18 20 56 58 wordL (putL E 8) rfl rfl rfl rfl rfl (by rw [length_putL]; omega) (by rw [length_putL]; show 5 + _ ≤ _; omega) src_own (fun o ho => by obtain rfl := Option.some.inj ho; exact ⟨rfl, rfl⟩)
      · exact st_move 22 9 _ T0.t9 T0.a9 rfl (fun o ho => by obtain rfl := Option.some.inj ho; rfl)
      · exact st_make 23 13 (by omega) _ _ rfl (fun o ho => by obtain rfl := Option.some.inj ho; rfl) (fun _ => rfl) (fun _ => rfl)
      · exact st_tab T0 (fun o ho => by obtain rfl := Option.some.inj ho; rfl)
      · exact st_root 25 24 62 rfl rfl rfl (fun o ho => by obtain rfl := Option.some.inj ho; rfl)
    · intro a' W5 hb hdef hsize htm hroot
      obtain ⟨S, hF⟩ := hroot 25 10 (show 25 < 26 by omega) (fun i hi => (of_decide_eq_true (by kernel_rfl) : ∀ i, i < 26 → 25 ∉ depsU i) i hi) rfl
      replace hF : FTab W4.heap.size 8 (rowU E N) S (a'.tmps.getD 10 undef) W5 := hF
      have h1 := htm 1 (dst_no _ 1 (by kernel_rfl))
      have h2 := htm 2 (dst_no _ 2 (by kernel_rfl))
      have h8 := htm 8 (dst_no _ 8 (by kernel_rfl))
      have h9 := htm 9 (dst_no _ 9 (by kernel_rfl))
      obtain ⟨tm, df⟩ := a'
      simp only at hdef hsize htm hroot hF h1 h2 h8 h9
      clear hroot htm
      obtain ⟨t, rfl, ht⟩ := lit111 tm hsize
      obtain rfl : df = [] := hdef
      obtain ⟨gt, xs, hv, hrange, hsli, hSg⟩ := hF
      have e10 : t 10 = .slice (some ⟨gt, 0, none⟩) 8 8 := hv
      have e1 : t 1 = .int .u64 E := Option.some.inj h1
      have e2 : t 2 = .int .i64 which := Option.some.inj h2
      have e8 : t 8 = .pointer (some ⟨gp, 0, none⟩) := Option.some.inj h8
      have e9 : t 9 = .slice (some ⟨gn, 0, none⟩) 8 cn := Option.some.inj h9
      rw [e10, e1, e2, e8, e9]
      clear h1 h2 h8 h9 hv e10 e1 e2 e8 e9 ht hsize hSg
      have hr := hrange J hJ8
      have hx := hsli J hJ8
      obtain ⟨f1, f2⟩ := row_bad E N hE hE2 J hJ8
      have C5 := C4.below hb
      have P5 := P4.below hb
      have hN5 := hNz.step (Step.of_below Z3 hb)
      have hxb := hx.bs
      rw [hx.zs] at hxb
      have hxl := hxb.length
      clear hrange hsli hb C4 P4 hNz hgn2
      generalize xs J = x at *
      generalize rowU E N J = row at *
      obtain ⟨xa, xl, xc, xz⟩ := x
      simp only [BV.v] at hr hxb hxl
      clear hx
      have hWr := hide (pen_write C5 P5 hq (by rw [g3]; decide) (by omega) (by rw [g4]; decide) (by omega) 1 hxb 28 g1 (by omega))
      clear C5 P5
      go_wp2_with fail
      refine hWr.out.mono ?_
      rintro e W6 ⟨Z6, y, rfl, hy, C6, P6, s6⟩
      have hN6 := hN5.beside s6 (fun _ p hp => by cases hp; exact hgpn)
      have hyb := hxb.bytes
      clear hWr hN5 hr s6 hxb
      have k2 : (D1.puts 1 y).n = 3 := (puts_is D1 1 y).2.1.trans g2
      have k1 : (D1.puts 1 y).size = 50 := (puts_is D1 1 y).1.trans g1
      have k3 : (D1.puts 1 y).left = -1 := by rw [(puts_is D1 1 y).2.2, g3]; rfl
      have k4 : (D1.puts 1 y).tr.length = 3 := by rw [puts_len, g5]
      have k5 : (D1.puts 1 y).wait.length ≤ 1 := by have := puts_wait D1 1 y; rw [g4] at this; exact this
      have k6 : (D1.puts ((1 : Nat) : Int) y).at_ 0 = sealL key 1 0 (epoL E) 28 := by rw [puts_at _ _ _ _ (by omega), if_neg (by decide), g6]
      have k7 : (D1.puts ((1 : Nat) : Int) y).at_ 1 = sealL key 1 (0 + 1) row 28 := by
        rw [puts_at _ _ _ _ (by omega), if_pos rfl, hy.out, g1]
        exact fitL_sealL _ _ _ _ _ _ (by omega) rfl
      clear g1 g2 g3 g4 g5 g6 hy
      replace k6 : (D1.puts 1 y).at_ 0 = _ := k6
      replace k7 : (D1.puts 1 y).at_ 1 = _ := k7
      generalize D1.puts 1 y = D2 at *
      obtain ⟨p0, p1⟩ := tell_epoch (key := key) (boot := 1) (seq := 0) (n := E) (m := 28) (by omega) (by omega) hE (by omega) (by omega)
      rw [hE2] at p0 p1
      obtain ⟨q0, q1⟩ := tell_sealed (key := key) (boot := 1) (seq := 0 + 1) (m := 28) ((1 : Nat) : Int) (by omega) (by omega) hyb (by omega) (by omega)
      rw [f1] at q0 q1
      have hL := hide (ulast_at C6 P6 hq k3 (by omega) 0 0 rfl (by omega) _ _ k6 k7 E 0 true false p1 p0 q1 q0)
      rw [hE0] at hL
      clear C6 P6 q0 q1 f1 f2 hyb
      go_wp2_with fail
      refine hL.out.mono ?_
      rintro e W7 ⟨Z7, D3, rfl, F3, C7, P7, s7⟩
      have hN7 := hN6.step s7
      have m1 : D3.size = 50 := F3.size.trans k1
      have m2 : D3.n = 3 := F3.n.trans k2
      have m3 := F3.left
      have m4 : D3.wait.length ≤ 1 := by rw [F3.wait]; exact k5
      have m5 : D3.tr.length = 5 := by rw [F3.len, k4]
      have m6 : D3.at_ 0 = sealL key 1 0 (epoL E) 28 := (F3.at_ 0).trans k6
      clear hL F3 hN6 s7 k1 k2 k3 k4 k5 k6 k7
      go_wp2_with fail
      rw [conv_bytes]
      have hLt : Bs (W7.alloc (Obj.cells #[Value.int IntKind.u8 101, Value.int IntKind.u8 112, Value.int IntKind.u8 111, Value.int IntKind.u8 99, Value.int IntKind.u8 104] 5 (5, 6))) (some ⟨W7.heap.size, 0, none⟩) 5 5 wordL := Bs.lit rfl rfl (bytes_lit rfl) rfl (by omega)
      have bL := below_alloc (Below.refl W7.heap.size W7) (Obj.cells #[Value.int IntKind.u8 101, Value.int IntKind.u8 112, Value.int IntKind.u8 111, Value.int IntKind.u8 99, Value.int IntKind.u8 104] 5 (5, 6))
      replace C7 := C7.below bL
      replace P7 := P7.below bL
      have hN8 := hN7.step (Step.of_below Z7 bL)
      clear hN7 bL
      generalize (W7.alloc (Obj.cells #[Value.int IntKind.u8 101, Value.int IntKind.u8 112, Value.int IntKind.u8 111, Value.int IntKind.u8 99, Value.int IntKind.u8 104] 5 (5, 6))) = W8 at *
      generalize W7.heap.size = gl at *
      obtain ⟨ct, W9, hra, hT, b9⟩ := run_append_new (P := Tryd.prog) Tryd.underlying37 Tryd.info_u8 37 W8 (some ⟨gl, 0, none⟩) 5 5 wordL hLt (some ⟨gn, 0, none⟩) 8 cn (putL N 8) hN8.bs (fun h => by cases h) (by omega) (by omega)
      replace hT : OwnS 5 W8.heap.size W9 (some ⟨W8.heap.size, 0, none⟩) 13 ct (epoL N) := hT
      have C9 := C7.below b9
      have P9 := P7.below b9
      have hTb := hT.bs
      have hWr := hide (pen_write C9 P9 hq (by rw [m3]; decide) (by omega) (by omega) (by omega) 1 hTb 28 m1 (by omega))
      clear C7 P7 C9 P9 hLt hN8 b9 hT hTb
      go_wp2_with (at_builtin; refine wpList_append_run (by rfl) (.tmp 81) (.tmp 82) 37 (by rfl) _ _ _ _ (by rfl) (by rfl) hra ?_)
      refine hWr.out.mono ?_
      rintro e W10 ⟨Z10, y2, rfl, hy, C10, P10, -⟩
      clear hWr hra
      have k2 : (D3.puts 1 y2).n = 3 := (puts_is D3 1 y2).2.1.trans m2
      have k3 : (D3.puts 1 y2).left = -1 := by rw [(puts_is D3 1 y2).2.2, m3]; rfl
      have k4 : (D3.puts 1 y2).tr.length = 6 := by rw [puts_len, m5]
      have k6 : (D3.puts ((1 : Nat) : Int) y2).at_ 0 = sealL key 1 0 (epoL E) 28 := by rw [puts_at _ _ _ _ (by omega), if_neg (by decide), m6]
      have k7 : (D3.puts ((1 : Nat) : Int) y2).at_ 1 = sealL key 1 (0 + 1 + 1) (epoL N) 28 := by
        rw [puts_at _ _ _ _ (by omega), if_pos rfl, hy.out, m1]
        exact fitL_sealL _ _ _ _ _ _ (by rw [epoL_length]; omega) rfl
      clear m1 m2 m3 m4 m5 m6 hy
      replace k6 : (D3.puts 1 y2).at_ 0 = _ := k6
      replace k7 : (D3.puts 1 y2).at_ 1 = _ := k7
      generalize D3.puts 1 y2 = D4 at *
      obtain ⟨q0, q1⟩ := tell_epoch (key := key) (boot := 1) (seq := 0 + 1 + 1) (n := N) (m := 28) (by omega) (by omega) hNb (by omega) (by omega)
      rw [hN2] at q0 q1
      have hL := hide (ulast_at C10 P10 hq k3 (by omega) 0 0 rfl (by omega) _ _ k6 k7 E N true true p1 p0 q1 q0)
      rw [hEN] at hL
      clear C10 P10 q0 q1 p0 p1 k2 k3 k4 k6 k7
      go_wp2_with fail
      refine hL.out.mono ?_
      rintro e W11 ⟨Z11, D5, rfl, -, C11, -, -⟩
      have hbel := C11.bel
      clear hL C11
      go_wp2_with fail
      refine (awake_any W11 (hq.below hbel hq.lt)).mono ?_
      rintro e W12 ⟨rfl, b12⟩
      have hb12 := hbel.trans (b12.mono hbel.size)
      go_wp2_with fail
      go_ret
      exact ⟨rfl, hb12⟩
#print axioms suprForms_walk
end Go.Proofs.YthiinflodgjdjaaDoor
