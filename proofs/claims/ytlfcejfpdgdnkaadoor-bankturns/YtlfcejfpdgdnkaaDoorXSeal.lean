
/- Several texts in one, in the order in which they lean on each other; what each says stands at its head. No conditions but those that each line states. -/
import Derived.Test.YtlfcejfpdgdnkaaDoorXChac
import Derived.Test.YtlfcejfpdgdnkaaDoorXLe
import Derived.Test.YtlfcejfpdgdnkaaDoorXBase
import Derived.Deep.Onto
import Derived.Deep.MidRow
import Derived.Test.YtlfcejfpdgdnkaaDoorXQuar
/- Plain facts about sealed blocks: heads, what is sealed, what is opened, and that these undo each other. No program is named here; no conditions but those that each line states. -/
namespace Go.Proofs.YtlfcejfpdgdnkaaDoor
open Go.RowKit
set_option maxRecDepth 20000

/-- The head of a block. -/
def headL (boot seq : Int) : List Int := putL boot 4 ++ putL seq 8
theorem headL_length (boot seq : Int) : (headL boot seq).length = 12 := by simp [headL, length_putL]
theorem headL_bytes (boot seq : Int) : IsBytes (headL boot seq) := (putL_bytes _ _).append (putL_bytes _ _)
theorem headL_take (boot seq : Int) : (headL boot seq).take 4 = putL boot 4 := by rw [headL, List.take_append_of_le_length (by rw [length_putL]; omega), List.take_of_length_le (by rw [length_putL]; omega)]
theorem headL_drop (boot seq : Int) : (headL boot seq).drop 4 = putL seq 8 := by rw [headL, List.drop_append_of_le_length (by rw [length_putL]; omega), List.drop_of_length_le (by rw [length_putL]; omega)]; rfl
theorem headL_boot (boot seq : Int) (h : 0 ≤ boot ∧ boot < 4294967296) : leNum ((headL boot seq).take 4) = boot := by
  rw [headL_take, leNum_putL]
  omega
theorem headL_seq (boot seq : Int) (h : 0 ≤ seq ∧ seq < 18446744073709551616) : leNum ((headL boot seq).drop 4) = seq := by rw [headL_drop, leNum_all _ h.1 h.2]
theorem headL_inj (boot s t : Int) (hs : 0 ≤ s ∧ s < 18446744073709551616) (ht : 0 ≤ t ∧ t < 18446744073709551616) (h : headL boot s = headL boot t) : s = t := by
  rw [← headL_seq boot s hs, ← headL_seq boot t ht, h]


/-- A padded text and its sum. -/
def bodyL (h p : List Int) : List Int := p ++ putL (fnv (h ++ p)) 8
theorem bodyL_length (h p : List Int) : (bodyL h p).length = p.length + 8 := by simp [bodyL, length_putL]
theorem bodyL_bytes (h p : List Int) (hp : IsBytes p) : IsBytes (bodyL h p) := hp.append (putL_bytes _ _)
theorem bodyL_take (h p : List Int) : (bodyL h p).take p.length = p := by rw [bodyL, List.take_append_of_le_length (Nat.le_refl _), List.take_of_length_le (Nat.le_refl _)]
theorem bodyL_drop (h p : List Int) : (bodyL h p).drop p.length = putL (fnv (h ++ p)) 8 := by rw [bodyL, List.drop_append_of_le_length (Nat.le_refl _), List.drop_of_length_le (Nat.le_refl _)]; rfl
theorem bodyL_sum (h p : List Int) : leNum ((bodyL h p).drop p.length) = fnv (h ++ p) := by
  have := fnv_word (h ++ p)
  rw [bodyL_drop, leNum_all _ this.1 this.2]

/-- What is sealed, in a block with room for m bytes. -/
def sealL (key : List Int) (boot seq : Int) (zs : List Int) (m : Nat) : List Int :=
  headL boot seq ++ xorL key (headL boot seq) 0 (bodyL (headL boot seq) (padL zs m))
theorem sealL_length (key : List Int) (boot seq : Int) (zs : List Int) (m : Nat) (h : zs.length ≤ m) : (sealL key boot seq zs m).length = m + 22 := by
  simp only [sealL, List.length_append, headL_length, xorL_length, bodyL_length, length_padL zs m h]
  omega
theorem sealL_bytes (key : List Int) (boot seq : Int) (zs : List Int) (m : Nat) (h : IsBytes zs) : IsBytes (sealL key boot seq zs m) :=
  (headL_bytes _ _).append (xorL_bytes _ _ _ _ (bodyL_bytes _ _ (padL_bytes _ _ h)))
theorem sealL_take (key : List Int) (boot seq : Int) (zs : List Int) (m : Nat) : (sealL key boot seq zs m).take 12 = headL boot seq := by
  rw [sealL, List.take_append_of_le_length (by rw [headL_length]; omega), List.take_of_length_le (by rw [headL_length]; omega)]
theorem sealL_drop (key : List Int) (boot seq : Int) (zs : List Int) (m : Nat) : (sealL key boot seq zs m).drop 12 = xorL key (headL boot seq) 0 (bodyL (headL boot seq) (padL zs m)) := by
  rw [sealL, List.drop_append_of_le_length (by rw [headL_length]; omega), List.drop_of_length_le (by rw [headL_length]; omega)]
  rfl

/-- What a block holds behind its head, the stream taken off. -/
def innerL (key b : List Int) : List Int := xorL key (b.take 12) 0 (b.drop 12)
theorem innerL_length (key b : List Int) : (innerL key b).length = b.length - 12 := by simp [innerL, xorL_length]
theorem innerL_bytes (key b : List Int) (h : IsBytes b) : IsBytes (innerL key b) := xorL_bytes _ _ _ _ (h.drop 12)
/-- The padded text of a block. -/
def textL (key b : List Int) : List Int := (innerL key b).take (b.length - 20)
/-- The sum of a block. -/
def tailL (key b : List Int) : List Int := (innerL key b).drop (b.length - 20)
theorem textL_length (key b : List Int) : (textL key b).length = b.length - 20 := by simp [textL, innerL_length]; omega
theorem tailL_length (key b : List Int) (h : 22 ≤ b.length) : (tailL key b).length = 8 := by simp [tailL, innerL_length]; omega
theorem textL_bytes (key b : List Int) (h : IsBytes b) : IsBytes (textL key b) := (innerL_bytes key b h).take _
theorem tailL_bytes (key b : List Int) (h : IsBytes b) : IsBytes (tailL key b) := (innerL_bytes key b h).drop _
/-- Whether the sum of a block is met. -/
def sumOk (key b : List Int) : Bool := decide (leNum (tailL key b) = fnv (b.take 12 ++ textL key b))
/-- What is opened. -/
def openL (key b : List Int) : Option (List Int) :=
  if b.length < 22 then none else if sumOk key b = true then unpadL (textL key b) ((b.length - 22 : Nat) : Int) else none

theorem unpadL_padL (zs : List Int) (m : Nat) (h : zs.length ≤ m) (hm : m ≤ 60000) : unpadL (padL zs m) (m : Int) = some zs := by
  have e : leNum ((padL zs m).take 2) = (zs.length : Int) := by rw [padL_take2, putL2_num _ (by omega)]
  have ez : allZ (((padL zs m).drop 2).drop zs.length) = true := by
    rw [padL_drop2, List.drop_append_of_le_length (Nat.le_refl _), List.drop_of_length_le (Nat.le_refl _)]
    simp [allZ]
  unfold unpadL
  rw [e, Int.toNat_natCast, if_pos ⟨by omega, by omega, by rw [length_padL zs m h]; omega, by omega, ez⟩, padL_row]

theorem innerL_sealL (key : List Int) (boot seq : Int) (zs : List Int) (m : Nat) (hz : IsBytes zs) : innerL key (sealL key boot seq zs m) = bodyL (headL boot seq) (padL zs m) := by
  rw [innerL, sealL_take, sealL_drop, xorL_twice _ _ _ _ (bodyL_bytes _ _ (padL_bytes _ _ hz))]
theorem textL_sealL (key : List Int) (boot seq : Int) (zs : List Int) (m : Nat) (hz : IsBytes zs) (h : zs.length ≤ m) : textL key (sealL key boot seq zs m) = padL zs m := by
  rw [textL, innerL_sealL _ _ _ _ _ hz, sealL_length _ _ _ _ _ h, show m + 22 - 20 = (padL zs m).length by rw [length_padL zs m h]; omega, bodyL_take]
theorem tailL_sealL (key : List Int) (boot seq : Int) (zs : List Int) (m : Nat) (hz : IsBytes zs) (h : zs.length ≤ m) : leNum (tailL key (sealL key boot seq zs m)) = fnv (headL boot seq ++ padL zs m) := by
  rw [tailL, innerL_sealL _ _ _ _ _ hz, sealL_length _ _ _ _ _ h, show m + 22 - 20 = (padL zs m).length by rw [length_padL zs m h]; omega, bodyL_sum]
theorem sumOk_sealL (key : List Int) (boot seq : Int) (zs : List Int) (m : Nat) (hz : IsBytes zs) (h : zs.length ≤ m) : sumOk key (sealL key boot seq zs m) = true := by
  unfold sumOk
  rw [decide_eq_true_eq, tailL_sealL _ _ _ _ _ hz h, textL_sealL _ _ _ _ _ hz h, sealL_take]
theorem openL_sealL (key : List Int) (boot seq : Int) (zs : List Int) (m : Nat) (hz : IsBytes zs) (h : zs.length ≤ m) (hm : m ≤ 60000) : openL key (sealL key boot seq zs m) = some zs := by
  unfold openL
  rw [sealL_length _ _ _ _ _ h, if_neg (by omega), if_pos (sumOk_sealL _ _ _ _ _ hz h), textL_sealL _ _ _ _ _ hz h, show m + 22 - 22 = m by omega, unpadL_padL _ _ h hm]

theorem sealL_inj (key : List Int) (boot seq : Int) (zs ys : List Int) (m : Nat) (hz : IsBytes zs) (hy : IsBytes ys) (h1 : zs.length ≤ m) (h2 : ys.length ≤ m) (hm : m ≤ 60000) (h : sealL key boot seq zs m = sealL key boot seq ys m) : zs = ys := by
  have e := openL_sealL key boot seq zs m hz h1 hm
  rw [h, openL_sealL key boot seq ys m hy h2 hm] at e
  exact (Option.some.inj e).symm
theorem sealL_seq (key : List Int) (boot s t : Int) (zs : List Int) (m : Nat) (hs : 0 ≤ s ∧ s < 18446744073709551616) (ht : 0 ≤ t ∧ t < 18446744073709551616) (h : sealL key boot s zs m = sealL key boot t zs m) : s = t := by
  refine headL_inj boot s t hs ht ?_
  rw [← sealL_take key boot s zs m, ← sealL_take key boot t zs m, h]
#print axioms openL_sealL
#print axioms sealL_inj
end Go.Proofs.YtlfcejfpdgdnkaaDoor

/- What calls of seal.Head, seal.Room and dumbwaiterref1.Head do: for all numbers; nothing that was there is turned. -/
namespace Go.Proofs.YtlfcejfpdgdnkaaDoor
open Go.RowKit
set_option maxRecDepth 20000

theorem zero12 : (Tryd.prog.info? 40).bind (·.zero) = some (.agg (bV (zL 12))) := by kernel_rfl

theorem head_first (boot : Int) : splice (zL 12) 0 ((putL boot 4).take 4) = putL boot 4 ++ zL 8 := by
  rw [List.take_of_length_le (by rw [length_putL]; omega)]
  simp only [splice, length_putL, List.take_zero, List.nil_append]
  rfl
theorem head_second (boot seq : Int) : splice (putL boot 4 ++ zL 8) 4 ((putL seq 8).take 8) = headL boot seq := by
  rw [List.take_of_length_le (by rw [length_putL]; omega)]
  have e1 : List.take 4 (putL boot 4 ++ zL 8) = putL boot 4 := by rw [List.take_append_of_le_length (by rw [length_putL]; omega), List.take_of_length_le (by rw [length_putL]; omega)]
  have e2 : List.drop (4 + (putL seq 8).length) (putL boot 4 ++ zL 8) = [] := List.drop_of_length_le (by simp [length_putL, zL_length])
  unfold splice headL
  rw [e1, e2, List.append_nil]
theorem head_whole (boot seq : Int) : splice (zL 12) 0 ((headL boot seq).take 12) = headL boot seq := by
  have h := splice_all (zL 12) (headL boot seq) 12 (zL_length _) (by rw [headL_length]; omega)
  rw [h, List.take_of_length_le (by rw [headL_length]; omega)]

theorem room_any (n r : Int) (w : World) (hr : IntKind.i64.wrap (n - 22) = r) : Calls Tryd.prog 41 #[.int .i64 n] w fun e w' => e = .returned (.int .i64 r) ∧ w = w' := by
  go_enter Tryd.func41, Tryd.ntmps41
  go_wp2_with fail
  go_ret
  exact ⟨rfl, rfl⟩

set_option maxHeartbeats 1000000 in
theorem head_any (boot seq : Int) (w : World) (hb : 0 ≤ boot ∧ boot < 4294967296) (hs : 0 ≤ seq ∧ seq < 18446744073709551616) :
    Calls Tryd.prog 42 #[.int .u32 boot, .int .u64 seq] w fun e w' => e = .returned (.agg (bV (headL boot seq))) ∧ Below w.heap.size w w' := by
  have n1 := heap_alloc_new w (Obj.cells (bV (zL 12)) 40)
  have n2 := heap_alloc_new (w.alloc (Obj.cells (bV (zL 12)) 40)) (Obj.cells (bV (zL 12)) 40)
  simp only [size_alloc] at n2
  have hb0 := below_alloc (below_alloc (Below.refl w.heap.size w) (Obj.cells (bV (zL 12)) 40)) (Obj.cells (bV (zL 12)) 40)
  have m1 := block_alloc n1 (Obj.cells (bV (zL 12)) 40)
  clear n1
  have hbw : IntKind.u64.wrap boot = boot := by rw [wrap_u64]; omega
  have hsl := run_arr_all (P := Tryd.prog) Tryd.underlying40 Tryd.size_u8 (w.heap.size + 1)
  have hsl4 := run_arr_from (P := Tryd.prog) Tryd.underlying40 Tryd.size_u8 (w.heap.size + 1) .i64 4 4 rfl (by decide)
  go_enter Tryd.func42, Tryd.ntmps42
  go_wp2_with (first
    | (refine wpList_newA (by rfl) 40 (by rfl) _ zero12 w.heap.size rfl ?_)
    | (refine wpList_newA (by rfl) 40 (by rfl) _ zero12 (w.heap.size + 1) (size_alloc _ _) ?_))
  generalize ((w.alloc (Obj.cells (bV (zL 12)) 40)).alloc (Obj.cells (bV (zL 12)) 40)) = W0 at *
  refine wp_region_ord 1000 [0, 1, 2, 3, 4] (fun _ => True) (fun _ => True) (by kernel_rfl) (by kernel_rfl) (by kernel_rfl) trivial trivial (fun _ _ => ?_)
  replace hb0 := hb0.drew
  replace m1 : OwnB 40 W0.drew w.heap.size (zL 12) := m1
  replace n2 : OwnB 40 W0.drew (w.heap.size + 1) (zL 12) := n2
  generalize W0.drew = W1 at *
  repeat' (refine wpOrd_quiet (v := ?_) rfl rfl (fun _ _ _ h => h) (by rfl) ?_ ?_
           rotate_left
           · (intro w' _ _; go_simp; try rfl)
           simp only [Act.put, List.setIfInBounds_toArray, List.set_cons_zero, List.set_cons_succ])
  refine wpOrd_step rfl rfl (by rfl) (fun K' hK => ?_)
  go_simp
  refine (put_at _ _ 4 W1 rfl (by omega) (by omega)).mono ?_
  rintro e w2 ⟨rfl, hO2, hb2⟩
  have hb2' := hb0.trans (hb2.mono hb0.size)
  have m2 := m1.below hb2
  have z2 := n2.below hb2
  have hlt1 : w.heap.size + 1 < W1.heap.size := n2.lt
  clear hb2 m1 n2 hb0
  obtain ⟨w3, hr3, hP3, ho3⟩ := run_copy_bytes (P := Tryd.prog) Tryd.underlying36 Tryd.size_u8 3 w2 (some ⟨w.heap.size + 1, 0, none⟩) (some ⟨W1.heap.size, 0, none⟩) 12 12 4 4 (w.heap.size + 1) 0 4 (zL 12) _ z2 (by omega) (.inr rfl) (hO2.bs (putL_bytes _ _) 4 (length_putL _ _) (by omega)) (by rw [zL_length]; omega)
  have m3 := ho3.own m2 (by omega)
  have hb3 := ho3.below hb2' (by omega)
  rw [head_first] at hP3
  refine hK.out _ _ trivial (fun h => absurd h (by decide)) (fun _ => ?_)
  clear hK K' m2 z2 hO2 hb2' ho3
  try simp only [Act.put, List.setIfInBounds_toArray, List.set_cons_zero, List.set_cons_succ]
  refine wpOrd_step rfl rfl (by rfl) (fun K' hK => ?_)
  go_simp
  refine hK.out _ _ trivial (fun h => absurd h (by decide)) (fun _ => ?_)
  clear hK K' hr3
  try simp only [Act.put, List.setIfInBounds_toArray, List.set_cons_zero, List.set_cons_succ]
  refine wpOrd_nil ?_
  go_wp2_with fail
  refine wp_region_ord 1000 [0, 1, 2, 3] (fun _ => True) (fun _ => True) (by kernel_rfl) (by kernel_rfl) (by kernel_rfl) trivial trivial (fun _ _ => ?_)
  replace hb3 := hb3.drew
  replace m3 : OwnB 40 w3.drew w.heap.size (zL 12) := m3
  replace hP3 : OwnB 40 w3.drew (w.heap.size + 1) (putL boot 4 ++ zL 8) := hP3
  generalize w3.drew = W3 at *
  repeat' (refine wpOrd_quiet (v := ?_) rfl rfl (fun _ _ _ h => h) (by rfl) ?_ ?_
           rotate_left
           · (intro w' _ _; go_simp; try rfl)
           simp only [Act.put, List.setIfInBounds_toArray, List.set_cons_zero, List.set_cons_succ])
  refine wpOrd_step rfl rfl (by rfl) (fun K' hK => ?_)
  go_simp
  refine (put_at _ _ 8 W3 rfl (by omega) (by omega)).mono ?_
  rintro e w4 ⟨rfl, hO4, hb4⟩
  have hb4' := hb3.trans (hb4.mono hb3.size)
  have m4 := m3.below hb4
  have z4 := hP3.below hb4
  have hlt3 : w.heap.size + 1 < W3.heap.size := hP3.lt
  clear hb4 m3 hP3 hb3
  obtain ⟨w5, hr5, hP5, ho5⟩ := run_copy_bytes (P := Tryd.prog) Tryd.underlying36 Tryd.size_u8 3 w4 (some ⟨w.heap.size + 1, 4, none⟩) (some ⟨W3.heap.size, 0, none⟩) 8 8 8 8 (w.heap.size + 1) 4 8 (putL boot 4 ++ zL 8) _ z4 (by omega) (.inr rfl) (hO4.bs (putL_bytes _ _) 8 (length_putL _ _) (by omega)) (by simp [length_putL, zL_length])
  have m5 := ho5.own m4 (by omega)
  have hb5 := ho5.below hb4' (by omega)
  rw [head_second] at hP5
  refine hK.out _ _ trivial (fun h => absurd h (by decide)) (fun _ => ?_)
  clear hK K' m4 z4 hO4 hb4' ho5
  try simp only [Act.put, List.setIfInBounds_toArray, List.set_cons_zero, List.set_cons_succ]
  refine wpOrd_step rfl rfl (by rfl) (fun K' hK => ?_)
  go_simp
  refine hK.out _ _ trivial (fun h => absurd h (by decide)) (fun _ => ?_)
  clear hK K' hr5
  try simp only [Act.put, List.setIfInBounds_toArray, List.set_cons_zero, List.set_cons_succ]
  refine wpOrd_nil ?_
  go_wp2_with (first
    | (refine wpList_loadA arrT12 (by rfl) _ (by rfl) (w.heap.size + 1) (by rfl) (bV (headL boot seq)) hP5 (by rw [bV_size, headL_length]) ?_)
    | (refine wpList_putA arrT12 (by rfl) _ _ (by rfl) w.heap.size (bV (headL boot seq)) (by rfl) (by rfl) _ m5 (by rw [bV_size, headL_length]) (bV_size _) (bV_one _) ?_))
  refine bodyPost_ret (results_cell_row rfl _ _ _ _ _ _ _ rfl (setRow_heap _ _ _ _ _ _ m5) Tryd.underlying40 rfl (by rw [bV_size, headL_length, info_b12])) rfl ?_
  exact ⟨rfl, Below.setRow hb5 (Nat.le_refl _) _⟩
#print axioms head_any
end Go.Proofs.YtlfcejfpdgdnkaaDoor

/- Loads of whole arrays in regions that draw their order; the key that a call was handed, in the first block that it made; rows that grow. No conditions but those that each line states. -/
namespace Go.Proofs.YtlfcejfpdgdnkaaDoor
open Go.RowKit
set_option maxRecDepth 20000

section
variable {P : Program} {Q : Exit → Act → World → Prop} {ty : TypeId} {n : Nat} {md : Region.Mode} {R : World → World → Prop} {l : List Oper} {k : Nat} {rest : List Nat} {o : Oper} {a : Act} {w : World}
theorem exec_loadA (hA : ArrT P ty n) (x : Operand) (hop : o.op = .load ty x) (g : Nat) (cs : Array Value) (hx : a.eval x = .pointer (some ⟨g, 0, none⟩)) (hT : w.heap[g]? = some (.cells cs ty (0, 0))) (hn : cs.size = n) :
    (execOp a.eval o).run P w = .ok (.value (.agg cs)) w := by
  obtain ⟨m, e, hu⟩ := hA.und
  unfold execOp
  simp only [hop, hx, Instr.loadAt, Instr.sureAddr, Sem.run_bind, Sem.run_pure, Result.andThen_ok, run_loadVar_row w g _ _ _ _ _ hT hu rfl (by rw [hn, hA.size])]
theorem wpRel_loadA (hA : ArrT P ty n) (ho : l[k]? = some o) (hst : stepOp o = false) (x : Operand) (hop : o.op = .load ty x)
    (g : Nat) (cs : Array Value) (hx : a.eval x = .pointer (some ⟨g, 0, none⟩)) (hT : ∀ w', R w w' → w'.heap[g]? = some (.cells cs ty (0, 0))) (hn : cs.size = n)
    (hQ : ∀ c a w, Q (.panic c) (a.put o.dst (.agg cs)) w → Q (.panic c) a w) (hw : Region.wanted o (yielded l.toArray a.tmps) = true)
    (h : wpRel P md l.toArray Q R rest (a.put o.dst (.agg cs)) w) : wpRel P md l.toArray Q R (k :: rest) a w :=
  wpRel_quiet ho hst hQ hw (fun w' hw' => exec_loadA hA x hop g cs hx (hT w' hw') hn) h
theorem wpPre_loadA {K : Act → World → Prop} (hA : ArrT P ty n) (ho : l[k]? = some o) (x : Operand) (hop : o.op = .load ty x)
    (g : Nat) (cs : Array Value) (hx : a.eval x = .pointer (some ⟨g, 0, none⟩)) (hT : ∀ w', R w w' → w'.heap[g]? = some (.cells cs ty (0, 0))) (hn : cs.size = n)
    (hQ : ∀ c a w, Q (.panic c) (a.put o.dst (.agg cs)) w → Q (.panic c) a w) (hw : Region.wanted o (yielded l.toArray a.tmps) = true)
    (h : wpPre P l.toArray Q R K rest (a.put o.dst (.agg cs)) w) : wpPre P l.toArray Q R K (k :: rest) a w :=
  wpPre_quiet ho hQ hw (fun w' hw' => exec_loadA hA x hop g cs hx (hT w' hw') hn) h
end

/-- The key of the call, in the first block that it made. -/
structure KK (w W : World) (key : List Int) : Prop where
  kk : OwnB 29 W w.heap.size key
  bel : Below w.heap.size w W
  gl : Glob W
  g0 : 1 < w.heap.size
theorem KK.start (w : World) (key : List Int) (hg : Glob w) : KK w (w.alloc (Obj.cells (bV key) 29)) key := by
  have hb0 := below_alloc (Below.refl w.heap.size w) (Obj.cells (bV key) 29)
  exact ⟨heap_alloc_new w _, hb0, hg.below hb0 hg.lt, hg.lt⟩
theorem KK.later {w W W' : World} {key : List Int} (h : KK w W key) (hb : Below W.heap.size W W') : KK w W' key :=
  ⟨h.kk.below hb, h.bel.trans (hb.mono h.bel.size), h.gl.below hb h.gl.lt, h.g0⟩
theorem KK.drew {w W : World} {key : List Int} (h : KK w W key) : KK w W.drew key := ⟨h.kk, h.bel.drew, h.gl, h.g0⟩
theorem KK.alloc {w W : World} {key : List Int} (h : KK w W key) (o : Obj) : KK w (W.alloc o) key := h.later (below_alloc (Below.refl _ _) o)
theorem KK.lt {w W : World} {key : List Int} (h : KK w W key) : w.heap.size < W.heap.size := h.kk.lt
theorem KK.only {w W W' : World} {key : List Int} {g : Nat} (h : KK w W key) (ho : OnlyAt g W W') (hg : w.heap.size < g) : KK w W' key :=
  ⟨ho.own h.kk (by omega), ho.below h.bel (by omega), rangeAt_keep h.gl (ho.block _ (by have := h.g0; omega)), h.g0⟩
theorem KK.setRow {w W : World} {key : List Int} {g : Nat} (h : KK w W key) (hg : w.heap.size < g) (cs : Array Value) : KK w (W.setRow g cs) key := h.only (OnlyAt.setRow g W cs) hg

/-- A new array of twelve bytes, written whole. -/
theorem new12 (w : World) (zs : List Int) : OwnB 40 ((w.alloc (Obj.cells (bV (zL 12)) 40)).setRow w.heap.size (bV zs)) w.heap.size zs ∧
    Below w.heap.size w ((w.alloc (Obj.cells (bV (zL 12)) 40)).setRow w.heap.size (bV zs)) ∧ ((w.alloc (Obj.cells (bV (zL 12)) 40)).setRow w.heap.size (bV zs)).heap.size = w.heap.size + 1 :=
  ⟨setRow_heap _ _ _ _ _ _ (heap_alloc_new _ _), Below.setRow (below_alloc (Below.refl _ _) _) (Nat.le_refl _) _, by rw [(OnlyAt.setRow w.heap.size _ _).size, size_alloc]⟩
theorem bV_head (boot seq : Int) : (bV (headL boot seq)).size = 12 := by rw [bV_size, headL_length]

end Go.Proofs.YtlfcejfpdgdnkaaDoor

/- What a call of seal.Seal does: for every key, numbers, text and size; nothing that was there is turned. -/
namespace Go.Proofs.YtlfcejfpdgdnkaaDoor
open Go.RowKit
set_option maxRecDepth 20000

theorem fits_zero (n : Nat) (h : n ≤ 100000) : fits 0 n = true := by
  unfold fits
  rw [decide_eq_true_eq, show (0 : BitVec 32).toNat = 0 from rfl]
  omega

set_option maxRecDepth 100000 in
set_option maxHeartbeats 4000000 in
theorem seal_ok (key : List Int) (boot seq size : Int) {a : Option Addr} {len cap : Nat} {zs : List Int} (m : Nat) (w : World) (hk : IsBytes key) (hkl : key.length = 32) (hb : 0 ≤ boot ∧ boot < 4294967296) (hs : 0 ≤ seq ∧ seq < 18446744073709551616)
    (hbs : Bs w a len cap zs) (hsz : size = (m : Int) + 22) (hl : len ≤ m) (hm : m ≤ 60000) (hg : Glob w) :
    Calls Tryd.prog 31 #[.agg (bV key), .int .u32 boot, .int .u64 seq, .slice a len cap, .int .i64 size] w fun e w' => ∃ g cap', e = .returned (.tuple #[.slice (some ⟨g, 0, none⟩) (m + 22) cap', .bool true]) ∧ OwnS 5 w.heap.size w' (some ⟨g, 0, none⟩) (m + 22) cap' (sealL key boot seq zs m) ∧ Below w.heap.size w w' := by
  have hz := hbs.length
  have hpl := length_padL zs m (by omega)
  have hpb := padL_bytes zs m hbs.bytes
  have hhl := headL_length boot seq
  have hhb := headL_bytes boot seq
  have hS := KK.start w key hg
  have hbs0 := hbs.below hS.bel
  subst hsz
  have hr0 : IntKind.i64.wrap ((m : Int) + 22 - 22) = (m : Int) := by rw [IntKind.wrap_i64]; omega
  go_enter Tryd.func31, Tryd.ntmps31
  go_wp2_with fail
  generalize (w.alloc (Obj.cells (bV key) 29)) = W0 at *
  refine (room_any _ (m : Int) W0 hr0).mono ?_
  rintro e W0' ⟨rfl, rfl⟩
  go_wp2_with fail
  refine (pad_at _ m W0 rfl hbs0 hl hm).mono ?_
  rintro e w1 ⟨rfl, hP1, hb1⟩
  have hS1 := hS.later hb1
  have hgp : w.heap.size < W0.heap.size := hS.lt
  generalize W0.heap.size = gp at *
  clear hb1 hS hbs0
  go_wp2_with fail
  refine (head_any boot seq w1 hb hs).mono ?_
  rintro e w2 ⟨rfl, hb2⟩
  have hS2 := hS1.later hb2
  have hP2 := hP1.below hb2
  clear hb2 hS1 hP1
  have hn2 := heap_alloc_new w2 (Obj.cells (bV (zL 12)) 40)
  obtain ⟨hH3, hb3, -⟩ := new12 w2 (headL boot seq)
  have hS3 := hS2.later hb3
  have hP3 := hP2.below hb3
  have hgh : w.heap.size < w2.heap.size := hS2.lt
  go_wp2_with (first
    | (refine wpList_newA (by rfl) 40 (by rfl) _ zero12 w2.heap.size rfl ?_)
    | (refine wpList_putA arrT12 (by rfl) _ _ (by rfl) w2.heap.size (bV (headL boot seq)) (by rfl) (by rfl) _ hn2 (by rw [bV_size, hhl]) (bV_size _) (bV_one _) ?_))
  generalize ((w2.alloc (Obj.cells (bV (zL 12)) 40)).setRow w2.heap.size (bV (headL boot seq))) = W3 at *
  clear hS2 hP2 hb3 hn2
  generalize w2.heap.size = gh at *
  have hsl := run_arr_all (P := Tryd.prog) Tryd.underlying40 Tryd.size_u8 gh
  refine wp_region_rel Kept [0, 1, 2, 3, 4, 5, 6, 7, 8, 9, 10, 11, 12, 13, 14] (by kernel_rfl) (by kernel_rfl) (by kernel_rfl) Kept.refl Kept.trans ?_
  replace hS3 := hS3.drew
  replace hP3 : OwnB 5 W3.drew gp (padL zs m) := hP3
  replace hH3 : OwnB 40 W3.drew gh (headL boot seq) := hH3
  generalize W3.drew = W4 at *
  refine wpRel_loadA arrT32 rfl rfl _ rfl w.heap.size (bV key) (by rfl) (fun w' hR => hS3.kk.below hR) (by rw [bV_size, hkl]) (fun _ _ _ h => h) (by rfl) ?_
  try simp only [Act.put, List.setIfInBounds_toArray, List.set_cons_zero, List.set_cons_succ]
  refine wpRel_loadA arrT12 rfl rfl _ rfl gh (bV (headL boot seq)) (by rfl) (fun w' hR => hH3.below hR) (by rw [bV_size, hhl]) (fun _ _ _ h => h) (by rfl) ?_
  try simp only [Act.put, List.setIfInBounds_toArray, List.set_cons_zero, List.set_cons_succ]
  repeat' (first
    | (refine wpRel_quiet (v := ?_) rfl rfl (fun _ _ _ h => h) (by rfl) ?_ ?_
       rotate_left
       · (intro w' hR; go_simp; try rfl)
       simp only [Act.put, List.setIfInBounds_toArray, List.set_cons_zero, List.set_cons_succ]))
  refine wpRel_step rfl rfl (by rfl) (fun K' hK => ?_)
  refine wp_buildSliceTo 93 36 2 _ (by rfl) Tryd.underlying93 [(0, .slice (some ⟨gh, 0, none⟩) 12 12), (1, .slice (some ⟨gp, 0, none⟩) (2 + m) (2 + m))] (by kernel_rfl) #[.slice (some ⟨gh, 0, none⟩) 12 12, .slice (some ⟨gp, 0, none⟩) (2 + m) (2 + m)] (by kernel_rfl) ?_
  have hb5 := (Below.refl W4.heap.size W4).alloc (Nat.le_refl _) (.cells #[.slice (some ⟨gh, 0, none⟩) 12 12, .slice (some ⟨gp, 0, none⟩) (2 + m) (2 + m)] 36)
  have hB5 := heap_alloc_new W4 (.cells #[.slice (some ⟨gh, 0, none⟩) 12 12, .slice (some ⟨gp, 0, none⟩) (2 + m) (2 + m)] 36)
  refine hK.out _ _ hb5 ?_
  clear hK K'
  try simp only [Act.put, List.setIfInBounds_toArray, List.set_cons_zero, List.set_cons_succ]
  have hS5 := hS3.later hb5
  have hP5 := hP3.below hb5
  have hH5 := hH3.below hb5
  clear hS3 hP3 hH3 hb5
  generalize (W4.alloc _) = W5 at *
  generalize W4.heap.size = gv at *
  have hw1 := fnv_word (headL boot seq ++ padL zs m)
  refine wpRel_step rfl rfl (by rfl) (fun K' hK => ?_)
  go_simp
  refine (sum_is gv 2 [⟨some ⟨gh, 0, none⟩, 12, 12, headL boot seq⟩, ⟨some ⟨gp, 0, none⟩, 2 + m, 2 + m, padL zs m⟩] (fnv (headL boot seq ++ padL zs m)) W5 rfl (by omega) (by simp [partsBytes]) _ hB5 rfl (by
    intro p hp
    simp only [List.mem_cons, List.not_mem_nil, or_false] at hp
    rcases hp with rfl | rfl
    · exact hH5.bs hhb 12 hhl (by omega)
    · exact hP5.bs hpb (2 + m) hpl (by omega))).mono ?_
  rintro e W5' ⟨rfl, rfl⟩
  refine hK.out _ _ (Kept.refl _) ?_
  clear hK K' hB5
  try simp only [Act.put, List.setIfInBounds_toArray, List.set_cons_zero, List.set_cons_succ]
  refine wpRel_step rfl rfl (by rfl) (fun K' hK => ?_)
  go_simp
  refine (put_at _ _ 8 W5 rfl hw1 (by omega)).mono ?_
  rintro e w6 ⟨rfl, hO6, hb6⟩
  refine hK.out _ _ hb6 ?_
  clear hK K'
  try simp only [Act.put, List.setIfInBounds_toArray, List.set_cons_zero, List.set_cons_succ]
  have hS6 := hS5.later hb6
  have hP6 := hP5.below hb6
  have hH6 := hH5.below hb6
  clear hS5 hP5 hH5 hb6
  generalize W5.heap.size = gq at *
  obtain ⟨c7, w7, hr7, ho7, hb7⟩ := run_append_new (P := Tryd.prog) Tryd.underlying36 Tryd.info_u8 36 w6 (some ⟨gp, 0, none⟩) (2 + m) (2 + m) _ (hP6.bs hpb (2 + m) hpl (by omega)) (some ⟨gq, 0, none⟩) 8 8 _ (hO6.bs (putL_bytes _ _) 8 (length_putL _ _) (by omega)) (fun h => by cases h) (by omega) (by omega)
  refine wpRel_step rfl rfl (by rfl) (fun K' hK => ?_)
  refine wp_append_run (.tmp 31) (.tmp 36) 36 (by rfl) _ _ _ (by rfl) (by rfl) hr7 ?_
  refine hK.out _ _ hb7 ?_
  clear hK K' hr7
  try simp only [Act.put, List.setIfInBounds_toArray, List.set_cons_zero, List.set_cons_succ]
  have hS7 := hS6.later hb7
  have hH7 := hH6.below hb7
  clear hS6 hP6 hH6 hb7 hO6
  generalize w6.heap.size = gr at *
  refine wpRel_step rfl rfl (by rfl) (fun K' hK => ?_)
  go_simp
  refine (xor_at key (headL boot seq) 0 _ _ _ w7 rfl rfl rfl hk hkl hhb hhl ho7.bs (by omega) (fits_zero _ (by omega)) hS7.gl).mono ?_
  rintro e w8 ⟨g8, rfl, hO8, hg8, hb8⟩
  refine hK.out _ _ hb8 ?_
  clear hK K'
  try simp only [Act.put, List.setIfInBounds_toArray, List.set_cons_zero, List.set_cons_succ]
  have hS8 := hS7.later hb8
  have hH8 := hH7.below hb8
  clear hS7 hH7 hb8 ho7
  repeat' (first
    | (refine wpRel_quiet (v := ?_) rfl rfl (fun _ _ _ h => h) (by rfl) ?_ ?_
       rotate_left
       · (intro w' hR; go_simp; try rfl)
       simp only [Act.put, List.setIfInBounds_toArray, List.set_cons_zero, List.set_cons_succ]))
  refine wpRel_nil ?_
  have hxl : (xorL key (headL boot seq) 0 (bodyL (headL boot seq) (padL zs m))).length = 2 + m + 8 := by rw [xorL_length, bodyL_length, hpl]
  have hxb := xorL_bytes key (headL boot seq) 0 _ (bodyL_bytes (headL boot seq) (padL zs m) hpb)
  obtain ⟨c9, w9, hr9, ho9, hb9⟩ := run_append_new (P := Tryd.prog) Tryd.underlying36 Tryd.info_u8 36 w8 (some ⟨gh, 0, none⟩) 12 12 _ (hH8.bs hhb 12 hhl (by omega)) (some ⟨g8, 0, none⟩) (2 + m + 8) (2 + m + 8) _ (OwnB.bs (zs := xorL key (headL boot seq) 0 (bodyL (headL boot seq) (padL zs m))) hO8 hxb (2 + m + 8) hxl (by omega)) (fun h => by cases h) (by omega) (by omega)
  rw [show 12 + (2 + m + 8) = m + 22 by omega] at hr9 ho9
  have hbel := hS8.bel.trans (hb9.mono hS8.bel.size)
  have hle : w.heap.size ≤ w8.heap.size := hS8.bel.size
  clear hO8 hH8 hb9
  go_wp2_with (at_builtin; refine wpList_append_run (by rfl) (.tmp 43) (.tmp 44) 36 (by rfl) _ _ _ _ (by rfl) (by rfl) hr9 ?_)
  go_ret2
  exact ⟨_, _, rfl, ho9.mono hle, hbel⟩
#print axioms seal_ok

set_option maxHeartbeats 1000000 in
theorem seal_no (key : List Int) (boot seq size : Int) {a : Option Addr} {len cap : Nat} (w : World) (hsz : -9223372036854775808 ≤ size ∧ size ≤ 9223372036854775807) (hl : len ≤ 9223372036854775807) (h : size < 22 ∨ 60022 < size ∨ size < (len : Int) + 22) :
    Calls Tryd.prog 31 #[.agg (bV key), .int .u32 boot, .int .u64 seq, .slice a len cap, .int .i64 size] w fun e w' => e = .returned (.tuple #[.slice none 0 0, .bool false]) ∧ Below w.heap.size w w' := by
  obtain ⟨r, hr⟩ : ∃ r, IntKind.i64.wrap (size - 22) = r := ⟨_, rfl⟩
  have hr2 : r < 0 ∨ 60000 < r ∨ r < (len : Int) := by
    rw [IntKind.wrap_i64] at hr
    omega
  have hb0 := below_alloc (Below.refl w.heap.size w) (Obj.cells (bV key) 29)
  clear h
  go_enter Tryd.func31, Tryd.ntmps31
  go_wp2_with fail
  generalize (w.alloc (Obj.cells (bV key) 29)) = W0 at *
  refine (room_any _ r W0 hr).mono ?_
  rintro e W0' ⟨rfl, rfl⟩
  go_wp2_with fail
  refine (pad_bad r W0 hr2 hl).mono ?_
  rintro e W0' ⟨rfl, rfl⟩
  go_wp2_with fail
  go_ret2
  exact ⟨rfl, hb0⟩
#print axioms seal_no
end Go.Proofs.YtlfcejfpdgdnkaaDoor

/- What a call of seal.Open does: for every key and every row of bytes up to a bound; nothing that was there is turned. -/
namespace Go.Proofs.YtlfcejfpdgdnkaaDoor
open Go.RowKit
set_option maxRecDepth 20000

/-- '[n]byte(b)': the row's address, where it is long enough. -/
theorem wpList_arrPtr {P : Program} {ops : Array Oper} {rest : List Oper} {o : Oper} {a : Act} {w : World} {Q : Exit → Act → World → Prop} (hw : Region.wanted o (yielded ops a.tmps) = true) (ty : TypeId) (x : Operand) (hop : o.op = .sliceToArrayPointer ty x) (n : Nat) (E : TypeId) (hu : P.underlying ty = some (.array n E)) (p : Option Addr) (len cap : Nat) (hx : a.eval x = .slice p len cap) (hl : n ≤ len)
    (h : wpList P ops Q rest (a.put o.dst (.pointer p)) w) : wpList P ops Q (o :: rest) a w := by
  refine wpList_step fun K hK => ?_
  rw [if_pos hw]
  unfold Oper.wp execOp
  simp [hop, hx, Instr.arrayAt, underlying, hu, show ¬ len < n by omega, Result.andThen]
  exact hK _ _ h

theorem Bs.range {w : World} {b off len cap : Nat} {zs : List Int} (h : Bs w (some ⟨b, off, none⟩) len cap zs) (k : Nat) (h0 : 0 < len) (hk : k ≤ len) : w.rangeAt b off ((zs.take k).map (Value.int .u8)) := by
  rcases h.place with hc | ⟨b', off', e, hc⟩
  · have := h.le_cap; omega
  · cases e
    intro j v hv
    rw [List.getElem?_map, Option.map_eq_some_iff] at hv
    obtain ⟨z, hz1, rfl⟩ := hv
    have hj : j < k := by have := (List.getElem?_eq_some_iff.1 hz1).1; simp at this; omega
    rw [hc j (by omega)]
    rw [List.getElem?_take_of_lt hj] at hz1
    simp [List.getD, hz1]

theorem cutTail (g n : Nat) (i : Int) (hi : i = ((n + 2 : Nat) : Int)) (w : World) : (Instr.slice 36 (.slice (some ⟨g, 0, none⟩) (n + 10) (n + 10)) (some (.int .i64 i)) none none).run Tryd.prog w = .ok (.slice (some ⟨g, n + 2, none⟩) 8 8) w := by
  have e : cutA (some ⟨g, 0, none⟩) (n + 10) (n + 2) = some ⟨g, n + 2, none⟩ := by rw [cutA, if_neg (by omega)]; simp [addr_add]
  rw [cutFrom _ _ _ .i64 i (n + 2) 8 hi (by omega) (by omega), e, show n + 10 - (n + 2) = 8 by omega]

/-- What Open answers of what is none. -/
def noneV : Value := .tuple #[.slice none 0 0, .int .u32 0, .int .u64 0, .bool false]

set_option maxHeartbeats 1000000 in
theorem open_short (key : List Int) {a : Option Addr} {len cap : Nat} (w : World) (hl : len < 22) :
    Calls Tryd.prog 34 #[.agg (bV key), .slice a len cap] w fun e w' => e = .returned noneV ∧ Below w.heap.size w w' := by
  have hb0 := below_alloc (Below.refl w.heap.size w) (Obj.cells (bV key) 29)
  have hr : IntKind.i64.wrap ((len : Int) - 22) = (len : Int) - 22 := by rw [IntKind.wrap_i64]; omega
  have hneg : (len : Int) - 22 < 0 := by omega
  go_enter Tryd.func34, Tryd.ntmps34
  go_wp2_with fail
  generalize (w.alloc (Obj.cells (bV key) 29)) = W0 at *
  refine (room_any _ ((len : Int) - 22) W0 hr).mono ?_
  rintro e W0' ⟨rfl, rfl⟩
  go_wp2_with fail
  refine bodyPost_ret (results_tmp4 rfl _ _ _) rfl ?_
  exact ⟨rfl, hb0⟩
#print axioms open_short

set_option maxRecDepth 100000 in
set_option maxHeartbeats 4000000 in
theorem open_long (key : List Int) {a : Option Addr} {cap : Nat} {zs : List Int} (n : Nat) (w : World) (hk : IsBytes key) (hkl : key.length = 32) (hb : Bs w a (n + 22) cap zs) (hn : n ≤ 90000) (hg : Glob w) :
    Calls Tryd.prog 34 #[.agg (bV key), .slice a (n + 22) cap] w fun e w' => Below w.heap.size w w' ∧
      ((∃ us g, openL key zs = some us ∧ e = .returned (.tuple #[.slice (some ⟨g, 0, none⟩) us.length us.length, .int .u32 (leNum (zs.take 4)), .int .u64 (leNum ((zs.take 12).drop 4)), .bool true]) ∧ w.heap.size ≤ g ∧ OwnB 5 w' g us) ∨
       (openL key zs = none ∧ e = .returned noneV)) := by
  have hz := hb.length
  have hS := KK.start w key hg
  have hb0 := hb.below hS.bel
  obtain ⟨b, off, rfl⟩ : ∃ b off, a = some ⟨b, off, none⟩ := by
    rcases hb.place with h0 | ⟨b, off, rfl, _⟩
    · have := hb.le_cap; omega
    · exact ⟨b, off, rfl⟩
  have hHl : (zs.take 12).length = 12 := by simp; omega
  have hHb : IsBytes (zs.take 12) := hb.bytes.take 12
  have hszL : (Tryd.prog.info? 40).map (·.size) = some ((zs.take 12).map (Value.int .u8)).length := by rw [List.length_map, hHl]; exact info_b12
  have hr : IntKind.i64.wrap (((n + 22 : Nat) : Int) - 22) = (n : Int) := by rw [IntKind.wrap_i64]; omega
  have hcap := hb.le_cap
  have hneg : ¬ (n : Int) < 0 := by omega
  have hct := fun w => cutTo hb .i64 12 12 rfl (by omega) w
  have hcf := fun w => cutFrom (some ⟨b, off, none⟩) (n + 22) cap .i64 12 12 (n + 10) rfl (by omega) (by omega) w
  have hrg := hb0.range 12 (by omega) (by omega)
  have hn2 := heap_alloc_new (w.alloc (Obj.cells (bV key) 29)) (Obj.cells (bV (zL 12)) 40)
  obtain ⟨hH3, hb3, -⟩ := new12 (w.alloc (Obj.cells (bV key) 29)) (zs.take 12)
  have hS3 := hS.later hb3
  have hb3' := hb0.below hb3
  have hrl := below_alloc (Below.refl (w.alloc (Obj.cells (bV key) 29)).heap.size (w.alloc (Obj.cells (bV key) 29))) (Obj.cells (bV (zL 12)) 40)
  go_enter Tryd.func34, Tryd.ntmps34
  go_wp2_with fail
  generalize (w.alloc (Obj.cells (bV key) 29)) = W0 at *
  refine (room_any _ (n : Int) W0 hr).mono ?_
  rintro e W0' ⟨rfl, rfl⟩
  clear hrl hb3 hb0
  go_wp2_with (first
    | (refine wpList_arrPtr (by rfl) 40 _ (by rfl) 12 5 Tryd.underlying40 (some ⟨b, off, none⟩) 12 cap (by rfl) (by omega) ?_)
    | (refine wpList_load_mid rfl 40 _ (by rfl) b off (by rfl) ((zs.take 12).map (Value.int .u8)) _ hrg Tryd.underlying40 rfl hszL ?_)
    | (refine wpList_newA (by rfl) 40 (by rfl) _ zero12 W0.heap.size rfl ?_)
    | (refine wpList_putA arrT12 (by rfl) _ _ (by rfl) W0.heap.size (bV (zs.take 12)) (by rfl) (by rfl) _ hn2 (by rw [bV_size, hHl]) (bV_size _) (bV_one _) ?_))
  generalize ((W0.alloc (Obj.cells (bV (zL 12)) 40)).setRow W0.heap.size (bV (zs.take 12))) = W3 at *
  have hgh : w.heap.size < W0.heap.size := hS.lt
  clear hS hn2 hrg hct
  generalize W0.heap.size = gh at *
  refine wp_region_rel Kept [0, 1, 2, 3, 4, 5, 6, 7, 8, 9] (by kernel_rfl) (by kernel_rfl) (by kernel_rfl) Kept.refl Kept.trans ?_
  replace hS3 := hS3.drew
  replace hb3' : Bs W3.drew (some ⟨b, off, none⟩) (n + 22) cap zs := ⟨hb3'.length, hb3'.le_cap, hb3'.cap_le, hb3'.bytes, hb3'.place⟩
  replace hH3 : OwnB 40 W3.drew gh (zs.take 12) := hH3
  generalize W3.drew = W4 at *
  refine wpRel_loadA arrT32 rfl rfl _ rfl w.heap.size (bV key) (by rfl) (fun w' hR => hS3.kk.below hR) (by rw [bV_size, hkl]) (fun _ _ _ h => h) (by rfl) ?_
  try simp only [Act.put, List.setIfInBounds_toArray, List.set_cons_zero, List.set_cons_succ]
  refine wpRel_loadA arrT12 rfl rfl _ rfl gh (bV (zs.take 12)) (by rfl) (fun w' hR => hH3.below hR) (by rw [bV_size, hHl]) (fun _ _ _ h => h) (by rfl) ?_
  try simp only [Act.put, List.setIfInBounds_toArray, List.set_cons_zero, List.set_cons_succ]
  repeat' (first
    | (refine wpRel_quiet (v := ?_) rfl rfl (fun _ _ _ h => h) (by rfl) ?_ ?_
       rotate_left
       · (intro w' hR; go_simp; try rfl)
       simp only [Act.put, List.setIfInBounds_toArray, List.set_cons_zero, List.set_cons_succ]))
  have hbc := hb3'.cut 12 (by omega)
  rw [show n + 22 - 12 = n + 10 by omega] at hbc
  refine wpRel_step rfl rfl (by rfl) (fun K' hK => ?_)
  go_simp
  refine (xor_at key (zs.take 12) 0 _ _ _ W4 rfl rfl rfl hk hkl hHb hHl hbc (by omega) (fits_zero _ (by omega)) hS3.gl).mono ?_
  rintro e w8 ⟨g8, rfl, hO8, hg8, hb8⟩
  refine hK.out _ _ hb8 ?_
  clear hK K' hbc hcf
  try simp only [Act.put, List.setIfInBounds_toArray, List.set_cons_zero, List.set_cons_succ]
  have hS8 := hS3.later hb8
  have hH8 := hH3.below hb8
  have hlt8 : w.heap.size ≤ g8 := Nat.le_trans hS3.bel.size hg8
  clear hS3 hH3 hb8 hg8 hb3'
  repeat' (first
    | (refine wpRel_quiet (v := ?_) rfl rfl (fun _ _ _ h => h) (by rfl) ?_ ?_
       rotate_left
       · (intro w' hR; go_simp; try rfl)
       simp only [Act.put, List.setIfInBounds_toArray, List.set_cons_zero, List.set_cons_succ]))
  refine wpRel_nil ?_
  replace hO8 : OwnB 5 w8 g8 (innerL key zs) := hO8
  have hB8 := hO8.bs (innerL_bytes key zs hb.bytes) (n + 10) (by rw [innerL_length]; omega) (by omega)
  have hP8 := hB8.taken (n + 2) (by omega)
  have hT8 := hO8.bsAt (innerL_bytes key zs hb.bytes) (n + 2) 8 8 (by rw [innerL_length]; omega) (by omega) (by omega)
  rw [show (innerL key zs).take (n + 2) = textL key zs by rw [textL, show zs.length - 20 = n + 2 by omega]] at hP8
  rw [show ((innerL key zs).drop (n + 2)).take 8 = tailL key zs by rw [tailL, show zs.length - 20 = n + 2 by omega, List.take_of_length_le (by rw [List.length_drop, innerL_length]; omega)]] at hT8
  have c3 := fun w => cutTo hB8 .i64 ((n : Int) + 2) (n + 2) (by omega) (by omega) w
  have c1 := cutTail g8 n ((n : Int) + 2) (by omega)
  have hwr : IntKind.i64.wrap ((n : Int) + 10 - 8) = (n : Int) + 2 := by rw [IntKind.wrap_i64]; omega
  clear hB8 hO8
  go_wp2_with fail
  refine wp_region_rel Kept [0, 1, 2, 3, 4, 5, 6, 7, 8, 9, 10, 11] (by kernel_rfl) (by kernel_rfl) (by kernel_rfl) Kept.refl Kept.trans ?_
  replace hS8 := hS8.drew
  replace hH8 : OwnB 40 w8.drew gh (zs.take 12) := hH8
  replace hP8 : Bs w8.drew (some ⟨g8, 0, none⟩) (n + 2) (n + 10) (textL key zs) := ⟨hP8.length, hP8.le_cap, hP8.cap_le, hP8.bytes, hP8.place⟩
  replace hT8 : Bs w8.drew (some ⟨g8, n + 2, none⟩) 8 8 (tailL key zs) := ⟨hT8.length, hT8.le_cap, hT8.cap_le, hT8.bytes, hT8.place⟩
  generalize w8.drew = W7 at *
  repeat' (first
    | (refine wpRel_quiet (v := ?_) rfl rfl (fun _ _ _ h => h) (by rfl) ?_ ?_
       rotate_left
       · (intro w' hR; go_simp; try rfl)
       simp only [Act.put, List.setIfInBounds_toArray, List.set_cons_zero, List.set_cons_succ]))
  refine wpRel_nil ?_
  clear c1 c3 hwr
  go_wp2_with fail
  have hsl := run_arr_all (P := Tryd.prog) Tryd.underlying40 Tryd.size_u8 gh
  have hsl4 := run_arr_to (P := Tryd.prog) Tryd.underlying40 Tryd.size_u8 gh .i64 4 4 rfl (by decide)
  have hsf4 := run_arr_from (P := Tryd.prog) Tryd.underlying40 Tryd.size_u8 gh .i64 4 4 rfl (by decide)
  have eq1 : leNum ((((zs.take 12).drop 0).take 4).take 8) = leNum (zs.take 4) := by simp [List.take_take]
  have eq2 : leNum ((((zs.take 12).drop 4).take 8).take 8) = leNum ((zs.take 12).drop 4) := by
    rw [List.take_of_length_le (l := ((zs.take 12).drop 4).take 8) (by simp; omega), List.take_of_length_le (by rw [List.length_drop, hHl]; omega)]
  have hw32 : IntKind.u32.wrap (leNum (zs.take 4)) = leNum (zs.take 4) := by
    have := leNum4_lt (zs.take 4) (hb.bytes.take 4) (by simp; omega)
    rw [IntKind.wrap_u32']; omega
  obtain ⟨V1, hV1⟩ : ∃ V, leNum ((tailL key zs).take 8) = V := ⟨_, rfl⟩
  obtain ⟨V2, hV2⟩ : ∃ V, fnv (zs.take 12 ++ textL key zs) = V := ⟨_, rfl⟩
  have hV1' : leNum (tailL key zs) = V1 := by rw [← hV1, List.take_of_length_le (by rw [tailL_length _ _ (by omega)]; omega)]
  have hopS : V1 = V2 → openL key zs = unpadL (textL key zs) (n : Int) := fun h => by
    unfold openL sumOk
    rw [if_neg (by omega), hV1', hV2, if_pos (by rw [decide_eq_true_eq]; exact h), show zs.length - 22 = n by omega]
  have hopN : ¬ V1 = V2 → openL key zs = none := fun h => by
    unfold openL sumOk
    rw [if_neg (by omega), hV1', hV2, if_neg (by rw [decide_eq_true_eq]; exact h)]
  refine wp_region_pre Kept [0, 2, 3] 4 (by kernel_rfl) (by kernel_rfl) (by kernel_rfl) Kept.refl Kept.trans ?_
  replace hS8 := hS8.drew
  replace hH8 : OwnB 40 W7.drew gh (zs.take 12) := hH8
  replace hP8 : Bs W7.drew (some ⟨g8, 0, none⟩) (n + 2) (n + 10) (textL key zs) := ⟨hP8.length, hP8.le_cap, hP8.cap_le, hP8.bytes, hP8.place⟩
  replace hT8 : Bs W7.drew (some ⟨g8, n + 2, none⟩) 8 8 (tailL key zs) := ⟨hT8.length, hT8.le_cap, hT8.cap_le, hT8.bytes, hT8.place⟩
  generalize W7.drew = W8 at *
  repeat' (first
    | (refine wpPre_quiet (v := ?_) rfl (fun _ _ _ h => h) (by rfl) ?_ ?_
       rotate_left
       · (intro w' hR; go_simp; try rfl)
       simp only [Act.put, List.setIfInBounds_toArray, List.set_cons_zero, List.set_cons_succ]))
  refine wpPre_nil ?_
  refine wpR_two 1 4 (by kernel_rfl) ?_ ?_
  · refine wpOp_go rfl (by rfl) (fun K' hK => ?_)
    go_simp
    refine (get_any W8 hT8).mono ?_
    rintro e W8' ⟨rfl, rfl⟩
    rw [hV1]
    refine hK.out _ _ (Kept.refl _) ?_
    clear hK K'
    try simp only [Act.put, List.setIfInBounds_toArray, List.set_cons_zero, List.set_cons_succ]
    refine wpR_ord [4, 5, 6] (by kernel_rfl) (by kernel_rfl) Kept.refl Kept.trans ?_
    refine wpRel_step rfl rfl (by rfl) (fun K' hK => ?_)
    refine wp_buildSliceTo 93 36 2 _ (by rfl) Tryd.underlying93 [(0, .slice (some ⟨gh, 0, none⟩) 12 12), (1, .slice (some ⟨g8, 0, none⟩) (n + 2) (n + 10))] (by kernel_rfl) #[.slice (some ⟨gh, 0, none⟩) 12 12, .slice (some ⟨g8, 0, none⟩) (n + 2) (n + 10)] (by kernel_rfl) ?_
    have hb9 := (Below.refl W8.heap.size W8).alloc (Nat.le_refl _) (.cells #[.slice (some ⟨gh, 0, none⟩) 12 12, .slice (some ⟨g8, 0, none⟩) (n + 2) (n + 10)] 36)
    have hB9 := heap_alloc_new W8 (.cells #[.slice (some ⟨gh, 0, none⟩) 12 12, .slice (some ⟨g8, 0, none⟩) (n + 2) (n + 10)] 36)
    refine hK.out _ _ hb9 ?_
    clear hK K'
    try simp only [Act.put, List.setIfInBounds_toArray, List.set_cons_zero, List.set_cons_succ]
    have hS9 := hS8.later hb9
    have hH9 := hH8.below hb9
    have hP9 := hP8.below hb9
    have hT9 := hT8.below hb9
    clear hS8 hH8 hP8 hT8 hb9
    generalize (W8.alloc _) = W9 at *
    generalize W8.heap.size = gv at *
    refine wpRel_step rfl rfl (by rfl) (fun K' hK => ?_)
    go_simp
    refine (sum_is gv 2 [⟨some ⟨gh, 0, none⟩, 12, 12, zs.take 12⟩, ⟨some ⟨g8, 0, none⟩, n + 2, n + 10, textL key zs⟩] V2 W9 rfl (by omega) (by rw [← hV2]; simp [partsBytes]) _ hB9 rfl (by
      intro p hp
      simp only [List.mem_cons, List.not_mem_nil, or_false] at hp
      rcases hp with rfl | rfl
      · exact hH9.bs hHb 12 hHl (by omega)
      · exact hP9)).mono ?_
    rintro e W9' ⟨rfl, rfl⟩
    refine hK.out _ _ (Kept.refl _) ?_
    clear hK K'
    try simp only [Act.put, List.setIfInBounds_toArray, List.set_cons_zero, List.set_cons_succ]
    clear hB9
    by_cases hq : V1 = V2
    · have hop := hopS hq
      clear hopS hopN
      subst hq
      repeat' (first
        | (refine wpRel_quiet (v := ?_) rfl rfl (fun _ _ _ h => h) (by rfl) ?_ ?_
           rotate_left
           · (intro w' hR; go_simp; try rfl)
           simp only [Act.put, List.setIfInBounds_toArray, List.set_cons_zero, List.set_cons_succ]))
      refine wpRel_nil ?_
      go_wp2_with fail
      refine (room_any _ (n : Int) W9 hr).mono ?_
      rintro e W9' ⟨rfl, rfl⟩
      go_wp2_with fail
      refine (unpad_any (n : Int) W9 hP9).mono ?_
      rintro e w10 ⟨hb10, (⟨us, g10, hu, rfl, hg10, hO10⟩ | ⟨hu, rfl⟩)⟩
      · have hS10 := hS9.later hb10
        have hH10 := hH9.below hb10
        have hle10 : w.heap.size ≤ g10 := Nat.le_trans hS9.bel.size hg10
        rw [hu] at hop
        clear hS9 hH9 hP9 hT9 hb10 hu hg10
        go_wp2_with fail
        refine wp_region_rel Kept [0, 1, 4, 2, 3, 5, 6, 7, 8, 9] (by kernel_rfl) (by kernel_rfl) (by kernel_rfl) Kept.refl Kept.trans ?_
        replace hS10 := hS10.drew
        replace hH10 : OwnB 40 w10.drew gh (zs.take 12) := hH10
        replace hO10 : OwnB 5 w10.drew g10 us := hO10
        generalize w10.drew = W10 at *
        repeat' (first
          | (refine wpRel_quiet (v := ?_) rfl rfl (fun _ _ _ h => h) (by rfl) ?_ ?_
             rotate_left
             · (intro w' hR; go_simp; try rfl)
             simp only [Act.put, List.setIfInBounds_toArray, List.set_cons_zero, List.set_cons_succ]))
        refine wpRel_step rfl rfl (by rfl) (fun K' hK => ?_)
        go_simp
        refine (get_any W10 (hH10.bsAt hHb 0 4 12 (by rw [hHl]; omega) (by omega) (by omega))).mono ?_
        rintro e W10' ⟨rfl, rfl⟩
        rw [eq1]
        refine hK.out _ _ (Kept.refl _) ?_
        clear hK K'
        try simp only [Act.put, List.setIfInBounds_toArray, List.set_cons_zero, List.set_cons_succ]
        repeat' (first
          | (refine wpRel_quiet (v := ?_) rfl rfl (fun _ _ _ h => h) (by rfl) ?_ ?_
             rotate_left
             · (intro w' hR; go_simp; try rfl)
             simp only [Act.put, List.setIfInBounds_toArray, List.set_cons_zero, List.set_cons_succ]))
        refine wpRel_step rfl rfl (by rfl) (fun K' hK => ?_)
        go_simp
        refine (get_any W10 (hH10.bsAt hHb 4 8 8 (by rw [hHl]; omega) (by omega) (by omega))).mono ?_
        rintro e W10' ⟨rfl, rfl⟩
        rw [eq2]
        refine hK.out _ _ (Kept.refl _) ?_
        clear hK K'
        try simp only [Act.put, List.setIfInBounds_toArray, List.set_cons_zero, List.set_cons_succ]
        repeat' (first
          | (refine wpRel_quiet (v := ?_) rfl rfl (fun _ _ _ h => h) (by rfl) ?_ ?_
             rotate_left
             · (intro w' hR; go_simp; try rfl)
             simp only [Act.put, List.setIfInBounds_toArray, List.set_cons_zero, List.set_cons_succ]))
        refine wpRel_nil ?_
        go_wp2_with fail
        refine bodyPost_ret (results_tmp4 rfl _ _ _) rfl ?_
        exact ⟨hS10.bel, .inl ⟨us, g10, hop, rfl, hle10, hO10⟩⟩
      · rw [hu] at hop
        have hS10 := hS9.later hb10
        clear hS9 hH9 hP9 hT9 hb10 hu
        go_wp2_with fail
        refine bodyPost_ret (results_tmp4 rfl _ _ _) rfl ?_
        exact ⟨hS10.bel, .inr ⟨hop, rfl⟩⟩
    · have hop := hopN hq
      clear hopS hopN
      repeat' (first
        | (refine wpRel_quiet (v := ?_) rfl rfl (fun _ _ _ h => h) (by rfl) ?_ ?_
           rotate_left
           · (intro w' hR; go_simp; try rfl)
           simp only [Act.put, List.setIfInBounds_toArray, List.set_cons_zero, List.set_cons_succ]))
      refine wpRel_nil ?_
      go_wp2_with fail
      refine bodyPost_ret (results_tmp4 rfl _ _ _) rfl ?_
      exact ⟨hS9.bel, .inr ⟨hop, rfl⟩⟩
  · refine wpOp_go rfl (by rfl) (fun K' hK => ?_)
    refine wp_buildSliceTo 93 36 2 _ (by rfl) Tryd.underlying93 [(0, .slice (some ⟨gh, 0, none⟩) 12 12), (1, .slice (some ⟨g8, 0, none⟩) (n + 2) (n + 10))] (by kernel_rfl) #[.slice (some ⟨gh, 0, none⟩) 12 12, .slice (some ⟨g8, 0, none⟩) (n + 2) (n + 10)] (by kernel_rfl) ?_
    have hb9 := (Below.refl W8.heap.size W8).alloc (Nat.le_refl _) (.cells #[.slice (some ⟨gh, 0, none⟩) 12 12, .slice (some ⟨g8, 0, none⟩) (n + 2) (n + 10)] 36)
    have hB9 := heap_alloc_new W8 (.cells #[.slice (some ⟨gh, 0, none⟩) 12 12, .slice (some ⟨g8, 0, none⟩) (n + 2) (n + 10)] 36)
    refine hK.out _ _ hb9 ?_
    clear hK K'
    try simp only [Act.put, List.setIfInBounds_toArray, List.set_cons_zero, List.set_cons_succ]
    have hS9 := hS8.later hb9
    have hH9 := hH8.below hb9
    have hP9 := hP8.below hb9
    have hT9 := hT8.below hb9
    clear hS8 hH8 hP8 hT8 hb9
    generalize (W8.alloc _) = W9 at *
    generalize W8.heap.size = gv at *
    refine wpR_ord [1, 5, 6] (by kernel_rfl) (by kernel_rfl) Kept.refl Kept.trans ?_
    refine wpRel_step rfl rfl (by rfl) (fun K' hK => ?_)
    go_simp
    refine (get_any W9 hT9).mono ?_
    rintro e W9' ⟨rfl, rfl⟩
    rw [hV1]
    refine hK.out _ _ (Kept.refl _) ?_
    clear hK K'
    try simp only [Act.put, List.setIfInBounds_toArray, List.set_cons_zero, List.set_cons_succ]
    refine wpRel_step rfl rfl (by rfl) (fun K' hK => ?_)
    go_simp
    refine (sum_is gv 2 [⟨some ⟨gh, 0, none⟩, 12, 12, zs.take 12⟩, ⟨some ⟨g8, 0, none⟩, n + 2, n + 10, textL key zs⟩] V2 W9 rfl (by omega) (by rw [← hV2]; simp [partsBytes]) _ hB9 rfl (by
      intro p hp
      simp only [List.mem_cons, List.not_mem_nil, or_false] at hp
      rcases hp with rfl | rfl
      · exact hH9.bs hHb 12 hHl (by omega)
      · exact hP9)).mono ?_
    rintro e W9' ⟨rfl, rfl⟩
    refine hK.out _ _ (Kept.refl _) ?_
    clear hK K'
    try simp only [Act.put, List.setIfInBounds_toArray, List.set_cons_zero, List.set_cons_succ]
    clear hB9
    by_cases hq : V1 = V2
    · have hop := hopS hq
      clear hopS hopN
      subst hq
      repeat' (first
        | (refine wpRel_quiet (v := ?_) rfl rfl (fun _ _ _ h => h) (by rfl) ?_ ?_
           rotate_left
           · (intro w' hR; go_simp; try rfl)
           simp only [Act.put, List.setIfInBounds_toArray, List.set_cons_zero, List.set_cons_succ]))
      refine wpRel_nil ?_
      go_wp2_with fail
      refine (room_any _ (n : Int) W9 hr).mono ?_
      rintro e W9' ⟨rfl, rfl⟩
      go_wp2_with fail
      refine (unpad_any (n : Int) W9 hP9).mono ?_
      rintro e w10 ⟨hb10, (⟨us, g10, hu, rfl, hg10, hO10⟩ | ⟨hu, rfl⟩)⟩
      · have hS10 := hS9.later hb10
        have hH10 := hH9.below hb10
        have hle10 : w.heap.size ≤ g10 := Nat.le_trans hS9.bel.size hg10
        rw [hu] at hop
        clear hS9 hH9 hP9 hT9 hb10 hu hg10
        go_wp2_with fail
        refine wp_region_rel Kept [0, 1, 4, 2, 3, 5, 6, 7, 8, 9] (by kernel_rfl) (by kernel_rfl) (by kernel_rfl) Kept.refl Kept.trans ?_
        replace hS10 := hS10.drew
        replace hH10 : OwnB 40 w10.drew gh (zs.take 12) := hH10
        replace hO10 : OwnB 5 w10.drew g10 us := hO10
        generalize w10.drew = W10 at *
        repeat' (first
          | (refine wpRel_quiet (v := ?_) rfl rfl (fun _ _ _ h => h) (by rfl) ?_ ?_
             rotate_left
             · (intro w' hR; go_simp; try rfl)
             simp only [Act.put, List.setIfInBounds_toArray, List.set_cons_zero, List.set_cons_succ]))
        refine wpRel_step rfl rfl (by rfl) (fun K' hK => ?_)
        go_simp
        refine (get_any W10 (hH10.bsAt hHb 0 4 12 (by rw [hHl]; omega) (by omega) (by omega))).mono ?_
        rintro e W10' ⟨rfl, rfl⟩
        rw [eq1]
        refine hK.out _ _ (Kept.refl _) ?_
        clear hK K'
        try simp only [Act.put, List.setIfInBounds_toArray, List.set_cons_zero, List.set_cons_succ]
        repeat' (first
          | (refine wpRel_quiet (v := ?_) rfl rfl (fun _ _ _ h => h) (by rfl) ?_ ?_
             rotate_left
             · (intro w' hR; go_simp; try rfl)
             simp only [Act.put, List.setIfInBounds_toArray, List.set_cons_zero, List.set_cons_succ]))
        refine wpRel_step rfl rfl (by rfl) (fun K' hK => ?_)
        go_simp
        refine (get_any W10 (hH10.bsAt hHb 4 8 8 (by rw [hHl]; omega) (by omega) (by omega))).mono ?_
        rintro e W10' ⟨rfl, rfl⟩
        rw [eq2]
        refine hK.out _ _ (Kept.refl _) ?_
        clear hK K'
        try simp only [Act.put, List.setIfInBounds_toArray, List.set_cons_zero, List.set_cons_succ]
        repeat' (first
          | (refine wpRel_quiet (v := ?_) rfl rfl (fun _ _ _ h => h) (by rfl) ?_ ?_
             rotate_left
             · (intro w' hR; go_simp; try rfl)
             simp only [Act.put, List.setIfInBounds_toArray, List.set_cons_zero, List.set_cons_succ]))
        refine wpRel_nil ?_
        go_wp2_with fail
        refine bodyPost_ret (results_tmp4 rfl _ _ _) rfl ?_
        exact ⟨hS10.bel, .inl ⟨us, g10, hop, rfl, hle10, hO10⟩⟩
      · rw [hu] at hop
        have hS10 := hS9.later hb10
        clear hS9 hH9 hP9 hT9 hb10 hu
        go_wp2_with fail
        refine bodyPost_ret (results_tmp4 rfl _ _ _) rfl ?_
        exact ⟨hS10.bel, .inr ⟨hop, rfl⟩⟩
    · have hop := hopN hq
      clear hopS hopN
      repeat' (first
        | (refine wpRel_quiet (v := ?_) rfl rfl (fun _ _ _ h => h) (by rfl) ?_ ?_
           rotate_left
           · (intro w' hR; go_simp; try rfl)
           simp only [Act.put, List.setIfInBounds_toArray, List.set_cons_zero, List.set_cons_succ]))
      refine wpRel_nil ?_
      go_wp2_with fail
      refine bodyPost_ret (results_tmp4 rfl _ _ _) rfl ?_
      exact ⟨hS9.bel, .inr ⟨hop, rfl⟩⟩
#print axioms open_long

theorem open_any (key : List Int) {a : Option Addr} {len cap : Nat} {zs : List Int} (w : World) (hk : IsBytes key) (hkl : key.length = 32) (hb : Bs w a len cap zs) (hl : len ≤ 90022) (hg : Glob w) :
    Calls Tryd.prog 34 #[.agg (bV key), .slice a len cap] w fun e w' => Below w.heap.size w w' ∧
      ((∃ us g, openL key zs = some us ∧ e = .returned (.tuple #[.slice (some ⟨g, 0, none⟩) us.length us.length, .int .u32 (leNum (zs.take 4)), .int .u64 (leNum ((zs.take 12).drop 4)), .bool true]) ∧ w.heap.size ≤ g ∧ OwnB 5 w' g us) ∨
       (openL key zs = none ∧ e = .returned noneV)) := by
  have hz := hb.length
  by_cases h : len < 22
  · refine (open_short key w h).mono ?_
    rintro e w' ⟨rfl, hb'⟩
    exact ⟨hb', .inr ⟨by unfold openL; rw [if_pos (by omega)], rfl⟩⟩
  · obtain ⟨n, rfl⟩ : ∃ n, len = n + 22 := ⟨len - 22, by omega⟩
    exact open_long key n w hk hkl hb (by omega) hg
#print axioms open_any
end Go.Proofs.YtlfcejfpdgdnkaaDoor

/- What calls of dumbwaiterref1.Head, Seal and Open do: for every key, numbers, text and size, and every row of bytes up to a bound; nothing that was there is turned. -/
namespace Go.Proofs.YtlfcejfpdgdnkaaDoor
open Go.RowKit
set_option maxRecDepth 20000




section
variable {P : Program} {Q : Exit → Act → World → Prop} {md : Region.Mode} {R : World → World → Prop}
theorem wpOp_pass {l : List Oper} {fuel : Nat} {listed : Array Bool} {k : Nat} {o : Oper} {a : Act} {w : World} (ho : l[k]? = some o) (hw : Region.wanted o (yielded l.toArray a.tmps) = false) (hR : R w w)
    (h : wpR P md l.toArray Q R fuel (listed.setIfInBounds k true) (a.put o.dst undef) w) :
    wpOp P l.toArray Q k (fun a' w' => R w w' ∧ wpR P md l.toArray Q R fuel (listed.setIfInBounds k true) a' w') a w := by
  have ho' : l.toArray[k]? = some o := by simpa using ho
  unfold wpOp
  simp only [ho', hw, Bool.false_eq_true, if_false]
  exact ⟨hR, h⟩
theorem wpPre_pass {l : List Oper} {K : Act → World → Prop} {k : Nat} {rest : List Nat} {o : Oper} {a : Act} {w : World} (ho : l[k]? = some o)
    (hQ : ∀ c a w, Q (.panic c) (a.put o.dst undef) w → Q (.panic c) a w) (hw : Region.wanted o (yielded l.toArray a.tmps) = false)
    (h : wpPre P l.toArray Q R K rest (a.put o.dst undef) w) : wpPre P l.toArray Q R K (k :: rest) a w := by
  unfold wpPre
  have ho' : l.toArray[k]? = some o := by simpa using ho
  simp only [ho']
  exact ⟨undef, hQ, .inr ⟨hw, rfl⟩, h⟩
end

set_option maxRecDepth 100000 in
set_option maxHeartbeats 4000000 in
theorem ropen_any (key : List Int) {a : Option Addr} {len cap : Nat} {zs : List Int} (w : World) (hk : IsBytes key) (hkl : key.length = 32) (hb : Bs w a len cap zs) (hl : len ≤ 90022) (hg : Glob w) :
    Calls Tryd.prog 28 #[.agg (bV key), .slice a len cap] w fun e w' => Below w.heap.size w w' ∧
      ((∃ us a' c', openL key zs = some us ∧ e = .returned (.tuple #[.slice a' us.length c', .int .u32 (leNum (zs.take 4)), .int .u64 (leNum ((zs.take 12).drop 4)), .bool true]) ∧ Bs w' a' us.length c' us) ∨
       (openL key zs = none ∧ e = .returned noneV)) := by
  have hz := hb.length
  have hS := KK.start w key hg
  by_cases h22 : len < 22
  · have hop : openL key zs = none := by unfold openL; rw [if_pos (by omega)]
    go_enter Tryd.func28, Tryd.ntmps28
    go_wp2_with fail
    refine bodyPost_ret (results_tmp4 rfl _ _ _) rfl ?_
    exact ⟨hS.bel, .inr ⟨hop, rfl⟩⟩
  obtain ⟨n, rfl⟩ : ∃ n, len = n + 22 := ⟨len - 22, by omega⟩
  have hb0 := hb.below hS.bel
  have hHl : (zs.take 12).length = 12 := by simp; omega
  have hHb : IsBytes (zs.take 12) := hb.bytes.take 12
  have hcap := hb.le_cap
  have hr22 : ¬ ((n + 22 : Nat) : Int) < 22 := by omega
  have hct := fun w => cutTo hb .i64 12 12 rfl (by omega) w
  have hcf := fun w => cutFrom a (n + 22) cap .i64 12 12 (n + 10) rfl (by omega) (by omega) w
  go_enter Tryd.func28, Tryd.ntmps28
  have hn2 := heap_alloc_new (w.alloc (Obj.cells (bV key) 29)) (Obj.cells (bV (zL 12)) 40)
  have hb1 := below_alloc (Below.refl (w.alloc (Obj.cells (bV key) 29)).heap.size (w.alloc (Obj.cells (bV key) 29))) (Obj.cells (bV (zL 12)) 40)
  have hgh := hS.lt
  have hS1 := hS.later hb1
  simp only [size_alloc] at hn2 hgh
  go_wp2_with (refine wpList_newA (by rfl) 40 (by rfl) _ zero12 (w.heap.size + 1) (size_alloc _ _) ?_)
  have hb1' := hb0.below hb1
  generalize ((w.alloc (Obj.cells (bV key) 29)).alloc (Obj.cells (bV (zL 12)) 40)) = W1 at *
  clear hS hb1 hb0
  generalize w.heap.size + 1 = gh at *
  have hsl := run_arr_all (P := Tryd.prog) Tryd.underlying40 Tryd.size_u8 gh
  refine wp_region_ord 1000 [0, 1, 2, 3] (fun _ => True) (fun _ => True) (by kernel_rfl) (by kernel_rfl) (by kernel_rfl) trivial trivial (fun _ _ => ?_)
  replace hS1 := hS1.drew
  replace hb1' : Bs W1.drew a (n + 22) cap zs := ⟨hb1'.length, hb1'.le_cap, hb1'.cap_le, hb1'.bytes, hb1'.place⟩
  replace hn2 : OwnB 40 W1.drew gh (zL 12) := hn2
  generalize W1.drew = W2 at *
  repeat' (first
    | (refine wpOrd_quiet (v := ?_) rfl rfl (fun _ _ _ h => h) (by rfl) ?_ ?_
       rotate_left
       · (intro w' hT _; go_simp; try rfl)
       simp only [Act.put, List.setIfInBounds_toArray, List.set_cons_zero, List.set_cons_succ])
    | fail)
  obtain ⟨w3, hr3, hH3, ho3⟩ := run_copy_bytes (P := Tryd.prog) Tryd.underlying36 Tryd.size_u8 3 W2 (some ⟨gh, 0, none⟩) a 12 12 12 cap gh 0 12 (zL 12) _ hn2 (by omega) (.inr rfl) (hb1'.taken 12 (by omega)) (by rw [zL_length]; omega)
  rw [splice_all (zL 12) (zs.take 12) 12 (zL_length _) (by omega), List.take_take, Nat.min_self] at hH3
  have hS3 := hS1.only ho3 hgh
  clear hb1' hn2 ho3 hS1
  refine wpOrd_step rfl rfl (by rfl) (fun K' hK => ?_)
  go_simp
  refine hK.out _ _ trivial (fun h => absurd h (by decide)) (fun _ => ?_)
  clear hK K'
  try simp only [Act.put, List.setIfInBounds_toArray, List.set_cons_zero, List.set_cons_succ]
  clear hr3 hct
  refine wpOrd_nil ?_
  go_wp2_with fail
  refine wp_region_rel Kept [0, 1, 2, 3, 4, 5, 6, 7, 8, 9] (by kernel_rfl) (by kernel_rfl) (by kernel_rfl) Kept.refl Kept.trans ?_
  replace hS3 := hS3.drew
  replace hH3 : OwnB 40 w3.drew gh (zs.take 12) := hH3
  generalize w3.drew = W4 at *
  refine wpRel_loadA arrT32 rfl rfl _ rfl w.heap.size (bV key) (by rfl) (fun w' hR => hS3.kk.below hR) (by rw [bV_size, hkl]) (fun _ _ _ h => h) (by rfl) ?_
  try simp only [Act.put, List.setIfInBounds_toArray, List.set_cons_zero, List.set_cons_succ]
  refine wpRel_loadA arrT12 rfl rfl _ rfl gh (bV (zs.take 12)) (by rfl) (fun w' hR => hH3.below hR) (by rw [bV_size, hHl]) (fun _ _ _ h => h) (by rfl) ?_
  try simp only [Act.put, List.setIfInBounds_toArray, List.set_cons_zero, List.set_cons_succ]
  repeat' (first
    | (refine wpRel_quiet (v := ?_) rfl rfl (fun _ _ _ h => h) (by rfl) ?_ ?_
       rotate_left
       · (intro w' hR; go_simp; try rfl)
       simp only [Act.put, List.setIfInBounds_toArray, List.set_cons_zero, List.set_cons_succ])
    | fail)
  have hbc := (hb.below hS3.bel).cut 12 (by omega)
  rw [show n + 22 - 12 = n + 10 by omega] at hbc
  generalize cutA a cap 12 = r at *
  clear hcf hsl
  refine wpRel_step rfl rfl (by rfl) (fun K' hK => ?_)
  go_simp
  refine (rxor_ok key (zs.take 12) 0 W4 hk hkl hHb hHl hbc (by omega) (fits_zero _ (by omega)) hS3.gl).mono ?_
  rintro e w8 ⟨x8, c8, rfl, hB8, hb8⟩
  refine hK.out _ _ hb8 ?_
  clear hK K'
  try simp only [Act.put, List.setIfInBounds_toArray, List.set_cons_zero, List.set_cons_succ]
  have hS8 := hS3.later hb8
  have hH8 := hH3.below hb8
  clear hS3 hH3 hb8 hbc
  repeat' (first
    | (refine wpRel_quiet (v := ?_) rfl rfl (fun _ _ _ h => h) (by rfl) ?_ ?_
       rotate_left
       · (intro w' hR; go_simp; try rfl)
       simp only [Act.put, List.setIfInBounds_toArray, List.set_cons_zero, List.set_cons_succ])
    | fail)
  refine wpRel_nil ?_
  replace hB8 : Bs w8 x8 (n + 10) c8 (innerL key zs) := hB8
  have hil : (innerL key zs).length = n + 10 := by rw [innerL_length]; omega
  have hP8 := hB8.taken (n + 2) (by omega)
  have hT8 := hB8.cut (n + 2) (by omega)
  rw [show (innerL key zs).take (n + 2) = textL key zs by rw [textL, show zs.length - 20 = n + 2 by omega]] at hP8
  rw [show (innerL key zs).drop (n + 2) = tailL key zs by rw [tailL, show zs.length - 20 = n + 2 by omega], show n + 10 - (n + 2) = 8 by omega] at hT8
  have hc8 := hB8.le_cap
  have c3 := fun w => cutTo hB8 .i64 ((n : Int) + 2) (n + 2) (by omega) (by omega) w
  have c1 := fun w => cutFrom x8 (n + 10) c8 .i64 ((n : Int) + 2) (n + 2) 8 (by omega) (by omega) (by omega) w
  have hwr : IntKind.i64.wrap ((n : Int) + 10 - 8) = (n : Int) + 2 := by rw [IntKind.wrap_i64]; omega
  have hr : IntKind.i64.wrap (((n + 22 : Nat) : Int) - 22) = (n : Int) := by rw [IntKind.wrap_i64]; omega
  clear hil
  go_wp2_with fail
  refine (runpad_any (n : Int) w8 hP8).mono ?_
  rintro e w9 ⟨hb9, hu⟩
  have hS9 := hS8.later hb9
  have hH9 := hH8.below hb9
  have hP9 := hP8.below hb9
  have hT9 := hT8.below hb9
  have hsl := run_arr_all (P := Tryd.prog) Tryd.underlying40 Tryd.size_u8 gh
  have hsl4 := run_arr_to (P := Tryd.prog) Tryd.underlying40 Tryd.size_u8 gh .i64 4 4 rfl (by decide)
  have hsf4 := run_arr_from (P := Tryd.prog) Tryd.underlying40 Tryd.size_u8 gh .i64 4 4 rfl (by decide)
  have eq1 : leNum ((((zs.take 12).drop 0).take 4).take 8) = leNum (zs.take 4) := by simp [List.take_take]
  have eq2 : leNum ((((zs.take 12).drop 4).take 8).take 8) = leNum ((zs.take 12).drop 4) := by
    rw [List.take_of_length_le (l := ((zs.take 12).drop 4).take 8) (by simp; omega), List.take_of_length_le (by rw [List.length_drop, hHl]; omega)]
  have hw32 : IntKind.u32.wrap (leNum (zs.take 4)) = leNum (zs.take 4) := by
    have := leNum4_lt (zs.take 4) (hb.bytes.take 4) (by simp; omega)
    rw [IntKind.wrap_u32']; omega
  obtain ⟨V1, hV1⟩ : ∃ V, leNum ((tailL key zs).take 8) = V := ⟨_, rfl⟩
  obtain ⟨V2, hV2⟩ : ∃ V, fnv (zs.take 12 ++ textL key zs) = V := ⟨_, rfl⟩
  have hV1' : leNum (tailL key zs) = V1 := by rw [← hV1, List.take_of_length_le (by rw [tailL_length _ _ (by omega)]; omega)]
  have hopS : V1 = V2 → openL key zs = unpadL (textL key zs) (n : Int) := fun h => by
    unfold openL sumOk
    rw [if_neg (by omega), hV1', hV2, if_pos (by rw [decide_eq_true_eq]; exact h), show zs.length - 22 = n by omega]
  have hopN : ¬ V1 = V2 → openL key zs = none := fun h => by
    unfold openL sumOk
    rw [if_neg (by omega), hV1', hV2, if_neg (by rw [decide_eq_true_eq]; exact h)]
  clear hV1' hS8 hH8 hP8 hT8 hb9 hB8
  rcases hu with ⟨us, a9, c9, hu, rfl, hO9⟩ | ⟨hu, rfl⟩
  · have hO9 := hO9.bs
    go_wp2_with fail
    clear c3
    obtain ⟨B, hB⟩ : ∃ B, w9.heap.size = B := ⟨_, rfl⟩
    refine wp_region_pre (Below B) [0, 1, 2, 3, 4, 5, 6, 7, 10, 12] 7 (by kernel_rfl) (by kernel_rfl) (by kernel_rfl) (Below.refl B) (fun _ _ _ => Below.trans) ?_
    have hd := (Below.refl w9.heap.size w9).drew
    replace hS9 := hS9.drew
    replace hH9 := hH9.below hd
    replace hP9 := hP9.below hd
    replace hT9 := hT9.below hd
    replace hO9 := hO9.below hd
    replace hB : w9.drew.heap.size = B := hB
    clear hd
    generalize w9.drew = W9 at *
    subst hB
    repeat' (first
      | (refine wpPre_quiet (v := ?_) rfl (fun _ _ _ h => h) (by rfl) ?_ ?_
         rotate_left
         · (intro w' hR; go_simp; try rfl)
         simp only [Act.put, List.setIfInBounds_toArray, List.set_cons_zero, List.set_cons_succ])
      | fail)
    refine wpPre_nil ?_
    clear c1 hwr hr
    refine wpR_two 8 9 (by kernel_rfl) ?_ ?_
    ·
      refine wpOp_go rfl (by rfl) (fun K' hK => ?_)
      go_simp
      refine (rget_any W9 hT9).mono ?_
      rintro e W9' ⟨rfl, rfl⟩
      rw [hV1]
      refine hK.out _ _ (Below.refl _ _) ?_
      clear hK K'
      try simp only [Act.put, List.setIfInBounds_toArray, List.set_cons_zero, List.set_cons_succ]
      refine wpR_ord [9, 11, 13, 14, 15, 16] (by kernel_rfl) (by kernel_rfl) (Below.refl _) (fun _ _ _ => Below.trans) ?_
      refine wpRel_step rfl rfl (by rfl) (fun K' hK => ?_)
      go_simp
      have hb10 : Below W9.heap.size W9 (W9.alloc (Obj.cells #[] 5)) := Below.alloc (Below.refl _ _) (by omega) _
      refine hK.out _ _ hb10 ?_
      clear hK K'
      try simp only [Act.put, List.setIfInBounds_toArray, List.set_cons_zero, List.set_cons_succ]
      have hEm : Bs (W9.alloc (Obj.cells #[] 5)) (some ⟨W9.heap.size, 0, none⟩) 0 0 [] := (show OwnB 5 (W9.alloc (Obj.cells #[] 5)) W9.heap.size [] from heap_alloc_new W9 (Obj.cells #[] 5)).bs IsBytes.nil 0 rfl (by omega)
      have hS10 := hS9.later (below_alloc (Below.refl _ _) (Obj.cells #[] 5))
      have hH10 := hH9.below (below_alloc (Below.refl _ _) (Obj.cells #[] 5))
      have hP10 := hP9.below (below_alloc (Below.refl _ _) (Obj.cells #[] 5))
      have hT10 := hT9.below (below_alloc (Below.refl _ _) (Obj.cells #[] 5))
      have hO10 := hO9.below (below_alloc (Below.refl _ _) (Obj.cells #[] 5))
      have hBle : W9.heap.size ≤ (W9.alloc (Obj.cells #[] 5)).heap.size := by rw [size_alloc]; omega
      clear hS9 hH9 hP9 hT9 hO9 hb10
      generalize (W9.alloc (Obj.cells #[] 5)) = W10 at *
      obtain ⟨c11, w11, hr11, ho11, hb11⟩ := run_append_new (P := Tryd.prog) Tryd.underlying36 Tryd.info_u8 36 W10 (some ⟨W9.heap.size, 0, none⟩) 0 0 [] hEm (some ⟨gh, 0, none⟩) 12 12 _ (hH10.bs hHb 12 hHl (by omega)) (fun h => by cases h) (by omega) (by omega)
      simp only [Nat.zero_add, List.nil_append] at hr11 ho11
      have hb11' := hb11.mono (show W9.heap.size ≤ W10.heap.size by omega)
      refine wpRel_step rfl rfl (by rfl) (fun K' hK => ?_)
      refine wp_append_run (.tmp 53) (.tmp 54) 36 (by rfl) _ _ _ (by rfl) (by rfl) hr11 ?_
      refine hK.out _ _ hb11' ?_
      clear hK K'
      try simp only [Act.put, List.setIfInBounds_toArray, List.set_cons_zero, List.set_cons_succ]
      have hS11 := hS10.later hb11
      have hH11 := hH10.below hb11
      have hP11 := hP10.below hb11
      have hO11 := hO10.below hb11
      obtain ⟨a12, c12, w12, hr12, ho12, hb12⟩ := run_append_more W10.heap.size w11 w11 _ 12 c11 _ ho11 (Below.refl _ _) hb11.size x8 (n + 2) c8 _ hP11 (by omega)
      have hb12' := hb12.mono (show W9.heap.size ≤ W10.heap.size by omega)
      refine wpRel_step rfl rfl (by rfl) (fun K' hK => ?_)
      refine wp_append_run (.tmp 55) (.tmp 56) 36 (by rfl) _ _ _ (by rfl) (by rfl) hr12 ?_
      refine hK.out _ _ hb12' ?_
      clear hK K'
      try simp only [Act.put, List.setIfInBounds_toArray, List.set_cons_zero, List.set_cons_succ]
      have hb13 := hb11.trans hb12
      have hS12 := hS10.later hb13
      have hH12 := hH10.below hb13
      have hO12 := hO10.below hb13
      have hB12 := ho12.bs
      clear hS11 hH11 hP11 hO11 hS10 hH10 hP10 hO10 hb11 hb12 hb11' hb12' hb13 hr11 hr12 ho11 ho12 hEm
      refine wpRel_step rfl rfl (by rfl) (fun K' hK => ?_)
      go_simp
      refine (rsum_any w12 hB12).mono ?_
      rintro e w12' ⟨rfl, rfl⟩
      rw [hV2]
      refine hK.out _ _ (Below.refl _ _) ?_
      clear hK K'
      try simp only [Act.put, List.setIfInBounds_toArray, List.set_cons_zero, List.set_cons_succ]
      clear hB12
      by_cases hq : V1 = V2
      · have hop := hopS hq
        clear hopS hopN
        rw [hu] at hop
        subst hq
        repeat' (first
          | (refine wpRel_quiet (v := ?_) rfl rfl (fun _ _ _ h => h) (by rfl) ?_ ?_
             rotate_left
             · (intro w' hR; go_simp; try rfl)
             simp only [Act.put, List.setIfInBounds_toArray, List.set_cons_zero, List.set_cons_succ])
          | fail)
        refine wpRel_nil ?_
        go_wp2_with fail
        refine wp_region_rel Kept [0, 1, 4, 2, 3, 5, 6, 7, 8, 9] (by kernel_rfl) (by kernel_rfl) (by kernel_rfl) Kept.refl Kept.trans ?_
        have hd := (Below.refl w12.heap.size w12).drew
        replace hS12 := hS12.drew
        replace hH12 := hH12.below hd
        replace hO12 := hO12.below hd
        clear hd
        generalize w12.drew = W12 at *
        repeat' (first
          | (refine wpRel_quiet (v := ?_) rfl rfl (fun _ _ _ h => h) (by rfl) ?_ ?_
             rotate_left
             · (intro w' hR; go_simp; try rfl)
             simp only [Act.put, List.setIfInBounds_toArray, List.set_cons_zero, List.set_cons_succ])
          | fail)
        refine wpRel_step rfl rfl (by rfl) (fun K' hK => ?_)
        go_simp
        refine (rget_any W12 (hH12.bsAt hHb 0 4 12 (by rw [hHl]; omega) (by omega) (by omega))).mono ?_
        rintro e W12' ⟨rfl, rfl⟩
        rw [eq1]
        refine hK.out _ _ (Kept.refl _) ?_
        clear hK K'
        try simp only [Act.put, List.setIfInBounds_toArray, List.set_cons_zero, List.set_cons_succ]
        repeat' (first
          | (refine wpRel_quiet (v := ?_) rfl rfl (fun _ _ _ h => h) (by rfl) ?_ ?_
             rotate_left
             · (intro w' hR; go_simp; try rfl)
             simp only [Act.put, List.setIfInBounds_toArray, List.set_cons_zero, List.set_cons_succ])
          | fail)
        refine wpRel_step rfl rfl (by rfl) (fun K' hK => ?_)
        go_simp
        refine (rget_any W12 (hH12.bsAt hHb 4 8 8 (by rw [hHl]; omega) (by omega) (by omega))).mono ?_
        rintro e W12' ⟨rfl, rfl⟩
        rw [eq2]
        refine hK.out _ _ (Kept.refl _) ?_
        clear hK K'
        try simp only [Act.put, List.setIfInBounds_toArray, List.set_cons_zero, List.set_cons_succ]
        repeat' (first
          | (refine wpRel_quiet (v := ?_) rfl rfl (fun _ _ _ h => h) (by rfl) ?_ ?_
             rotate_left
             · (intro w' hR; go_simp; try rfl)
             simp only [Act.put, List.setIfInBounds_toArray, List.set_cons_zero, List.set_cons_succ])
          | fail)
        refine wpRel_nil ?_
        go_wp2_with fail
        refine bodyPost_ret (results_tmp4 rfl _ _ _) rfl ?_
        exact ⟨hS12.bel, .inl ⟨us, a9, c9, hop, rfl, hO12⟩⟩
      · have hop := hopN hq
        clear hopS hopN
        repeat' (first
          | (refine wpRel_quiet (v := ?_) rfl rfl (fun _ _ _ h => h) (by rfl) ?_ ?_
             rotate_left
             · (intro w' hR; go_simp; try rfl)
             simp only [Act.put, List.setIfInBounds_toArray, List.set_cons_zero, List.set_cons_succ])
          | fail)
        refine wpRel_nil ?_
        go_wp2_with fail
        refine bodyPost_ret (results_tmp4 rfl _ _ _) rfl ?_
        exact ⟨hS12.bel, .inr ⟨hop, rfl⟩⟩
    · refine wpOp_go rfl (by rfl) (fun K' hK => ?_)
      go_simp
      have hb10 : Below W9.heap.size W9 (W9.alloc (Obj.cells #[] 5)) := Below.alloc (Below.refl _ _) (by omega) _
      refine hK.out _ _ hb10 ?_
      clear hK K'
      try simp only [Act.put, List.setIfInBounds_toArray, List.set_cons_zero, List.set_cons_succ]
      have hEm : Bs (W9.alloc (Obj.cells #[] 5)) (some ⟨W9.heap.size, 0, none⟩) 0 0 [] := (show OwnB 5 (W9.alloc (Obj.cells #[] 5)) W9.heap.size [] from heap_alloc_new W9 (Obj.cells #[] 5)).bs IsBytes.nil 0 rfl (by omega)
      have hS10 := hS9.later (below_alloc (Below.refl _ _) (Obj.cells #[] 5))
      have hH10 := hH9.below (below_alloc (Below.refl _ _) (Obj.cells #[] 5))
      have hP10 := hP9.below (below_alloc (Below.refl _ _) (Obj.cells #[] 5))
      have hT10 := hT9.below (below_alloc (Below.refl _ _) (Obj.cells #[] 5))
      have hO10 := hO9.below (below_alloc (Below.refl _ _) (Obj.cells #[] 5))
      have hBle : W9.heap.size ≤ (W9.alloc (Obj.cells #[] 5)).heap.size := by rw [size_alloc]; omega
      clear hS9 hH9 hP9 hT9 hO9 hb10
      generalize (W9.alloc (Obj.cells #[] 5)) = W10 at *
      refine wpR_ord [8, 11, 13, 14, 15, 16] (by kernel_rfl) (by kernel_rfl) (Below.refl _) (fun _ _ _ => Below.trans) ?_
      refine wpRel_step rfl rfl (by rfl) (fun K' hK => ?_)
      go_simp
      refine (rget_any W10 hT10).mono ?_
      rintro e W10' ⟨rfl, rfl⟩
      rw [hV1]
      refine hK.out _ _ (Below.refl _ _) ?_
      clear hK K'
      try simp only [Act.put, List.setIfInBounds_toArray, List.set_cons_zero, List.set_cons_succ]
      obtain ⟨c11, w11, hr11, ho11, hb11⟩ := run_append_new (P := Tryd.prog) Tryd.underlying36 Tryd.info_u8 36 W10 (some ⟨W9.heap.size, 0, none⟩) 0 0 [] hEm (some ⟨gh, 0, none⟩) 12 12 _ (hH10.bs hHb 12 hHl (by omega)) (fun h => by cases h) (by omega) (by omega)
      simp only [Nat.zero_add, List.nil_append] at hr11 ho11
      have hb11' := hb11.mono (show W9.heap.size ≤ W10.heap.size by omega)
      refine wpRel_step rfl rfl (by rfl) (fun K' hK => ?_)
      refine wp_append_run (.tmp 53) (.tmp 54) 36 (by rfl) _ _ _ (by rfl) (by rfl) hr11 ?_
      refine hK.out _ _ hb11' ?_
      clear hK K'
      try simp only [Act.put, List.setIfInBounds_toArray, List.set_cons_zero, List.set_cons_succ]
      have hS11 := hS10.later hb11
      have hH11 := hH10.below hb11
      have hP11 := hP10.below hb11
      have hO11 := hO10.below hb11
      obtain ⟨a12, c12, w12, hr12, ho12, hb12⟩ := run_append_more W10.heap.size w11 w11 _ 12 c11 _ ho11 (Below.refl _ _) hb11.size x8 (n + 2) c8 _ hP11 (by omega)
      have hb12' := hb12.mono (show W9.heap.size ≤ W10.heap.size by omega)
      refine wpRel_step rfl rfl (by rfl) (fun K' hK => ?_)
      refine wp_append_run (.tmp 55) (.tmp 56) 36 (by rfl) _ _ _ (by rfl) (by rfl) hr12 ?_
      refine hK.out _ _ hb12' ?_
      clear hK K'
      try simp only [Act.put, List.setIfInBounds_toArray, List.set_cons_zero, List.set_cons_succ]
      have hb13 := hb11.trans hb12
      have hS12 := hS10.later hb13
      have hH12 := hH10.below hb13
      have hO12 := hO10.below hb13
      have hB12 := ho12.bs
      clear hS11 hH11 hP11 hO11 hS10 hH10 hP10 hO10 hb11 hb12 hb11' hb12' hb13 hr11 hr12 ho11 ho12 hEm
      refine wpRel_step rfl rfl (by rfl) (fun K' hK => ?_)
      go_simp
      refine (rsum_any w12 hB12).mono ?_
      rintro e w12' ⟨rfl, rfl⟩
      rw [hV2]
      refine hK.out _ _ (Below.refl _ _) ?_
      clear hK K'
      try simp only [Act.put, List.setIfInBounds_toArray, List.set_cons_zero, List.set_cons_succ]
      clear hB12
      by_cases hq : V1 = V2
      · have hop := hopS hq
        clear hopS hopN
        rw [hu] at hop
        subst hq
        repeat' (first
          | (refine wpRel_quiet (v := ?_) rfl rfl (fun _ _ _ h => h) (by rfl) ?_ ?_
             rotate_left
             · (intro w' hR; go_simp; try rfl)
             simp only [Act.put, List.setIfInBounds_toArray, List.set_cons_zero, List.set_cons_succ])
          | fail)
        refine wpRel_nil ?_
        go_wp2_with fail
        refine wp_region_rel Kept [0, 1, 4, 2, 3, 5, 6, 7, 8, 9] (by kernel_rfl) (by kernel_rfl) (by kernel_rfl) Kept.refl Kept.trans ?_
        have hd := (Below.refl w12.heap.size w12).drew
        replace hS12 := hS12.drew
        replace hH12 := hH12.below hd
        replace hO12 := hO12.below hd
        clear hd
        generalize w12.drew = W12 at *
        repeat' (first
          | (refine wpRel_quiet (v := ?_) rfl rfl (fun _ _ _ h => h) (by rfl) ?_ ?_
             rotate_left
             · (intro w' hR; go_simp; try rfl)
             simp only [Act.put, List.setIfInBounds_toArray, List.set_cons_zero, List.set_cons_succ])
          | fail)
        refine wpRel_step rfl rfl (by rfl) (fun K' hK => ?_)
        go_simp
        refine (rget_any W12 (hH12.bsAt hHb 0 4 12 (by rw [hHl]; omega) (by omega) (by omega))).mono ?_
        rintro e W12' ⟨rfl, rfl⟩
        rw [eq1]
        refine hK.out _ _ (Kept.refl _) ?_
        clear hK K'
        try simp only [Act.put, List.setIfInBounds_toArray, List.set_cons_zero, List.set_cons_succ]
        repeat' (first
          | (refine wpRel_quiet (v := ?_) rfl rfl (fun _ _ _ h => h) (by rfl) ?_ ?_
             rotate_left
             · (intro w' hR; go_simp; try rfl)
             simp only [Act.put, List.setIfInBounds_toArray, List.set_cons_zero, List.set_cons_succ])
          | fail)
        refine wpRel_step rfl rfl (by rfl) (fun K' hK => ?_)
        go_simp
        refine (rget_any W12 (hH12.bsAt hHb 4 8 8 (by rw [hHl]; omega) (by omega) (by omega))).mono ?_
        rintro e W12' ⟨rfl, rfl⟩
        rw [eq2]
        refine hK.out _ _ (Kept.refl _) ?_
        clear hK K'
        try simp only [Act.put, List.setIfInBounds_toArray, List.set_cons_zero, List.set_cons_succ]
        repeat' (first
          | (refine wpRel_quiet (v := ?_) rfl rfl (fun _ _ _ h => h) (by rfl) ?_ ?_
             rotate_left
             · (intro w' hR; go_simp; try rfl)
             simp only [Act.put, List.setIfInBounds_toArray, List.set_cons_zero, List.set_cons_succ])
          | fail)
        refine wpRel_nil ?_
        go_wp2_with fail
        refine bodyPost_ret (results_tmp4 rfl _ _ _) rfl ?_
        exact ⟨hS12.bel, .inl ⟨us, a9, c9, hop, rfl, hO12⟩⟩
      · have hop := hopN hq
        clear hopS hopN
        repeat' (first
          | (refine wpRel_quiet (v := ?_) rfl rfl (fun _ _ _ h => h) (by rfl) ?_ ?_
             rotate_left
             · (intro w' hR; go_simp; try rfl)
             simp only [Act.put, List.setIfInBounds_toArray, List.set_cons_zero, List.set_cons_succ])
          | fail)
        refine wpRel_nil ?_
        go_wp2_with fail
        refine bodyPost_ret (results_tmp4 rfl _ _ _) rfl ?_
        exact ⟨hS12.bel, .inr ⟨hop, rfl⟩⟩
  · have hop : openL key zs = none := by
      by_cases hq : V1 = V2
      · rw [hopS hq, hu]
      · exact hopN hq
    clear hopS hopN hu hsl hsl4 hsf4 c3 c1 hwr hr
    go_wp2_with fail
    refine wp_region_pre Kept [0, 1, 2, 3, 4, 5, 6, 7, 10, 12] 7 (by kernel_rfl) (by kernel_rfl) (by kernel_rfl) Kept.refl Kept.trans ?_
    replace hS9 := hS9.drew
    generalize w9.drew = W9 at *
    repeat' (first
      | (refine wpPre_quiet (v := ?_) rfl (fun _ _ _ h => h) (by rfl) ?_ ?_
         rotate_left
         · (intro w' hR; go_simp; try rfl)
         simp only [Act.put, List.setIfInBounds_toArray, List.set_cons_zero, List.set_cons_succ])
      | fail)
    repeat' (first
      | (refine wpPre_pass rfl (fun _ _ _ h => h) (by rfl) ?_
         simp only [Act.put, List.setIfInBounds_toArray, List.set_cons_zero, List.set_cons_succ])
      | fail)
    refine wpPre_nil ?_
    refine wpR_two 8 9 (by kernel_rfl) ?_ ?_
    · refine wpOp_pass rfl (by rfl) (Kept.refl _) ?_
      refine wpR_ord [9, 11, 13, 14, 15, 16] (by kernel_rfl) (by kernel_rfl) Kept.refl Kept.trans ?_
      try simp only [Act.put, List.setIfInBounds_toArray, List.set_cons_zero, List.set_cons_succ]
      repeat' (first
        | (refine wpRel_pass rfl (fun _ _ _ h => h) (by rfl) (Kept.refl _) ?_
           simp only [Act.put, List.setIfInBounds_toArray, List.set_cons_zero, List.set_cons_succ])
        | fail)
      repeat' (first
        | (refine wpRel_quiet (v := ?_) rfl rfl (fun _ _ _ h => h) (by rfl) ?_ ?_
           rotate_left
           · (intro w' hR; go_simp; try rfl)
           simp only [Act.put, List.setIfInBounds_toArray, List.set_cons_zero, List.set_cons_succ])
        | fail)
      refine wpRel_nil ?_
      go_wp2_with fail
      refine bodyPost_ret (results_tmp4 rfl _ _ _) rfl ?_
      exact ⟨hS9.bel, .inr ⟨hop, rfl⟩⟩
    · refine wpOp_pass rfl (by rfl) (Kept.refl _) ?_
      refine wpR_ord [8, 11, 13, 14, 15, 16] (by kernel_rfl) (by kernel_rfl) Kept.refl Kept.trans ?_
      try simp only [Act.put, List.setIfInBounds_toArray, List.set_cons_zero, List.set_cons_succ]
      repeat' (first
        | (refine wpRel_pass rfl (fun _ _ _ h => h) (by rfl) (Kept.refl _) ?_
           simp only [Act.put, List.setIfInBounds_toArray, List.set_cons_zero, List.set_cons_succ])
        | fail)
      repeat' (first
        | (refine wpRel_quiet (v := ?_) rfl rfl (fun _ _ _ h => h) (by rfl) ?_ ?_
           rotate_left
           · (intro w' hR; go_simp; try rfl)
           simp only [Act.put, List.setIfInBounds_toArray, List.set_cons_zero, List.set_cons_succ])
        | fail)
      refine wpRel_nil ?_
      go_wp2_with fail
      refine bodyPost_ret (results_tmp4 rfl _ _ _) rfl ?_
      exact ⟨hS9.bel, .inr ⟨hop, rfl⟩⟩
#print axioms ropen_any
end Go.Proofs.YtlfcejfpdgdnkaaDoor

/- What was sealed is opened; '==' and '!=' of a row of twelve bytes and itself. No conditions but those that each line states. -/
namespace Go.Proofs.YtlfcejfpdgdnkaaDoor
open Go.RowKit
set_option maxRecDepth 20000

theorem sealL_boot (key : List Int) (boot seq : Int) (zs : List Int) (m : Nat) (h : 0 ≤ boot ∧ boot < 4294967296) : leNum ((sealL key boot seq zs m).take 4) = boot := by
  rw [show (sealL key boot seq zs m).take 4 = ((sealL key boot seq zs m).take 12).take 4 by rw [List.take_take]; rfl, sealL_take, headL_boot _ _ h]
theorem sealL_num (key : List Int) (boot seq : Int) (zs : List Int) (m : Nat) (h : 0 ≤ seq ∧ seq < 18446744073709551616) : leNum (((sealL key boot seq zs m).take 12).drop 4) = seq := by
  rw [sealL_take, headL_seq _ _ h]

/-- What was sealed is opened. -/
theorem open_sealed (key : List Int) (boot seq : Int) {a : Option Addr} {len cap : Nat} {zs : List Int} (m : Nat) (w : World) (hk : IsBytes key) (hkl : key.length = 32) (hbo : 0 ≤ boot ∧ boot < 4294967296) (hs : 0 ≤ seq ∧ seq < 18446744073709551616) (hz : IsBytes zs) (hzl : zs.length ≤ m) (hm : m ≤ 60000)
    (hb : Bs w a len cap (sealL key boot seq zs m)) (hg : Glob w) :
    Calls Tryd.prog 34 #[.agg (bV key), .slice a len cap] w fun e w' => Below w.heap.size w w' ∧ ∃ g, e = .returned (.tuple #[.slice (some ⟨g, 0, none⟩) zs.length zs.length, .int .u32 boot, .int .u64 seq, .bool true]) ∧ w.heap.size ≤ g ∧ OwnB 5 w' g zs := by
  have hl := hb.length
  rw [sealL_length _ _ _ _ _ hzl] at hl
  refine (open_any key w hk hkl hb (by omega) hg).mono ?_
  rintro e w' ⟨hb', (⟨us, g, ho, rfl, hge, hO⟩ | ⟨ho, rfl⟩)⟩
  · rw [openL_sealL _ _ _ _ _ hz hzl hm] at ho
    obtain rfl := Option.some.inj ho
    rw [sealL_boot _ _ _ _ _ hbo, sealL_num _ _ _ _ _ hs]
    exact ⟨hb', g, rfl, hge, hO⟩
  · rw [openL_sealL _ _ _ _ _ hz hzl hm] at ho
    cases ho
#print axioms open_sealed

theorem bV_get (xs : List Int) (i : Nat) (hi : i < xs.length) : (bV xs)[i]? = some (.int .u8 (xs.getD i 0)) := by simp [bV, hi, List.getD]
theorem run_eqItems_bytes {P : Program} {E : TypeId} (he : P.underlying E = some (.int .u8)) (d : Nat) (xs ys : List Int) (w : World) : ∀ is : List Nat, (∀ i ∈ is, i < xs.length ∧ i < ys.length) →
    (Op.eqItems (d + 1) E 1 (bV xs) (bV ys) is).run P w = .ok (is.all fun i => xs.getD i 0 == ys.getD i 0) w
  | [], _ => by simp [Op.eqItems]
  | i :: is, h => by
    obtain ⟨hi, hj⟩ := h i (by simp)
    have px : (part E (bV xs) (i * 1)).run P w = .ok (.int .u8 (xs.getD i 0)) w := by
      simp [part, isAgg, run_underlying he, bV_get xs i hi]
    have py : (part E (bV ys) (i * 1)).run P w = .ok (.int .u8 (ys.getD i 0)) w := by
      simp [part, isAgg, run_underlying he, bV_get ys i hj]
    have pe : (Op.equalIn (d + 1) E (.int .u8 (xs.getD i 0)) (.int .u8 (ys.getD i 0))).run P w = .ok (xs.getD i 0 == ys.getD i 0) w := by
      rw [run_equalIn_int w d E .u8 .u8 _ _ he]
    simp only [Op.eqItems, Sem.run_bind, px, py, pe, Result.andThen_ok, List.all_cons]
    cases hb : (xs.getD i 0 == ys.getD i 0)
    · simp
    · simp only [Bool.not_true, Bool.false_eq_true, if_false, Bool.true_and]
      exact run_eqItems_bytes he d xs ys w is (fun j hj => h j (by simp [hj]))
theorem info_u8_some : (Tryd.prog.info? 5).isSome = true := by kernel_rfl
theorem cells_u8s : Tryd.prog.cellsOf 5 = 1 := by kernel_rfl
/-- '==' of a row of twelve bytes and itself. -/
theorem run_eq12 (xs : List Int) (hl : xs.length = 12) (w : World) : (binOp BinOp.eql 40 (.agg (bV xs)) (.agg (bV xs))).run Tryd.prog w = .ok (.bool true) w := by
  obtain ⟨i, hi⟩ := Option.isSome_iff_exists.1 info_u8_some
  rw [run_eql_struct, run_equalIn_array w 9999 (bV xs) (bV xs) Tryd.underlying40 hi, cells_u8s, run_eqItems_bytes Tryd.underlying5 9998 xs xs w _ (fun i hi => by simp at hi; omega)]
  simp
theorem run_same12 (xs : List Int) (hl : xs.length = 12) (w : World) : (Op.equalIn 10000 40 (.agg (bV xs)) (.agg (bV xs))).run Tryd.prog w = .ok true w := by
  obtain ⟨i, hi⟩ := Option.isSome_iff_exists.1 info_u8_some
  rw [run_equalIn_array w 9999 (bV xs) (bV xs) Tryd.underlying40 hi, cells_u8s, run_eqItems_bytes Tryd.underlying5 9998 xs xs w _ (fun i hi => by simp at hi; omega)]
  simp
theorem run_neq12 (xs : List Int) (hl : xs.length = 12) (w : World) : (binOp BinOp.neq 40 (.agg (bV xs)) (.agg (bV xs))).run Tryd.prog w = .ok (.bool false) w := by
  rw [run_neq_struct, run_same12 xs hl]
  rfl
#print axioms run_neq12
end Go.Proofs.YtlfcejfpdgdnkaaDoor

/- What calls of seal.Seal, seal.Open, of their likes in dumbwaiterref1, and of its Same answer, each in one contract for all ends. No conditions but those that each line states. -/
namespace Go.Proofs.YtlfcejfpdgdnkaaDoor
open Go.RowKit
set_option maxRecDepth 20000

/-- Whether there is room. -/
def sealB (n : Nat) (size : Int) : Bool := decide (22 ≤ size ∧ size ≤ 60022 ∧ (n : Int) + 22 ≤ size)
def sealN (n : Nat) (size : Int) : Nat := if sealB n size = true then size.toNat else 0
def sealR (key : List Int) (boot seq : Int) (zs : List Int) (n : Nat) (size : Int) : List Int := if sealB n size = true then sealL key boot seq zs (size.toNat - 22) else []
theorem sealB_yes {n : Nat} {size : Int} (h : 22 ≤ size ∧ size ≤ 60022 ∧ (n : Int) + 22 ≤ size) : sealB n size = true := decide_eq_true h
theorem sealB_no {n : Nat} {size : Int} (h : ¬ (22 ≤ size ∧ size ≤ 60022 ∧ (n : Int) + 22 ≤ size)) : sealB n size = false := decide_eq_false h

theorem seal_all (key : List Int) (boot seq size : Int) {a : Option Addr} {len cap : Nat} {zs : List Int} (w : World) (hk : IsBytes key) (hkl : key.length = 32) (hb : 0 ≤ boot ∧ boot < 4294967296) (hs : 0 ≤ seq ∧ seq < 18446744073709551616)
    (hbs : Bs w a len cap zs) (hsz : -9223372036854775808 ≤ size ∧ size ≤ 9223372036854775807) (hl : len ≤ 9223372036854775807) (hg : Glob w) :
    Calls Tryd.prog 31 #[.agg (bV key), .int .u32 boot, .int .u64 seq, .slice a len cap, .int .i64 size] w fun e w' => ∃ p c, e = .returned (.tuple #[.slice p (sealN len size) c, .bool (sealB len size)]) ∧ Bs w' p (sealN len size) c (sealR key boot seq zs len size) ∧ Below w.heap.size w w' := by
  unfold sealN sealR
  by_cases h : 22 ≤ size ∧ size ≤ 60022 ∧ (len : Int) + 22 ≤ size
  · rw [sealB_yes h, if_pos rfl, if_pos rfl]
    refine (seal_ok key boot seq size (size.toNat - 22) w hk hkl hb hs hbs (by omega) (by omega) (by omega) hg).mono ?_
    rintro e w' ⟨g, c, rfl, hO, hb'⟩
    rw [show size.toNat - 22 + 22 = size.toNat by omega] at hO ⊢
    exact ⟨_, _, rfl, hO.bs, hb'⟩
  · rw [sealB_no h, if_neg (by decide), if_neg (by decide)]
    refine (seal_no (len := len) key boot seq size w hsz hl (by omega)).mono ?_
    rintro e w' ⟨rfl, hb'⟩
    exact ⟨_, _, rfl, Bs.nil _, hb'⟩
/-- What is opened, none as nothing. -/
def openR (key zs : List Int) : List Int := (openL key zs).getD []
def openB (key zs : List Int) : Bool := (openL key zs).isSome
def openBoot (key zs : List Int) : Int := if openB key zs = true then leNum (zs.take 4) else 0
def openSeq (key zs : List Int) : Int := if openB key zs = true then leNum ((zs.take 12).drop 4) else 0
theorem openR_some {key zs us : List Int} (h : openL key zs = some us) : openR key zs = us ∧ openB key zs = true ∧ openBoot key zs = leNum (zs.take 4) ∧ openSeq key zs = leNum ((zs.take 12).drop 4) := by
  have hB : openB key zs = true := by unfold openB; rw [h]; rfl
  refine ⟨by unfold openR; rw [h]; rfl, hB, by unfold openBoot; rw [if_pos hB], by unfold openSeq; rw [if_pos hB]⟩
theorem openR_none {key zs : List Int} (h : openL key zs = none) : openR key zs = [] ∧ openB key zs = false ∧ openBoot key zs = 0 ∧ openSeq key zs = 0 := by
  have hB : openB key zs = false := by unfold openB; rw [h]; rfl
  refine ⟨by unfold openR; rw [h]; rfl, hB, by unfold openBoot; rw [hB]; rfl, by unfold openSeq; rw [hB]; rfl⟩
theorem unpadL_bytes {zs us : List Int} {m : Int} (hz : IsBytes zs) (h : unpadL zs m = some us) : IsBytes us := by
  unfold unpadL at h
  split at h
  · obtain rfl := Option.some.inj h
    exact (hz.drop 2).take _
  · cases h
theorem openL_bytes {key zs us : List Int} (hz : IsBytes zs) (h : openL key zs = some us) : IsBytes us := by
  unfold openL at h
  split at h
  · cases h
  · split at h
    · exact unpadL_bytes (textL_bytes key zs hz) h
    · cases h
theorem unpadL_short {zs us : List Int} {m : Int} (h : unpadL zs m = some us) : us.length ≤ zs.length := by
  unfold unpadL at h
  split at h
  · obtain rfl := Option.some.inj h
    simp; omega
  · cases h
theorem openL_short {key zs us : List Int} (h : openL key zs = some us) : us.length ≤ zs.length := by
  unfold openL at h
  split at h
  · cases h
  · split at h
    · have := unpadL_short h
      rw [textL_length] at this
      omega
    · cases h
theorem open_all (key : List Int) {a : Option Addr} {len cap : Nat} {zs : List Int} (w : World) (hk : IsBytes key) (hkl : key.length = 32) (hb : Bs w a len cap zs) (hl : len ≤ 90022) (hg : Glob w) :
    Calls Tryd.prog 34 #[.agg (bV key), .slice a len cap] w fun e w' => ∃ p c, e = .returned (.tuple #[.slice p (openR key zs).length c, .int .u32 (openBoot key zs), .int .u64 (openSeq key zs), .bool (openB key zs)]) ∧ Bs w' p (openR key zs).length c (openR key zs) ∧ Below w.heap.size w w' := by
  have hz := hb.length
  refine (open_any key w hk hkl hb hl hg).mono ?_
  rintro e w' ⟨hb', (⟨us, g, ho, rfl, -, hO⟩ | ⟨ho, rfl⟩)⟩
  · obtain ⟨e1, e2, e3, e4⟩ := openR_some ho
    rw [e1, e2, e3, e4]
    exact ⟨_, _, rfl, hO.bs (openL_bytes hb.bytes ho) _ rfl (by have := openL_short ho; omega), hb'⟩
  · obtain ⟨e1, e2, e3, e4⟩ := openR_none ho
    rw [e1, e2, e3, e4]
    exact ⟨_, _, rfl, Bs.nil _, hb'⟩
theorem ropen_all (key : List Int) {a : Option Addr} {len cap : Nat} {zs : List Int} (w : World) (hk : IsBytes key) (hkl : key.length = 32) (hb : Bs w a len cap zs) (hl : len ≤ 90022) (hg : Glob w) :
    Calls Tryd.prog 28 #[.agg (bV key), .slice a len cap] w fun e w' => ∃ p c, e = .returned (.tuple #[.slice p (openR key zs).length c, .int .u32 (openBoot key zs), .int .u64 (openSeq key zs), .bool (openB key zs)]) ∧ Bs w' p (openR key zs).length c (openR key zs) ∧ Below w.heap.size w w' := by
  refine (ropen_any key w hk hkl hb hl hg).mono ?_
  rintro e w' ⟨hb', (⟨us, p, c, ho, rfl, hO⟩ | ⟨ho, rfl⟩)⟩
  · obtain ⟨e1, e2, e3, e4⟩ := openR_some ho
    rw [e1, e2, e3, e4]
    exact ⟨_, _, rfl, hO, hb'⟩
  · obtain ⟨e1, e2, e3, e4⟩ := openR_none ho
    rw [e1, e2, e3, e4]
    exact ⟨_, _, rfl, Bs.nil _, hb'⟩
theorem same_self {a b : Option Addr} {n c m d : Nat} {xs : List Int} (w : World) (hx : Bs w a n c xs) (hy : Bs w b m d xs) :
    Calls Tryd.prog 18 #[.slice a n c, .slice b m d] w fun e w' => e = .returned (.bool true) ∧ w = w' := by
  refine (same_any w hx hy).mono ?_
  rintro e w' ⟨rfl, rfl⟩
  exact ⟨by simp, rfl⟩
#print axioms ropen_all
end Go.Proofs.YtlfcejfpdgdnkaaDoor
