/- What a call of chac.stateOf does: for every key, nonce and counter; nothing that was there is turned. -/
import Derived.Test.YthhaeiafgloacaaDoorCPut
import Derived.Test.YthhaeiafgloacaaDoorQDouble
namespace Go.Proofs.YthhaeiafgloacaaDoor
open Go.RowKit

theorem info_b32 : (Tryd.prog.info? 22).map (·.size) = some 32 := by kernel_rfl
theorem info_b12 : (Tryd.prog.info? 35).map (·.size) = some 12 := by kernel_rfl
theorem info_b64 : (Tryd.prog.info? 44).map (·.size) = some 64 := by kernel_rfl

theorem stW_put (key nonce : List Int) (c : BitVec 32) (xs : Ws) (h0 : xs 0 = 1634760805) (h1 : xs 1 = 857760878) (h2 : xs 2 = 2036477234) (h3 : xs 3 = 1797285236) (hc : xs 12 = c) (hf : ∀ j, 16 ≤ j → xs j = 0) :
    putW (putW xs 4 key 8) 13 nonce 3 = stW key nonce c := by
  funext j
  unfold putW stW
  by_cases e0 : j = 0
  · subst e0; simp [h0]
  by_cases e1 : j = 1
  · subst e1; simp [h1]
  by_cases e2 : j = 2
  · subst e2; simp [h2]
  by_cases e3 : j = 3
  · subst e3; simp [h3]
  simp only [e0, e1, e2, e3, if_false]
  by_cases e4 : j < 12
  · rw [if_pos e4, if_neg (by omega), if_pos (by omega)]
  · rw [if_neg e4]
    by_cases e5 : j = 12
    · subst e5; simp [hc]
    · rw [if_neg e5]
      by_cases e6 : j < 16
      · rw [if_pos e6, if_pos (by omega)]
      · rw [if_neg e6, if_neg (by omega), if_neg (by omega), hf j (by omega)]

def preW (c : BitVec 32) : Ws := fun j => if j = 0 then 1634760805 else if j = 1 then 857760878 else if j = 2 then 2036477234 else if j = 3 then 1797285236 else if j = 12 then c else 0

theorem arrV_preW (c : BitVec 32) : #[Value.int .u32 1634760805, .int .u32 857760878, .int .u32 2036477234, .int .u32 1797285236, .int .u32 0, .int .u32 0, .int .u32 0, .int .u32 0, .int .u32 0, .int .u32 0, .int .u32 0, .int .u32 0, .int .u32 (c.toNat : Int), .int .u32 0, .int .u32 0, .int .u32 0] = arrV (preW c) := rfl

/-- The state of chac.stateOf: key, nonce, what it answers, the words. -/
structure SS (w W : World) (key nonce : List Int) (xs : Ws) : Prop where
  kk : OwnB 22 W w.heap.size key
  nn : OwnB 35 W (w.heap.size + 1) nonce
  out : ArrU 49 W (w.heap.size + 2) (fun _ => 0)
  st : ArrU 49 W (w.heap.size + 3) xs
  bel : Below w.heap.size w W
theorem SS.drew {w W : World} {key nonce : List Int} {xs : Ws} (h : SS w W key nonce xs) : SS w W.drew key nonce xs := ⟨h.kk, h.nn, h.out, h.st, h.bel.drew⟩
theorem SS.only {w W W' : World} {key nonce : List Int} {xs ys : Ws} (h : SS w W key nonce xs) (ho : OnlyAt (w.heap.size + 3) W W') (hy : ArrU 49 W' (w.heap.size + 3) ys) : SS w W' key nonce ys :=
  ⟨ho.own h.kk (by omega), ho.own h.nn (by omega), h.out.other (ho.block _ (by omega)), hy, ho.below h.bel (by omega)⟩
theorem SS.start (w : World) (key nonce : List Int) (xs : Ws) : SS w ((((w.alloc (Obj.cells (bV key) 22)).alloc (Obj.cells (bV nonce) 35)).alloc (Obj.cells (arrV (fun _ => 0)) 49)).alloc (Obj.cells (arrV xs) 49)) key nonce xs := by
  have n1 := heap_alloc_new w (Obj.cells (bV key) 22)
  have n2 := heap_alloc_new (w.alloc (Obj.cells (bV key) 22)) (Obj.cells (bV nonce) 35)
  have n3 := heap_alloc_new ((w.alloc (Obj.cells (bV key) 22)).alloc (Obj.cells (bV nonce) 35)) (Obj.cells (arrV (fun _ => 0)) 49)
  have n4 := heap_alloc_new (((w.alloc (Obj.cells (bV key) 22)).alloc (Obj.cells (bV nonce) 35)).alloc (Obj.cells (arrV (fun _ => 0)) 49)) (Obj.cells (arrV xs) 49)
  simp only [size_alloc] at n2 n3 n4
  exact ⟨block_alloc (block_alloc (block_alloc n1 _) _) _, block_alloc (block_alloc n2 _) _, block_alloc n3 _, n4, below_alloc (below_alloc (below_alloc (below_alloc (Below.refl _ _) _) _) _) _⟩

theorem stateOf_any (key nonce : List Int) (c : BitVec 32) (w : World) (hk : IsBytes key) (hkl : key.length = 32) (hn : IsBytes nonce) (hnl : nonce.length = 12) :
    Calls Tryd.prog 31 #[.agg (bV key), .agg (bV nonce), .int .u32 (c.toNat : Int)] w fun e w' => e = .returned (.agg (arrV (stW key nonce c))) ∧ Below w.heap.size w w' := by
  have hS := SS.start w key nonce (preW c)
  go_enter Tryd.func31, Tryd.ntmps31
  go_wp2_with fail
  rw [arrV_preW, show #[Value.int IntKind.u32 0, Value.int IntKind.u32 0, Value.int IntKind.u32 0, Value.int IntKind.u32 0, Value.int IntKind.u32 0, Value.int IntKind.u32 0, Value.int IntKind.u32 0, Value.int IntKind.u32 0, Value.int IntKind.u32 0, Value.int IntKind.u32 0, Value.int IntKind.u32 0, Value.int IntKind.u32 0, Value.int IntKind.u32 0, Value.int IntKind.u32 0, Value.int IntKind.u32 0, Value.int IntKind.u32 0] = arrV (fun _ => 0) from rfl]
  generalize ((((w.alloc (Obj.cells (bV key) 22)).alloc (Obj.cells (bV nonce) 35)).alloc (Obj.cells (arrV (fun _ => 0)) 49)).alloc (Obj.cells (arrV (preW c)) 49)) = W at *
  refine wp_region_ord 1000 [0, 1, 2] (fun _ => True) (fun _ => True) (by kernel_rfl) (by kernel_rfl) (by kernel_rfl) trivial trivial (fun _ _ => ?_)
  replace hS := hS.drew
  generalize W.drew = W1 at *
  repeat' (refine wpOrd_quiet (v := ?_) rfl rfl (fun _ _ _ h => h) (by rfl) ?_ ?_
           rotate_left
           · (intro w' _ _; go_simp; try rfl)
           simp only [Act.put, List.setIfInBounds_toArray, List.set_cons_zero, List.set_cons_succ])
  refine wpOrd_step rfl rfl (by rfl) (fun K' hK => ?_)
  go_simp
  refine (putWords_any (w.heap.size + 3) 4 8 12 w.heap.size 32 (preW c) key 49 22 W1 hS.st hS.kk hk hkl (by decide) (by decide) (by decide) (by omega)).mono ?_
  rintro e w2 ⟨rfl, ha2, ho2⟩
  replace hS := hS.only ho2 ha2
  clear ha2 ho2
  refine hK.out _ _ trivial (fun h => absurd h (by decide)) (fun _ => ?_)
  clear hK K'
  try simp only [Act.put, List.setIfInBounds_toArray, List.set_cons_zero, List.set_cons_succ]
  refine wpOrd_nil ?_
  go_wp2_with fail
  refine wp_region_ord 1000 [0, 1, 2] (fun _ => True) (fun _ => True) (by kernel_rfl) (by kernel_rfl) (by kernel_rfl) trivial trivial (fun _ _ => ?_)
  replace hS := hS.drew
  generalize w2.drew = W3 at *
  repeat' (refine wpOrd_quiet (v := ?_) rfl rfl (fun _ _ _ h => h) (by rfl) ?_ ?_
           rotate_left
           · (intro w' _ _; go_simp; try rfl)
           simp only [Act.put, List.setIfInBounds_toArray, List.set_cons_zero, List.set_cons_succ])
  refine wpOrd_step rfl rfl (by rfl) (fun K' hK => ?_)
  go_simp
  refine (putWords_any (w.heap.size + 3) 13 3 3 (w.heap.size + 1) 12 (putW (preW c) 4 key 8) nonce 49 35 W3 hS.st hS.nn hn hnl (by decide) (by decide) (by decide) (by omega)).mono ?_
  rintro e w4 ⟨rfl, ha2, ho2⟩
  replace hS := hS.only ho2 ha2
  clear ha2 ho2
  rw [stW_put key nonce c (preW c) rfl rfl rfl rfl rfl (fun j hj => by simp [preW, show j ≠ 0 by omega, show j ≠ 1 by omega, show j ≠ 2 by omega, show j ≠ 3 by omega, show j ≠ 12 by omega])] at hS
  refine hK.out _ _ trivial (fun h => absurd h (by decide)) (fun _ => ?_)
  clear hK K'
  try simp only [Act.put, List.setIfInBounds_toArray, List.set_cons_zero, List.set_cons_succ]
  refine wpOrd_nil ?_
  have hz := hS.out
  have ha := hS.st
  go_wp2_with (first
    | (refine wpList_load_row rfl _ _ rfl _ rfl _ _ _ _ ha Tryd.underlying49 rfl (by rw [arrV_size, info16]) ?_)
    | (refine wpList_store_row rfl _ _ _ rfl _ _ rfl rfl _ _ hz (by rw [arrV_size, info16]) (by rw [arrV_size, arrV_size]) (arrV_one _) ?_))
  refine bodyPost_ret (results_cell_row rfl _ _ _ _ _ _ _ rfl (hz.setRow _) Tryd.underlying49 rfl (by rw [arrV_size, info16])) rfl ?_
  exact ⟨rfl, Below.setRow hS.bel (by omega) _⟩
#print axioms stateOf_any
end Go.Proofs.YthhaeiafgloacaaDoor
