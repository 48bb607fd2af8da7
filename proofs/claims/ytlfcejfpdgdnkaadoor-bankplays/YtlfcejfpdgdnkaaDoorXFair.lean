
/- Several texts in one, in the order in which they lean on each other; what each says stands at its head. No conditions but those that each line states. -/
import Derived.Test.YtlfcejfpdgdnkaaDoorXBase
import Derived.Test.YtlfcejfpdgdnkaaDoorXDisk
import Derived.Test.YtlfcejfpdgdnkaaDoorXPen
import Derived.Test.YtlfcejfpdgdnkaaDoorXSupr
/- What 'append' does to a row of numbers of the call's own, one number more: no program is named here; no conditions but those that each line states. -/
namespace Go.Proofs.YtlfcejfpdgdnkaaDoor
open Go.RowKit
set_option maxRecDepth 20000

/-- The slice '.slice a n cap' of numbers of kind k is one of the call's own (its block is from 'base' on), and reads as xs. -/
def OwnK (k : IntKind) (E : TypeId) (base : Nat) (w : World) (a : Option Addr) (n cap : Nat) (xs : List Int) : Prop :=
  AllK k xs ∧ xs.length = n ∧ w.ownsRow base E 1 (.slice a n cap) n (xs.map (Value.int k))
theorem OwnK.nil (k : IntKind) (E : TypeId) (base : Nat) (w : World) : OwnK k E base w none 0 0 [] := ⟨fun _ h => (by cases h), rfl, World.ownsRow_nil _ _ _ _⟩
theorem OwnK.alloc {k : IntKind} {E : TypeId} {base : Nat} {w : World} {a : Option Addr} {n cap : Nat} {xs : List Int} (h : OwnK k E base w a n cap xs) (o : Obj) : OwnK k E base (w.alloc o) a n cap xs := ⟨h.1, h.2.1, h.2.2.alloc o⟩
theorem OwnK.form {k : IntKind} {E : TypeId} {base : Nat} {w : World} {a : Option Addr} {n cap : Nat} {xs : List Int} (h : OwnK k E base w a n cap xs) (hn : 0 < n) : ∃ g, a = some ⟨g, 0, none⟩ ∧ base ≤ g ∧ g < w.heap.size := by
  rcases h.2.2.2 with ⟨_, h0⟩ | ⟨g, c, cur, h3, hb, hg, _⟩
  · omega
  · simp only [Value.slice.injEq, true_and] at h3
    exact ⟨g, h3.1, hb, (Array.getElem?_eq_some_iff.1 hg).1⟩
theorem OwnK.cell {k : IntKind} {E : TypeId} {base : Nat} {w : World} {g n cap : Nat} {xs : List Int} (h : OwnK k E base w (some ⟨g, 0, none⟩) n cap xs) (i : Nat) (hi : i < n) : w.cell? ⟨g, i, none⟩ = some (.int k (xs.getD i 0)) := by
  rw [h.2.2.cellAt i (by omega)]
  have : i < xs.length := by have := h.2.1; omega
  simp [List.getD, this]
theorem OwnK.keep {k : IntKind} {E : TypeId} {base : Nat} {w w' : World} {a : Option Addr} {n cap : Nat} {xs : List Int} (h : OwnK k E base w a n cap xs) (hb : ∀ g, base ≤ g → g < w.heap.size → w'.heap[g]? = w.heap[g]?) : OwnK k E base w' a n cap xs := by
  refine ⟨h.1, h.2.1, h.2.2.1, ?_⟩
  rcases h.2.2.2 with h0 | ⟨g, c, cur, h3, h4, h5, h6⟩
  · exact .inl h0
  · exact .inr ⟨g, c, cur, h3, h4, by rw [hb g h4 (Array.getElem?_eq_some_iff.1 h5).1]; exact h5, h6⟩
theorem OwnK.but {k : IntKind} {E : TypeId} {base g' : Nat} {w w' : World} {a : Option Addr} {n cap : Nat} {xs : List Int} (h : OwnK k E base w a n cap xs) (hb : But g' w w') (hg : g' < base) : OwnK k E base w' a n cap xs :=
  h.keep fun g h1 h2 => hb.block g h2 (by omega)
theorem OwnK.below {k : IntKind} {E : TypeId} {base : Nat} {w w' : World} {a : Option Addr} {n cap : Nat} {xs : List Int} (h : OwnK k E base w a n cap xs) (hb : Below w.heap.size w w') : OwnK k E base w' a n cap xs :=
  h.keep fun g _ h2 => hb.block g h2
theorem OwnK.drew {k : IntKind} {E : TypeId} {base : Nat} {w : World} {a : Option Addr} {n cap : Nat} {xs : List Int} (h : OwnK k E base w a n cap xs) : OwnK k E base w.drew a n cap xs := h

/-- One number more behind a row of the call's own: the number is laid in a block of its own first. -/
theorem run_append_num {P : Program} {T E : TypeId} (k : IntKind) (by_ : Nat) (hT : P.underlying T = some (.slice E)) (hinfo : (P.info? E).map (fun i => (i.zero, i.size, i.bytes)) = some (some (.int k 0), 1, by_)) (hby8 : by_ ≤ 8) (ty : TypeId) (base : Nat) (w0 w : World) (a : Option Addr) (n cap : Nat) (xs : List Int) (x : Int)
    (hown : OwnK k E base w a n cap xs) (hx : (Lit.int k x).wf = true) (hlim : n + 1 ≤ 1099511627776) (hbase : base ≤ w.heap.size) (hb : Below base w0 w) :
    ∃ a' cap' w', (Builtin.append_ #[T, T] ty #[.slice a n cap, .slice (some ⟨w.heap.size, 0, none⟩) 1 1]).run P (w.alloc (.cells #[.int k x] E)) = .ok (.slice a' (n + 1) cap') w' ∧ OwnK k E base w' a' (n + 1) cap' (xs ++ [x]) ∧ Below base w0 w' ∧ base ≤ w'.heap.size := by
  obtain ⟨i, hi, hz⟩ := Option.map_eq_some_iff.1 hinfo
  simp only [Prod.mk.injEq] at hz
  obtain ⟨hz, hsz, hby⟩ := hz
  have hbase' : base ≤ (w.alloc (.cells #[.int k x] E)).heap.size := by simp; omega
  have hcell : (w.alloc (.cells #[.int k x] E)).cell? ⟨w.heap.size, 0, none⟩ = some (.int k x) := by
    unfold World.cell?
    rw [heap_alloc_new]
    rfl
  have hbytes : (n + 1) * by_ ≤ 140737488355328 := Nat.le_trans (Nat.mul_le_mul hlim hby8) (by decide)
  obtain ⟨v', w', hr, h2, h3, _, h5⟩ := run_append_own_at (P := P) (w.alloc (.cells #[.int k x] E)) base T ty E i (.int k 0) 1 by_ hT hi hz hsz hby rfl (by decide) (.slice a n cap) n (xs.map (Value.int k)) (hown.alloc _).2.2 ⟨w.heap.size, 0, none⟩ 1 1 [.int k x] (by simp)
    (fun j u hj => by
      rcases j with _ | j
      · simp only [List.getElem?_cons_zero, Option.some.injEq] at hj
        subst hj
        rw [addr_add]
        exact hcell
      · simp at hj)
    (by intro u hu; rw [List.mem_singleton] at hu; subst hu; rfl) (by unfold maxLen; omega) hbytes hbase'
  have hform : ∃ a' cap', v' = .slice a' (n + 1) cap' := by
    rcases h2.2 with ⟨h, h0⟩ | ⟨g, c, cur, h, _⟩
    · exact ⟨none, 0, by rw [h, h0]⟩
    · exact ⟨_, _, h⟩
  obtain ⟨a', cap', rfl⟩ := hform
  refine ⟨a', cap', w', hr, ⟨fun z hz => ?_, by simp [hown.2.1], by rw [List.map_append]; exact h2⟩, (hb.alloc hbase _).grown h3 hbase' (fun j hj => (hown.2.2.lt j hj).1), Nat.le_trans hbase' h3.size⟩
  rcases List.mem_append.1 hz with h | h
  · exact hown.1 z h
  · rw [List.mem_singleton] at h
    subst h
    exact hx
#print axioms run_append_num
end Go.Proofs.YtlfcejfpdgdnkaaDoor

/- What a call of dumbwaiterref6.Garbled does: for every row of bytes up to a bound; nothing that was there is turned. -/
namespace Go.Proofs.YtlfcejfpdgdnkaaDoor
open Go.RowKit
set_option maxRecDepth 20000

end Go.Proofs.YtlfcejfpdgdnkaaDoor

/- What calls of dumbwaiterlaw10.Blank and dumbwaiterlaw10.Fair do. The variable of package quar reads as its text says. No conditions but those that each line states. -/
namespace Go.Proofs.YtlfcejfpdgdnkaaDoor
open Go.RowKit
set_option maxRecDepth 20000

/-! ### Blank -/
set_option maxHeartbeats 2000000 in
theorem blank_any (key : List Int) (n : Nat) (w : World) (hk : IsBytes key) (hkl : key.length = 32) (hn : n ≤ 90022) (hq : Glob w) :
    Calls Tryd.prog 15 #[.agg (bV key), .int .i64 (n : Int)] w fun e w' => e = .returned (.bool (openB key (zL n))) ∧ Below w.heap.size w w' := by
  have hS := KK.start w key hq
  generalize hB : openB key (zL n) = B
  go_enter Tryd.func15, Tryd.ntmps15
  go_wp2_with fail
  refine wp_region_rel Kept [0, 1, 2, 3, 4, 5, 6, 7, 8, 9, 10, 11, 12] (by kernel_rfl) (by kernel_rfl) (by kernel_rfl) Kept.refl Kept.trans ?_
  replace hS := hS.drew
  generalize World.drew _ = W0 at *
  refine wpRel_loadA arrT32 rfl rfl _ rfl w.heap.size (bV key) (by rfl) (fun w' hR => (hS.kk.below hR)) (by rw [bV_size, hkl]) (fun _ _ _ h => h) (by rfl) ?_
  try simp only [Act.put, List.setIfInBounds_toArray, List.set_cons_zero, List.set_cons_succ]
  repeat' (first
    | (refine wpRel_quiet (v := ?_) rfl rfl (fun _ _ _ h => h) (by rfl) ?_ ?_
       rotate_left
       · (intro w' hR; go_simp; try rfl)
       simp only [Act.put, List.setIfInBounds_toArray, List.set_cons_zero, List.set_cons_succ])
    | fail)
  refine wpRel_step rfl rfl (by rfl) (fun K' hK => ?_)
  refine wp_make_bytes n (by omega) _ _ (by rfl) (by rfl) (by rfl) ?_
  have b1 : Below W0.heap.size W0 (W0.alloc (Obj.cells (madeCells #[Value.int .u8 0] n) 5)) := below_alloc (Below.refl _ _) _
  have hZ := made_zB W0 n 5
  refine hK.out _ _ b1 ?_
  clear hK K'
  try simp only [Act.put, List.setIfInBounds_toArray, List.set_cons_zero, List.set_cons_succ]
  replace hS := hS.later b1
  clear b1
  generalize (W0.alloc (Obj.cells (madeCells #[Value.int .u8 0] n) 5)) = W1 at *
  generalize W0.heap.size = gz at *
  have hO := ropen_all key W1 hk hkl (hZ.bs (zL_bytes n) n (zL_length n) (by omega)) hn hS.gl
  rw [hB] at hO
  generalize openBoot key (zL n) = X1 at *
  generalize openSeq key (zL n) = X2 at *
  generalize (openR key (zL n)).length = X3 at *
  generalize openR key (zL n) = X4 at *
  refine wpRel_step rfl rfl (by rfl) (fun K' hK => ?_)
  go_simp
  refine (hO).mono ?_
  rintro e W2 ⟨p2, c2, rfl, hB2, b2⟩
  refine hK.out _ _ b2 ?_
  clear hK K'
  try simp only [Act.put, List.setIfInBounds_toArray, List.set_cons_zero, List.set_cons_succ]
  replace hS := hS.later b2
  clear hZ hO hB2 b2
  repeat' (first
    | (refine wpRel_quiet (v := ?_) rfl rfl (fun _ _ _ h => h) (by rfl) ?_ ?_
       rotate_left
       · (intro w' hR; go_simp; try rfl)
       simp only [Act.put, List.setIfInBounds_toArray, List.set_cons_zero, List.set_cons_succ])
    | fail)
  have hb := hS.bel
  clear hS
  refine wpRel_nil ?_
  go_wp2_with fail
  go_ret
  exact ⟨rfl, hb⟩


/-! ### Fair choices -/
theorem OwnK.ns {k : IntKind} {E : TypeId} {base : Nat} {w : World} {a : Option Addr} {n cap : Nat} {xs : List Int} (h : OwnK k E base w a n cap xs) : Ns k w a n cap xs := by
  obtain ⟨hb, hl, h1, h2⟩ := h
  rcases h2 with ⟨h3, h4⟩ | ⟨g, c, cur, h3, h4, h5, h6, h7, h8, h9⟩
  · subst h4
    simp only [Value.slice.injEq, true_and] at h3
    obtain ⟨rfl, rfl⟩ := h3
    exact ⟨hl, Nat.le_refl _, by omega, hb, .inl rfl⟩
  · simp only [Value.slice.injEq, true_and] at h3
    obtain ⟨rfl, rfl⟩ := h3
    unfold maxLen at h7
    refine ⟨hl, h6, by omega, hb, .inr ⟨g, 0, rfl, fun i hi => ?_⟩⟩
    rw [Nat.zero_add, cell_of_row w g i cur E (0, 0) h5]
    have : (List.take (n * 1) cur.toList)[i]? = (xs.map (Value.int k))[i]? := by rw [h9]
    rw [Nat.mul_one, List.getElem?_take, if_pos hi] at this
    rw [← Array.getElem?_toList, this]
    have hi' : i < xs.length := by omega
    simp [hi', List.getD]
theorem info_i64 : (Tryd.prog.info? 3).map (fun i => (i.zero, i.size, i.bytes)) = some (some (.int .i64 0), 1, 8) := by kernel_rfl
/-- Whether a flush or a crash was done. -/
def isEnd (e : Ev) : Bool := (e.kind == 3) || (e.kind == 4)
/-- What was done behind the last one. -/
def behindL (l : List Ev) : List Ev := l.foldl (fun acc e => if isEnd e = true then [] else acc ++ [e]) []
theorem behindL_snoc (l : List Ev) (e : Ev) : behindL (l ++ [e]) = if isEnd e = true then [] else behindL l ++ [e] := by simp [behindL]
/-- A choice, but that none lets a garbled block be opened. -/
def fairC (key body : List Int) (c : Int) : Int := if openB key (badL body) = true then (if c = 2 then 0 else c) else c
theorem fairC_cases (key body : List Int) {c : Int} (h : c = 0 ∨ c = 1 ∨ c = 2) : fairC key body c = 0 ∨ fairC key body c = 1 ∨ (fairC key body c = 2 ∧ openB key (badL body) = false) := by
  unfold fairC
  cases hB : openB key (badL body) with
  | true =>
    rw [if_pos rfl]
    split <;> omega
  | false =>
    rw [if_neg (by decide)]
    rcases h with rfl | rfl | rfl
    · exact .inl rfl
    · exact .inr (.inl rfl)
    · exact .inr (.inr ⟨rfl, rfl⟩)
def writesAt (n : Nat) (e : Ev) : Bool := (e.kind == 2) && hasI n e.at_
def fairF (key : List Int) (n size : Nat) (ch : List Int) (l : List Ev) : List Int := l.foldl (fun o e => if writesAt n e = true then o ++ [fairC key (fitL size e.body.zs) (chL ch o.length)] else o) []
theorem fairF_snoc (key : List Int) (n size : Nat) (ch : List Int) (l : List Ev) (e : Ev) : fairF key n size ch (l ++ [e]) = if writesAt n e = true then fairF key n size ch l ++ [fairC key (fitL size e.body.zs) (chL ch (fairF key n size ch l).length)] else fairF key n size ch l := by simp [fairF]
/-- The choices for a crash. -/
def fairL (key : List Int) (D : DS) (ch : List Int) : List Int := fairF key D.n D.size ch (behindL D.tr)
theorem take_drop_next {α : Type} (l : List α) (F k : Nat) (x : α) (h : l[k]? = some x) (hF : F ≤ k) : (l.take (k + 1)).drop F = (l.take k).drop F ++ [x] := by
  have hk : k < l.length := (List.getElem?_eq_some_iff.1 h).1
  rw [take_next l k x h, List.drop_append_of_le_length (by rw [List.length_take]; omega)]

#print axioms blank_any
end Go.Proofs.YtlfcejfpdgdnkaaDoor
