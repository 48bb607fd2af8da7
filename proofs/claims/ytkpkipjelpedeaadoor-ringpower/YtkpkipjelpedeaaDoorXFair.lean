
/- Several texts in one, in the order in which they lean on each other; what each says stands at its head. No conditions but those that each line states. -/
import Derived.Test.YtkpkipjelpedeaaDoorXBase
import Derived.Test.YtkpkipjelpedeaaDoorXDisk
import Derived.Test.YtkpkipjelpedeaaDoorXPen
import Derived.Test.YtkpkipjelpedeaaDoorXSupr
/- What 'append' does to a row of numbers of the call's own, one number more: no program is named here; no conditions but those that each line states. -/
namespace Go.Proofs.YtkpkipjelpedeaaDoor
open Go.RowKit
set_option maxRecDepth 20000

/-- The slice '.slice a n cap' of numbers of kind k is one of the call's own (its block is from 'base' on), and reads as xs. -/
def OwnK (k : IntKind) (E : TypeId) (base : Nat) (w : World) (a : Option Addr) (n cap : Nat) (xs : List Int) : Prop :=
  AllK k xs ∧ xs.length = n ∧ w.ownsRow base E 1 (.slice a n cap) n (xs.map (Value.int k))
theorem OwnK.nil (k : IntKind) (E : TypeId) (base : Nat) (w : World) : OwnK k E base w none 0 0 [] := ⟨fun _ h => (by cases h), rfl, World.ownsRow_nil _ _ _ _⟩
theorem OwnK.alloc {k : IntKind} {E : TypeId} {base : Nat} {w : World} {a : Option Addr} {n cap : Nat} {xs : List Int} (h : OwnK k E base w a n cap xs) (o : Obj) : OwnK k E base (w.alloc o) a n cap xs := ⟨h.1, h.2.1, h.2.2.alloc o⟩
theorem OwnK.form {k : IntKind} {E : TypeId} {base : Nat} {w : World} {a : Option Addr} {n cap : Nat} {xs : List Int} (h : OwnK k E base w a n cap xs) (hn : 0 < n) : ∃ g, a = some ⟨g, 0, none⟩ ∧ base ≤ g ∧ g < w.heap.size := by
  rcases h.2.2.2 with ⟨_, h0⟩ | ⟨g, c, cur, h3, hb, hg, _⟩
  · omega
  · simp only [Value.slice.injEq, true_and] at h3
    exact ⟨g, h3.1, hb, (Array.getElem?_eq_some_iff.1 hg).1⟩
theorem OwnK.cell {k : IntKind} {E : TypeId} {base : Nat} {w : World} {g n cap : Nat} {xs : List Int} (h : OwnK k E base w (some ⟨g, 0, none⟩) n cap xs) (i : Nat) (hi : i < n) : w.cell? ⟨g, i, none⟩ = some (.int k (xs.getD i 0)) := by
  rw [h.2.2.cellAt i (by omega)]
  have : i < xs.length := by have := h.2.1; omega
  simp [List.getD, this]
theorem OwnK.keep {k : IntKind} {E : TypeId} {base : Nat} {w w' : World} {a : Option Addr} {n cap : Nat} {xs : List Int} (h : OwnK k E base w a n cap xs) (hb : ∀ g, base ≤ g → g < w.heap.size → w'.heap[g]? = w.heap[g]?) : OwnK k E base w' a n cap xs := by
  refine ⟨h.1, h.2.1, h.2.2.1, ?_⟩
  rcases h.2.2.2 with h0 | ⟨g, c, cur, h3, h4, h5, h6⟩
  · exact .inl h0
  · exact .inr ⟨g, c, cur, h3, h4, by rw [hb g h4 (Array.getElem?_eq_some_iff.1 h5).1]; exact h5, h6⟩
theorem OwnK.but {k : IntKind} {E : TypeId} {base g' : Nat} {w w' : World} {a : Option Addr} {n cap : Nat} {xs : List Int} (h : OwnK k E base w a n cap xs) (hb : But g' w w') (hg : g' < base) : OwnK k E base w' a n cap xs :=
  h.keep fun g h1 h2 => hb.block g h2 (by omega)
theorem OwnK.below {k : IntKind} {E : TypeId} {base : Nat} {w w' : World} {a : Option Addr} {n cap : Nat} {xs : List Int} (h : OwnK k E base w a n cap xs) (hb : Below w.heap.size w w') : OwnK k E base w' a n cap xs :=
  h.keep fun g _ h2 => hb.block g h2
theorem OwnK.drew {k : IntKind} {E : TypeId} {base : Nat} {w : World} {a : Option Addr} {n cap : Nat} {xs : List Int} (h : OwnK k E base w a n cap xs) : OwnK k E base w.drew a n cap xs := h

/-- One number more behind a row of the call's own: the number is laid in a block of its own first. -/
theorem run_append_num {P : Program} {T E : TypeId} (k : IntKind) (by_ : Nat) (hT : P.underlying T = some (.slice E)) (hinfo : (P.info? E).map (fun i => (i.zero, i.size, i.bytes)) = some (some (.int k 0), 1, by_)) (hby8 : by_ ≤ 8) (ty : TypeId) (base : Nat) (w0 w : World) (a : Option Addr) (n cap : Nat) (xs : List Int) (x : Int)
    (hown : OwnK k E base w a n cap xs) (hx : (Lit.int k x).wf = true) (hlim : n + 1 ≤ 1099511627776) (hbase : base ≤ w.heap.size) (hb : Below base w0 w) :
    ∃ a' cap' w', (Builtin.append_ #[T, T] ty #[.slice a n cap, .slice (some ⟨w.heap.size, 0, none⟩) 1 1]).run P (w.alloc (.cells #[.int k x] E)) = .ok (.slice a' (n + 1) cap') w' ∧ OwnK k E base w' a' (n + 1) cap' (xs ++ [x]) ∧ Below base w0 w' ∧ base ≤ w'.heap.size := by
  obtain ⟨i, hi, hz⟩ := Option.map_eq_some_iff.1 hinfo
  simp only [Prod.mk.injEq] at hz
  obtain ⟨hz, hsz, hby⟩ := hz
  have hbase' : base ≤ (w.alloc (.cells #[.int k x] E)).heap.size := by simp; omega
  have hcell : (w.alloc (.cells #[.int k x] E)).cell? ⟨w.heap.size, 0, none⟩ = some (.int k x) := by
    unfold World.cell?
    rw [heap_alloc_new]
    rfl
  have hbytes : (n + 1) * by_ ≤ 140737488355328 := Nat.le_trans (Nat.mul_le_mul hlim hby8) (by decide)
  obtain ⟨v', w', hr, h2, h3, _, h5⟩ := run_append_own_at (P := P) (w.alloc (.cells #[.int k x] E)) base T ty E i (.int k 0) 1 by_ hT hi hz hsz hby rfl (by decide) (.slice a n cap) n (xs.map (Value.int k)) (hown.alloc _).2.2 ⟨w.heap.size, 0, none⟩ 1 1 [.int k x] (by simp)
    (fun j u hj => by
      rcases j with _ | j
      · simp only [List.getElem?_cons_zero, Option.some.injEq] at hj
        subst hj
        rw [addr_add]
        exact hcell
      · simp at hj)
    (by intro u hu; rw [List.mem_singleton] at hu; subst hu; rfl) (by unfold maxLen; omega) hbytes hbase'
  have hform : ∃ a' cap', v' = .slice a' (n + 1) cap' := by
    rcases h2.2 with ⟨h, h0⟩ | ⟨g, c, cur, h, _⟩
    · exact ⟨none, 0, by rw [h, h0]⟩
    · exact ⟨_, _, h⟩
  obtain ⟨a', cap', rfl⟩ := hform
  refine ⟨a', cap', w', hr, ⟨fun z hz => ?_, by simp [hown.2.1], by rw [List.map_append]; exact h2⟩, (hb.alloc hbase _).grown h3 hbase' (fun j hj => (hown.2.2.lt j hj).1), Nat.le_trans hbase' h3.size⟩
  rcases List.mem_append.1 hz with h | h
  · exact hown.1 z h
  · rw [List.mem_singleton] at h
    subst h
    exact hx
#print axioms run_append_num
end Go.Proofs.YtkpkipjelpedeaaDoor

/- What a call of dumbwaiterref6.Garbled does: for every row of bytes up to a bound; nothing that was there is turned. -/
namespace Go.Proofs.YtkpkipjelpedeaaDoor
open Go.RowKit
set_option maxRecDepth 20000

set_option maxHeartbeats 2000000 in
theorem rgarb_any {a : Option Addr} {len cap : Nat} {zs : List Int} (w : World) (h : Bs w a len cap zs) (h0 : 0 < len) (hl : len ≤ 1000000) :
    Calls Tryd.prog 48 #[.slice a len cap] w fun e w' => ∃ g c, e = .returned (.slice (some ⟨g, 0, none⟩) len c) ∧ OwnS 5 w.heap.size w' (some ⟨g, 0, none⟩) len c (badL zs) ∧ Below w.heap.size w w' := by
  obtain ⟨a1, c1, w1, hr1, ho1, hb1⟩ := run_append_fresh w a len cap zs h (by omega)
  obtain ⟨g, rfl, hg1, hg2⟩ := ho1.form h0
  have hzl := h.length
  go_enter Tryd.func48, Tryd.ntmps48
  go_wp2_with (at_builtin; refine wpList_append_run (by rfl) (.tmp 5) (.tmp 6) 36 (by rfl) _ _ _ _ (by rfl) (by rfl) hr1 ?_)
  go_loopw [4] (fun v wr => ∃ k : Nat, k ≤ len ∧ v = .int .i64 k ∧ OwnS 5 w.heap.size wr (some ⟨g, 0, none⟩) len c1 (halfL k zs) ∧ Below w.heap.size w wr) (fun v _ => len - (intOf v).toNat)
  case atStart => exact ⟨0, Nat.zero_le _, rfl, by rw [halfL_zero]; exact ho1, hb1⟩
  case round =>
    obtain ⟨k, hk, rfl, ho, hb⟩ := hrel
    clear hr1 ho1 hb1
    by_cases hlt : k < len
    · have hc := ho.cell k hlt
      rw [halfL_get k zs (by omega)] at hc
      have hf := ho.frozen k
      have hx := h.bytes.getD k
      have hxr := bits_xr (zs.getD k 0) 165 hx (by omega)
      have ho2 := ho.set k (xr (zs.getD k 0) 165) (xr_lt _ _ hx (by omega))
      rw [halfL_step k zs (by omega)] at ho2
      have hb2 := hb.setCell (p := ⟨g, k, none⟩) hg1 (.int .u8 (xr (zs.getD k 0) 165))
      clear ho hb
      have HO := hide ho2
      have HB := hide hb2
      clear ho2 hb2
      generalize zs.getD k 0 = X at *
      go_wp2_with fail
      go_roundw
      case rel => exact ⟨k + 1, by omega, by go_num, HO.out, HB.out⟩
      case measure => simp [intOf]; omega
    · obtain rfl : k = len := by omega
      have e : halfL k zs = badL zs := by rw [← hzl]; exact halfL_all zs
      rw [e] at ho
      go_wp2_with fail
      go_ret
      exact ⟨g, c1, rfl, ho, hb⟩

#print axioms rgarb_any
end Go.Proofs.YtkpkipjelpedeaaDoor

/- What calls of dumbwaiterlaw10.Blank and dumbwaiterlaw10.Fair do. The variable of package quar reads as its text says. No conditions but those that each line states. -/
namespace Go.Proofs.YtkpkipjelpedeaaDoor
open Go.RowKit
set_option maxRecDepth 20000

/-! ### Blank -/
set_option maxHeartbeats 2000000 in
theorem blank_any (key : List Int) (n : Nat) (w : World) (hk : IsBytes key) (hkl : key.length = 32) (hn : n ≤ 90022) (hq : Glob w) :
    Calls Tryd.prog 17 #[.agg (bV key), .int .i64 (n : Int)] w fun e w' => e = .returned (.bool (openB key (zL n))) ∧ Below w.heap.size w w' := by
  have hS := KK.start w key hq
  generalize hB : openB key (zL n) = B
  go_enter Tryd.func17, Tryd.ntmps17
  go_wp2_with fail
  refine wp_region_rel Kept [0, 1, 2, 3, 4, 5, 6, 7, 8, 9, 10, 11, 12] (by kernel_rfl) (by kernel_rfl) (by kernel_rfl) Kept.refl Kept.trans ?_
  replace hS := hS.drew
  generalize World.drew _ = W0 at *
  refine wpRel_loadA arrT32 rfl rfl _ rfl w.heap.size (bV key) (by rfl) (fun w' hR => (hS.kk.below hR)) (by rw [bV_size, hkl]) (fun _ _ _ h => h) (by rfl) ?_
  try simp only [Act.put, List.setIfInBounds_toArray, List.set_cons_zero, List.set_cons_succ]
  repeat' (first
    | (refine wpRel_quiet (v := ?_) rfl rfl (fun _ _ _ h => h) (by rfl) ?_ ?_
       rotate_left
       · (intro w' hR; go_simp; try rfl)
       simp only [Act.put, List.setIfInBounds_toArray, List.set_cons_zero, List.set_cons_succ])
    | fail)
  refine wpRel_step rfl rfl (by rfl) (fun K' hK => ?_)
  refine wp_make_bytes n (by omega) _ _ (by rfl) (by rfl) (by rfl) ?_
  have b1 : Below W0.heap.size W0 (W0.alloc (Obj.cells (madeCells #[Value.int .u8 0] n) 5)) := below_alloc (Below.refl _ _) _
  have hZ := made_zB W0 n 5
  refine hK.out _ _ b1 ?_
  clear hK K'
  try simp only [Act.put, List.setIfInBounds_toArray, List.set_cons_zero, List.set_cons_succ]
  replace hS := hS.later b1
  clear b1
  generalize (W0.alloc (Obj.cells (madeCells #[Value.int .u8 0] n) 5)) = W1 at *
  generalize W0.heap.size = gz at *
  have hO := ropen_all key W1 hk hkl (hZ.bs (zL_bytes n) n (zL_length n) (by omega)) hn hS.gl
  rw [hB] at hO
  generalize openBoot key (zL n) = X1 at *
  generalize openSeq key (zL n) = X2 at *
  generalize (openR key (zL n)).length = X3 at *
  generalize openR key (zL n) = X4 at *
  refine wpRel_step rfl rfl (by rfl) (fun K' hK => ?_)
  go_simp
  refine (hO).mono ?_
  rintro e W2 ⟨p2, c2, rfl, hB2, b2⟩
  refine hK.out _ _ b2 ?_
  clear hK K'
  try simp only [Act.put, List.setIfInBounds_toArray, List.set_cons_zero, List.set_cons_succ]
  replace hS := hS.later b2
  clear hZ hO hB2 b2
  repeat' (first
    | (refine wpRel_quiet (v := ?_) rfl rfl (fun _ _ _ h => h) (by rfl) ?_ ?_
       rotate_left
       · (intro w' hR; go_simp; try rfl)
       simp only [Act.put, List.setIfInBounds_toArray, List.set_cons_zero, List.set_cons_succ])
    | fail)
  have hb := hS.bel
  clear hS
  refine wpRel_nil ?_
  go_wp2_with fail
  go_ret
  exact ⟨rfl, hb⟩


/-! ### Fair choices -/
theorem OwnK.ns {k : IntKind} {E : TypeId} {base : Nat} {w : World} {a : Option Addr} {n cap : Nat} {xs : List Int} (h : OwnK k E base w a n cap xs) : Ns k w a n cap xs := by
  obtain ⟨hb, hl, h1, h2⟩ := h
  rcases h2 with ⟨h3, h4⟩ | ⟨g, c, cur, h3, h4, h5, h6, h7, h8, h9⟩
  · subst h4
    simp only [Value.slice.injEq, true_and] at h3
    obtain ⟨rfl, rfl⟩ := h3
    exact ⟨hl, Nat.le_refl _, by omega, hb, .inl rfl⟩
  · simp only [Value.slice.injEq, true_and] at h3
    obtain ⟨rfl, rfl⟩ := h3
    unfold maxLen at h7
    refine ⟨hl, h6, by omega, hb, .inr ⟨g, 0, rfl, fun i hi => ?_⟩⟩
    rw [Nat.zero_add, cell_of_row w g i cur E (0, 0) h5]
    have : (List.take (n * 1) cur.toList)[i]? = (xs.map (Value.int k))[i]? := by rw [h9]
    rw [Nat.mul_one, List.getElem?_take, if_pos hi] at this
    rw [← Array.getElem?_toList, this]
    have hi' : i < xs.length := by omega
    simp [hi', List.getD]
theorem info_i64 : (Tryd.prog.info? 3).map (fun i => (i.zero, i.size, i.bytes)) = some (some (.int .i64 0), 1, 8) := by kernel_rfl
/-- Whether a flush or a crash was done. -/
def isEnd (e : Ev) : Bool := (e.kind == 3) || (e.kind == 4)
/-- What was done behind the last one. -/
def behindL (l : List Ev) : List Ev := l.foldl (fun acc e => if isEnd e = true then [] else acc ++ [e]) []
theorem behindL_snoc (l : List Ev) (e : Ev) : behindL (l ++ [e]) = if isEnd e = true then [] else behindL l ++ [e] := by simp [behindL]
/-- A choice, but that none lets a garbled block be opened. -/
def fairC (key body : List Int) (c : Int) : Int := if openB key (badL body) = true then (if c = 2 then 0 else c) else c
theorem fairC_cases (key body : List Int) {c : Int} (h : c = 0 ∨ c = 1 ∨ c = 2) : fairC key body c = 0 ∨ fairC key body c = 1 ∨ (fairC key body c = 2 ∧ openB key (badL body) = false) := by
  unfold fairC
  cases hB : openB key (badL body) with
  | true =>
    rw [if_pos rfl]
    split <;> omega
  | false =>
    rw [if_neg (by decide)]
    rcases h with rfl | rfl | rfl
    · exact .inl rfl
    · exact .inr (.inl rfl)
    · exact .inr (.inr ⟨rfl, rfl⟩)
def writesAt (n : Nat) (e : Ev) : Bool := (e.kind == 2) && hasI n e.at_
def fairF (key : List Int) (n size : Nat) (ch : List Int) (l : List Ev) : List Int := l.foldl (fun o e => if writesAt n e = true then o ++ [fairC key (fitL size e.body.zs) (chL ch o.length)] else o) []
theorem fairF_snoc (key : List Int) (n size : Nat) (ch : List Int) (l : List Ev) (e : Ev) : fairF key n size ch (l ++ [e]) = if writesAt n e = true then fairF key n size ch l ++ [fairC key (fitL size e.body.zs) (chL ch (fairF key n size ch l).length)] else fairF key n size ch l := by simp [fairF]
/-- The choices for a crash. -/
def fairL (key : List Int) (D : DS) (ch : List Int) : List Int := fairF key D.n D.size ch (behindL D.tr)
theorem take_drop_next {α : Type} (l : List α) (F k : Nat) (x : α) (h : l[k]? = some x) (hF : F ≤ k) : (l.take (k + 1)).drop F = (l.take k).drop F ++ [x] := by
  have hk : k < l.length := (List.getElem?_eq_some_iff.1 h).1
  rw [take_next l k x h, List.drop_append_of_le_length (by rw [List.length_take]; omega)]

set_option maxRecDepth 100000 in
set_option maxHeartbeats 8000000 in
theorem fair_any {w0 W : World} {Z : Own} {g : Nat} {D : DS} (h : Cl w0 W Z g D) (hq : Glob w0) (key : List Int) (hk : IsBytes key) (hkl : key.length = 32) (hs0 : 0 < D.size) (hlim : D.tr.length < 1000000) {a : Option Addr} {len cap : Nat} {ch : List Int} (hx : Ns .i64 W a len cap ch) :
    Calls Tryd.prog 27 #[.pointer (some ⟨g, 0, none⟩), .agg (bV key), .slice a len cap] W fun e W' => ∃ p n c, e = .returned (.slice p n c) ∧ Nz .i64 Z W' p n c (fairL key D ch) ∧ Below W.heap.size W W' := by
  have hS := KK.start W key (hq.below h.bel hq.lt)
  have C0 := h.alloc (Obj.cells (bV key) 27)
  have hx0 := hx.below (below_alloc (Below.refl W.heap.size W) (Obj.cells (bV key) 27))
  have hsz := h.size_le
  have hZlt := h.dk.lt
  have Hbyt : Hid (∀ e ∈ D.tr, IsBytes e.body.zs) := by
    obtain ⟨gb, wv, tv, hd⟩ := h.dk
    exact fun e he => (hd.okt e he).2.bs.bytes
  obtain ⟨N, hN⟩ : ∃ N, D.tr.length = N := ⟨_, rfl⟩
  obtain ⟨sz, hsz2⟩ : ∃ sz, D.size = sz := ⟨_, rfl⟩
  have hTr := hide (C0.trace hlim N sz hN hsz2)
  have HF : Hid (∀ l, behindL D.tr = l → fairF key D.n sz ch l = fairL key D ch) := fun l hl => by subst hl hsz2; rfl
  generalize fairL key D ch = OUT at *
  rw [hsz2] at hs0 hsz
  rw [hN] at hlim
  clear h hx C0
  go_enter Tryd.func27, Tryd.ntmps27
  go_wp2_with fail
  generalize (W.alloc (Obj.cells (bV key) 27)) = W0 at *
  refine hTr.out.mono ?_
  rintro e W1 ⟨rfl, t1, C1, b1⟩
  clear hTr
  replace hS := hS.later b1
  replace hx0 := hx0.below b1
  generalize W0.heap.size = te at *
  clear b1 hsz2
  have HT := hide t1
  have HS := hide hS
  have HX := hide hx0
  have HC := hide C1
  have Hte := hide (t1.there)
  clear t1 hS hx0 C1
  generalize D.tr = tr at *
  go_wp2_with fail
  go_loop [9, 10] (fun f i => ∃ k F : Nat, k ≤ N ∧ F ≤ k ∧ f = .int .i64 (F : Int) ∧ i = .int .i64 (k : Int) ∧ behindL (tr.take k) = (tr.take k).drop F) (fun _ i => N - (intOf i).toNat)
  case atStart => exact ⟨0, 0, Nat.zero_le _, Nat.le_refl _, rfl, rfl, rfl⟩
  case round =>
    obtain ⟨k, F, hkN, hFk, rfl, rfl, hb⟩ := hrel
    have HB := hide hb
    clear hb
    by_cases hlt : k < N
    · obtain ⟨ev, hev⟩ : ∃ ev, tr[k]? = some ev := ⟨_, List.getElem?_eq_getElem (by omega)⟩
      have c1 := HT.out.kind k ev hev
      have HE : Hid (behindL (tr.take (k + 1)) = if isEnd ev = true then [] else (tr.take (k + 1)).drop F) := by
        show _ = _
        rw [take_next tr k ev hev, behindL_snoc, HB.out, ← take_next tr k ev hev, take_drop_next tr F k ev hev hFk]
      obtain ⟨K, hK⟩ : ∃ K, ev.kind = K := ⟨_, rfl⟩
      have HI : Hid (isEnd ev = ((K == 3) || (K == 4))) := by subst hK; rfl
      rw [hK] at c1
      clear hK hev HB
      by_cases h3 : K = 3
      · subst h3
        clear HF
        go_wp2_with fail
        go_round
        case rel => exact ⟨k + 1, k + 1, by omega, Nat.le_refl _, by go_num, by go_num, by rw [HE.out, HI.out, if_pos (by decide), List.drop_eq_nil_of_le (by rw [List.length_take]; omega)]⟩
        case measure => simp [intOf]; omega
      · by_cases h4 : K = 4
        · subst h4
          clear HF
          go_wp2_with fail
          go_round
          case rel => exact ⟨k + 1, k + 1, by omega, Nat.le_refl _, by go_num, by go_num, by rw [HE.out, HI.out, if_pos (by decide), List.drop_eq_nil_of_le (by rw [List.length_take]; omega)]⟩
          case measure => simp [intOf]; omega
        · have e3 : (K == 3) = false := by simpa using h3
          have e4 : (K == 4) = false := by simpa using h4
          have HI2 : Hid (isEnd ev = false) := by show _ = _; rw [HI.out, e3, e4]; rfl
          clear HF HI h3 h4
          go_wp2_with fail
          go_round
          case rel => exact ⟨k + 1, F, by omega, by omega, rfl, by go_num, by rw [HE.out, HI2.out, if_neg (by decide)]⟩
          case measure => simp [intOf]; omega
    · obtain rfl : k = N := by omega
      have HB2 : Hid (behindL tr = (tr.take k).drop F) := by
        show _ = _
        rw [← HB.out, List.take_of_length_le (by omega)]
      clear HB hlt
      have hbB := HB2.out
      clear Hte
      go_wp2_with fail
      go_loopw [7, 11] (fun o i wr => ∃ (j : Nat) (p : Option Addr) (n c : Nat), F ≤ j ∧ j ≤ k ∧ i = .int .i64 (j : Int) ∧ o = .slice p n c ∧ n ≤ j ∧ OwnK .i64 3 W1.heap.size wr p n c (fairF key D.n sz ch ((tr.take j).drop F)) ∧ Below W1.heap.size W1 wr) (fun _ i _ => k - (intOf i).toNat)
      case atStart => exact ⟨F, none, 0, 0, Nat.le_refl _, hFk, rfl, rfl, Nat.zero_le _, by rw [List.drop_eq_nil_of_le (by rw [List.length_take]; omega)]; exact OwnK.nil _ _ _ _, Below.refl _ _⟩
      case round =>
        obtain ⟨j, p, n, c, hFj, hjk, rfl, rfl, hnj, hown, hB⟩ := hrel
        clear hbB
        by_cases hlt : j < k
        · obtain ⟨ev, hev⟩ : ∃ ev, tr[j]? = some ev := ⟨_, List.getElem?_eq_getElem (by omega)⟩
          have c1 := keep_cell (HT.out.kind j ev hev) hB
          have c2 := keep_cell (HT.out.place j ev hev) hB
          obtain ⟨bv, c30, hbv⟩ := HT.out.body j ev hev
          have c3 := keep_cell c30 hB
          have C := HC.out.below hB
          have kk := HS.out.later hB
          have hxw := HX.out.below hB
          have hnl := hown.2.1
          have HE : Hid (fairF key D.n sz ch ((tr.take (j + 1)).drop F) = if writesAt D.n ev = true then fairF key D.n sz ch ((tr.take j).drop F) ++ [fairC key (fitL sz ev.body.zs) (chL ch n)] else fairF key D.n sz ch ((tr.take j).drop F)) := by
            show _ = _
            rw [take_drop_next tr F j ev hev hFj, fairF_snoc, hnl]
          have hevb := Hbyt.out ev (List.mem_of_getElem? hev)
          obtain ⟨K, hK⟩ : ∃ K, ev.kind = K := ⟨_, rfl⟩
          obtain ⟨A, hA⟩ : ∃ A, ev.at_ = A := ⟨_, rfl⟩
          have HI : Hid (writesAt D.n ev = ((K == 2) && hasI D.n A)) := by subst hK hA; rfl
          rw [hK] at c1 hbv
          rw [hA] at c2
          have HO := hide hown
          clear hK hA hev c30 hown hxw
          obtain ⟨G, hG⟩ : ∃ G, fitL sz ev.body.zs = G := ⟨_, rfl⟩
          have hGl : G.length = sz := by rw [← hG]; exact fitL_length _ _
          have hGb : IsBytes G := by rw [← hG]; exact fitL_bytes _ hevb
          rw [hG] at HE hbv
          clear hG hevb
          generalize fairF key D.n sz ch ((tr.take j).drop F) = S0 at *
          obtain ⟨S1, hS1⟩ : ∃ S1, Hid (fairF key D.n sz ch ((tr.take (j + 1)).drop F) = S1) := ⟨_, hide rfl⟩
          rw [hS1.out] at HE
          by_cases hK2 : K = 2
          · subst hK2
            obtain ⟨m, rfl, hmS, hmO⟩ := hbv rfl
            by_cases hA0 : A < 0
            · have HW : Hid (S1 = S0) := by
                show S1 = S0
                rw [HE.out, HI.out, if_neg (by simp [hasI]; omega)]
              clear HE HI HF
              go_wp2_with fail
              refine wp_region_rel Kept [0, 1, 2, 3, 4, 5, 6, 7, 8, 9, 10, 11, 12, 13, 14, 15, 16, 17, 18, 19, 20, 21, 22, 23] (by kernel_rfl) (by kernel_rfl) (by kernel_rfl) Kept.refl Kept.trans ?_
              replace C := C.drew
              replace kk := kk.drew
              replace hB := hB.drew
              replace c1 : wr.drew.cell? _ = _ := c1
              replace c2 : wr.drew.cell? _ = _ := c2
              replace c3 : wr.drew.cell? _ = _ := c3
              replace HO : Hid (OwnK .i64 3 W1.heap.size wr.drew p n c S0) := hide HO.out.drew
              generalize wr.drew = W2 at *
              have hBk : Calls Tryd.prog 47 #[.pointer (some ⟨g, 0, none⟩)] W2 fun e w' => e = .returned (.int .i64 (D.n : Int)) ∧ W2 = w' := by
                obtain ⟨gb, wv, tv, hd⟩ := C.dk
                exact blocks_any hd
              repeat' (first
                | (refine wpRel_quiet (v := ?_) rfl rfl (fun _ _ _ h => h) (by rfl) ?_ ?_
                   rotate_left
                   · (intro w' hR; have i1 := keep_cell c1 hR; have i2 := keep_cell c2 hR; go_simp; try rfl)
                   simp only [Act.put, List.setIfInBounds_toArray, List.set_cons_zero, List.set_cons_succ])
                | fail)
              repeat' (first
                | (refine wpRel_pass rfl (fun _ _ _ h => h) (by rfl) (Kept.refl _) ?_
                   simp only [Act.put, List.setIfInBounds_toArray, List.set_cons_zero, List.set_cons_succ])
                | fail)
              repeat' (first
                | (refine wpRel_quiet (v := ?_) rfl rfl (fun _ _ _ h => h) (by rfl) ?_ ?_
                   rotate_left
                   · (intro w' hR; have i1 := keep_cell c1 hR; have i2 := keep_cell c2 hR; go_simp; try rfl)
                   simp only [Act.put, List.setIfInBounds_toArray, List.set_cons_zero, List.set_cons_succ])
                | fail)
              refine wpRel_nil ?_
              clear hBk c1 c2 c3 C kk hmO
              go_wp2_with fail
              go_roundw
              case rel => exact ⟨j + 1, p, n, c, by omega, by omega, by go_num, rfl, by omega, by rw [hS1.out, HW.out]; exact HO.out, hB⟩
              case measure => simp [intOf]; omega
            · by_cases hAn : (D.n : Int) ≤ A
              · have HW : Hid (S1 = S0) := by
                  show S1 = S0
                  rw [HE.out, HI.out, if_neg (by simp [hasI]; omega)]
                clear HE HI HF
                go_wp2_with fail
                refine wp_region_rel Kept [0, 1, 2, 3, 4, 5, 6, 7, 8, 9, 10, 11, 12, 13, 14, 15, 16, 17, 18, 19, 20, 21, 22, 23] (by kernel_rfl) (by kernel_rfl) (by kernel_rfl) Kept.refl Kept.trans ?_
                replace C := C.drew
                replace kk := kk.drew
                replace hB := hB.drew
                replace c1 : wr.drew.cell? _ = _ := c1
                replace c2 : wr.drew.cell? _ = _ := c2
                replace c3 : wr.drew.cell? _ = _ := c3
                replace HO : Hid (OwnK .i64 3 W1.heap.size wr.drew p n c S0) := hide HO.out.drew
                generalize wr.drew = W2 at *
                have hBk : Calls Tryd.prog 47 #[.pointer (some ⟨g, 0, none⟩)] W2 fun e w' => e = .returned (.int .i64 (D.n : Int)) ∧ W2 = w' := by
                  obtain ⟨gb, wv, tv, hd⟩ := C.dk
                  exact blocks_any hd
                have hA1 : ¬ A < 0 := by omega
                repeat' (first
                  | (refine wpRel_quiet (v := ?_) rfl rfl (fun _ _ _ h => h) (by rfl) ?_ ?_
                     rotate_left
                     · (intro w' hR; have i1 := keep_cell c1 hR; have i2 := keep_cell c2 hR; go_simp; try rfl)
                     simp only [Act.put, List.setIfInBounds_toArray, List.set_cons_zero, List.set_cons_succ])
                  | fail)
                refine wpRel_step rfl rfl (by rfl) (fun K' hK => ?_)
                go_simp
                refine (hBk).mono ?_
                rintro e W3 ⟨rfl, rfl⟩
                refine hK.out _ _ (Kept.refl _) ?_
                clear hK K'
                try simp only [Act.put, List.setIfInBounds_toArray, List.set_cons_zero, List.set_cons_succ]
                repeat' (first
                  | (refine wpRel_quiet (v := ?_) rfl rfl (fun _ _ _ h => h) (by rfl) ?_ ?_
                     rotate_left
                     · (intro w' hR; have i1 := keep_cell c1 hR; have i2 := keep_cell c2 hR; go_simp; try rfl)
                     simp only [Act.put, List.setIfInBounds_toArray, List.set_cons_zero, List.set_cons_succ])
                  | fail)
                refine wpRel_nil ?_
                clear hBk c1 c2 c3 C kk hmO
                go_wp2_with fail
                go_roundw
                case rel => exact ⟨j + 1, p, n, c, by omega, by omega, by go_num, rfl, by omega, by rw [hS1.out, HW.out]; exact HO.out, hB⟩
                case measure => simp [intOf]; omega
              · have HW : Hid (S1 = S0 ++ [fairC key G (chL ch n)]) := by
                  show S1 = _
                  rw [HE.out, HI.out, if_pos (by simp [hasI]; omega)]
                clear HE HI HF
                go_wp2_with fail
                refine wp_region_rel Kept [0, 1, 2, 3, 4, 5, 6, 7, 8, 9, 10, 11, 12, 13, 14, 15, 16, 17, 18, 19, 20, 21, 22, 23] (by kernel_rfl) (by kernel_rfl) (by kernel_rfl) Kept.refl Kept.trans ?_
                replace C := C.drew
                replace kk := kk.drew
                replace hB := hB.drew
                replace c1 : wr.drew.cell? _ = _ := c1
                replace c2 : wr.drew.cell? _ = _ := c2
                replace c3 : wr.drew.cell? _ = _ := c3
                replace HO : Hid (OwnK .i64 3 W1.heap.size wr.drew p n c S0) := hide HO.out.drew
                generalize wr.drew = W2 at *
                have hBk : Calls Tryd.prog 47 #[.pointer (some ⟨g, 0, none⟩)] W2 fun e w' => e = .returned (.int .i64 (D.n : Int)) ∧ W2 = w' := by
                  obtain ⟨gb, wv, tv, hd⟩ := C.dk
                  exact blocks_any hd
                have hA1 : ¬ A < 0 := by omega
                have hA2 : ¬ (D.n : Int) ≤ A := by omega
                repeat' (first
                  | (refine wpRel_quiet (v := ?_) rfl rfl (fun _ _ _ h => h) (by rfl) ?_ ?_
                     rotate_left
                     · (intro w' hR; have i1 := keep_cell c1 hR; have i2 := keep_cell c2 hR; go_simp; try rfl)
                     simp only [Act.put, List.setIfInBounds_toArray, List.set_cons_zero, List.set_cons_succ])
                  | fail)
                refine wpRel_step rfl rfl (by rfl) (fun K' hK => ?_)
                go_simp
                refine (hBk).mono ?_
                rintro e W3 ⟨rfl, rfl⟩
                refine hK.out _ _ (Kept.refl _) ?_
                clear hK K'
                try simp only [Act.put, List.setIfInBounds_toArray, List.set_cons_zero, List.set_cons_succ]
                repeat' (first
                  | (refine wpRel_quiet (v := ?_) rfl rfl (fun _ _ _ h => h) (by rfl) ?_ ?_
                     rotate_left
                     · (intro w' hR; have i1 := keep_cell c1 hR; have i2 := keep_cell c2 hR; go_simp; try rfl)
                     simp only [Act.put, List.setIfInBounds_toArray, List.set_cons_zero, List.set_cons_succ])
                  | fail)
                refine wpRel_nil ?_
                clear hBk c1 c2
                obtain ⟨OB, hOB⟩ : ∃ OB, openB key (badL G) = OB := ⟨_, rfl⟩
                have hcc := chL_cases ch n
                have hbody : Bs W1 (some ⟨m, 0, none⟩) sz sz G := OwnB.bs hmO hGb sz hGl (by omega)
                replace hbody := hbody.below hB
                have hcl := HX.out.le_cap
                have hcm := HX.out.cap_le
                have hchl := HX.out.length
                clear hmO hA0 hAn
                by_cases hch : (n : Int) < (len : Int)
                · obtain ⟨cb, coff, rfl, hcw⟩ : ∃ cb coff, a = some ⟨cb, coff, none⟩ ∧ W1.cell? ⟨cb, coff + n, none⟩ = some (.int .i64 (ch.getD n 0)) := by
                    rcases HX.out.place with h | ⟨cb, coff, e, hc⟩
                    · omega
                    · exact ⟨cb, coff, e, hc n (by omega)⟩
                  have c4 := keep_cell hcw hB
                  have hm := mod3 (ch.getD n 0)
                  have hy : chL ch n = ch.getD n 0 % 3 := by unfold chL; rw [if_pos (by omega)]
                  generalize ch.getD n 0 = x at *
                  have hm3 : -3 < x.tmod 3 ∧ x.tmod 3 < 3 := by
                    have h1 := Int.tmod_eq_emod (a := x) (b := 3)
                    rw [h1]
                    split <;> omega
                  have hw1 : IntKind.i64.wrap (x.tmod 3) = x.tmod 3 := by rw [IntKind.wrap_i64]; omega
                  have hw2 : IntKind.i64.wrap (x.tmod 3 + 3) = x.tmod 3 + 3 := by rw [IntKind.wrap_i64]; omega
                  rw [hy] at hcc
                  obtain ⟨y, hxy⟩ : ∃ y, x % 3 = y := ⟨_, rfl⟩
                  rw [hxy] at hm hy hcc
                  clear hxy
                  go_wp2_with fail
                  clear hm hm3 hw1 hw2 c4 hcw
                  refine wp_region_rel Kept [0, 1, 2, 3, 4, 5, 6, 7, 8, 9, 10, 11, 12, 13, 14, 15, 16] (by kernel_rfl) (by kernel_rfl) (by kernel_rfl) Kept.refl Kept.trans ?_
                  replace kk := kk.drew
                  replace hB := hB.drew
                  replace c3 : W2.drew.cell? _ = _ := c3
                  replace hbody := hbody.below (Below.refl W2.heap.size W2).drew
                  replace HO : Hid (OwnK .i64 3 W1.heap.size W2.drew p n c S0) := hide HO.out.drew
                  generalize W2.drew = W3 at *
                  refine wpRel_loadA arrT32 rfl rfl _ rfl W.heap.size (bV key) (by rfl) (fun w' hR => (kk.kk.below hR)) (by rw [bV_size, hkl]) (fun _ _ _ h => h) (by rfl) ?_
                  try simp only [Act.put, List.setIfInBounds_toArray, List.set_cons_zero, List.set_cons_succ]
                  repeat' (first
                    | (refine wpRel_quiet (v := ?_) rfl rfl (fun _ _ _ h => h) (by rfl) ?_ ?_
                       rotate_left
                       · (intro w' hR; have i3 := keep_cell c3 hR; go_simp; try rfl)
                       simp only [Act.put, List.setIfInBounds_toArray, List.set_cons_zero, List.set_cons_succ])
                    | fail)
                  refine wpRel_step rfl rfl (by rfl) (fun K' hK => ?_)
                  go_simp
                  refine (rgarb_any W3 hbody hs0 (by omega)).mono ?_
                  rintro e W4 ⟨gg, cg, rfl, hO4, b4⟩
                  refine hK.out _ _ b4 ?_
                  clear hK K'
                  try simp only [Act.put, List.setIfInBounds_toArray, List.set_cons_zero, List.set_cons_succ]
                  have kk4 := kk.later b4
                  have hOp := ropen_all key W4 hk hkl hO4.bs (by omega) kk4.gl
                  rw [hOB] at hOp
                  generalize openBoot key (badL G) = X1 at *
                  generalize openSeq key (badL G) = X2 at *
                  generalize (openR key (badL G)).length = X3 at *
                  generalize openR key (badL G) = X4 at *
                  repeat' (first
                    | (refine wpRel_quiet (v := ?_) rfl rfl (fun _ _ _ h => h) (by rfl) ?_ ?_
                       rotate_left
                       · (intro w' hR; go_simp; try rfl)
                       simp only [Act.put, List.setIfInBounds_toArray, List.set_cons_zero, List.set_cons_succ])
                    | fail)
                  refine wpRel_step rfl rfl (by rfl) (fun K' hK => ?_)
                  go_simp
                  refine (hOp).mono ?_
                  rintro e W5 ⟨p2, c2, rfl, hB2, b5⟩
                  refine hK.out _ _ b5 ?_
                  clear hK K'
                  try simp only [Act.put, List.setIfInBounds_toArray, List.set_cons_zero, List.set_cons_succ]
                  have b35 := b4.trans (b5.mono b4.size)
                  have hown5 := HO.out.below b35
                  have hB5 := hB.trans (b35.mono hB.size)
                  clear hOp hO4 hB2 b4 b5 b35 kk kk4 hbody c3
                  repeat' (first
                    | (refine wpRel_quiet (v := ?_) rfl rfl (fun _ _ _ h => h) (by rfl) ?_ ?_
                       rotate_left
                       · (intro w' hR; go_simp; try rfl)
                       simp only [Act.put, List.setIfInBounds_toArray, List.set_cons_zero, List.set_cons_succ])
                    | fail)
                  refine wpRel_nil ?_
                  cases OB with
                  | false =>
                    have hF : fairC key G (chL ch n) = y := by unfold fairC; rw [hOB, if_neg (by decide), hy]
                    rw [hF] at HW
                    obtain ⟨a3, c3, w3, hr3, hO3, hb3, hbs3⟩ := run_append_num (P := Tryd.prog) .i64 8 Tryd.underlying57 info_i64 (by decide) 57 W1.heap.size W5 W5 p n c _ y hown5 (by simp [Lit.wf, IntKind.min, IntKind.max, IntKind.signed, IntKind.bits]; omega) (by omega) hB5.size (Below.refl _ _)
                    rw [← HW.out] at hO3
                    have hB6 := hB5.trans hb3
                    clear hown5 hB5 hb3 HW HO hF hy
                    go_wp2_with (at_builtin; refine wpList_append_run (by rfl) (.tmp 103) (.tmp 105) 57 (by rfl) _ _ _ _ (by rfl) (by rfl) hr3 ?_)
                    go_roundw
                    case rel => exact ⟨j + 1, a3, n + 1, c3, by omega, by omega, by go_num, rfl, by omega, by rw [hS1.out]; exact hO3, hB6⟩
                    case measure => simp [intOf]; omega
                  | true =>
                    by_cases hy2 : y = 2
                    · have hF : fairC key G (chL ch n) = 0 := by unfold fairC; rw [hOB, if_pos rfl, hy, if_pos hy2]
                      rw [hF] at HW
                      obtain ⟨a3, c3, w3, hr3, hO3, hb3, hbs3⟩ := run_append_num (P := Tryd.prog) .i64 8 Tryd.underlying57 info_i64 (by decide) 57 W1.heap.size W5 W5 p n c _ 0 hown5 (by decide) (by omega) hB5.size (Below.refl _ _)
                      rw [← HW.out] at hO3
                      have hB6 := hB5.trans hb3
                      have hye : (y == 2) = true := by simpa using hy2
                      clear hown5 hB5 hb3 HW HO hF hy
                      go_wp2_with (at_builtin; refine wpList_append_run (by rfl) (.tmp 103) (.tmp 105) 57 (by rfl) _ _ _ _ (by rfl) (by rfl) hr3 ?_)
                      go_roundw
                      case rel => exact ⟨j + 1, a3, n + 1, c3, by omega, by omega, by go_num, rfl, by omega, by rw [hS1.out]; exact hO3, hB6⟩
                      case measure => simp [intOf]; omega
                    · have hF : fairC key G (chL ch n) = y := by unfold fairC; rw [hOB, if_pos rfl, hy, if_neg hy2]
                      rw [hF] at HW
                      obtain ⟨a3, c3, w3, hr3, hO3, hb3, hbs3⟩ := run_append_num (P := Tryd.prog) .i64 8 Tryd.underlying57 info_i64 (by decide) 57 W1.heap.size W5 W5 p n c _ y hown5 (by simp [Lit.wf, IntKind.min, IntKind.max, IntKind.signed, IntKind.bits]; omega) (by omega) hB5.size (Below.refl _ _)
                      rw [← HW.out] at hO3
                      have hB6 := hB5.trans hb3
                      have hye : (y == 2) = false := by simpa using hy2
                      clear hown5 hB5 hb3 HW HO hF hy
                      go_wp2_with (at_builtin; refine wpList_append_run (by rfl) (.tmp 103) (.tmp 105) 57 (by rfl) _ _ _ _ (by rfl) (by rfl) hr3 ?_)
                      go_roundw
                      case rel => exact ⟨j + 1, a3, n + 1, c3, by omega, by omega, by go_num, rfl, by omega, by rw [hS1.out]; exact hO3, hB6⟩
                      case measure => simp [intOf]; omega
                · have hy : chL ch n = 0 := by unfold chL; rw [if_neg (by omega)]
                  go_wp2_with fail
                  refine wp_region_rel Kept [0, 1, 2, 3, 4, 5, 6, 7, 8, 9, 10, 11, 12, 13, 14, 15, 16] (by kernel_rfl) (by kernel_rfl) (by kernel_rfl) Kept.refl Kept.trans ?_
                  replace kk := kk.drew
                  replace hB := hB.drew
                  replace c3 : W2.drew.cell? _ = _ := c3
                  replace hbody := hbody.below (Below.refl W2.heap.size W2).drew
                  replace HO : Hid (OwnK .i64 3 W1.heap.size W2.drew p n c S0) := hide HO.out.drew
                  generalize W2.drew = W3 at *
                  refine wpRel_loadA arrT32 rfl rfl _ rfl W.heap.size (bV key) (by rfl) (fun w' hR => (kk.kk.below hR)) (by rw [bV_size, hkl]) (fun _ _ _ h => h) (by rfl) ?_
                  try simp only [Act.put, List.setIfInBounds_toArray, List.set_cons_zero, List.set_cons_succ]
                  repeat' (first
                    | (refine wpRel_quiet (v := ?_) rfl rfl (fun _ _ _ h => h) (by rfl) ?_ ?_
                       rotate_left
                       · (intro w' hR; have i3 := keep_cell c3 hR; go_simp; try rfl)
                       simp only [Act.put, List.setIfInBounds_toArray, List.set_cons_zero, List.set_cons_succ])
                    | fail)
                  refine wpRel_step rfl rfl (by rfl) (fun K' hK => ?_)
                  go_simp
                  refine (rgarb_any W3 hbody hs0 (by omega)).mono ?_
                  rintro e W4 ⟨gg, cg, rfl, hO4, b4⟩
                  refine hK.out _ _ b4 ?_
                  clear hK K'
                  try simp only [Act.put, List.setIfInBounds_toArray, List.set_cons_zero, List.set_cons_succ]
                  have kk4 := kk.later b4
                  have hOp := ropen_all key W4 hk hkl hO4.bs (by omega) kk4.gl
                  rw [hOB] at hOp
                  generalize openBoot key (badL G) = X1 at *
                  generalize openSeq key (badL G) = X2 at *
                  generalize (openR key (badL G)).length = X3 at *
                  generalize openR key (badL G) = X4 at *
                  repeat' (first
                    | (refine wpRel_quiet (v := ?_) rfl rfl (fun _ _ _ h => h) (by rfl) ?_ ?_
                       rotate_left
                       · (intro w' hR; go_simp; try rfl)
                       simp only [Act.put, List.setIfInBounds_toArray, List.set_cons_zero, List.set_cons_succ])
                    | fail)
                  refine wpRel_step rfl rfl (by rfl) (fun K' hK => ?_)
                  go_simp
                  refine (hOp).mono ?_
                  rintro e W5 ⟨p2, c2, rfl, hB2, b5⟩
                  refine hK.out _ _ b5 ?_
                  clear hK K'
                  try simp only [Act.put, List.setIfInBounds_toArray, List.set_cons_zero, List.set_cons_succ]
                  have b35 := b4.trans (b5.mono b4.size)
                  have hown5 := HO.out.below b35
                  have hB5 := hB.trans (b35.mono hB.size)
                  clear hOp hO4 hB2 b4 b5 b35 kk kk4 hbody c3
                  repeat' (first
                    | (refine wpRel_quiet (v := ?_) rfl rfl (fun _ _ _ h => h) (by rfl) ?_ ?_
                       rotate_left
                       · (intro w' hR; go_simp; try rfl)
                       simp only [Act.put, List.setIfInBounds_toArray, List.set_cons_zero, List.set_cons_succ])
                    | fail)
                  refine wpRel_nil ?_
                  cases OB with
                  | false =>
                    have hF : fairC key G (chL ch n) = 0 := by unfold fairC; rw [hOB, if_neg (by decide), hy]
                    rw [hF] at HW
                    obtain ⟨a3, c3, w3, hr3, hO3, hb3, hbs3⟩ := run_append_num (P := Tryd.prog) .i64 8 Tryd.underlying57 info_i64 (by decide) 57 W1.heap.size W5 W5 p n c _ 0 hown5 (by decide) (by omega) hB5.size (Below.refl _ _)
                    rw [← HW.out] at hO3
                    have hB6 := hB5.trans hb3
                    clear hown5 hB5 hb3 HW HO hF hy
                    go_wp2_with (at_builtin; refine wpList_append_run (by rfl) (.tmp 103) (.tmp 105) 57 (by rfl) _ _ _ _ (by rfl) (by rfl) hr3 ?_)
                    go_roundw
                    case rel => exact ⟨j + 1, a3, n + 1, c3, by omega, by omega, by go_num, rfl, by omega, by rw [hS1.out]; exact hO3, hB6⟩
                    case measure => simp [intOf]; omega
                  | true =>
                    have hF : fairC key G (chL ch n) = 0 := by unfold fairC; rw [hOB, if_pos rfl, hy, if_neg (by decide)]
                    rw [hF] at HW
                    obtain ⟨a3, c3, w3, hr3, hO3, hb3, hbs3⟩ := run_append_num (P := Tryd.prog) .i64 8 Tryd.underlying57 info_i64 (by decide) 57 W1.heap.size W5 W5 p n c _ 0 hown5 (by decide) (by omega) hB5.size (Below.refl _ _)
                    rw [← HW.out] at hO3
                    have hB6 := hB5.trans hb3
                    clear hown5 hB5 hb3 HW HO hF hy
                    go_wp2_with (at_builtin; refine wpList_append_run (by rfl) (.tmp 103) (.tmp 105) 57 (by rfl) _ _ _ _ (by rfl) (by rfl) hr3 ?_)
                    go_roundw
                    case rel => exact ⟨j + 1, a3, n + 1, c3, by omega, by omega, by go_num, rfl, by omega, by rw [hS1.out]; exact hO3, hB6⟩
                    case measure => simp [intOf]; omega
          · have e2 : (K != 2) = true := by simpa using hK2
            have HW : Hid (S1 = S0) := by
              show S1 = S0
              rw [HE.out, HI.out, if_neg (by simp [hK2])]
            clear HE HI HF hK2
            go_wp2_with fail
            refine wp_region_rel Kept [0, 1, 2, 3, 4, 5, 6, 7, 8, 9, 10, 11, 12, 13, 14, 15, 16, 17, 18, 19, 20, 21, 22, 23] (by kernel_rfl) (by kernel_rfl) (by kernel_rfl) Kept.refl Kept.trans ?_
            replace C := C.drew
            replace kk := kk.drew
            replace hB := hB.drew
            replace c1 : wr.drew.cell? _ = _ := c1
            replace c2 : wr.drew.cell? _ = _ := c2
            replace c3 : wr.drew.cell? _ = _ := c3
            replace HO : Hid (OwnK .i64 3 W1.heap.size wr.drew p n c S0) := hide HO.out.drew
            generalize wr.drew = W2 at *
            have hBk : Calls Tryd.prog 47 #[.pointer (some ⟨g, 0, none⟩)] W2 fun e w' => e = .returned (.int .i64 (D.n : Int)) ∧ W2 = w' := by
              obtain ⟨gb, wv, tv, hd⟩ := C.dk
              exact blocks_any hd
            repeat' (first
              | (refine wpRel_quiet (v := ?_) rfl rfl (fun _ _ _ h => h) (by rfl) ?_ ?_
                 rotate_left
                 · (intro w' hR; have i1 := keep_cell c1 hR; have i2 := keep_cell c2 hR; go_simp; try rfl)
                 simp only [Act.put, List.setIfInBounds_toArray, List.set_cons_zero, List.set_cons_succ])
              | fail)
            repeat' (first
              | (refine wpRel_pass rfl (fun _ _ _ h => h) (by rfl) (Kept.refl _) ?_
                 simp only [Act.put, List.setIfInBounds_toArray, List.set_cons_zero, List.set_cons_succ])
              | fail)
            repeat' (first
              | (refine wpRel_quiet (v := ?_) rfl rfl (fun _ _ _ h => h) (by rfl) ?_ ?_
                 rotate_left
                 · (intro w' hR; have i1 := keep_cell c1 hR; have i2 := keep_cell c2 hR; go_simp; try rfl)
                 simp only [Act.put, List.setIfInBounds_toArray, List.set_cons_zero, List.set_cons_succ])
              | fail)
            repeat' (first
              | (refine wpRel_pass rfl (fun _ _ _ h => h) (by rfl) (Kept.refl _) ?_
                 simp only [Act.put, List.setIfInBounds_toArray, List.set_cons_zero, List.set_cons_succ])
              | fail)
            repeat' (first
              | (refine wpRel_quiet (v := ?_) rfl rfl (fun _ _ _ h => h) (by rfl) ?_ ?_
                 rotate_left
                 · (intro w' hR; have i1 := keep_cell c1 hR; have i2 := keep_cell c2 hR; go_simp; try rfl)
                 simp only [Act.put, List.setIfInBounds_toArray, List.set_cons_zero, List.set_cons_succ])
              | fail)
            refine wpRel_nil ?_
            clear hBk c1 c2 c3 C kk hbv
            go_wp2_with fail
            go_roundw
            case rel => exact ⟨j + 1, p, n, c, by omega, by omega, by go_num, rfl, by omega, by rw [hS1.out, HW.out]; exact HO.out, hB⟩
            case measure => simp [intOf]; omega
        · obtain rfl : j = k := by omega
          have hO := HF.out _ HB2.out
          have hns := hown.ns
          rw [hO] at hns
          have hform := hown.form
          have hbel := HS.out.bel.trans (hB.mono HS.out.bel.size)
          have hW1s := HS.out.bel.size
          have hZ := HC.out.dk.lt
          clear hlt HT HX HF hown
          go_wp2_with fail
          go_ret
          refine ⟨p, n, c, rfl, ⟨hns, fun h0 q hq => ?_⟩, hbel⟩
          obtain ⟨gq, e, h1, h2⟩ := hform h0
          rw [e] at hq
          cases hq
          exact ⟨h2, fun hs => absurd (hZlt gq hs) (by omega)⟩
#print axioms blank_any
#print axioms fair_any
end Go.Proofs.YtkpkipjelpedeaaDoor
