
/- What 'append' does to a row of bytes of the call's own: no program is named here; the sum of the lengths is at most 2^46. -/
import Derived.Test.YtgjffoeegnljlaaMem
import Derived.Maps.AppendAt
namespace Go.Proofs.Ytgjffoeegnljlaa
open Go.RowKit
set_option maxRecDepth 20000

/-- The slice '.slice a n cap' is one of the call's own (its block is from 'base' on), and reads as xs. -/
def OwnS (E : TypeId) (base : Nat) (w : World) (a : Option Addr) (n cap : Nat) (xs : List Int) : Prop :=
  IsBytes xs ∧ xs.length = n ∧ w.ownsRow base E 1 (.slice a n cap) n (xs.map (Value.int .u8))

theorem OwnS.bs {E : TypeId} {base : Nat} {w : World} {a : Option Addr} {n cap : Nat} {xs : List Int} (h : OwnS E base w a n cap xs) : Bs w a n cap xs := by
  obtain ⟨hb, hl, h1, h2⟩ := h
  rcases h2 with ⟨h3, h4⟩ | ⟨g, c, cur, h3, h4, h5, h6, h7, h8, h9⟩
  · subst h4
    simp only [Value.slice.injEq, true_and] at h3
    obtain ⟨rfl, rfl⟩ := h3
    exact ⟨hl, Nat.le_refl _, by omega, hb, .inl rfl⟩
  · simp only [Value.slice.injEq, true_and] at h3
    obtain ⟨rfl, rfl⟩ := h3
    unfold maxLen at h7
    refine ⟨hl, h6, by omega, hb, .inr ⟨g, 0, rfl, fun i hi => ?_⟩⟩
    rw [Nat.zero_add, cell_of_row w g i cur E (0, 0) h5]
    have : (List.take (n * 1) cur.toList)[i]? = (xs.map (Value.int .u8))[i]? := by rw [h9]
    rw [Nat.mul_one, List.getElem?_take, if_pos hi] at this
    rw [← Array.getElem?_toList, this]
    have hi' : i < xs.length := by omega
    simp [hi', List.getD]

theorem OwnB.owns {E : TypeId} {w : World} {g n base : Nat} {zs : List Int} (h : OwnB E w g zs) (hz : IsBytes zs) (hn : zs.length = n) (hl : n ≤ 9223372036854775807) (hb : base ≤ g) : OwnS E base w (some ⟨g, 0, none⟩) n n zs :=
  ⟨hz, hn, by simp [hn], .inr ⟨g, n, _, rfl, hb, h, Nat.le_refl _, by unfold maxLen; omega, by simp [hn], by rw [List.take_of_length_le (by simp [hn])]⟩⟩

theorem OwnS.nil (E : TypeId) (base : Nat) (w : World) : OwnS E base w none 0 0 [] := ⟨IsBytes.nil, rfl, World.ownsRow_nil _ _ _ _⟩

/-- 'append(v, src...)' where v is the call's own. -/
theorem run_append_bytes {P : Program} {T E : TypeId} (hT : P.underlying T = some (.slice E)) (hinfo : (P.info? E).map (fun i => (i.zero, i.size, i.bytes)) = some (some (.int .u8 0), 1, 1)) (ty : TypeId) (base : Nat) (w : World) (a : Option Addr) (n cap : Nat) (xs : List Int)
    (hown : OwnS E base w a n cap xs) (sp : Option Addr) (sLen sCap : Nat) (zs : List Int) (hs : Bs w sp sLen sCap zs) (hlim : n + sLen ≤ 140737488355328) (hbase : base ≤ w.heap.size) :
    ∃ a' cap' w', (Builtin.append_ #[T, T] ty #[.slice a n cap, .slice sp sLen sCap]).run P w = .ok (.slice a' (n + sLen) cap') w' ∧ OwnS E base w' a' (n + sLen) cap' (xs ++ zs) ∧ w.grownBy w' (Value.slice a n cap).ownBlock ∧
      ((Value.slice a' (n + sLen) cap').ownBlock = (Value.slice a n cap).ownBlock ∨ (Value.slice a' (n + sLen) cap').ownBlock = some w.heap.size) := by
  obtain ⟨i, hi, hz⟩ := Option.map_eq_some_iff.1 hinfo
  simp only [Prod.mk.injEq] at hz
  obtain ⟨hz, hsz, hby⟩ := hz
  have hfin : ∀ (ad : Addr), sp = some ad → (∀ j, j < sLen → w.cell? (ad.add j) = some (.int .u8 (zs.getD j 0))) →
      ∃ a' cap' w', (Builtin.append_ #[T, T] ty #[.slice a n cap, .slice sp sLen sCap]).run P w = .ok (.slice a' (n + sLen) cap') w' ∧ OwnS E base w' a' (n + sLen) cap' (xs ++ zs) ∧ w.grownBy w' (Value.slice a n cap).ownBlock ∧
      ((Value.slice a' (n + sLen) cap').ownBlock = (Value.slice a n cap).ownBlock ∨ (Value.slice a' (n + sLen) cap').ownBlock = some w.heap.size) := by
    rintro ad rfl hcell
    obtain ⟨v', w', hr, h2, h3, _, h5⟩ := run_append_own_at (P := P) w base T ty E i (.int .u8 0) 1 1 hT hi hz hsz hby rfl (by decide) (.slice a n cap) n (xs.map (Value.int .u8)) hown.2.2 ad sLen sCap (zs.map (Value.int .u8)) (by simp [hs.length])
      (fun j u hj => by
        have hjl : j < zs.length := by
          rcases Nat.lt_or_ge j zs.length with h | h
          · exact h
          · rw [List.getElem?_eq_none (by simpa using h)] at hj; cases hj
        rw [hcell j (by rw [← hs.length]; exact hjl), ← hj]
        simp [List.getD, hjl])
      (by intro u hu; obtain ⟨x, _, rfl⟩ := List.mem_map.1 hu; rfl) (by unfold maxLen; omega) (by omega) hbase
    have hform : ∃ a' cap', v' = .slice a' (n + sLen) cap' := by
      rcases h2.2 with ⟨h, h0⟩ | ⟨g, c, cur, h, _⟩
      · exact ⟨none, 0, by rw [h, h0]⟩
      · exact ⟨_, _, h⟩
    obtain ⟨a', cap', rfl⟩ := hform
    refine ⟨a', cap', w', hr, ⟨hown.1.append hs.bytes, by simp [hown.2.1, hs.length], ?_⟩, h3, h5⟩
    rw [List.map_append]
    exact h2
  rcases hs.place with h0 | ⟨b, off, rfl, hc⟩
  · subst h0
    obtain rfl : sLen = 0 := by have := hs.le_cap; omega
    cases sp with
    | some ad => exact hfin ad rfl (fun j hj => by omega)
    | none =>
      obtain rfl : zs = [] := List.eq_nil_of_length_eq_zero hs.length
      refine ⟨a, cap, w, ?_, ?_, ⟨rfl, rfl, rfl, Nat.le_refl _, fun _ _ _ => rfl⟩, .inl rfl⟩
      · rcases hown.2.2.2 with ⟨h, rfl⟩ | ⟨g, c, cur, h, _, _, hnc, _⟩
        · simp only [Value.slice.injEq, true_and] at h
          obtain ⟨rfl, rfl⟩ := h
          simp [Builtin.append_, run_underlying hT, sizeOf, typeInfo, hi, Builtin.lenOf, Builtin.firstCells]
        · simp only [Value.slice.injEq, true_and] at h
          obtain ⟨rfl, rfl⟩ := h
          simp [Builtin.append_, run_underlying hT, sizeOf, typeInfo, hi, Builtin.lenOf, Builtin.firstCells, hnc, storeCells]
      · simpa using hown
  · refine hfin ⟨b, off, none⟩ rfl (fun j hj => ?_)
    rw [addr_add]; exact hc j hj
theorem cells_of_bs {w : World} {a : Addr} {n cap : Nat} {xs : List Int} (h : Bs w (some a) n cap xs) : ∀ j v, (xs.map (Value.int .u8))[j]? = some v → w.cell? (a.add j) = some v := by
  intro j v hj
  have hjl : j < xs.length := by
    rcases Nat.lt_or_ge j xs.length with h | h
    · exact h
    · rw [List.getElem?_eq_none (by simpa using h)] at hj; cases hj
  have hl := h.length
  have hc := h.le_cap
  rcases h.place with h0 | ⟨b, off, e, hcell⟩
  · omega
  · cases e
    rw [addr_add, hcell j (by omega), ← hj]
    simp [List.getD, hjl]

/-- 'append(v, src...)' where there is no room: the new row lies in a new block, and nothing old turns. -/
theorem run_append_new {P : Program} {T E : TypeId} (hT : P.underlying T = some (.slice E)) (hinfo : (P.info? E).map (fun i => (i.zero, i.size, i.bytes)) = some (some (.int .u8 0), 1, 1)) (ty : TypeId) (w : World) (a : Option Addr) (n cap : Nat) (xs : List Int)
    (hx : Bs w a n cap xs) (sp : Option Addr) (sLen sCap : Nat) (zs : List Int) (hs : Bs w sp sLen sCap zs) (hnil : a = none → n = 0 ∧ cap = 0) (hroom : cap < n + sLen) (hlim : n + sLen ≤ 140737488355328) :
    ∃ cap' w', (Builtin.append_ #[T, T] ty #[.slice a n cap, .slice sp sLen sCap]).run P w = .ok (.slice (some ⟨w.heap.size, 0, none⟩) (n + sLen) cap') w' ∧ OwnS E w.heap.size w' (some ⟨w.heap.size, 0, none⟩) (n + sLen) cap' (xs ++ zs) ∧ Below w.heap.size w w' := by
  obtain ⟨i, hi, hz⟩ := Option.map_eq_some_iff.1 hinfo
  simp only [Prod.mk.injEq] at hz
  obtain ⟨hz, hsz, hby⟩ := hz
  have hxl := hx.length
  have hsl := hs.length
  have hxc := hx.le_cap
  have hsc := hs.le_cap
  obtain ⟨ad, rfl⟩ : ∃ ad, sp = some ad := by
    rcases hs.place with h0 | ⟨b, off, rfl, _⟩
    · omega
    · exact ⟨_, rfl⟩
  have hge := grownCap_ge w (n + sLen) cap E
  have hle := grownCap_le_maxLen w (n + sLen) cap E (by unfold maxLen; omega)
  have fin : ∀ C, C = (xs.map (Value.int .u8)).toArray ++ (zs.map (Value.int .u8)).toArray ++ Builtin.zeroCells (Value.int .u8 0).cells (grownCap w (n + sLen) cap E - (n + sLen)) →
      OwnS E w.heap.size (w.drew.alloc (.cells C E)) (some ⟨w.heap.size, 0, none⟩) (n + sLen) (grownCap w (n + sLen) cap E) (xs ++ zs) ∧ Below w.heap.size w (w.drew.alloc (.cells C E)) := by
    rintro C rfl
    refine ⟨⟨hx.bytes.append hs.bytes, by simp [hxl, hsl], by simp [hxl, hsl], .inr ⟨w.heap.size, _, _, rfl, Nat.le_refl _, heap_alloc_new w.drew _, hge, hle, ?_, ?_⟩⟩, (Below.refl w.heap.size w).drew.alloc (Nat.le_refl _) _⟩
    · rw [Array.size_append, Array.size_append, size_zeroCells]
      simp only [List.size_toArray, List.length_map, Value.cells, hxl, hsl]
      simp
      omega
    · simp only [Array.toList_append, Nat.mul_one, List.map_append]
      rw [List.take_append_of_le_length (by simp [hxl, hsl]), List.take_of_length_le (by simp [hxl, hsl])]
  cases a with
  | some b =>
    have hr := run_append_grow (P := P) w T ty E i (.int .u8 0) hT hi hz b n cap (xs.map (Value.int .u8)) (by simp [hsz, hxl]) (cells_of_bs hx) ad sLen sCap (zs.map (Value.int .u8)) (by simp [hsz, hsl]) (cells_of_bs hs) hroom (by omega)
      (by rw [hby]; exact growslice_fits hroom (by omega))
    exact ⟨_, _, hr, fin _ rfl⟩
  | none =>
    obtain ⟨rfl, rfl⟩ := hnil rfl
    obtain rfl : xs = [] := List.eq_nil_of_length_eq_zero hxl
    have hr := run_append_nil (P := P) w T ty E i (.int .u8 0) hT hi hz ad sLen sCap (zs.map (Value.int .u8)) (by simp [hsz, hsl]) (cells_of_bs hs) (by omega) (by omega) (by rw [hby]; omega)
    simp only [Nat.zero_add] at fin hr ⊢
    exact ⟨_, _, hr, fin _ (by simp)⟩

theorem OwnS.form {E : TypeId} {base : Nat} {w : World} {a : Option Addr} {n cap : Nat} {xs : List Int} (h : OwnS E base w a n cap xs) (hn : 0 < n) : ∃ g, a = some ⟨g, 0, none⟩ ∧ base ≤ g ∧ g < w.heap.size := by
  rcases h.2.2.2 with ⟨_, h0⟩ | ⟨g, c, cur, h3, hb, hg, _⟩
  · omega
  · simp only [Value.slice.injEq, true_and] at h3
    exact ⟨g, h3.1, hb, (Array.getElem?_eq_some_iff.1 hg).1⟩
theorem OwnS.frozen {E : TypeId} {base : Nat} {w : World} {g n cap : Nat} {xs : List Int} (h : OwnS E base w (some ⟨g, 0, none⟩) n cap xs) (i : Nat) : w.frozen? ⟨g, i, none⟩ = false := h.2.2.frozenAt i
theorem OwnS.cell {E : TypeId} {base : Nat} {w : World} {g n cap : Nat} {xs : List Int} (h : OwnS E base w (some ⟨g, 0, none⟩) n cap xs) (i : Nat) (hi : i < n) : w.cell? ⟨g, i, none⟩ = some (.int .u8 (xs.getD i 0)) := by
  rw [h.2.2.cellAt i (by omega)]
  have : i < xs.length := by have := h.2.1; omega
  simp [List.getD, this]
theorem IsBytes.set {l : List Int} (h : IsBytes l) (i : Nat) (x : Int) (hx : 0 ≤ x ∧ x < 256) : IsBytes (l.set i x) := by
  intro n hn
  rcases List.mem_or_eq_of_mem_set hn with h1 | h1
  · exact h n h1
  · rw [h1]; exact hx
theorem OwnS.set {E : TypeId} {base : Nat} {w : World} {g n cap : Nat} {xs : List Int} (h : OwnS E base w (some ⟨g, 0, none⟩) n cap xs) (i : Nat) (x : Int) (hx : 0 ≤ x ∧ x < 256) : OwnS E base (w.setCell ⟨g, i, none⟩ (.int .u8 x)) (some ⟨g, 0, none⟩) n cap (xs.set i x) := by
  refine ⟨h.1.set i x hx, by simp [h.2.1], ?_⟩
  rw [List.map_set]
  exact (h.2.2.stored i _).1
theorem OnlyAt.setCell (g i : Nat) (w : World) (v : Value) : OnlyAt g w (w.setCell ⟨g, i, none⟩ v) :=
  ⟨rfl, rfl, rfl, by simp [World.setCell], fun k hk => Below.heap_setCell w ⟨g, i, none⟩ v k hk⟩

theorem OwnS.alloc {E : TypeId} {base : Nat} {w : World} {a : Option Addr} {n cap : Nat} {xs : List Int} (h : OwnS E base w a n cap xs) (o : Obj) : OwnS E base (w.alloc o) a n cap xs := ⟨h.1, h.2.1, h.2.2.alloc o⟩

/-- One byte more behind a row of the call's own: the byte is laid in a block of its own first. -/
theorem run_append_one {P : Program} {T E : TypeId} (hT : P.underlying T = some (.slice E)) (hinfo : (P.info? E).map (fun i => (i.zero, i.size, i.bytes)) = some (some (.int .u8 0), 1, 1)) (ty : TypeId) (base : Nat) (w0 w : World) (a : Option Addr) (n cap : Nat) (xs : List Int) (x : Int)
    (hown : OwnS E base w a n cap xs) (hx : 0 ≤ x ∧ x < 256) (hlim : n + 1 ≤ 140737488355328) (hbase : base ≤ w.heap.size) (hb : Below base w0 w) :
    ∃ a' cap' w', (Builtin.append_ #[T, T] ty #[.slice a n cap, .slice (some ⟨w.heap.size, 0, none⟩) 1 1]).run P (w.alloc (.cells #[.int .u8 x] E)) = .ok (.slice a' (n + 1) cap') w' ∧ OwnS E base w' a' (n + 1) cap' (xs ++ [x]) ∧ Below base w0 w' ∧ base ≤ w'.heap.size := by
  have hs : Bs (w.alloc (.cells #[.int .u8 x] E)) (some ⟨w.heap.size, 0, none⟩) 1 1 [x] := by
    refine ⟨rfl, Nat.le_refl _, by omega, by intro n hn; simp at hn; omega, .inr ⟨w.heap.size, 0, rfl, fun i hi => ?_⟩⟩
    obtain rfl : i = 0 := by omega
    unfold World.cell?
    rw [heap_alloc_new]
    rfl
  have hbase' : base ≤ (w.alloc (.cells #[.int .u8 x] E)).heap.size := by simp; omega
  obtain ⟨a', cap', w', hr, ho, hg, _⟩ := run_append_bytes hT hinfo ty base _ a n cap xs (hown.alloc _) _ 1 1 [x] hs hlim hbase'
  refine ⟨a', cap', w', hr, ho, (hb.alloc hbase _).grown hg hbase' ?_, Nat.le_trans hbase' hg.size⟩
  intro k hk
  exact (hown.2.2.lt k hk).1

/-- A call of 'append' in a walk, its run known; the operation may be guarded, its guard met. -/
theorem wpList_append_run {P : Program} {w : World} {ops : Array Oper} {rest : List Oper} {o : Oper} {a : Act} {Q : Exit → Act → World → Prop} (hw : Region.wanted o (yielded ops a.tmps) = true) (s x : Operand) (t : TypeId)
    (ho : o.op = .call { callee := .builtin .append, args := #[s, x], argTypes := #[t, t] }) (v u v' : Value) (w' : World) (hs : a.eval s = v) (hx : a.eval x = u)
    (hr : (Builtin.append_ #[t, t] o.type #[v, u]).run P w = .ok v' w') (h : wpList P ops Q rest (a.put o.dst v') w') : wpList P ops Q (o :: rest) a w := by
  refine wpList_step fun K hK => ?_
  rw [if_pos hw]
  unfold Oper.wp
  simp [execOp, ho, resolve, invoke, builtin, hs, hx, hr, Result.andThen]
  exact hK _ _ h
#print axioms run_append_bytes
end Go.Proofs.Ytgjffoeegnljlaa
