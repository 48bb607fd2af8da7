/- The walk of dumbwaiterlaw6.DiskTells: for any row of rows of bytes and any places it answers true; nothing that was there is turned. -/
import Derived.Test.YtlicafjhkbofbaaDoorKAwake
import Derived.ChangeKeysEq
import Derived.Laws.StructEq
import Derived.BigQuiet
namespace Go.Proofs.YtlicafjhkbofbaaDoor
open Go.RowKit

theorem i64_and3 (n : Int) : bits .and .i64 n 3 = n % 4 := i64_mask n 2 (by decide) 3 (by decide)
theorem run_eqItems_same {P : Program} {E : TypeId} (he : P.underlying E = some (.int .u8)) (d : Nat) (zs : List Int) (w : World) : ∀ is : List Nat, (∀ i ∈ is, i < zs.length) →
    (Op.eqItems (d + 1) E 1 (bV zs) (bV zs) is).run P w = .ok true w
  | [], _ => by simp [Op.eqItems]
  | i :: is, h => by
    have hi : i < zs.length := h i (by simp)
    have hg : (bV zs)[i]? = some (.int .u8 (zs.getD i 0)) := by simp [bV, List.getD, hi]
    have px : (part E (bV zs) (i * 1)).run P w = .ok (.int .u8 (zs.getD i 0)) w := by
      simp only [part, isAgg, run_underlying he, Nat.mul_one, hg, Sem.run_bind, Result.andThen_ok]
      simp
    have pe : (Op.equalIn (d + 1) E (.int .u8 (zs.getD i 0)) (.int .u8 (zs.getD i 0))).run P w = .ok true w := by
      rw [run_equalIn_int w d E .u8 .u8 _ _ he]
      simp
    simp only [Op.eqItems, Sem.run_bind, px, pe, Result.andThen_ok]
    simp only [Bool.not_true, Bool.false_eq_true, if_false]
    exact run_eqItems_same he d zs w is (fun j hj => h j (by simp [hj]))
theorem info_u8s : (Tryd.prog.info? 5).isSome = true := by kernel_rfl
theorem cells_u8s : Tryd.prog.cellsOf 5 = 1 := by kernel_rfl
/-- '!=' of a row of twelve bytes and itself. -/
theorem run_neq12 (zs : List Int) (h : zs.length = 12) (w : World) : (binOp BinOp.neq 33 (.agg (bV zs)) (.agg (bV zs))).run Tryd.prog w = .ok (.bool false) w := by
  obtain ⟨i, hi⟩ := Option.isSome_iff_exists.1 info_u8s
  rw [run_neq_struct, run_equalIn_array w 9999 (bV zs) (bV zs) Tryd.underlying33 hi, cells_u8s, run_eqItems_same Tryd.underlying5 9998 zs w _ (fun i hi => by rw [h]; simpa using hi)]
  rfl
theorem guard12 : Tryd.prog.eqGuardType Tryd.prog.depth 33 = false := by kernel_rfl
theorem exec_neq12 {ρ : Operand → Value} {o : Oper} {x y : Operand} {u : TypeId} (hop : o.op = .binOp .neq 33 x y u) (zs : List Int) (hx : ρ x = .agg (bV zs)) (hy : ρ y = .agg (bV zs)) (h : zs.length = 12) (w : World) :
    (execOp ρ o).run Tryd.prog w = .ok (.value (.bool false)) w := by
  have hr := run_neq12 zs h w
  have hq : (eqGuard .neq 33 x y (.agg (bV zs)) (.agg (bV zs))).run Tryd.prog w = .ok () w := run_eqGuard_agg w _ _ _ _ _ _ guard12
  unfold execOp
  simp only [hop, hx, hy, Sem.run_bind, hq, hr, Result.andThen_ok, Sem.run_pure]
section
variable {Q : Exit → Act → World → Prop} {ops : Array Oper} {rest : List Oper} {o : Oper} {a : Act} {w : World}
theorem wpList_neq12 (hw : Region.wanted o (yielded ops a.tmps) = true) (x y : Operand) (u : TypeId) (hop : o.op = .binOp .neq 33 x y u) (zs : List Int) (hx : a.eval x = .agg (bV zs)) (hy : a.eval y = .agg (bV zs)) (h12 : zs.length = 12)
    (h : wpList Tryd.prog ops Q rest (a.put o.dst (.bool false)) w) : wpList Tryd.prog ops Q (o :: rest) a w := by
  refine wpList_step fun K hK => ?_
  rw [if_pos hw]
  unfold Oper.wp
  rw [exec_neq12 hop zs hx hy h12 w]
  exact hK _ _ h
/-- A load of twelve bytes out of the midst of a block. -/
theorem wpList_load12 (hw : Region.wanted o (yielded ops a.tmps) = true) (x : Operand) (hop : o.op = .load 33 x) (b off : Nat) (hx : a.eval x = .pointer (some ⟨b, off, none⟩)) (zs : List Int) (hc : w.rangeAt b off (zs.map (Value.int .u8))) (h12 : zs.length = 12)
    (h : wpList Tryd.prog ops Q rest (a.put o.dst (.agg (bV zs))) w) : wpList Tryd.prog ops Q (o :: rest) a w := by
  refine wpList_step fun K hK => ?_
  rw [if_pos hw]
  have hs : (Tryd.prog.info? 33).map (·.size) = some 12 := by kernel_rfl
  exact wp_load_mid _ x hop b off hx _ _ hc Tryd.underlying33 rfl (by rw [List.length_map, h12, hs]) (hK _ _ h)
end
section
variable {C : World → Prop} {Q : Act → Prop} {ops : Array Oper} {rest : List Oper} {o : Oper} {a : Act}
theorem wpQuiet_neq12 (hw : Region.wanted o (yielded ops a.tmps) = true) (x y : Operand) (u : TypeId) (hop : o.op = .binOp .neq 33 x y u) (zs : List Int) (hx : a.eval x = .agg (bV zs)) (hy : a.eval y = .agg (bV zs)) (h12 : zs.length = 12)
    (h : wpQuiet Tryd.prog ops C Q rest (a.put o.dst (.bool false))) : wpQuiet Tryd.prog ops C Q (o :: rest) a := by
  refine wpQuiet_step fun K hK => ?_
  rw [if_pos hw]
  refine ⟨.bool false, fun w _ => ?_, hK _ h⟩
  unfold Oper.quietAt
  rw [exec_neq12 hop zs hx hy h12 w]
  exact ⟨rfl, rfl⟩
theorem wpQuiet_load12 (hw : Region.wanted o (yielded ops a.tmps) = true) (x : Operand) (hop : o.op = .load 33 x) (b off : Nat) (hx : a.eval x = .pointer (some ⟨b, off, none⟩)) (zs : List Int) (hc : ∀ w, C w → w.rangeAt b off (zs.map (Value.int .u8))) (h12 : zs.length = 12)
    (h : wpQuiet Tryd.prog ops C Q rest (a.put o.dst (.agg (bV zs)))) : wpQuiet Tryd.prog ops C Q (o :: rest) a := by
  refine wpQuiet_step fun K hK => ?_
  rw [if_pos hw]
  refine ⟨.agg (bV zs), fun w hw' => ?_, hK _ h⟩
  have hs : (Tryd.prog.info? 33).map (·.size) = some 12 := by kernel_rfl
  unfold Oper.quietAt execOp
  simp only [hop, hx, Instr.loadAt, Instr.sureAddr, Sem.run_bind, Sem.run_pure, Result.andThen_ok, run_loadVar_mid w b off 33 _ _ (hc w hw') Tryd.underlying33 rfl (by rw [List.length_map, h12, hs])]
  exact ⟨rfl, rfl⟩
end
theorem fit12 (zs : List Int) : fitL 12 (zs.take 16) = (fitL 16 zs).take 12 := by
  apply List.ext_getElem?
  intro i
  rcases Nat.lt_or_ge i 12 with h | h
  · have h1 := fitL_getD 12 (zs.take 16) i h
    have h2 := fitL_getD 16 zs i (by omega)
    have l1 : i < (fitL 12 (zs.take 16)).length := by rw [fitL_length]; omega
    have l2 : i < (fitL 16 zs).length := by rw [fitL_length]; omega
    rw [List.getElem?_take, if_pos h]
    rw [List.getD, List.getElem?_eq_getElem l1] at h1
    rw [List.getD, List.getElem?_eq_getElem l2] at h2
    rw [List.getElem?_eq_getElem l1, List.getElem?_eq_getElem l2]
    simp only [Option.getD_some] at h1 h2
    rw [h1, h2, List.getD, List.getElem?_take, if_pos (by omega)]
    rfl
  · rw [List.getElem?_eq_none (by rw [fitL_length]; omega), List.getElem?_eq_none (by rw [List.length_take, fitL_length]; omega)]
theorem fit12b (zs : List Int) : fitL 12 (fitL 16 zs) = (fitL 16 zs).take 12 := by
  have h := fit12 (fitL 16 zs)
  rw [List.take_of_length_le (by rw [fitL_length]; omega), fitL_self 16 _ (fitL_length _ _)] at h
  exact h

theorem size_12 : (Tryd.prog.info? 33).map (·.size) = some 12 := by kernel_rfl
/-- The cells of one event. -/
structure EvAt (w : World) (te o : Nat) (k a : Int) (head : List Int) (v : Value) : Prop where
  kind : w.cell? ⟨te, o, none⟩ = some (.int .i64 k)
  at_ : w.cell? ⟨te, o + 1, none⟩ = some (.int .i64 a)
  body : w.cell? ⟨te, o + 14, none⟩ = some v
  head : w.rangeAt te (o + 2) (head.map (Value.int .u8))
theorem evAt_of {w : World} {te o : Nat} {k a : Int} {head : List Int} {v : Value} (h : w.rangeAt te o (evL k a head v)) (h12 : head.length = 12) : EvAt w te o k a head v :=
  ⟨h 0 _ rfl, h 1 _ rfl, h 14 _ (evL_14 _ _ _ _ h12), fun j u hj => by
    have hjl : j < head.length := by have := (List.getElem?_eq_some_iff.1 hj).1; simpa using this
    have := h (2 + j) _ (evL_head k a head v h12 j (by omega))
    rw [Nat.add_assoc, this, ← hj]
    simp [List.getD, hjl]⟩
theorem bs_of_range {w : World} {te o : Nat} {zs : List Int} (h : w.rangeAt te o (zs.map (Value.int .u8))) (hz : IsBytes zs) (n : Nat) (hn : zs.length = n) (hl : n ≤ 9223372036854775807) : Bs w (some ⟨te, o, none⟩) n n zs :=
  ⟨hn, Nat.le_refl _, hl, hz, .inr ⟨te, o, rfl, fun i hi => h i _ (by simp [List.getD, show i < zs.length by omega])⟩⟩

/-! ### The order of a long region, looked at piece by piece -/
/-- The first k are listed. -/
def tk (N k : Nat) : Array Bool := ((List.range N).map fun j => decide (j < k)).toArray
theorem tk_zero (N : Nat) : Array.replicate N false = tk N 0 := by
  apply Array.ext_getElem?
  intro i
  unfold tk
  rcases Nat.lt_or_ge i N with h | h
  · simp [h]
  · simp [Nat.not_lt.2 h]
theorem tk_set (N k : Nat) : (tk N k).setIfInBounds k true = tk N (k + 1) := by
  apply Array.ext_getElem?
  intro i
  unfold tk
  rw [Array.getElem?_setIfInBounds]
  rcases Nat.lt_or_ge i N with h | h
  · by_cases e : k = i
    · subst e
      simp [h]
    · simp [h, e]
      omega
  · have : ¬ i < N := by omega
    simp [this]
    intro e
    omega
def lexPart (md : Region.Mode) (ops : Array Oper) : Nat → Nat → Array Bool → Bool
  | 0, _, _ => true
  | n + 1, k, listed => (Region.ready md ops listed).contains k && Region.free md ops listed k && lexPart md ops n (k + 1) (listed.setIfInBounds k true)
theorem lexFrom_split {md : Region.Mode} {ops : Array Oper} {N : Nat} : ∀ (n m k : Nat), lexPart md ops n k (tk N k) = true → Region.lexFrom md ops m (k + n) (tk N (k + n)) = true → Region.lexFrom md ops (n + m) k (tk N k) = true
  | 0, m, k, _, h => by rw [Nat.zero_add]; exact h
  | n + 1, m, k, hp, h => by
    unfold lexPart at hp
    rw [Bool.and_eq_true] at hp
    rw [Nat.add_right_comm n 1 m]
    unfold Region.lexFrom
    rw [tk_set] at hp ⊢
    rw [hp.1, Bool.true_and]
    exact lexFrom_split n m (k + 1) hp.2 (by rw [show k + 1 + n = k + (n + 1) by omega]; exact h)
theorem lexB_start {md : Region.Mode} {ops : Array Oper} (N : Nat) (hN : ops.size = N) (hs : Region.noSelect ops = true) (h : Region.lexFrom md ops N 0 (tk N 0) = true) : Region.lexB md ops = true := by
  unfold Region.lexB
  rw [hs, hN, tk_zero, Bool.true_and]
  exact h

/-- What stands in the loop. -/
structure TellsI (w wr : World) (Z : Own) (g k : Nat) (D : DS) : Prop where
  cl : Cl w wr Z g D
  size : D.size = 16
  n : D.n = 4
  left : D.left = -1
  wait : D.wait.length = k
  tr : D.tr.length = 2 * k

set_option maxRecDepth 100000 in
set_option maxHeartbeats 8000000 in
theorem diskTells_walk {a : Option Addr} {len cap : Nat} {xs : Nat → BV} {b : Option Addr} {ln cp : Nat} {zs : List Int} {p : Addr} (w : World) (hl : BBs w a len cap xs) (hb : Ns .i64 w b ln cp zs) (hp : Pow p w) :
    Calls Tryd.prog 6 #[.slice a len cap, .slice b ln cp] w fun e w' => e = .returned (.bool true) ∧ Below w.heap.size w w' := by
  have hlc := hl.le_cap
  have hcm := hl.cap_le
  have hlc2 := hb.le_cap
  have hcm2 := hb.cap_le
  have HL := hide hl
  have HB := hide hb
  clear hl hb
  go_enter Tryd.func6, Tryd.ntmps6
  go_wp2_with fail
  refine (new_any 4 16 4 16 rfl rfl w).mono ?_
  rintro e W ⟨g, Z, rfl, hD, hF, hB⟩
  have C : Cl w W Z g (DS.new 4 16) := ⟨hD, hF, hB⟩
  clear hD hF hB
  go_wp2_with fail
  go_loopw [6, 7] (fun s6 s7 wr => ∃ (k q : Nat) (Z1 : Own) (D : DS), k ≤ 15 ∧ Hid (q = 2 * k) ∧ s6 = .int .i64 (q : Int) ∧ s7 = .int .i64 (k : Int) ∧ TellsI w wr Z1 g k D) (fun _ s7 _ => 15 - (intOf s7).toNat)
  case atStart => exact ⟨0, 0, Z, DS.new 4 16, Nat.zero_le _, rfl, rfl, rfl, ⟨C, rfl, rfl, rfl, rfl, rfl⟩⟩
  case round =>
    obtain ⟨k, q, Z1, D, hk, HQ, rfl, rfl, hI⟩ := hrel
    clear C
    by_cases hlt : k < len ∧ k < ln ∧ k < 15
    · obtain ⟨h1, h2, h3⟩ := hlt
      have h3' : (k : Int) < 15 := by omega
      obtain ⟨tb, toff, rfl, hcell⟩ : ∃ b' off, b = some ⟨b', off, none⟩ ∧ ∀ i, i < ln → w.cell? ⟨b', off + i, none⟩ = some (.int .i64 (zs.getD i 0)) := by
        rcases HB.out.place with h4 | h4
        · omega
        · exact h4
      have hz := hcell k h2
      have ct : wr.cell? ⟨tb, toff + k, none⟩ = some (.int .i64 (zs.getD k 0)) := (hI.cl.bel.cell (World.block_lt_of_cell? w _ hz)).trans hz
      obtain ⟨⟨lb, loff, rfl, hlc3⟩, hbs⟩ := HL.out.item k h1
      have cl0 : ∀ W', Below w.heap.size w W' → W'.cell? ⟨lb, loff + k, none⟩ = some (xs k).v := fun W' h => (h.cell (World.block_lt_of_cell? w _ hlc3)).trans hlc3
      have cl := cl0 wr hI.cl.bel
      obtain ⟨j, hj⟩ : ∃ j : Nat, zs.getD k 0 % 4 = (j : Int) := ⟨(zs.getD k 0 % 4).toNat, by omega⟩
      have hj4 : j < 4 := by omega
      have m1 := i64_and3 (zs.getD k 0)
      rw [hj] at m1
      have hbz := hI.cl.bz hbs
      have d1 := hI.size
      have d2 := hI.n
      have d3 := hI.left
      have d4 := hI.wait
      have d5 := hI.tr
      have HW := hide (hI.cl.write (by rw [d3]; decide) (by omega) (by omega) j (by omega) hbz ((xs k).zs.take 16) (by rw [d1]))
      have hyb := hbs.bytes
      clear hI hcell hz hlc3 cl0 hj hbz hbs
      generalize (xs k).zs = ys at *
      generalize zs.getD k 0 = z at *
      go_wp2_with fail
      refine HW.out.mono ?_
      rintro e W1 ⟨Z2, x, rfl, hx, C1, s1⟩
      clear HW s1 cl ct m1
      go_wp2_with fail
      refine (C1.read (by show ¬ spendL D.left = 0; rw [d3]; decide) (by show (D.tr ++ _).length < _; rw [List.length_append]; simp only [List.length_singleton]; omega) j (by show j < D.n; omega) 16 (fitL 16 ys) d1 (by show fitL 16 (updW _ j x j).1.zs = _; simp only [updW, if_true]; rw [hx.out]; exact fitL_take _ _)).mono ?_
      rintro e W2 ⟨kb, Z3, rfl, _, A, C2, s2⟩
      clear C1 s2
      go_wp2_with fail
      refine (C2.stable j (by show j < D.n; omega) 16 _ d1 rfl).mono ?_
      rintro e W3 ⟨rfl, _, C3, b3⟩
      replace A := A.below b3
      clear C2 b3
      obtain ⟨q1, HQ1⟩ : ∃ q1, Hid (q1 = q + 1) := ⟨_, rfl⟩
      obtain ⟨q2, HQ2⟩ : ∃ q2, Hid (q2 = q + 2) := ⟨_, rfl⟩
      have eq0 := HQ.out
      have eq1 := HQ1.out
      have eq2 := HQ2.out
      have htr : ((D.writes j x).reads j).tr.length = q2 := by
        show ((D.tr ++ _) ++ _).length = _
        rw [List.length_append, List.length_append]
        simp only [List.length_singleton]
        omega
      have hq2l : q2 < 1000000 := by omega
      have HTr := hide (C3.trace (by rw [htr]; exact hq2l) q2 16 htr d1)
      have w2 : IntKind.i64.wrap ((q : Int) + 2) = (q2 : Int) := by rw [IntKind.wrap_i64]; omega
      have w3 : IntKind.i64.wrap ((q2 : Int) - 2) = (q : Int) := by rw [IntKind.wrap_i64]; omega
      have w4 : IntKind.i64.wrap ((q2 : Int) - 1) = (q1 : Int) := by rw [IntKind.wrap_i64]; omega
      have l1 : q < q2 := by omega
      have l2 : q1 < q2 := by omega
      have i0 : ((D.writes j x).reads j).tr[q]? = some ⟨2, j, x.zs, x⟩ := by
        show ((D.tr ++ [_]) ++ [_])[q]? = _
        have e : q = D.tr.length := by omega
        rw [List.getElem?_append_left (by simp; omega), e, List.getElem?_concat_length]
      have i1 : ((D.writes j x).reads j).tr[q1]? = some ⟨1, j, fitL D.size ((D.writes j x).blk j).1.zs, BV.nil⟩ := by
        show ((D.tr ++ [_]) ++ [_])[q1]? = _
        have e : q1 = (D.tr ++ [(⟨2, j, x.zs, x⟩ : Ev)]).length := by simp; omega
        rw [e, List.getElem?_concat_length]
        rfl
      have hh1 : fitL D.size ((D.writes j x).blk j).1.zs = fitL 16 ys := by
        rw [d1]
        show fitL 16 (updW _ j x j).1.zs = _
        simp only [updW, if_true]
        rw [hx.out]
        exact fitL_take _ _
      rw [hh1] at i1
      clear eq0 eq1 eq2 C3 htr
      go_wp2_with fail
      refine HTr.out.mono ?_
      rintro e W4 ⟨rfl, T4, C4, b4⟩
      replace A := A.below b4
      clear HTr b4
      generalize W3.heap.size = te at *
      have A5 : Has Z3 W4.drew kb (.cells ((fitL 16 ys).map (Value.int .u8)).toArray 5 (0, 0)) := A
      have T5 : Tr Z3 W4.drew te q2 16 ((D.writes j x).reads j).tr := T4.keep fun k hk _ => ⟨rfl, hk⟩
      have C5 := C4.drew
      obtain ⟨W5, hW5⟩ : ∃ W5, W4.drew = W5 := ⟨_, rfl⟩
      rw [hW5] at A5 T5 C5
      have HW5 := hide hW5
      clear A T4 C4 hW5
      obtain ⟨v0, r0, h0⟩ := T5.ev q _ i0
      obtain ⟨v1, r1, hv1⟩ := T5.ev q1 _ i1
      obtain rfl : v1 = BV.nil := by
        rcases hv1 with ⟨h, _⟩ | ⟨_, h⟩
        · exact absurd h (of_decide_eq_true rfl)
        · exact h
      obtain ⟨m, rfl, _, _, hO⟩ : ∃ m, v0 = ⟨some ⟨m, 0, none⟩, 16, 16, fitL 16 x.zs⟩ ∧ te < m ∧ ¬ Z3.S m ∧ OwnB 5 W5 m (fitL 16 x.zs) := by
        rcases h0 with ⟨_, h0⟩ | ⟨h0, _⟩
        · exact h0
        · exact absurd rfl h0
      have ex : fitL 16 x.zs = fitL 16 ys := by rw [hx.out]; exact fitL_take _ _
      have eh : fitL 12 x.zs = (fitL 16 ys).take 12 := by rw [hx.out]; exact fit12 ys
      have hBb := fitL_bytes 16 hyb
      have hBl := fitL_length 16 ys
      rw [ex] at hO
      simp only at r0 r1
      rw [eh, Nat.mul_comm] at r0
      rw [fit12b, Nat.mul_comm] at r1
      generalize fitL 16 ys = B at *
      have h12 : (B.take 12).length = 12 := by rw [List.length_take]; omega
      have E0 := evAt_of r0 h12
      have E1 := evAt_of r1 h12
      have a1 := E0.kind
      have a2 := E0.at_
      have a3 : W5.cell? ⟨te, q * 15 + 14, none⟩ = some (.slice (some ⟨m, 0, none⟩) 16 16) := E0.body
      have a4 := E0.head
      have b1 := E1.kind
      have b2 := E1.at_
      have b3 : W5.cell? ⟨te, q1 * 15 + 14, none⟩ = some (.slice none 0 0) := E1.body
      have b4 := E1.head
      have bsA := OwnB.bs (E := 5) A5.1 hBb 16 hBl (by omega)
      have sA := str_bytes bsA
      have sM := str_bytes (hO.bs hBb 16 hBl (by omega))
      have sT := str_bytes (bsA.taken 12 (by omega))
      have sH := str_bytes (bs_of_range a4 (hBb.take 12) 12 h12 (by omega))
      have hcut := run_cut_to (P := Tryd.prog) Tryd.underlying22 Tryd.size_u8 bsA .i64 12 12 rfl (by omega)
      have hsl := run_arr_at (P := Tryd.prog) Tryd.underlying33 Tryd.size_u8 te (q * 15 + 2)
      obtain ⟨S1, hS1⟩ : ∃ S, Hid (strOfNums B = S) := ⟨_, rfl⟩
      obtain ⟨S2, hS2⟩ : ∃ S, Hid (strOfNums (B.take 12) = S) := ⟨_, rfl⟩
      rw [hS1.out] at sA sM
      rw [hS2.out] at sT sH
      have HA4 := hide a4
      have HB4 := hide b4
      clear E0 E1 r0 r1 hv1 h0 hO A5 bsA T5 i0 i1 ex eh hh1 a4 b4
      have HI : Hid (TellsI w W5 Z3 g (k + 1) ((D.writes j x).reads j)) := by
        refine ⟨C5, d1, d2, ?_, ?_, ?_⟩
        · show spendL (spendL D.left) = -1
          rw [d3]
          rfl
        · show (D.wait ++ _).length = _
          rw [List.length_append, d4]
          rfl
        · show ((D.tr ++ _) ++ _).length = _
          rw [List.length_append, List.length_append, d5]
          simp only [List.length_singleton]
          omega
      have hk1 : k + 1 ≤ 15 := by omega
      have HQ3 : Hid (q2 = 2 * (k + 1)) := hide (by rw [HQ2.out, HQ.out]; omega)
      have wk : IntKind.i64.wrap ((k : Int) + 1) = ((k + 1 : Nat) : Int) := by rw [IntKind.wrap_i64]; omega
      clear C5 HL HB hx hyb hBb hBl d1 d2 d3 d4 d5 HQ HQ1 HQ2 hS1 hS2
      go_wp2_with fail
      refine wp_region_quiet (C := fun w' => w' = W5) (by kernel_rfl) ?_ HW5.out ?_
      · refine lexB_start 97 (by kernel_rfl) (by kernel_rfl) ?_
        refine lexFrom_split 14 83 0 (by as_aux_lemma => kernel_rfl) ?_
        refine lexFrom_split 14 69 14 (by as_aux_lemma => kernel_rfl) ?_
        refine lexFrom_split 14 55 28 (by as_aux_lemma => kernel_rfl) ?_
        refine lexFrom_split 14 41 42 (by as_aux_lemma => kernel_rfl) ?_
        refine lexFrom_split 14 27 56 (by as_aux_lemma => kernel_rfl) ?_
        refine lexFrom_split 14 13 70 (by as_aux_lemma => kernel_rfl) ?_
        exact (by as_aux_lemma => kernel_rfl)
      simp only [List.append_eq, List.cons_append, List.nil_append]
      repeat (first
        | (refine wpQuiet_load12 (by rfl) _ (by rfl) te (q1 * 15 + 2) (by rfl) (B.take 12) (fun w' h => by obtain rfl := h; exact HB4.out) h12 ?_
           simp only [Act.put, List.setIfInBounds_toArray, List.set_cons_zero, List.set_cons_succ])
        | (refine wpQuiet_load12 (by rfl) _ (by rfl) te (q * 15 + 2) (by rfl) (B.take 12) (fun w' h => by obtain rfl := h; exact HA4.out) h12 ?_
           simp only [Act.put, List.setIfInBounds_toArray, List.set_cons_zero, List.set_cons_succ])
        | (refine wpQuiet_neq12 (by rfl) _ _ _ (by rfl) (B.take 12) (by rfl) (by rfl) h12 ?_
           simp only [Act.put, List.setIfInBounds_toArray, List.set_cons_zero, List.set_cons_succ])
        | go_big_quiet_step (fail))
      refine wpQuiet_nil ?_
      intro w' hw'
      subst hw'
      clear a1 a2 a3 b1 b2 b3 hcut hsl sM sA sH sT HA4 HB4 w2 w3 w4 HW5
      go_wp2_with fail
      exact ⟨⟨k + 1, q2, Z3, _, hk1, HQ3, rfl, congrArg _ (by omega), HI.out⟩, by simp [intOf]; omega⟩
    · have hA := awake_any wr (hI.cl.pow hp)
      have hbel := hI.cl.bel
      clear hI HL HB
      have fin : ∀ (e : Ending) (w1 : World), e = .returned (.bool true) ∧ Below wr.heap.size wr w1 → e = .returned (.bool true) ∧ Below w.heap.size w w1 := fun e w1 h => ⟨h.1, hbel.trans (h.2.mono hbel.size)⟩
      replace hA := hA.mono fin
      clear fin hbel
      by_cases g1 : k < len
      · by_cases g2 : k < ln
        · have g3 : ¬ (k : Int) < 15 := by omega
          clear hlt
          go_wp2_with fail
          refine hA.mono ?_
          rintro e w1 ⟨rfl, hB1⟩
          go_wp2_with fail
          go_ret
          exact ⟨rfl, hB1⟩
        · clear hlt
          go_wp2_with fail
          refine hA.mono ?_
          rintro e w1 ⟨rfl, hB1⟩
          go_wp2_with fail
          go_ret
          exact ⟨rfl, hB1⟩
      · clear hlt
        go_wp2_with fail
        refine hA.mono ?_
        rintro e w1 ⟨rfl, hB1⟩
        go_wp2_with fail
        go_ret
        exact ⟨rfl, hB1⟩
#print axioms diskTells_walk
end Go.Proofs.YtlicafjhkbofbaaDoor
