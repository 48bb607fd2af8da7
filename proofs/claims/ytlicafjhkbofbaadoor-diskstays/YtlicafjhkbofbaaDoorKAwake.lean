/- What a call of dumbwaiterlaw6.awake does: it answers true; nothing that was there is turned. The variable of package disk holds its error. -/
import Derived.Test.YtlicafjhkbofbaaDoorKNew
import Derived.Test.YtlicafjhkbofbaaDoorKTry
import Derived.Test.YtlicafjhkbofbaaDoorSame1
namespace Go.Proofs.YtlicafjhkbofbaaDoor
open Go.RowKit

/-- A caller's world: a device that was made since w0, and nothing turned that was there in w0. -/
structure Cl (w0 W : World) (Z : Own) (g : Nat) (D : DS) : Prop where
  dk : Dk W Z g D
  frm : ∀ k, Z.S k → w0.heap.size ≤ k
  bel : Below w0.heap.size w0 W
theorem Cl.step {w0 W W' : World} {Z Z' : Own} {g : Nat} {D D' : DS} (h : Cl w0 W Z g D) (s : Step Z W Z' W') (hd : Dk W' Z' g D') : Cl w0 W' Z' g D' :=
  ⟨hd, s.from h.frm h.bel.size, s.below h.bel h.frm h.bel.size⟩
theorem Cl.below {w0 W W' : World} {Z : Own} {g : Nat} {D : DS} (h : Cl w0 W Z g D) (b : Below W.heap.size W W') : Cl w0 W' Z g D :=
  ⟨h.dk.below b, h.frm, h.bel.trans (b.mono h.bel.size)⟩
theorem Cl.alloc {w0 W : World} {Z : Own} {g : Nat} {D : DS} (h : Cl w0 W Z g D) (o : Obj) : Cl w0 (W.alloc o) Z g D := h.below (below_alloc (Below.refl _ W) o)
theorem Cl.only {w0 W W' : World} {Z : Own} {g k : Nat} {D : DS} (h : Cl w0 W Z g D) (o : OnlyAt k W W') (hk : ¬ Z.S k) (hw : w0.heap.size ≤ k) : Cl w0 W' Z g D :=
  ⟨h.dk.keep (fun i hi => o.block i (fun e => hk (e ▸ hi))) (Nat.le_of_eq o.size.symm), h.frm, o.below h.bel hw⟩
theorem Cl.drew {w0 W : World} {Z : Own} {g : Nat} {D : DS} (h : Cl w0 W Z g D) : Cl w0 W.drew Z g D := ⟨h.dk.drew, h.frm, h.bel.drew⟩
theorem Cl.pow {w0 W : World} {Z : Own} {g : Nat} {D : DS} {p : Addr} (h : Cl w0 W Z g D) (hp : Pow p w0) : Pow p W := hp.below h.bel
theorem Cl.size {w0 W : World} {Z : Own} {g : Nat} {D : DS} (h : Cl w0 W Z g D) : w0.heap.size ≤ W.heap.size := h.bel.size
/-- A block that lies aside. -/
def Has (Z : Own) (W : World) (k : Nat) (o : Obj) : Prop := W.heap[k]? = some o ∧ ¬ Z.S k
theorem Has.step {W W' : World} {Z Z' : Own} {k : Nat} {o : Obj} (h : Has Z W k o) (s : Step Z W Z' W') : Has Z' W' k o := ⟨s.heap h.1 h.2, s.aside (Array.getElem?_eq_some_iff.1 h.1).1 h.2⟩
theorem Has.below {W W' : World} {Z : Own} {k : Nat} {o : Obj} (h : Has Z W k o) (b : Below W.heap.size W W') : Has Z W' k o := ⟨(b.block k (Array.getElem?_eq_some_iff.1 h.1).1).trans h.1, h.2⟩
theorem Has.alloc {W : World} {Z : Own} {k : Nat} {o : Obj} (h : Has Z W k o) (x : Obj) : Has Z (W.alloc x) k o := h.below (below_alloc (Below.refl _ W) x)
theorem Has.only {W W' : World} {Z : Own} {k i : Nat} {o : Obj} (h : Has Z W k o) (s : OnlyAt i W W') (hk : k ≠ i) : Has Z W' k o := ⟨(s.block k hk).trans h.1, h.2⟩
theorem Has.lt {W : World} {Z : Own} {k : Nat} {o : Obj} (h : Has Z W k o) : k < W.heap.size := (Array.getElem?_eq_some_iff.1 h.1).1
/-- What was just made lies aside. -/
theorem Cl.new {w0 W : World} {Z : Own} {g : Nat} {D : DS} (h : Cl w0 W Z g D) (o : Obj) : Has Z (W.alloc o) W.heap.size o := ⟨heap_alloc_new W o, fun hs => absurd (h.dk.lt _ hs) (Nat.lt_irrefl _)⟩
theorem Has.bz {W : World} {Z : Own} {k : Nat} {E : TypeId} {zs : List Int} (h : Has Z W k (.cells (zs.map (Value.int .u8)).toArray E (0, 0))) (hz : IsBytes zs) (n : Nat) (hn : zs.length = n) (hl : n ≤ 9223372036854775807) : Bz Z W (some ⟨k, 0, none⟩) n n zs :=
  ⟨OwnB.bs (E := E) h.1 hz n hn hl, fun _ p hp => by cases hp; exact ⟨h.lt, h.2⟩⟩
theorem Has.nz {W : World} {Z : Own} {k : Nat} {E : TypeId} {zs : List Int} (h : Has Z W k (.cells (zs.map (Value.int .i64)).toArray E (0, 0))) (hz : AllK .i64 zs) (n : Nat) (hn : zs.length = n) (hl : n ≤ 9223372036854775807) : Nz .i64 Z W (some ⟨k, 0, none⟩) n n zs :=
  ⟨OwnN.ns (E := E) h.1 hz n hn hl, fun _ p hp => by cases hp; exact ⟨h.lt, h.2⟩⟩
/-- A variable that holds a value of one cell. -/
theorem Has.var {W : World} {Z : Own} {k : Nat} {E : TypeId} {v : Value} (h : Has Z W k (.cells #[v] E (0, 0))) : W.cell? ⟨k, 0, none⟩ = some v := cell_of_row W k 0 _ _ _ h.1

/-- The value '.slice a len cap', a slice of slices of bytes, reads in w as xs. -/
structure BBs (w : World) (a : Option Addr) (len cap : Nat) (xs : Nat → BV) : Prop where
  le_cap : len ≤ cap
  cap_le : cap ≤ 9223372036854775807
  item : ∀ i, i < len → (∃ b off, a = some ⟨b, off, none⟩ ∧ w.cell? ⟨b, off + i, none⟩ = some (xs i).v) ∧ Bs w (xs i).a (xs i).len (xs i).cap (xs i).zs
theorem BBs.below {w w' : World} {a : Option Addr} {len cap : Nat} {xs : Nat → BV} (h : BBs w a len cap xs) (hb : Below w.heap.size w w') : BBs w' a len cap xs := by
  refine ⟨h.le_cap, h.cap_le, fun i hi => ⟨?_, (h.item i hi).2.below hb⟩⟩
  obtain ⟨b, off, e, hc⟩ := (h.item i hi).1
  exact ⟨b, off, e, by rw [hb.cell (World.block_lt_of_cell? w _ hc)]; exact hc⟩
/-- What was there in w0 lies aside. -/
theorem Cl.bz {w0 W : World} {Z : Own} {g : Nat} {D : DS} (h : Cl w0 W Z g D) {a : Option Addr} {len cap : Nat} {zs : List Int} (hb : Bs w0 a len cap zs) : Bz Z W a len cap zs := by
  refine ⟨hb.below h.bel, fun h0 p hp => ?_⟩
  subst hp
  have hlt : p.block < w0.heap.size := by
    rcases hb.place with h1 | ⟨b, off, e, hc⟩
    · have := hb.le_cap; omega
    · simp only [Option.some.injEq] at e
      subst e
      exact World.block_lt_of_cell? w0 _ (hc 0 h0)
  exact ⟨Nat.lt_of_lt_of_le hlt h.size, fun hs => by have := h.frm _ hs; omega⟩
theorem Cl.nz {w0 W : World} {Z : Own} {g : Nat} {D : DS} (h : Cl w0 W Z g D) {a : Option Addr} {len cap : Nat} {zs : List Int} (hb : Ns .i64 w0 a len cap zs) : Nz .i64 Z W a len cap zs := by
  refine ⟨hb.below h.bel, fun h0 p hp => ?_⟩
  subst hp
  have hlt : p.block < w0.heap.size := by
    rcases hb.place with h1 | ⟨b, off, e, hc⟩
    · have := hb.le_cap; omega
    · simp only [Option.some.injEq] at e
      subst e
      exact World.block_lt_of_cell? w0 _ (hc 0 h0)
  exact ⟨Nat.lt_of_lt_of_le hlt h.size, fun hs => by have := h.frm _ hs; omega⟩

/-! ### The calls, as a caller has them -/
theorem Cl.read {w0 W : World} {Z : Own} {g : Nat} {D : DS} (h : Cl w0 W Z g D) (hl : ¬ D.left = 0) (hlim : D.tr.length < 1000000) (i : Nat) (hi : i < D.n) (sz : Nat) (zs : List Int) (hs : D.size = sz) (hz : fitL sz (D.blk i).1.zs = zs) :
    Calls Tryd.prog 14 #[.pointer (some ⟨g, 0, none⟩), .int .i64 (i : Int)] W fun e W' =>
      ∃ k Z', e = .returned (.slice (some ⟨k, 0, none⟩) sz sz) ∧ W.heap.size ≤ k ∧ Has Z' W' k (.cells (zs.map (Value.int .u8)).toArray 5 (0, 0)) ∧ Cl w0 W' Z' g (D.reads i) ∧ Step Z W Z' W' := by
  subst hs hz
  refine (read_at h.dk hl hlim i hi).mono ?_
  rintro e W' ⟨k, Z', rfl, h1, h2, h3, h4, h5⟩
  exact ⟨k, Z', rfl, h1, ⟨h3, h2⟩, h.step h5 h4, h5⟩
theorem Cl.write {w0 W : World} {Z : Own} {g : Nat} {D : DS} (h : Cl w0 W Z g D) (hl : ¬ D.left = 0) (hlim : D.tr.length < 1000000) (hlw : D.wait.length < 1000000) (i : Nat) (hi : i < D.n) {a : Option Addr} {len cap : Nat} {zs : List Int} (hx : Bz Z W a len cap zs) (ys : List Int) (hy : zs.take D.size = ys) :
    Calls Tryd.prog 13 #[.pointer (some ⟨g, 0, none⟩), .int .i64 (i : Int), .slice a len cap] W fun e W' =>
      ∃ Z' x, e = .returned (.tuple #[]) ∧ Hid (x.zs = ys) ∧ Cl w0 W' Z' g (D.writes i x) ∧ Step Z W Z' W' := by
  subst hy
  refine (write_at h.dk hl hlim hlw i hi hx).mono ?_
  rintro e W' ⟨Z', x, rfl, h1, h2, h3⟩
  exact ⟨Z', x, rfl, h1, h.step h3 h2, h3⟩
theorem Cl.stable {w0 W : World} {Z : Own} {g : Nat} {D : DS} (h : Cl w0 W Z g D) (i : Nat) (hi : i < D.n) (sz : Nat) (zs : List Int) (hs : D.size = sz) (hz : fitL sz (D.blk i).2.zs = zs) :
    Calls Tryd.prog 15 #[.pointer (some ⟨g, 0, none⟩), .int .i64 (i : Int)] W fun e W' =>
      e = .returned (.slice (some ⟨W.heap.size, 0, none⟩) sz sz) ∧ Has Z W' W.heap.size (.cells (zs.map (Value.int .u8)).toArray 5 (0, 0)) ∧ Cl w0 W' Z g D ∧ Below W.heap.size W W' := by
  subst hs hz
  refine (stable_at h.dk i hi).mono ?_
  rintro e W' ⟨rfl, h1, h2⟩
  exact ⟨rfl, ⟨h1, fun hs => absurd (h.dk.lt _ hs) (Nat.lt_irrefl _)⟩, h.below h2, h2⟩
theorem Cl.flush {w0 W : World} {Z : Own} {g : Nat} {D : DS} (h : Cl w0 W Z g D) (hl : ¬ D.left = 0) (hlim : D.tr.length < 1000000) :
    Calls Tryd.prog 17 #[.pointer (some ⟨g, 0, none⟩)] W fun e W' => ∃ Z', e = .returned (.tuple #[]) ∧ Cl w0 W' Z' g D.flush ∧ Step Z W Z' W' := by
  refine (flush_ok h.dk hl hlim).mono ?_
  rintro e W' ⟨Z', rfl, h1, h2⟩
  exact ⟨Z', rfl, h.step h2 h1, h2⟩
theorem Cl.cut {w0 W : World} {Z : Own} {g : Nat} {D : DS} (h : Cl w0 W Z g D) (hl : ¬ D.left = 0) (n : Int) (hn : -9223372036854775808 ≤ n ∧ n ≤ 9223372036854775807) :
    Calls Tryd.prog 19 #[.pointer (some ⟨g, 0, none⟩), .int .i64 n] W fun e W' => e = .returned (.tuple #[]) ∧ Cl w0 W' Z g { D with left := n } ∧ Step Z W Z W' := by
  obtain ⟨gb, wv, tv, hd⟩ := h.dk
  refine (cut_ok hd hl n hn).mono ?_
  rintro e W' ⟨rfl, h1, h2⟩
  exact ⟨rfl, h.step h2 ⟨gb, wv, tv, h1⟩, h2⟩
theorem Cl.crash {w0 W : World} {Z : Own} {g : Nat} {D : DS} (h : Cl w0 W Z g D) (hlim : D.tr.length < 1000000) {a : Option Addr} {len cap : Nat} {ch : List Int} (hx : Nz .i64 Z W a len cap ch) :
    Calls Tryd.prog 24 #[.pointer (some ⟨g, 0, none⟩), .slice a len cap] W fun e W' =>
      ∃ Z' b, e = .returned (.tuple #[]) ∧ Hid (zOf b = crashN D.size ch (zOf D.blk) (wz D.wait)) ∧ Cl w0 W' Z' g (D.crash b) ∧ Step Z W Z' W' := by
  refine (crash_any h.dk hlim hx).mono ?_
  rintro e W' ⟨Z', b, rfl, h1, h2, h3⟩
  exact ⟨Z', b, rfl, h1, h.step h3 h2, h3⟩
theorem Cl.trace {w0 W : World} {Z : Own} {g : Nat} {D : DS} (h : Cl w0 W Z g D) (hlim : D.tr.length < 1000000) (n sz : Nat) (hn : D.tr.length = n) (hs : D.size = sz) :
    Calls Tryd.prog 16 #[.pointer (some ⟨g, 0, none⟩)] W fun e W' =>
      e = .returned (.slice (some ⟨W.heap.size, 0, none⟩) n n) ∧ Tr Z W' W.heap.size n sz D.tr ∧ Cl w0 W' Z g D ∧ Below W.heap.size W W' := by
  subst hn hs
  refine (trace_any h.dk hlim).mono ?_
  rintro e W' ⟨rfl, h1, h2⟩
  exact ⟨rfl, h1, h.below h2, h2⟩

set_option maxHeartbeats 1000000 in
theorem awake1_no {w0 W : World} {Z : Own} {g dv : Nat} {D : DS} {p : Addr} (h : Cl w0 W Z g D) (hp : Pow p w0) (hl : D.left = 0) (hd : Has Z W dv (.cells #[.pointer (some ⟨g, 0, none⟩)] 24 (0, 0))) :
    Calls Tryd.prog 30 #[.pointer (some ⟨dv, 0, none⟩)] W fun e w' => e = .panicked [{ v := errV p, recovered := false }] ∧ W = w' := by
  have c := hd.var
  have hF := flush_no h.dk (h.pow hp) hl
  clear h hd hp
  go_enter Tryd.func30, Tryd.ntmps30
  go_wp2_with fail
  refine hF.mono ?_
  rintro e w1 ⟨rfl, rfl⟩
  go_wp2_with fail
  exact ⟨rfl, rfl, rfl⟩
theorem awake2_ok (w : World) : Calls Tryd.prog 31 #[] w fun e w' => e = .returned (.tuple #[]) ∧ w = w' := by
  go_enter Tryd.func31, Tryd.ntmps31
  go_wp2_with fail
  refine bodyPost_end (results_none rfl _ _ _) rfl ?_
  exact ⟨rfl, rfl⟩

set_option maxRecDepth 100000 in
set_option maxHeartbeats 4000000 in
theorem awake_any {p : Addr} (w : World) (hp : Pow p w) : Calls Tryd.prog 9 #[] w fun e w' => e = .returned (.bool true) ∧ Below w.heap.size w w' := by
  have h0 := hp.lt
  go_enter Tryd.func9, Tryd.ntmps9
  go_wp2_with fail
  refine (new_any 3 2 3 2 rfl rfl w).mono ?_
  rintro e W ⟨g, Z, rfl, hD, hF, hB⟩
  have C : Cl w W Z g (DS.new 3 2) := ⟨hD, hF, hB⟩
  have V := C.new (.cells #[.pointer (some ⟨g, 0, none⟩)] 24)
  replace C := C.alloc (.cells #[.pointer (some ⟨g, 0, none⟩)] 24)
  clear hD hF hB
  go_wp2_with fail
  have hWs : (W.alloc (.cells #[.pointer (some ⟨g, 0, none⟩)] 24)).heap.size = W.heap.size + 1 := size_alloc _ _
  generalize (W.alloc (.cells #[.pointer (some ⟨g, 0, none⟩)] 24)) = W0 at *
  generalize W.heap.size = dv at *
  have L := C.new (.cells #[.int .u8 7, .int .u8 8, .int .u8 9] 5)
  rw [hWs] at L
  have b := L.bz (zs := [7, 8, 9]) (by unfold IsBytes; decide) 3 rfl (by omega)
  replace C := C.alloc (.cells #[.int .u8 7, .int .u8 8, .int .u8 9] 5)
  replace V := V.alloc (.cells #[.int .u8 7, .int .u8 8, .int .u8 9] 5)
  refine (C.write (of_decide_eq_true rfl) (of_decide_eq_true rfl) (of_decide_eq_true rfl) 1 (of_decide_eq_true rfl) b [7, 8] rfl).mono ?_
  rintro e W1 ⟨Z1, x1, rfl, hx1, C1, s1⟩
  replace V := V.step s1
  clear L b s1 hWs C
  have c := V.var
  go_wp2_with fail
  refine (C1.read (of_decide_eq_true rfl) (of_decide_eq_true rfl) 1 (of_decide_eq_true rfl) 2 [7, 8] rfl (by show fitL 2 x1.zs = _; rw [hx1.out]; rfl)).mono ?_
  rintro e W2 ⟨ka, Z2, rfl, _, A, C, s2⟩
  replace V := V.step s2
  clear s2 c C1
  have c := V.var
  go_wp2_with fail
  have L := C.new (.cells #[.int .u8 1] 5)
  have b := L.bz (zs := [1]) (by unfold IsBytes; decide) 1 rfl (by omega)
  replace C := C.alloc (.cells #[.int .u8 1] 5)
  replace V := V.alloc (.cells #[.int .u8 1] 5)
  replace A := A.alloc (.cells #[.int .u8 1] 5)
  refine (C.write (of_decide_eq_true rfl) (of_decide_eq_true rfl) (of_decide_eq_true rfl) 2 (of_decide_eq_true rfl) b [1] rfl).mono ?_
  rintro e W3 ⟨Z3, x3, rfl, hx3, C3, s3⟩
  replace V := V.step s3
  replace A := A.step s3
  clear L b s3 c C
  have c := V.var
  go_wp2_with fail
  refine (C3.cut (of_decide_eq_true rfl) 0 (by omega)).mono ?_
  rintro e W4 ⟨rfl, C, s4⟩
  replace V := V.step s4
  replace A := A.step s4
  clear s4 c C3
  have c := V.var
  have hmf : ∀ (fn : Fn) (first cap : Array Value) (w : World), (Instr.makeFunc fn first cap).run Tryd.prog w = .ok (.func fn first cap) w := fun _ _ _ _ => rfl
  have e1 : ∀ args w, (callFunc 30 args).run Tryd.prog w = .ok (.enter 30 args) w := enters_of Tryd.func30 (by kernel_rfl) rfl
  have e2 : ∀ args w, (callFunc 31 args).run Tryd.prog w = .ok (.enter 31 args) w := enters_of Tryd.func31 (by kernel_rfl) rfl
  have HT := hide (try_no e1 (awake1_no C hp rfl V) (fun w' h => by subst h; exact C.pow hp))
  go_wp2_with fail
  refine HT.out.mono ?_
  rintro e W5 ⟨rfl, rfl⟩
  clear HT
  go_wp2_with fail
  have L := C.new (.cells #[.int .i64 2, .int .i64 1] 3)
  have b := L.nz (zs := [2, 1]) (by unfold AllK; decide) 2 rfl (by omega)
  replace C := C.alloc (.cells #[.int .i64 2, .int .i64 1] 3)
  replace V := V.alloc (.cells #[.int .i64 2, .int .i64 1] 3)
  replace A := A.alloc (.cells #[.int .i64 2, .int .i64 1] 3)
  refine (C.crash (of_decide_eq_true rfl) b).mono ?_
  rintro e W6 ⟨Z6, bk, rfl, hbk, C6, s6⟩
  replace V := V.step s6
  replace A := A.step s6
  have H1 : Hid (fitL 2 (bk 1).1.zs = [162, 173]) := by
    have h1 := congrFun hbk.out 1
    have h2 : (bk 1).1.zs = badL (fitL 2 x1.zs) := congrArg Prod.fst h1
    refine hide ?_
    rw [h2, hx1.out]
    rfl
  have H2 : Hid (fitL 2 (bk 2).2.zs = [0, 0]) := by
    have h1 := congrFun hbk.out 2
    have h2 : (bk 2).2.zs = [] := congrArg Prod.snd h1
    refine hide ?_
    rw [h2]
    rfl
  clear L b s6 c C hbk
  have c := V.var
  go_wp2_with fail
  refine (C6.read (of_decide_eq_true rfl) (of_decide_eq_true rfl) 1 (of_decide_eq_true rfl) 2 [162, 173] rfl H1.out).mono ?_
  rintro e W7 ⟨kb, Z7, rfl, _, B, C, s7⟩
  replace V := V.step s7
  replace A := A.step s7
  clear s7 c C6
  have c := V.var
  go_wp2_with fail
  refine (C.trace (of_decide_eq_true rfl) 5 2 rfl rfl).mono ?_
  rintro e W8 ⟨rfl, T8, C8, b8⟩
  replace V := V.below b8
  replace A := A.below b8
  replace B := B.below b8
  clear b8 c C
  have c := V.var
  obtain ⟨v3, r3, _⟩ := T8.ev 3 ⟨4, 0, [], BV.nil⟩ rfl
  obtain ⟨v0, r0, h0⟩ := T8.ev 0 ⟨2, 1, x1.zs, x1⟩ rfl
  have k3 : W8.cell? ⟨W7.heap.size, 45, none⟩ = some (.int .i64 4) := r3 0 _ rfl
  have k0 : W8.cell? ⟨W7.heap.size, 14, none⟩ = some v0.v := r0 14 _ (evL_14 _ _ _ _ (fitL_length _ _))
  obtain ⟨m, rfl, hm, hmS, hO⟩ : ∃ m, v0 = ⟨some ⟨m, 0, none⟩, 2, 2, fitL 2 x1.zs⟩ ∧ W7.heap.size < m ∧ ¬ Z7.S m ∧ OwnB 5 W8 m (fitL 2 x1.zs) := by
    rcases h0 with ⟨_, h0⟩ | ⟨h0, _⟩
    · exact h0
    · exact absurd rfl h0
  have e8 : fitL 2 x1.zs = [7, 8] := by rw [hx1.out]; rfl
  rw [e8] at hO
  have km : W8.cell? ⟨m, 1, none⟩ = some (.int .u8 8) := hO.cell 1 (by decide)
  have sA := str_bytes (OwnB.bs (E := 5) A.1 (by unfold IsBytes; decide) 2 rfl (by omega))
  have sB := str_bytes (OwnB.bs (E := 5) B.1 (by unfold IsBytes; decide) 2 rfl (by omega))
  have lt3 := World.block_lt_of_cell? W8 _ k3
  have ltm := World.block_lt_of_cell? W8 _ km
  have HS := hide (C8.stable 2 (of_decide_eq_true rfl) 2 [0, 0] rfl H2.out)
  have HT := hide (try_ok e2 (awake2_ok W8))
  have eA : strOfNums [7, 8] = { data := #[7, 8] } := by rfl
  have eB : strOfNums [162, 173] = { data := #[162, 173] } := by rfl
  have eS : strOfNums [0, 0] = { data := #[0, 0] } := by rfl
  rw [eA] at sA
  rw [eB] at sB
  clear T8 r3 r0 h0 hO A B hm hmS e8 V eA eB H1 H2 hx1 hx3
  go_wp2_with fail
  refine HS.out.mono ?_
  rintro e W9 ⟨rfl, S9, C9, b9⟩
  have sS := str_bytes (OwnB.bs (E := 5) S9.1 (by unfold IsBytes; decide) 2 rfl (by omega))
  rw [eS] at sS
  replace k3 := (b9.cell lt3).trans k3
  replace k0 : W9.cell? ⟨W7.heap.size, 14, none⟩ = some (.slice (some ⟨m, 0, none⟩) 2 2) := (b9.cell (p := ⟨W7.heap.size, 14, none⟩) lt3).trans k0
  replace km := (b9.cell ltm).trans km
  have HT := hide (try_ok e2 (awake2_ok W9))
  have hB9 := C9.bel
  clear HS C8 C9 S9 b9 sA sB c
  go_wp2_with fail
  refine HT.out.mono ?_
  rintro e W10 ⟨rfl, rfl⟩
  go_wp2_with fail
  go_ret
  exact ⟨rfl, hB9⟩
#print axioms awake_any
end Go.Proofs.YtlicafjhkbofbaaDoor
