
/- Several texts in one, in the order in which they lean on each other; what each says stands at its head. No conditions but those that each line states. -/
import Derived.Test.YtlfcejfpdgdnkaaDoorXDisk
import Derived.Test.YtlfcejfpdgdnkaaDoorXBase
import Derived.Deep.MidRow
import Derived.Test.YtlfcejfpdgdnkaaDoorXSeal
/- A device as a caller has it, at any places: what is read and written there; what stays while a block beside it turns, too; loads of arrays that lie in the middle of a block, in drawn regions. No conditions but those that each line states. -/
namespace Go.Proofs.YtlfcejfpdgdnkaaDoor
open Go.RowKit
set_option maxRecDepth 20000

/-! ### Any place -/
def DS.puts (D : DS) (i : Int) (x : BV) : DS := if hasI D.n i = true then D.writes i.toNat x else D.loses i x
def DS.asks (D : DS) (i : Int) : DS := if hasI D.n i = true then D.reads i.toNat else D.misses i
/-- What is read there. -/
def DS.shows (D : DS) (i : Int) : List Int := if hasI D.n i = true then fitL D.size (D.blk i.toNat).1.zs else []
theorem hasI_yes {n : Nat} {i : Int} (h : hasI n i = true) : i = (i.toNat : Int) ∧ i.toNat < n := by
  simp only [hasI, Bool.and_eq_true, decide_eq_true_eq] at h
  omega
theorem puts_len (D : DS) (i : Int) (x : BV) : (D.puts i x).tr.length = D.tr.length + 1 := by
  unfold DS.puts
  split <;> (show (D.tr ++ [_]).length = _; simp)
theorem asks_len (D : DS) (i : Int) : (D.asks i).tr.length = D.tr.length + 1 := by
  unfold DS.asks
  split <;> (show (D.tr ++ [_]).length = _; simp)
theorem puts_tr (D : DS) (i : Int) (x : BV) : (D.puts i x).tr = D.tr ++ [⟨2, i, x.zs, x⟩] := by
  unfold DS.puts
  split
  · rename_i h
    show D.tr ++ [_] = _
    rw [← (hasI_yes h).1]
  · rfl
theorem puts_is (D : DS) (i : Int) (x : BV) : (D.puts i x).size = D.size ∧ (D.puts i x).n = D.n ∧ (D.puts i x).left = spendL D.left := by
  unfold DS.puts
  split <;> exact ⟨rfl, rfl, rfl⟩
theorem asks_is (D : DS) (i : Int) : (D.asks i).size = D.size ∧ (D.asks i).n = D.n ∧ (D.asks i).left = spendL D.left ∧ (D.asks i).wait = D.wait ∧ (D.asks i).blk = D.blk := by
  unfold DS.asks
  split <;> exact ⟨rfl, rfl, rfl, rfl, rfl⟩
theorem puts_wait (D : DS) (i : Int) (x : BV) : (D.puts i x).wait.length ≤ D.wait.length + 1 := by
  unfold DS.puts
  split
  · show (D.wait ++ [_]).length ≤ _; simp
  · exact Nat.le_succ _
theorem Cl.put {w0 W : World} {Z : Own} {g : Nat} {D : DS} (h : Cl w0 W Z g D) (hl : ¬ D.left = 0) (hlim : D.tr.length < 1000000) (hlw : D.wait.length < 1000000) (i : Int) {a : Option Addr} {len cap : Nat} {zs : List Int} (hx : Bz Z W a len cap zs) (ys : List Int) (hy : zs.take D.size = ys) :
    Calls Tryd.prog 33 #[.pointer (some ⟨g, 0, none⟩), .int .i64 i, .slice a len cap] W fun e W' =>
      ∃ Z' x, e = .returned (.tuple #[]) ∧ Hid (x.zs = ys) ∧ Cl w0 W' Z' g (D.puts i x) ∧ Step Z W Z' W' := by
  unfold DS.puts
  by_cases hi : hasI D.n i = true
  · obtain ⟨e1, e2⟩ := hasI_yes hi
    have := h.write hl hlim hlw i.toNat e2 hx ys hy
    rw [← e1] at this
    simp only [hi, if_true]
    exact this
  · simp only [hi]
    subst hy
    refine (write_out h.dk hl hlim i (by simpa using hi) hx).mono ?_
    rintro e W' ⟨Z', x, rfl, h1, h2, h3⟩
    exact ⟨Z', x, rfl, h1, h.step h3 h2, h3⟩
theorem Cl.ask {w0 W : World} {Z : Own} {g : Nat} {D : DS} (h : Cl w0 W Z g D) (hl : ¬ D.left = 0) (hlim : D.tr.length < 1000000) (i : Int) :
    Calls Tryd.prog 35 #[.pointer (some ⟨g, 0, none⟩), .int .i64 i] W fun e W' =>
      ∃ Z' p c, e = .returned (.slice p (D.shows i).length c) ∧ Bz Z' W' p (D.shows i).length c (D.shows i) ∧ Cl w0 W' Z' g (D.asks i) ∧ Step Z W Z' W' := by
  unfold DS.asks DS.shows
  by_cases hi : hasI D.n i = true
  · obtain ⟨e1, e2⟩ := hasI_yes hi
    obtain ⟨gb, wv, tv, hd⟩ := h.dk
    have hb := fitL_bytes D.size (hd.okb i.toNat e2).1.bs.bytes
    have hs := hd.size
    have := h.read hl hlim i.toNat e2 D.size _ rfl rfl
    rw [← e1] at this
    simp only [hi, if_true, fitL_length]
    refine this.mono ?_
    rintro e W' ⟨k, Z', rfl, -, hk, C, s⟩
    exact ⟨Z', _, _, rfl, hk.bz hb _ (fitL_length _ _) (by omega), C, s⟩
  · simp only [hi]
    refine (read_out h.dk hl hlim i (by simpa using hi)).mono ?_
    rintro e W' ⟨Z', rfl, h1, h2⟩
    exact ⟨Z', none, 0, rfl, ⟨Bs.nil _, fun _ p hp => by cases hp⟩, h.step h2 h1, h2⟩
theorem Cl.size_is {w0 W : World} {Z : Own} {g : Nat} {D : DS} (h : Cl w0 W Z g D) : Calls Tryd.prog 32 #[.pointer (some ⟨g, 0, none⟩)] W fun e W' => e = .returned (.int .i64 (D.size : Int)) ∧ W = W' := by
  obtain ⟨gb, wv, tv, hd⟩ := h.dk
  exact size_any hd
theorem Cl.size_le {w0 W : World} {Z : Own} {g : Nat} {D : DS} (h : Cl w0 W Z g D) : D.size ≤ 60000 := by
  obtain ⟨gb, wv, tv, hd⟩ := h.dk
  exact hd.size

/-! ### A block beside a device that turns with it -/
theorem Step.wide {Z Z' : Own} {W W' : World} (s : Step Z W Z' W') (k : Nat) : Step (Z.also k) W (Z'.also k) W' :=
  ⟨s.os, s.tape, s.output, s.size, fun i hi hn => s.block i hi (fun h => hn (.inl h)), fun i hi => by
    rcases hi with h | h
    · rcases s.fresh i h with h1 | h1
      · exact .inl (.inl h1)
      · exact .inr h1
    · exact .inl (.inr h)⟩
theorem Step.only {Z : Own} {W W' : World} {k : Nat} (o : OnlyAt k W W') : Step (Z.also k) W (Z.also k) W' :=
  ⟨o.os, o.tape, o.output, Nat.le_of_eq o.size.symm, fun i _ hn => o.block i (fun e => hn (.inr e)), fun _ h => .inl h⟩
theorem Has.beside {W W' : World} {Z Z' : Own} {k i : Nat} {o : Obj} (h : Has Z W k o) (s : Step (Z.also i) W (Z'.also i) W') (hk : k ≠ i) : Has Z' W' k o := by
  have h2 : Has (Z.also i) W k o := ⟨h.1, fun hs => hs.elim h.2 hk⟩
  have h3 := h2.step s
  exact ⟨h3.1, fun hs => h3.2 (.inl hs)⟩
theorem Bz.beside {Z Z' : Own} {W W' : World} {i : Nat} {a : Option Addr} {len cap : Nat} {zs : List Int} (h : Bz Z W a len cap zs) (s : Step (Z.also i) W (Z'.also i) W') (hk : 0 < len → ∀ p, a = some p → p.block ≠ i) : Bz Z' W' a len cap zs := by
  have h2 : Bz (Z.also i) W a len cap zs := ⟨h.bs, fun h0 p hp => ⟨(h.out h0 p hp).1, fun hs => hs.elim (h.out h0 p hp).2 (hk h0 p hp)⟩⟩
  have h3 := h2.step s
  exact ⟨h3.bs, fun h0 p hp => ⟨(h3.out h0 p hp).1, fun hs => (h3.out h0 p hp).2 (.inl hs)⟩⟩

/-! ### Arrays in the middle of a block -/
section
variable {P : Program} {Q : Exit → Act → World → Prop} {md : Region.Mode} {R : World → World → Prop} {l : List Oper} {k : Nat} {rest : List Nat} {o : Oper} {a : Act} {w : World}
theorem exec_loadM (ty : TypeId) (x : Operand) (hop : o.op = .load ty x) (b j : Nat) (hx : a.eval x = .pointer (some ⟨b, j, none⟩)) (cs : List Value) (d : TypeDesc) (hT : w.rangeAt b j cs) (hu : P.underlying ty = some d) (hd : d.isRow = true) (hi : (P.info? ty).map (·.size) = some cs.length) :
    (execOp a.eval o).run P w = .ok (.value (.agg cs.toArray)) w := by
  unfold execOp
  simp only [hop, hx, Instr.loadAt, Instr.sureAddr, Sem.run_bind, Sem.run_pure, Result.andThen_ok, run_loadVar_mid w b j ty cs d hT hu hd hi]
theorem wpRel_loadM (ho : l[k]? = some o) (hst : stepOp o = false) (ty : TypeId) (x : Operand) (hop : o.op = .load ty x) (b j : Nat) (hx : a.eval x = .pointer (some ⟨b, j, none⟩)) (cs : List Value) (d : TypeDesc) (hT : ∀ w', R w w' → w'.rangeAt b j cs) (hu : P.underlying ty = some d) (hd : d.isRow = true) (hi : (P.info? ty).map (·.size) = some cs.length)
    (hQ : ∀ c a w, Q (.panic c) (a.put o.dst (.agg cs.toArray)) w → Q (.panic c) a w) (hw : Region.wanted o (yielded l.toArray a.tmps) = true)
    (h : wpRel P md l.toArray Q R rest (a.put o.dst (.agg cs.toArray)) w) : wpRel P md l.toArray Q R (k :: rest) a w :=
  wpRel_quiet ho hst hQ hw (fun w' hw' => exec_loadM ty x hop b j hx cs d (hT w' hw') hu hd hi) h
end
/-- The head of what was done. -/
theorem Tr.head {Z : Own} {w : World} {te n size : Nat} {l : List Ev} (h : Tr Z w te n size l) (i : Nat) (e : Ev) (he : l[i]? = some e) : w.rangeAt te (15 * i + 2) ((fitL 12 e.head).map (Value.int .u8)) := by
  obtain ⟨v, hv, -⟩ := h.ev i e he
  intro j u hu
  have hj : j < (fitL 12 e.head).length := by
    rcases Nat.lt_or_ge j (fitL 12 e.head).length with h1 | h1
    · exact h1
    · rw [List.getElem?_eq_none (by simpa using h1)] at hu; cases hu
  have h2 := hv (2 + j) _ (evL_head _ _ _ _ (fitL_length _ _) j (by rw [fitL_length] at hj; exact hj))
  rw [Nat.add_assoc, h2]
  simpa [hj, List.getD] using hu
#print axioms Cl.put
#print axioms Cl.ask
end Go.Proofs.YtlfcejfpdgdnkaaDoor

/- What calls of package pen do: for every device and every pen in memory. No conditions but those that each line states. -/
namespace Go.Proofs.YtlfcejfpdgdnkaaDoor
open Go.RowKit
set_option maxRecDepth 20000

/-! ### A pen in memory -/
def penL (g : Nat) (key : List Int) (boot seq : Int) : List Value := .pointer (some ⟨g, 0, none⟩) :: (key.map (Value.int .u8) ++ [.int .u32 boot, .int .u64 seq])
theorem penL_key (g : Nat) (key : List Int) (boot seq : Int) (i : Nat) (h : i < key.length) : (penL g key boot seq)[1 + i]? = some (.int .u8 (key.getD i 0)) := by
  unfold penL
  rw [Nat.add_comm, List.getElem?_cons_succ, List.getElem?_append_left (by simpa using h)]
  simp [h, List.getD]
theorem penL_33 (g : Nat) (key : List Int) (boot seq : Int) (h : key.length = 32) : (penL g key boot seq)[33]? = some (.int .u32 boot) := by
  unfold penL
  rw [show 33 = 32 + 1 by omega, List.getElem?_cons_succ, List.getElem?_append_right (by simp [h])]
  simp [h]
theorem penL_34 (g : Nat) (key : List Int) (boot seq : Int) (h : key.length = 32) : (penL g key boot seq)[34]? = some (.int .u64 seq) := by
  unfold penL
  rw [show 34 = 33 + 1 by omega, List.getElem?_cons_succ, List.getElem?_append_right (by simp [h])]
  simp [h]
theorem penL_set (g : Nat) (key : List Int) (boot seq s : Int) (h : key.length = 32) : (penL g key boot seq).set 34 (.int .u64 s) = penL g key boot s := by
  unfold penL
  rw [show 34 = 33 + 1 by omega, List.set_cons_succ, List.set_append_right _ _ (by simp [h])]
  simp [h]

/-- A pen on the device at g, made since w0; it lies aside of what is the device's own. -/
structure Pn (w0 : World) (Z : Own) (W : World) (gp g : Nat) (key : List Int) (boot seq : Int) : Prop where
  at_ : Has Z W gp (.cells (penL g key boot seq).toArray 65 (0, 0))
  frm : w0.heap.size ≤ gp
  kb : IsBytes key
  kl : key.length = 32
  bt : 0 ≤ boot ∧ boot < 4294967296
  sq : 0 ≤ seq ∧ seq < 18446744073709551616
section
variable {w0 W W' : World} {Z Z' : Own} {g gp : Nat} {D : DS} {key : List Int} {boot seq : Int}
theorem Pn.cell (P : Pn w0 Z W gp g key boot seq) (j : Nat) : W.cell? ⟨gp, j, none⟩ = (penL g key boot seq)[j]? := by
  rw [cell_of_row W gp j _ _ _ P.at_.1]; simp
theorem Pn.c0 (P : Pn w0 Z W gp g key boot seq) : W.cell? ⟨gp, 0, none⟩ = some (.pointer (some ⟨g, 0, none⟩)) := P.cell 0
theorem Pn.c33 (P : Pn w0 Z W gp g key boot seq) : W.cell? ⟨gp, 33, none⟩ = some (.int .u32 boot) := by rw [P.cell, penL_33 _ _ _ _ P.kl]
theorem Pn.c34 (P : Pn w0 Z W gp g key boot seq) : W.cell? ⟨gp, 34, none⟩ = some (.int .u64 seq) := by rw [P.cell, penL_34 _ _ _ _ P.kl]
theorem Pn.froz (P : Pn w0 Z W gp g key boot seq) (j : Nat) : W.frozen? ⟨gp, j, none⟩ = false := frozen_of_row W gp j _ _ P.at_.1
theorem Pn.keys (P : Pn w0 Z W gp g key boot seq) : W.rangeAt gp 1 (key.map (Value.int .u8)) := fun j v hv => by
  have hj : j < key.length := by
    rcases Nat.lt_or_ge j key.length with h | h
    · exact h
    · rw [List.getElem?_eq_none (by simpa using h)] at hv; cases hv
  rw [P.cell, penL_key _ _ _ _ _ hj]
  simpa [hj, List.getD] using hv
theorem Pn.lt (P : Pn w0 Z W gp g key boot seq) : gp < W.heap.size := P.at_.lt
theorem Pn.below (P : Pn w0 Z W gp g key boot seq) (b : Below W.heap.size W W') : Pn w0 Z W' gp g key boot seq := ⟨P.at_.below b, P.frm, P.kb, P.kl, P.bt, P.sq⟩
theorem Pn.step (P : Pn w0 Z W gp g key boot seq) (s : Step Z W Z' W') : Pn w0 Z' W' gp g key boot seq := ⟨P.at_.step s, P.frm, P.kb, P.kl, P.bt, P.sq⟩
theorem Pn.alloc (P : Pn w0 Z W gp g key boot seq) (o : Obj) : Pn w0 Z (W.alloc o) gp g key boot seq := P.below (below_alloc (Below.refl _ _) o)
theorem Pn.drew (P : Pn w0 Z W gp g key boot seq) : Pn w0 Z W.drew gp g key boot seq := P.below (Below.refl _ _).drew
theorem Pn.kept (P : Pn w0 Z W gp g key boot seq) (b : KeptBut Z.S W W') : Pn w0 Z W' gp g key boot seq := ⟨⟨(b.2 gp P.lt P.at_.2).trans P.at_.1, P.at_.2⟩, P.frm, P.kb, P.kl, P.bt, P.sq⟩
theorem Pn.beside {i : Nat} (P : Pn w0 Z W gp g key boot seq) (s : Step (Z.also i) W (Z'.also i) W') (hi : gp ≠ i) : Pn w0 Z' W' gp g key boot seq := ⟨P.at_.beside s hi, P.frm, P.kb, P.kl, P.bt, P.sq⟩
theorem Pn.next (P : Pn w0 Z W gp g key boot seq) (s : Int) (hs : 0 ≤ s ∧ s < 18446744073709551616) : Pn w0 Z (W.setCell ⟨gp, 34, none⟩ (.int .u64 s)) gp g key boot s := by
  refine ⟨⟨?_, P.at_.2⟩, P.frm, P.kb, P.kl, P.bt, hs⟩
  rw [heap_setCell_same W gp 34 _ _ _ P.at_.1]
  simp only [List.setIfInBounds_toArray, penL_set _ _ _ _ _ P.kl]
theorem Cl.open_new {w0 W : World} {Z : Own} {g : Nat} {D : DS} (h : Cl w0 W Z g D) (key : List Int) {a : Option Addr} {len cap : Nat} {zs : List Int} (hk : IsBytes key) (hkl : key.length = 32) (hb : Bs W a len cap zs) (hl : len ≤ 90022) (hg : Glob W) :
    Calls Tryd.prog 34 #[.agg (bV key), .slice a len cap] W fun e W' => ∃ p c, e = .returned (.tuple #[.slice p (openR key zs).length c, .int .u32 (openBoot key zs), .int .u64 (openSeq key zs), .bool (openB key zs)]) ∧ Bz Z W' p (openR key zs).length c (openR key zs) ∧ Below W.heap.size W W' ∧ (∀ b, p = some b → W.heap.size ≤ b.block) := by
  have hz := hb.length
  refine (open_any key W hk hkl hb hl hg).mono ?_
  rintro e W' ⟨hb', (⟨us, k, ho, rfl, hge, hO⟩ | ⟨ho, rfl⟩)⟩
  · obtain ⟨e1, e2, e3, e4⟩ := openR_some ho
    rw [e1, e2, e3, e4]
    exact ⟨_, _, rfl, ⟨hO.bs (openL_bytes hb.bytes ho) _ rfl (by have := openL_short ho; omega), fun _ p hp => by cases hp; exact ⟨hO.lt, fun hs => absurd (h.dk.lt _ hs) (Nat.not_lt.2 hge)⟩⟩, hb', fun b hp => by cases hp; exact hge⟩
  · obtain ⟨e1, e2, e3, e4⟩ := openR_none ho
    rw [e1, e2, e3, e4]
    exact ⟨_, _, rfl, ⟨Bs.nil _, fun _ p hp => by cases hp⟩, hb', fun b hp => by cases hp⟩
theorem Cl.open {w0 W : World} {Z : Own} {g : Nat} {D : DS} (h : Cl w0 W Z g D) (key : List Int) {a : Option Addr} {len cap : Nat} {zs : List Int} (hk : IsBytes key) (hkl : key.length = 32) (hb : Bs W a len cap zs) (hl : len ≤ 90022) (hg : Glob W) :
    Calls Tryd.prog 34 #[.agg (bV key), .slice a len cap] W fun e W' => ∃ p c, e = .returned (.tuple #[.slice p (openR key zs).length c, .int .u32 (openBoot key zs), .int .u64 (openSeq key zs), .bool (openB key zs)]) ∧ Bz Z W' p (openR key zs).length c (openR key zs) ∧ Below W.heap.size W W' := by
  refine (h.open_new key hk hkl hb hl hg).mono ?_
  rintro e W' ⟨p, c, h1, h2, h3, -⟩
  exact ⟨p, c, h1, h2, h3⟩

theorem built_pen (g : Nat) (key : List Int) (boot : Int) (hk : key.length = 32) : Tryd.prog.built 65 [(0, .pointer (some ⟨g, 0, none⟩)), (1, .agg (bV key)), (2, .int .u32 boot)] = some (penL g key boot 0).toArray := by
  match key, hk with
  | [k0, k1, k2, k3, k4, k5, k6, k7, k8, k9, k10, k11, k12, k13, k14, k15, k16, k17, k18, k19, k20, k21, k22, k23, k24, k25, k26, k27, k28, k29, k30, k31], _ =>
    show (_ : Option (Array Value)) = _; kernel_rfl

set_option maxHeartbeats 1000000 in
theorem pen_new (h : Cl w0 W Z g D) (hk : IsBytes key) (hkl : key.length = 32) (hb : 0 ≤ boot ∧ boot < 4294967296) :
    Calls Tryd.prog 8 #[.pointer (some ⟨g, 0, none⟩), .agg (bV key), .int .u32 boot] W fun e W' => ∃ gp, e = .returned (.pointer (some ⟨gp, 0, none⟩)) ∧ W.heap.size ≤ gp ∧ Pn w0 Z W' gp g key boot 0 ∧ Below W.heap.size W W' := by
  have n1 := heap_alloc_new W (Obj.cells (bV key) 29)
  have b1 := below_alloc (Below.refl W.heap.size W) (Obj.cells (bV key) 29)
  have n2 := heap_alloc_new (W.alloc (Obj.cells (bV key) 29)) (Obj.cells (penL g key boot 0).toArray 65)
  have b2 := below_alloc b1 (Obj.cells (penL g key boot 0).toArray 65)
  rw [size_alloc] at n2
  have hB := built_pen g key boot hkl
  have hsz := h.size
  have hlt := h.dk.lt
  go_enter Tryd.func8, Tryd.ntmps8
  go_wp2_with (first
    | (refine wpList_loadA arrT32 (by rfl) _ (by rfl) W.heap.size (by rfl) (bV key) n1 (by rw [bV_size, hkl]) ?_)
    | (refine wpList_build_at rfl 65 _ rfl [(0, .pointer (some ⟨g, 0, none⟩)), (1, .agg (bV key)), (2, .int .u32 boot)] (by kernel_rfl) (penL g key boot 0).toArray hB ?_))
  go_ret
  exact ⟨_, rfl, Nat.le_succ _, ⟨⟨n2, fun hs => absurd (hlt _ hs) (by omega)⟩, by omega, hk, hkl, hb, by omega⟩, b2⟩

set_option maxHeartbeats 1000000 in
theorem pen_write (h : Cl w0 W Z g D) (P : Pn w0 Z W gp g key boot seq) (hq : Glob w0) (hl : ¬ D.left = 0) (hlim : D.tr.length < 1000000) (hlw : D.wait.length < 1000000) (hs : seq < 18446744073709551615) (i : Int) {a : Option Addr} {len cap : Nat} {zs : List Int} (hz : Bs W a len cap zs) (m : Nat) (hsz : D.size = m + 22) (hlen : len ≤ m) :
    Calls Tryd.prog 24 #[.pointer (some ⟨gp, 0, none⟩), .int .i64 i, .slice a len cap] W fun e W' => ∃ Z' x, e = .returned (.bool true) ∧ Hid (x.zs = sealL key boot seq zs m) ∧ Cl w0 W' Z' g (D.puts i x) ∧ Pn w0 Z' W' gp g key boot (seq + 1) ∧ Step (Z.also gp) W (Z'.also gp) W' := by
  have hsl := h.size_le
  have hw : IntKind.u64.wrap (seq + 1) = seq + 1 := by have := P.sq; rw [wrap_u64]; omega
  have hgW : Glob W := hq.below h.bel hq.lt
  go_enter Tryd.func24, Tryd.ntmps24
  go_wp2_with fail
  refine wp_region_rel Kept [0, 1, 2, 3, 4, 5, 6, 7, 8, 9, 10, 11, 12, 13, 14, 15, 16, 17, 18, 19, 20, 21, 22, 23] (by kernel_rfl) (by kernel_rfl) (by kernel_rfl) Kept.refl Kept.trans ?_
  have sd : Below W.heap.size W W.drew := (Below.refl _ _).drew
  replace h := h.below sd
  replace P := P.below sd
  replace hz := hz.below sd
  replace hgW := hgW.below sd hgW.lt
  have s0 := Step.of_below (Z.also gp) sd
  clear sd
  generalize W.drew = W1 at *
  have hS := h.size_is
  rw [hsz] at hS
  repeat' (first
    | (refine wpRel_quiet (v := ?_) rfl rfl (fun _ _ _ h => h) (by rfl) ?_ ?_
       rotate_left
       · (intro w' hR; have c0 := (P.below hR).c0; have c33 := (P.below hR).c33; have c34 := (P.below hR).c34; go_simp; try rfl)
       simp only [Act.put, List.setIfInBounds_toArray, List.set_cons_zero, List.set_cons_succ])
    | fail)
  refine wpRel_loadM rfl rfl 29 _ rfl gp 1 (by rfl) _ _ (fun w' hR => (P.below hR).keys) Tryd.underlying29 rfl (by rw [arrT32.size]; simp [P.kl]) (fun _ _ _ h => h) (by rfl) ?_
  try simp only [Act.put, List.setIfInBounds_toArray, List.set_cons_zero, List.set_cons_succ]
  repeat' (first
    | (refine wpRel_quiet (v := ?_) rfl rfl (fun _ _ _ h => h) (by rfl) ?_ ?_
       rotate_left
       · (intro w' hR; have c0 := (P.below hR).c0; have c33 := (P.below hR).c33; have c34 := (P.below hR).c34; go_simp; try rfl)
       simp only [Act.put, List.setIfInBounds_toArray, List.set_cons_zero, List.set_cons_succ])
    | fail)
  refine wpRel_step rfl rfl (by rfl) (fun K' hK => ?_)
  go_simp
  refine (hS).mono ?_
  rintro e W2 ⟨rfl, rfl⟩
  refine hK.out _ _ (Kept.refl _) ?_
  clear hK K'
  try simp only [Act.put, List.setIfInBounds_toArray, List.set_cons_zero, List.set_cons_succ]
  have hsz' : IntKind.i64.wrap ((m : Int) + 22) = (m : Int) + 22 := by rw [IntKind.wrap_i64]; omega
  refine wpRel_step rfl rfl (by rfl) (fun K' hK => ?_)
  go_simp
  refine (seal_ok key boot seq ((m : Int) + 22) m W1 P.kb P.kl P.bt P.sq hz rfl hlen (by omega) hgW).mono ?_
  rintro e W2 ⟨g2, c2, rfl, hO, b2⟩
  refine hK.out _ _ b2 ?_
  clear hK K'
  try simp only [Act.put, List.setIfInBounds_toArray, List.set_cons_zero, List.set_cons_succ]
  have hB := h.own hO
  have h2 := h.below b2
  have P2 := P.below b2
  have s2 := s0.trans (Step.of_below (Z.also gp) b2)
  clear hS h P hz hgW s0 b2 hO
  repeat' (first
    | (refine wpRel_quiet (v := ?_) rfl rfl (fun _ _ _ h => h) (by rfl) ?_ ?_
       rotate_left
       · (intro w' hR; go_simp; try rfl)
       simp only [Act.put, List.setIfInBounds_toArray, List.set_cons_zero, List.set_cons_succ])
    | fail)
  have c0 := P2.c0
  refine wpRel_nil ?_
  go_wp2_with fail
  have hP := h2.put hl hlim hlw i hB (sealL key boot seq zs m) (List.take_of_length_le (by rw [hB.bs.length]; omega))
  refine hP.mono ?_
  rintro e W3 ⟨Z3, x, rfl, hx, h3, s3⟩
  have P3 := P2.step s3
  have s3' := s2.trans (s3.wide gp)
  have c34 := P3.c34
  have f34 := P3.froz 34
  have hsq := P3.sq
  clear hP h2 P2 s2 s3 c0 hB
  go_wp2_with fail
  have ho := OnlyAt.setC gp 34 W3 (.int .u64 (seq + 1))
  go_ret
  exact ⟨Z3, x, rfl, hx, h3.only ho P3.at_.2 P3.frm, P3.next (seq + 1) (by omega), s3'.trans (Step.only ho)⟩
set_option maxHeartbeats 1000000 in
theorem pen_write_no (h : Cl w0 W Z g D) (P : Pn w0 Z W gp g key boot seq) (i : Int) {a : Option Addr} {len cap : Nat} (hl : len ≤ 9223372036854775807) (hlen : (D.size : Int) < (len : Int) + 22) :
    Calls Tryd.prog 24 #[.pointer (some ⟨gp, 0, none⟩), .int .i64 i, .slice a len cap] W fun e W' => e = .returned (.bool false) ∧ Below W.heap.size W W' := by
  have hsl := h.size_le
  go_enter Tryd.func24, Tryd.ntmps24
  go_wp2_with fail
  refine wp_region_rel Kept [0, 1, 2, 3, 4, 5, 6, 7, 8, 9, 10, 11, 12, 13, 14, 15, 16, 17, 18, 19, 20, 21, 22, 23] (by kernel_rfl) (by kernel_rfl) (by kernel_rfl) Kept.refl Kept.trans ?_
  have sd : Below W.heap.size W W.drew := (Below.refl _ _).drew
  replace h := h.below sd
  replace P := P.below sd
  generalize W.drew = W1 at *
  have hS := h.size_is
  repeat' (first
    | (refine wpRel_quiet (v := ?_) rfl rfl (fun _ _ _ h => h) (by rfl) ?_ ?_
       rotate_left
       · (intro w' hR; have c0 := (P.below hR).c0; have c33 := (P.below hR).c33; have c34 := (P.below hR).c34; go_simp; try rfl)
       simp only [Act.put, List.setIfInBounds_toArray, List.set_cons_zero, List.set_cons_succ])
    | fail)
  refine wpRel_loadM rfl rfl 29 _ rfl gp 1 (by rfl) _ _ (fun w' hR => (P.below hR).keys) Tryd.underlying29 rfl (by rw [arrT32.size]; simp [P.kl]) (fun _ _ _ h => h) (by rfl) ?_
  try simp only [Act.put, List.setIfInBounds_toArray, List.set_cons_zero, List.set_cons_succ]
  repeat' (first
    | (refine wpRel_quiet (v := ?_) rfl rfl (fun _ _ _ h => h) (by rfl) ?_ ?_
       rotate_left
       · (intro w' hR; have c0 := (P.below hR).c0; have c33 := (P.below hR).c33; have c34 := (P.below hR).c34; go_simp; try rfl)
       simp only [Act.put, List.setIfInBounds_toArray, List.set_cons_zero, List.set_cons_succ])
    | fail)
  refine wpRel_step rfl rfl (by rfl) (fun K' hK => ?_)
  go_simp
  refine (hS).mono ?_
  rintro e W2 ⟨rfl, rfl⟩
  refine hK.out _ _ (Kept.refl _) ?_
  clear hK K'
  try simp only [Act.put, List.setIfInBounds_toArray, List.set_cons_zero, List.set_cons_succ]
  refine wpRel_step rfl rfl (by rfl) (fun K' hK => ?_)
  go_simp
  refine (seal_no (len := len) key boot seq (D.size : Int) W1 (by omega) hl (by omega)).mono ?_
  rintro e W2 ⟨rfl, b2⟩
  refine hK.out _ _ b2 ?_
  clear hK K'
  try simp only [Act.put, List.setIfInBounds_toArray, List.set_cons_zero, List.set_cons_succ]
  have s2 := sd.trans (b2.mono sd.size)
  clear hS h P sd b2
  repeat' (first
    | (refine wpRel_quiet (v := ?_) rfl rfl (fun _ _ _ h => h) (by rfl) ?_ ?_
       rotate_left
       · (intro w' hR; go_simp; try rfl)
       simp only [Act.put, List.setIfInBounds_toArray, List.set_cons_zero, List.set_cons_succ])
    | fail)
  refine wpRel_nil ?_
  go_wp2_with fail
  go_ret
  exact ⟨rfl, s2⟩
set_option maxHeartbeats 1000000 in
theorem pen_write_off {p : Addr} (h : Cl w0 W Z g D) (P : Pn w0 Z W gp g key boot seq) (hq : Glob w0) (hp : Pow p w0) (hl : D.left = 0) (i : Int) {a : Option Addr} {len cap : Nat} {zs : List Int} (hz : Bs W a len cap zs) (m : Nat) (hsz : D.size = m + 22) (hlen : len ≤ m) :
    Calls Tryd.prog 24 #[.pointer (some ⟨gp, 0, none⟩), .int .i64 i, .slice a len cap] W fun e W' => e = .panicked [{ v := errV p, recovered := false }] ∧ Below W.heap.size W W' := by
  have hsl := h.size_le
  have hgW : Glob W := hq.below h.bel hq.lt
  go_enter Tryd.func24, Tryd.ntmps24
  go_wp2_with fail
  refine wp_region_rel Kept [0, 1, 2, 3, 4, 5, 6, 7, 8, 9, 10, 11, 12, 13, 14, 15, 16, 17, 18, 19, 20, 21, 22, 23] (by kernel_rfl) (by kernel_rfl) (by kernel_rfl) Kept.refl Kept.trans ?_
  have sd : Below W.heap.size W W.drew := (Below.refl _ _).drew
  replace h := h.below sd
  replace P := P.below sd
  replace hz := hz.below sd
  replace hgW := hgW.below sd hgW.lt
  generalize W.drew = W1 at *
  have hS := h.size_is
  rw [hsz] at hS
  repeat' (first
    | (refine wpRel_quiet (v := ?_) rfl rfl (fun _ _ _ h => h) (by rfl) ?_ ?_
       rotate_left
       · (intro w' hR; have c0 := (P.below hR).c0; have c33 := (P.below hR).c33; have c34 := (P.below hR).c34; go_simp; try rfl)
       simp only [Act.put, List.setIfInBounds_toArray, List.set_cons_zero, List.set_cons_succ])
    | fail)
  refine wpRel_loadM rfl rfl 29 _ rfl gp 1 (by rfl) _ _ (fun w' hR => (P.below hR).keys) Tryd.underlying29 rfl (by rw [arrT32.size]; simp [P.kl]) (fun _ _ _ h => h) (by rfl) ?_
  try simp only [Act.put, List.setIfInBounds_toArray, List.set_cons_zero, List.set_cons_succ]
  repeat' (first
    | (refine wpRel_quiet (v := ?_) rfl rfl (fun _ _ _ h => h) (by rfl) ?_ ?_
       rotate_left
       · (intro w' hR; have c0 := (P.below hR).c0; have c33 := (P.below hR).c33; have c34 := (P.below hR).c34; go_simp; try rfl)
       simp only [Act.put, List.setIfInBounds_toArray, List.set_cons_zero, List.set_cons_succ])
    | fail)
  refine wpRel_step rfl rfl (by rfl) (fun K' hK => ?_)
  go_simp
  refine (hS).mono ?_
  rintro e W2 ⟨rfl, rfl⟩
  refine hK.out _ _ (Kept.refl _) ?_
  clear hK K'
  try simp only [Act.put, List.setIfInBounds_toArray, List.set_cons_zero, List.set_cons_succ]
  have hsz' : IntKind.i64.wrap ((m : Int) + 22) = (m : Int) + 22 := by rw [IntKind.wrap_i64]; omega
  refine wpRel_step rfl rfl (by rfl) (fun K' hK => ?_)
  go_simp
  refine (seal_ok key boot seq ((m : Int) + 22) m W1 P.kb P.kl P.bt P.sq hz rfl hlen (by omega) hgW).mono ?_
  rintro e W2 ⟨g2, c2, rfl, hO, b2⟩
  refine hK.out _ _ b2 ?_
  clear hK K'
  try simp only [Act.put, List.setIfInBounds_toArray, List.set_cons_zero, List.set_cons_succ]
  have h2 := h.below b2
  have P2 := P.below b2
  have s2 := sd.trans (b2.mono sd.size)
  clear hS h P hz hgW b2 hO
  repeat' (first
    | (refine wpRel_quiet (v := ?_) rfl rfl (fun _ _ _ h => h) (by rfl) ?_ ?_
       rotate_left
       · (intro w' hR; go_simp; try rfl)
       simp only [Act.put, List.setIfInBounds_toArray, List.set_cons_zero, List.set_cons_succ])
    | fail)
  have c0 := P2.c0
  refine wpRel_nil ?_
  go_wp2_with fail
  refine (write_no h2.dk (h2.pow hp) hl i _).mono ?_
  rintro e W3 ⟨rfl, rfl⟩
  go_wp2_with fail
  exact ⟨rfl, rfl, s2⟩
set_option maxHeartbeats 1000000 in
theorem pen_read_new (h : Cl w0 W Z g D) (P : Pn w0 Z W gp g key boot seq) (hq : Glob w0) (hl : ¬ D.left = 0) (hlim : D.tr.length < 1000000) (i : Int) :
    Calls Tryd.prog 27 #[.pointer (some ⟨gp, 0, none⟩), .int .i64 i] W fun e W' => ∃ Z' p c, e = .returned (.tuple #[.slice p (openR key (D.shows i)).length c, .bool (openB key (D.shows i))]) ∧ Bz Z' W' p (openR key (D.shows i)).length c (openR key (D.shows i)) ∧ Cl w0 W' Z' g (D.asks i) ∧ Pn w0 Z' W' gp g key boot seq ∧ Step Z W Z' W' ∧ (∀ b, p = some b → W.heap.size ≤ b.block) := by
  have hsl := h.size_le
  have hlen : (D.shows i).length ≤ 90022 := by
    unfold DS.shows
    split
    · rw [fitL_length]; omega
    · simp
  go_enter Tryd.func27, Tryd.ntmps27
  go_wp2_with fail
  refine wp_region_rel (KeptBut Z.S) [0, 1, 2, 3, 4, 5, 6, 7, 8, 9, 10, 11, 12, 13, 14, 15, 16, 17, 18, 19] (by kernel_rfl) (by kernel_rfl) (by kernel_rfl) (KeptBut.refl _) KeptBut.trans ?_
  have sd : Below W.heap.size W W.drew := (Below.refl _ _).drew
  replace h := h.below sd
  replace P := P.below sd
  have s0 := Step.of_below Z sd
  clear sd
  generalize W.drew = W1 at *
  have hA := h.ask hl hlim i
  repeat' (first
    | (refine wpRel_quiet (v := ?_) rfl rfl (fun _ _ _ h => h) (by rfl) ?_ ?_
       rotate_left
       · (intro w' hR; have c0 := (P.kept hR).c0; go_simp; try rfl)
       simp only [Act.put, List.setIfInBounds_toArray, List.set_cons_zero, List.set_cons_succ])
    | fail)
  refine wpRel_loadM rfl rfl 29 _ rfl gp 1 (by rfl) _ _ (fun w' hR => (P.kept hR).keys) Tryd.underlying29 rfl (by rw [arrT32.size]; simp [P.kl]) (fun _ _ _ h => h) (by rfl) ?_
  try simp only [Act.put, List.setIfInBounds_toArray, List.set_cons_zero, List.set_cons_succ]
  repeat' (first
    | (refine wpRel_quiet (v := ?_) rfl rfl (fun _ _ _ h => h) (by rfl) ?_ ?_
       rotate_left
       · (intro w' hR; have c0 := (P.kept hR).c0; go_simp; try rfl)
       simp only [Act.put, List.setIfInBounds_toArray, List.set_cons_zero, List.set_cons_succ])
    | fail)
  refine wpRel_step rfl rfl (by rfl) (fun K' hK => ?_)
  go_simp
  refine (hA).mono ?_
  rintro e W2 ⟨Z2, p2, c2, rfl, B2, h2, s2⟩
  refine hK.out _ _ (KeptBut.of_step s2) ?_
  clear hK K'
  try simp only [Act.put, List.setIfInBounds_toArray, List.set_cons_zero, List.set_cons_succ]
  have P2 := P.step s2
  have s2' := s0.trans s2
  clear hA h s0
  have hg2 : Glob W2 := hq.below h2.bel hq.lt
  refine wpRel_step rfl rfl (by rfl) (fun K' hK => ?_)
  go_simp
  refine (h2.open_new key P2.kb P2.kl B2.bs hlen hg2).mono ?_
  rintro e W3 ⟨p3, c3, rfl, B3, b3, hfr⟩
  refine hK.out _ _ (KeptBut.of_below _ b3) ?_
  clear hK K'
  try simp only [Act.put, List.setIfInBounds_toArray, List.set_cons_zero, List.set_cons_succ]
  have h3 := h2.below b3
  have P3 := P2.below b3
  have s3 := s2'.trans (Step.of_below Z2 b3)
  have hle2 := s2'.size
  clear h2 P2 s2' s2 P B2 b3
  repeat' (first
    | (refine wpRel_quiet (v := ?_) rfl rfl (fun _ _ _ h => h) (by rfl) ?_ ?_
       rotate_left
       · (intro w' hR; go_simp; try rfl)
       simp only [Act.put, List.setIfInBounds_toArray, List.set_cons_zero, List.set_cons_succ])
    | fail)
  refine wpRel_nil ?_
  go_wp2_with fail
  go_ret2
  exact ⟨Z2, p3, c3, rfl, B3, h3, P3, s3, fun b hb => Nat.le_trans hle2 (hfr b hb)⟩
theorem pen_read (h : Cl w0 W Z g D) (P : Pn w0 Z W gp g key boot seq) (hq : Glob w0) (hl : ¬ D.left = 0) (hlim : D.tr.length < 1000000) (i : Int) :
    Calls Tryd.prog 27 #[.pointer (some ⟨gp, 0, none⟩), .int .i64 i] W fun e W' => ∃ Z' p c, e = .returned (.tuple #[.slice p (openR key (D.shows i)).length c, .bool (openB key (D.shows i))]) ∧ Bz Z' W' p (openR key (D.shows i)).length c (openR key (D.shows i)) ∧ Cl w0 W' Z' g (D.asks i) ∧ Pn w0 Z' W' gp g key boot seq ∧ Step Z W Z' W' := by
  refine (pen_read_new h P hq hl hlim i).mono ?_
  rintro e W' ⟨Z', p, c, h1, h2, h3, h4, h5, -⟩
  exact ⟨Z', p, c, h1, h2, h3, h4, h5⟩
set_option maxHeartbeats 1000000 in
/-- Where the power is gone nothing is read. -/
theorem pen_read_off {p : Addr} (h : Cl w0 W Z g D) (P : Pn w0 Z W gp g key boot seq) (hp : Pow p w0) (hl : D.left = 0) (i : Int) :
    Calls Tryd.prog 27 #[.pointer (some ⟨gp, 0, none⟩), .int .i64 i] W fun e W' => e = .panicked [{ v := errV p, recovered := false }] ∧ Below W.heap.size W W' := by
  go_enter Tryd.func27, Tryd.ntmps27
  go_wp2_with fail
  refine wp_region_rel (KeptBut Z.S) [0, 1, 2, 3, 4, 5, 6, 7, 8, 9, 10, 11, 12, 13, 14, 15, 16, 17, 18, 19] (by kernel_rfl) (by kernel_rfl) (by kernel_rfl) (KeptBut.refl _) KeptBut.trans ?_
  have sd : Below W.heap.size W W.drew := (Below.refl _ _).drew
  replace h := h.below sd
  replace P := P.below sd
  generalize W.drew = W1 at *
  have hA := read_no h.dk (h.pow hp) hl i
  repeat' (first
    | (refine wpRel_quiet (v := ?_) rfl rfl (fun _ _ _ h => h) (by rfl) ?_ ?_
       rotate_left
       · (intro w' hR; have c0 := (P.kept hR).c0; go_simp; try rfl)
       simp only [Act.put, List.setIfInBounds_toArray, List.set_cons_zero, List.set_cons_succ])
    | fail)
  refine wpRel_loadM rfl rfl 29 _ rfl gp 1 (by rfl) _ _ (fun w' hR => (P.kept hR).keys) Tryd.underlying29 rfl (by rw [arrT32.size]; simp [P.kl]) (fun _ _ _ h => h) (by rfl) ?_
  try simp only [Act.put, List.setIfInBounds_toArray, List.set_cons_zero, List.set_cons_succ]
  repeat' (first
    | (refine wpRel_quiet (v := ?_) rfl rfl (fun _ _ _ h => h) (by rfl) ?_ ?_
       rotate_left
       · (intro w' hR; have c0 := (P.kept hR).c0; go_simp; try rfl)
       simp only [Act.put, List.setIfInBounds_toArray, List.set_cons_zero, List.set_cons_succ])
    | fail)
  refine wpRel_step rfl rfl (by rfl) (fun K' hK => ?_)
  go_simp
  refine (hA).mono ?_
  rintro e W2 ⟨rfl, rfl⟩
  exact ⟨rfl, rfl, sd⟩
end

/-- What was sealed is opened. -/
theorem open_is (key : List Int) (boot seq : Int) (zs : List Int) (m : Nat) (hb : 0 ≤ boot ∧ boot < 4294967296) (hs : 0 ≤ seq ∧ seq < 18446744073709551616) (hz : IsBytes zs) (h : zs.length ≤ m) (hm : m ≤ 60000) :
    openR key (sealL key boot seq zs m) = zs ∧ openB key (sealL key boot seq zs m) = true ∧ openBoot key (sealL key boot seq zs m) = boot ∧ openSeq key (sealL key boot seq zs m) = seq := by
  obtain ⟨h1, h2, h3, h4⟩ := openR_some (openL_sealL key boot seq zs m hz h hm)
  exact ⟨h1, h2, by rw [h3, sealL_boot _ _ _ _ _ hb], by rw [h4, sealL_num _ _ _ _ _ hs]⟩
theorem fitL_sealL (key : List Int) (boot seq : Int) (zs : List Int) (m n : Nat) (h : zs.length ≤ m) (hn : n = m + 22) : fitL n (sealL key boot seq zs m) = sealL key boot seq zs m := by
  subst hn
  exact fitL_self _ _ (sealL_length _ _ _ _ _ h)
theorem puts_shows (D : DS) (i : Nat) (x : BV) (h : i < D.n) : (D.puts (i : Int) x).shows (i : Int) = fitL D.size x.zs := by
  unfold DS.puts DS.shows
  rw [if_pos (hasI_nat h)]
  rw [show (D.writes (i : Int).toNat x).n = D.n from rfl, if_pos (hasI_nat h), Int.toNat_natCast]
  show fitL D.size (updW D.blk i x i).1.zs = _
  unfold updW
  rw [if_pos rfl]
theorem puts_wait_in (D : DS) (i : Nat) (x : BV) (h : i < D.n) : (D.puts (i : Int) x).wait = D.wait ++ [(i, x)] := by
  unfold DS.puts
  rw [if_pos (hasI_nat h)]
  rfl
theorem puts_wait_out (D : DS) (i : Int) (x : BV) (h : hasI D.n i = false) : (D.puts i x).wait = D.wait := by
  unfold DS.puts
  rw [if_neg (by rw [h]; decide)]
  rfl
#print axioms pen_new
#print axioms pen_write
end Go.Proofs.YtlfcejfpdgdnkaaDoor
