
/- What a round of the law BankPlays finds: a bank, the texts of its places, those that hold, and the state that was told last. No conditions but those that each line states. -/
import Derived.Test.YtlfcejfpdgdnkaaDoorXBank
import Derived.Test.YtlfcejfpdgdnkaaDoorJRows
namespace Go.Proofs.YtlfcejfpdgdnkaaDoor
open Go.RowKit
set_option maxRecDepth 20000

/-- What a place's text is told as: nothing, or '=' and the text. -/
def txtL (key zs : List Int) : List Int := if openB key zs = true then 61 :: openR key zs else []
theorem txtL_yes {key zs : List Int} (h : openB key zs = true) : txtL key zs = 61 :: openR key zs := if_pos h
theorem txtL_no {key zs : List Int} (h : openB key zs = false) : txtL key zs = [] := by
  unfold txtL
  rw [h]; rfl
def stO (f : Nat → List Int) (n : Nat) : Obj := vlO 9 (fun j => .string (strOfNums (f j))) n
theorem st_cell {f : Nat → List Int} {n k : Nat} {W : World} (h : W.heap[k]? = some (stO f n)) (j : Nat) (hj : j < n) : W.cell? ⟨k, j, none⟩ = some (.string (strOfNums (f j))) := vl_cell h j hj
theorem st_congr {f g : Nat → List Int} {n : Nat} (h : ∀ j, j < n → f j = g j) : stO f n = stO g n := vl_congr fun j hj => by rw [h j hj]
theorem st_set {f : Nat → List Int} {n k : Nat} {W : World} (h : W.heap[k]? = some (stO f n)) (j : Nat) (zs : List Int) (g : Nat → List Int) (hg : ∀ i, i < n → g i = if i = j then zs else f i) : (W.setCell ⟨k, j, none⟩ (.string (strOfNums zs))).heap[k]? = some (stO g n) := by
  refine (vl_set h j _).trans ?_
  refine congrArg some (vl_congr fun i hi => ?_)
  unfold updV
  rw [hg i hi]
  by_cases h1 : i = j
  · rw [if_pos h1, if_pos h1]
  · rw [if_neg h1, if_neg h1]

structure PlayI (w wr : World) (Z : Own) (key : List Int) (g gp gb gh gf kn kw ks n sq t wl cst : Nat) (D : DS) (T : Nat → List Int) (hs fs : List Int) : Prop where
  bn : Bn w wr Z g gp gb gh gf 1 n 1 D key 1 (sq : Int) hs fs
  q : DQ D 60 20 t wl T
  now : Has Z wr kn (stO (fun k => txtL key (T (bN 1 k (bitB hs k != bitB fs k)))) n)
  was : Has Z wr kw (stO (fun k => txtL key (T (bN 1 k (bitB hs k)))) n)
  st : Bz Z wr (some ⟨ks, 0, none⟩) 1 cst hs
  n0 : w.heap.size ≤ kn
  w0 : w.heap.size ≤ kw
  np : gp ≠ kn
  nb : gb ≠ kn
  nh : gh ≠ kn
  nf : gf ≠ kn
  wp : gp ≠ kw
  wb : gb ≠ kw
  wh : gh ≠ kw
  wf : gf ≠ kw
  sp : gp ≠ ks
  sh : gh ≠ ks
  sf : gf ≠ ks
  nw : kn ≠ kw
  ns : ks ≠ kn
  ws : ks ≠ kw
section
variable {w wr wr' : World} {Z Z' : Own} {key : List Int} {g gp gb gh gf kn kw ks n sq sq' t t' wl wl' cst : Nat} {D D' : DS} {T T' : Nat → List Int} {hs fs hs' fs' : List Int}
theorem PlayI.xn (H : PlayI w wr Z key g gp gb gh gf kn kw ks n sq t wl cst D T hs fs) : ¬ three gp gh gf kn := three_no (Ne.symm H.np) (Ne.symm H.nh) (Ne.symm H.nf)
theorem PlayI.xw (H : PlayI w wr Z key g gp gb gh gf kn kw ks n sq t wl cst D T hs fs) : ¬ three gp gh gf kw := three_no (Ne.symm H.wp) (Ne.symm H.wh) (Ne.symm H.wf)
theorem PlayI.xs (H : PlayI w wr Z key g gp gb gh gf kn kw ks n sq t wl cst D T hs fs) : ¬ three gp gh gf ks := three_no (Ne.symm H.sp) (Ne.symm H.sh) (Ne.symm H.sf)
/-- What was read turned nothing. -/
theorem PlayI.go (H : PlayI w wr Z key g gp gb gh gf kn kw ks n sq t wl cst D T hs fs) (k : Keeps (three gp gh gf) Z wr Z' wr') (b : Bn w wr' Z' g gp gb gh gf 1 n 1 D' key 1 (sq : Int) hs fs) (q : DQ D' 60 20 t' wl' T) : PlayI w wr' Z' key g gp gb gh gf kn kw ks n sq t' wl' cst D' T hs fs :=
  { H with bn := b, q := q, now := k.has H.now H.xn, was := k.has H.was H.xw, st := k.bz H.st (fun p hp => by cases hp; exact H.xs) }
theorem PlayI.below (H : PlayI w wr Z key g gp gb gh gf kn kw ks n sq t wl cst D T hs fs) (b : Below wr.heap.size wr wr') : PlayI w wr' Z key g gp gb gh gf kn kw ks n sq t wl cst D T hs fs := H.go (Keeps.of_below b) (H.bn.below b) H.q
/-- A text was written in place p, and is told there. -/
theorem PlayI.wrote (H : PlayI w wr Z key g gp gb gh gf kn kw ks n sq t wl cst D T hs fs) {p j : Nat} (hp : p < n) (hj : bN 1 p (!bitB hs p) = j) {zs ys : List Int} (hy : openB key ys = true) (hz : openR key ys = zs) (k : Keeps (three gp gh gf) Z wr Z' wr') (b : Bn w wr' Z' g gp gb gh gf 1 n 1 D' key 1 (sq' : Int) hs (setB fs p)) (q : DQ D' 60 20 t' wl' (updT T j ys)) :
    PlayI w (wr'.setCell ⟨kn, p, none⟩ (.string (strOfNums (61 :: zs)))) Z' key g gp gb gh gf kn kw ks n sq' t' wl' cst D' (updT T j ys) hs (setB fs p) := by
  have hfl : p / 8 < fs.length := by have := H.bn.bk.fl; have := H.bn.bk.me; omega
  have on := OnlyAt.setC kn p wr' (.string (strOfNums (61 :: zs)))
  have hn := k.has H.now H.xn
  have hw := k.has H.was H.xw
  have hs' := k.bz H.st (fun p hp => by cases hp; exact H.xs)
  refine { H with bn := b.only on H.n0 hn.2 H.np H.nb H.nh H.nf, q := q, now := ⟨st_set hn.1 p (61 :: zs) _ fun i hi => ?_, hn.2⟩, was := ?_, st := ?_ }
  · by_cases h : i = p
    · subst h
      have e : bN 1 i (bitB hs i != bitB (setB fs i) i) = j := by
        rw [← hj, bitB_set hfl, decide_eq_true rfl]
        cases bitB hs i <;> rfl
      rw [if_pos rfl, e, updT_same, txtL_yes hy, hz]
    · have e : bN 1 i (bitB hs i != bitB (setB fs p) i) ≠ j := fun e => h (bN_inj (e.trans hj.symm)).1
      rw [if_neg h, updT_other _ _ e, bitB_set hfl, decide_eq_false h, Bool.false_or]
  · have h1 := hw.only on (Ne.symm H.nw)
    have e : stO (fun k => txtL key (updT T j ys (bN 1 k (bitB hs k)))) n = stO (fun k => txtL key (T (bN 1 k (bitB hs k)))) n := st_congr fun i _ => by
      have e : bN 1 i (bitB hs i) ≠ j := fun e => by
        obtain ⟨rfl, h2⟩ := bN_inj (e.trans hj.symm)
        cases h3 : bitB hs i <;> rw [h3] at h2 <;> cases h2
      rw [updT_other _ _ e]
    rw [e]
    exact h1
  · exact ⟨hs'.bs.keepAt fun _ p hp => by cases hp; exact on.block _ H.ns, fun h0 p hp => ⟨by rw [on.size]; exact (hs'.out h0 p hp).1, (hs'.out h0 p hp).2⟩⟩
/-- All was committed, its state was told, and the texts that hold are those that are told. -/
theorem PlayI.committed (H : PlayI w wr Z key g gp gb gh gf kn kw ks n sq t wl cst D T hs fs) {wr2 : World} {kt ct : Nat} (k : Keeps (three gp gh gf) Z wr Z wr') (b : Bn w wr' Z g gp gb gh gf 1 n 1 D key 1 (sq : Int) (xorZ hs fs) (zL 1))
    (b2 : Below wr'.heap.size wr' wr2) (hkt : wr'.heap.size ≤ kt) (hst : Bz Z wr2 (some ⟨kt, 0, none⟩) 1 ct (xorZ hs fs)) :
    ∃ W3, (Builtin.copy_ #[47, 47] 3 #[.slice (some ⟨kw, 0, none⟩) n n, .slice (some ⟨kn, 0, none⟩) n n]).run Tryd.prog wr2 = .ok (goInt n) W3 ∧ PlayI w W3 Z key g gp gb gh gf kn kw kt n sq t wl ct D T (xorZ hs fs) (zL 1) := by
  have hl := b.lts
  have hn := (k.has H.now H.xn).below b2
  have hw := (k.has H.was H.xw).below b2
  have hnl := (k.has H.now H.xn).lt
  have hwl := (k.has H.was H.xw).lt
  have hfl : fs.length = hs.length := H.bn.bk.okf.len.trans H.bn.bk.okh.len.symm
  have hkw : kt ≠ kw := by omega
  obtain ⟨W3, hr, ho, on⟩ := vl_copy (P := Tryd.prog) Tryd.underlying47 size_str 3 wr2 kw kn n _ _ hw.1 hn.1 (fun _ _ => rfl)
  refine ⟨W3, hr, { H with bn := (b.below b2).only on H.w0 hw.2 H.wp H.wb H.wh H.wf, now := ?_, was := ?_, st := ⟨hst.bs.keepAt fun _ p hp => by cases hp; exact on.block _ hkw, fun h0 p hp => ⟨by rw [on.size]; exact (hst.out h0 p hp).1, (hst.out h0 p hp).2⟩⟩, sp := by omega, sh := by omega, sf := by omega, ns := by omega, ws := by omega }⟩
  · have e : stO (fun k => txtL key (T (bN 1 k (bitB (xorZ hs fs) k != bitB (zL 1) k)))) n = stO (fun k => txtL key (T (bN 1 k (bitB hs k != bitB fs k)))) n := st_congr fun i _ => by rw [bitB_xor hfl, bitB_zL, Bool.bne_false]
    rw [e]
    exact hn.only on H.nw
  · have e : stO (fun k => txtL key (T (bN 1 k (bitB (xorZ hs fs) k)))) n = stO (fun k => txtL key (T (bN 1 k (bitB hs k != bitB fs k)))) n := st_congr fun i _ => by rw [bitB_xor hfl]
    rw [e]
    exact ⟨ho, hw.2⟩
/-- A new bank has loaded the state. -/
theorem PlayI.loaded (H : PlayI w wr Z key g gp gb gh gf kn kw ks n sq t wl cst D T hs fs) {wr2 : World} {gb2 gh2 gf2 : Nat} (b2 : Below wr.heap.size wr wr') (h1 : wr.heap.size ≤ gb2) (h2 : wr.heap.size ≤ gh2) (h3 : wr.heap.size ≤ gf2) (k : Keeps (three gp gh2 gf2) Z wr' Z wr2) (b : Bn w wr2 Z g gp gb2 gh2 gf2 1 n 1 D key 1 (sq : Int) hs (zL 1)) :
    ∃ W3, (Builtin.copy_ #[47, 47] 3 #[.slice (some ⟨kn, 0, none⟩) n n, .slice (some ⟨kw, 0, none⟩) n n]).run Tryd.prog wr2 = .ok (goInt n) W3 ∧ PlayI w W3 Z key g gp gb2 gh2 gf2 kn kw ks n sq t wl cst D T hs (zL 1) := by
  have hnl := H.now.lt
  have hwl := H.was.lt
  have hsl := (H.st.out (by omega) _ rfl).1
  have xn : ¬ three gp gh2 gf2 kn := three_no (Ne.symm H.np) (by omega) (by omega)
  have xw : ¬ three gp gh2 gf2 kw := three_no (Ne.symm H.wp) (by omega) (by omega)
  have xs : ¬ three gp gh2 gf2 ks := three_no (Ne.symm H.sp) (by simp at hsl; omega) (by simp at hsl; omega)
  have hn := k.has (H.now.below b2) xn
  have hw := k.has (H.was.below b2) xw
  have hst := k.bz (H.st.step (Step.of_below Z b2)) (fun p hp => by cases hp; exact xs)
  obtain ⟨W3, hr, ho, on⟩ := vl_copy (P := Tryd.prog) Tryd.underlying47 size_str 3 wr2 kn kw n _ _ hn.1 hw.1 (fun _ _ => rfl)
  simp at hsl
  refine ⟨W3, hr, { H with bn := b.only on H.n0 hn.2 H.np (by omega) (by omega) (by omega), now := ?_, was := hw.only on (Ne.symm H.nw), st := ⟨hst.bs.keepAt fun _ p hp => by cases hp; exact on.block _ H.ns, fun h0 p hp => ⟨by rw [on.size]; exact (hst.out h0 p hp).1, (hst.out h0 p hp).2⟩⟩, nb := by omega, nh := by omega, nf := by omega, wb := by omega, wh := by omega, wf := by omega, sh := by omega, sf := by omega }⟩
  have e : stO (fun k => txtL key (T (bN 1 k (bitB hs k != bitB (zL 1) k)))) n = stO (fun k => txtL key (T (bN 1 k (bitB hs k)))) n := st_congr fun i _ => by rw [bitB_zL, Bool.bne_false]
  rw [e]
  exact ⟨ho, hn.2⟩
end
#print axioms PlayI.wrote
#print axioms PlayI.committed
#print axioms PlayI.loaded
end Go.Proofs.YtlfcejfpdgdnkaaDoor
