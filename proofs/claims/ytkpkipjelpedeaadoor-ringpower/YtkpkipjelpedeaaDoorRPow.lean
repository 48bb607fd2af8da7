
/- What a call of the closure in RingPower does: where the power stays, and where it goes. The variable of package quar reads as its text says, that of package disk holds its error. No conditions but those that each line states. -/
import Derived.Test.YtkpkipjelpedeaaDoorRHold
import Derived.Test.YtkpkipjelpedeaaDoorRStale
namespace Go.Proofs.YtkpkipjelpedeaaDoor
open Go.RowKit
set_option maxRecDepth 20000

/-- Variables: a row of rows, a ring, a number. -/
abbrev slO (a : Option Addr) (n c : Nat) : Obj := .cells #[.slice a n c] 22 (0, 0)
abbrev rvO (gr : Nat) : Obj := .cells #[.pointer (some ⟨gr, 0, none⟩)] 29 (0, 0)
abbrev nvO (n : Int) : Obj := .cells #[.int .i64 n] 3 (0, 0)
theorem sl_set {w : World} {g : Nat} {a b : Option Addr} {n c m d : Nat} (h : w.heap[g]? = some (slO a n c)) : (w.setCell ⟨g, 0, none⟩ (.slice b m d)).heap[g]? = some (slO b m d) := by
  rw [heap_setCell_same w g 0 _ _ _ h]; rfl
theorem nv_set {w : World} {g : Nat} {n m : Int} (h : w.heap[g]? = some (nvO n)) : (w.setCell ⟨g, 0, none⟩ (.int .i64 m)).heap[g]? = some (nvO m) := by
  rw [heap_setCell_same w g 0 _ _ _ h]; rfl

/-- Where the closure's blocks lie. -/
structure PowB (w0 W : World) (gp gr gl ga gv gn : Nat) : Prop where
  rp : gr ≠ gp
  ap : ga ≠ gp
  ar : ga ≠ gr
  np : gn ≠ gp
  nr : gn ≠ gr
  an : ga ≠ gn
  la : gl ≠ ga
  ln : gl ≠ gn
  lp : gl ≠ gp
  lr : gl ≠ gr
  va : gv ≠ ga
  vn : gv ≠ gn
  vp : gv ≠ gp
  vr : gv ≠ gr
  fa : w0.heap.size ≤ ga
  fn : w0.heap.size ≤ gn
  bp : gp < W.heap.size
  br : gr < W.heap.size
  bl : gl < W.heap.size
  ba : ga < W.heap.size
  bv : gv < W.heap.size
  bn : gn < W.heap.size
/-- What a round finds. -/
structure PowI (w0 W wr : World) (Z Z1 : Own) (key : List Int) (g gp gr gl ga gv gn : Nat) (a : Option Addr) (len cap : Nat) (c : Int) (k : Nat) (a2 : Option Addr) (c2 : Nat) (l : List BV) (D : DS) : Prop where
  cl : Cl w0 wr Z1 g D
  pn : Pn w0 Z1 wr gp g key 1 (k : Int)
  rg : Rg w0 Z1 wr gr gp ((2 : Nat) : Int) ((16 : Nat) : Int) 7 (k : Int)
  hl : Has Z1 wr gl (slO a len cap)
  ha : Has Z1 wr ga (slO a2 k c2)
  hv : Has Z1 wr gv (rvO gr)
  hn : Has Z1 wr gn (nvO k)
  row : Recs W.heap.size Z1 wr a2 k c2 l
  old : ∀ x ∈ l, Bs w0 x.a x.len x.cap x.zs
  log : LogP key D (l.map BV.zs)
  left : D.left = c - 2 * k
  len : D.tr.length ≤ 2 * k
  st : W.heap.size ≤ wr.heap.size
  keep : ∀ i o, Has Z W i o → i ≠ gp → i ≠ gr → i ≠ ga → i ≠ gn → Has Z1 wr i o
/-- What is left where the power went. -/
structure PowN (w0 W wr : World) (Z Z1 : Own) (key : List Int) (g gp gr ga gn : Nat) (k : Nat) (a2 : Option Addr) (c2 : Nat) (l : List BV) (x : BV) (D D' : DS) : Prop where
  cl : Cl w0 wr Z1 g D'
  ha : Has Z1 wr ga (slO a2 (k + 1) c2)
  hn : Has Z1 wr gn (nvO k)
  row : Recs W.heap.size Z1 wr a2 (k + 1) c2 (l ++ [x])
  log : LogP key D (l.map BV.zs)
  num : (l.map BV.zs).length = k
  brk : BrokenR key D 1 (k : Int) (l.map BV.zs) x.zs D'
  xb : IsBytes x.zs
  xl : x.zs.length ≤ 46
  kk : k < 16
  len : D'.tr.length ≤ 2 * k + 1
  old : ∀ y ∈ l ++ [x], Bs w0 y.a y.len y.cap y.zs
  keep : ∀ i o, Has Z W i o → i ≠ gp → i ≠ gr → i ≠ ga → i ≠ gn → Has Z1 wr i o

section
variable {w0 W : World} {Z : Own} {key : List Int} {g gp gr gl ga gv gn : Nat} {a : Option Addr} {len cap : Nat} {xs : Nat → BV} {c : Int} {D : DS} {p : Addr}
set_option maxRecDepth 100000 in
set_option maxHeartbeats 16000000 in
theorem power1_ok (hq : Glob w0) (h : PowI w0 W W Z Z key g gp gr gl ga gv gn a len cap c 0 none 0 [] D) (hB : PowB w0 W gp gr gl ga gv gn) (hL : BBs w0 a len cap xs) (K : Nat) (hK : K = min len 16) (hc0 : 0 ≤ c ∧ c ≤ 31) (hc : 2 * (K : Int) ≤ c) :
    Calls Tryd.prog 25 #[.pointer (some ⟨gl, 0, none⟩), .pointer (some ⟨ga, 0, none⟩), .pointer (some ⟨gv, 0, none⟩), .pointer (some ⟨gn, 0, none⟩)] W fun e W' => e = .returned (.tuple #[]) ∧ ∃ Z' a2 c2 l D', PowI w0 W W' Z Z' key g gp gr gl ga gv gn a len cap c K a2 c2 l D' := by
  have HI0 := hide h
  have HB := hide hB
  have HL := hide hL
  have hrb := hB.br
  have hpb := hB.bp
  have hab := hB.ba
  have hnb := hB.bn
  have hne := hB.rp
  have hfa := hB.fa
  have hfn := hB.fn
  have hwW : w0.heap.size ≤ W.heap.size := h.cl.size
  have h0 := h.hl.var
  clear h hB hL
  go_enter Tryd.func25, Tryd.ntmps25
  go_wp2_with fail
  clear h0
  go_loopw [4] (fun v4 wr => ∃ (k : Nat) (Z1 : Own) (a2 : Option Addr) (c2 : Nat) (l : List BV) (D1 : DS), k ≤ K ∧ v4 = .int .i64 (k : Int) ∧ PowI w0 W wr Z Z1 key g gp gr gl ga gv gn a len cap c k a2 c2 l D1) (fun v4 _ => 16 - (intOf v4).toNat)
  case atStart => exact ⟨0, Z, none, 0, [], D, Nat.zero_le _, rfl, HI0.out⟩
  case round =>
    clear HI0
    obtain ⟨k, Z1, a2, c2, l, D1, hkK, rfl, hI⟩ := hrel
    have v0 := hI.hl.var
    by_cases hk : k < len ∧ k < 16
    · obtain ⟨hk1, hk2⟩ := hk
      obtain ⟨⟨ub, uoff, hua, hcx⟩, hBx⟩ := HL.out.item k hk1
      cases hua
      have hub := World.block_lt_of_cell? w0 _ hcx
      generalize xs k = x at *
      obtain ⟨xa, xl, xc, xz⟩ := x
      simp only [BV.v] at hcx hBx
      have clx : wr.cell? ⟨ub, uoff + k, none⟩ = some (.slice xa xl xc) := (hI.cl.bel.cell hub).trans hcx
      obtain ⟨m, hm, hm46, hmx⟩ : ∃ m : Nat, min (xl : Int) 46 = (m : Int) ∧ m ≤ 46 ∧ m ≤ xl := ⟨min xl 46, by omega, by omega, by omega⟩
      have hcut := run_cut_to (P := Tryd.prog) Tryd.underlying36 Tryd.size_u8 hBx .i64 (m : Int) m rfl (by have := hBx.le_cap; omega)
      have hTx := hBx.taken m hmx
      have hzm : (xz.take m).length = m := by rw [List.length_take, hBx.length]; omega
      clear hBx hcx
      generalize xz.take m = tz at *
      have HI := hide hI
      clear hI
      go_wp2_with fail
      refine wp_region_rel Kept [0, 1, 2, 3, 4, 5, 6, 7, 8, 9, 10, 11] (by kernel_rfl) (by kernel_rfl) (by kernel_rfl) Kept.refl Kept.trans ?_
      have sd : Below wr.heap.size wr wr.drew := (Below.refl _ _).drew
      replace v0 := keep_cell v0 sd
      replace clx := keep_cell clx sd
      generalize wr.drew = W1 at *
      repeat' (first
        | (refine wpRel_quiet (v := ?_) rfl rfl (fun _ _ _ h => h) (by rfl) ?_ ?_
           rotate_left
           · (intro w' hR; have i1 := keep_cell v0 hR; have i2 := keep_cell clx hR; go_simp; try rfl)
           simp only [Act.put, List.setIfInBounds_toArray, List.set_cons_zero, List.set_cons_succ])
        | fail)
      refine wpRel_nil ?_
      clear v0 clx hcut hm
      have hI := HI.out
      have C := hI.cl.below sd
      have P := hI.pn.below sd
      have R := hI.rg.below sd
      have A := hI.ha.below sd
      have V := hI.hv.below sd
      have L := hI.hl.below sd
      have N := hI.hn.below sd
      have row := hI.row.below sd
      have hb1 : W.heap.size ≤ W1.heap.size := Nat.le_trans hI.st sd.size
      have HK : Hid (∀ i o, Has Z W i o → i ≠ gp → i ≠ gr → i ≠ ga → i ≠ gn → Has Z1 W1 i o) := fun i o h1 h2 h3 h4 h5 => (hI.keep i o h1 h2 h3 h4 h5).below sd
      have HO := hide hI.old
      have HLg := hide hI.log
      have d5 := hI.len
      have dl := hI.left
      have hkn : (l.map BV.zs).length = k := by rw [List.length_map, hI.row.len]
      clear HI hI sd
      have hlw := C.dk.lt
      have hplace := row.own.place
      obtain ⟨a3, c3, W2, hr3, row2, b2, k2⟩ := row.append ⟨xa, m, xc, tz⟩ (C.bz hTx) (fun h0 p hp g' hg' => by
        have h1 := bs_old (x := ⟨xa, m, xc, tz⟩) hTx h0 hp
        rcases hplace with h2 | ⟨g2, h2, h3, _⟩
        · rw [h2] at hg'; cases hg'
        · rw [h2] at hg'; cases hg'; omega) (by omega) hb1 hlw 22
      have hne2 : ∀ k, Z1.S k → W2.heap[k]? = W1.heap[k]? := fun k hs => k2 k (hlw k hs) (fun e' => row.aside k e' hs)
      have C2 := C.keep hne2 (b2.mono hwW)
      have P2 : Pn w0 Z1 W2 gp g key 1 (k : Int) := ⟨P.at_.keep (b2.block _ hpb), P.frm, P.kb, P.kl, P.bt, P.sq⟩
      have R2 : Rg w0 Z1 W2 gr gp _ _ _ _ := ⟨R.has.keep (b2.block _ hrb), R.frm⟩
      have A2 := A.keep (b2.block _ hab)
      have V2 := V.keep (b2.block _ HB.out.bv)
      have L2 := L.keep (b2.block _ HB.out.bl)
      have N2 := N.keep (b2.block _ hnb)
      have hb2 : W.heap.size ≤ W2.heap.size := Nat.le_trans hb1 b2.size
      have HK2 : Hid (∀ i o, Has Z W i o → i ≠ gp → i ≠ gr → i ≠ ga → i ≠ gn → Has Z1 W2 i o) := fun i o h1 h2 h3 h4 h5 => (HK.out i o h1 h2 h3 h4 h5).keep (b2.block _ h1.lt)
      have v1 := A.var
      have v2 := A2.var
      have v3 := frozen_of_row W2 ga 0 _ _ A2.1
      have o1 := OnlyAt.setCell ga 0 W2 (.slice a3 (k + 1) c3)
      have C3 := C2.only o1 A2.2 hfa
      have P3 : Pn w0 Z1 (W2.setCell ⟨ga, 0, none⟩ (.slice a3 (k + 1) c3)) gp g key 1 (k : Int) := ⟨P2.at_.only o1 (Ne.symm HB.out.ap), P2.frm, P2.kb, P2.kl, P2.bt, P2.sq⟩
      have R3 := R2.only o1 (Ne.symm HB.out.ar)
      have A3 : Has Z1 (W2.setCell ⟨ga, 0, none⟩ (.slice a3 (k + 1) c3)) ga (slO a3 (k + 1) c3) := ⟨sl_set A2.1, A2.2⟩
      have V3 := V2.only o1 HB.out.va
      have L3 := L2.only o1 HB.out.la
      have N3 := N2.only o1 (Ne.symm HB.out.an)
      have hold3 : ∀ y ∈ l ++ [⟨xa, m, xc, tz⟩], Bs w0 y.a y.len y.cap y.zs := fun y hy => by
        rcases List.mem_append.1 hy with hy | hy
        · exact HO.out y hy
        · rw [List.mem_singleton] at hy; subst hy; exact hTx
      have row3 := row2.only o1 hab (fun y hy h0 p hp => by have := bs_old (hold3 y hy) h0 hp; omega)
      have hb3 : W.heap.size ≤ (W2.setCell ⟨ga, 0, none⟩ (.slice a3 (k + 1) c3)).heap.size := by rw [o1.size]; exact hb2
      have HK3 : Hid (∀ i o, Has Z W i o → i ≠ gp → i ≠ gr → i ≠ ga → i ≠ gn → Has Z1 (W2.setCell ⟨ga, 0, none⟩ (.slice a3 (k + 1) c3)) i o) := fun i o h1 h2 h3 h4 h5 => (HK2.out i o h1 h2 h3 h4 h5).only o1 h4
      have HO3 := hide hold3
      have v4 := V3.var
      clear hplace row row2 b2 k2 hne2 C P R A V L N C2 P2 R2 A2 V2 L2 N2 HK HK2 HO hold3 hb1 hb2 hlw o1
      go_wp2_with (at_builtin; refine wpList_append_run (by rfl) (.tmp 27) (.tmp 29) 22 (by rfl) _ _ _ _ (by rfl) (by rfl) hr3 ?_)
      clear v1 v2 v3 v4 hr3
      generalize (W2.setCell ⟨ga, 0, none⟩ (.slice a3 (k + 1) c3)) = W3 at *
      have hB3 := hTx.below C3.bel
      have hsz : D1.size = 80 := HLg.out.size
      have hnb20 : D1.n = 20 := HLg.out.nb
      have hwt : D1.wait = [] := HLg.out.wait
      have hA := hide (add_ok C3 P3 R3 hne (by omega) (by omega) (by omega) (by omega) hB3 58 (by omega) (by omega) ((2 : Nat) + (k : Int)) rfl hq (by omega) (by omega) (by omega) (by rw [hwt]; decide) (by omega))
      clear C3 P3 R3
      go_wp2_with fail
      refine hA.out.mono ?_
      rintro ex W4 ⟨Z4, x4, rfl, hx4, C4, P4, R4, s4⟩
      have A4 := A3.beside2 s4 HB.out.ap HB.out.ar
      have V4 := V3.beside2 s4 HB.out.vp HB.out.vr
      have L4 := L3.beside2 s4 HB.out.lp HB.out.lr
      have N4 := N3.beside2 s4 HB.out.np HB.out.nr
      have hpw := P4.frm
      have hrw := R4.frm
      have row4 := row3.beside2 s4 (row3.low hpb) (fun y hy h0 p hp => by have := bs_old (HO3.out y hy) h0 hp; omega) (row3.low hrb) (fun y hy h0 p hp => by have := bs_old (HO3.out y hy) h0 hp; omega)
      have hb4 : W.heap.size ≤ W4.heap.size := Nat.le_trans hb3 s4.size
      have HK4 : Hid (∀ i o, Has Z W i o → i ≠ gp → i ≠ gr → i ≠ ga → i ≠ gn → Has Z4 W4 i o) := fun i o h1 h2 h3 h4 h5 => (HK3.out i o h1 h2 h3 h4 h5).beside2 s4 h2 h3
      have u1 := N4.var
      have u2 := frozen_of_row W4 gn 0 _ _ N4.1
      have hw1 : IntKind.i64.wrap ((k : Int) + 1) = (k : Int) + 1 := by rw [IntKind.wrap_i64]; omega
      have o1 := OnlyAt.setCell gn 0 W4 (.int .i64 ((k : Int) + 1))
      have hlog : LogP key (D1.done ((2 : Nat) + (k : Int)) x4) (l.map BV.zs ++ [tz]) := HLg.out.next (bt := 1) (sq := (k : Int)) (by omega) (by rw [hkn]; exact hx4.out) (by omega) (by omega) hTx.bytes (by omega) _ (by rw [hkn]; omega)
      obtain ⟨f1, f2, f3, f4⟩ := done_is D1 ((2 : Nat) + (k : Int)) x4
      have f5 := done_len D1 ((2 : Nat) + (k : Int)) x4
      have HI : Hid (PowI w0 W (W4.setCell ⟨gn, 0, none⟩ (.int .i64 ((k : Int) + 1))) Z Z4 key g gp gr gl ga gv gn (some ⟨ub, uoff, none⟩) len cap c (k + 1) a3 c3 (l ++ [⟨xa, m, xc, tz⟩]) (D1.done ((2 : Nat) + (k : Int)) x4)) := hide
        { cl := C4.only o1 N4.2 hfn
          pn := by
            have := (show Pn w0 Z4 (W4.setCell ⟨gn, 0, none⟩ (.int .i64 ((k : Int) + 1))) gp g key 1 ((k : Int) + 1) from ⟨P4.at_.only o1 (Ne.symm HB.out.np), P4.frm, P4.kb, P4.kl, P4.bt, P4.sq⟩)
            rw [show ((k + 1 : Nat) : Int) = (k : Int) + 1 by omega]
            exact this
          rg := by
            rw [show ((k + 1 : Nat) : Int) = (k : Int) + 1 by omega]
            exact R4.only o1 (Ne.symm HB.out.nr)
          hl := L4.only o1 HB.out.ln
          ha := A4.only o1 HB.out.an
          hv := V4.only o1 HB.out.vn
          hn := by
            rw [show ((k + 1 : Nat) : Int) = (k : Int) + 1 by omega]
            exact ⟨nv_set N4.1, N4.2⟩
          row := row4.only o1 hnb (fun y hy h0 p hp => by have := bs_old (HO3.out y hy) h0 hp; omega)
          old := HO3.out
          log := by rw [List.map_append]; exact hlog
          left := by
            have e1 : spendL (c - 2 * (k : Int)) = c - 2 * (k : Int) - 1 := by unfold spendL; rw [if_pos (by omega)]
            have e2 : spendL (c - 2 * (k : Int) - 1) = c - 2 * (k : Int) - 1 - 1 := by unfold spendL; rw [if_pos (by omega)]
            rw [f3, dl, e1, e2]
            omega
          len := by rw [f5]; omega
          st := by rw [o1.size]; exact hb4
          keep := fun i o h1 h2 h3 h4 h5 => (HK4.out i o h1 h2 h3 h4 h5).only o1 h5 }
      clear hA s4 A3 V3 L3 N3 row3 hb3 HK3 HO3 HLg A4 V4 L4 N4 row4 hb4 HK4 hlog C4 P4 R4 f1 f2 f3 f4 f5 hx4 hB3 hTx o1
      go_wp2_with fail
      go_roundw
      case rel => exact ⟨k + 1, Z4, a3, c3, _, _, by omega, by go_num, HI.out⟩
      case measure => simp [intOf]; omega
    · by_cases hk1 : k < len
      · have hk2 : ¬ (k : Int) < 16 := by omega
        have hkK2 : k = K := by omega
        have HI := hide hI
        rw [hkK2] at HI
        clear hI hK hkK2 hkK
        go_wp2_with fail
        refine bodyPost_end (results_none rfl _ _ _) rfl ?_
        exact ⟨rfl, Z1, a2, c2, l, D1, HI.out⟩
      · have hk3 : ¬ (k : Int) < (len : Int) := by omega
        have hkK2 : k = K := by omega
        have HI := hide hI
        rw [hkK2] at HI
        clear hI hK hkK2 hkK
        go_wp2_with fail
        refine bodyPost_end (results_none rfl _ _ _) rfl ?_
        exact ⟨rfl, Z1, a2, c2, l, D1, HI.out⟩
set_option maxRecDepth 100000 in
set_option maxHeartbeats 16000000 in
theorem power1_no (hq : Glob w0) (h : PowI w0 W W Z Z key g gp gr gl ga gv gn a len cap c 0 none 0 [] D) (hB : PowB w0 W gp gr gl ga gv gn) (hL : BBs w0 a len cap xs) (K : Nat) (hK : K = min len 16) (hc0 : 0 ≤ c ∧ c ≤ 31) (hp : Pow p w0) (hc : c < 2 * (K : Int)) :
    Calls Tryd.prog 25 #[.pointer (some ⟨gl, 0, none⟩), .pointer (some ⟨ga, 0, none⟩), .pointer (some ⟨gv, 0, none⟩), .pointer (some ⟨gn, 0, none⟩)] W fun e W' => e = .panicked [{ v := errV p, recovered := false }] ∧ ∃ k Z' a2 c2 l x D1 D', PowN w0 W W' Z Z' key g gp gr ga gn k a2 c2 l x D1 D' := by
  have HI0 := hide h
  have HB := hide hB
  have HL := hide hL
  have hrb := hB.br
  have hpb := hB.bp
  have hab := hB.ba
  have hnb := hB.bn
  have hne := hB.rp
  have hfa := hB.fa
  have hfn := hB.fn
  have hwW : w0.heap.size ≤ W.heap.size := h.cl.size
  have h0 := h.hl.var
  clear h hB hL
  go_enter Tryd.func25, Tryd.ntmps25
  go_wp2_with fail
  clear h0
  go_loopw [4] (fun v4 wr => ∃ (k : Nat) (Z1 : Own) (a2 : Option Addr) (c2 : Nat) (l : List BV) (D1 : DS), (k ≤ K ∧ 2 * (k : Int) ≤ c) ∧ v4 = .int .i64 (k : Int) ∧ PowI w0 W wr Z Z1 key g gp gr gl ga gv gn a len cap c k a2 c2 l D1) (fun v4 _ => 16 - (intOf v4).toNat)
  case atStart => exact ⟨0, Z, none, 0, [], D, ⟨Nat.zero_le _, by omega⟩, rfl, HI0.out⟩
  case round =>
    clear HI0
    obtain ⟨k, Z1, a2, c2, l, D1, ⟨hkK, hkc⟩, rfl, hI⟩ := hrel
    have v0 := hI.hl.var
    by_cases hk : k < len ∧ k < 16
    · obtain ⟨hk1, hk2⟩ := hk
      obtain ⟨⟨ub, uoff, hua, hcx⟩, hBx⟩ := HL.out.item k hk1
      cases hua
      have hub := World.block_lt_of_cell? w0 _ hcx
      generalize xs k = x at *
      obtain ⟨xa, xl, xc, xz⟩ := x
      simp only [BV.v] at hcx hBx
      have clx : wr.cell? ⟨ub, uoff + k, none⟩ = some (.slice xa xl xc) := (hI.cl.bel.cell hub).trans hcx
      obtain ⟨m, hm, hm46, hmx⟩ : ∃ m : Nat, min (xl : Int) 46 = (m : Int) ∧ m ≤ 46 ∧ m ≤ xl := ⟨min xl 46, by omega, by omega, by omega⟩
      have hcut := run_cut_to (P := Tryd.prog) Tryd.underlying36 Tryd.size_u8 hBx .i64 (m : Int) m rfl (by have := hBx.le_cap; omega)
      have hTx := hBx.taken m hmx
      have hzm : (xz.take m).length = m := by rw [List.length_take, hBx.length]; omega
      clear hBx hcx
      generalize xz.take m = tz at *
      have HI := hide hI
      clear hI
      go_wp2_with fail
      refine wp_region_rel Kept [0, 1, 2, 3, 4, 5, 6, 7, 8, 9, 10, 11] (by kernel_rfl) (by kernel_rfl) (by kernel_rfl) Kept.refl Kept.trans ?_
      have sd : Below wr.heap.size wr wr.drew := (Below.refl _ _).drew
      replace v0 := keep_cell v0 sd
      replace clx := keep_cell clx sd
      generalize wr.drew = W1 at *
      repeat' (first
        | (refine wpRel_quiet (v := ?_) rfl rfl (fun _ _ _ h => h) (by rfl) ?_ ?_
           rotate_left
           · (intro w' hR; have i1 := keep_cell v0 hR; have i2 := keep_cell clx hR; go_simp; try rfl)
           simp only [Act.put, List.setIfInBounds_toArray, List.set_cons_zero, List.set_cons_succ])
        | fail)
      refine wpRel_nil ?_
      clear v0 clx hcut hm
      have hI := HI.out
      have C := hI.cl.below sd
      have P := hI.pn.below sd
      have R := hI.rg.below sd
      have A := hI.ha.below sd
      have V := hI.hv.below sd
      have L := hI.hl.below sd
      have N := hI.hn.below sd
      have row := hI.row.below sd
      have hb1 : W.heap.size ≤ W1.heap.size := Nat.le_trans hI.st sd.size
      have HK : Hid (∀ i o, Has Z W i o → i ≠ gp → i ≠ gr → i ≠ ga → i ≠ gn → Has Z1 W1 i o) := fun i o h1 h2 h3 h4 h5 => (hI.keep i o h1 h2 h3 h4 h5).below sd
      have HO := hide hI.old
      have HLg := hide hI.log
      have d5 := hI.len
      have dl := hI.left
      have hkn : (l.map BV.zs).length = k := by rw [List.length_map, hI.row.len]
      clear HI hI sd
      have hlw := C.dk.lt
      have hplace := row.own.place
      obtain ⟨a3, c3, W2, hr3, row2, b2, k2⟩ := row.append ⟨xa, m, xc, tz⟩ (C.bz hTx) (fun h0 p hp g' hg' => by
        have h1 := bs_old (x := ⟨xa, m, xc, tz⟩) hTx h0 hp
        rcases hplace with h2 | ⟨g2, h2, h3, _⟩
        · rw [h2] at hg'; cases hg'
        · rw [h2] at hg'; cases hg'; omega) (by omega) hb1 hlw 22
      have hne2 : ∀ k, Z1.S k → W2.heap[k]? = W1.heap[k]? := fun k hs => k2 k (hlw k hs) (fun e' => row.aside k e' hs)
      have C2 := C.keep hne2 (b2.mono hwW)
      have P2 : Pn w0 Z1 W2 gp g key 1 (k : Int) := ⟨P.at_.keep (b2.block _ hpb), P.frm, P.kb, P.kl, P.bt, P.sq⟩
      have R2 : Rg w0 Z1 W2 gr gp _ _ _ _ := ⟨R.has.keep (b2.block _ hrb), R.frm⟩
      have A2 := A.keep (b2.block _ hab)
      have V2 := V.keep (b2.block _ HB.out.bv)
      have L2 := L.keep (b2.block _ HB.out.bl)
      have N2 := N.keep (b2.block _ hnb)
      have hb2 : W.heap.size ≤ W2.heap.size := Nat.le_trans hb1 b2.size
      have HK2 : Hid (∀ i o, Has Z W i o → i ≠ gp → i ≠ gr → i ≠ ga → i ≠ gn → Has Z1 W2 i o) := fun i o h1 h2 h3 h4 h5 => (HK.out i o h1 h2 h3 h4 h5).keep (b2.block _ h1.lt)
      have v1 := A.var
      have v2 := A2.var
      have v3 := frozen_of_row W2 ga 0 _ _ A2.1
      have o1 := OnlyAt.setCell ga 0 W2 (.slice a3 (k + 1) c3)
      have C3 := C2.only o1 A2.2 hfa
      have P3 : Pn w0 Z1 (W2.setCell ⟨ga, 0, none⟩ (.slice a3 (k + 1) c3)) gp g key 1 (k : Int) := ⟨P2.at_.only o1 (Ne.symm HB.out.ap), P2.frm, P2.kb, P2.kl, P2.bt, P2.sq⟩
      have R3 := R2.only o1 (Ne.symm HB.out.ar)
      have A3 : Has Z1 (W2.setCell ⟨ga, 0, none⟩ (.slice a3 (k + 1) c3)) ga (slO a3 (k + 1) c3) := ⟨sl_set A2.1, A2.2⟩
      have V3 := V2.only o1 HB.out.va
      have L3 := L2.only o1 HB.out.la
      have N3 := N2.only o1 (Ne.symm HB.out.an)
      have hold3 : ∀ y ∈ l ++ [⟨xa, m, xc, tz⟩], Bs w0 y.a y.len y.cap y.zs := fun y hy => by
        rcases List.mem_append.1 hy with hy | hy
        · exact HO.out y hy
        · rw [List.mem_singleton] at hy; subst hy; exact hTx
      have row3 := row2.only o1 hab (fun y hy h0 p hp => by have := bs_old (hold3 y hy) h0 hp; omega)
      have hb3 : W.heap.size ≤ (W2.setCell ⟨ga, 0, none⟩ (.slice a3 (k + 1) c3)).heap.size := by rw [o1.size]; exact hb2
      have HK3 : Hid (∀ i o, Has Z W i o → i ≠ gp → i ≠ gr → i ≠ ga → i ≠ gn → Has Z1 (W2.setCell ⟨ga, 0, none⟩ (.slice a3 (k + 1) c3)) i o) := fun i o h1 h2 h3 h4 h5 => (HK2.out i o h1 h2 h3 h4 h5).only o1 h4
      have HO3 := hide hold3
      have v4 := V3.var
      clear hplace row row2 b2 k2 hne2 C P R A V L N C2 P2 R2 A2 V2 L2 N2 HK HK2 HO hold3 hb1 hb2 hlw o1
      go_wp2_with (at_builtin; refine wpList_append_run (by rfl) (.tmp 27) (.tmp 29) 22 (by rfl) _ _ _ _ (by rfl) (by rfl) hr3 ?_)
      clear v1 v2 v3 v4 hr3
      generalize (W2.setCell ⟨ga, 0, none⟩ (.slice a3 (k + 1) c3)) = W3 at *
      have hB3 := hTx.below C3.bel
      have hsz : D1.size = 80 := HLg.out.size
      have hnb20 : D1.n = 20 := HLg.out.nb
      have hwt : D1.wait = [] := HLg.out.wait
      by_cases hl0 : c - 2 * (k : Int) = 0
      · have hA := hide (add_off C3 P3 R3 hne (by omega) (by omega) (by omega) (by omega) hB3 58 (by omega) (by omega) ((2 : Nat) + (k : Int)) rfl hq hp (by omega))
        have HN : Hid (∀ W4, Below W3.heap.size W3 W4 → PowN w0 W W4 Z Z1 key g gp gr ga gn k a3 c3 l ⟨xa, m, xc, tz⟩ D1 D1) := fun W4 b4 =>
          ⟨C3.below b4, A3.below b4, N3.below b4, row3.below b4, HLg.out, hkn, .inl rfl, hTx.bytes, by show tz.length ≤ 46; omega, hk2, by omega, HO3.out, fun i o h1 h2 h3 h4 h5 => (HK3.out i o h1 h2 h3 h4 h5).below b4⟩
        clear C3 P3 R3 A3 V3 L3 N3 row3 hb3 HK3 HO3 HLg hB3 hTx
        go_wp2_with fail
        refine hA.out.mono ?_
        rintro ex W4 ⟨rfl, b4⟩
        clear hA
        go_wp2_with fail
        exact ⟨rfl, rfl, k, Z1, a3, c3, l, _, D1, D1, HN.out _ b4⟩
      · by_cases hl1 : c - 2 * (k : Int) = 1
        · have hA := hide (add_cut C3 P3 R3 hne (by omega) (by omega) (by omega) (by omega) hB3 58 (by omega) (by omega) ((2 + k : Nat) : Int) (by omega) hq hp (by omega) (by omega) (by rw [hwt]; decide) (by omega))
          have hrowp := row3.low hpb
          have HN : Hid (∀ W4 Z4 x4, x4.zs = sealL key 1 (k : Int) (headR 7 (k : Int) ++ tz) 58 → Cl w0 W4 Z4 g (D1.puts ((2 + k : Nat) : Int) x4) → Step (Z1.also gp) W3 (Z4.also gp) W4 → PowN w0 W W4 Z Z4 key g gp gr ga gn k a3 c3 l ⟨xa, m, xc, tz⟩ D1 (D1.puts ((2 + k : Nat) : Int) x4)) := fun W4 Z4 x4 hx4 C4 s4 =>
            ⟨C4, A3.beside s4 HB.out.ap, N3.beside s4 HB.out.np, row3.beside s4 hrowp (fun y hy h0 p hp => by have := bs_old (HO3.out y hy) h0 hp; have := P3.frm; omega), HLg.out, hkn, .inr ⟨x4, by rw [hkn]; exact hx4, by rw [hkn]⟩, hTx.bytes, by show tz.length ≤ 46; omega, hk2, by rw [puts_len]; omega, HO3.out, fun i o h1 h2 h3 h4 h5 => (HK3.out i o h1 h2 h3 h4 h5).beside s4 h2⟩
          clear C3 P3 R3 A3 V3 L3 N3 row3 hb3 HK3 HO3 HLg hB3 hTx hrowp
          go_wp2_with fail
          refine hA.out.mono ?_
          rintro ex W4 ⟨Z4, x4, rfl, hx4, C4, -, s4⟩
          clear hA
          go_wp2_with fail
          exact ⟨rfl, rfl, k, Z4, a3, c3, l, _, D1, _, HN.out _ _ _ hx4.out C4 s4⟩
        · have hA := hide (add_ok C3 P3 R3 hne (by omega) (by omega) (by omega) (by omega) hB3 58 (by omega) (by omega) ((2 : Nat) + (k : Int)) rfl hq (by omega) (by omega) (by omega) (by rw [hwt]; decide) (by omega))
          clear C3 P3 R3
          go_wp2_with fail
          refine hA.out.mono ?_
          rintro ex W4 ⟨Z4, x4, rfl, hx4, C4, P4, R4, s4⟩
          have A4 := A3.beside2 s4 HB.out.ap HB.out.ar
          have V4 := V3.beside2 s4 HB.out.vp HB.out.vr
          have L4 := L3.beside2 s4 HB.out.lp HB.out.lr
          have N4 := N3.beside2 s4 HB.out.np HB.out.nr
          have hpw := P4.frm
          have hrw := R4.frm
          have row4 := row3.beside2 s4 (row3.low hpb) (fun y hy h0 p hp => by have := bs_old (HO3.out y hy) h0 hp; omega) (row3.low hrb) (fun y hy h0 p hp => by have := bs_old (HO3.out y hy) h0 hp; omega)
          have hb4 : W.heap.size ≤ W4.heap.size := Nat.le_trans hb3 s4.size
          have HK4 : Hid (∀ i o, Has Z W i o → i ≠ gp → i ≠ gr → i ≠ ga → i ≠ gn → Has Z4 W4 i o) := fun i o h1 h2 h3 h4 h5 => (HK3.out i o h1 h2 h3 h4 h5).beside2 s4 h2 h3
          have u1 := N4.var
          have u2 := frozen_of_row W4 gn 0 _ _ N4.1
          have hw1 : IntKind.i64.wrap ((k : Int) + 1) = (k : Int) + 1 := by rw [IntKind.wrap_i64]; omega
          have o1 := OnlyAt.setCell gn 0 W4 (.int .i64 ((k : Int) + 1))
          have hlog : LogP key (D1.done ((2 : Nat) + (k : Int)) x4) (l.map BV.zs ++ [tz]) := HLg.out.next (bt := 1) (sq := (k : Int)) (by omega) (by rw [hkn]; exact hx4.out) (by omega) (by omega) hTx.bytes (by omega) _ (by rw [hkn]; omega)
          obtain ⟨f1, f2, f3, f4⟩ := done_is D1 ((2 : Nat) + (k : Int)) x4
          have f5 := done_len D1 ((2 : Nat) + (k : Int)) x4
          have HI : Hid (PowI w0 W (W4.setCell ⟨gn, 0, none⟩ (.int .i64 ((k : Int) + 1))) Z Z4 key g gp gr gl ga gv gn (some ⟨ub, uoff, none⟩) len cap c (k + 1) a3 c3 (l ++ [⟨xa, m, xc, tz⟩]) (D1.done ((2 : Nat) + (k : Int)) x4)) := hide
            { cl := C4.only o1 N4.2 hfn
              pn := by
                have := (show Pn w0 Z4 (W4.setCell ⟨gn, 0, none⟩ (.int .i64 ((k : Int) + 1))) gp g key 1 ((k : Int) + 1) from ⟨P4.at_.only o1 (Ne.symm HB.out.np), P4.frm, P4.kb, P4.kl, P4.bt, P4.sq⟩)
                rw [show ((k + 1 : Nat) : Int) = (k : Int) + 1 by omega]
                exact this
              rg := by
                rw [show ((k + 1 : Nat) : Int) = (k : Int) + 1 by omega]
                exact R4.only o1 (Ne.symm HB.out.nr)
              hl := L4.only o1 HB.out.ln
              ha := A4.only o1 HB.out.an
              hv := V4.only o1 HB.out.vn
              hn := by
                rw [show ((k + 1 : Nat) : Int) = (k : Int) + 1 by omega]
                exact ⟨nv_set N4.1, N4.2⟩
              row := row4.only o1 hnb (fun y hy h0 p hp => by have := bs_old (HO3.out y hy) h0 hp; omega)
              old := HO3.out
              log := by rw [List.map_append]; exact hlog
              left := by
                have e1 : spendL (c - 2 * (k : Int)) = c - 2 * (k : Int) - 1 := by unfold spendL; rw [if_pos (by omega)]
                have e2 : spendL (c - 2 * (k : Int) - 1) = c - 2 * (k : Int) - 1 - 1 := by unfold spendL; rw [if_pos (by omega)]
                rw [f3, dl, e1, e2]
                omega
              len := by rw [f5]; omega
              st := by rw [o1.size]; exact hb4
              keep := fun i o h1 h2 h3 h4 h5 => (HK4.out i o h1 h2 h3 h4 h5).only o1 h5 }
          clear hA s4 A3 V3 L3 N3 row3 hb3 HK3 HO3 HLg A4 V4 L4 N4 row4 hb4 HK4 hlog C4 P4 R4 f1 f2 f3 f4 f5 hx4 hB3 hTx o1
          go_wp2_with fail
          go_roundw
          case rel => exact ⟨k + 1, Z4, a3, c3, _, _, ⟨by omega, by omega⟩, by go_num, HI.out⟩
          case measure => simp [intOf]; omega
    · exact absurd hk (by omega)
end
#print axioms power1_ok
#print axioms power1_no
end Go.Proofs.YtkpkipjelpedeaaDoor
