
/- The law SuprHolds answers true for every key, epoch, times and choices, wherever quar.rounds reads as its text says and disk.errPower holds its error; nothing that was there is turned. -/
import Derived.Test.YthiinflodgjdjaaDoorUAwake
import Derived.Test.YthiinflodgjdjaaDoorUHold
namespace Go.Proofs.YthiinflodgjdjaaDoor
open Go.RowKit
set_option maxRecDepth 20000

/-- A variable that holds a pen, one that holds a number, one that holds an answer. -/
abbrev pvO (gp : Nat) : Obj := .cells #[.pointer (some ⟨gp, 0, none⟩)] 25 (0, 0)
abbrev hvO (n : Int) : Obj := .cells #[.int .u64 n] 30 (0, 0)
abbrev bvO (b : Bool) : Obj := .cells #[.bool b] 4 (0, 0)
theorem pv_set {w : World} {g a b : Nat} (h : w.heap[g]? = some (pvO a)) : (w.setCell ⟨g, 0, none⟩ (.pointer (some ⟨b, 0, none⟩))).heap[g]? = some (pvO b) := by
  rw [heap_setCell_same w g 0 _ _ _ h]; rfl
theorem hv_set {w : World} {g : Nat} {n m : Int} (h : w.heap[g]? = some (hvO n)) : (w.setCell ⟨g, 0, none⟩ (.int .u64 m)).heap[g]? = some (hvO m) := by
  rw [heap_setCell_same w g 0 _ _ _ h]; rfl
theorem bv_set {w : World} {g : Nat} {n m : Bool} (h : w.heap[g]? = some (bvO n)) : (w.setCell ⟨g, 0, none⟩ (.bool m)).heap[g]? = some (bvO m) := by
  rw [heap_setCell_same w g 0 _ _ _ h]; rfl
theorem Ns.cutN {k : IntKind} {w : World} {a : Option Addr} {len cap : Nat} {zs : List Int} (h : Ns k w a len cap zs) (l : Nat) (hl : l ≤ len) : Ns k w (cutA a cap l) (len - l) (cap - l) (zs.drop l) := by
  have hlc := h.le_cap
  have hcc := h.cap_le
  refine ⟨by rw [List.length_drop, h.length], by omega, by omega, fun z hz => h.wf z (List.mem_of_mem_drop hz), ?_⟩
  unfold cutA
  by_cases hc0 : cap = l
  · exact .inl (by omega)
  · rw [if_neg hc0]
    rcases h.place with h1 | ⟨b, off, rfl, hc⟩
    · omega
    · refine .inr ⟨b, off + l, by simp [addr_add], fun i hi => ?_⟩
      have := hc (l + i) (by omega)
      rw [show off + l + i = off + (l + i) by omega, this]
      congr 2
      simp [List.getD, List.getElem?_drop]
theorem size_i64 : (Tryd.prog.info? 3).map (·.size) = some 1 := by kernel_rfl
theorem cut7 (z : Int) : -1 ≤ IntKind.i64.wrap (bits BinOp.and IntKind.i64 z 7 - 1) ∧ IntKind.i64.wrap (bits BinOp.and IntKind.i64 z 7 - 1) ≤ 6 := by
  rw [i64_and7, IntKind.wrap_i64]
  omega

section
variable {w0 W : World} {Z : Own} {g gp pv hv dn : Nat} {D : DS} {p : Addr} {key : List Int} {boot held : Int}
set_option maxHeartbeats 4000000 in
theorem holds1_ok (h : Cl w0 W Z g D) (P : Pn w0 Z W gp g key boot 0) (hq : Glob w0) (hl : D.left < 0 ∨ 2 ≤ D.left) (hlim : D.tr.length < 1000) (hw : D.wait = []) (hs : D.size = 40) (hh : 0 ≤ held ∧ held < 18446744073709551615) (k : Nat) (hk : (held + 1) % 2 = (k : Int))
    (hp : Has Z W pv (pvO gp)) (hv_ : Has Z W hv (hvO held)) (hd : Has Z W dn (bvO false)) (h1 : pv ≠ gp) (h2 : hv ≠ gp) (h3 : dn ≠ gp) (h4 : w0.heap.size ≤ dn) :
    Calls Tryd.prog 18 #[.pointer (some ⟨pv, 0, none⟩), .pointer (some ⟨hv, 0, none⟩), .pointer (some ⟨dn, 0, none⟩)] W fun e W' => e = .returned (.tuple #[]) ∧
      ∃ Z' x, x.zs = sealL key boot 0 (epoL (held + 1)) 18 ∧ Cl w0 W' Z' g (D.done ((1 + k : Nat) : Int) x) ∧ Pn w0 Z' W' gp g key boot 1 ∧ Has Z' W' dn (bvO true) ∧ Hid (∀ i o, Has Z W i o → i ≠ gp → i ≠ dn → Has Z' W' i o) := by
  have c1 := hp.var
  have c2 := hv_.var
  have hwr : IntKind.u64.wrap (held + 1) = held + 1 := by rw [wrap_u64]; omega
  have HC := hide (ucommit_ok h P hq (by omega) (by omega) (by omega) (by rw [hw]; decide) (by omega) 1 ((1 + k : Nat) : Int) (held + 1) (by omega) (by omega) (by omega) 18 (by omega) (by omega))
  have HD := hide hd
  have hbase := h.size
  clear h P hp hv_ hd hk hw
  go_enter Tryd.func18, Tryd.ntmps18
  go_wp2_with fail
  refine HC.out.mono ?_
  rintro e W1 ⟨Z1, x, rfl, hx, C1, P1, s1⟩
  have D1 := HD.out.beside s1 h3
  have k2 := D1.var
  have f1 := frozen_of_row W1 dn 0 _ _ D1.1
  have o1 := OnlyAt.setCell dn 0 W1 (.bool true)
  have C2 := C1.only o1 D1.2 h4
  have P2 := P1.only o1 (Ne.symm h3)
  have D2 : Has Z1 (W1.setCell ⟨dn, 0, none⟩ (.bool true)) dn (bvO true) := ⟨bv_set D1.1, D1.2⟩
  have HK : Hid (∀ i o, Has Z W i o → i ≠ gp → i ≠ dn → Has Z1 (W1.setCell ⟨dn, 0, none⟩ (.bool true)) i o) := fun i o hi hg hd => (hi.beside s1 hg).only o1 hd
  clear HC HD s1 D1 o1 C1 P1 c1 c2
  go_wp2_with fail
  refine bodyPost_end (results_none rfl _ _ _) rfl ?_
  exact ⟨rfl, Z1, x, hx.out, C2, P2, D2, HK⟩
set_option maxHeartbeats 4000000 in
theorem holds1_no (h : Cl w0 W Z g D) (P : Pn w0 Z W gp g key boot 0) (hq : Glob w0) (hpw : Pow p w0) (hl : D.left = 0 ∨ D.left = 1) (hlim : D.tr.length < 1000) (hw : D.wait = []) (hs : D.size = 40) (hh : 0 ≤ held ∧ held < 18446744073709551615) (k : Nat) (hk : (held + 1) % 2 = (k : Int))
    (hp : Has Z W pv (pvO gp)) (hv_ : Has Z W hv (hvO held)) (hd : Has Z W dn (bvO false)) (h3 : dn ≠ gp) :
    Calls Tryd.prog 18 #[.pointer (some ⟨pv, 0, none⟩), .pointer (some ⟨hv, 0, none⟩), .pointer (some ⟨dn, 0, none⟩)] W fun e W' => e = .panicked [{ v := errV p, recovered := false }] ∧
      ∃ Z' D' sq, Broken key D held boot 0 k D' ∧ Cl w0 W' Z' g D' ∧ Pn w0 Z' W' gp g key boot sq ∧ Has Z' W' dn (bvO false) ∧ Hid (∀ i o, Has Z W i o → i ≠ gp → i ≠ dn → Has Z' W' i o) := by
  have c1 := hp.var
  have c2 := hv_.var
  have hwr : IntKind.u64.wrap (held + 1) = held + 1 := by rw [wrap_u64]; omega
  rcases hl with hl | hl
  · have HC := hide (ucommit_off h P hq hpw hl 1 (held + 1) (by omega) 18 (by omega) (by omega))
    have HH := hide h
    have HP := hide P
    have HD := hide hd
    clear h P hp hv_ hd hk hw
    go_enter Tryd.func18, Tryd.ntmps18
    go_wp2_with fail
    refine HC.out.mono ?_
    rintro e W1 ⟨rfl, b1⟩
    have C1 := HH.out.below b1
    have P1 := HP.out.below b1
    have D1 := HD.out.below b1
    have HK : Hid (∀ i o, Has Z W i o → i ≠ gp → i ≠ dn → Has Z W1 i o) := fun i o hi _ _ => hi.below b1
    clear HC HH HP HD b1 c1 c2
    go_wp2_with fail
    exact ⟨rfl, rfl, Z, D, 0, .inl rfl, C1, P1, D1, HK⟩
  · have HC := hide (ucommit_cut h P hq hpw hl (by omega) (by rw [hw]; decide) (by omega) 1 ((1 + k : Nat) : Int) (held + 1) (by omega) (by omega) (by omega) 18 (by omega) (by omega))
    have HD := hide hd
    clear h P hp hv_ hd hk hw
    go_enter Tryd.func18, Tryd.ntmps18
    go_wp2_with fail
    refine HC.out.mono ?_
    rintro e W1 ⟨Z1, x, rfl, hx, C1, P1, s1⟩
    have D1 := HD.out.beside s1 h3
    have HK : Hid (∀ i o, Has Z W i o → i ≠ gp → i ≠ dn → Has Z1 W1 i o) := fun i o hi hg _ => hi.beside s1 hg
    clear HC HD s1 c1 c2
    go_wp2_with fail
    exact ⟨rfl, rfl, Z1, _, 1, .inr ⟨x, hx.out, rfl⟩, C1, P1, D1, HK⟩
end
#print axioms holds1_ok
#print axioms holds1_no

/-- What a round finds. -/
structure HoldI (w wr : World) (Z : Own) (key : List Int) (g gp pv hv k : Nat) (D : DS) (first held : Int) : Prop where
  cl : Cl w wr Z g D
  kk : Has Z wr w.heap.size (.cells (bV key) 27 (0, 0))
  pvh : Has Z wr pv (pvO gp)
  hvh : Has Z wr hv (hvO held)
  gpl : gp < wr.heap.size
  ord : w.heap.size < pv ∧ pv < hv
  holds : Holds key D held
  quiet : Quiet D
  left : D.left = -1
  len : D.tr.length ≤ 5 * k + 2
  top : held ≤ first + k

set_option maxRecDepth 100000 in
set_option maxHeartbeats 16000000 in
theorem suprHolds_walk (key : List Int) (first : Int) {a : Option Addr} {la ca : Nat} {xs : List Int} {b : Option Addr} {lb cb : Nat} {ch : List Int} {p : Addr} (w : World) (hk : IsBytes key) (hkl : key.length = 32) (hf : 0 ≤ first ∧ first < 18446744073709551616) (ha : Ns .i64 w a la ca xs) (hb : Ns .i64 w b lb cb ch) (hq : Glob w) (hp : Pow p w) :
    Calls Tryd.prog 5 #[.agg (bV key), .int .u64 first, .slice a la ca, .slice b lb cb] w fun e w' => e = .returned (.bool true) ∧ Below w.heap.size w w' := by
  have hla := ha.le_cap
  have hca := ha.cap_le
  have hlb := hb.le_cap
  have hcb := hb.cap_le
  have hmf : ∀ (fn : Fn) (first cap : Array Value) (w : World), (Instr.makeFunc fn first cap).run Tryd.prog w = .ok (.func fn first cap) w := fun _ _ _ _ => rfl
  have e1 : ∀ args w, (callFunc 18 args).run Tryd.prog w = .ok (.enter 18 args) w := enters_of Tryd.func18 (by kernel_rfl) rfl
  obtain ⟨F, hFm⟩ : ∃ F, first % 4294967296 = F := ⟨_, rfl⟩
  have hfm : bits .and .u64 first 4294967295 = F := by rw [u64_and32 first hf, hFm]
  have hFb : 0 ≤ F ∧ F < 4294967296 := by omega
  clear hFm hf
  have hS := KK.start w key hq
  go_enter Tryd.func5, Tryd.ntmps5
  go_wp2_with fail
  have hbw := hS.bel
  have kk0 := hS.kk
  generalize (w.alloc (Obj.cells (bV key) 27)) = W0 at *
  refine (new_any 4 40 4 40 rfl rfl W0).mono ?_
  rintro e W ⟨g, Z, rfl, hD, hF, hB⟩
  have C : Cl w W Z g (DS.new 4 40) := ⟨hD, fun k hk => Nat.le_trans hbw.size (hF k hk), hbw.trans (hB.mono hbw.size)⟩
  have kk : Has Z W w.heap.size (.cells (bV key) 27 (0, 0)) := ⟨(kk0.below hB : OwnB _ _ _ _), fun hs => by have := hF _ hs; have := kk0.lt; omega⟩
  clear hD hF hB hS kk0 hbw
  have kk1 := kk.1
  have hqW : Glob W := hq.below C.bel hq.lt
  have hA := hide (blank_any key 40 W hk hkl (by omega) hqW)
  obtain ⟨B, hB⟩ : ∃ B, openB key (zL 40) = B := ⟨_, rfl⟩
  rw [hB] at hA
  cases B with
  | true =>
    go_wp2_with (refine wpList_loadA arrT32 (by rfl) _ (by rfl) w.heap.size (by rfl) (bV key) kk1 (by rw [bV_size, hkl]) ?_)
    refine hA.out.mono ?_
    rintro e W2 ⟨rfl, b2⟩
    have hb2 := C.bel.trans (b2.mono C.bel.size)
    go_wp2_with fail
    refine (awake_any W2 (hqW.below b2 hqW.lt)).mono ?_
    rintro e W3 ⟨rfl, b3⟩
    have hb3 := hb2.trans (b3.mono hb2.size)
    go_wp2_with fail
    go_ret
    exact ⟨rfl, hb3⟩
  | false =>
    go_wp2_with (refine wpList_loadA arrT32 (by rfl) _ (by rfl) w.heap.size (by rfl) (bV key) kk1 (by rw [bV_size, hkl]) ?_)
    refine hA.out.mono ?_
    rintro e W1 ⟨rfl, b1⟩
    replace C := C.below b1
    replace kk := kk.below b1
    have kk1 := kk.1
    clear hA b1 hqW
    go_wp2_with (refine wpList_loadA arrT32 (by rfl) _ (by rfl) w.heap.size (by rfl) (bV key) kk1 (by rw [bV_size, hkl]) ?_)
    refine (pen_new C hk hkl (boot := 1) (by omega)).mono ?_
    rintro e W2 ⟨gp, rfl, hgp, P, b2⟩
    have hgk : w.heap.size < gp := Nat.lt_of_lt_of_le kk.lt hgp
    replace C := C.below b2
    replace kk := kk.below b2
    clear b2 kk1 hgp
    go_wp2_with fail
    have V := C.new (pvO gp)
    have hgpl := P.lt
    have hkpv := kk.lt
    replace C := C.alloc (pvO gp)
    replace P := P.alloc (pvO gp)
    replace kk := kk.alloc (pvO gp)
    generalize (W2.alloc (pvO gp)) = W3 at *
    generalize W2.heap.size = pv at *
    obtain ⟨k0, hk0, hk02⟩ : ∃ k : Nat, F % 2 = (k : Int) ∧ k < 2 := ⟨(F % 2).toNat, by omega, by omega⟩
    refine (ucommit_ok C P hq (by decide) (by decide) (by decide) (by decide) (by omega) 1 ((1 + k0 : Nat) : Int) F (by omega) (by omega) (by omega) 18 rfl (by omega)).mono ?_
    rintro e W4 ⟨Z4, x, rfl, hx, C4, P4, s4⟩
    have V4 := V.beside s4 (by omega)
    have kk4 := kk.beside s4 (by omega)
    have hH4 : Holds key ((DS.new 4 40).done ((1 + k0 : Nat) : Int) x) F := Holds.start x F 1 0 k0 hk0 hk02 (by omega) (by omega) (by omega) hx.out hB
    have hQ4 := quiet_done (DS.new 4 40) ((1 + k0 : Nat) : Int) x
    have hl4 : ((DS.new 4 40).done ((1 + k0 : Nat) : Int) x).left = -1 := (done_is (DS.new 4 40) ((1 + k0 : Nat) : Int) x).2.2.1
    have hn4 : ((DS.new 4 40).done ((1 + k0 : Nat) : Int) x).tr.length = 2 := done_len (DS.new 4 40) ((1 + k0 : Nat) : Int) x
    generalize (DS.new 4 40).done ((1 + k0 : Nat) : Int) x = D4 at *
    have hpl := V4.lt
    have hgl := P4.lt
    have H4 := C4.new (hvO F)
    clear C P V kk s4 P4 hx
    replace C4 := C4.alloc (hvO F)
    replace V4 := V4.alloc (hvO F)
    replace kk4 := kk4.alloc (hvO F)
    go_wp2_with fail
    have hsz4 : (W4.alloc (hvO F)).heap.size = W4.heap.size + 1 := size_alloc _ _
    generalize (W4.alloc (hvO F)) = W5 at *
    generalize W4.heap.size = hv at *
    have HI0 : Hid (HoldI w W5 Z4 key g gp pv hv 0 D4 F F) := hide ⟨C4, kk4, V4, H4, by omega, ⟨hkpv, hpl⟩, hH4, hQ4, hl4, by omega, by omega⟩
    clear C4 kk4 V4 H4 hH4 hQ4 hl4 hn4 hsz4 hpl hgl
    go_loopw [12] (fun v wr => ∃ (k : Nat) (Z : Own) (D : DS) (held : Int) (gq : Nat), k ≤ la ∧ k ≤ 30 ∧ v = .int .i64 (k : Int) ∧ HoldI w wr Z key g gq pv hv k D F held) (fun v _ => 30 - (intOf v).toNat)
    case atStart => exact ⟨0, Z4, D4, F, gp, Nat.zero_le _, Nat.zero_le _, rfl, HI0.out⟩
    case round =>
      clear HI0 hgk hgpl hkpv
      obtain ⟨k, Z1, D, held, gq, hkl2, hk30, rfl, hI⟩ := hrel
      by_cases hka : k < la
      · by_cases h30 : k < 30
        · have hz0 := int_of_wf (ha.getD k hka)
          obtain ⟨tb, toff, rfl, hcw⟩ : ∃ tb toff, a = some ⟨tb, toff, none⟩ ∧ w.cell? ⟨tb, toff + k, none⟩ = some (.int .i64 (xs.getD k 0)) := by
            rcases ha.place with h | ⟨tb, toff, e, hc⟩
            · omega
            · exact ⟨tb, toff, e, hc k hka⟩
          have htb := World.block_lt_of_cell? w _ hcw
          generalize xs.getD k 0 = z at *
          have hcc : (-1 : Int) ≤ wrap64 (bits BinOp.and IntKind.i64 z 7 - 1) ∧ wrap64 (bits BinOp.and IntKind.i64 z 7 - 1) ≤ 6 := by
            have := cut7 z
            rw [IntKind.wrap_i64] at this
            unfold wrap64
            omega
          have hw1 : IntKind.u32.wrap (k : Int) = (k : Int) := by simp [IntKind.wrap, IntKind.bits, IntKind.signed]; omega
          have hw2 : IntKind.u32.wrap ((k : Int) + 2) = (k : Int) + 2 := by simp [IntKind.wrap, IntKind.bits, IntKind.signed]; omega
          have C := hI.cl
          have kk := hI.kk
          have V := hI.pvh
          have H := hI.hvh
          have hord := hI.ord
          have hH := hI.holds
          have hQ := hI.quiet
          have hleft := hI.left
          have hlen := hI.len
          have htop := hI.top
          have hgql := hI.gpl
          clear hI
          have hnn := hH.nn
          have kk1 := kk.1
          have HHold := hide (And.intro hH hQ)
          have hDw := hH.wait
          have hDs := hH.size
          clear hH hQ
          obtain ⟨j, hj, hj2⟩ : ∃ j : Nat, (held + 1) % 2 = (j : Int) ∧ j < 2 := ⟨((held + 1) % 2).toNat, by omega, by omega⟩
          go_wp2_with (refine wpList_loadA arrT32 (by rfl) _ (by rfl) w.heap.size (by rfl) (bV key) kk1 (by rw [bV_size, hkl]) ?_)
          refine (pen_new C hk hkl (boot := (k : Int) + 2) (by omega)).mono ?_
          rintro e W6 ⟨gp, rfl, hgp, P, b6⟩
          replace C := C.below b6
          replace kk := kk.below b6
          have hHl := Nat.lt_of_lt_of_le H.lt hgp
          replace V := V.below b6
          replace H := H.below b6
          clear b6 kk1
          have m1 := V.var
          have m2 := frozen_of_row W6 pv 0 _ _ V.1
          have o1 := OnlyAt.setCell pv 0 W6 (.pointer (some ⟨gp, 0, none⟩))
          have V2 : Has Z1 (W6.setCell ⟨pv, 0, none⟩ (.pointer (some ⟨gp, 0, none⟩))) pv (pvO gp) := ⟨pv_set V.1, V.2⟩
          replace C := C.only o1 V.2 (by omega)
          replace P := P.only o1 (by omega)
          replace kk := kk.only o1 (by omega)
          replace H := H.only o1 (by omega)
          clear o1 V hgp
          have t1 : (W6.setCell ⟨pv, 0, none⟩ (.pointer (some ⟨gp, 0, none⟩))).cell? ⟨tb, toff + k, none⟩ = some (.int .i64 z) := (C.bel.cell htb).trans hcw
          have t2 := V2.var
          go_wp2_with fail
          clear t1 t2 m1 m2
          generalize (W6.setCell ⟨pv, 0, none⟩ (.pointer (some ⟨gp, 0, none⟩))) = W7 at *
          generalize wrap64 (bits BinOp.and IntKind.i64 z 7 - 1) = c at hcc ⊢
          refine (C.cut (by rw [hleft]; decide) c (by omega)).mono ?_
          rintro e W8 ⟨rfl, C8, s8⟩
          replace P := P.step s8
          replace kk := kk.step s8
          replace V2 := V2.step s8
          replace H := H.step s8
          clear C s8 hw1 hw2 hz0 hcw
          have N := C8.new (bvO false)
          have hpl8 := P.lt
          have hhl8 := H.lt
          have hbase8 := C8.size
          replace C8 := C8.alloc (bvO false)
          replace P := P.alloc (bvO false)
          replace kk := kk.alloc (bvO false)
          replace V2 := V2.alloc (bvO false)
          replace H := H.alloc (bvO false)
          go_wp2_with fail
          generalize (W8.alloc (bvO false)) = W9 at *
          generalize W8.heap.size = dn at *
          by_cases hc : c < 0 ∨ 2 ≤ c
          · have HT := hide (try_ok e1 (holds1_ok C8 P hq (by show c < 0 ∨ 2 ≤ c; omega) (by show D.tr.length < 1000; omega) hDw hDs (by omega) j hj V2 H N (by omega) (by omega) (by omega) (by omega)))
            clear C8 P
            refine HT.out.mono ?_
            rintro e W10 ⟨rfl, Z10, x, hx, C10, P10, N10, HK⟩
            have kk10 := HK.out _ _ kk (by omega) (by omega)
            have V10 := HK.out _ _ V2 (by omega) (by omega)
            have H10 := HK.out _ _ H (by omega) (by omega)
            clear HT kk V2 H N HK
            have htr9 : (DS.done { D with left := c } ((1 + j : Nat) : Int) x).tr.length = D.tr.length + 2 := done_len { D with left := c } ((1 + j : Nat) : Int) x
            have hD9s : (DS.done { D with left := c } ((1 + j : Nat) : Int) x).size = D.size := (done_is { D with left := c } ((1 + j : Nat) : Int) x).1
            have HOK : Hid (∀ (bb : Nat → BV × BV) (ch' : List Int), zOf bb = crashN (DS.done { D with left := c } ((1 + j : Nat) : Int) x).size ch' (zOf (DS.done { D with left := c } ((1 + j : Nat) : Int) x).blk) (wz (DS.done { D with left := c } ((1 + j : Nat) : Int) x).wait) → Holds key ((DS.done { D with left := c } ((1 + j : Nat) : Int) x).crash bb) (held + 1)) := fun bb ch' hz =>
              hold_ok HHold.out.1 hj hj2 (by omega) (by omega) (by omega) hx hz
            generalize (DS.done { D with left := c } ((1 + j : Nat) : Int) x) = D9 at *
            obtain ⟨m, hmin, hmle⟩ : ∃ m : Nat, min (k : Int) (lb : Int) = (m : Int) ∧ m ≤ lb := ⟨min k lb, by omega, by omega⟩
            have hs1 := run_cut_from (P := Tryd.prog) Tryd.underlying48 size_i64 b lb cb .i64 (m : Int) m rfl (by omega)
            have hNs := (hb.cutN m (by omega)).below C10.bel
            generalize cutA b cb m = q at *
            have kk1 := kk10.1
            have d1 := N10.var
            go_wp2_with (refine wpList_loadA arrT32 (by rfl) _ (by rfl) w.heap.size (by rfl) (bV key) kk1 (by rw [bV_size, hkl]) ?_)
            refine (fair_any C10 hq key hk hkl (by rw [hD9s]; omega) (by omega) hNs).mono ?_
            rintro e W11 ⟨pf, nf, cf, rfl, hNz, b11⟩
            have C11 := C10.below b11
            have P11 := P10.below b11
            have kk11 := kk10.below b11
            have V11 := V10.below b11
            have H11 := H10.below b11
            have N11 := N10.below b11
            clear C10 P10 kk10 V10 H10 N10 b11 kk1 d1 hNs hs1
            go_wp2_with fail
            refine (C11.crash (by omega) hNz).mono ?_
            rintro e W12 ⟨Z12, bb, rfl, hbb, C12, s12⟩
            have P12 := P11.step s12
            have kk12 := kk11.step s12
            have V12 := V11.step s12
            have H12 := H11.step s12
            have N12 := N11.step s12
            clear C11 P11 kk11 V11 H11 N11 s12 hNz
            obtain ⟨hH, hQ⟩ := HHold.out

            have hH12 := HOK.out bb _ hbb.out

            have hQ12 := quiet_crash D9 bb
            have hl12 : (D9.crash bb).left = -1 := rfl
            have ht12 : (D9.crash bb).tr.length = D9.tr.length + 1 := by show (D9.tr ++ [_]).length = _; simp
            clear hbb hH hQ HHold hD9s HOK
            generalize D9.crash bb = D12 at *
            have hn4 := hH12.n
            obtain ⟨V0, V1, B0, B1, r0, r1, r2, r3, r4, r5⟩ := hH12.last
            have sh1 : D12.shows 1 = D12.at_ 1 := shows_nat 1 rfl (by omega)
            have sh2 : D12.shows (1 + 1) = D12.at_ 2 := shows_nat 2 rfl (by omega)
            have HL := hide (ulast_any C12 P12 hq (by rw [hl12]; decide) (by rw [hl12]; decide) (by omega) 1 (by omega) V0 V1 B0 B1 (by rw [sh1]; exact r0) (by rw [sh1]; exact r1) (by rw [sh2]; exact r2) (by rw [sh2]; exact r3))
            rw [r4, r5] at HL
            have v12 := V12.var
            have hlen3 := scan_len D12 1
            have hleft3 : (D12.scan 1).left = -1 := by rw [(scan_is D12 1).2.2.1, hl12]; rfl
            have hH13 := hH12.still 1
            have hQ13 := hQ12.scan 1
            clear sh1 sh2 C12 P12 r0 r1 r2 r3 r4 r5 hH12 hQ12 hl12 hn4
            go_wp2_with fail
            refine HL.out.mono ?_
            rintro e W13 ⟨Z13, rfl, C13, P13, s13⟩
            have kk13 := kk12.step s13
            have V13 := V12.step s13
            have H13 := H12.step s13
            have N13 := N12.step s13
            clear HL kk12 V12 H12 N12 s13 v12
            have a1 := H13.var
            have a2 := N13.var
            have a3 := frozen_of_row W13 hv 0 _ _ H13.1
            have hgl13 := P13.lt
            have o1 := OnlyAt.setCell hv 0 W13 (.int .u64 (held + 1))
            have C14 := C13.only o1 H13.2 (by omega)
            have kk14 := kk13.only o1 (by omega)
            have V14 := V13.only o1 (by omega)
            have H14 : Has Z13 (W13.setCell ⟨hv, 0, none⟩ (.int .u64 (held + 1))) hv (hvO (held + 1)) := ⟨hv_set H13.1, H13.2⟩
            have hsz14 : (W13.setCell ⟨hv, 0, none⟩ (.int .u64 (held + 1))).heap.size = W13.heap.size := o1.size
            have HI : Hid (HoldI w (W13.setCell ⟨hv, 0, none⟩ (.int .u64 (held + 1))) Z13 key g gp pv hv (k + 1) (D12.scan 1) F (held + 1)) := hide
              ⟨C14, kk14, V14, H14, by omega, hord, hH13, hQ13, hleft3, by omega, by omega⟩
            clear C13 P13 kk13 V13 H13 N13 C14 kk14 V14 H14 hH13 hQ13 hleft3 hlen3 o1 hsz14
            have hwr : IntKind.u64.wrap (held + 1) = held + 1 := by rw [wrap_u64]; omega
            have hne : ((held + 1) != held) = true := by simp; omega
            go_wp2_with fail
            go_roundw
            case rel => exact ⟨k + 1, Z13, _, _, gp, by omega, by omega, by go_num, HI.out⟩
            case measure => simp [intOf]; omega
          · have HT := hide (try_no e1 (holds1_no C8 P hq hp (by show c = 0 ∨ c = 1; omega) (by show D.tr.length < 1000; omega) hDw hDs (by omega) j hj V2 H N (by omega)) (fun w' hR => by obtain ⟨Z', D', sq, _, C', _⟩ := hR; exact C'.pow hp))
            clear C8 P
            refine HT.out.mono ?_
            rintro e W10 ⟨rfl, Z10, D9, sq, hCut, C10, P10, N10, HK⟩
            have kk10 := HK.out _ _ kk (by omega) (by omega)
            have V10 := HK.out _ _ V2 (by omega) (by omega)
            have H10 := HK.out _ _ H (by omega) (by omega)
            clear HT kk V2 H N HK
            have htr9 := hCut.len
            replace htr9 : D9.tr.length ≤ D.tr.length + 1 := htr9
            have hD9s : D9.size = D.size := hCut.size
            obtain ⟨m, hmin, hmle⟩ : ∃ m : Nat, min (k : Int) (lb : Int) = (m : Int) ∧ m ≤ lb := ⟨min k lb, by omega, by omega⟩
            have hs1 := run_cut_from (P := Tryd.prog) Tryd.underlying48 size_i64 b lb cb .i64 (m : Int) m rfl (by omega)
            have hNs := (hb.cutN m (by omega)).below C10.bel
            generalize cutA b cb m = q at *
            have kk1 := kk10.1
            have d1 := N10.var
            go_wp2_with (refine wpList_loadA arrT32 (by rfl) _ (by rfl) w.heap.size (by rfl) (bV key) kk1 (by rw [bV_size, hkl]) ?_)
            refine (fair_any C10 hq key hk hkl (by rw [hD9s]; omega) (by omega) hNs).mono ?_
            rintro e W11 ⟨pf, nf, cf, rfl, hNz, b11⟩
            have C11 := C10.below b11
            have P11 := P10.below b11
            have kk11 := kk10.below b11
            have V11 := V10.below b11
            have H11 := H10.below b11
            have N11 := N10.below b11
            clear C10 P10 kk10 V10 H10 N10 b11 kk1 d1 hNs hs1
            go_wp2_with fail
            refine (C11.crash (by omega) hNz).mono ?_
            rintro e W12 ⟨Z12, bb, rfl, hbb, C12, s12⟩
            have P12 := P11.step s12
            have kk12 := kk11.step s12
            have V12 := V11.step s12
            have H12 := H11.step s12
            have N12 := N11.step s12
            clear C11 P11 kk11 V11 H11 N11 s12 hNz
            obtain ⟨hH, hQ⟩ := HHold.out

            obtain ⟨n12, hn12, hH12⟩ := hold_cut hH hQ hj hj2 (by omega) (by omega) (by omega) hCut hbb.out

            have hQ12 := quiet_crash D9 bb
            have hl12 : (D9.crash bb).left = -1 := rfl
            have ht12 : (D9.crash bb).tr.length = D9.tr.length + 1 := by show (D9.tr ++ [_]).length = _; simp
            clear hbb hH hQ HHold hD9s hCut
            generalize D9.crash bb = D12 at *
            have hn4 := hH12.n
            obtain ⟨V0, V1, B0, B1, r0, r1, r2, r3, r4, r5⟩ := hH12.last
            have sh1 : D12.shows 1 = D12.at_ 1 := shows_nat 1 rfl (by omega)
            have sh2 : D12.shows (1 + 1) = D12.at_ 2 := shows_nat 2 rfl (by omega)
            have HL := hide (ulast_any C12 P12 hq (by rw [hl12]; decide) (by rw [hl12]; decide) (by omega) 1 (by omega) V0 V1 B0 B1 (by rw [sh1]; exact r0) (by rw [sh1]; exact r1) (by rw [sh2]; exact r2) (by rw [sh2]; exact r3))
            rw [r4, r5] at HL
            have v12 := V12.var
            have hlen3 := scan_len D12 1
            have hleft3 : (D12.scan 1).left = -1 := by rw [(scan_is D12 1).2.2.1, hl12]; rfl
            have hH13 := hH12.still 1
            have hQ13 := hQ12.scan 1
            clear sh1 sh2 C12 P12 r0 r1 r2 r3 r4 r5 hH12 hQ12 hl12 hn4
            go_wp2_with fail
            refine HL.out.mono ?_
            rintro e W13 ⟨Z13, rfl, C13, P13, s13⟩
            have kk13 := kk12.step s13
            have V13 := V12.step s13
            have H13 := H12.step s13
            have N13 := N12.step s13
            clear HL kk12 V12 H12 N12 s13 v12
            have a1 := H13.var
            have a2 := N13.var
            have a3 := frozen_of_row W13 hv 0 _ _ H13.1
            have hgl13 := P13.lt
            have o1 := OnlyAt.setCell hv 0 W13 (.int .u64 n12)
            have C14 := C13.only o1 H13.2 (by omega)
            have kk14 := kk13.only o1 (by omega)
            have V14 := V13.only o1 (by omega)
            have H14 : Has Z13 (W13.setCell ⟨hv, 0, none⟩ (.int .u64 n12)) hv (hvO n12) := ⟨hv_set H13.1, H13.2⟩
            have hsz14 : (W13.setCell ⟨hv, 0, none⟩ (.int .u64 n12)).heap.size = W13.heap.size := o1.size
            have HI : Hid (HoldI w (W13.setCell ⟨hv, 0, none⟩ (.int .u64 n12)) Z13 key g gp pv hv (k + 1) (D12.scan 1) F n12) := hide
              ⟨C14, kk14, V14, H14, by omega, hord, hH13, hQ13, hleft3, by omega, by omega⟩
            clear C13 P13 kk13 V13 H13 N13 C14 kk14 V14 H14 hH13 hQ13 hleft3 hlen3 o1 hsz14
            have hwr : IntKind.u64.wrap (held + 1) = held + 1 := by rw [wrap_u64]; omega
            rcases hn12 with rfl | rfl
            · go_wp2_with fail
              go_roundw
              case rel => exact ⟨k + 1, Z13, _, _, gp, by omega, by omega, by go_num, HI.out⟩
              case measure => simp [intOf]; omega
            · have hne : ((held + 1) != held) = true := by simp; omega
              go_wp2_with fail
              go_roundw
              case rel => exact ⟨k + 1, Z13, _, _, gp, by omega, by omega, by go_num, HI.out⟩
              case measure => simp [intOf]; omega
        · have h30b : ¬ (k : Int) < 30 := by omega
          go_wp2_with fail
          refine (awake_any wr (hq.below hI.cl.bel hq.lt)).mono ?_
          rintro e w1 ⟨rfl, b1⟩
          have hb1 := hI.cl.bel.trans (b1.mono hI.cl.bel.size)
          go_wp2_with fail
          go_ret
          exact ⟨rfl, hb1⟩
      · have hkab : ¬ (k : Int) < (la : Int) := by omega
        go_wp2_with fail
        refine (awake_any wr (hq.below hI.cl.bel hq.lt)).mono ?_
        rintro e w1 ⟨rfl, b1⟩
        have hb1 := hI.cl.bel.trans (b1.mono hI.cl.bel.size)
        go_wp2_with fail
        go_ret
        exact ⟨rfl, hb1⟩
#print axioms suprHolds_walk
end Go.Proofs.YthiinflodgjdjaaDoor
