/- The walk of dumbwaiterlaw6.DiskCuts: for any number and any kinds it answers true; nothing that was there is turned. -/
import Derived.Test.YtlicafjhkbofbaaDoorKAwake
namespace Go.Proofs.YtlicafjhkbofbaaDoor
open Go.RowKit

theorem i64_and3 (n : Int) : bits .and .i64 n 3 = n % 4 := i64_mask n 2 (by decide) 3 (by decide)
/-- A variable that holds the device, one that holds a number, one that holds a slice. -/
abbrev dvO (g : Nat) : Obj := .cells #[.pointer (some ⟨g, 0, none⟩)] 24 (0, 0)
abbrev ivO (k : Nat) : Obj := .cells #[.int .i64 (k : Int)] 3 (0, 0)
abbrev ovO (k : Int) : Obj := .cells #[.int .i64 k] 3 (0, 0)
abbrev kvO (b : Option Addr) (ln cp : Nat) : Obj := .cells #[.slice b ln cp] 37 (0, 0)

theorem ov_set {w : World} {g : Nat} (h : w.heap[g]? = some (ovO 0)) : (w.setCell ⟨g, 0, none⟩ (.int .i64 1)).heap[g]? = some (ovO 1) := by
  rw [heap_setCell_same w g 0 _ _ _ h]
  rfl
/-- One step more was done. -/
structure More (D D' : DS) : Prop where
  size : D'.size = D.size
  n : D'.n = D.n
  left : D'.left = spendL D.left
  tr : D'.tr.length = D.tr.length + 1
  wait : D'.wait.length ≤ D.wait.length + 1

section
variable {w0 W : World} {Z : Own} {g dv iv kv k : Nat} {D : DS} {tb toff ln cp : Nat} {z : Int}

set_option maxHeartbeats 4000000 in
theorem cuts1_ok (h : Cl w0 W Z g D) (hl : ¬ D.left = 0) (hlim : D.tr.length < 1000) (hlw : D.wait.length < 1000) (hn : D.n = 4) (hs : D.size = 2) (hk : k < 256) (hkl : k < ln) (hcp : ln ≤ 9223372036854775807) (hd : Has Z W dv (dvO g)) (hi : Has Z W iv (ivO k)) (hv : Has Z W kv (kvO (some ⟨tb, toff, none⟩) ln cp)) (hz : W.cell? ⟨tb, toff + k, none⟩ = some (.int .i64 z)) :
    Calls Tryd.prog 26 #[.pointer (some ⟨kv, 0, none⟩), .pointer (some ⟨iv, 0, none⟩), .pointer (some ⟨dv, 0, none⟩)] W fun e W' => e = .returned (.tuple #[]) ∧ ∃ Z' D', Cl w0 W' Z' g D' ∧ Step Z W Z' W' ∧ More D D' := by
  have c1 := hd.var
  have c2 := hi.var
  have c3 := hv.var
  have m1 := i64_and3 z
  have hc : z % 4 = 0 ∨ z % 4 = 1 ∨ z % 4 = 2 ∨ z % 4 = 3 := by omega
  have hw : IntKind.u8.wrap (k : Int) = (k : Int) := by simp [IntKind.wrap, IntKind.bits, IntKind.signed]; omega
  have L := h.new (.cells #[.int .u8 (k : Int)] 5)
  have C := h.alloc (.cells #[.int .u8 (k : Int)] 5)
  have hby : IsBytes [(k : Int)] := IsBytes.cons ⟨by omega, by omega⟩ IsBytes.nil
  have b := L.bz (zs := [(k : Int)]) hby 1 rfl (by omega)
  have HW := hide (C.write hl (by omega) (by omega) 2 (by omega) b _ rfl)
  have HR := hide (h.read hl (by omega) 1 (by omega) 2 _ hs rfl)
  have HF := hide (h.flush hl (by omega))
  have s0 := Step.of_below Z (below_alloc (Below.refl _ W) (.cells #[.int .u8 (k : Int)] 5))
  clear h L C b hd hi hv
  generalize z % 4 = c at *
  rcases hc with rfl | rfl | rfl | rfl
  · go_enter Tryd.func26, Tryd.ntmps26
    go_wp2_with fail
    refine HR.out.mono ?_
    rintro e W1 ⟨ka, Z1, rfl, _, _, C1, s1⟩
    go_wp2_with fail
    refine bodyPost_end (results_none rfl _ _ _) rfl ?_
    exact ⟨rfl, Z1, _, C1, s1, ⟨rfl, rfl, rfl, List.length_append .., Nat.le_succ _⟩⟩
  · go_enter Tryd.func26, Tryd.ntmps26
    go_wp2_with fail
    refine HF.out.mono ?_
    rintro e W1 ⟨Z1, rfl, C1, s1⟩
    go_wp2_with fail
    refine bodyPost_end (results_none rfl _ _ _) rfl ?_
    exact ⟨rfl, Z1, _, C1, s1, ⟨rfl, rfl, rfl, List.length_append .., Nat.zero_le _⟩⟩
  all_goals
    go_enter Tryd.func26, Tryd.ntmps26
    go_wp2_with fail
    refine HW.out.mono ?_
    rintro e W1 ⟨Z1, x, rfl, _, C1, s1⟩
    go_wp2_with fail
    refine bodyPost_end (results_none rfl _ _ _) rfl ?_
    exact ⟨rfl, Z1, _, C1, s0.trans s1, ⟨rfl, rfl, rfl, List.length_append .., Nat.le_of_eq (List.length_append ..)⟩⟩

set_option maxHeartbeats 4000000 in
theorem cuts1_no {p : Addr} (h : Cl w0 W Z g D) (hp : Pow p w0) (hl : D.left = 0) (hk : k < 256) (hkl : k < ln) (hd : Has Z W dv (dvO g)) (hi : Has Z W iv (ivO k)) (hv : Has Z W kv (kvO (some ⟨tb, toff, none⟩) ln cp)) (hz : W.cell? ⟨tb, toff + k, none⟩ = some (.int .i64 z)) :
    Calls Tryd.prog 26 #[.pointer (some ⟨kv, 0, none⟩), .pointer (some ⟨iv, 0, none⟩), .pointer (some ⟨dv, 0, none⟩)] W fun e W' => e = .panicked [{ v := errV p, recovered := false }] ∧ Below W.heap.size W W' := by
  have c1 := hd.var
  have c2 := hi.var
  have c3 := hv.var
  have m1 := i64_and3 z
  have hc : z % 4 = 0 ∨ z % 4 = 1 ∨ z % 4 = 2 ∨ z % 4 = 3 := by omega
  have hw : IntKind.u8.wrap (k : Int) = (k : Int) := by simp [IntKind.wrap, IntKind.bits, IntKind.signed]; omega
  have C := h.alloc (.cells #[.int .u8 (k : Int)] 5)
  have HW := hide (write_no C.dk (C.pow hp) hl 2 (.slice (some ⟨W.heap.size, 0, none⟩) 1 1))
  have HR := hide (read_no h.dk (h.pow hp) hl 1)
  have HF := hide (flush_no h.dk (h.pow hp) hl)
  have b0 := below_alloc (Below.refl _ W) (.cells #[.int .u8 (k : Int)] 5)
  clear h C hd hi hv
  generalize z % 4 = c at *
  rcases hc with rfl | rfl | rfl | rfl
  · go_enter Tryd.func26, Tryd.ntmps26
    go_wp2_with fail
    refine HR.out.mono ?_
    rintro e W1 ⟨rfl, rfl⟩
    go_wp2_with fail
    exact ⟨rfl, rfl, Below.refl _ _⟩
  · go_enter Tryd.func26, Tryd.ntmps26
    go_wp2_with fail
    refine HF.out.mono ?_
    rintro e W1 ⟨rfl, rfl⟩
    go_wp2_with fail
    exact ⟨rfl, rfl, Below.refl _ _⟩
  all_goals
    go_enter Tryd.func26, Tryd.ntmps26
    go_wp2_with fail
    refine HW.out.mono ?_
    rintro e W1 ⟨rfl, rfl⟩
    go_wp2_with fail
    exact ⟨rfl, rfl, b0⟩
end

/-- Another panic. -/
abbrev oneV : Value := .iface 9 (.string { data := #[97, 110, 111, 116, 104, 101, 114, 32, 111, 110, 101] })
theorem cuts29 (w : World) : Calls Tryd.prog 29 #[] w fun e w' => e = .panicked [{ v := oneV, recovered := false }] ∧ w = w' := by
  go_enter Tryd.func29, Tryd.ntmps29
  go_wp2_with fail
  exact ⟨rfl, rfl, rfl⟩

set_option maxHeartbeats 2000000 in
theorem catch28 (ov : Nat) (older : List PanicEntry) (w : World) (hc : w.cell? ⟨ov, 0, none⟩ = some (.int .i64 0)) (hz : w.frozen? ⟨ov, 0, none⟩ = false) :
    CallsD Tryd.prog 28 #[.pointer (some ⟨ov, 0, none⟩)] (.panicking ({ v := oneV, recovered := false } :: older)) w fun e u' w' =>
      e = .returned (.tuple #[]) ∧ u' = .panicking ({ v := oneV, recovered := true } :: older) ∧ w' = w.setCell ⟨ov, 0, none⟩ (.int .i64 1) := by
  refine callsD_of_wpS Tryd.func28 rfl fun c₀ cs hu => ?_
  apply wpS_seq
  apply wpS_region
  simp [wpOpsS, go_sem, recoverD, hu, Tryd.ntmps28, Exit.thenS]
  refine wpS_cond (t := true) (by simp [Act.eval, Array.replicate]) ?_
  simp only [if_true]
  apply wpS_region
  simp [wpOpsS, go_sem, hc, hz, bodyPostS, results, Tryd.results28]
  rfl

set_option maxHeartbeats 2000000 in
theorem cuts27 {p : Addr} (ov : Nat) (w : World) (hp : Pow p w) (hc : w.cell? ⟨ov, 0, none⟩ = some (.int .i64 0)) (hz : w.frozen? ⟨ov, 0, none⟩ = false) :
    Calls Tryd.prog 27 #[.pointer (some ⟨ov, 0, none⟩)] w fun e w' => e = .returned (.tuple #[]) ∧ w' = w.setCell ⟨ov, 0, none⟩ (.int .i64 1) := by
  have hmf : ∀ (fn : Fn) (first cap : Array Value) (w : World), (Instr.makeFunc fn first cap).run Tryd.prog w = .ok (.func fn first cap) w := fun _ _ _ _ => rfl
  have e29 : ∀ args w, (callFunc 29 args).run Tryd.prog w = .ok (.enter 29 args) w := enters_of Tryd.func29 (by kernel_rfl) rfl
  have HT := hide (try_thru (p := p) (t := 9) (by decide) e29 (cuts29 w) (fun w' h => by subst h; exact hp))
  go_enter_defers Tryd.func27, Tryd.ntmps27
  go_wp2_with fail
  refine HT.out.mono ?_
  rintro e w1 ⟨rfl, rfl⟩
  go_wp2_with fail
  refine leaves_cons (f := 28) (args := #[.pointer (some ⟨ov, 0, none⟩)]) (by simp) (by simp [go_sem]) ?_
  refine (catch28 ov _ w hc hz).mono ?_
  rintro e u' w'' ⟨rfl, rfl, rfl⟩
  simp [Leaves, settle, results, Tryd.results27, go_sem]
#print axioms cuts27

/-- What stands in the loop: k kinds were tried, and af of them have power. -/
structure CutsI (w wr : World) (Z : Own) (g dv iv kv k af : Nat) (b : Option Addr) (ln cp : Nat) (D : DS) : Prop where
  cl : Cl w wr Z g D
  dvh : Has Z wr dv (dvO g)
  ivh : Has Z wr iv (ivO k)
  kvh : Has Z wr kv (kvO b ln cp)
  size : D.size = 2
  n : D.n = 4
  left : D.left = ((af - k : Nat) : Int)
  tr : D.tr.length = min k af
  wait : D.wait.length ≤ min k af

/-- The number in the variable that v points at. -/
def ptrNat (w : World) (v : Value) : Nat := match v with
  | .pointer (some a) => match w.cell? a with
    | some x => (intOf x).toNat
    | none => 0
  | _ => 0
theorem ptrNat_of {w : World} {a : Addr} {k : Nat} (h : w.cell? a = some (.int .i64 (k : Int))) : ptrNat w (.pointer (some a)) = k := by
  simp [ptrNat, h, intOf]

set_option maxRecDepth 100000 in
set_option maxHeartbeats 8000000 in
theorem diskCuts_walk (after : Int) {b : Option Addr} {ln cp : Nat} {zs : List Int} {p : Addr} (w : World) (hb : Ns .i64 w b ln cp zs) (hp : Pow p w) :
    Calls Tryd.prog 8 #[.int .i64 after, .slice b ln cp] w fun e w' => e = .returned (.bool true) ∧ Below w.heap.size w w' := by
  have hlc := hb.le_cap
  have hcm := hb.cap_le
  have HB := hide hb
  clear hb
  obtain ⟨af, haf⟩ : ∃ af : Nat, after % 16 = (af : Int) := ⟨(after % 16).toNat, by omega⟩
  have haf16 : af < 16 := by omega
  have m1 := i64_and15 after
  rw [haf] at m1
  have hKV := heap_alloc_new w (kvO b ln cp)
  have hBV := below_alloc (Below.refl w.heap.size w) (kvO b ln cp)
  have HNew := hide (new_any 4 2 4 2 rfl rfl (w.alloc (kvO b ln cp)))
  clear haf
  go_enter Tryd.func8, Tryd.ntmps8
  go_wp2_with fail
  refine HNew.out.mono ?_
  rintro e W ⟨g, Z, rfl, hD, hF, hB⟩
  have hsz := size_alloc w (kvO b ln cp)
  have C : Cl w W Z g (DS.new 4 2) := ⟨hD, fun k hk => by have := hF k hk; omega, hBV.trans (hB.mono (by omega))⟩
  have KV : Has Z W w.heap.size (kvO b ln cp) := ⟨by rw [hB.block _ (by omega)]; exact hKV, fun hs => by have := hF _ hs; omega⟩
  have V := C.new (dvO g)
  replace C := C.alloc (dvO g)
  replace KV := KV.alloc (dvO g)
  have hWs := size_alloc W (dvO g)
  clear hD hF hB hKV hBV HNew hsz
  have c5 := V.var
  have HC := hide (C.cut (of_decide_eq_true rfl) (af : Int) (by omega))
  generalize hkv : w.heap.size = kv at KV ⊢
  clear hkv
  go_wp2_with fail
  refine HC.out.mono ?_
  rintro e W1 ⟨rfl, C1, s1⟩
  replace V := V.step s1
  replace KV := KV.step s1
  have I1 := C1.new (ivO 0)
  replace C1 := C1.alloc (ivO 0)
  replace V := V.alloc (ivO 0)
  replace KV := KV.alloc (ivO 0)
  clear HC s1 C c5 m1 hWs
  generalize W.heap.size = dv at *
  go_wp2_with fail
  have hI0 : CutsI w (W1.alloc (ivO 0)) Z g dv W1.heap.size kv 0 af b ln cp _ := ⟨C1, V, I1, KV, rfl, rfl, rfl, (Nat.zero_min _).symm, Nat.zero_le _⟩
  clear C1 V KV I1
  go_loopw [6, 7] (fun s6 s7 wr => ∃ (k iv : Nat) (Z1 : Own) (D : DS), k ≤ ln ∧ k ≤ 30 ∧ s6 = .int .i64 (min k af : Nat) ∧ s7 = .pointer (some ⟨iv, 0, none⟩) ∧ CutsI w wr Z1 g dv iv kv k af b ln cp D) (fun _ s7 wr => 30 - ptrNat wr s7)
  case atStart => exact ⟨0, W1.heap.size, Z, _, Nat.zero_le _, Nat.zero_le _, (by rw [Nat.zero_min]; rfl), rfl, hI0⟩
  case round =>
    obtain ⟨k, iv, Z1, D, hk1, hk2, rfl, rfl, hI⟩ := hrel
    clear hI0
    have c7 := hI.ivh.var
    have c5 := hI.dvh.var
    have c0 := hI.kvh.var
    have HPN := hide (ptrNat_of c7)
    have hmf : ∀ (fn : Fn) (first cap : Array Value) (w : World), (Instr.makeFunc fn first cap).run Tryd.prog w = .ok (.func fn first cap) w := fun _ _ _ _ => rfl
    by_cases hlt : k < ln ∧ k < 30
    · obtain ⟨hkl, hk30⟩ := hlt
      have hk30' : (k : Int) < 30 := by omega
      have e1 : ∀ args w, (callFunc 26 args).run Tryd.prog w = .ok (.enter 26 args) w := enters_of Tryd.func26 (by kernel_rfl) rfl
      obtain ⟨tb, toff, rfl, hcell⟩ : ∃ bb off, b = some ⟨bb, off, none⟩ ∧ ∀ i, i < ln → w.cell? ⟨bb, off + i, none⟩ = some (.int .i64 (zs.getD i 0)) := by
        rcases HB.out.place with h1 | h1
        · omega
        · exact h1
      have hz := hcell k hkl
      have hz' := (hI.cl.bel.cell (World.block_lt_of_cell? w _ hz)).trans hz
      clear hcell hz
      generalize zs.getD k 0 = z at hz'
      by_cases hka : k < af
      · have hka' : (k : Int) < (af : Int) := by omega
        have hmin : min k af = k := by omega
        have hwn : IntKind.i64.wrap ((k : Int) + 1) = ((k + 1 : Nat) : Int) := by rw [IntKind.wrap_i64]; omega
        have HT := hide (try_ok e1 (cuts1_ok hI.cl (by rw [hI.left]; omega) (by rw [hI.tr]; omega) (by have := hI.wait; omega) hI.n hI.size (by omega) hkl (by omega) hI.dvh hI.ivh hI.kvh hz'))
        have HI := hide hI
        clear hI hz'
        rw [hmin]
        go_wp2_with fail
        refine HT.out.mono ?_
        rintro e W2 ⟨rfl, Z2, D2, C2, s2, hm⟩
        have HI2 : Hid (CutsI w (W2.alloc (ivO (k + 1))) Z2 g dv W2.heap.size kv (k + 1) af (some ⟨tb, toff, none⟩) ln cp D2) := hide ⟨C2.alloc _, (HI.out.dvh.step s2).alloc _, C2.new _, (HI.out.kvh.step s2).alloc _, hm.size.trans HI.out.size, hm.n.trans HI.out.n, by
          rw [hm.left, HI.out.left, spendL]
          split <;> omega, by
          have h1 := HI.out.tr
          have h2 := hm.tr
          omega, by
          have h1 := HI.out.wait
          have h2 := hm.wait
          omega⟩
        replace c7 := (HI.out.ivh.step s2).var
        clear HT HI s2 C2 hm c5 c0
        replace HPN := (HPN.out : ptrNat wr _ = k)
        go_wp2_with fail
        refine ⟨⟨k + 1, W2.heap.size, Z2, D2, by omega, by omega, ?_, rfl, HI2.out⟩, ?_⟩
        · congr 1
          omega
        · have h2 := ptrNat_of HI2.out.ivh.var
          rw [HPN]
          exact Nat.lt_of_le_of_lt (Nat.le_of_eq (congrArg (30 - ·) h2)) (by omega)
      · have hka' : ¬ (k : Int) < (af : Int) := by omega
        have hmin : min k af = af := by omega
        have HT := hide (try_no e1 (cuts1_no hI.cl hp (by rw [hI.left]; omega) (by omega) hkl hI.dvh hI.ivh hI.kvh hz') (fun w' h => (hI.cl.pow hp).below h))
        have HI := hide hI
        clear hI hz'
        rw [hmin]
        go_wp2_with fail
        refine HT.out.mono ?_
        rintro e W2 ⟨rfl, b2⟩
        have HI2 : Hid (CutsI w (W2.alloc (ivO (k + 1))) Z1 g dv W2.heap.size kv (k + 1) af (some ⟨tb, toff, none⟩) ln cp D) := hide ⟨(HI.out.cl.below b2).alloc _, (HI.out.dvh.below b2).alloc _, (HI.out.cl.below b2).new _, (HI.out.kvh.below b2).alloc _, HI.out.size, HI.out.n, by
          rw [HI.out.left]
          omega, by
          have h1 := HI.out.tr
          omega, by
          have h1 := HI.out.wait
          omega⟩
        replace c7 := (HI.out.ivh.below b2).var
        clear HT HI b2 c5 c0
        replace HPN := (HPN.out : ptrNat wr _ = k)
        go_wp2_with fail
        refine ⟨⟨k + 1, W2.heap.size, Z1, D, by omega, by omega, ?_, rfl, HI2.out⟩, ?_⟩
        · congr 1
          omega
        · have h2 := ptrNat_of HI2.out.ivh.var
          rw [HPN]
          exact Nat.lt_of_le_of_lt (Nat.le_of_eq (congrArg (30 - ·) h2)) (by omega)
    · have htr : D.tr.length = min k af := hI.tr
      by_cases hkl : k < ln
      · have h30 : ¬ (k : Int) < 30 := by omega
        clear hlt hk1 hk2
        go_wp2_with fail
        refine (cuts27 (p := p) wr.heap.size (wr.alloc (ovO 0)) ((hI.cl.alloc (ovO 0)).pow hp) (hI.cl.new (ovO 0)).var (frozen_of_row _ _ _ _ _ (hI.cl.new (ovO 0)).1)).mono ?_
        rintro e W2 ⟨rfl, rfl⟩
        have ho := OnlyAt.setCell wr.heap.size 0 (wr.alloc (ovO 0)) (.int .i64 1)
        have C2 := (hI.cl.alloc (ovO 0)).only ho (hI.cl.new (ovO 0)).2 hI.cl.size
        have V2 := (hI.dvh.alloc (ovO 0)).only ho (Nat.ne_of_lt hI.dvh.lt)
        have O2 : Has Z1 ((wr.alloc (ovO 0)).setCell ⟨wr.heap.size, 0, none⟩ (.int .i64 1)) wr.heap.size (ovO 1) := ⟨ov_set (hI.cl.new (ovO 0)).1, (hI.cl.new (ovO 0)).2⟩
        have HTr := hide (C2.trace (by omega) _ 2 htr hI.size)
        generalize (wr.alloc (ovO 0)).setCell ⟨wr.heap.size, 0, none⟩ (.int .i64 1) = W2 at *
        replace c5 := V2.var
        clear ho hI c7 c0
        generalize wr.heap.size = ov at *
        go_wp2_with fail
        refine HTr.out.mono ?_
        rintro e W3 ⟨rfl, _, C3, b3⟩
        have c17 := (O2.below b3).var
        clear HTr C2 b3 O2 V2 c5
        have hA := awake_any W3 (C3.pow hp)
        go_wp2_with fail
        refine hA.mono ?_
        rintro e W4 ⟨rfl, b4⟩
        have hfin := C3.bel.trans (b4.mono C3.size)
        go_wp2_with fail
        go_ret
        exact ⟨rfl, hfin⟩
      · clear hlt hk1 hk2
        go_wp2_with fail
        refine (cuts27 (p := p) wr.heap.size (wr.alloc (ovO 0)) ((hI.cl.alloc (ovO 0)).pow hp) (hI.cl.new (ovO 0)).var (frozen_of_row _ _ _ _ _ (hI.cl.new (ovO 0)).1)).mono ?_
        rintro e W2 ⟨rfl, rfl⟩
        have ho := OnlyAt.setCell wr.heap.size 0 (wr.alloc (ovO 0)) (.int .i64 1)
        have C2 := (hI.cl.alloc (ovO 0)).only ho (hI.cl.new (ovO 0)).2 hI.cl.size
        have V2 := (hI.dvh.alloc (ovO 0)).only ho (Nat.ne_of_lt hI.dvh.lt)
        have O2 : Has Z1 ((wr.alloc (ovO 0)).setCell ⟨wr.heap.size, 0, none⟩ (.int .i64 1)) wr.heap.size (ovO 1) := ⟨ov_set (hI.cl.new (ovO 0)).1, (hI.cl.new (ovO 0)).2⟩
        have HTr := hide (C2.trace (by omega) _ 2 htr hI.size)
        generalize (wr.alloc (ovO 0)).setCell ⟨wr.heap.size, 0, none⟩ (.int .i64 1) = W2 at *
        replace c5 := V2.var
        clear ho hI c7 c0
        generalize wr.heap.size = ov at *
        go_wp2_with fail
        refine HTr.out.mono ?_
        rintro e W3 ⟨rfl, _, C3, b3⟩
        have c17 := (O2.below b3).var
        clear HTr C2 b3 O2 V2 c5
        have hA := awake_any W3 (C3.pow hp)
        go_wp2_with fail
        refine hA.mono ?_
        rintro e W4 ⟨rfl, b4⟩
        have hfin := C3.bel.trans (b4.mono C3.size)
        go_wp2_with fail
        go_ret
        exact ⟨rfl, hfin⟩
#print axioms diskCuts_walk
end Go.Proofs.YtlicafjhkbofbaaDoor
