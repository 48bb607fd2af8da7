/- The walk of dumbwaiterlaw6.DiskBounds: for any numbers, any bytes and any place it answers true; nothing that was there is turned. -/
import Derived.Test.YtlicafjhkbofbaaDoorKAwake
namespace Go.Proofs.YtlicafjhkbofbaaDoor
open Go.RowKit

theorem i64_and31 (n : Int) : bits .and .i64 n 31 = n % 32 := i64_mask n 5 (by decide) 31 (by decide)
theorem i64_and63 (n : Int) : bits .and .i64 n 63 = n % 64 := i64_mask n 6 (by decide) 63 (by decide)

theorem same_eq {a b : Option Addr} {n c m d : Nat} {xs : List Int} (w : World) (hx : Bs w a n c xs) (hy : Bs w b m d xs) :
    Calls Tryd.prog 18 #[.slice a n c, .slice b m d] w fun e w' => e = .returned (.bool true) ∧ w = w' := by
  have h := same_any w hx hy
  rw [decide_eq_true rfl] at h
  exact h
theorem Cl.blocks {w0 W : World} {Z : Own} {g : Nat} {D : DS} (h : Cl w0 W Z g D) (n : Nat) (hn : D.n = n) : Calls Tryd.prog 11 #[.pointer (some ⟨g, 0, none⟩)] W fun e w' => e = .returned (.int .i64 (n : Int)) ∧ W = w' := by
  subst hn
  obtain ⟨gb, wv, tv, hd⟩ := h.dk
  exact blocks_any hd
theorem Cl.bytes {w0 W : World} {Z : Own} {g : Nat} {D : DS} (h : Cl w0 W Z g D) (n : Nat) (hn : D.size = n) : Calls Tryd.prog 12 #[.pointer (some ⟨g, 0, none⟩)] W fun e w' => e = .returned (.int .i64 (n : Int)) ∧ W = w' := by
  subst hn
  obtain ⟨gb, wv, tv, hd⟩ := h.dk
  exact size_any hd

set_option maxRecDepth 100000 in
set_option maxHeartbeats 8000000 in
theorem diskBounds_walk (blocks size at_ : Int) {a : Option Addr} {len cap : Nat} {zs : List Int} {p : Addr} (w : World) (hb : Bs w a len cap zs) (hp : Pow p w) :
    Calls Tryd.prog 3 #[.int .i64 blocks, .int .i64 size, .slice a len cap, .int .i64 at_] w fun e w' => e = .returned (.bool true) ∧ Below w.heap.size w w' := by
  have hlen := hb.length
  have hlc := hb.le_cap
  have hcm := hb.cap_le
  by_cases hl : 2000 < len
  · have hA := awake_any w hp
    clear hb
    go_enter Tryd.func3, Tryd.ntmps3
    go_wp2_with fail
    refine hA.mono ?_
    rintro e w1 ⟨rfl, hB⟩
    go_wp2_with fail
    go_ret
    exact ⟨rfl, hB⟩
  · have m1 := i64_and31 blocks
    have m2 := i64_and63 size
    have m3 := i64_and63 at_
    obtain ⟨B, hB⟩ : ∃ B, blocks % 32 - 4 = B := ⟨_, rfl⟩
    obtain ⟨S, hS⟩ : ∃ S, size % 64 - 4 = S := ⟨_, rfl⟩
    obtain ⟨t, ht⟩ : ∃ t, at_ % 64 - 8 = t := ⟨_, rfl⟩
    have r1 : 0 ≤ blocks % 32 ∧ blocks % 32 < 32 := by omega
    have r2 : 0 ≤ size % 64 ∧ size % 64 < 64 := by omega
    have r3 : 0 ≤ at_ % 64 ∧ at_ % 64 < 64 := by omega
    generalize blocks % 32 = bm at *
    generalize size % 64 = sm at *
    generalize at_ % 64 = am at *
    have w1 : IntKind.i64.wrap (bm - 4) = B := by rw [IntKind.wrap_i64]; omega
    have w2 : IntKind.i64.wrap (sm - 4) = S := by rw [IntKind.wrap_i64]; omega
    have w3 : IntKind.i64.wrap (am - 8) = t := by rw [IntKind.wrap_i64]; omega
    obtain ⟨n, hn⟩ : ∃ n : Nat, max B 0 = (n : Int) := ⟨(max B 0).toNat, by omega⟩
    obtain ⟨sz, hs⟩ : ∃ sz : Nat, max S 0 = (sz : Int) := ⟨(max S 0).toNat, by omega⟩
    have hn32 : n < 32 := by omega
    have hs64 : sz < 64 := by omega
    have HN := hide (new_any B S n sz (by omega) (by omega) w)
    have HB := hide hb
    have hl' : ¬ (2000 : Int) < (len : Int) := by omega
    clear hb hB hS ht r1 r2 r3
    go_enter Tryd.func3, Tryd.ntmps3
    go_wp2_with fail
    refine HN.out.mono ?_
    rintro e W ⟨g, Z, rfl, hD, hF, hB⟩
    have C : Cl w W Z g (DS.new n sz) := ⟨hD, hF, hB⟩
    clear HN hD hF hB w1 w2 m1 m2
    go_wp2_with fail
    refine (C.blocks n rfl).mono ?_
    rintro e w1 ⟨rfl, rfl⟩
    go_wp2_with fail
    refine (C.bytes sz rfl).mono ?_
    rintro e w1 ⟨rfl, rfl⟩
    go_wp2_with fail
    have b := C.bz HB.out
    by_cases hi : 0 ≤ t ∧ t < (n : Int)
    · obtain ⟨i, rfl⟩ := Int.eq_ofNat_of_zero_le hi.1
      have hin : i < n := by omega
      clear hi
      refine (C.write (of_decide_eq_true rfl) (of_decide_eq_true rfl) (of_decide_eq_true rfl) i hin b _ rfl).mono ?_
      rintro e W1 ⟨Z1, x1, rfl, hx1, C1, s1⟩
      clear C b s1
      go_wp2_with fail
      refine (C1.read (of_decide_eq_true rfl) (of_decide_eq_true rfl) i hin sz (fitL sz zs) rfl (by show fitL sz (updW _ i x1 i).1.zs = _; simp only [updW, if_true]; rw [hx1.out]; exact fitL_take _ _)).mono ?_
      rintro e W2 ⟨ka, Z2, rfl, _, A, C, s2⟩
      clear C1 s2
      have d1 : ¬ (n : Int) ≤ (i : Int) := by omega
      go_wp2_with fail
      refine (C.blocks n rfl).mono ?_
      rintro e w1 ⟨rfl, rfl⟩
      go_wp2_with fail
      refine (C.bytes sz rfl).mono ?_
      rintro e w1 ⟨rfl, rfl⟩
      have hmk := run_make_row' (P := Tryd.prog) 22 5 (.int .u8 0) 1 Tryd.underlying22 Tryd.info_u8 rfl .i64 .i64 sz (by omega) (by omega)
      have hO := made_zB W2 sz 5
      have C3 := C.alloc (Obj.cells (madeCells #[Value.int IntKind.u8 0] sz) 5)
      have N3 := C.new (Obj.cells (madeCells #[Value.int IntKind.u8 0] sz) 5)
      have A3 := A.alloc (Obj.cells (madeCells #[Value.int IntKind.u8 0] sz) 5)
      obtain ⟨W4, hr4, hO4, o4⟩ := run_copy_bytes (P := Tryd.prog) Tryd.underlying22 Tryd.size_u8 3 (W2.alloc (Obj.cells (madeCells #[Value.int IntKind.u8 0] sz) 5)) (some ⟨W2.heap.size, 0, none⟩) a sz sz len cap W2.heap.size 0 (min len sz) (zL sz) zs hO rfl (.inr rfl) (C3.bz HB.out).bs (by rw [zL_length]; omega)
      rw [← hlen, fitL_splice] at hO4
      have A4 := A3.only o4 (by have := A.lt; omega)
      have C4 := C3.only o4 N3.2 C.size
      have M4 : Has Z2 W4 W2.heap.size (.cells ((fitL sz zs).map (Value.int .u8)).toArray 5 (0, 0)) := ⟨hO4, N3.2⟩
      clear C C3 N3 A A3 hO hO4 o4
      have hzb := (HB.out).bytes
      have hfl := fitL_length sz zs
      have hfb := fitL_bytes sz hzb
      go_wp2_with fail
      clear hr4
      refine (C4.stable i hin sz (zL sz) rfl (by show fitL sz (updW _ i x1 i).2.zs = _; simp only [updW, if_true]; exact fitL_nil sz)).mono ?_
      rintro e W5 ⟨rfl, Y, C5, b5⟩
      replace A4 := A4.below b5
      replace M4 := M4.below b5
      clear C4 b5
      generalize W4.heap.size = ky at *
      generalize W2.heap.size = km at *
      go_wp2_with fail
      refine (C5.flush (of_decide_eq_true rfl) (of_decide_eq_true rfl)).mono ?_
      rintro e W6 ⟨Z6, rfl, C6, s6⟩
      replace A4 := A4.step s6
      replace M4 := M4.step s6
      replace Y := Y.step s6
      clear C5 s6
      have HS1 := same_eq W6 (OwnB.bs (E := 5) A4.1 hfb sz hfl (by omega)) (OwnB.bs (E := 5) M4.1 hfb sz hfl (by omega))
      go_wp2_with fail
      refine HS1.mono ?_
      rintro e w1 ⟨rfl, rfl⟩
      clear HS1
      go_wp2_with fail
      refine (C6.bytes sz rfl).mono ?_
      rintro e w1 ⟨rfl, rfl⟩
      have O7 := made_zB W6 sz 5
      have C7 := C6.alloc (Obj.cells (madeCells #[Value.int IntKind.u8 0] sz) 5)
      replace M4 := M4.alloc (Obj.cells (madeCells #[Value.int IntKind.u8 0] sz) 5)
      replace Y := Y.alloc (Obj.cells (madeCells #[Value.int IntKind.u8 0] sz) 5)
      have HS2 := same_eq _ (OwnB.bs (E := 5) Y.1 (zL_bytes sz) sz (zL_length sz) (by omega)) (OwnB.bs (E := 5) O7 (zL_bytes sz) sz (zL_length sz) (by omega))
      have HS := hide HS2
      clear C6 A4 Y O7 HS2
      go_wp2_with fail
      refine HS.out.mono ?_
      rintro e w1 ⟨rfl, rfl⟩
      clear HS hmk
      generalize (W6.alloc (Obj.cells (madeCells #[Value.int IntKind.u8 0] sz) 5)) = W7 at *
      go_wp2_with fail
      refine (C7.stable i hin sz (fitL sz zs) rfl (by
        show fitL sz (updF _ i x1 i).2.zs = _
        simp only [updF, if_true]
        rw [hx1.out]
        exact fitL_take _ _)).mono ?_
      rintro e W8 ⟨rfl, Y8, C8, b8⟩
      replace M4 := M4.below b8
      clear C7 b8
      have HS3 := same_eq W8 (OwnB.bs (E := 5) Y8.1 hfb sz hfl (by omega)) (OwnB.bs (E := 5) M4.1 hfb sz hfl (by omega))
      clear M4 Y8
      go_wp2_with fail
      refine HS3.mono ?_
      rintro e w1 ⟨rfl, rfl⟩
      clear HS3
      go_wp2_with fail
      refine (C8.trace (of_decide_eq_true rfl) 3 sz rfl rfl).mono ?_
      rintro e W9 ⟨rfl, _, C9, _⟩
      have hA := awake_any W9 (C9.pow hp)
      go_wp2_with fail
      refine hA.mono ?_
      rintro e W10 ⟨rfl, b10⟩
      have hfin := C9.bel.trans (b10.mono C9.size)
      go_wp2_with fail
      go_ret
      exact ⟨rfl, hfin⟩
    · have hno : hasI n t = false := by
        unfold hasI
        rw [Bool.and_eq_false_iff, decide_eq_false_iff_not, decide_eq_false_iff_not]
        omega
      refine (write_out C.dk (of_decide_eq_true rfl) (of_decide_eq_true rfl) t hno b).mono ?_
      rintro e W1 ⟨Z1, x1, rfl, hx1, hD1, s1⟩
      have C1 := C.step s1 hD1
      clear C b s1 hD1
      go_wp2_with fail
      refine (read_out C1.dk (of_decide_eq_true rfl) (of_decide_eq_true rfl) t hno).mono ?_
      rintro e W2 ⟨Z2, rfl, hD2, s2⟩
      have C := C1.step s2 hD2
      clear C1 s2 hD2
      have HS := hide (stable_out C.dk t hno)
      have HT := hide (C.trace (of_decide_eq_true rfl) 2 sz rfl rfl)
      have HB2 := hide (C.blocks n rfl)
      clear HB
      by_cases ht0 : t < 0
      · have d0 : decide (t < 0) = true := decide_eq_true ht0
        clear ht0 hi
        go_wp2_with fail
        refine HS.out.mono ?_
        rintro e w1 ⟨rfl, rfl⟩
        go_wp2_with fail
        refine HT.out.mono ?_
        rintro e W9 ⟨rfl, _, C9, _⟩
        have hA := awake_any W9 (C9.pow hp)
        clear HT HS HB2
        go_wp2_with fail
        refine hA.mono ?_
        rintro e W10 ⟨rfl, b10⟩
        have hfin := C9.bel.trans (b10.mono C9.size)
        go_wp2_with fail
        go_ret
        exact ⟨rfl, hfin⟩
      · have d0 : decide (t < 0) = false := decide_eq_false ht0
        have d1 : decide ((n : Int) ≤ t) = true := decide_eq_true (by omega)
        clear ht0 hi
        go_wp2_with fail
        refine HB2.out.mono ?_
        rintro e w1 ⟨rfl, rfl⟩
        go_wp2_with fail
        refine HS.out.mono ?_
        rintro e w1 ⟨rfl, rfl⟩
        go_wp2_with fail
        refine HT.out.mono ?_
        rintro e W9 ⟨rfl, _, C9, _⟩
        have hA := awake_any W9 (C9.pow hp)
        clear HT HS HB2
        go_wp2_with fail
        refine hA.mono ?_
        rintro e W10 ⟨rfl, b10⟩
        have hfin := C9.bel.trans (b10.mono C9.size)
        go_wp2_with fail
        go_ret
        exact ⟨rfl, hfin⟩
#print axioms diskBounds_walk
end Go.Proofs.YtlicafjhkbofbaaDoor
