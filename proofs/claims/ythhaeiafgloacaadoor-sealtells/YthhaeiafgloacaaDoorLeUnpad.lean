/- What a call of le.Unpad does: for every slice of bytes that can be read and every number; nothing that was there is turned. -/
import Derived.Test.YthhaeiafgloacaaDoorLeNought
import Derived.Test.YthhaeiafgloacaaDoorLeGet
import Derived.Laws.CopyOwn
import Derived.Deep.QuietTactic
import Derived.BigQuiet
namespace Go.Proofs.YthhaeiafgloacaaDoor
open Go.RowKit

theorem unpad_len {a : Option Addr} {len cap : Nat} (most : Int) (w : World) (h : most < 0 ∨ 60000 < most ∨ (len : Int) ≠ 2 + most) (_hl : len ≤ 9223372036854775807) :
    Calls Tryd.prog 25 #[.slice a len cap, .int .i64 most] w fun e w' => e = .returned (.tuple #[.slice none 0 0, .bool false]) ∧ w = w' := by
  by_cases hm : most < 0 ∨ 60000 < most
  · go_enter Tryd.func25, Tryd.ntmps25
    go_wp2_with fail
    refine (canPad_no _ _ hm).mono ?_
    rintro e w' ⟨rfl, rfl⟩
    go_wp2_with fail
    go_ret2
    exact ⟨rfl, rfl⟩
  · have h1 : (len : Int) ≠ 2 + most := by omega
    have h2 : 0 ≤ most := by omega
    have h3 : most ≤ 60000 := by omega
    have h4 : ((len : Int) != 2 + most) = true := by rw [bne_iff_ne]; exact h1
    clear h hm
    go_enter Tryd.func25, Tryd.ntmps25
    go_wp2_with fail
    refine (canPad_yes _ _ h2 h3).mono ?_
    rintro e w' ⟨rfl, rfl⟩
    go_wp2_with fail
    go_ret2
    exact ⟨rfl, rfl⟩

theorem get2 {a : Option Addr} {cap : Nat} {zs : List Int} (w : World) (h : Bs w a 2 cap zs) (n : Nat) (hn : leNum zs = n) (m : Nat) :
    Calls Tryd.prog 24 #[.slice a 2 cap] (w.drewN m) fun e w' => e = .returned (.int .u64 n) ∧ w' = w.drewN m := by
  refine (get_any (w.drewN m) (h.below (below_drewN (Below.refl _ _) m))).mono ?_
  rintro e w' ⟨rfl, rfl⟩
  rw [List.take_of_length_le (by rw [h.length]; omega), hn]
  exact ⟨rfl, rfl⟩

theorem unhide {p : Prop} (h : Hid p) : p := h
theorem splice_all (cur zs : List Int) (n : Nat) (h : cur.length = n) (h2 : n ≤ zs.length) : splice cur 0 (zs.take n) = zs.take n := by
  unfold splice
  rw [List.drop_of_length_le (by simp; omega)]
  simp

theorem cutFrom (a : Option Addr) (len cap : Nat) (k : IntKind) (i : Int) (l m : Nat) (hi : i = l) (h1 : l ≤ len) (hm : len - l = m) (w : World) : (Instr.slice 25 (.slice a len cap) (some (.int k i)) none none).run Tryd.prog w = .ok (.slice (cutA a cap l) m (cap - l)) w := by
  subst hm
  exact run_cut_from Tryd.underlying25 Tryd.size_u8 a len cap k i l hi h1 w
theorem cutTo {w0 : World} {a : Option Addr} {len cap : Nat} {zs : List Int} (hb : Bs w0 a len cap zs) (k : IntKind) (i : Int) (l : Nat) (hi : i = l) (h1 : l ≤ cap) (w : World) : (Instr.slice 25 (.slice a len cap) none (some (.int k i)) none).run Tryd.prog w = .ok (.slice a l cap) w :=
  run_cut_to Tryd.underlying25 Tryd.size_u8 hb k i l hi h1 w

set_option maxHeartbeats 1000000 in
theorem unpad_ok {a : Option Addr} {cap : Nat} {zs : List Int} (most : Nat) (w : World) (h : Bs w a (2 + most) cap zs) (hm : most ≤ 60000)
    (n : Nat) (hn : leNum (zs.take 2) = n) (hle : n ≤ most) (hz : allZ ((zs.drop 2).drop n) = true) :
    Calls Tryd.prog 25 #[.slice a (2 + most) cap, .int .i64 most] w fun e w' => ∃ g, e = .returned (.tuple #[.slice (some ⟨g, 0, none⟩) n n, .bool true]) ∧ w.heap.size ≤ g ∧ OwnB 5 w' g ((zs.drop 2).take n) ∧ Below w.heap.size w w' := by
  have hmk := run_make_row' (P := Tryd.prog) 25 5 (.int .u8 0) 1 Tryd.underlying25 Tryd.info_u8 rfl .u64 .u64 n (by omega) (by omega)
  have h4 : (((2 + most : Nat) : Int) != 2 + (most : Int)) = false := by simp
  have hc1 := h.le_cap
  have hc2 := h.cap_le
  have hzl := h.length
  have HH : Hid (∀ m, Calls Tryd.prog 24 #[.slice a 2 cap] (w.drewN m) fun e w' => e = .returned (.int .u64 n) ∧ w' = w.drewN m) := get2 w (h.taken 2 (by omega)) n hn
  have hs1 := cutTo h .i64 2 2 rfl (by omega)
  have hs2 := cutFrom a (2 + most) cap .i64 2 2 most rfl (by omega) (by omega)
  have hR : Bs w (cutA a cap 2) most (cap - 2) (zs.drop 2) := by have := h.cut 2 (by omega); rwa [show 2 + most - 2 = most by omega] at this
  generalize cutA a cap 2 = r at *
  have hs3 := cutFrom r most (cap - 2) .u64 n n (most - n) rfl hle rfl
  have HB : Hid (∀ nq, Bs (w.drewN nq) (cutA r (cap - 2) n) (most - n) (cap - 2 - n) ((zs.drop 2).drop n)) := fun nq => (hR.cut n hle).below (below_drewN (Below.refl _ _) nq)
  generalize cutA r (cap - 2) n = q at *
  have HR : Hid (∀ nq, Bs ((w.drewN nq).alloc (Obj.cells (madeCells #[Value.int IntKind.u8 0] n) 5)) r most (cap - 2) (zs.drop 2)) := fun nq => (hR.below (below_drewN (Below.refl _ _) nq)).below ((Below.refl _ _).alloc (Nat.le_refl _) _)
  have HZ := hide hz
  clear hz hn hR
  go_enter Tryd.func25, Tryd.ntmps25
  go_wp2_with fail
  refine (canPad_yes _ _ (by omega) (by omega)).mono ?_
  rintro e w' ⟨rfl, rfl⟩
  go_wp2_with fail
  go_quiet ((go_at_call 24; exact Calls.quiet_of_same (HH.out _)))
  go_wp2_with fail
  refine (nought_any _ (HB.out nq)).mono ?_
  rintro e w' ⟨rfl, rfl⟩
  rw [unhide HZ]
  obtain ⟨w3, hr3, hZ3, ho3⟩ := run_copy_bytes (P := Tryd.prog) Tryd.underlying25 Tryd.size_u8 3 ((w.drewN nq).alloc (Obj.cells (madeCells #[Value.int IntKind.u8 0] n) 5)) (some ⟨w.heap.size, 0, none⟩) r n n most (cap - 2) w.heap.size 0 n (List.replicate n 0) (zs.drop 2) (OwnB.of_rowIs (World.rowIs_made (w.drewN nq) (.int .u8 0) n _) _ (by simp) (fun i hi => by simp [List.getD, hi])) (by omega) (.inr rfl) (HR.out nq) (by simp)
  have hb3 : Below w.heap.size w w3 := ho3.below ((below_drewN (Below.refl _ _) nq).alloc (Nat.le_refl _) _) (Nat.le_refl _)
  rw [splice_all _ _ n (by simp) (by simp; omega)] at hZ3
  clear ho3
  go_wp2_with fail
  go_ret2
  exact ⟨_, rfl, Nat.le_refl _, hZ3, hb3⟩

set_option maxHeartbeats 1000000 in
theorem unpad_far {a : Option Addr} {cap : Nat} {zs : List Int} (most : Nat) (w : World) (h : Bs w a (2 + most) cap zs) (hm : most ≤ 60000)
    (n : Nat) (hn : leNum (zs.take 2) = n) (hle : most < n) :
    Calls Tryd.prog 25 #[.slice a (2 + most) cap, .int .i64 most] w fun e w' => e = .returned (.tuple #[.slice none 0 0, .bool false]) ∧ Below w.heap.size w w' := by
  have hn64 := leNum_lt7 (zs.take 2) (h.bytes.take 2) (by simp; omega)
  rw [hn] at hn64
  have h4 : (((2 + most : Nat) : Int) != 2 + (most : Int)) = false := by simp
  have hc1 := h.le_cap
  have hc2 := h.cap_le
  have hzl := h.length
  have HH : Hid (∀ m, Calls Tryd.prog 24 #[.slice a 2 cap] (w.drewN m) fun e w' => e = .returned (.int .u64 n) ∧ w' = w.drewN m) := get2 w (h.taken 2 (by omega)) n hn
  have hs1 := cutTo h .i64 2 2 rfl (by omega)
  have hs2 := cutFrom a (2 + most) cap .i64 2 2 most rfl (by omega) (by omega)
  have hR : Bs w (cutA a cap 2) most (cap - 2) (zs.drop 2) := by have := h.cut 2 (by omega); rwa [show 2 + most - 2 = most by omega] at this
  generalize cutA a cap 2 = r at *
  clear hn hR
  go_enter Tryd.func25, Tryd.ntmps25
  go_wp2_with fail
  refine (canPad_yes _ _ (by omega) (by omega)).mono ?_
  rintro e w' ⟨rfl, rfl⟩
  go_wp2_with fail
  go_quiet ((go_at_call 24; exact Calls.quiet_of_same (HH.out _)))
  go_wp2_with fail
  go_ret2
  exact ⟨rfl, below_drewN (Below.refl _ _) nq⟩

set_option maxHeartbeats 1000000 in
theorem unpad_dirt {a : Option Addr} {cap : Nat} {zs : List Int} (most : Nat) (w : World) (h : Bs w a (2 + most) cap zs) (hm : most ≤ 60000)
    (n : Nat) (hn : leNum (zs.take 2) = n) (hle : n ≤ most) (hz : allZ ((zs.drop 2).drop n) = false) :
    Calls Tryd.prog 25 #[.slice a (2 + most) cap, .int .i64 most] w fun e w' => e = .returned (.tuple #[.slice none 0 0, .bool false]) ∧ Below w.heap.size w w' := by
  have h4 : (((2 + most : Nat) : Int) != 2 + (most : Int)) = false := by simp
  have hc1 := h.le_cap
  have hc2 := h.cap_le
  have hzl := h.length
  have HH : Hid (∀ m, Calls Tryd.prog 24 #[.slice a 2 cap] (w.drewN m) fun e w' => e = .returned (.int .u64 n) ∧ w' = w.drewN m) := get2 w (h.taken 2 (by omega)) n hn
  have hs1 := cutTo h .i64 2 2 rfl (by omega)
  have hs2 := cutFrom a (2 + most) cap .i64 2 2 most rfl (by omega) (by omega)
  have hR : Bs w (cutA a cap 2) most (cap - 2) (zs.drop 2) := by have := h.cut 2 (by omega); rwa [show 2 + most - 2 = most by omega] at this
  generalize cutA a cap 2 = r at *
  have hs3 := cutFrom r most (cap - 2) .u64 n n (most - n) rfl hle rfl
  have HB : Hid (∀ nq, Bs (w.drewN nq) (cutA r (cap - 2) n) (most - n) (cap - 2 - n) ((zs.drop 2).drop n)) := fun nq => (hR.cut n hle).below (below_drewN (Below.refl _ _) nq)
  generalize cutA r (cap - 2) n = q at *
  have HZ := hide hz
  clear hz hn hR
  go_enter Tryd.func25, Tryd.ntmps25
  go_wp2_with fail
  refine (canPad_yes _ _ (by omega) (by omega)).mono ?_
  rintro e w' ⟨rfl, rfl⟩
  go_wp2_with fail
  go_quiet ((go_at_call 24; exact Calls.quiet_of_same (HH.out _)))
  go_wp2_with fail
  refine (nought_any _ (HB.out nq)).mono ?_
  rintro e w' ⟨rfl, rfl⟩
  rw [unhide HZ]
  go_wp2_with fail
  go_ret2
  exact ⟨rfl, below_drewN (Below.refl _ _) nq⟩

/-- What Unpad answers, in numbers. -/
def unpadL (zs : List Int) (most : Int) : Option (List Int) :=
  if 0 ≤ most ∧ most ≤ 60000 ∧ (zs.length : Int) = 2 + most ∧ leNum (zs.take 2) ≤ most ∧ allZ ((zs.drop 2).drop (leNum (zs.take 2)).toNat) = true then some ((zs.drop 2).take (leNum (zs.take 2)).toNat) else none

theorem unpad_any {a : Option Addr} {len cap : Nat} {zs : List Int} (most : Int) (w : World) (h : Bs w a len cap zs) :
    Calls Tryd.prog 25 #[.slice a len cap, .int .i64 most] w fun e w' => Below w.heap.size w w' ∧
      ((∃ us g, unpadL zs most = some us ∧ e = .returned (.tuple #[.slice (some ⟨g, 0, none⟩) us.length us.length, .bool true]) ∧ w.heap.size ≤ g ∧ OwnB 5 w' g us) ∨
       (unpadL zs most = none ∧ e = .returned (.tuple #[.slice none 0 0, .bool false]))) := by
  have hl := h.length
  have hl63 : len ≤ 9223372036854775807 := Nat.le_trans h.le_cap h.cap_le
  by_cases hbad : most < 0 ∨ 60000 < most ∨ (len : Int) ≠ 2 + most
  · refine (unpad_len most w hbad hl63).mono ?_
    rintro e w' ⟨rfl, rfl⟩
    refine ⟨Below.refl _ _, .inr ⟨?_, rfl⟩⟩
    unfold unpadL
    rw [if_neg (by omega)]
  · obtain ⟨m, rfl⟩ := Int.eq_ofNat_of_zero_le (show 0 ≤ most by omega)
    have hlen : len = 2 + m := by omega
    have hm6 : m ≤ 60000 := by omega
    subst hlen
    have hb2 := leNum_lt7 (zs.take 2) (h.bytes.take 2) (by simp; omega)
    obtain ⟨n, hn⟩ := Int.eq_ofNat_of_zero_le hb2.1
    by_cases hle : n ≤ m
    · cases hz : allZ ((zs.drop 2).drop n) with
      | true =>
        refine (unpad_ok m w h hm6 n hn hle hz).mono ?_
        rintro e w' ⟨g, rfl, hg, ho, hb⟩
        have hul : ((zs.drop 2).take n).length = n := by simp; omega
        refine ⟨hb, .inl ⟨(zs.drop 2).take n, g, ?_, by rw [hul], hg, ho⟩⟩
        unfold unpadL
        rw [hn, Int.toNat_natCast, if_pos ⟨by omega, by omega, by omega, by omega, hz⟩]
      | false =>
        refine (unpad_dirt m w h hm6 n hn hle hz).mono ?_
        rintro e w' ⟨rfl, hb⟩
        refine ⟨hb, .inr ⟨?_, rfl⟩⟩
        unfold unpadL
        rw [hn, Int.toNat_natCast, if_neg (by rw [hz]; simp)]
    · refine (unpad_far m w h hm6 n hn (by omega)).mono ?_
      rintro e w' ⟨rfl, hb⟩
      refine ⟨hb, .inr ⟨?_, rfl⟩⟩
      unfold unpadL
      rw [hn, if_neg (by omega)]
#print axioms unpad_any
end Go.Proofs.YthhaeiafgloacaaDoor
