/- What a call of le.Unpad does: for every slice of bytes that can be read and every number; nothing that was there is turned. -/
import Derived.Test.YtaglibgcldhabaaLeNought
import Derived.Test.YtaglibgcldhabaaLeGet
import Derived.Laws.CopyOwn
import Derived.Deep.QuietTactic
import Derived.BigQuiet
namespace Go.Proofs.Ytaglibgcldhabaa
open Go.RowKit

theorem unpad_len {a : Option Addr} {len cap : Nat} (most : Int) (w : World) (h : most < 0 ∨ 60000 < most ∨ (len : Int) ≠ 2 + most) (_hl : len ≤ 9223372036854775807) :
    Calls Try.prog 10 #[.slice a len cap, .int .i64 most] w fun e w' => e = .returned (.tuple #[.slice none 0 0, .bool false]) ∧ w = w' := by
  by_cases hm : most < 0 ∨ 60000 < most
  · go_enter Try.func10, Try.ntmps10
    go_wp2_with fail
    refine (canPad_no _ _ hm).mono ?_
    rintro e w' ⟨rfl, rfl⟩
    go_wp2_with fail
    go_ret2
    exact ⟨rfl, rfl⟩
  · have h1 : (len : Int) ≠ 2 + most := by omega
    have h2 : 0 ≤ most := by omega
    have h3 : most ≤ 60000 := by omega
    have h4 : ((len : Int) != 2 + most) = true := by rw [bne_iff_ne]; exact h1
    clear h hm
    go_enter Try.func10, Try.ntmps10
    go_wp2_with fail
    refine (canPad_yes _ _ h2 h3).mono ?_
    rintro e w' ⟨rfl, rfl⟩
    go_wp2_with fail
    go_ret2
    exact ⟨rfl, rfl⟩

theorem get2 {b off cap : Nat} {zs : List Int} (w : World) (h : Bs w (some ⟨b, off, none⟩) 2 cap zs) (n : Nat) (hn : leNum zs = n) (m : Nat) :
    Calls Try.prog 13 #[.slice (some ⟨b, off, none⟩) 2 cap] (w.drewN m) fun e w' => e = .returned (.int .u64 n) ∧ w' = w.drewN m := by
  refine (get_any (w.drewN m) (h.below (below_drewN (Below.refl _ _) m))).mono ?_
  rintro e w' ⟨rfl, rfl⟩
  rw [List.take_of_length_le (by rw [h.length]; omega), hn]
  exact ⟨rfl, rfl⟩

theorem unhide {p : Prop} (h : Hid p) : p := h
theorem Bs.empty (w : World) (a : Option Addr) (cap : Nat) (h : cap ≤ 9223372036854775807) {zs : List Int} (hz : zs = []) : Bs w a 0 cap zs := by
  subst hz
  exact ⟨rfl, Nat.zero_le _, h, IsBytes.nil, .inl rfl⟩
theorem Bs.empty' {w : World} {a : Option Addr} {len cap : Nat} (h0 : len = 0) (h : cap ≤ 9223372036854775807) {zs : List Int} (hz : zs = []) : Bs w a len cap zs := by
  subst hz
  subst h0
  exact ⟨rfl, Nat.zero_le _, h, IsBytes.nil, .inl rfl⟩
theorem splice_all (cur zs : List Int) (n : Nat) (h : cur.length = n) (h2 : n ≤ zs.length) : splice cur 0 (zs.take n) = zs.take n := by
  unfold splice
  rw [List.drop_of_length_le (by simp; omega)]
  simp

set_option maxHeartbeats 1000000 in
theorem unpad_zero {b off : Nat} {zs : List Int} (w : World) (h : Bs w (some ⟨b, off, none⟩) 2 2 zs) (hn : leNum (zs.take 2) = 0) :
    Calls Try.prog 10 #[.slice (some ⟨b, off, none⟩) 2 2, .int .i64 0] w fun e w' => ∃ g, e = .returned (.tuple #[.slice (some ⟨g, 0, none⟩) 0 0, .bool true]) ∧ w.heap.size ≤ g ∧ OwnB 5 w' g [] ∧ Below w.heap.size w w' := by
  have hmk : ∀ w, (Instr.makeSlice 22 (.int .u64 0) (.int .u64 0)).run Try.prog w = .ok (.slice (some ⟨w.heap.size, 0, none⟩) 0 0) (w.alloc (.cells #[] 5)) := by
    intro w
    have := run_make_row' (P := Try.prog) 22 5 (.int .u8 0) 1 Try.underlying22 Try.info_u8 rfl .u64 .u64 0 (by omega) (by omega) w
    rw [show madeCells #[Value.int IntKind.u8 0] 0 = #[] by simp [madeCells]] at this
    exact this
  have HH : Hid (∀ m, Calls Try.prog 13 #[.slice (some ⟨b, off, none⟩) 2 2] (w.drewN m) fun e w' => e = .returned (.int .u64 0) ∧ w' = w.drewN m) := get2 w h 0 (by rw [List.take_of_length_le (by rw [h.length]; omega)] at hn; simpa using hn)
  clear hn
  go_enter Try.func10, Try.ntmps10
  go_wp2_with fail
  refine (canPad_yes _ _ (by omega) (by omega)).mono ?_
  rintro e w' ⟨rfl, rfl⟩
  go_wp2_with fail
  go_quiet ((go_at_call 13; exact Calls.quiet_of_same (HH.out _)))
  go_wp2_with fail
  refine (nought_any (zs := []) _ (Bs.empty' rfl (by omega) rfl)).mono ?_
  rintro e w' ⟨rfl, rfl⟩
  obtain ⟨w3, hr3, hZ3, ho3⟩ := run_copy_bytes (P := Try.prog) Try.underlying22 Try.size_u8 3 ((w.drewN nq).alloc (Obj.cells #[] 5)) (some ⟨w.heap.size, 0, none⟩) (some ⟨b, off, none⟩) 0 0 0 0 w.heap.size 0 0 [] [] (heap_alloc_new (w.drewN nq) (Obj.cells #[] 5)) rfl (.inr rfl) (Bs.empty' rfl (by omega) rfl) (by simp)
  have hb3 : Below w.heap.size w w3 := ho3.below ((below_drewN (Below.refl _ _) nq).alloc (Nat.le_refl _) _) (Nat.le_refl _)
  clear ho3
  have hal : allZ [] = true := rfl
  go_wp2_with fail
  go_ret2
  exact ⟨_, rfl, Nat.le_refl _, hZ3, hb3⟩

set_option maxHeartbeats 1000000 in
theorem unpad_ok {b off cap : Nat} {zs : List Int} (most : Nat) (w : World) (h : Bs w (some ⟨b, off, none⟩) (2 + most) cap zs) (hm : most ≤ 60000)
    (n : Nat) (hn : leNum (zs.take 2) = n) (hle : n ≤ most) (hz : allZ ((zs.drop 2).drop n) = true) :
    Calls Try.prog 10 #[.slice (some ⟨b, off, none⟩) (2 + most) cap, .int .i64 most] w fun e w' => ∃ g, e = .returned (.tuple #[.slice (some ⟨g, 0, none⟩) n n, .bool true]) ∧ w.heap.size ≤ g ∧ OwnB 5 w' g ((zs.drop 2).take n) ∧ Below w.heap.size w w' := by
  have hmk := run_make_row' (P := Try.prog) 22 5 (.int .u8 0) 1 Try.underlying22 Try.info_u8 rfl .u64 .u64 n (by omega) (by omega)
  have h4 : (((2 + most : Nat) : Int) != 2 + (most : Int)) = false := by simp
  have hc1 := h.le_cap
  have hc2 := h.cap_le
  have HH : Hid (∀ m, Calls Try.prog 13 #[.slice (some ⟨b, off, none⟩) 2 cap] (w.drewN m) fun e w' => e = .returned (.int .u64 n) ∧ w' = w.drewN m) := get2 w (h.taken 2 (by omega)) n hn
  have HZ : Hid (allZ ((zs.drop 2).drop n) = true) := hz
  have hB2 := fun nq => h.below (below_drewN (Below.refl _ _) nq)
  have HB : Hid (∀ nq, Bs (w.drewN nq) (some ⟨b, off, none⟩) (2 + most) cap zs) := hB2
  have hzl := h.length
  have hal : ∀ nq, Below (w.drewN nq).heap.size (w.drewN nq) ((w.drewN nq).alloc (Obj.cells (madeCells #[Value.int IntKind.u8 0] n) 5)) := fun nq => (Below.refl _ _).alloc (Nat.le_refl _) _
  have HA : Hid (∀ nq, Below (w.drewN nq).heap.size (w.drewN nq) ((w.drewN nq).alloc (Obj.cells (madeCells #[Value.int IntKind.u8 0] n) 5))) := hal
  have HN : Hid (leNum (zs.take 2) = n) := hn
  clear hz hn hB2 hal
  by_cases hcap : cap = 2
  · obtain rfl : most = 0 := by omega
    obtain rfl : n = 0 := by omega
    subst hcap
    have := unpad_zero w h HN.out
    refine this.mono ?_
    rintro e w' ⟨g, rfl, hg, ho, hb⟩
    exact ⟨g, rfl, hg, by simpa using ho, hb⟩
  · by_cases hcn : cap - 2 = n
    · obtain rfl : most = n := by omega
      obtain rfl : cap = 2 + most := by omega
      go_enter Try.func10, Try.ntmps10
      go_wp2_with fail
      refine (canPad_yes _ _ (by omega) (by omega)).mono ?_
      rintro e w' ⟨rfl, rfl⟩
      go_wp2_with fail
      go_quiet ((go_at_call 13; exact Calls.quiet_of_same (HH.out _)))
      go_wp2_with fail
      refine (nought_any (zs := (zs.drop 2).drop most) _ (Bs.empty _ _ 0 (by omega) (List.eq_nil_of_length_eq_zero (by simp; omega)))).mono ?_
      rintro e w' ⟨rfl, rfl⟩
      rw [unhide HZ]
      obtain ⟨w3, hr3, hZ3, ho3⟩ := run_copy_bytes (P := Try.prog) Try.underlying22 Try.size_u8 3 ((w.drewN nq).alloc (Obj.cells (madeCells #[Value.int IntKind.u8 0] most) 5)) (some ⟨w.heap.size, 0, none⟩) (some ⟨b, off + 2, none⟩) most most most most w.heap.size 0 most (List.replicate most 0) (zs.drop 2) (OwnB.of_rowIs (World.rowIs_made (w.drewN nq) (.int .u8 0) most _) _ (by simp) (fun i hi => by simp [List.getD, hi])) (by omega) (.inr rfl) (by have := ((HB.out nq).dropped 2 (by omega)).below (HA.out nq); simpa using this) (by simp)
      have hb3 : Below w.heap.size w w3 := ho3.below ((below_drewN (Below.refl _ _) nq).alloc (Nat.le_refl _) _) (Nat.le_refl _)
      rw [splice_all _ _ most (by simp) (by simp; omega)] at hZ3
      clear ho3
      go_wp2_with fail
      go_ret2
      exact ⟨_, rfl, Nat.le_refl _, hZ3, hb3⟩
    · go_enter Try.func10, Try.ntmps10
      go_wp2_with fail
      refine (canPad_yes _ _ (by omega) (by omega)).mono ?_
      rintro e w' ⟨rfl, rfl⟩
      go_wp2_with fail
      go_quiet ((go_at_call 13; exact Calls.quiet_of_same (HH.out _)))
      go_wp2_with fail
      refine (nought_any (zs := (zs.drop 2).drop n) _ (by have := ((HB.out nq).dropped 2 (by omega)).dropped n (by omega); rw [show 2 + most - 2 - n = most - n by omega] at this; exact this)).mono ?_
      rintro e w' ⟨rfl, rfl⟩
      rw [unhide HZ]
      obtain ⟨w3, hr3, hZ3, ho3⟩ := run_copy_bytes (P := Try.prog) Try.underlying22 Try.size_u8 3 ((w.drewN nq).alloc (Obj.cells (madeCells #[Value.int IntKind.u8 0] n) 5)) (some ⟨w.heap.size, 0, none⟩) (some ⟨b, off + 2, none⟩) n n most (cap - 2) w.heap.size 0 n (List.replicate n 0) (zs.drop 2) (OwnB.of_rowIs (World.rowIs_made (w.drewN nq) (.int .u8 0) n _) _ (by simp) (fun i hi => by simp [List.getD, hi])) (by omega) (.inr rfl) (by have := ((HB.out nq).dropped 2 (by omega)).below (HA.out nq); rw [show 2 + most - 2 = most by omega] at this; exact this) (by simp)
      have hb3 : Below w.heap.size w w3 := ho3.below ((below_drewN (Below.refl _ _) nq).alloc (Nat.le_refl _) _) (Nat.le_refl _)
      rw [splice_all _ _ n (by simp) (by simp; omega)] at hZ3
      clear ho3
      go_wp2_with fail
      go_ret2
      exact ⟨_, rfl, Nat.le_refl _, hZ3, hb3⟩

set_option maxHeartbeats 1000000 in
theorem unpad_far {b off cap : Nat} {zs : List Int} (most : Nat) (w : World) (h : Bs w (some ⟨b, off, none⟩) (2 + most) cap zs) (hm : most ≤ 60000)
    (n : Nat) (hn : leNum (zs.take 2) = n) (hle : most < n) :
    Calls Try.prog 10 #[.slice (some ⟨b, off, none⟩) (2 + most) cap, .int .i64 most] w fun e w' => e = .returned (.tuple #[.slice none 0 0, .bool false]) ∧ Below w.heap.size w w' := by
  have h4 : (((2 + most : Nat) : Int) != 2 + (most : Int)) = false := by simp
  have hc1 := h.le_cap
  have hc2 := h.cap_le
  have hn64 := leNum_lt7 (zs.take 2) (h.bytes.take 2) (by simp; omega)
  rw [hn] at hn64
  have HH : Hid (∀ m, Calls Try.prog 13 #[.slice (some ⟨b, off, none⟩) 2 cap] (w.drewN m) fun e w' => e = .returned (.int .u64 n) ∧ w' = w.drewN m) := get2 w (h.taken 2 (by omega)) n hn
  clear hn
  by_cases hcap : cap = 2
  · obtain rfl : most = 0 := by omega
    subst hcap
    go_enter Try.func10, Try.ntmps10
    go_wp2_with fail
    refine (canPad_yes _ _ (by omega) (by omega)).mono ?_
    rintro e w' ⟨rfl, rfl⟩
    go_wp2_with fail
    go_quiet ((go_at_call 13; exact Calls.quiet_of_same (HH.out _)))
    go_wp2_with fail
    go_ret2
    exact ⟨rfl, below_drewN (Below.refl _ _) nq⟩
  · go_enter Try.func10, Try.ntmps10
    go_wp2_with fail
    refine (canPad_yes _ _ (by omega) (by omega)).mono ?_
    rintro e w' ⟨rfl, rfl⟩
    go_wp2_with fail
    go_quiet ((go_at_call 13; exact Calls.quiet_of_same (HH.out _)))
    go_wp2_with fail
    go_ret2
    exact ⟨rfl, below_drewN (Below.refl _ _) nq⟩

set_option maxHeartbeats 1000000 in
theorem unpad_dirt {b off cap : Nat} {zs : List Int} (most : Nat) (w : World) (h : Bs w (some ⟨b, off, none⟩) (2 + most) cap zs) (hm : most ≤ 60000)
    (n : Nat) (hn : leNum (zs.take 2) = n) (hle : n ≤ most) (hz : allZ ((zs.drop 2).drop n) = false) :
    Calls Try.prog 10 #[.slice (some ⟨b, off, none⟩) (2 + most) cap, .int .i64 most] w fun e w' => e = .returned (.tuple #[.slice none 0 0, .bool false]) ∧ Below w.heap.size w w' := by
  have h4 : (((2 + most : Nat) : Int) != 2 + (most : Int)) = false := by simp
  have hc1 := h.le_cap
  have hc2 := h.cap_le
  have hne : n ≠ most := by
    rintro rfl
    rw [List.drop_of_length_le (by simp; have := h.length; omega)] at hz
    cases hz
  have hcn : ¬ cap - 2 = n := by omega
  have hcap : ¬ cap = 2 := by omega
  have HH : Hid (∀ m, Calls Try.prog 13 #[.slice (some ⟨b, off, none⟩) 2 cap] (w.drewN m) fun e w' => e = .returned (.int .u64 n) ∧ w' = w.drewN m) := get2 w (h.taken 2 (by omega)) n hn
  have HZ : Hid (allZ ((zs.drop 2).drop n) = false) := hz
  have HB : Hid (∀ nq, Bs (w.drewN nq) (some ⟨b, off, none⟩) (2 + most) cap zs) := fun nq => h.below (below_drewN (Below.refl _ _) nq)
  clear hn hz
  go_enter Try.func10, Try.ntmps10
  go_wp2_with fail
  refine (canPad_yes _ _ (by omega) (by omega)).mono ?_
  rintro e w' ⟨rfl, rfl⟩
  go_wp2_with fail
  go_quiet ((go_at_call 13; exact Calls.quiet_of_same (HH.out _)))
  go_wp2_with fail
  refine (nought_any (zs := (zs.drop 2).drop n) _ (by have := ((HB.out nq).dropped 2 (by omega)).dropped n (by omega); rw [show 2 + most - 2 - n = most - n by omega] at this; exact this)).mono ?_
  rintro e w' ⟨rfl, rfl⟩
  rw [unhide HZ]
  go_wp2_with fail
  go_ret2
  exact ⟨rfl, below_drewN (Below.refl _ _) nq⟩

/-- What Unpad answers, in numbers. -/
def unpadL (zs : List Int) (most : Int) : Option (List Int) :=
  if 0 ≤ most ∧ most ≤ 60000 ∧ (zs.length : Int) = 2 + most ∧ leNum (zs.take 2) ≤ most ∧ allZ ((zs.drop 2).drop (leNum (zs.take 2)).toNat) = true then some ((zs.drop 2).take (leNum (zs.take 2)).toNat) else none

theorem unpad_any {a : Option Addr} {len cap : Nat} {zs : List Int} (most : Int) (w : World) (h : Bs w a len cap zs) :
    Calls Try.prog 10 #[.slice a len cap, .int .i64 most] w fun e w' => Below w.heap.size w w' ∧
      ((∃ us g, unpadL zs most = some us ∧ e = .returned (.tuple #[.slice (some ⟨g, 0, none⟩) us.length us.length, .bool true]) ∧ w.heap.size ≤ g ∧ OwnB 5 w' g us) ∨
       (unpadL zs most = none ∧ e = .returned (.tuple #[.slice none 0 0, .bool false]))) := by
  have hl := h.length
  have hl63 : len ≤ 9223372036854775807 := Nat.le_trans h.le_cap h.cap_le
  by_cases hbad : most < 0 ∨ 60000 < most ∨ (len : Int) ≠ 2 + most
  · refine (unpad_len most w hbad hl63).mono ?_
    rintro e w' ⟨rfl, rfl⟩
    refine ⟨Below.refl _ _, .inr ⟨?_, rfl⟩⟩
    unfold unpadL
    rw [if_neg (by omega)]
  · obtain ⟨m, rfl⟩ := Int.eq_ofNat_of_zero_le (show 0 ≤ most by omega)
    have hlen : len = 2 + m := by omega
    have hm6 : m ≤ 60000 := by omega
    subst hlen
    rcases h.place with h0 | ⟨b, off, rfl, _⟩
    · omega
    have hb2 := leNum_lt7 (zs.take 2) (h.bytes.take 2) (by simp; omega)
    obtain ⟨n, hn⟩ := Int.eq_ofNat_of_zero_le hb2.1
    by_cases hle : n ≤ m
    · cases hz : allZ ((zs.drop 2).drop n) with
      | true =>
        refine (unpad_ok m w h hm6 n hn hle hz).mono ?_
        rintro e w' ⟨g, rfl, hg, ho, hb⟩
        have hul : ((zs.drop 2).take n).length = n := by simp; omega
        refine ⟨hb, .inl ⟨(zs.drop 2).take n, g, ?_, by rw [hul], hg, ho⟩⟩
        unfold unpadL
        rw [hn, Int.toNat_natCast, if_pos ⟨by omega, by omega, by omega, by omega, hz⟩]
      | false =>
        refine (unpad_dirt m w h hm6 n hn hle hz).mono ?_
        rintro e w' ⟨rfl, hb⟩
        refine ⟨hb, .inr ⟨?_, rfl⟩⟩
        unfold unpadL
        rw [hn, Int.toNat_natCast, if_neg (by rw [hz]; simp)]
    · refine (unpad_far m w h hm6 n hn (by omega)).mono ?_
      rintro e w' ⟨rfl, hb⟩
      refine ⟨hb, .inr ⟨?_, rfl⟩⟩
      unfold unpadL
      rw [hn, if_neg (by omega)]
#print axioms unpad_any
end Go.Proofs.Ytaglibgcldhabaa
