/- What a call of le.Pad does: for every slice of bytes that can be read and every number; nothing that was there is turned. -/
import Derived.Test.YthhaeiafgloacaaDoorLeNought
import Derived.Laws.CopyOwn
namespace Go.Proofs.YthhaeiafgloacaaDoor
open Go.RowKit

def padL (zs : List Int) (most : Nat) : List Int := putL zs.length 2 ++ (zs ++ List.replicate (most - zs.length) 0)
theorem length_padL (zs : List Int) (most : Nat) (h : zs.length ≤ most) : (padL zs most).length = 2 + most := by simp [padL, length_putL]; omega
theorem padL_bytes (zs : List Int) (most : Nat) (h : IsBytes zs) : IsBytes (padL zs most) := (putL_bytes _ _).append (h.append (IsBytes.replicate _))

theorem pad_eq (zs : List Int) (most len n : Nat) (hz : zs.length = len) (hl : len ≤ most) (hn : n = len) :
    splice (splice (List.replicate (2 + most) (0 : Int)) 0 (List.take 2 (putL (↑len) 2))) 2 (zs.take n) = padL zs most := by
  subst hz
  subst hn
  have e1 : List.take 2 (putL (↑zs.length) 2) = putL (↑zs.length) 2 := List.take_of_length_le (by simp [length_putL])
  rw [e1, List.take_length]
  unfold padL splice
  simp only [List.take_zero, List.nil_append, length_putL, Nat.zero_add, List.drop_replicate]
  rw [List.take_append_of_le_length (by simp [length_putL]), List.take_of_length_le (by simp [length_putL]), List.drop_append, List.drop_of_length_le (by simp [length_putL])]
  simp only [length_putL, List.drop_replicate, List.nil_append]
  congr 2
  congr 1
  omega

theorem putL2_num (n : Nat) (h : n < 65536) : leNum (putL (n : Int) 2) = (n : Int) := by
  rw [leNum_putL]; omega
theorem padL_take2 (zs : List Int) (most : Nat) : (padL zs most).take 2 = putL zs.length 2 := by
  unfold padL
  rw [List.take_append_of_le_length (by simp [length_putL]), List.take_of_length_le (by simp [length_putL])]
theorem padL_drop2 (zs : List Int) (most : Nat) : (padL zs most).drop 2 = zs ++ List.replicate (most - zs.length) 0 := by
  unfold padL
  rw [List.drop_append, List.drop_of_length_le (by simp [length_putL])]
  simp [length_putL]
theorem padL_row (zs : List Int) (most : Nat) : ((padL zs most).drop 2).take zs.length = zs := by
  rw [padL_drop2, List.take_append_of_le_length (Nat.le_refl _), List.take_length]
theorem padL_zero (zs : List Int) (most r : Nat) (h : r < most - zs.length) : (padL zs most).getD (zs.length + 2 + r) 0 = 0 := by
  have e : (padL zs most)[zs.length + 2 + r]? = ((padL zs most).drop 2)[zs.length + r]? := by rw [List.getElem?_drop]; congr 1; omega
  rw [List.getD, e, padL_drop2, List.getElem?_append_right (by omega), List.getElem?_replicate, if_pos (by omega)]
  rfl
theorem padL_inj (zs ys : List Int) (most : Nat) (h1 : zs.length ≤ most) (h2 : ys.length ≤ most) (hm : most < 65536) (h : padL zs most = padL ys most) : zs = ys := by
  have e1 : putL (zs.length : Int) 2 = putL (ys.length : Int) 2 := by rw [← padL_take2 zs most, ← padL_take2 ys most, h]
  have e2 := congrArg leNum e1
  rw [putL2_num _ (by omega), putL2_num _ (by omega)] at e2
  have e3 : zs.length = ys.length := by omega
  rw [← padL_row zs most, h, e3, padL_row]
theorem padL_dirt (zs : List Int) (most r : Nat) (h : r < most - zs.length) (h2 : zs.length ≤ most) :
    leNum (((padL zs most).set (zs.length + 2 + r) 1).take 2) = leNum (putL zs.length 2) ∧ allZ ((((padL zs most).set (zs.length + 2 + r) 1).drop 2).drop zs.length) = false := by
  constructor
  · rw [List.take_set_of_le (by omega), padL_take2]
  · rw [List.drop_drop, List.drop_set]
    rw [if_neg (by omega)]
    refine allZ_stop _ r ?_ ?_
    · rw [List.length_set, List.length_drop, length_padL zs most h2]; omega
    · rw [List.getD, show zs.length + 2 + r - (2 + zs.length) = r by omega, List.getElem?_set_self (by rw [List.length_drop, length_padL zs most h2]; omega)]
      simp

set_option maxHeartbeats 400000 in
theorem pad_ok {a : Option Addr} {len cap : Nat} {zs : List Int} (most : Nat) (w : World) (h : Bs w a len cap zs) (hl : len ≤ most) (hm : most ≤ 60000) :
    Calls Tryd.prog 20 #[.slice a len cap, .int .i64 most] w fun e w' => e = .returned (.tuple #[.slice (some ⟨w.heap.size, 0, none⟩) (2 + most) (2 + most), .bool true]) ∧ OwnB 5 w' w.heap.size (padL zs most) ∧ Below w.heap.size w w' := by
  have hmk := run_make_row' (P := Tryd.prog) 25 5 (.int .u8 0) 1 Tryd.underlying25 Tryd.info_u8 rfl .i64 .i64 (2 + most) (by omega) (by omega)
  rw [show ((2 + most : Nat) : Int) = 2 + (most : Int) by omega] at hmk
  go_enter Tryd.func20, Tryd.ntmps20
  go_wp2_with fail
  refine (canPad_yes _ _ (by omega) (by omega)).mono ?_
  rintro e w' ⟨rfl, rfl⟩
  go_wp2_with fail
  refine (put_at _ 2 2 _ rfl ⟨by omega, by omega⟩ (by omega)).mono ?_
  rintro e w1 ⟨rfl, hown, hbel⟩
  have hZ : OwnB 5 (w.alloc (Obj.cells (madeCells #[Value.int IntKind.u8 0] (2 + most)) 5)) w.heap.size (List.replicate (2 + most) 0) :=
    OwnB.of_rowIs (World.rowIs_made w (.int .u8 0) (2 + most) _) _ (by simp) (fun i hi => by simp [List.getD, hi])
  have hb0 : Below w.heap.size w (w.alloc (Obj.cells (madeCells #[Value.int IntKind.u8 0] (2 + most)) 5)) := (Below.refl _ _).alloc (Nat.le_refl _) _
  have hsz0 : (w.alloc (Obj.cells (madeCells #[Value.int IntKind.u8 0] (2 + most)) 5)).heap.size = w.heap.size + 1 := by simp
  generalize w.alloc (Obj.cells (madeCells #[Value.int IntKind.u8 0] (2 + most)) 5) = w0 at *
  have hZ1 := hZ.below hbel
  have hb1 : Below w.heap.size w w1 := hb0.trans (hbel.mono (by omega))
  rw [hsz0] at hown
  obtain ⟨w2, hr2, hZ2, ho2⟩ := run_copy_bytes (P := Tryd.prog) Tryd.underlying25 Tryd.size_u8 3 w1 (some ⟨w.heap.size, 0, none⟩) (some ⟨w.heap.size + 1, 0, none⟩) (2 + most) (2 + most) 2 2 w.heap.size 0 2 _ _ hZ1 (by omega) (.inr rfl) (hown.bs (putL_bytes _ _) 2 (length_putL _ _) (by omega)) (by simp)
  have hb2 : Below w.heap.size w w2 := ho2.below hb1 (Nat.le_refl _)
  have hs2 := h.below hb2
  clear hZ hZ1 hown hbel hb0 hb1 ho2
  have hl2 : (splice (List.replicate (2 + most) (0 : Int)) 0 (List.take 2 (putL (↑len) 2))).length = 2 + most := by
    rw [length_splice _ _ _ (by simp [length_putL])]; simp
  by_cases hm0 : most = 0
  · subst hm0
    obtain ⟨w3, hr3, hZ3, ho3⟩ := run_copy_bytes (P := Tryd.prog) Tryd.underlying25 Tryd.size_u8 3 w2 (some ⟨w.heap.size, 0, none⟩) a 0 0 len cap w.heap.size 2 0 _ _ hZ2 (by omega) (.inl rfl) hs2 (by omega)
    have HP : Hid (splice (splice (List.replicate (2 + 0) (0 : Int)) 0 (List.take 2 (putL (↑len) 2))) 2 (zs.take 0) = padL zs 0) := pad_eq zs 0 len 0 h.length (by omega) (by omega)
    have hb3 := ho3.below hb2 (Nat.le_refl _)
    clear hZ2 ho3
    go_wp2_with fail
    go_ret2
    exact ⟨rfl, by rw [← HP.out]; exact hZ3, hb3⟩
  · obtain ⟨w3, hr3, hZ3, ho3⟩ := run_copy_bytes (P := Tryd.prog) Tryd.underlying25 Tryd.size_u8 3 w2 (some ⟨w.heap.size, 2, none⟩) a most most len cap w.heap.size 2 len _ _ hZ2 (by omega) (.inr rfl) hs2 (by omega)
    have HP : Hid (splice (splice (List.replicate (2 + most) (0 : Int)) 0 (List.take 2 (putL (↑len) 2))) 2 (zs.take len) = padL zs most) := pad_eq zs most len len h.length hl (by omega)
    have hb3 := ho3.below hb2 (Nat.le_refl _)
    clear hZ2 ho3
    go_wp2_with fail
    go_ret2
    exact ⟨rfl, by rw [← HP.out]; exact hZ3, hb3⟩

theorem pad_at {a : Option Addr} {len cap : Nat} {zs : List Int} (m : Int) (most : Nat) (w : World) (hmm : m = most) (h : Bs w a len cap zs) (hl : len ≤ most) (hm : most ≤ 60000) :
    Calls Tryd.prog 20 #[.slice a len cap, .int .i64 m] w fun e w' => e = .returned (.tuple #[.slice (some ⟨w.heap.size, 0, none⟩) (2 + most) (2 + most), .bool true]) ∧ OwnB 5 w' w.heap.size (padL zs most) ∧ Below w.heap.size w w' := by
  subst hmm
  exact pad_ok most w h hl hm

theorem pad_bad {a : Option Addr} {len cap : Nat} (most : Int) (w : World) (h : most < 0 ∨ 60000 < most ∨ most < len) (_hl : len ≤ 9223372036854775807) :
    Calls Tryd.prog 20 #[.slice a len cap, .int .i64 most] w fun e w' => e = .returned (.tuple #[.slice none 0 0, .bool false]) ∧ w = w' := by
  by_cases hm : most < 0 ∨ 60000 < most
  · go_enter Tryd.func20, Tryd.ntmps20
    go_wp2_with fail
    refine (canPad_no _ _ hm).mono ?_
    rintro e w' ⟨rfl, rfl⟩
    go_wp2_with fail
    go_ret2
    exact ⟨rfl, rfl⟩
  · have h1 : most < len := by omega
    have h2 : 0 ≤ most := by omega
    have h3 : most ≤ 60000 := by omega
    clear h hm
    go_enter Tryd.func20, Tryd.ntmps20
    go_wp2_with fail
    refine (canPad_yes _ _ h2 h3).mono ?_
    rintro e w' ⟨rfl, rfl⟩
    go_wp2_with fail
    go_ret2
    exact ⟨rfl, rfl⟩
#print axioms pad_ok
#print axioms pad_bad
end Go.Proofs.YthhaeiafgloacaaDoor
