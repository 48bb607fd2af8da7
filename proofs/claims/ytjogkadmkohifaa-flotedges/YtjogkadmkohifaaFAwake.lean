/- A call of dumbwaiterlaw5.awake answers true and turns nothing that was there, in every world. -/
import Derived.Test.YtjogkadmkohifaaFMath
import Derived.Test.YtjogkadmkohifaaFPart
import Derived.Test.YtjogkadmkohifaaFStr
namespace Go.Proofs.Ytjogkadmkohifaa
open Go.RowKit

theorem part_half {k : Int} {ok : Bool} (h : PartOf 3 4602678819172646912 k ok) : k = 6 ∧ ok = true := by
  have hg : goodF 4602678819172646912 = true := by decide
  have e6 : enough 3 4602678819172646912 6 = true := by kernel_rfl
  have e5 : enough 3 4602678819172646912 5 = false := by kernel_rfl
  refine PartOf.same h ⟨fun hb => by rw [hg] at hb; rcases hb with h | h | h <;> first | omega | (cases h), fun _ _ _ h => (by cases h), fun _ _ _ _ => ⟨6, rfl, by omega, e6, fun t ht => ?_⟩⟩
  cases hh : enough 3 4602678819172646912 t with
  | false => exact hh
  | true =>
    have := enough_mono (b := 5) (by omega) hh
    rw [e5] at this; cases this

theorem part_nan {n : Int} {f : Nat} {k : Int} {ok : Bool} (h : PartOf n f k ok) (hg : goodF f = false) : k = 0 ∧ ok = false := h.bad (.inr (.inr hg))

set_option maxHeartbeats 2000000 in
theorem awake_any (w : World) : Calls Try.prog 17 #[] w fun e w' => e = .returned (.bool true) ∧ Below w.heap.size w w' := by
  have h00 : Ieee.Format.order FloatKind.f64.format 0 0 = some .eq := by kernel_rfl
  go_enter Try.func17, Try.ntmps17
  go_wp2_with fail
  refine (part_any 3 4602678819172646912 w (by omega)).mono ?_
  rintro e w1 ⟨⟨k, ok, rfl, hP⟩, hb1⟩
  obtain ⟨rfl, rfl⟩ := part_half hP.out
  clear hP
  go_wp2_with fail
  refine (nan_any w1).mono ?_
  rintro e w' ⟨rfl, rfl⟩
  go_wp2_with fail
  refine (part_any 3 9221120237041090561 w1 (by omega)).mono ?_
  rintro e w2 ⟨⟨k, ok, rfl, hP⟩, hb2⟩
  obtain ⟨rfl, rfl⟩ := part_nan hP.out (by decide)
  clear hP
  have hbw2 := hb1.trans (hb2.mono hb1.size)
  clear hb1 hb2
  go_wp2_with fail
  refine (minus_any w2).mono ?_
  rintro e w' ⟨rfl, rfl⟩
  go_wp2_with fail
  refine (bytes_any 4607182418800017408 w2 (by omega)).mono ?_
  rintro e w3 ⟨rfl, ho3, hb3⟩
  have hs3 : (convert 31 9 (.slice (some ⟨w2.heap.size, 0, none⟩) 8 8)).run Try.prog w3 = .ok (.string ⟨#[0, 0, 0, 0, 0, 0, 240, 63]⟩) w3 := str_bytes (ho3.bs (putL_bytes _ _) 8 (length_putL _ _) (by omega))
  have hbw3 := hbw2.trans (hb3.mono hbw2.size)
  clear ho3 hb3 hbw2
  generalize w2.heap.size = g2 at *
  go_wp2_with fail
  rw [conv_bytes]
  have hab : Bs (w3.alloc (Obj.cells #[Value.int IntKind.u8 115, Value.int IntKind.u8 104, Value.int IntKind.u8 111, Value.int IntKind.u8 114, Value.int IntKind.u8 116] 5 (5, 6))) (some ⟨w3.heap.size, 0, none⟩) 5 5 [115, 104, 111, 114, 116] := Bs.lit rfl rfl (bytes_lit rfl) rfl (by omega)
  have hbw4 : Below w.heap.size w (w3.alloc (Obj.cells #[Value.int IntKind.u8 115, Value.int IntKind.u8 104, Value.int IntKind.u8 111, Value.int IntKind.u8 114, Value.int IntKind.u8 116] 5 (5, 6))) := hbw3.alloc hbw3.size _
  simp only [List.size_toArray, List.length_cons, List.length_nil, Nat.zero_add]
  generalize w3.alloc (Obj.cells #[Value.int IntKind.u8 115, Value.int IntKind.u8 104, Value.int IntKind.u8 111, Value.int IntKind.u8 114, Value.int IntKind.u8 116] 5 (5, 6)) = w4 at *
  clear hbw3 hs3
  generalize w3.heap.size = g3 at *
  go_wp2_with fail
  refine (of_any w4 hab).mono ?_
  rintro e w' ⟨rfl, rfl⟩
  rw [show ofB [115, 104, 111, 114, 116] = 0 from rfl]
  clear hab
  go_wp2_with fail
  refine (add_any 0 9223372036854775808 w4).mono ?_
  rintro e w5 ⟨rfl, _, hb5⟩
  rw [show addB 0 9223372036854775808 = 0 by kernel_rfl]
  have hbw5 := hbw4.trans (hb5.mono hbw4.size)
  clear hb5 hbw4
  go_wp2_with fail
  refine (alike_any 0 0 w5).mono ?_
  rintro e w' ⟨rfl, rfl⟩
  go_wp2_with fail
  refine (add_any 9223372036854775808 9223372036854775808 w5).mono ?_
  rintro e w6 ⟨rfl, _, hb6⟩
  rw [show addB 9223372036854775808 9223372036854775808 = 9223372036854775808 by kernel_rfl]
  have hbw6 := hbw5.trans (hb6.mono hbw5.size)
  clear hb6 hbw5
  go_wp2_with fail
  refine (alike_any 9223372036854775808 9223372036854775808 w6).mono ?_
  rintro e w' ⟨rfl, rfl⟩
  go_wp2_with fail
  refine (inf_pos w6).mono ?_
  rintro e w' ⟨rfl, rfl⟩
  go_wp2_with fail
  refine (inf_neg w6).mono ?_
  rintro e w' ⟨rfl, rfl⟩
  go_wp2_with fail
  refine (add_any 9218868437227405312 18442240474082181120 w6).mono ?_
  rintro e w7 ⟨rfl, _, hb7⟩
  rw [show addB 9218868437227405312 18442240474082181120 = 9221120237041090560 by kernel_rfl]
  have hbw7 := hbw6.trans (hb7.mono hbw6.size)
  clear hb7 hbw6
  go_wp2_with fail
  refine (nan_any w7).mono ?_
  rintro e w' ⟨rfl, rfl⟩
  go_wp2_with fail
  refine (one_any 9221120237041090561 w7 (by omega)).mono ?_
  rintro e w' ⟨rfl, rfl⟩
  rw [show one 9221120237041090561 = 9221120237041090560 by kernel_rfl]
  go_wp2_with fail
  refine (alike_any 9221120237041090560 9221120237041090560 w7).mono ?_
  rintro e w' ⟨rfl, rfl⟩
  go_wp2_with fail
  refine (less_any 9223372036854775808 0 w7 (by omega) (by omega)).mono ?_
  rintro e w' ⟨rfl, rfl⟩
  rw [show lessB 9223372036854775808 0 = true by kernel_rfl]
  go_wp2_with fail
  refine (nan_any w7).mono ?_
  rintro e w' ⟨rfl, rfl⟩
  go_wp2_with fail
  refine (less_any 4607182418800017408 9221120237041090561 w7 (by omega) (by omega)).mono ?_
  rintro e w' ⟨rfl, rfl⟩
  rw [show lessB 4607182418800017408 9221120237041090561 = true by kernel_rfl]
  go_wp2_with fail
  go_ret
  exact ⟨rfl, hbw7⟩
#print axioms awake_any
end Go.Proofs.Ytjogkadmkohifaa
