/- A call of dumbwaiterlaw1.awake answers true and turns nothing that was there, in every world. -/
import Derived.Test.YtaglibgcldhabaaLePad
import Derived.Test.YtaglibgcldhabaaLeUnpad
import Derived.Test.YtaglibgcldhabaaLeSum
import Derived.Test.YtaglibgcldhabaaSame1
import Derived.Lib.SlBytesConst
namespace Go.Proofs.Ytaglibgcldhabaa
open Go.RowKit
theorem conv_bytes (w : World) (C : Array Value) (n c : Nat) : (convert 22 22 (.slice (some ⟨w.heap.size, 0, none⟩) n c)).run Try.prog (w.alloc (.cells C 5)) = .ok (.slice (some ⟨w.heap.size, 0, none⟩) n c) (w.alloc (.cells C 5 (C.size, C.size + 1))) :=
  Lib.run_convert_bytes_const w 22 5 C n c Try.underlying22 Try.underlying5
theorem Bs.lit {w : World} {o : Obj} {E : TypeId} {fr : Nat × Nat} {vs : Array Value} {zs : List Int} {n : Nat} (ho : o = .cells vs E fr) (hv : vs.toList = zs.map (Value.int .u8)) (hz : IsBytes zs) (hn : zs.length = n) (h63 : n ≤ 9223372036854775807) :
    Bs (w.alloc o) (some ⟨w.heap.size, 0, none⟩) n n zs := by
  subst ho
  refine ⟨hn, Nat.le_refl _, h63, hz, .inr ⟨w.heap.size, 0, rfl, fun i hi => ?_⟩⟩
  have hvs : vs = (zs.map (Value.int .u8)).toArray := by rw [← hv]
  subst hvs
  have hi' : i < zs.length := by omega
  rw [Nat.zero_add]
  unfold World.cell?
  rw [heap_alloc_new]
  simp [hi', List.getD]
theorem OwnB.lit {E : TypeId} {w : World} {g : Nat} {zs : List Int} {vs : Array Value} (h : w.heap[g]? = some (.cells vs E (0, 0))) (hv : vs.toList = zs.map (Value.int .u8)) : OwnB E w g zs := by
  unfold OwnB
  rw [h, ← hv]
theorem bytes_lit {l : List Int} (h : (l.all fun x => decide (0 ≤ x) && decide (x < 256)) = true) : IsBytes l := by
  intro n hn
  have := List.all_eq_true.1 h n hn
  simp at this
  exact this
set_option maxHeartbeats 1000000 in
theorem awake_any (w : World) : Calls Try.prog 8 #[] w fun e w' => e = .returned (.bool true) ∧ Below w.heap.size w w' := by
  go_enter Try.func8, Try.ntmps8
  go_wp2_with fail
  rw [conv_bytes]
  go_wp2_with fail
  have hab : Bs (w.alloc (Obj.cells #[Value.int IntKind.u8 97, Value.int IntKind.u8 98] 5 (2, 3))) (some ⟨w.heap.size, 0, none⟩) 2 2 [97, 98] := Bs.lit rfl rfl (bytes_lit rfl) rfl (by omega)
  have hbl : Below w.heap.size w (w.alloc (Obj.cells #[Value.int IntKind.u8 97, Value.int IntKind.u8 98] 5 (2, 3))) := (Below.refl _ _).alloc (Nat.le_refl _) _
  generalize w.alloc (Obj.cells #[Value.int IntKind.u8 97, Value.int IntKind.u8 98] 5 (2, 3)) = w1 at *
  refine (pad_ok (zs := [97, 98]) 3 w1 hab (by omega) (by omega)).mono ?_
  rintro e w2 ⟨rfl, ho2, hb2⟩
  have hbl2 : Below w.heap.size w w2 := hbl.trans (hb2.mono hbl.size)
  have hp2 : Bs w2 (some ⟨w1.heap.size, 0, none⟩) 5 5 [2, 0, 97, 98, 0] := ho2.bs (bytes_lit rfl) 5 rfl (by omega)
  clear hbl hb2 hab ho2
  generalize w1.heap.size = g1 at *
  go_wp2_with fail
  have hab : Bs (w2.alloc (Obj.cells #[Value.int IntKind.u8 2, Value.int IntKind.u8 0, Value.int IntKind.u8 97, Value.int IntKind.u8 98, Value.int IntKind.u8 0] 5)) (some ⟨w2.heap.size, 0, none⟩) 5 5 [2, 0, 97, 98, 0] := Bs.lit rfl rfl (bytes_lit rfl) rfl (by omega)
  have hbl : Below w2.heap.size w2 (w2.alloc (Obj.cells #[Value.int IntKind.u8 2, Value.int IntKind.u8 0, Value.int IntKind.u8 97, Value.int IntKind.u8 98, Value.int IntKind.u8 0] 5)) := (Below.refl _ _).alloc (Nat.le_refl _) _
  generalize w2.alloc (Obj.cells #[Value.int IntKind.u8 2, Value.int IntKind.u8 0, Value.int IntKind.u8 97, Value.int IntKind.u8 98, Value.int IntKind.u8 0] 5) = w3 at *
  refine (unpad_ok (zs := [2, 0, 97, 98, 0]) 3 w3 hab (by omega) 2 rfl (by omega) rfl).mono ?_
  rintro e w4 ⟨g4, rfl, hg4, ho4, hb4⟩
  have hbl4 : Below w2.heap.size w2 w4 := hbl.trans (hb4.mono hbl.size)
  have hp4 := hp2.below hbl4
  have hbw4 : Below w.heap.size w w4 := hbl2.trans (hbl4.mono hbl2.size)
  have hu4 : Bs w4 (some ⟨g4, 0, none⟩) 2 2 [97, 98] := ho4.bs (bytes_lit rfl) 2 rfl (by omega)
  clear hbl hb4 hab ho4 hg4 hbl4 hbl2 hp2
  generalize w2.heap.size = g2 at *
  go_wp2_with fail
  have hab : Bs (w4.alloc (Obj.cells #[Value.int IntKind.u8 2, Value.int IntKind.u8 0, Value.int IntKind.u8 97, Value.int IntKind.u8 98, Value.int IntKind.u8 1] 5)) (some ⟨w4.heap.size, 0, none⟩) 5 5 [2, 0, 97, 98, 1] := Bs.lit rfl rfl (bytes_lit rfl) rfl (by omega)
  have hbl : Below w4.heap.size w4 (w4.alloc (Obj.cells #[Value.int IntKind.u8 2, Value.int IntKind.u8 0, Value.int IntKind.u8 97, Value.int IntKind.u8 98, Value.int IntKind.u8 1] 5)) := (Below.refl _ _).alloc (Nat.le_refl _) _
  generalize w4.alloc (Obj.cells #[Value.int IntKind.u8 2, Value.int IntKind.u8 0, Value.int IntKind.u8 97, Value.int IntKind.u8 98, Value.int IntKind.u8 1] 5) = w5 at *
  refine (unpad_dirt (zs := [2, 0, 97, 98, 1]) 3 w5 hab (by omega) 2 rfl (by omega) rfl).mono ?_
  rintro e w6 ⟨rfl, hb6⟩
  have hbl6 : Below w4.heap.size w4 w6 := hbl.trans (hb6.mono hbl.size)
  have hp6 := hp4.below hbl6
  have hu6 := hu4.below hbl6
  have hbw6 : Below w.heap.size w w6 := hbw4.trans (hbl6.mono hbw4.size)
  clear hbl hb6 hab hbl6 hp4 hu4 hbw4
  generalize w4.heap.size = g5 at *
  go_wp2_with fail
  refine (put_at 258 2 2 w6 rfl ⟨by omega, by omega⟩ (by omega)).mono ?_
  rintro e w7 ⟨rfl, ho7, hb7⟩
  have hp7 := hp6.below hb7
  have hu7 := hu6.below hb7
  have hs7 : (convert 22 9 (.slice (some ⟨w6.heap.size, 0, none⟩) 2 2)).run Try.prog w7 = .ok (.string ⟨#[2, 1]⟩) w7 := str_bytes (ho7.bs (putL_bytes _ _) 2 (length_putL _ _) (by omega))
  have hbw7 : Below w.heap.size w w7 := hbw6.trans (hb7.mono hbw6.size)
  clear ho7 hb7 hp6 hu6 hbw6
  generalize w6.heap.size = g6 at *
  go_wp2_with fail
  have hab : Bs (w7.alloc (Obj.cells #[Value.int IntKind.u8 2, Value.int IntKind.u8 1] 5)) (some ⟨w7.heap.size, 0, none⟩) 2 2 [2, 1] := Bs.lit rfl rfl (bytes_lit rfl) rfl (by omega)
  have hbl : Below w7.heap.size w7 (w7.alloc (Obj.cells #[Value.int IntKind.u8 2, Value.int IntKind.u8 1] 5)) := (Below.refl _ _).alloc (Nat.le_refl _) _
  generalize w7.alloc (Obj.cells #[Value.int IntKind.u8 2, Value.int IntKind.u8 1] 5) = w8 at *
  have hp8 : (convert 22 9 (.slice (some ⟨g1, 0, none⟩) 5 5)).run Try.prog w8 = .ok (.string ⟨#[2, 0, 97, 98, 0]⟩) w8 := str_bytes (hp7.below hbl)
  have hu8 : (convert 22 9 (.slice (some ⟨g4, 0, none⟩) 2 2)).run Try.prog w8 = .ok (.string ⟨#[97, 98]⟩) w8 := str_bytes (hu7.below hbl)
  have hbw8 : Below w.heap.size w w8 := hbw7.trans (hbl.mono hbw7.size)
  refine (get_any (zs := [2, 1]) w8 hab).mono ?_
  rintro e w' ⟨rfl, rfl⟩
  have hN : leNum [2, 1] = 258 := rfl
  clear hab hbl hp7 hu7 hbw7 hs7
  generalize w7.heap.size = g7 at *
  go_wp2_with fail
  refine (sum_none _ _ w8).mono ?_
  rintro e w' ⟨rfl, rfl⟩
  have hF : fnv [] = 14695981039346656037 := rfl
  go_wp2_with fail
  rw [conv_bytes]
  have ha9 : Bs (w8.alloc (Obj.cells #[Value.int IntKind.u8 97] 5 (1, 2))) (some ⟨w8.heap.size, 0, none⟩) 1 1 [97] := Bs.lit rfl rfl (bytes_lit rfl) rfl (by omega)
  have hb9 : Below w8.heap.size w8 (w8.alloc (Obj.cells #[Value.int IntKind.u8 97] 5 (1, 2))) := (Below.refl _ _).alloc (Nat.le_refl _) _
  simp only [List.size_toArray, List.length_cons, List.length_nil, Nat.zero_add]
  generalize w8.alloc (Obj.cells #[Value.int IntKind.u8 97] 5 (1, 2)) = w9 at *
  have hbw9 : Below w.heap.size w w9 := hbw8.trans (hb9.mono hbw8.size)
  clear hbw8 hb9 hp8 hu8
  generalize w8.heap.size = g8 at *
  go_wp2_with fail
  rw [conv_bytes]
  have ha10 : Bs (w9.alloc (Obj.cells #[Value.int IntKind.u8 98] 5 (1, 2))) (some ⟨w9.heap.size, 0, none⟩) 1 1 [98] := Bs.lit rfl rfl (bytes_lit rfl) rfl (by omega)
  have hb10 : Below w9.heap.size w9 (w9.alloc (Obj.cells #[Value.int IntKind.u8 98] 5 (1, 2))) := (Below.refl _ _).alloc (Nat.le_refl _) _
  simp only [List.size_toArray, List.length_cons, List.length_nil, Nat.zero_add]
  generalize w9.alloc (Obj.cells #[Value.int IntKind.u8 98] 5 (1, 2)) = w10 at *
  have hbw10 : Below w.heap.size w w10 := hbw9.trans (hb10.mono hbw9.size)
  have ha10' := ha9.below hb10
  clear hbw9 hb10 ha9
  generalize w9.heap.size = g9 at *
  go_wp2_with fail
  refine (sum_lit [⟨some ⟨g8, 0, none⟩, 1, 1, [97]⟩, ⟨some ⟨g9, 0, none⟩, 1, 1, [98]⟩] #[Value.slice (some ⟨g8, 0, none⟩) 1 1, Value.slice (some ⟨g9, 0, none⟩) 1 1] 2 w10 rfl rfl (by omega) (by
    intro p hp
    simp at hp
    rcases hp with rfl | rfl
    · exact ha10'
    · exact ha10)).mono ?_
  rintro e w' ⟨rfl, rfl⟩
  have hF1 : Hid (fnv (partsBytes [⟨some ⟨g8, 0, none⟩, 1, 1, [97]⟩, ⟨some ⟨g9, 0, none⟩, 1, 1, [98]⟩]) = fnv [97, 98]) := rfl
  rw [hF1.out]
  have hbw11 : Below w.heap.size w (w10.alloc (Obj.cells #[Value.slice (some { block := g8, off := 0 }) 1 1, Value.slice (some { block := g9, off := 0 }) 1 1] 22)) := hbw10.alloc hbw10.size _
  generalize w10.alloc (Obj.cells #[Value.slice (some { block := g8, off := 0 }) 1 1, Value.slice (some { block := g9, off := 0 }) 1 1] 22) = w11 at *
  clear hbw10 ha10 ha10'
  generalize w10.heap.size = g10 at *
  generalize hFN : fnv [97, 98] = FN at *
  have HFN := hide hFN
  clear hFN
  go_wp2_with fail
  rw [conv_bytes]
  have ha12 : Bs (w11.alloc (Obj.cells #[Value.int IntKind.u8 97, Value.int IntKind.u8 98] 5 (2, 3))) (some ⟨w11.heap.size, 0, none⟩) 2 2 [97, 98] := Bs.lit rfl rfl (bytes_lit rfl) rfl (by omega)
  have hbw12 : Below w.heap.size w (w11.alloc (Obj.cells #[Value.int IntKind.u8 97, Value.int IntKind.u8 98] 5 (2, 3))) := hbw11.alloc hbw11.size _
  simp only [List.size_toArray, List.length_cons, List.length_nil, Nat.zero_add]
  generalize w11.alloc (Obj.cells #[Value.int IntKind.u8 97, Value.int IntKind.u8 98] 5 (2, 3)) = w12 at *
  clear hbw11
  generalize w11.heap.size = g11 at *
  go_wp2_with fail
  refine (sum_lit [⟨some ⟨g11, 0, none⟩, 2, 2, [97, 98]⟩] #[Value.slice (some ⟨g11, 0, none⟩) 2 2] 1 w12 rfl rfl (by omega) (by
    intro p hp
    simp at hp
    subst hp
    exact ha12)).mono ?_
  rintro e w' ⟨rfl, rfl⟩
  have hF2 : Hid (fnv (partsBytes [⟨some ⟨g11, 0, none⟩, 2, 2, [97, 98]⟩]) = FN) := (unhide HFN)
  rw [hF2.out]
  have hbw13 : Below w.heap.size w (w12.alloc (Obj.cells #[Value.slice (some { block := g11, off := 0 }) 2 2] 22)) := hbw12.alloc hbw12.size _
  go_wp2_with fail
  go_ret
  exact ⟨rfl, hbw13⟩
#print axioms awake_any
end Go.Proofs.Ytaglibgcldhabaa
