/- A call of the law LeSums answers true and turns nothing that was there: for every slice of bytes that can be read, every int, every byte. -/
import Derived.Test.YtaglibgcldhabaaAwake1
import Derived.Deep.RegionHeld3
namespace Go.Proofs.Ytaglibgcldhabaa
open Go.RowKit
theorem heap_at {W : World} {o : Obj} {g : Nat} (h : W.heap.size = g) : (W.alloc o).heap[g]? = some o := by
  subst h
  exact heap_alloc_new _ _
theorem heap_at_drew {W : World} {o : Obj} {g : Nat} (h : W.heap.size = g) : (W.alloc o).drew.heap[g]? = some o := heap_at h
theorem mem2 {p x y : Part} {P : Part → Prop} (h : p ∈ [x, y]) (hx : P x) (hy : P y) : P p := by
  simp at h
  rcases h with rfl | rfl
  · exact hx
  · exact hy
theorem mem3 {p x y z : Part} {P : Part → Prop} (h : p ∈ [x, y, z]) (hx : P x) (hy : P y) (hz : P z) : P p := by
  simp at h
  rcases h with rfl | rfl | rfl
  · exact hx
  · exact hy
  · exact hz
theorem bs_one {W : World} {x : Int} {g : Nat} (hg : W.heap.size = g) (hx : 0 ≤ x ∧ x < 256) : Bs (W.alloc (.cells #[.int .u8 x] 5)) (some ⟨g, 0, none⟩) 1 1 [x] := by
  subst hg
  exact Bs.lit rfl rfl (by intro n hn; simp at hn; omega) rfl (by omega)

set_option maxRecDepth 100000 in
set_option maxHeartbeats 4000000 in
theorem leSums_walk (at_ by_ : Int) (a : Option Addr) (len cap : Nat) (zs : List Int) (w : World) (hy : 0 ≤ by_ ∧ by_ < 256) (hm : Bs w a len cap zs) :
    Calls Try.prog 7 #[.slice a len cap, .int .i64 at_, .int .u8 by_] w fun e w' => e = .returned (.bool true) ∧ Below w.heap.size w w' := by
  obtain ⟨s, hs⟩ : ∃ s : Nat, bits BinOp.and IntKind.i64 at_ 65535 = (s : Int) := ⟨(at_ % 65536).toNat, by rw [i64_and65535]; omega⟩
  have hs8 : s < 65536 := by have := i64_and65535 at_; omega
  have hl63 : len ≤ 9223372036854775807 := Nat.le_trans hm.le_cap hm.cap_le
  by_cases hmore : 2000 < len
  · go_enter Try.func7, Try.ntmps7
    go_wp2_with fail
    refine (awake_any w).mono ?_
    rintro e w2 ⟨rfl, hb2⟩
    go_wp2_with fail
    go_ret
    exact ⟨rfl, hb2⟩
  · go_enter Try.func7, Try.ntmps7
    go_wp2_with fail
    refine (sum_lit [⟨a, len, cap, zs⟩] #[.slice a len cap] 1 w rfl rfl (by omega) (by intro p hp; simp at hp; subst hp; exact hm)).mono ?_
    rintro e w1 ⟨rfl, rfl⟩
    rw [show fnv (partsBytes [⟨a, len, cap, zs⟩]) = fnv zs by simp [partsBytes]]
    have hb1 : Below w.heap.size w (w.alloc (Obj.cells #[Value.slice a len cap] 22)) := (Below.refl _ _).alloc (Nat.le_refl _) _
    generalize w.alloc (Obj.cells #[Value.slice a len cap] 22) = w1 at *
    have hm1 := hm.below hb1
    have hd : decide (2000 < (len : Int)) = false := by simp; omega
    obtain ⟨k, hk⟩ : ∃ k : Nat, (s : Int) % ((len : Int) + 1) = k := ⟨((s : Int) % ((len : Int) + 1)).toNat, by have := Int.emod_nonneg (s : Int) (show (len : Int) + 1 ≠ 0 by omega); omega⟩
    have hkl : k ≤ len := by have := Int.emod_lt_of_pos (s : Int) (show 0 < (len : Int) + 1 by omega); omega
    have hlc := hm.le_cap
    go_wp2_with fail
    clear hk hs
    have hc1 := cutTo hm .i64 k k rfl (by omega)
    have hc2 := cutFrom a len cap .i64 k k (len - k) rfl hkl rfl
    have hT1 := hm1.taken k hkl
    have hD1 := hm1.cut k hkl
    generalize cutA a cap k = r at *
    have hv1 : fnv (partsBytes [⟨a, k, cap, zs.take k⟩, ⟨r, len - k, cap - k, zs.drop k⟩]) = fnv zs := by simp [partsBytes]
    have HV1 := hide hv1
    have hv2 : fnv (partsBytes [⟨none, 0, 0, []⟩, ⟨a, len, cap, zs⟩, ⟨none, 0, 0, []⟩]) = fnv zs := by simp [partsBytes]
    have HV2 := hide hv2
    have hv3 : fnv (partsBytes [⟨a, len, cap, zs⟩, ⟨some ⟨w1.heap.size + 1 + 1, 0, none⟩, 1, 1, [by_]⟩]) = IntKind.u64.wrap (bits BinOp.xor IntKind.u64 (fnv zs) by_ * 1099511628211) := by
      simp only [partsBytes, List.flatMap_cons, List.flatMap_nil, List.append_nil]
      unfold fnv
      rw [fnvOf_append]; rfl
    have HV3 := hide hv3
    clear hv1 hv2 hv3
    generalize fnv zs = F at *
    have hA : ∀ n o, Below w1.heap.size w1 ((w1.alloc o).drewN n) := fun n o => below_drewN ((Below.refl _ _).alloc (Nat.le_refl _) _) n
    have hb2 : ∀ o1, Below w1.heap.size w1 (w1.alloc o1) := fun o1 => (Below.refl _ _).alloc (Nat.le_refl _) _
    have hb3 : ∀ o1 o2, Below w1.heap.size w1 ((w1.alloc o1).alloc o2) := fun o1 o2 => (hb2 o1).alloc (hb2 o1).size _
    have hb4 : ∀ o1 o2 o3, Below w1.heap.size w1 (((w1.alloc o1).alloc o2).alloc o3) := fun o1 o2 o3 => (hb3 o1 o2).alloc (hb3 o1 o2).size _
    have hb5 : ∀ o1 o2 o3 o4, Below w1.heap.size w1 ((((w1.alloc o1).alloc o2).alloc o3).alloc o4) := fun o1 o2 o3 o4 => (hb4 o1 o2 o3).alloc (hb4 o1 o2 o3).size _
    have H2 := hide hb2
    have H3 := hide hb3
    have H5 := hide hb5
    clear hA hb2 hb3 hb4 hb5
    have hwb : IntKind.u64.wrap by_ = by_ := by rw [wrap_u64]; omega
    have hT : ∀ x : Int, (x == x) = true := fun x => by simp
    go_region_held3 (fun _ => True) (trivial)
      (first
        | (go_at_call_of 18 (Value.slice (some ⟨w1.heap.size, 0, none⟩) 2 2); refine (sum_is _ 2 [⟨a, k, cap, zs.take k⟩, ⟨r, len - k, cap - k, zs.drop k⟩] _ _ rfl (by omega) HV1.out #[.slice a k cap, .slice r (len - k) (cap - k)] (by exact heap_at_drew rfl) rfl (by intro p hp; exact mem2 (P := fun p => Bs _ p.a p.len p.cap p.zs) hp (hT1.below (H2.out _).drew) (hD1.below (H2.out _).drew))).mono ?_; rintro e w' ⟨rfl, rfl⟩)
        | (go_at_call_of 18 (2 : Nat); refine (sum_is _ 2 [⟨a, len, cap, zs⟩, ⟨some ⟨w1.heap.size + 1 + 1, 0, none⟩, 1, 1, [by_]⟩] _ _ rfl (by omega) HV3.out #[.slice a len cap, .slice (some ⟨w1.heap.size + 1 + 1, 0, none⟩) 1 1] (by exact heap_at_drew (by simp)) rfl (by intro p hp; exact mem2 (P := fun p => Bs _ p.a p.len p.cap p.zs) hp (hm1.below (H5.out _ _ _ _).drew) ((bs_one (by simp) hy).below (((Below.refl _ _).alloc (Nat.le_refl _) _).drew)))).mono ?_; rintro e w' ⟨rfl, rfl⟩)
        | (go_at_call 18; refine (sum_is _ 3 [⟨none, 0, 0, []⟩, ⟨a, len, cap, zs⟩, ⟨none, 0, 0, []⟩] _ _ rfl (by omega) HV2.out #[.slice none 0 0, .slice a len cap, .slice none 0 0] (by exact heap_at_drew (by simp)) rfl (by intro p hp; exact mem3 (P := fun p => Bs _ p.a p.len p.cap p.zs) hp (Bs.nil _) (hm1.below (H3.out _ _).drew) (Bs.nil _))).mono ?_; rintro e w' ⟨rfl, rfl⟩)
        | (go_at_call 8; refine (awake_any _).mono ?_; rintro e w2 ⟨rfl, hbw⟩))
    have hfin : Below w.heap.size w w2 := hb1.trans (((unhide H5 _ _ _ _).drew.trans (hbw.mono (unhide H5 _ _ _ _).drew.size)).mono hb1.size)
    clear hbw
    go_wp2_with fail
    go_ret
    exact ⟨rfl, hfin⟩
#print axioms leSums_walk
end Go.Proofs.Ytaglibgcldhabaa
