/- What a call of le.Sum does: for every row of slices of bytes that can be read it answers the 64-bit FNV-1a number of all their bytes, one behind the other; the world stays as it was. -/
import Derived.Test.YthhaeiafgloacaaDoorRows
import Derived.Test.YthhaeiafgloacaaDoorMem
import Derived.WalkLawsBesides
import Derived.WalkSpells
namespace Go.Proofs.YthhaeiafgloacaaDoor
open Go.RowKit

/-- One step of the sum. -/
def fnvStep (h x : Int) : Int := IntKind.u64.wrap (bits BinOp.xor IntKind.u64 h x * 1099511628211)
def fnvOf (h : Int) (zs : List Int) : Int := zs.foldl fnvStep h
def fnvStart : Int := 14695981039346656037
def fnv (zs : List Int) : Int := fnvOf fnvStart zs
def Word (x : Int) : Prop := 0 ≤ x ∧ x < 18446744073709551616
theorem fnvStep_word (h x : Int) : Word (fnvStep h x) := by
  unfold Word fnvStep
  generalize bits BinOp.xor IntKind.u64 h x * 1099511628211 = n
  simp [IntKind.wrap, IntKind.bits, IntKind.signed]
  omega
theorem fnvOf_word : ∀ (zs : List Int) (h : Int), Word h → Word (fnvOf h zs)
  | [], _, hh => hh
  | x :: l, h, _ => fnvOf_word l (fnvStep h x) (fnvStep_word h x)
theorem fnvOf_append (h : Int) (a b : List Int) : fnvOf h (a ++ b) = fnvOf (fnvOf h a) b := by simp [fnvOf]
/-- One part of a sum: a slice value and what it reads as. -/
structure Part where
  a : Option Addr
  len : Nat
  cap : Nat
  zs : List Int
def Part.val (p : Part) : Value := .slice p.a p.len p.cap
def partsBytes (ps : List Part) : List Int := ps.flatMap Part.zs
theorem partsBytes_snoc (ps : List Part) (k : Nat) (h : k < ps.length) : partsBytes (ps.take (k + 1)) = partsBytes (ps.take k) ++ (ps[k]).zs := by
  rw [List.take_succ_eq_append_getElem h]
  unfold partsBytes
  rw [List.flatMap_append, List.flatMap_singleton]

set_option maxHeartbeats 1000000 in
theorem sum_any (g off m cap : Nat) (ps : List Part) (w : World) (hm : ps.length = m) (hmc : m ≤ 9223372036854775807)
    (hc : ∀ i (h : i < ps.length), w.cell? ⟨g, off + i, none⟩ = some (ps[i]).val) (hp : ∀ p ∈ ps, Bs w p.a p.len p.cap p.zs) :
    Calls Tryd.prog 23 #[.slice (some ⟨g, off, none⟩) m cap] w fun e w' => e = .returned (.int .u64 (fnv (partsBytes ps))) ∧ w = w' := by
  have HC : Hid (∀ i (h : i < ps.length), w.cell? ⟨g, off + i, none⟩ = some (ps[i]).val) := hc
  have HP : Hid (∀ p ∈ ps, Bs w p.a p.len p.cap p.zs) := hp
  clear hc hp
  go_enter Tryd.func23, Tryd.ntmps23
  go_wp2
  go_loop [3, 10] (fun s i => ∃ k : Nat, k ≤ m ∧ i = .int .i64 k ∧ s = .int .u64 (fnv (partsBytes (ps.take k)))) (fun _ i => m - (intOf i).toNat)
  case atStart => exact ⟨0, Nat.zero_le _, rfl, rfl⟩
  case round =>
    obtain ⟨k, hk, rfl, rfl⟩ := hrel
    by_cases hlt : k < m
    · have hkp : k < ps.length := by omega
      have hcell := HC.out k hkp
      have hb := HP.out ps[k] (List.getElem_mem hkp)
      have HS : Hid (fnv (partsBytes (ps.take (k + 1))) = fnvOf (fnv (partsBytes (ps.take k))) (ps[k]).zs) := by
        show _ = _
        rw [partsBytes_snoc ps k hkp]; unfold fnv; rw [fnvOf_append]
      have hS0 : Word (fnv (partsBytes (ps.take k))) := fnvOf_word _ _ (by unfold Word fnvStart; omega)
      generalize fnv (partsBytes (ps.take k)) = S at *
      generalize ps[k] = p at *
      obtain ⟨pa, plen, pcap, pz⟩ := p
      simp only [Part.val] at hcell hb HS
      have hpl : plen ≤ 9223372036854775807 := Nat.le_trans hb.le_cap hb.cap_le
      go_wp2
      go_loop [3, 16] (fun s i => ∃ j : Nat, j ≤ plen ∧ i = .int .i64 j ∧ s = .int .u64 (fnvOf S (pz.take j))) (fun _ i => plen - (intOf i).toNat)
      case atStart => exact ⟨0, Nat.zero_le _, rfl, rfl⟩
      case round =>
        obtain ⟨j, hj, rfl, rfl⟩ := hrel
        by_cases hjl : j < plen
        · have hplc := hb.le_cap
          rcases hb.place with h0 | ⟨b, boff, rfl, hbc⟩
          · omega
          · have hx := hbc j hjl
            have hxb := hb.bytes.getD j
            have HT : Hid (fnvOf S (pz.take (j + 1)) = fnvStep (fnvOf S (pz.take j)) (pz.getD j 0)) := by
              show _ = _
              rw [take_snoc pz j (by rw [hb.length]; exact hjl), fnvOf_append]; rfl
            have hT0 := fnvOf_word (pz.take j) S hS0
            clear hbc hplc
            generalize fnvOf S (pz.take j) = T at *
            generalize pz.getD j 0 = X at *
            go_wp2
            go_round
            case rel => exact ⟨j + 1, by omega, by go_num, by rw [HT.out]; rfl⟩
            case measure => simp [intOf]; omega
        · have hj' : j = plen := by omega
          subst hj'
          go_wp2
          go_round
          case rel => exact ⟨k + 1, by omega, by go_num, by rw [HS.out, List.take_of_length_le (Nat.le_of_eq hb.length)]⟩
          case measure => simp [intOf]; omega
    · go_wp2
      go_ret
      exact ⟨ret_u64 (by rw [List.take_of_length_le (by omega)]), rfl⟩

/-- The same, the row of parts just laid. -/
theorem sum_lit (ps : List Part) (vs : Array Value) (n : Nat) (w : World) (hv : vs.toList = ps.map Part.val) (hn : ps.length = n) (h63 : n ≤ 9223372036854775807) (hp : ∀ p ∈ ps, Bs w p.a p.len p.cap p.zs) :
    Calls Tryd.prog 23 #[.slice (some ⟨w.heap.size, 0, none⟩) n n] (w.alloc (.cells vs 25)) fun e w' => e = .returned (.int .u64 (fnv (partsBytes ps))) ∧ w.alloc (.cells vs 25) = w' := by
  refine sum_any w.heap.size 0 n n ps _ hn h63 (fun i hi => ?_) (fun p hm => (hp p hm).below ((Below.refl _ _).alloc (Nat.le_refl _) _))
  have hvs : vs = (ps.map Part.val).toArray := by rw [← hv]
  subst hvs
  rw [Nat.zero_add]
  unfold World.cell?
  rw [heap_alloc_new]
  simp [hi]

theorem sum_is (g n : Nat) (ps : List Part) (v : Int) (w : World) (hn : ps.length = n) (h63 : n ≤ 9223372036854775807) (hv : fnv (partsBytes ps) = v)
    (vs : Array Value) (hb : w.heap[g]? = some (.cells vs 25 (0, 0))) (hvs : vs.toList = ps.map Part.val) (hp : ∀ p ∈ ps, Bs w p.a p.len p.cap p.zs) :
    Calls Tryd.prog 23 #[.slice (some ⟨g, 0, none⟩) n n] w fun e w' => e = .returned (.int .u64 v) ∧ w = w' := by
  subst hv
  refine sum_any g 0 n n ps w hn h63 (fun i hi => ?_) hp
  have e : vs = (ps.map Part.val).toArray := by rw [← hvs]
  subst e
  rw [Nat.zero_add]
  unfold World.cell?
  rw [hb]
  simp [hi]

theorem sum_none (a : Option Addr) (cap : Nat) (w : World) :
    Calls Tryd.prog 23 #[.slice a 0 cap] w fun e w' => e = .returned (.int .u64 (fnv [])) ∧ w = w' := by
  go_enter Tryd.func23, Tryd.ntmps23
  go_wp2
  go_loop [3, 10] (fun s i => i = .int .i64 0 ∧ s = .int .u64 14695981039346656037) (fun _ _ => 0)
  case atStart => exact ⟨rfl, rfl⟩
  case round =>
    obtain ⟨rfl, rfl⟩ := hrel
    go_wp2
    go_ret
    exact ⟨rfl, rfl⟩
#print axioms sum_any
end Go.Proofs.YthhaeiafgloacaaDoor
