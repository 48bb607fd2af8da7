/- What string(b), '==' of such strings and []byte of a constant do: no conditions but those that each line states. -/
import Derived.Test.YtjogkadmkohifabRows
import Derived.Test.YtjogkadmkohifabMem
import Derived.WalkLawsBesides
import Derived.WalkSpells
import Derived.Lib.SlBytesConst
namespace Go.Proofs.Ytjogkadmkohifab
open Go.RowKit
theorem strOfNums_inj {xs ys : List Int} (hx : IsBytes xs) (hy : IsBytes ys) (h : (strOfNums xs).toList = (strOfNums ys).toList) : xs = ys := by
  have e : ∀ zs : List Int, (strOfNums zs).toList = zs.map fun n => UInt8.ofNat n.toNat := fun zs => by
    rw [ByteArray.toList_eq, strOfNums_data]
  rw [e, e] at h
  clear e
  induction xs generalizing ys with
  | nil => cases ys with
    | nil => rfl
    | cons y ys => simp at h
  | cons x xs ih => cases ys with
    | nil => simp at h
    | cons y ys =>
      simp only [List.map_cons, List.cons.injEq] at h
      have h1 := hx x (by simp)
      have h2 := hy y (by simp)
      have h3 : x.toNat % 256 = y.toNat % 256 := by
        have := congrArg UInt8.toNat h.1
        simpa using this
      rw [ih hx.tail hy.tail h.2, show x = y by omega]
theorem str_bytes {w : World} {a : Option Addr} {len cap : Nat} {zs : List Int} (h : Bs w a len cap zs) : (convert 35 9 (.slice a len cap)).run Try.prog w = .ok (.string (strOfNums zs)) w :=
  run_string_bytes Try.underlying35 Try.underlying5 Try.underlying9 h
theorem str_eq {xs ys : List Int} (hx : IsBytes xs) (hy : IsBytes ys) : ((strOfNums xs).toList == (strOfNums ys).toList) = decide (xs = ys) := by
  by_cases h : xs = ys
  · subst h; simp
  · rw [decide_eq_false h, beq_eq_false_iff_ne]
    exact fun e => h (strOfNums_inj hx hy e)
theorem conv_bytes (w : World) (C : Array Value) (n c : Nat) : (convert 35 35 (.slice (some ⟨w.heap.size, 0, none⟩) n c)).run Try.prog (w.alloc (.cells C 5)) = .ok (.slice (some ⟨w.heap.size, 0, none⟩) n c) (w.alloc (.cells C 5 (C.size, C.size + 1))) :=
  Lib.run_convert_bytes_const w 35 5 C n c Try.underlying35 Try.underlying5
theorem Bs.lit {w : World} {o : Obj} {E : TypeId} {fr : Nat × Nat} {vs : Array Value} {zs : List Int} {n : Nat} (ho : o = .cells vs E fr) (hv : vs.toList = zs.map (Value.int .u8)) (hz : IsBytes zs) (hn : zs.length = n) (h63 : n ≤ 9223372036854775807) :
    Bs (w.alloc o) (some ⟨w.heap.size, 0, none⟩) n n zs := by
  subst ho
  refine ⟨hn, Nat.le_refl _, h63, hz, .inr ⟨w.heap.size, 0, rfl, fun i hi => ?_⟩⟩
  have hvs : vs = (zs.map (Value.int .u8)).toArray := by rw [← hv]
  subst hvs
  have hi' : i < zs.length := by omega
  rw [Nat.zero_add]
  unfold World.cell?
  rw [heap_alloc_new]
  simp [hi', List.getD]
theorem bytes_lit {l : List Int} (h : (l.all fun x => decide (0 ≤ x) && decide (x < 256)) = true) : IsBytes l := by
  intro n hn
  have := List.all_eq_true.1 h n hn
  simp at this
  exact this
end Go.Proofs.Ytjogkadmkohifab
