
/- What a call of dumbwaiterref1.Same does: for any two slices of bytes that can be read it tells whether they read alike; the world stays as it was. -/
import Derived.Test.YtgjffoeegnljlaaRows
import Derived.Test.YtgjffoeegnljlaaMem
import Derived.WalkLawsBesides
import Derived.WalkSpells
namespace Go.Proofs.Ytgjffoeegnljlaa
open Go.RowKit
set_option maxRecDepth 20000
theorem strOfNums_inj {xs ys : List Int} (hx : IsBytes xs) (hy : IsBytes ys) (h : (strOfNums xs).toList = (strOfNums ys).toList) : xs = ys := by
  have e : ∀ zs : List Int, (strOfNums zs).toList = zs.map fun n => UInt8.ofNat n.toNat := fun zs => by
    rw [ByteArray.toList_eq, strOfNums_data]
  rw [e, e] at h
  clear e
  induction xs generalizing ys with
  | nil => cases ys with
    | nil => rfl
    | cons y ys => simp at h
  | cons x xs ih => cases ys with
    | nil => simp at h
    | cons y ys =>
      simp only [List.map_cons, List.cons.injEq] at h
      have h1 := hx x (by simp)
      have h2 := hy y (by simp)
      have h3 : x.toNat % 256 = y.toNat % 256 := by
        have := congrArg UInt8.toNat h.1
        simpa using this
      rw [ih hx.tail hy.tail h.2, show x = y by omega]
theorem str_bytes {w : World} {a : Option Addr} {len cap : Nat} {zs : List Int} (h : Bs w a len cap zs) : (convert 22 9 (.slice a len cap)).run Try.prog w = .ok (.string (strOfNums zs)) w :=
  run_string_bytes Try.underlying22 Try.underlying5 Try.underlying9 h
theorem str_eq {xs ys : List Int} (hx : IsBytes xs) (hy : IsBytes ys) : ((strOfNums xs).toList == (strOfNums ys).toList) = decide (xs = ys) := by
  by_cases h : xs = ys
  · subst h; simp
  · rw [decide_eq_false h, beq_eq_false_iff_ne]
    exact fun e => h (strOfNums_inj hx hy e)
theorem same_any {a b : Option Addr} {n c m d : Nat} {xs ys : List Int} (w : World) (hx : Bs w a n c xs) (hy : Bs w b m d ys) :
    Calls Try.prog 15 #[.slice a n c, .slice b m d] w fun e w' => e = .returned (.bool (decide (xs = ys))) ∧ w = w' := by
  have h1 := str_bytes hx
  have h2 := str_bytes hy
  have HE := str_eq hx.bytes hy.bytes
  have H : RowKit.Hid (((strOfNums xs).toList == (strOfNums ys).toList) = decide (xs = ys)) := HE
  clear HE
  go_enter Try.func15, Try.ntmps15
  go_wp2_with fail
  go_ret
  refine ⟨?_, rfl⟩
  rw [← H.out]
  rfl
#print axioms same_any
end Go.Proofs.Ytgjffoeegnljlaa
