/- The law QuarBacks answers true for every sixteen words and every number, wherever quar.rounds reads as its text says; nothing that was there is turned. -/
import Derived.Test.YtinbfbcikodekaaDoorQuarTellsW
import Derived.Test.YtinbfbcikodekaaDoorPlain
namespace Go.Proofs.YtinbfbcikodekaaDoor
open Go.RowKit

/-- A load of sixteen words. -/
theorem wpList_arr {Q : Exit → Act → World → Prop} {ops : Array Oper} {rest : List Oper} {o : Oper} {a : Act} {w : World} (hw : Region.wanted o (yielded ops a.tmps) = true) (x : Operand) (hop : o.op = .load 23 x)
    (g : Nat) (hx : a.eval x = .pointer (some ⟨g, 0, none⟩)) (xs : Ws) (hg : ArrU 23 w g xs) (h : wpList Tryd.prog ops Q rest (a.put o.dst (.agg (arrV xs))) w) : wpList Tryd.prog ops Q (o :: rest) a w := by
  refine wpList_step fun K hK => ?_
  rw [if_pos hw]
  exact wp_load_row _ x hop g hx _ _ _ _ hg Tryd.underlying23 rfl (by rw [arrV_size, info16]) (hK _ _ h)
/-- A store of sixteen words. -/
theorem wpList_putArr {Q : Exit → Act → World → Prop} {ops : Array Oper} {rest : List Oper} {o : Oper} {a : Act} {w : World} (hw : Region.wanted o (yielded ops a.tmps) = true) (x y : Operand) (hop : o.op = .store 23 x y)
    (g : Nat) (ys : Ws) (hx : a.eval x = .pointer (some ⟨g, 0, none⟩)) (hy : a.eval y = .agg (arrV ys)) (xs : Ws) (hg : ArrU 23 w g xs) (h : wpList Tryd.prog ops Q rest (a.put o.dst undef) (w.setRow g (arrV ys))) : wpList Tryd.prog ops Q (o :: rest) a w := by
  refine wpList_step fun K hK => ?_
  rw [if_pos hw]
  exact wp_store_row _ x y hop g _ hx hy _ _ hg (by rw [arrV_size, info16]) (by rw [arrV_size, arrV_size]) (arrV_one _) (hK _ _ h)

def itr (f : Ws → Ws) : Nat → Ws → Ws
  | 0, xs => xs
  | k + 1, xs => f (itr f k xs)
theorem itr_succ (f : Ws → Ws) : ∀ (k : Nat) (xs : Ws), itr f (k + 1) xs = itr f k (f xs)
  | 0, _ => rfl
  | k + 1, xs => by rw [itr, itr_succ f k xs]; rfl
theorem itr_back (f g : Ws → Ws) (h : ∀ xs, g (f xs) = xs) : ∀ (k : Nat) (xs : Ws), itr g k (itr f k xs) = xs
  | 0, _ => rfl
  | k + 1, xs => by rw [itr_succ g, show itr f (k + 1) xs = f (itr f k xs) from rfl, h, itr_back f g h k xs]

/-- Two rows of words, the first ahead of the second, and quar.rounds. -/
structure L2 (w W : World) (g h : Nat) (xs ys : Ws) : Prop where
  one : ArrU 23 W g xs
  two : ArrU 23 W h ys
  glob : Glob W
  bel : Below w.heap.size w W
theorem L2.call {w W W' : World} {g h : Nat} {xs ys : Ws} (l : L2 w W g h xs ys) (hb : Below W.heap.size W W') : L2 w W' g h xs ys :=
  ⟨l.one.below hb l.one.lt, l.two.below hb l.two.lt, l.glob.below hb l.glob.lt, l.bel.trans (hb.mono l.bel.size)⟩
theorem L2.put {w W : World} {g h : Nat} {xs ys : Ws} (l : L2 w W g h xs ys) (hne : g ≠ h) (hB : w.heap.size ≤ h) (h0 : 0 < w.heap.size) (zs : Ws) : L2 w (W.setRow h (arrV zs)) g h xs zs :=
  ⟨l.one.other (setRow_other _ _ _ _ hne), l.two.setRow zs, rangeAt_other l.glob (setRow_other _ _ _ _ (by omega)), Below.setRow l.bel hB _⟩

/-- A third row behind them. -/
structure L3 (w W : World) (g h x : Nat) (xs ys zs : Ws) : Prop where
  l2 : L2 w W g h xs ys
  thr : ArrU 23 W x zs
theorem L3.call {w W W' : World} {g h x : Nat} {xs ys zs : Ws} (l : L3 w W g h x xs ys zs) (hb : Below W.heap.size W W') : L3 w W' g h x xs ys zs := ⟨l.l2.call hb, l.thr.below hb l.thr.lt⟩
theorem L3.put {w W : World} {g h x : Nat} {xs ys zs : Ws} (l : L3 w W g h x xs ys zs) (h1 : g ≠ x) (h2 : h ≠ x) (hB : w.heap.size ≤ x) (h0 : 0 < w.heap.size) (us : Ws) : L3 w (W.setRow x (arrV us)) g h x xs ys us :=
  ⟨⟨l.l2.one.other (setRow_other _ _ _ _ h1), l.l2.two.other (setRow_other _ _ _ _ h2), rangeAt_other l.l2.glob (setRow_other _ _ _ _ (by omega)), Below.setRow l.l2.bel hB _⟩, l.thr.setRow us⟩

set_option maxHeartbeats 4000000 in
theorem quarBacks_walk (xs : Ws) (n : Int) (w : World) (hg : Glob w) :
    Calls Tryd.prog 4 #[.agg (arrV xs), .int .i64 n] w fun e w' => e = .returned (.bool true) ∧ Below w.heap.size w w' := by
  obtain ⟨m, hm⟩ : ∃ m : Nat, bits BinOp.and IntKind.i64 n 15 = (m : Int) := ⟨(n % 16).toNat, by rw [i64_and15]; omega⟩
  have hm16 : (m : Int) < 16 := by
    rw [← hm, i64_and15]
    omega
  have hl := hg.lt
  have hE : ∀ (ys : Ws) (w : World), (binOp BinOp.eql 23 (.agg (arrV ys)) (.agg (arrV ys))).run Tryd.prog w = .ok (.bool true) w := fun ys w => run_eq16_at ys ys true _ _ rfl rfl (eqW_refl _) w
  go_enter Tryd.func4, Tryd.ntmps4
  go_wp2_with (first
    | (refine wpList_arr (by rfl) _ rfl _ rfl xs (heap_alloc_new w _) ?_)
    | (refine wpList_putArr (by rfl) _ _ rfl _ xs rfl rfl zer (heap_alloc2_new w _ _) ?_))
  go_loopw [6] (fun i wr => ∃ k : Nat, k ≤ m ∧ i = .int .i64 k ∧ L2 w wr w.heap.size (w.heap.size + 1) xs (itr dbl k xs)) (fun i _ => m - (intOf i).toNat)
  case atStart =>
    have hb2 := ((Below.refl w.heap.size w).alloc (Nat.le_refl _) (Obj.cells (arrV xs) 23)).alloc (by simp) (Obj.cells (arrV zer) 23)
    have h2 : L2 w ((w.alloc (Obj.cells (arrV xs) 23)).alloc (Obj.cells (arrV zer) 23)) w.heap.size (w.heap.size + 1) xs zer := ⟨heap_alloc2_old w _ _, heap_alloc2_new w _ _, hg.below hb2 hl, hb2⟩
    exact ⟨0, Nat.zero_le _, rfl, h2.put (by omega) (by omega) hl xs⟩
  case round =>
    obtain ⟨k, hk, rfl, h2⟩ := hrel
    by_cases hlt : k < m
    · have hlt' : (k : Int) < (m : Int) := by omega
      have HI : Hid (itr dbl (k + 1) xs = dbl (itr dbl k xs)) := rfl
      generalize itr dbl k xs = ys at *
      go_wp2_with (refine wpList_arr (by rfl) _ rfl _ rfl ys h2.two ?_)
      refine (double_any ys _ h2.glob).mono ?_
      rintro e w1 ⟨rfl, hb⟩
      have h3 := h2.call hb
      clear h2 hb
      go_wp2_with (refine wpList_putArr (by rfl) _ _ rfl _ _ rfl rfl ys h3.two ?_)
      go_roundw
      case rel => exact ⟨k + 1, by omega, by go_num, by rw [HI.out]; exact h3.put (by omega) (by omega) hl _⟩
      case measure => simp [intOf]; omega
    · have hk' : m = k := by omega
      subst hk'
      have hbk := itr_back dbl bck bck_dbl m xs
      generalize itr dbl m xs = d at *
      go_wp2_with fail
      go_loopw [7] (fun i wr => ∃ k : Nat, k ≤ m ∧ i = .int .i64 k ∧ L2 w wr w.heap.size (w.heap.size + 1) xs (itr bck k d)) (fun i _ => m - (intOf i).toNat)
      case atStart => exact ⟨0, Nat.zero_le _, rfl, h2⟩
      case round =>
        clear h2
        obtain ⟨k, hk, rfl, h2⟩ := hrel
        by_cases hlt : k < m
        · have hlt' : (k : Int) < (m : Int) := by omega
          have HI : Hid (itr bck (k + 1) d = bck (itr bck k d)) := rfl
          have HB := hide hbk
          clear hbk
          generalize itr bck k d = ys at *
          go_wp2_with (refine wpList_arr (by rfl) _ rfl _ rfl ys h2.two ?_)
          refine (back_any ys _ h2.glob).mono ?_
          rintro e w1 ⟨rfl, hb⟩
          have h3 := h2.call hb
          clear h2 hb
          go_wp2_with (refine wpList_putArr (by rfl) _ _ rfl _ _ rfl rfl ys h3.two ?_)
          go_roundw
          case rel => exact ⟨k + 1, by omega, by go_num, by rw [HI.out]; exact h3.put (by omega) (by omega) hl _⟩
          case measure => simp [intOf]; omega
        · have hk' : m = k := by omega
          subst hk'
          rw [hbk] at h2
          clear hbk
          have hgt := h2.two.lt
          go_wp2_with (first
            | (refine wpList_arr (by rfl) _ rfl _ rfl xs h2.one ?_)
            | (refine wpList_putArr (by rfl) _ _ rfl _ xs rfl rfl zer (heap_alloc_new _ _) ?_))
          have hB0 : Below w.heap.size w (wr.alloc (Obj.cells (arrV zer) 23)) := h2.bel.alloc (by omega) _
          have h3 : L3 w (wr.alloc (Obj.cells (arrV zer) 23)) w.heap.size (w.heap.size + 1) wr.heap.size xs xs zer :=
            ⟨⟨h2.one.other (Below.heap_alloc wr _ _ h2.one.lt), h2.two.other (Below.heap_alloc wr _ _ h2.two.lt), rangeAt_other h2.glob (Below.heap_alloc wr _ _ h2.glob.lt), hB0⟩, heap_alloc_new wr _⟩
          have h4 := h3.put (by omega) (by omega) (by omega) hl xs
          clear h3 hB0 h2
          generalize wr.heap.size = gx at *
          go_loopw [9] (fun i wq => ∃ k : Nat, k ≤ m ∧ i = .int .i64 k ∧ L3 w wq w.heap.size (w.heap.size + 1) gx xs xs (itr bck k xs)) (fun i _ => m - (intOf i).toNat)
          case atStart => exact ⟨0, Nat.zero_le _, rfl, h4⟩
          case round =>
            clear h4
            obtain ⟨k, hk, rfl, h4⟩ := hrel
            by_cases hlt : k < m
            · have hlt' : (k : Int) < (m : Int) := by omega
              have HI : Hid (itr bck (k + 1) xs = bck (itr bck k xs)) := rfl
              generalize itr bck k xs = ys at *
              go_wp2_with (refine wpList_arr (by rfl) _ rfl _ rfl ys h4.thr ?_)
              refine (back_any ys _ h4.l2.glob).mono ?_
              rintro e w1 ⟨rfl, hb⟩
              have h5 := h4.call hb
              clear h4 hb
              go_wp2_with (refine wpList_putArr (by rfl) _ _ rfl _ _ rfl rfl ys h5.thr ?_)
              go_roundw
              case rel => exact ⟨k + 1, by omega, by go_num, by rw [HI.out]; exact h5.put (by omega) (by omega) (by omega) hl _⟩
              case measure => simp [intOf]; omega
            · have hk' : m = k := by omega
              subst hk'
              have hbk := itr_back bck dbl dbl_bck m xs
              generalize itr bck m xs = d at *
              go_wp2_with fail
              go_loopw [10] (fun i wq => ∃ k : Nat, k ≤ m ∧ i = .int .i64 k ∧ L3 w wq w.heap.size (w.heap.size + 1) gx xs xs (itr dbl k d)) (fun i _ => m - (intOf i).toNat)
              case atStart => exact ⟨0, Nat.zero_le _, rfl, h4⟩
              case round =>
                clear h4
                obtain ⟨k, hk, rfl, h4⟩ := hrel
                by_cases hlt : k < m
                · have hlt' : (k : Int) < (m : Int) := by omega
                  have HI : Hid (itr dbl (k + 1) d = dbl (itr dbl k d)) := rfl
                  clear hbk
                  generalize itr dbl k d = ys at *
                  go_wp2_with (refine wpList_arr (by rfl) _ rfl _ rfl ys h4.thr ?_)
                  refine (rdouble_any ys _).mono ?_
                  rintro e w1 ⟨rfl, hb⟩
                  have h5 := h4.call hb
                  clear h4 hb
                  go_wp2_with (refine wpList_putArr (by rfl) _ _ rfl _ _ rfl rfl ys h5.thr ?_)
                  go_roundw
                  case rel => exact ⟨k + 1, by omega, by go_num, by rw [HI.out]; exact h5.put (by omega) (by omega) (by omega) hl _⟩
                  case measure => simp [intOf]; omega
                · have hk' : m = k := by omega
                  subst hk'
                  rw [hbk] at h4
                  clear hbk
                  go_wp2_with (first
                    | (refine wpList_arr (by rfl) _ rfl w.heap.size rfl xs h4.l2.one ?_)
                    | (refine wpList_arr (by rfl) _ rfl (w.heap.size + 1) rfl xs h4.l2.two ?_)
                    | (refine wpList_arr (by rfl) _ rfl gx rfl xs h4.thr ?_))
                  refine (awake2_any _ h4.l2.glob).mono ?_
                  rintro e w1 ⟨rfl, hb⟩
                  go_wp2_with fail
                  go_ret
                  exact ⟨rfl, (h4.l2.call hb).bel⟩

#print axioms quarBacks_walk
end Go.Proofs.YtinbfbcikodekaaDoor
