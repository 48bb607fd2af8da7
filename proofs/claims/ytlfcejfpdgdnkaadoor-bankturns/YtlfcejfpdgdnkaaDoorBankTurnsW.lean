
/- The law BankTurns answers true for every number of places and every row of numbers, wherever quar.rounds reads as its text says; nothing that was there is turned. -/
import Derived.Test.YtlfcejfpdgdnkaaDoorJAwake
import Derived.Test.YtlfcejfpdgdnkaaDoorJRows
import Derived.Test.YtlfcejfpdgdnkaaDoorRSince
namespace Go.Proofs.YtlfcejfpdgdnkaaDoor
open Go.RowKit
set_option maxRecDepth 20000

def keyT : List Int := 7 :: zL 31
theorem keyT_bytes : IsBytes keyT := bytes_lit (by kernel_rfl)
theorem keyT_length : keyT.length = 32 := by kernel_rfl
theorem n_and3 (n : Int) : bits .and .i64 n 3 = n % 4 := i64_mask n 2 (by decide) 3 (by decide)
def blO (f : Nat → Bool) (n : Nat) : Obj := vlO 4 (fun j => .bool (f j)) n
theorem bl_cell {f : Nat → Bool} {n k : Nat} {W : World} (h : W.heap[k]? = some (blO f n)) (j : Nat) (hj : j < n) : W.cell? ⟨k, j, none⟩ = some (.bool (f j)) := vl_cell h j hj
theorem bl_set {f : Nat → Bool} {n k : Nat} {W : World} (h : W.heap[k]? = some (blO f n)) (j : Nat) (b : Bool) (g : Nat → Bool) (hg : ∀ i, i < n → g i = if i = j then b else f i) : (W.setCell ⟨k, j, none⟩ (.bool b)).heap[k]? = some (blO g n) := by
  refine (vl_set h j (.bool b)).trans ?_
  refine congrArg some (vl_congr fun i hi => ?_)
  unfold updV
  rw [hg i hi]
  by_cases h1 : i = j
  · rw [if_pos h1, if_pos h1]
  · rw [if_neg h1, if_neg h1]
theorem bl_congr {f g : Nat → Bool} {n : Nat} (h : ∀ j, j < n → f j = g j) : blO f n = blO g n := vl_congr fun j hj => by rw [h j hj]

/-- What a round finds. -/
structure TurnI (w wr : World) (Z : Own) (g gp gb gh gf ks kf n sq t wl : Nat) (D : DS) (T : Nat → List Int) (hs fs : List Int) (rs rf : Nat → Bool) : Prop where
  bn : Bn w wr Z g gp gb gh gf 2 n 1 D keyT 1 (sq : Int) hs fs
  q : DQ D 40 20 t wl T
  rs : Has Z wr ks (blO rs n)
  rf : Has Z wr kf (blO rf n)
  s0 : w.heap.size ≤ ks
  f0 : w.heap.size ≤ kf
  sp : gp ≠ ks
  sb : gb ≠ ks
  sh : gh ≠ ks
  sf : gf ≠ ks
  fp : gp ≠ kf
  fb : gb ≠ kf
  fh : gh ≠ kf
  ff : gf ≠ kf
  ne : ks ≠ kf
section
variable {w wr wr' : World} {Z Z' : Own} {g gp gb gh gf ks kf n sq sq' t t' wl wl' : Nat} {D D' : DS} {T T' : Nat → List Int} {hs fs hs' fs' : List Int} {rs rf rs' rf' : Nat → Bool}
theorem TurnI.xs (H : TurnI w wr Z g gp gb gh gf ks kf n sq t wl D T hs fs rs rf) : ¬ three gp gh gf ks := three_no (Ne.symm H.sp) (Ne.symm H.sh) (Ne.symm H.sf)
theorem TurnI.xf (H : TurnI w wr Z g gp gb gh gf ks kf n sq t wl D T hs fs rs rf) : ¬ three gp gh gf kf := three_no (Ne.symm H.fp) (Ne.symm H.fh) (Ne.symm H.ff)
theorem TurnI.go (H : TurnI w wr Z g gp gb gh gf ks kf n sq t wl D T hs fs rs rf) (k : Keeps (three gp gh gf) Z wr Z' wr') (b : Bn w wr' Z' g gp gb gh gf 2 n 1 D' keyT 1 (sq' : Int) hs' fs') (q : DQ D' 40 20 t' wl' T') : TurnI w wr' Z' g gp gb gh gf ks kf n sq' t' wl' D' T' hs' fs' rs rf :=
  { H with bn := b, q := q, rs := k.has H.rs H.xs, rf := k.has H.rf H.xf }
theorem TurnI.below (H : TurnI w wr Z g gp gb gh gf ks kf n sq t wl D T hs fs rs rf) (b : Below wr.heap.size wr wr') : TurnI w wr' Z g gp gb gh gf ks kf n sq t wl D T hs fs rs rf := H.go (Keeps.of_below b) (H.bn.below b) H.q
theorem TurnI.setS (H : TurnI w wr Z g gp gb gh gf ks kf n sq t wl D T hs fs rs rf) (j : Nat) (b : Bool) (f : Nat → Bool) (hf : ∀ i, i < n → f i = if i = j then b else rs i) : TurnI w (wr.setCell ⟨ks, j, none⟩ (.bool b)) Z g gp gb gh gf ks kf n sq t wl D T hs fs f rf :=
  { H with bn := H.bn.only (OnlyAt.setC ks j wr (.bool b)) H.s0 H.rs.2 H.sp H.sb H.sh H.sf, rs := ⟨bl_set H.rs.1 j b f hf, H.rs.2⟩, rf := H.rf.only (OnlyAt.setC ks j wr (.bool b)) (Ne.symm H.ne) }
theorem TurnI.setF (H : TurnI w wr Z g gp gb gh gf ks kf n sq t wl D T hs fs rs rf) (j : Nat) (b : Bool) (f : Nat → Bool) (hf : ∀ i, i < n → f i = if i = j then b else rf i) : TurnI w (wr.setCell ⟨kf, j, none⟩ (.bool b)) Z g gp gb gh gf ks kf n sq t wl D T hs fs rs f :=
  { H with bn := H.bn.only (OnlyAt.setC kf j wr (.bool b)) H.f0 H.rf.2 H.fp H.fb H.fh H.ff, rf := ⟨bl_set H.rf.1 j b f hf, H.rf.2⟩, rs := H.rs.only (OnlyAt.setC kf j wr (.bool b)) H.ne }
theorem TurnI.same (H : TurnI w wr Z g gp gb gh gf ks kf n sq t wl D T hs fs rs rf) (h1 : ∀ i, i < n → rs i = rs' i) (h2 : ∀ i, i < n → rf i = rf' i) : TurnI w wr Z g gp gb gh gf ks kf n sq t wl D T hs fs rs' rf' :=
  { H with rs := by rw [← bl_congr h1]; exact H.rs, rf := by rw [← bl_congr h2]; exact H.rf }
theorem TurnI.cs (H : TurnI w wr Z g gp gb gh gf ks kf n sq t wl D T hs fs rs rf) (j : Nat) (hj : j < n) : wr.cell? ⟨ks, j, none⟩ = some (.bool (rs j)) := bl_cell H.rs.1 j hj
theorem TurnI.cf (H : TurnI w wr Z g gp gb gh gf ks kf n sq t wl D T hs fs rs rf) (j : Nat) (hj : j < n) : wr.cell? ⟨kf, j, none⟩ = some (.bool (rf j)) := bl_cell H.rf.1 j hj
theorem TurnI.zs (H : TurnI w wr Z g gp gb gh gf ks kf n sq t wl D T hs fs rs rf) (j : Nat) : wr.frozen? ⟨ks, j, none⟩ = false := vl_froz H.rs.1 j
theorem TurnI.zf (H : TurnI w wr Z g gp gb gh gf ks kf n sq t wl D T hs fs rs rf) (j : Nat) : wr.frozen? ⟨kf, j, none⟩ = false := vl_froz H.rf.1 j
end

set_option maxRecDepth 100000 in
set_option maxHeartbeats 32000000 in
theorem bankTurns_walk {a : Option Addr} {len cap : Nat} {xs : List Int} (size : Int) (w : World) (hx : Ns .i64 w a len cap xs) (hq : Glob w) :
    Calls Tryd.prog 3 #[.int .i64 size, .slice a len cap] w fun e w' => e = .returned (.bool true) ∧ Below w.heap.size w w' := by
  have hlc := hx.le_cap
  have hcm := hx.cap_le
  obtain ⟨n, hsz, hn8⟩ : ∃ n : Nat, bits .and .i64 size 7 = (n : Int) - 1 ∧ 1 ≤ n ∧ n ≤ 8 := ⟨(size % 8).toNat + 1, by rw [i64_and7]; omega, by omega⟩
  have hm : (n + 7) / 8 = 1 := by omega
  go_enter Tryd.func3, Tryd.ntmps3
  go_wp2_with fail
  refine (new_any 20 40 20 40 rfl rfl w).mono ?_
  rintro e W ⟨g, Z, rfl, hD, hF, hB⟩
  have C : Cl w W Z g (DS.new 20 40) := ⟨hD, hF, hB⟩
  clear hD hF hB
  go_wp2_with (refine wpList_build_is rfl 29 _ rfl (bV keyT) (by kernel_rfl) ?_)
  refine (pen_new C keyT_bytes keyT_length (boot := 1) (by omega)).mono ?_
  rintro e W1 ⟨gp, rfl, -, P, b1⟩
  replace C := C.below b1
  clear b1
  have hN := hide (bn_new C P 2 n 1 hm (by omega) (by omega))
  clear C P
  go_wp2_with fail
  refine hN.out.mono ?_
  rintro e W2 ⟨gb, gh, gf, rfl, H, -, -⟩
  clear hN
  have hl := H.lts
  have hlt := H.cl.dk.lt
  have hfr := H.cl.size
  have Hlt := hide hlt
  clear hlt
  go_wp2_with fail
  refine wp_region_pre Kept [0, 2] 4 (by kernel_rfl) (by kernel_rfl) (by kernel_rfl) Kept.refl Kept.trans ?_
  have hB : Below W2.heap.size W2 W2.drew := (Below.refl _ _).drew
  replace H := H.below hB
  have hN := hB.size
  have H0 := hide H
  clear H
  generalize W2.drew = W3 at *
  repeat' (first
    | (refine wpPre_quiet (v := ?_) rfl (fun _ _ _ h => h) (by rfl) ?_ ?_
       rotate_left
       · (intro w' hR; go_simp; try rfl)
       simp only [Act.put, List.setIfInBounds_toArray, List.set_cons_zero, List.set_cons_succ])
    | fail)
  refine wpPre_nil ?_
  refine wpR_two 1 3 (by kernel_rfl) ?wA ?wB
  case' wA =>
    refine wpOp_go rfl (by rfl) (fun K' hK => ?_)
    refine wp_make_vals (.bool false) 1 Tryd.underlying31 info_bool rfl n (by omega) (by omega) _ _ (by rfl) (by rfl) (by rfl) ?_
    have b4 : Below W3.heap.size W3 (W3.alloc (vlO 4 (fun _ => .bool false) n)) := below_alloc (Below.refl _ _) _
    have h1 := heap_alloc_new W3 (vlO 4 (fun _ => .bool false) n)
    have l1 : W3.heap.size < (W3.alloc (vlO 4 (fun _ => .bool false) n)).heap.size := by rw [size_alloc]; omega
    refine hK.out _ _ b4 ?_
    clear hK K'
    try simp only [Act.put, List.setIfInBounds_toArray, List.set_cons_zero, List.set_cons_succ]
    refine wpR_ord [4, 3, 5] (by kernel_rfl) (by kernel_rfl) Kept.refl Kept.trans ?_
    repeat' (first
      | (refine wpRel_quiet (v := ?_) rfl rfl (fun _ _ _ h => h) (by rfl) ?_ ?_
         rotate_left
         · (intro w' hR; go_simp; try rfl)
         simp only [Act.put, List.setIfInBounds_toArray, List.set_cons_zero, List.set_cons_succ])
      | fail)
    refine wpRel_step rfl rfl (by rfl) (fun K' hK => ?_)
    refine wp_make_vals (.bool false) 1 Tryd.underlying31 info_bool rfl n (by omega) (by omega) _ _ (by rfl) (by rfl) (by rfl) ?_
    have b5 : Below (W3.alloc (vlO 4 (fun _ => .bool false) n)).heap.size (W3.alloc (vlO 4 (fun _ => .bool false) n)) ((W3.alloc (vlO 4 (fun _ => .bool false) n)).alloc (vlO 4 (fun _ => .bool false) n)) := below_alloc (Below.refl _ _) _
    have h2 := heap_alloc_new (W3.alloc (vlO 4 (fun _ => .bool false) n)) (vlO 4 (fun _ => .bool false) n)
    refine hK.out _ _ b5 ?_
    clear hK K'
    try simp only [Act.put, List.setIfInBounds_toArray, List.set_cons_zero, List.set_cons_succ]
    have hH : TurnI w ((W3.alloc (vlO 4 (fun _ => .bool false) n)).alloc (vlO 4 (fun _ => .bool false) n)) Z g gp gb gh gf W3.heap.size (W3.alloc (vlO 4 (fun _ => .bool false) n)).heap.size n 0 0 0 (DS.new 20 40) (fun _ => zL 40) (onesL 1 n) (zL 1) (fun _ => false) (fun _ => false) := by
      have hz := h1
      have H1 := H0.out.below b4
      have hs1 : ¬ Z.S W3.heap.size := fun hs => by have := Hlt.out _ hs; omega
      have hs2 : ¬ Z.S (W3.alloc (vlO 4 (fun _ => .bool false) n)).heap.size := fun hs => by have := Hlt.out _ hs; omega
      refine ⟨H1.below b5, DQ.start 20 40, ⟨(b5.block _ l1).trans hz, hs1⟩, ⟨h2, hs2⟩, by omega, by omega, by omega, by omega, by omega, by omega, by omega, by omega, by omega, by omega, by omega⟩
    clear b4 h1 l1 b5 h2
    generalize ((W3.alloc (vlO 4 (fun _ => .bool false) n)).alloc (vlO 4 (fun _ => .bool false) n)) = W5 at *
    generalize (W3.alloc (vlO 4 (fun _ => .bool false) n)).heap.size = kf at *
    generalize W3.heap.size = ks at *
    repeat' (first
      | (refine wpRel_quiet (v := ?_) rfl rfl (fun _ _ _ h => h) (by rfl) ?_ ?_
         rotate_left
         · (intro w' hR; go_simp; try rfl)
         simp only [Act.put, List.setIfInBounds_toArray, List.set_cons_zero, List.set_cons_succ])
      | fail)
    refine wpRel_nil ?_
  case' wB =>
    refine wpOp_go rfl (by rfl) (fun K' hK => ?_)
    refine wp_make_vals (.bool false) 1 Tryd.underlying31 info_bool rfl n (by omega) (by omega) _ _ (by rfl) (by rfl) (by rfl) ?_
    have b4 : Below W3.heap.size W3 (W3.alloc (vlO 4 (fun _ => .bool false) n)) := below_alloc (Below.refl _ _) _
    have h1 := heap_alloc_new W3 (vlO 4 (fun _ => .bool false) n)
    have l1 : W3.heap.size < (W3.alloc (vlO 4 (fun _ => .bool false) n)).heap.size := by rw [size_alloc]; omega
    refine hK.out _ _ b4 ?_
    clear hK K'
    try simp only [Act.put, List.setIfInBounds_toArray, List.set_cons_zero, List.set_cons_succ]
    refine wpR_ord [1, 4, 5] (by kernel_rfl) (by kernel_rfl) Kept.refl Kept.trans ?_
    refine wpRel_step rfl rfl (by rfl) (fun K' hK => ?_)
    refine wp_make_vals (.bool false) 1 Tryd.underlying31 info_bool rfl n (by omega) (by omega) _ _ (by rfl) (by rfl) (by rfl) ?_
    have b5 : Below (W3.alloc (vlO 4 (fun _ => .bool false) n)).heap.size (W3.alloc (vlO 4 (fun _ => .bool false) n)) ((W3.alloc (vlO 4 (fun _ => .bool false) n)).alloc (vlO 4 (fun _ => .bool false) n)) := below_alloc (Below.refl _ _) _
    have h2 := heap_alloc_new (W3.alloc (vlO 4 (fun _ => .bool false) n)) (vlO 4 (fun _ => .bool false) n)
    refine hK.out _ _ b5 ?_
    clear hK K'
    try simp only [Act.put, List.setIfInBounds_toArray, List.set_cons_zero, List.set_cons_succ]
    have hH : TurnI w ((W3.alloc (vlO 4 (fun _ => .bool false) n)).alloc (vlO 4 (fun _ => .bool false) n)) Z g gp gb gh gf (W3.alloc (vlO 4 (fun _ => .bool false) n)).heap.size W3.heap.size n 0 0 0 (DS.new 20 40) (fun _ => zL 40) (onesL 1 n) (zL 1) (fun _ => false) (fun _ => false) := by
      have hz := h1
      have H1 := H0.out.below b4
      have hs1 : ¬ Z.S W3.heap.size := fun hs => by have := Hlt.out _ hs; omega
      have hs2 : ¬ Z.S (W3.alloc (vlO 4 (fun _ => .bool false) n)).heap.size := fun hs => by have := Hlt.out _ hs; omega
      refine ⟨H1.below b5, DQ.start 20 40, ⟨h2, hs2⟩, ⟨(b5.block _ l1).trans hz, hs1⟩, by omega, by omega, by omega, by omega, by omega, by omega, by omega, by omega, by omega, by omega, by omega⟩
    clear b4 h1 l1 b5 h2
    generalize ((W3.alloc (vlO 4 (fun _ => .bool false) n)).alloc (vlO 4 (fun _ => .bool false) n)) = W5 at *
    generalize (W3.alloc (vlO 4 (fun _ => .bool false) n)).heap.size = ks at *
    generalize W3.heap.size = kf at *
    repeat' (first
      | (refine wpRel_quiet (v := ?_) rfl rfl (fun _ _ _ h => h) (by rfl) ?_ ?_
         rotate_left
         · (intro w' hR; go_simp; try rfl)
         simp only [Act.put, List.setIfInBounds_toArray, List.set_cons_zero, List.set_cons_succ])
      | fail)
    refine wpRel_nil ?_
  all_goals
    clear H0 Hlt hN hB hl hfr
    have HX := hide hx
    have HM := hide hm
    have HH0 := hide hH
    clear hx hm hH
    go_wp2_with fail
    go_loopw [39] (fun v39 wr => ∃ k : Nat, k ≤ n ∧ v39 = .int .i64 (k : Int) ∧ TurnI w wr Z g gp gb gh gf ks kf n 0 0 0 (DS.new 20 40) (fun _ => zL 40) (onesL 1 n) (zL 1) (fun j => decide (j < k)) (fun _ => false)) (fun v39 _ => n - (intOf v39).toNat)
    case atStart => exact ⟨0, Nat.zero_le _, rfl, HH0.out.same (fun i _ => by simp) (fun _ _ => rfl)⟩
    case round =>
      clear HH0
      obtain ⟨k, hk, rfl, hI⟩ := hrel
      by_cases hkn : k < n
      · have zs := hI.zs k
        have cs := hI.cs k hkn
        have HI := hide (hI.setS k true (fun j => decide (j < k + 1)) (fun i _ => by
          by_cases h : i = k
          · rw [if_pos h, decide_eq_true (by omega)]
          · rw [if_neg h]
            exact decide_eq_decide.2 (by omega)))
        clear hI
        go_wp2_with fail
        go_roundw
        case rel => exact ⟨k + 1, by omega, by go_num, HI.out⟩
        case measure => simp [intOf]; omega
      · have hkc : ¬ (k : Int) < (n : Int) := by omega
        have HI0 := hide (hI.same (rs' := bitB (onesL 1 n)) (rf' := bitB (zL 1)) (fun i hi => by rw [bitB_ones HM.out i n (Nat.le_refl _)]; exact decide_eq_decide.2 (by omega)) (fun i _ => (bitB_zL 1 i).symm))
        clear hI
        go_wp2_with fail
        clear hk hkn hkc
        go_loopw [10] (fun v10 wr => ∃ (i sq t wl : Nat) (Z1 : Own) (D : DS) (T : Nat → List Int) (hs fs : List Int), i ≤ 40 ∧ sq ≤ i ∧ t ≤ 2 * i ∧ wl ≤ i ∧ v10 = .int .i64 (i : Int) ∧ TurnI w wr Z1 g gp gb gh gf ks kf n sq t wl D T hs fs (bitB hs) (bitB fs)) (fun v10 _ => 40 - (intOf v10).toNat)
        case atStart => exact ⟨0, 0, 0, 0, Z, _, _, _, _, by omega, by omega, by omega, by omega, rfl, HI0.out⟩
        case round =>
          clear HI0
          obtain ⟨i, sq, t, wl, Z1, D, T, hs, fs, hi40, hsq, ht, hwl, rfl, hI⟩ := hrel
          by_cases h1 : i < len ∧ i < 40
          · obtain ⟨h1, h2⟩ := h1
            have h2i : (i : Int) < 40 := by omega
            have hc : ∃ b off, a = some ⟨b, off, none⟩ ∧ ∀ i, i < len → w.cell? ⟨b, off + i, none⟩ = some (.int .i64 (xs.getD i 0)) := by
              rcases HX.out.place with h | h
              · omega
              · exact h
            obtain ⟨b, off, rfl, hc⟩ := hc
            have hcw := hc i h1
            have hz1 := (hI.bn.cl.bel.cell (World.block_lt_of_cell? w _ hcw)).trans hcw
            clear hc hcw
            generalize xs.getD i 0 = z at *
            obtain ⟨c, hc⟩ : ∃ c : Nat, bits .and .i64 z 255 = (c : Int) := ⟨(z % 256).toNat, by rw [i64_and255]; omega⟩
            obtain ⟨p, hpe⟩ : ∃ p : Nat, p = c % n := ⟨_, rfl⟩
            have hp : (c : Int) % (n : Int) = (p : Int) := by rw [hpe]; omega
            have hpn : p < n := by rw [hpe]; exact Nat.mod_lt _ (by omega)
            clear hpe
            by_cases hd : z / 256 % 4 = 0
            · have hd3 := n_and3 (z / 256)
              rw [hd] at hd3
              clear hd
              have hCo := hide (bn_commit hI.bn)
              have HL := hide (hI.bn.bk.okf.len.trans hI.bn.bk.okh.len.symm)
              have HI := hide hI
              clear hI
              go_wp2_with fail
              refine hCo.out.mono ?_
              rintro e W6 ⟨rfl, H6, k6⟩
              have HJ := hide (HI.out.go k6 H6 HI.out.q)
              clear hCo HI k6 H6 hz1 hc hp hpn hd3
              go_wp2_with fail
              go_loopw [74] (fun v74 wr2 => ∃ k : Nat, k ≤ n ∧ v74 = .int .i64 (k : Int) ∧ TurnI w wr2 Z1 g gp gb gh gf ks kf n sq t wl D T (xorZ hs fs) (zL 1) (fun j => if j < k then bitB hs j != bitB fs j else bitB hs j) (fun j => if j < k then false else bitB fs j)) (fun v74 _ => n - (intOf v74).toNat)
              case atStart => exact ⟨0, Nat.zero_le _, rfl, HJ.out.same (fun i _ => by simp) (fun i _ => by simp)⟩
              case round =>
                clear HJ
                obtain ⟨k, hk, rfl, hI⟩ := hrel
                by_cases hkn : k < n
                · have zs := hI.zs k
                  have cs := hI.cs k hkn
                  have cf := hI.cf k hkn
                  simp only [if_neg (Nat.lt_irrefl k)] at cs cf
                  have hS := hI.setS k (!(bitB hs k == bitB fs k)) (fun j => if j < k + 1 then bitB hs j != bitB fs j else bitB hs j) (fun i _ => by
                    by_cases h : i = k
                    · subst h
                      rw [if_pos rfl, if_pos (Nat.lt_succ_self _)]
                      rfl
                    · rw [if_neg h]
                      by_cases h2 : i < k
                      · rw [if_pos h2, if_pos (by omega)]
                      · rw [if_neg h2, if_neg (by omega)])
                  have hS2 := hS.below (Below.refl _ _).drew
                  have HF := hide (hS2.setF k false (fun j => if j < k + 1 then false else bitB fs j) (fun i _ => by
                    by_cases h : i = k
                    · subst h
                      rw [if_pos rfl, if_pos (Nat.lt_succ_self _)]
                    · rw [if_neg h]
                      by_cases h2 : i < k
                      · rw [if_pos h2, if_pos (by omega)]
                      · rw [if_neg h2, if_neg (by omega)]))
                  have zf := hS2.zf k
                  have cf2 := hS2.cf k hkn
                  simp only [if_neg (Nat.lt_irrefl k)] at cf2
                  clear hI hS hS2
                  generalize bitB hs k = x at *
                  generalize bitB fs k = y at *
                  go_wp2_with fail
                  go_region
                  go_wp2_with fail
                  go_roundw
                  case rel => exact ⟨k + 1, by omega, by go_num, HF.out⟩
                  case measure => simp [intOf]; omega
                · have hkc : ¬ (k : Int) < (n : Int) := by omega
                  have HI := hide (hI.same (rs' := bitB (xorZ hs fs)) (rf' := bitB (zL 1)) (fun i hi => by rw [if_pos (by omega), bitB_xor HL.out]) (fun i hi => by rw [if_pos (by omega), bitB_zL]))
                  clear hI
                  go_wp2_with fail
                  go_roundw
                  case rel => exact ⟨i + 1, sq, t, wl, Z1, D, T, _, _, by omega, by omega, by omega, by omega, by go_num, HI.out⟩
                  case measure => simp [intOf]; omega
            · have hd3 := n_and3 (z / 256)
              have hdb : (z / 256 % 4 == 0) = false := by rw [beq_eq_false_iff_ne]; exact hd
              clear hd
              have hq1 := hide hI.q
              have hT1 := hide (hI.bn.cl.trace (by rw [hq1.out.len]; omega) t 40 hI.q.len hI.q.size)
              go_wp2_with fail
              simp only [hp]
              refine hT1.out.mono ?_
              rintro e W6 ⟨rfl, -, -, b6⟩
              replace hI := hI.below b6
              clear hT1 b6 hz1 hc hp hd3 hdb
              have hwi : IntKind.u8.wrap (i : Int) = (i : Int) := by
                have : IntKind.u8.wrap (i : Int) = (i : Int) % 256 := by simp [IntKind.wrap, IntKind.bits, IntKind.signed]
                omega
              have hib : IsBytes [(i : Int)] := fun y hy => by
                rw [List.mem_singleton] at hy
                omega
              have hL : Bs (W6.alloc (Obj.cells #[Value.int IntKind.u8 (i : Int)] 5)) (some ⟨W6.heap.size, 0, none⟩) 1 1 [(i : Int)] := Bs.lit rfl rfl hib rfl (by omega)
              have b7 := below_alloc (Below.refl W6.heap.size W6) (Obj.cells #[Value.int IntKind.u8 (i : Int)] 5)
              replace hI := hI.below b7
              clear b7
              go_wp2_with fail
              generalize (W6.alloc (Obj.cells #[Value.int IntKind.u8 (i : Int)] 5)) = W7 at *
              obtain ⟨j, hj⟩ : ∃ j, bN 2 p (!bitB hs p) = j := ⟨_, rfl⟩
              have hjn : j < 20 := by
                rw [← hj]
                unfold bN
                cases bitB hs p <;> simp <;> omega
              have hA := hide (bn_write hI.bn hI.q hq (by omega) (by omega) (by omega) p hpn j hj hjn hL 18 rfl (by omega))
              clear hL
              refine hA.out.mono ?_
              rintro e W8 ⟨Z8, D8, rfl, H8, q8, k8, ev8, e8k, e8a, e8t⟩
              have hI8 := hI.go k8 H8 q8
              have hDl := hI.q.len
              have hfl : p / 8 < fs.length := by have := hI.bn.bk.fl; omega
              obtain ⟨r1, r2, -, -⟩ := open_is keyT 1 (sq : Int) [(i : Int)] 18 (by omega) (by omega) hib (by simp) (by omega)
              have hj2 : bN 2 p (bitB hs p != bitB (setB fs p) p) = j := by
                rw [← hj, bitB_set hfl, decide_eq_true rfl]
                cases bitB hs p <;> rfl
              have hR := hide (bn_read H8 q8 hq (by omega) p hpn j hj2 hjn [(i : Int)] true (by rw [updT_same]; exact r1) (by rw [updT_same]; exact r2))
              have hl8 := hI8.rf.lt
              have HI8 := hide hI8
              clear hA hI k8 q8 H8 r1 r2 hj2 hI8
              go_wp2_with fail
              refine hR.out.mono ?_
              rintro e W9 ⟨Z9, p9, c9, D9, rfl, B9, H9, q9, k9, ⟨ev9, e9k, e9a, e9t⟩, n9⟩
              have hI9 := HI8.out.go k9 H9 q9
              have hSi := hide (since_new H9.cl t 2 q9.len (by omega) [ev8, ev9] (by rw [e9t, e8t, List.append_assoc, List.drop_left' hDl]; rfl))
              have hl9 := hI9.rf.lt
              clear hR HI8 k9 q9 H9 e9t e8t hDl
              go_wp2_with fail
              refine hSi.out.mono ?_
              rintro e W10 ⟨a10, rfl, F10, C10, b10, n10⟩
              have hI10 := hI9.below b10
              have B10 := B9.step (Step.of_below _ b10)
              clear hSi hI9 B9 C10 b10
              obtain ⟨te, o, rfl, hte, c1, c2⟩ := F10.ev 0 _ rfl
              obtain ⟨te', o', e2, -, c3, c4⟩ := F10.ev 1 _ rfl
              cases e2
              clear F10
              have hne1 : te ≠ kf := by
                have : W9.heap.size ≤ te := n10 _ rfl
                omega
              obtain ⟨bb, oo, rfl, hcx⟩ : ∃ bb oo, p9 = some ⟨bb, oo, none⟩ ∧ W10.cell? ⟨bb, oo, none⟩ = some (.int .u8 (i : Int)) := by
                rcases B10.bs.place with h | ⟨bb, oo, h, hc⟩
                · have := B10.bs.le_cap
                  simp at this
                  omega
                · exact ⟨bb, oo, h, by have := hc 0 (by simp); simpa using this⟩
              have hne2 : bb ≠ kf := by
                have : W8.heap.size ≤ bb := n9 _ rfl
                omega
              have hxc := B10.bs.le_cap
              clear B10 n9 n10 hl8 hl9
              rw [e8k] at c1
              rw [e8a] at c2
              rw [e9k] at c3
              rw [e9a] at c4
              have cs := hI10.cs p hpn
              have zf := hI10.zf p
              have cf := hI10.cf p hpn
              have on := OnlyAt.setC kf p W10 (.bool true)
              have d1 := (World.cell?_of_block (w := W10) (a := ⟨te, o + 0 * 15, none⟩) (on.block te hne1)).trans c1
              have d2 := (World.cell?_of_block (w := W10) (a := ⟨te, o + 0 * 15 + 1, none⟩) (on.block te hne1)).trans c2
              have d3 := (World.cell?_of_block (w := W10) (a := ⟨te, o + 1 * 15, none⟩) (on.block te hne1)).trans c3
              have d4 := (World.cell?_of_block (w := W10) (a := ⟨te, o + 1 * 15 + 1, none⟩) (on.block te hne1)).trans c4
              have d5 := (World.cell?_of_block (w := W10) (a := ⟨bb, oo, none⟩) (on.block bb hne2)).trans hcx
              simp only [Nat.zero_mul, Nat.one_mul, Nat.add_zero] at d1 d2 d3 d4
              have HI := hide (hI10.setF p true (bitB (setB fs p)) (fun i _ => by
                rw [bitB_set hfl]
                by_cases h : i = p
                · rw [if_pos h, decide_eq_true h]; rfl
                · rw [if_neg h, decide_eq_false h]; rfl))
              clear hI10 on c1 c2 c3 c4 hcx hne1 hne2 e8k e8a e9k e9a hfl hjn hib
              cases hbx : bitB hs p with
              | true =>
                have hJ : (j : Int) = 2 + 2 * (p : Int) := by rw [← hj, hbx]; unfold bN; simp
                rw [hJ] at d2 d4
                rw [hbx] at cs
                clear hj hJ hbx
                go_wp2_with fail
                go_roundw
                case rel => exact ⟨i + 1, sq + 1, t + 1 + 1, wl + 1, _, _, _, _, _, by omega, by omega, by omega, by omega, by go_num, HI.out⟩
                case measure => simp [intOf]; omega
              | false =>
                have hJ : (j : Int) = 2 + 2 * (p : Int) + 1 := by rw [← hj, hbx]; unfold bN; simp
                rw [hJ] at d2 d4
                rw [hbx] at cs
                clear hj hJ hbx
                go_wp2_with fail
                go_roundw
                case rel => exact ⟨i + 1, sq + 1, t + 1 + 1, wl + 1, _, _, _, _, _, by omega, by omega, by omega, by omega, by go_num, HI.out⟩
                case measure => simp [intOf]; omega
          · have hbel := hI.bn.cl.bel
            clear hI
            by_cases h1b : i < len
            · have h2b : ¬ (i : Int) < 40 := by omega
              go_wp2_with fail
              refine (awake_any _ (hq.below hbel hq.lt)).mono ?_
              rintro e W9 ⟨rfl, b9⟩
              have hb9 := hbel.trans (b9.mono hbel.size)
              clear b9
              go_wp2_with fail
              go_ret
              exact ⟨rfl, hb9⟩
            · have h1c : ¬ (i : Int) < (len : Int) := by omega
              go_wp2_with fail
              refine (awake_any _ (hq.below hbel hq.lt)).mono ?_
              rintro e W9 ⟨rfl, b9⟩
              have hb9 := hbel.trans (b9.mono hbel.size)
              clear b9
              go_wp2_with fail
              go_ret
              exact ⟨rfl, hb9⟩
#print axioms bankTurns_walk
end Go.Proofs.YtlfcejfpdgdnkaaDoor
