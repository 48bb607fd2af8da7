/- What calls of dumbwaiterref1.Pad and Unpad do: for every slice of bytes that can be read, every number; nothing that was there is turned. -/
import Derived.Test.YthhaeiafgloacaaDoorRef1a
import Derived.Test.YthhaeiafgloacaaDoorLePad
import Derived.Test.YthhaeiafgloacaaDoorLeUnpad
namespace Go.Proofs.YthhaeiafgloacaaDoor
open Go.RowKit

def lenV : Value → Nat
  | .slice _ n _ => n
  | _ => 0

theorem pad_grow (zs : List Int) (k : Nat) : putL (zs.length : Int) 2 ++ zs ++ List.replicate (k + 1) 0 = putL (zs.length : Int) 2 ++ zs ++ List.replicate k 0 ++ [0] := by
  rw [List.replicate_succ']
  simp only [List.append_assoc]

set_option maxHeartbeats 1000000 in
theorem rpad_ok {a : Option Addr} {len cap : Nat} {zs : List Int} (most : Nat) (w : World) (h : Bs w a len cap zs) (hl : len ≤ most) (hm : most ≤ 60000) :
    Calls Tryd.prog 26 #[.slice a len cap, .int .i64 most] w fun e w' => ∃ a' cap', e = .returned (.tuple #[.slice a' (2 + most) cap', .bool true]) ∧ OwnS 5 w.heap.size w' a' (2 + most) cap' (padL zs most) ∧ Below w.heap.size w w' := by
  have hz := h.length
  go_enter Tryd.func26, Tryd.ntmps26
  go_wp2_with fail
  refine (rput_ok (len : Int) 2 w (by omega) (by omega)).mono ?_
  rintro e w1 ⟨a1, c1, rfl, ho1, hb1⟩
  obtain ⟨a2, c2, w2, hr2, ho2, hg2, _⟩ := run_append_bytes (P := Tryd.prog) Tryd.underlying25 Tryd.info_u8 25 w.heap.size w1 a1 2 c1 _ ho1 a len cap zs (h.below hb1) (by omega) hb1.size
  have hb2 : Below w.heap.size w w2 := hb1.grown hg2 hb1.size (fun k hk => (ho1.2.2.lt k hk).1)
  clear ho1 hg2 hb1
  go_wp2_with (at_builtin; refine wpList_append_run (by rfl) (.tmp 22) (.tmp 23) 25 (by rfl) _ _ _ _ (by rfl) (by rfl) hr2 ?_)
  clear hr2
  go_loopw [6] (fun v wr => ∃ (k : Nat) (a : Option Addr) (cap : Nat), k ≤ most - len ∧ v = .slice a (2 + len + k) cap ∧ OwnS 5 w.heap.size wr a (2 + len + k) cap (putL (zs.length : Int) 2 ++ zs ++ List.replicate k 0) ∧ Below w.heap.size w wr) (fun v _ => 2 + most - lenV v)
  case atStart => exact ⟨0, a2, c2, Nat.zero_le _, rfl, by rw [hz]; simpa using ho2, hb2⟩
  case round =>
    obtain ⟨k, a3, c3, hk, rfl, hown, hbel⟩ := hrel
    by_cases hlt : k < most - len
    · obtain ⟨a4, c4, w4, hr4, ho4, hb4, _⟩ := run_append_one (P := Tryd.prog) Tryd.underlying25 Tryd.info_u8 25 w.heap.size w wr a3 (2 + len + k) c3 _ 0 hown (by omega) (by omega) hbel.size hbel
      rw [← pad_grow] at ho4
      clear hown hbel
      go_wp2_with (at_builtin; refine wpList_append_run (by rfl) (.tmp 30) (.tmp 31) 25 (by rfl) _ _ _ _ (by rfl) (by rfl) hr4 ?_)
      go_roundw
      case rel => exact ⟨k + 1, a4, c4, by omega, rfl, ho4, hb4⟩
      case measure => simp [lenV]; omega
    · obtain rfl : k = most - len := by omega
      have hpe : putL (zs.length : Int) 2 ++ zs ++ List.replicate (most - len) 0 = padL zs most := by
        unfold padL; rw [List.append_assoc, hz]
      rw [hpe, show 2 + len + (most - len) = 2 + most by omega] at hown
      have e2 : 2 + len + (most - len) = 2 + most := by omega
      rw [e2]
      go_wp2
      go_ret2
      exact ⟨a3, c3, rfl, hown, hbel⟩

theorem rpad_bad {a : Option Addr} {len cap : Nat} (most : Int) (w : World) (h : most < 0 ∨ 60000 < most ∨ most < len) (_hl : len ≤ 9223372036854775807) :
    Calls Tryd.prog 26 #[.slice a len cap, .int .i64 most] w fun e w' => e = .returned (.tuple #[.slice none 0 0, .bool false]) ∧ w = w' := by
  by_cases h1 : most < 0
  · go_enter Tryd.func26, Tryd.ntmps26
    go_wp2
    go_ret2
    exact ⟨rfl, rfl⟩
  · have h1' : decide (most < 0) = false := by simpa using h1
    by_cases h2 : 60000 < most
    · go_enter Tryd.func26, Tryd.ntmps26
      go_wp2
      go_ret2
      exact ⟨rfl, rfl⟩
    · have h2' : decide (60000 < most) = false := by simpa using h2
      have h3 : most < len := by omega
      go_enter Tryd.func26, Tryd.ntmps26
      go_wp2
      go_ret2
      exact ⟨rfl, rfl⟩

theorem runpad_len {a : Option Addr} {len cap : Nat} (most : Int) (w : World) (h : most < 0 ∨ 60000 < most ∨ (len : Int) ≠ 2 + most) (_hl : len ≤ 9223372036854775807) :
    Calls Tryd.prog 17 #[.slice a len cap, .int .i64 most] w fun e w' => e = .returned (.tuple #[.slice none 0 0, .bool false]) ∧ w = w' := by
  by_cases h1 : most < 0
  · go_enter Tryd.func17, Tryd.ntmps17
    go_wp2
    go_ret2
    exact ⟨rfl, rfl⟩
  · have h1' : decide (most < 0) = false := by simpa using h1
    by_cases h2 : 60000 < most
    · go_enter Tryd.func17, Tryd.ntmps17
      go_wp2
      go_ret2
      exact ⟨rfl, rfl⟩
    · have h2' : decide (60000 < most) = false := by simpa using h2
      have h3 : ((len : Int) != most + 2) = true := by rw [bne_iff_ne]; omega
      go_enter Tryd.func17, Tryd.ntmps17
      go_wp2
      go_ret2
      exact ⟨rfl, rfl⟩

theorem cutMid2 (a : Option Addr) (len cap : Nat) (k k' : IntKind) (i j : Int) (l h m : Nat) (hi : i = l) (hj : j = h) (h1 : l ≤ h) (h2 : h ≤ cap) (hm : h - l = m) (w : World) : (Instr.slice 25 (.slice a len cap) (some (.int k i)) (some (.int k' j)) none).run Tryd.prog w = .ok (.slice (cutA a cap l) m (cap - l)) w := by
  subst hm
  exact run_cut_mid Tryd.underlying25 Tryd.size_u8 a len cap k k' i j l h hi hj h1 h2 w
theorem rget2 {a : Option Addr} {cap : Nat} {zs : List Int} (w : World) (h : Bs w a 2 cap zs) (n : Nat) (hn : leNum zs = n) :
    Calls Tryd.prog 18 #[.slice a 2 cap] w fun e w' => e = .returned (.int .u64 n) ∧ w = w' := by
  refine (rget_any w h).mono ?_
  rintro e w' ⟨rfl, rfl⟩
  rw [List.take_of_length_le (by rw [h.length]; omega), hn]
  exact ⟨rfl, rfl⟩

theorem drop2_getD (zs : List Int) (n k : Nat) : zs.getD (2 + n + k) 0 = ((zs.drop 2).drop n).getD k 0 := by
  simp [List.getD, List.getElem?_drop, Nat.add_assoc]

/-- How a call of Unpad ends. -/
def RUn (w : World) (zs : List Int) (most n : Nat) (e : Ending) (w' : World) : Prop := Below w.heap.size w w' ∧
      ((n ≤ most ∧ allZ ((zs.drop 2).drop n) = true ∧ ∃ a' cap', e = .returned (.tuple #[.slice a' n cap', .bool true]) ∧ OwnS 5 w.heap.size w' a' n cap' ((zs.drop 2).take n)) ∨
       (¬ (n ≤ most ∧ allZ ((zs.drop 2).drop n) = true) ∧ e = .returned (.tuple #[.slice none 0 0, .bool false])))

set_option maxHeartbeats 1000000 in
theorem runpad_in {a : Option Addr} {cap : Nat} {zs : List Int} (most : Nat) (w : World) (h : Bs w a (2 + most) cap zs) (hm : most ≤ 60000)
    (n : Nat) (hn : leNum (zs.take 2) = n) :
    Calls Tryd.prog 17 #[.slice a (2 + most) cap, .int .i64 most] w fun e w' => RUn w zs most n e w' := by
  have h1' : decide ((most : Int) < 0) = false := by simp
  have h2' : decide (60000 < (most : Int)) = false := by simp; omega
  have h3' : (2 + (most : Int) != (most : Int) + 2) = false := by rw [bne_eq_false_iff_eq]; omega
  have hc1 := h.le_cap
  have hc2 := h.cap_le
  have hzl := h.length
  have hn7 := leNum_lt (zs.take 2) (h.bytes.take 2)
  have hl2 : (zs.take 2).length = 2 := by simp; omega
  rw [hl2, hn] at hn7
  have hn6 : n < 65536 := by omega
  clear hl2 hn7
  have hs1 := cutTo h .i64 2 2 rfl (by omega)
  go_enter Tryd.func17, Tryd.ntmps17
  go_wp2_with fail
  refine (rget2 w (h.taken 2 (by omega)) n hn).mono ?_
  rintro e w' ⟨rfl, rfl⟩
  by_cases hle : n ≤ most
  · go_wp2_with fail
    go_loop [7] (fun i => ∃ k : Nat, k ≤ most - n ∧ i = .int .i64 ((2 + n + k : Nat) : Int) ∧ allZ (((zs.drop 2).drop n).take k) = true) (fun i => 2 + most - (intOf i).toNat)
    case atStart => exact ⟨0, Nat.zero_le _, by go_num, rfl⟩
    case round =>
      obtain ⟨k, hk, rfl, hall⟩ := hrel
      have hrl : ((zs.drop 2).drop n).length = most - n := by simp; omega
      by_cases hlt : k < most - n
      · rcases h.place with h0 | ⟨b, off, rfl, hc⟩
        · omega
        · have hcell := hc (2 + n + k) (by omega)
          clear hc
          rw [drop2_getD] at hcell
          by_cases hx : ((zs.drop 2).drop n).getD k 0 = 0
          · have HA : Hid (allZ (((zs.drop 2).drop n).take (k + 1)) = true) := allZ_step _ k (by omega) hall hx
            rw [hx] at hcell
            clear hx hall
            go_wp2
            go_round
            case rel => exact ⟨k + 1, by omega, by go_num, HA.out⟩
            case measure => simp [intOf]; omega
          · have HA : Hid (allZ ((zs.drop 2).drop n) = false) := allZ_stop _ k (by omega) hx
            have hx' : (((zs.drop 2).drop n).getD k 0 != 0) = true := by simpa using hx
            clear hx hall
            generalize ((zs.drop 2).drop n).getD k 0 = X at *
            go_wp2
            go_ret2
            exact ⟨Below.refl _ _, .inr ⟨by rw [HA.out]; simp, rfl⟩⟩
      · obtain rfl : k = most - n := by omega
        rw [List.take_of_length_le (by omega)] at hall
        have HA := hide hall
        have hs2 := cutMid2 a (2 + most) cap .i64 .i64 2 (2 + (n : Int)) 2 (2 + n) n rfl (by omega) (by omega) (by omega) (by omega)
        have hmid : Bs w (cutA a cap 2) n (cap - 2) ((zs.drop 2).take n) := (h.cut 2 (by omega)).taken n (by omega)
        obtain ⟨a4, c4, w4, hr4, ho4, hg4, _⟩ := run_append_bytes (P := Tryd.prog) Tryd.underlying25 Tryd.info_u8 25 w.heap.size (w.alloc (Obj.cells #[] 5)) (some ⟨w.heap.size, 0, none⟩) 0 0 [] (OwnB.owns (E := 5) (heap_alloc_new w (Obj.cells #[] 5)) IsBytes.nil rfl (by omega) (Nat.le_refl _)) _ n (cap - 2) _ (hmid.below ((Below.refl _ _).alloc (Nat.le_refl _) _)) (by omega) (by simp)
        have hb4 : Below w.heap.size w w4 := ((Below.refl _ _).alloc (Nat.le_refl _) _).grown hg4 (by simp) (by intro k hk; simp [Value.ownBlock] at hk; omega)
        rw [List.nil_append, Nat.zero_add] at ho4
        rw [Nat.zero_add] at hr4
        generalize cutA a cap 2 = r at *
        clear hg4 hmid hall
        go_wp2_with (at_builtin; refine wpList_append_run (by rfl) (.tmp 41) (.tmp 45) 25 (by rfl) _ _ _ _ (by rfl) (by rfl) hr4 ?_)
        go_ret2
        exact ⟨hb4, .inl ⟨hle, HA.out, a4, c4, rfl, ho4⟩⟩
  · go_wp2_with fail
    go_ret2
    exact ⟨Below.refl _ _, .inr ⟨fun h => hle h.1, rfl⟩⟩

theorem runpad_any {a : Option Addr} {len cap : Nat} {zs : List Int} (most : Int) (w : World) (h : Bs w a len cap zs) :
    Calls Tryd.prog 17 #[.slice a len cap, .int .i64 most] w fun e w' => Below w.heap.size w w' ∧
      ((∃ us a' cap', unpadL zs most = some us ∧ e = .returned (.tuple #[.slice a' us.length cap', .bool true]) ∧ OwnS 5 w.heap.size w' a' us.length cap' us) ∨
       (unpadL zs most = none ∧ e = .returned (.tuple #[.slice none 0 0, .bool false]))) := by
  have hl := h.length
  have hl63 : len ≤ 9223372036854775807 := Nat.le_trans h.le_cap h.cap_le
  by_cases hbad : most < 0 ∨ 60000 < most ∨ (len : Int) ≠ 2 + most
  · refine (runpad_len most w hbad hl63).mono ?_
    rintro e w' ⟨rfl, rfl⟩
    refine ⟨Below.refl _ _, .inr ⟨?_, rfl⟩⟩
    unfold unpadL
    rw [if_neg (by omega)]
  · obtain ⟨m, rfl⟩ := Int.eq_ofNat_of_zero_le (show 0 ≤ most by omega)
    have hlen : len = 2 + m := by omega
    have hm6 : m ≤ 60000 := by omega
    subst hlen
    have hb2 := leNum_lt7 (zs.take 2) (h.bytes.take 2) (by simp; omega)
    obtain ⟨n, hn⟩ := Int.eq_ofNat_of_zero_le hb2.1
    refine (runpad_in m w h hm6 n hn).mono ?_
    rintro e w' ⟨hb, ⟨hle, hz, a', cap', rfl, ho⟩ | ⟨hno, rfl⟩⟩
    · have hul : ((zs.drop 2).take n).length = n := by simp; omega
      refine ⟨hb, .inl ⟨(zs.drop 2).take n, a', cap', ?_, by rw [hul], by rw [hul]; exact ho⟩⟩
      unfold unpadL
      rw [hn, Int.toNat_natCast, if_pos ⟨by omega, by omega, by omega, by omega, hz⟩]
    · refine ⟨hb, .inr ⟨?_, rfl⟩⟩
      unfold unpadL
      rw [hn, Int.toNat_natCast, if_neg]
      rintro ⟨_, _, _, h4, h5⟩
      exact hno ⟨by omega, h5⟩
#print axioms rpad_ok
#print axioms runpad_any
end Go.Proofs.YthhaeiafgloacaaDoor
