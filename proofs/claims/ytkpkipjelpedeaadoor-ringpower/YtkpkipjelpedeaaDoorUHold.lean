
/- Which epoch a device holds, commit by commit, however the power goes and whatever is kept, lost or garbled: facts about devices alone. No conditions but those that each line states. -/
import Derived.Test.YtkpkipjelpedeaaDoorXSupr
import Derived.Test.YtkpkipjelpedeaaDoorXFair
namespace Go.Proofs.YtkpkipjelpedeaaDoor
open Go.RowKit
set_option maxRecDepth 20000

/-- Nothing waits, none is lost; the epoch held stands in its own place, in the other one none that is greater. -/
structure Holds (key : List Int) (D : DS) (held : Int) : Prop where
  size : D.size = 40
  n : D.n = 4
  wait : D.wait = []
  same : ∀ j, (D.blk j).1.zs = (D.blk j).2.zs
  nn : 0 ≤ held
  mine : ∀ k : Nat, held % 2 = (k : Int) → tellB key (D.at_ (1 + k)) k = true ∧ tellV key (D.at_ (1 + k)) k = held
  other : ∀ k : Nat, k < 2 → ¬ held % 2 = (k : Int) → tellV key (D.at_ (1 + k)) k ≤ held
theorem Holds.last {key : List Int} {D : DS} {held : Int} (h : Holds key D held) : ∃ V0 V1 B0 B1, tellV key (D.at_ 1) 0 = V0 ∧ tellB key (D.at_ 1) 0 = B0 ∧ tellV key (D.at_ 2) 1 = V1 ∧ tellB key (D.at_ 2) 1 = B1 ∧ max V0 V1 = held ∧ (B0 || B1) = true := by
  refine ⟨_, _, _, _, rfl, rfl, rfl, rfl, ?_, ?_⟩
  · rcases (show held % 2 = 0 ∨ held % 2 = 1 by omega) with hp | hp
    · have h1 : tellV key (D.at_ 1) 0 = held := (h.mine 0 hp).2
      have h2 : tellV key (D.at_ 2) 1 ≤ held := h.other 1 (by omega) (by omega)
      omega
    · have h1 : tellV key (D.at_ 2) 1 = held := (h.mine 1 hp).2
      have h2 : tellV key (D.at_ 1) 0 ≤ held := h.other 0 (by omega) (by omega)
      omega
  · rcases (show held % 2 = 0 ∨ held % 2 = 1 by omega) with hp | hp
    · have h1 : tellB key (D.at_ 1) 0 = true := (h.mine 0 hp).1
      rw [h1, Bool.true_or]
    · have h1 : tellB key (D.at_ 2) 1 = true := (h.mine 1 hp).1
      rw [h1, Bool.or_true]
theorem Holds.next {key : List Int} {D D2 : DS} {held : Int} {k : Nat} (h : Holds key D held) (hk : (held + 1) % 2 = (k : Int)) (hk2 : k < 2) (hlim : held < 18446744073709551615) (hs : D2.size = 40) (hn : D2.n = 4) (hw : D2.wait = []) (hsame : ∀ j, (D2.blk j).1.zs = (D2.blk j).2.zs)
    (ho : ∀ i, i ≠ 1 + k → D2.at_ i = D.at_ i) :
    ((∃ bt sq, (0 ≤ bt ∧ bt < 4294967296) ∧ (0 ≤ sq ∧ sq < 18446744073709551616) ∧ D2.at_ (1 + k) = sealL key bt sq (epoL (held + 1)) 18) → Holds key D2 (held + 1)) ∧
    ((D2.at_ (1 + k) = D.at_ (1 + k) ∨ openB key (D2.at_ (1 + k)) = false) → Holds key D2 held) := by
  have hnn := h.nn
  constructor
  · rintro ⟨bt, sq, hb, hsq, he⟩
    refine ⟨hs, hn, hw, hsame, by omega, fun i hi => ?_, fun i hi hne => ?_⟩
    · obtain rfl : i = k := by omega
      have := tell_epoch (key := key) (boot := bt) (seq := sq) (n := held + 1) (m := 18) hb hsq (by omega) (by omega) (by omega)
      rw [hk] at this
      rw [he]
      exact this
    · rw [ho (1 + i) (by omega), (h.mine i (by omega)).2]
      omega
  · intro hc
    refine ⟨hs, hn, hw, hsame, hnn, fun i hi => ?_, fun i hi hne => ?_⟩
    · rw [ho (1 + i) (by omega)]
      exact h.mine i hi
    · obtain rfl : i = k := by omega
      rcases hc with hc | hc
      · rw [hc]
        exact h.other i hi hne
      · rw [tellV_no (tell_closed _ hc)]
        exact hnn

/-! ### Devices -/
theorem zOf_one {b : Nat → BV × BV} {f : Nat → List Int × List Int} (h : zOf b = f) (j : Nat) : (b j).1.zs = (f j).1 := congrArg Prod.fst (congrFun h j)
theorem zOf_two {b : Nat → BV × BV} {f : Nat → List Int × List Int} (h : zOf b = f) (j : Nat) : (b j).2.zs = (f j).2 := congrArg Prod.snd (congrFun h j)
theorem done_blk {D : DS} (hw : D.wait = []) (j i : Nat) (x : BV) (hj : j < D.n) : (D.done (j : Int) x).blk i = if i = j then (x, x) else D.blk i := by
  show flushN (D.puts (j : Int) x).blk (D.puts (j : Int) x).wait i = _
  rw [puts_wait_in D j x hj, hw]
  unfold DS.puts
  rw [if_pos (hasI_nat hj), Int.toNat_natCast]
  show updF (updW D.blk j x) j x i = _
  unfold updF updW
  by_cases h : i = j
  · simp [h]
  · simp [h]
theorem puts_blk {D : DS} (j : Nat) (x : BV) (hj : j < D.n) : zOf (D.puts (j : Int) x).blk = fun i => if i = j then (x.zs, (D.blk j).2.zs) else zOf D.blk i := by
  unfold DS.puts
  rw [if_pos (hasI_nat hj), Int.toNat_natCast]
  funext i
  show ((updW D.blk j x i).1.zs, (updW D.blk j x i).2.zs) = _
  unfold updW zOf
  by_cases h : i = j
  · subst h; simp
  · simp [h]
/-- A new device, and one epoch committed. -/
theorem Holds.start {key : List Int} (x : BV) (n bt sq : Int) (k : Nat) (hk : n % 2 = (k : Int)) (hk2 : k < 2) (hn : 0 ≤ n ∧ n < 18446744073709551616) (hb : 0 ≤ bt ∧ bt < 4294967296) (hsq : 0 ≤ sq ∧ sq < 18446744073709551616) (hx : x.zs = sealL key bt sq (epoL n) 18) (hB : openB key (zL 40) = false) :
    Holds key ((DS.new 4 40).done ((1 + k : Nat) : Int) x) n := by
  have hj : 1 + k < (DS.new 4 40).n := by show 1 + k < 4; omega
  have ha : ∀ i, ((DS.new 4 40).done ((1 + k : Nat) : Int) x).at_ i = if i = 1 + k then sealL key bt sq (epoL n) 18 else zL 40 := fun i => by
    rw [done_at _ _ _ _ hj, hx, new_at, show (DS.new 4 40).size = 18 + 22 from rfl, fitL_sealL _ _ _ _ _ _ (by rw [epoL_length]; omega) rfl]
  obtain ⟨f1, f2, f3, f4⟩ := done_is (DS.new 4 40) ((1 + k : Nat) : Int) x
  refine ⟨f1, f2, f4, fun j => ?_, hn.1, fun i hi => ?_, fun i hi hne => ?_⟩
  · rw [done_blk rfl (1 + k) j x hj]
    split <;> rfl
  · obtain rfl : i = k := by omega
    rw [ha, if_pos rfl, ← hi]
    exact tell_epoch hb hsq hn (by omega) (by omega)
  · rw [ha, if_neg (by omega), tellV_no (tell_closed _ hB)]
    exact hn.1

/-! ### What was done -/
theorem fairF_quiet {key : List Int} {n size : Nat} {ch : List Int} {l : List Ev} (h : ∀ e ∈ l, ¬ e.kind = 2) : fairF key n size ch l = [] := by
  have : ∀ (l : List Ev) (o : List Int), (∀ e ∈ l, ¬ e.kind = 2) → l.foldl (fun o e => if writesAt n e = true then o ++ [fairC key (fitL size e.body.zs) (chL ch o.length)] else o) o = o := by
    intro l
    induction l with
    | nil => intro o _; rfl
    | cons e l ih =>
      intro o h
      have h1 : writesAt n e = false := by
        unfold writesAt
        have := h e List.mem_cons_self
        simp [this]
      rw [List.foldl_cons, h1, if_neg (by decide)]
      exact ih o fun e he => h e (List.mem_cons_of_mem _ he)
  exact this l [] h
/-- No write was done since the last flush or crash. -/
def Quiet (D : DS) : Prop := ∀ e ∈ behindL D.tr, ¬ e.kind = 2
theorem Quiet.fair {D : DS} (h : Quiet D) (key ch : List Int) : fairL key D ch = [] := fairF_quiet h
theorem quiet_done (D : DS) (i : Int) (x : BV) : Quiet (D.done i x) := by
  unfold Quiet
  rw [done_tr, show [(⟨2, i, x.zs, x⟩ : Ev), ⟨3, 0, [], BV.nil⟩] = [⟨2, i, x.zs, x⟩] ++ [⟨3, 0, [], BV.nil⟩] from rfl, ← List.append_assoc, behindL_snoc, if_pos (by decide)]
  intro e he
  cases he
theorem quiet_crash (D : DS) (b : Nat → BV × BV) : Quiet (D.crash b) := by
  unfold Quiet
  show ∀ e ∈ behindL (D.tr ++ [⟨4, 0, [], BV.nil⟩]), _
  rw [behindL_snoc, if_pos (by decide)]
  intro e he
  cases he
theorem Quiet.asks {D : DS} (h : Quiet D) (i : Int) : Quiet (D.asks i) := by
  obtain ⟨e0, hk, htr⟩ := asks_tr D i
  unfold Quiet
  rw [htr, behindL_snoc, if_neg (by unfold isEnd; rw [hk]; decide)]
  intro e he
  rcases List.mem_append.1 he with he | he
  · exact h e he
  · rw [List.mem_singleton] at he
    subst he
    rw [hk]
    decide
theorem Quiet.scan {D : DS} (h : Quiet D) (i : Int) : Quiet (D.scan i) := (h.asks i).asks (i + 1)
theorem Quiet.puts {D : DS} (h : Quiet D) (key ch : List Int) (j : Nat) (x : BV) (hj : j < D.n) : fairL key (D.puts (j : Int) x) ch = [fairC key (fitL D.size x.zs) (chL ch 0)] := by
  unfold fairL
  obtain ⟨h1, h2, -⟩ := puts_is D (j : Int) x
  have he : isEnd (⟨2, (j : Int), x.zs, x⟩ : Ev) = false := rfl
  have hw : writesAt D.n (⟨2, (j : Int), x.zs, x⟩ : Ev) = true := by
    show ((2 : Int) == 2 && hasI D.n (j : Int)) = true
    rw [hasI_nat hj]
    rfl
  rw [h1, h2, puts_tr, behindL_snoc, he, if_neg (by decide), fairF_snoc, hw, if_pos rfl, fairF_quiet h]
  rfl

/-! ### A commit, and a crash -/
/-- Committed. -/
theorem hold_ok {key : List Int} {D : DS} {held c bt sq : Int} {k : Nat} {x : BV} {b : Nat → BV × BV} {ch : List Int} (h : Holds key D held) (hk : (held + 1) % 2 = (k : Int)) (hk2 : k < 2) (hlim : held < 18446744073709551615) (hb : 0 ≤ bt ∧ bt < 4294967296) (hsq : 0 ≤ sq ∧ sq < 18446744073709551616)
    (hx : x.zs = sealL key bt sq (epoL (held + 1)) 18)
    (hz : zOf b = crashN (DS.done { D with left := c } ((1 + k : Nat) : Int) x).size ch (zOf (DS.done { D with left := c } ((1 + k : Nat) : Int) x).blk) (wz (DS.done { D with left := c } ((1 + k : Nat) : Int) x).wait)) :
    Holds key ((DS.done { D with left := c } ((1 + k : Nat) : Int) x).crash b) (held + 1) := by
  have hw : ({ D with left := c } : DS).wait = [] := h.wait
  have hn := h.n
  have hj : 1 + k < ({ D with left := c } : DS).n := by show 1 + k < D.n; omega
  have e := fun i => done_blk hw (1 + k) i x hj
  obtain ⟨f1, f2, f3, f4⟩ := done_is { D with left := c } ((1 + k : Nat) : Int) x
  rw [f4] at hz
  have g1 : ∀ i, (b i).1.zs = ((if i = 1 + k then (x, x) else D.blk i) : BV × BV).1.zs := fun i => by
    rw [zOf_one hz i, ← e i]; rfl
  have g2 : ∀ i, (b i).2.zs = ((if i = 1 + k then (x, x) else D.blk i) : BV × BV).2.zs := fun i => by
    rw [zOf_two hz i, ← e i]; rfl
  have hs : (DS.done { D with left := c } ((1 + k : Nat) : Int) x).size = 40 := f1.trans h.size
  refine (Holds.next (D2 := (DS.done { D with left := c } ((1 + k : Nat) : Int) x).crash b) h hk hk2 hlim hs (f2.trans hn) rfl (fun j => ?_) (fun i hi => ?_)).1 ⟨bt, sq, hb, hsq, ?_⟩
  · show (b j).1.zs = (b j).2.zs
    rw [g1, g2]
    split
    · rfl
    · exact h.same j
  · show fitL _ (b i).1.zs = fitL D.size (D.blk i).1.zs
    rw [g1, if_neg hi]
    show fitL (DS.done { D with left := c } ((1 + k : Nat) : Int) x).size _ = _
    rw [hs, h.size]
  · show fitL (DS.done { D with left := c } ((1 + k : Nat) : Int) x).size (b (1 + k)).1.zs = _
    rw [hs, g1, if_pos rfl, hx]
    exact fitL_sealL _ _ _ _ _ _ (by rw [epoL_length]; omega) rfl
/-- What is left where the power ended it. -/
def Broken (key : List Int) (D : DS) (held bt sq : Int) (k : Nat) (D' : DS) : Prop := D' = D ∨ ∃ x : BV, x.zs = sealL key bt sq (epoL (held + 1)) 18 ∧ D' = D.puts ((1 + k : Nat) : Int) x
theorem Broken.len {key : List Int} {D D' : DS} {held bt sq : Int} {k : Nat} (h : Broken key D held bt sq k D') : D'.tr.length ≤ D.tr.length + 1 := by
  rcases h with rfl | ⟨x, -, rfl⟩
  · omega
  · rw [puts_len]; omega
theorem Broken.size {key : List Int} {D D' : DS} {held bt sq : Int} {k : Nat} (h : Broken key D held bt sq k D') : D'.size = D.size := by
  rcases h with rfl | ⟨x, -, rfl⟩
  · rfl
  · exact (puts_is _ _ _).1
/-- Ended by the power, and then a fair crash. -/
theorem hold_cut {key : List Int} {D D1 : DS} {held c bt sq : Int} {k : Nat} {b : Nat → BV × BV} {ch : List Int} (h : Holds key D held) (hq : Quiet D) (hk : (held + 1) % 2 = (k : Int)) (hk2 : k < 2) (hlim : held < 18446744073709551615) (hb : 0 ≤ bt ∧ bt < 4294967296) (hsq : 0 ≤ sq ∧ sq < 18446744073709551616)
    (hB : Broken key { D with left := c } held bt sq k D1) (hz : zOf b = crashN D1.size (fairL key D1 ch) (zOf D1.blk) (wz D1.wait)) :
    ∃ h', (h' = held ∨ h' = held + 1) ∧ Holds key (D1.crash b) h' := by
  have hn := h.n
  rcases hB with rfl | ⟨x, hx, rfl⟩
  · have hw : wz ({ D with left := c } : DS).wait = [] := by
      show wz D.wait = []
      rw [h.wait]; rfl
    rw [hw] at hz
    have g1 : ∀ i, (b i).1.zs = (D.blk i).1.zs := fun i => zOf_one hz i
    have g2 : ∀ i, (b i).2.zs = (D.blk i).2.zs := fun i => zOf_two hz i
    refine ⟨held, .inl rfl, (Holds.next (D2 := DS.crash { D with left := c } b) h hk hk2 hlim h.size hn rfl (fun j => ?_) (fun i hi => ?_)).2 (.inl ?_)⟩
    · show (b j).1.zs = (b j).2.zs
      rw [g1, g2]
      exact h.same j
    · show fitL D.size (b i).1.zs = fitL D.size (D.blk i).1.zs
      rw [g1]
    · show fitL D.size (b (1 + k)).1.zs = fitL D.size (D.blk (1 + k)).1.zs
      rw [g1]
  · have hj : 1 + k < ({ D with left := c } : DS).n := by show 1 + k < D.n; omega
    have hq' : Quiet ({ D with left := c } : DS) := hq
    obtain ⟨f1, f2, f3⟩ := puts_is { D with left := c } ((1 + k : Nat) : Int) x
    have hs : (DS.puts { D with left := c } ((1 + k : Nat) : Int) x).size = 40 := f1.trans h.size
    have hfit : fitL 40 x.zs = x.zs := by
      rw [hx]
      exact fitL_sealL _ _ _ _ _ _ (by rw [epoL_length]; omega) rfl
    have hw : wz (DS.puts { D with left := c } ((1 + k : Nat) : Int) x).wait = [(1 + k, x.zs)] := by
      rw [puts_wait_in _ _ _ hj]
      show wz (D.wait ++ _) = _
      rw [h.wait]; rfl
    have hf := hq'.puts key ch (1 + k) x hj
    have hfs : fitL ({ D with left := c } : DS).size x.zs = x.zs := by
      show fitL D.size x.zs = _
      rw [h.size]
      exact hfit
    rw [hfs] at hf
    rw [hw, hs, hf, puts_blk _ _ hj] at hz
    obtain ⟨C, hC⟩ : ∃ C, fairC key x.zs (chL ch 0) = C := ⟨_, rfl⟩
    have hcs := fairC_cases key x.zs (chL_cases ch 0)
    rw [hC] at hcs hz
    have hch : chL [C] 0 = C := by
      show C % 3 = C
      rcases hcs with h1 | h1 | h1 <;> omega
    have e : ∀ i, (crashN 40 [C] (fun i => if i = 1 + k then (x.zs, (D.blk (1 + k)).2.zs) else zOf D.blk i) [(1 + k, x.zs)]) i = if i = 1 + k then (pickZ 40 x.zs (D.blk (1 + k)).2.zs C, pickZ 40 x.zs (D.blk (1 + k)).2.zs C) else zOf D.blk i := fun i => by
      show (if i = 1 + k then (pickZ 40 x.zs ((if 1 + k = 1 + k then (x.zs, (D.blk (1 + k)).2.zs) else zOf D.blk (1 + k)) : List Int × List Int).2 (chL [C] 0), pickZ 40 x.zs ((if 1 + k = 1 + k then (x.zs, (D.blk (1 + k)).2.zs) else zOf D.blk (1 + k)) : List Int × List Int).2 (chL [C] 0)) else (if i = 1 + k then (x.zs, (D.blk (1 + k)).2.zs) else zOf D.blk i)) = _
      rw [hch]
      by_cases hi : i = 1 + k
      · simp [hi]
      · simp [hi]
    have g1 : ∀ i, (b i).1.zs = ((if i = 1 + k then (pickZ 40 x.zs (D.blk (1 + k)).2.zs C, pickZ 40 x.zs (D.blk (1 + k)).2.zs C) else zOf D.blk i) : List Int × List Int).1 := fun i => by rw [← e i]; exact zOf_one hz i
    have g2 : ∀ i, (b i).2.zs = ((if i = 1 + k then (pickZ 40 x.zs (D.blk (1 + k)).2.zs C, pickZ 40 x.zs (D.blk (1 + k)).2.zs C) else zOf D.blk i) : List Int × List Int).2 := fun i => by rw [← e i]; exact zOf_two hz i
    have key2 := Holds.next (D2 := (DS.puts { D with left := c } ((1 + k : Nat) : Int) x).crash b) h hk hk2 hlim hs (f2.trans hn) rfl (fun j => by
      show (b j).1.zs = (b j).2.zs
      rw [g1, g2]
      split
      · rfl
      · exact h.same j) (fun i hi => by
      show fitL (DS.puts { D with left := c } ((1 + k : Nat) : Int) x).size (b i).1.zs = fitL D.size (D.blk i).1.zs
      rw [g1, if_neg hi, hs, h.size]
      rfl)
    have hat : ((DS.puts { D with left := c } ((1 + k : Nat) : Int) x).crash b).at_ (1 + k) = fitL 40 (pickZ 40 x.zs (D.blk (1 + k)).2.zs C) := by
      show fitL (DS.puts { D with left := c } ((1 + k : Nat) : Int) x).size (b (1 + k)).1.zs = _
      rw [g1, if_pos rfl, hs]
    rcases hcs with rfl | rfl | ⟨rfl, ho⟩
    · refine ⟨held + 1, .inr rfl, key2.1 ⟨bt, sq, hb, hsq, ?_⟩⟩
      rw [hat]
      show fitL 40 x.zs = _
      rw [hfit, hx]
    · refine ⟨held, .inl rfl, key2.2 (.inl ?_)⟩
      rw [hat]
      show fitL 40 (D.blk (1 + k)).2.zs = fitL D.size (D.blk (1 + k)).1.zs
      rw [h.same, h.size]
    · refine ⟨held, .inl rfl, key2.2 (.inr ?_)⟩
      rw [hat]
      show openB key (fitL 40 (badL (fitL 40 x.zs))) = false
      rw [hfit, fitL_self _ _ (by rw [badL_length, hx, sealL_length _ _ _ _ _ (by rw [epoL_length]; omega)])]
      exact ho
/-- What was read turns nothing. -/
theorem Holds.still {key : List Int} {D : DS} {held : Int} (h : Holds key D held) (i : Int) : Holds key (D.scan i) held := by
  obtain ⟨f1, f2, f3, f4, f5⟩ := scan_is D i
  refine ⟨f1.trans h.size, f2.trans h.n, f4.trans h.wait, fun j => by rw [f5]; exact h.same j, h.nn, fun k hk => ?_, fun k hk hne => ?_⟩
  · rw [scan_at]; exact h.mine k hk
  · rw [scan_at]; exact h.other k hk hne
#print axioms hold_ok
#print axioms hold_cut
end Go.Proofs.YtkpkipjelpedeaaDoor
